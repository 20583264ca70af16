/-
  Values with their members sorted: the form that is written, and compared. No condition.
  Sorted values in order: by kind, by number, text, length, keys, and what they hold. No condition.
  What strings.Compare and cmp.Compare answer. No condition.
  What functions of the library answer at this program, laid by program out of the library. Conditions: each states its own.
  What slices.SortFunc leaves of a row of places, by whatever compares them. Conditions: at most 2^40 places.
  What value.members, value.byKeys, utf.Compare and value.sortedPlaces answer. Conditions: at most 2^40 places.
-/
import Derived.Test.YtjdboekanmfgpaaGreatDoorJoined16
import Derived.Test.YtjdboekanmfgpaaGreatDoorJoined3
import Derived.Shelf.Strings.Builder1
import Derived.Shelf.Strings.Trim
import Derived.Shelf.Small.Utf8
import Derived.Shelf.Small.Bits
import Derived.Shelf.Small.Strs
import Derived.Shelf.Small.Wraps
import Derived.Shelf.Strings.BuilderF
import Derived.Shelf.Strings.BuilderK
import Derived.Shelf.Strconv.Itoa0
import Derived.Shelf.Strconv.Itoa1
import Derived.Shelf.LaysM
import Derived.Shelf.Strconv.Itoa2
import Derived.Shelf.Strconv.Itoa3
import Derived.Shelf.Strconv.Clone
import Derived.Shelf.Strings.Search1
import Derived.Shelf.Strings.Prefix
import Derived.Ground.SlsfProg
import Derived.Shelf.SlSortCmp.Insertion
import Derived.Shelf.SlSortCmp.SiftDown1
import Derived.Shelf.SlSortCmp.HeapSort1
import Derived.Shelf.SlSortCmp.Insertion1
import Derived.Shelf.SlSortCmp.Median1
import Derived.Shelf.SlSortCmp.Pivot1
import Derived.Shelf.SlSortCmp.ReverseRange1
import Derived.Shelf.SlSortCmp.PartialInsertion1
import Derived.Shelf.SlSortCmp.PartitionEqual1
import Derived.Shelf.SlSortCmp.Partition1
import Derived.Shelf.SlSortCmp.Pdq1
import Derived.Shelf.SlSortCmp.Whole1
import Derived.Shelf.SlSortCmp.NoneTotal
import Derived.Shelf.SlGeneric
import Derived.Test.YtjdboekanmfgpaaGreatDoorProg
import Derived.Test.YtjdboekanmfgpaaGreatDoorJoined0
namespace Go.Proofs.YtjdboekanmfgpaaGreatDoor
open Go.Lib

mutual
/-- Sorted, down to the innermost. -/
def srt : JV → JV
 | .mk k n g e t l ks => if k = 6 then .mk k n g e t ((srtM (ks.zip (srtL l))).map (·.2)) ((srtM (ks.zip (srtL l))).map (·.1)) else .mk k n g e t (srtL l) []
def srtL : List JV → List JV
 | [] => []
 | v :: r => srt v :: srtL r
end
theorem srtL_map : ∀ l : List JV, srtL l = l.map srt
 | [] => by unfold srtL; rfl
 | v :: r => by unfold srtL; rw [srtL_map r]; rfl
theorem srtL_len (l : List JV) : (srtL l).length = l.length := by rw [srtL_map, List.length_map]
theorem ins_map (f : JV → JV) (x : Mem) : ∀ l : List Mem, (ins x l).map (fun m => (m.1, f m.2)) = ins (x.1, f x.2) (l.map fun m => (m.1, f m.2))
 | [] => rfl
 | y :: r => by
  show ((if kc y.1 x.1 < 0 then y :: ins x r else x :: y :: r) : List Mem).map _ = (if kc y.1 x.1 < 0 then (y.1, f y.2) :: ins (x.1, f x.2) (r.map fun m => (m.1, f m.2)) else _)
  split
  ·show (y.1, f y.2) :: (ins x r).map _ = _
   rw [ins_map f x r]
  ·rfl
theorem foldl_ins_map (f : JV → JV) : ∀ (l a : List Mem), (l.foldl (fun a x => ins x a) a).map (fun m => (m.1, f m.2)) = (l.map fun m => (m.1, f m.2)).foldl (fun a x => ins x a) (a.map fun m => (m.1, f m.2))
 | [], _ => rfl
 | x :: l, a => by
  show (l.foldl (fun a x => ins x a) (ins x a)).map _ = _
  rw [foldl_ins_map f l (ins x a), ins_map]
  rfl
theorem srtM_map (f : JV → JV) (l : List Mem) : (srtM l).map (fun m => (m.1, f m.2)) = srtM (l.map fun m => (m.1, f m.2)) := foldl_ins_map f l []
theorem zip_map_r (f : JV → JV) : ∀ (ks : List ByteArray) (l : List JV), ks.zip (l.map f) = (ks.zip l).map fun m => (m.1, f m.2)
 | [], _ => by simp
 | _ :: _, [] => by simp
 | k :: ks, v :: l => by
  show (k, f v) :: ks.zip (l.map f) = (k, f v) :: (ks.zip l).map _
  rw [zip_map_r f ks l]
/-- Sorting sorts the members first, or last: as one likes. -/
theorem srt_obj {n : Bool} {g : ByteArray} {e : Int} {t : ByteArray} {l : List JV} {ks : List ByteArray} : srt (.mk 6 n g e t l ks) = .mk 6 n g e t ((srtM (ks.zip l)).map fun m => srt m.2) ((srtM (ks.zip l)).map (·.1)) := by
 rw [srt, if_pos rfl, srtL_map, zip_map_r, ← srtM_map, List.map_map, List.map_map]
 rfl
/-- Places in the order of their keys. -/
def byK (ks : List ByteArray) (i j : Nat) : Int := kc (ks.getD i ByteArray.empty) (ks.getD j ByteArray.empty)
theorem map_getD {α β : Type} (f : α → β) (d : α) (l : List α) : (List.range l.length).map (fun i => f (l.getD i d)) = l.map f := by
 apply List.ext_getElem (by simp)
 intro i h1 h2
 have h : i < l.length := by simpa using h2
 simp [h]
/-- Sorted places are the sorted members. -/
theorem places_srt {ks : List ByteArray} {l : List JV} {d : JV} {ps : List Nat} (hl : ks.length = l.length) (hn : ks.Nodup) (hp : ps.Perm (List.range ks.length)) (hu : ps.Pairwise fun i j => byK ks i j ≤ 0) :
  ps.map (fun i => (ks.getD i ByteArray.empty, l.getD i d)) = srtM (ks.zip l) := by
 have hk : (ks.zip l).map (·.1) = ks := by rw [List.map_fst_zip (by omega)]
 refine srtM_unique (by rw [hk]; exact hn) ?_ ?_
 ·refine List.pairwise_map.2 ?_
  have hnd : ps.Nodup := hp.nodup_iff.2 List.nodup_range
  have hb : ∀ i ∈ ps, i < ks.length := fun i hi => List.mem_range.1 (hp.mem_iff.1 hi)
  refine (hu.and hnd).imp_of_mem ?_
  intro i j hi hj ⟨h1, h2⟩
  have hv := kc_vals (ks.getD i ByteArray.empty) (ks.getD j ByteArray.empty)
  have h0 : kc (ks.getD i ByteArray.empty) (ks.getD j ByteArray.empty) ≠ 0 := fun e => by
   have e2 := kc_zero e
   have hi' := hb i hi
   have hj' := hb j hj
   rw [List.getD_eq_getElem?_getD, List.getD_eq_getElem?_getD, List.getElem?_eq_getElem hi', List.getElem?_eq_getElem hj'] at e2
   exact h2 ((List.getElem_inj hn).1 e2)
  unfold byK at h1
  show kc (ks.getD i ByteArray.empty) (ks.getD j ByteArray.empty) < 0
  omega
 ·refine (hp.map _).trans ?_
  have e : (List.range ks.length).map (fun i => (ks.getD i ByteArray.empty, l.getD i d)) = ks.zip l := by
   apply List.ext_getElem (by simp [hl])
   intro i h1 h2
   have h : i < ks.length := by simpa using h1
   have h' : i < l.length := by omega
   simp [h, h']
  rw [e]
end Go.Proofs.YtjdboekanmfgpaaGreatDoor

namespace Go.Proofs.YtjdboekanmfgpaaGreatDoor
open Go.Lib

/-- Two numbers. -/
def si (x y : Int) : Int := if x < y then -1 else if y < x then 1 else 0
theorem si_refl (x : Int) : si x x = 0 := by simp [si]
theorem si_anti (x y : Int) : si y x = - si x y := by
 unfold si
 by_cases h : x < y
 ·have h2 : ¬ y < x := by omega
  simp [h, h2]
 ·by_cases h2 : y < x
  ·simp [h, h2]
  ·simp [h, h2]
theorem si_le {x y : Int} : si x y ≤ 0 ↔ x ≤ y := by
 unfold si
 by_cases h : x < y
 ·simp [h]; omega
 ·by_cases h2 : y < x
  ·simp [h, h2]
  ·simp [h, h2]; omega
theorem si_zero {x y : Int} : si x y = 0 ↔ x = y := by
 unfold si
 by_cases h : x < y
 ·simp [h]; omega
 ·by_cases h2 : y < x
  ·simp [h, h2]; omega
  ·simp [h, h2]; omega
/-- One after the other. -/
def th (c d : Int) : Int := if c = 0 then d else c
/-- Rows by their first unlike ones. -/
def lx {α : Type} (c : α → α → Int) : List α → List α → Int
 | a :: l, b :: m => th (c a b) (lx c l m)
 | _, _ => 0
mutual
def cmpS (V : Bool → ByteArray → Int → Int) : JV → JV → Int
 | .mk k n g e t l ks, .mk k' n' g' e' t' l' ks' =>
  th (si k k') (if k = 3 then si (V n g e) (V n' g' e') else if k = 4 then kc t t' else if k = 5 ∨ k = 6 then th (si l.length l'.length) (th (lx kc ks ks') (cmpL V l l')) else 0)
def cmpL (V : Bool → ByteArray → Int → Int) : List JV → List JV → Int
 | [], _ => 0
 | a :: l, m => match m with
  | [] => 0
  | b :: m => th (cmpS V a b) (cmpL V l m)
end
theorem cmpL_lx (V : Bool → ByteArray → Int → Int) : ∀ l m : List JV, cmpL V l m = lx (cmpS V) l m
 | [], m => by rw [cmpL]; cases m <;> rfl
 | a :: l, [] => by rw [cmpL]; rfl
 | a :: l, b :: m => by
  rw [cmpL]
  show th _ (cmpL V l m) = th _ (lx (cmpS V) l m)
  rw [cmpL_lx V l m]
theorem th_refl {c d : Int} (h : c = 0) (k : d = 0) : th c d = 0 := by unfold th; rw [if_pos h]; exact k
theorem th_neg {c d c' d' : Int} (h : c' = -c) (k : d' = -d) : th c' d' = - th c d := by
 unfold th
 by_cases e : c = 0
 ·rw [if_pos e, if_pos (by omega)]; exact k
 ·rw [if_neg e, if_neg (by omega)]; exact h
theorem th_zero {c d : Int} : th c d = 0 ↔ c = 0 ∧ d = 0 := by
 unfold th
 by_cases e : c = 0
 ·rw [if_pos e]; exact ⟨fun h => ⟨e, h⟩, fun h => h.2⟩
 ·rw [if_neg e]; exact ⟨fun h => absurd h e, fun h => h.1⟩
/-- What goes on behind what is transitive. -/
theorem th_trans {c1 c2 c3 d1 d2 d3 : Int} (hs1 : c1 < 0 → c2 ≤ 0 → c3 < 0) (hs2 : c1 ≤ 0 → c2 < 0 → c3 < 0) (h0 : c1 = 0 → c2 = 0 → c3 = 0) (hd : c1 = 0 → c2 = 0 → d1 ≤ 0 → d2 ≤ 0 → d3 ≤ 0) (h : th c1 d1 ≤ 0) (k : th c2 d2 ≤ 0) : th c3 d3 ≤ 0 := by
 unfold th at h k ⊢
 by_cases e1 : c1 = 0
 ·rw [if_pos e1] at h
  by_cases e2 : c2 = 0
  ·rw [if_pos e2] at k
   rw [if_pos (h0 e1 e2)]
   exact hd e1 e2 h k
  ·rw [if_neg e2] at k
   have := hs2 (by omega) (by omega)
   rw [if_neg (by omega)]
   omega
 ·rw [if_neg e1] at h
  have hk : c2 ≤ 0 := by
   by_cases e2 : c2 = 0
   ·omega
   ·rw [if_neg e2] at k; exact k
  have := hs1 (by omega) hk
  rw [if_neg (by omega)]
  omega
/-- A way to compare that puts all into one order. -/
structure TP {α : Type} (S : α → Prop) (c : α → α → Int) : Prop where
 refl : ∀ a, S a → c a a = 0
 anti : ∀ a b, S a → S b → c b a = - c a b
 trans : ∀ a b d, S a → S b → S d → c a b ≤ 0 → c b d ≤ 0 → c a d ≤ 0
theorem TP.s1 {α : Type} {S : α → Prop} {c : α → α → Int} (h : TP S c) {a b d : α} (ha : S a) (hb : S b) (hd : S d) (k : c a b < 0) (m : c b d ≤ 0) : c a d < 0 := by
 have h1 := h.trans a b d ha hb hd (by omega) m
 by_cases e : c a d = 0
 ·have h2 := h.anti a d ha hd
  have h3 := h.trans b d a hb hd ha m (by omega)
  have h4 := h.anti a b ha hb
  omega
 ·omega
theorem TP.s2 {α : Type} {S : α → Prop} {c : α → α → Int} (h : TP S c) {a b d : α} (ha : S a) (hb : S b) (hd : S d) (k : c a b ≤ 0) (m : c b d < 0) : c a d < 0 := by
 have h1 := h.trans a b d ha hb hd k (by omega)
 by_cases e : c a d = 0
 ·have h2 := h.anti a d ha hd
  have h3 := h.trans d a b hd ha hb (by omega) k
  have h4 := h.anti b d hb hd
  omega
 ·omega
theorem TP.z {α : Type} {S : α → Prop} {c : α → α → Int} (h : TP S c) {a b d : α} (ha : S a) (hb : S b) (hd : S d) (k : c a b = 0) (m : c b d = 0) : c a d = 0 := by
 have h1 := h.trans a b d ha hb hd (by omega) (by omega)
 have h2 := h.anti a b ha hb
 have h3 := h.anti b d hb hd
 have h4 := h.trans d b a hd hb ha (by omega) (by omega)
 have h5 := h.anti a d ha hd
 omega
theorem tp_si : TP (fun _ => True) si := ⟨fun a _ => si_refl a, fun a b _ _ => si_anti a b, fun a b d _ _ _ h k => by rw [si_le] at *; omega⟩
theorem tp_kc : TP (fun _ => True) kc := ⟨fun a _ => kc_refl a, fun a b _ _ => kc_anti a b, fun a b d _ _ _ h k => by
 have v1 := kc_vals a b
 have v2 := kc_vals b d
 rcases Int.lt_or_eq_of_le h with h | h
 ·rcases Int.lt_or_eq_of_le k with k | k
  ·have := kc_trans h k; omega
  ·rw [← kc_zero k]; omega
 ·rw [kc_zero h]; exact k⟩
theorem TP.imp {α β : Type} {S : α → Prop} {c : α → α → Int} (h : TP S c) (f : β → α) {S' : β → Prop} (hS : ∀ b, S' b → S (f b)) : TP S' (fun a b => c (f a) (f b)) :=
 ⟨fun a ha => h.refl _ (hS a ha), fun a b ha hb => h.anti _ _ (hS a ha) (hS b hb), fun a b d ha hb hd => h.trans _ _ _ (hS a ha) (hS b hb) (hS d hd)⟩
/-- Rows of one length. -/
theorem lx_refl {α : Type} {c : α → α → Int} : ∀ {l : List α}, (∀ a ∈ l, c a a = 0) → lx c l l = 0
 | [], _ => rfl
 | a :: l, h => th_refl (h a (by simp)) (lx_refl (fun x hx => h x (by simp [hx])))
theorem lx_anti {α : Type} {c : α → α → Int} : ∀ {l m : List α}, (∀ a ∈ l, ∀ b ∈ m, c b a = - c a b) → lx c m l = - lx c l m
 | [], [], _ => rfl
 | [], _ :: _, _ => rfl
 | _ :: _, [], _ => rfl
 | a :: l, b :: m, h => th_neg (h a (by simp) b (by simp)) (lx_anti (fun x hx y hy => h x (by simp [hx]) y (by simp [hy])))
theorem lx_trans {α : Type} {S : α → Prop} {c : α → α → Int} (hS : ∀ a b, S a → S b → c b a = - c a b) : ∀ {l m r : List α}, l.length = m.length → m.length = r.length → (∀ a ∈ l, S a) → (∀ a ∈ m, S a) → (∀ a ∈ r, S a) →
  (∀ a ∈ l, ∀ b ∈ m, ∀ d ∈ r, (c a b ≤ 0 → c b d ≤ 0 → c a d ≤ 0) ∧ (c a b < 0 → c b d ≤ 0 → c a d < 0) ∧ (c a b ≤ 0 → c b d < 0 → c a d < 0) ∧ (c a b = 0 → c b d = 0 → c a d = 0)) → lx c l m ≤ 0 → lx c m r ≤ 0 → lx c l r ≤ 0
 | [], [], [], _, _, _, _, _, _, _, _ => by unfold lx; omega
 | a :: l, b :: m, d :: r, h1, h2, s1, s2, s3, hh, k1, k2 => by
  obtain ⟨-, q2, q3, q4⟩ := hh a (by simp) b (by simp) d (by simp)
  refine th_trans q2 q3 q4 (fun _ _ e1 e2 => ?_) k1 k2
  exact lx_trans hS (by simpa using h1) (by simpa using h2) (fun x hx => s1 x (by simp [hx])) (fun x hx => s2 x (by simp [hx])) (fun x hx => s3 x (by simp [hx])) (fun x hx y hy z hz => hh x (by simp [hx]) y (by simp [hy]) z (by simp [hz])) e1 e2
 | [], _ :: _, _, h, _, _, _, _, _, _, _ => by simp at h
 | _ :: _, [], _, h, _, _, _, _, _, _, _ => by simp at h
 | _, [], _ :: _, _, h, _, _, _, _, _, _ => by simp at h
 | _, _ :: _, [], _, h, _, _, _, _, _, _ => by simp at h
end Go.Proofs.YtjdboekanmfgpaaGreatDoor

namespace Go.Proofs.YtjdboekanmfgpaaGreatDoor
open Go.RowKit Go.Shelf Go.Lib Go.Sort

theorem vcmp_str (a b : ByteArray) (w : World) : Calls Tryz.prog 72 #[.string a, .string b] w fun e w' => e = .returned (.int .i64 (kc a b)) ∧ w' = w := Tryz.strings_Compare a b w
theorem vcmp_int (x y : Int) (w : World) : Calls Tryz.prog 73 #[.int .i64 x, .int .i64 y] w fun e w' => e = .returned (.int .i64 (Lib.compareInt x y)) ∧ w' = w := Tryz.cmp_Compare_int x y w
end Go.Proofs.YtjdboekanmfgpaaGreatDoor

namespace Go.Proofs
open Go.Shelf
def Tryz.sortP_ren : Go.Shelf.Ren := ⟨fun | 6 => 107 | 15 => 127 | 14 => 126 | 28 => 152 | 29 => 153 | 20 => 144 | 21 => 145 | 22 => 146 | 23 => 147 | 24 => 148 | 25 => 149 | 26 => 150 | 27 => 151 | 46 => 168 | 47 => 169 | 48 => 170 | 49 => 171 | 50 => 172 | 57 => 188 | n => n, fun | 22 => 67 | 24 => 3 | 25 => 75 | 3 => 3 | 39 => 112 | 0 => 0 | 53 => 155 | 55 => 157 | 4 => 4 | 46 => 149 | 45 => 148 | 50 => 110 | 5 => 5 | 9 => 9 | 66 => 170 | 70 => 174 | 76 => 191 | 77 => 95 | n => n, fun | n => n⟩
theorem Tryz.sortP : Go.Proofs.SlLaysF.n6 Tryz.prog Tryz.sortP_ren := {
 mixed := by kernel_rfl
 f6 := ⟨Tryz.f107.name, by decide, Tryz.func107.trans (congrArg some (by kernel_rfl))⟩
 f14 := ⟨Tryz.f126.name, by decide, Tryz.func126.trans (congrArg some (by kernel_rfl))⟩
 f15 := Tryz.func127.trans (congrArg some (by kernel_rfl))
 f20 := ⟨Tryz.f144.name, by decide, Tryz.func144.trans (congrArg some (by kernel_rfl))⟩
 f21 := ⟨Tryz.f145.name, by decide, Tryz.func145.trans (congrArg some (by kernel_rfl))⟩
 f22 := ⟨Tryz.f146.name, by decide, Tryz.func146.trans (congrArg some (by kernel_rfl))⟩
 f23 := ⟨Tryz.f147.name, by decide, Tryz.func147.trans (congrArg some (by kernel_rfl))⟩
 f24 := ⟨Tryz.f148.name, by decide, Tryz.func148.trans (congrArg some (by kernel_rfl))⟩
 f25 := ⟨Tryz.f149.name, by decide, Tryz.func149.trans (congrArg some (by kernel_rfl))⟩
 f26 := ⟨Tryz.f150.name, by decide, Tryz.func150.trans (congrArg some (by kernel_rfl))⟩
 f27 := ⟨Tryz.f151.name, by decide, Tryz.func151.trans (congrArg some (by kernel_rfl))⟩
 f28 := Tryz.func152.trans (congrArg some (by kernel_rfl))
 f29 := Tryz.func153.trans (congrArg some (by kernel_rfl))
 f46 := ⟨Tryz.f168.name, by decide, Tryz.func168.trans (congrArg some (by kernel_rfl))⟩
 f47 := Tryz.func169.trans (congrArg some (by kernel_rfl))
 f48 := Tryz.func170.trans (congrArg some (by kernel_rfl))
 f49 := ⟨Tryz.f171.name, by decide, Tryz.func171.trans (congrArg some (by kernel_rfl))⟩
 f50 := ⟨Tryz.f172.name, by decide, Tryz.func172.trans (congrArg some (by kernel_rfl))⟩
 f57 := ⟨Tryz.f188.name, by decide, Tryz.func188.trans (congrArg some (by kernel_rfl))⟩
 t0 := Tryz.underlying0
 a0 := Tryz.isAgg0
 z0 := Tryz.sizeOf0
 v0 := Tryz.zeroValue0
 t3 := Tryz.underlying3
 a3 := Tryz.isAgg3
 z3 := Tryz.sizeOf3
 v3 := Tryz.zeroValue3
 t4 := Tryz.underlying4
 a4 := Tryz.isAgg4
 z4 := Tryz.sizeOf4
 v4 := Tryz.zeroValue4
 t5 := Tryz.underlying5
 a5 := Tryz.isAgg5
 z5 := Tryz.sizeOf5
 v5 := Tryz.zeroValue5
 t9 := Tryz.underlying9
 a9 := Tryz.isAgg9
 z9 := Tryz.sizeOf9
 v9 := Tryz.zeroValue9
 t22 := Tryz.underlying67
 a22 := Tryz.isAgg67
 z22 := Tryz.sizeOf67
 v22 := Tryz.zeroValue67
 a24 := Tryz.isAgg3
 z24 := Tryz.sizeOf3
 t25 := Tryz.underlying75
 a25 := Tryz.isAgg75
 z25 := Tryz.sizeOf75
 v25 := Tryz.zeroValue75
 t39 := Tryz.underlying112
 a39 := Tryz.isAgg112
 z39 := Tryz.sizeOf112
 v39 := Tryz.zeroValue112
 t45 := Tryz.underlying148
 a45 := Tryz.isAgg148
 z45 := Tryz.sizeOf148
 v45 := Tryz.zeroValue148
 t46 := Tryz.underlying149
 a46 := Tryz.isAgg149
 z46 := Tryz.sizeOf149
 v46 := Tryz.zeroValue149
 t50 := Tryz.underlying110
 a50 := Tryz.isAgg110
 z50 := Tryz.sizeOf110
 v50 := Tryz.zeroValue110
 t53 := Tryz.underlying155
 a53 := Tryz.isAgg155
 z53 := Tryz.sizeOf155
 v53 := Tryz.zeroValue155
 t55 := Tryz.underlying157
 a55 := Tryz.isAgg157
 z55 := Tryz.sizeOf157
 v55 := Tryz.zeroValue157
 t66 := Tryz.underlying170
 a66 := Tryz.isAgg170
 z66 := Tryz.sizeOf170
 v66 := Tryz.zeroValue170
 t70 := Tryz.underlying174
 a70 := Tryz.isAgg174
 z70 := Tryz.sizeOf174
 v70 := Tryz.zeroValue174
 t76 := Tryz.underlying191
 a76 := Tryz.isAgg191
 z76 := Tryz.sizeOf191
 v76 := Tryz.zeroValue191
 t77 := Tryz.underlying95
 a77 := Tryz.isAgg95
 z77 := Tryz.sizeOf95
 v77 := Tryz.zeroValue95 }
end Go.Proofs

namespace Go.Proofs.YtjdboekanmfgpaaGreatDoor
open Go.RowKit Go.Shelf Go.Lib Go.Sort

theorem one_encP {n : Nat} : OneCell (encP (n := n)) := fun _ => rfl
theorem vsort_typ (n : Nat) (hn : n ≤ 1099511627776) (g : FuncId) (cb : Array Value) (cf : Nat → Nat → Int) (hO : OrdAt n cf) (w : World) (b : Nat) (hg : b < w.heap.size) (h : OwnI w b (.slice (some ⟨b, 0, none⟩) n n) (pI (List.range n)))
  (hc : (∀ args w, (callFunc g args).run Tryz.prog w = .ok (.enter g args) w) ∧ ∀ w', Below b w w' → ∀ i j : Nat, i < n → j < n → Calls Tryz.prog g (#[.int .i64 (i : Int), .int .i64 (j : Int)] ++ cb) w' fun r w'' => r = .returned (.int .i64 (cf i j)) ∧ Below w'.heap.size w' w'') :
  Calls Tryz.prog 107 #[.slice (some ⟨b, 0, none⟩) n n, .func (.func g) #[] cb] w fun r w' => r = .returned (.tuple #[]) ∧ ∃ ps : List Nat, SortedBy cf n ps ∧ II w' (· < b) (pI ps) (.slice (some ⟨b, 0, none⟩) n n) ∧ Below b w w' ∧ TyV w' (.slice (some ⟨b, 0, none⟩) n n) := by
 by_cases hz : n = 0
 ·subst hz
  refine Calls.mono (AnyF.slices_SortFunc_none { Tryz.sortP with } (some ⟨b, 0, none⟩) 0 (.func (.func g) #[] cb) w) ?_
  rintro e w' ⟨rfl, rfl⟩
  exact ⟨rfl, [], ⟨List.Perm.refl _, List.Pairwise.nil⟩, h.ii _ (fun k hk => by simp [Value.ownBlock] at hk; omega), Below.refl _ _, h.typ⟩
 ·haveI : Inhabited (Fin n) := ⟨⟨0, by omega⟩⟩
  have hcon := Any.slices_SortFunc Tryz.sortP (encP (n := n)) one_encP (fun x y => cf x.val y.val) (swo_at hO) g cb b 0 n (allP n) w hc.1 (cmp_lays hg hc.2 _) (holds_all h) hg (by rw [allP_size]; omega)
  rw [show (Value.slice (some ⟨b, 0, none⟩) (allP n).size n) = .slice (some ⟨b, 0, none⟩) n n by rw [allP_size]] at hcon
  refine Calls.mono hcon ?_
  rintro e w' ⟨rfl, d, m, os, hp, hs, rfl⟩
  obtain ⟨ps, h1, h3⟩ := sorted_places (cf := cf) (m := m) (os := os) hn (Nat.le_refl b) hg h hp hs
  exact ⟨rfl, ps, h1, h3, below_sort _ _ _ _ _ _ hg, fun a n' c e => by injection e with e1 _ _; injection e1 with e1; subst e1; exact typ_sort _ _ _ _ _ _ (h.typ _ _ _ rfl)⟩
theorem vsort_any (n : Nat) (hn : n ≤ 1099511627776) (g : FuncId) (cb : Array Value) (cf : Nat → Nat → Int) (hO : OrdAt n cf) (w : World) (b : Nat) (hg : b < w.heap.size) (h : OwnI w b (.slice (some ⟨b, 0, none⟩) n n) (pI (List.range n)))
  (hc : (∀ args w, (callFunc g args).run Tryz.prog w = .ok (.enter g args) w) ∧ ∀ w', Below b w w' → ∀ i j : Nat, i < n → j < n → Calls Tryz.prog g (#[.int .i64 (i : Int), .int .i64 (j : Int)] ++ cb) w' fun r w'' => r = .returned (.int .i64 (cf i j)) ∧ Below w'.heap.size w' w'') :
  Calls Tryz.prog 107 #[.slice (some ⟨b, 0, none⟩) n n, .func (.func g) #[] cb] w fun r w' => r = .returned (.tuple #[]) ∧ ∃ ps : List Nat, SortedBy cf n ps ∧ II w' (· < b) (pI ps) (.slice (some ⟨b, 0, none⟩) n n) ∧ Below b w w' :=
 (vsort_typ n hn g cb cf hO w b hg h hc).mono fun _ _ ⟨h1, ps, h2, h3, h4, _⟩ => ⟨h1, ps, h2, h3, h4⟩
end Go.Proofs.YtjdboekanmfgpaaGreatDoor

namespace Go.Proofs.YtjdboekanmfgpaaGreatDoor
open Go.RowKit Go.Lib Go.Sort
attribute [local go_sem] setCell_drewN alloc_drewN

/-- What sortedPlaces answers. -/
def SpP (w : World) (n : Nat) (cf : Nat → Nat → Int) (r : Ending) (w' : World) : Prop :=
 ∃ ps v, r = .returned v ∧ SortedBy cf n ps ∧ II w' (· < w.heap.size) (pI ps) v ∧ Below w.heap.size w w'

/-- The same, with the type of its block. -/
def SpT (w : World) (n : Nat) (cf : Nat → Nat → Int) (r : Ending) (w' : World) : Prop :=
 ∃ ps v, r = .returned v ∧ SortedBy cf n ps ∧ II w' (· < w.heap.size) (pI ps) v ∧ Below w.heap.size w w' ∧ TyV w' v
theorem SpT.weak {w : World} {n : Nat} {cf : Nat → Nat → Int} {r : Ending} {w' : World} (h : SpT w n cf r w') : SpP w n cf r w' := by
 obtain ⟨ps, v, h1, h2, h3, h4, _⟩ := h
 exact ⟨ps, v, h1, h2, h3, h4⟩

set_option maxRecDepth 100000 in
set_option maxHeartbeats 3200000 in
theorem places_typ (n : Nat) (hn : n ≤ 1099511627776) (g : FuncId) (cb : Array Value) (cf : Nat → Nat → Int) (hO : OrdAt n cf) (w : World) (hc : CmpAt w g cb n cf) :
  Calls Tryz.prog 81 #[.int .i64 (n : Int), .func (.func g) #[] cb] w (SpT w n cf) := by
 obtain ⟨P, hP⟩ : ∃ P : Ending → World → Prop, P = SpT w n cf := ⟨_, rfl⟩
 rw [← hP]
 have HP := hid_intro hP
 have hge : (0 : Int) ≤ (n : Int) := by omega
 have hNI : (n : Int) ≤ 1099511627776 := by omega
 have HN := hid_intro hn
 have HO := hid_intro hO
 have HC := hid_intro hc
 clear hP hn hO hc
 go_enter Tryz.func81, Tryz.ntmps81
 go_wp2_with (at_make; refine wpList_make_v rfl _ _ rfl w.heap.size n rfl rfl HN.out (Nat.le_refl _) ?_; intro w1 ho1 hg1; have HO1 := hid_intro ho1; have HB1 : Hid (Below w.heap.size w w1) := hid_intro ((Below.refl _ _).grown hg1 (Nat.le_refl _) (fun b e => by cases e)); clear ho1 hg1)
 go_loopg [10] (n) (fun g s10 wr => ∃ i : Nat, g = n - i ∧ s10 = .int .i64 (i : Int) ∧ Hid (Below w.heap.size w wr ∧ i ≤ n ∧ OwnI wr w.heap.size (.slice (some ⟨w.heap.size, 0, none⟩) n n) (vpI n i)))
 case atStart => exact ⟨0, rfl, rfl, hid_intro ⟨HB1.out, Nat.zero_le _, by rw [vpI_0]; exact HO1.out⟩⟩
 case round =>
  obtain ⟨i, rfl, rfl, HI⟩ := hrel
  by_cases hlt : i < n
  ·have hI : (i : Int) < (n : Int) := by omega
   obtain ⟨c0, z0⟩ := HI.out.2.2.vat (vpI_len n i).symm (by rw [vpI_len]; exact hlt)
   have HQ := hid_intro (HI.out.2.2.vput (vpI_len n i).symm i (i : Int) (by unfold I64; omega))
   have HLT := hid_intro hlt
   have HBB := hid_intro (HI.out.1.grown HQ.out.2 HI.out.1.size (fun b e => by injection e with e; omega))
   go_wp2_with fail
   go_roundg (n - (i + 1))
   case measure => have := HLT.out; omega
   case rel => exact ⟨i + 1, rfl, by go_num, hid_intro ⟨HBB.out, HLT.out, by rw [← vpI_set]; exact HQ.out.1⟩⟩
  ·have hI : ¬ (i : Int) < (n : Int) := by omega
   have he : i = n := by have := HI.out.2.1; omega
   subst he
   have hrow := HI.out.2.2
   rw [vpI_all] at hrow
   have cal := vsort_typ i HN.out g cb cf HO.out wr w.heap.size (HI.out.2.2.lt rfl).2 hrow ⟨HC.out.1, fun w' hb => HC.out.2 w' (HI.out.1.trans hb)⟩
   have HBI := hid_intro HI.out.1
   clear hrow HI hge
   go_wp2_with (first | (go_at_call 107; refine cal.mono ?_; rintro r w2 ⟨rfl, ps, h1, h3, h4, h5⟩; have HX := hid_intro (And.intro h1 (And.intro h3 (And.intro h4 h5))); clear h1 h3 h4 h5))
   rw [HP.out]
   exact ⟨ps, _, rfl, HX.out.1, HX.out.2.1, HBI.out.trans HX.out.2.2.1, HX.out.2.2.2⟩
theorem places_any (n : Nat) (hn : n ≤ 1099511627776) (g : FuncId) (cb : Array Value) (cf : Nat → Nat → Int) (hO : OrdAt n cf) (w : World) (hc : CmpAt w g cb n cf) :
  Calls Tryz.prog 81 #[.int .i64 (n : Int), .func (.func g) #[] cb] w (SpP w n cf) :=
 (places_typ n hn g cb cf hO w hc).mono fun _ _ h => h.weak
end Go.Proofs.YtjdboekanmfgpaaGreatDoor
