/-
  Two objects by their sorted members, as rows are compared. No condition.
  A value opened for value.Compare: its cells, its list, its keys. No condition.
  What may be can be compared. No condition.
  The library's strings.Builder at this program: what WriteByte and WriteString answer. Conditions: each states its own.
  A text that is built piece by piece in a strings.Builder of the call's own: what WriteByte, WriteString and String answer. Conditions: at most 2^47 bytes.
  What dec.split answers: a text's parts, and what is left. No condition.
-/
import Derived.Test.YtjdboekanmfgpaaGreatDoorJoined20
import Derived.Test.YtjdboekanmfgpaaGreatDoorJoined13
import Derived.Test.YtjdboekanmfgpaaGreatDoorProg
import Derived.Shelf.Strings.BuilderK
import Derived.Test.YtjdboekanmfgpaaGreatDoorJoined3
import Derived.Test.YtjdboekanmfgpaaGreatDoorJoined4
namespace Go.Proofs.YtjdboekanmfgpaaGreatDoor

theorem sorted_mem {ks : List ByteArray} {l : List JV} {d : JV} {ps : List Nat} (hl : ks.length = l.length) (hn : ks.Nodup) (hs : SortedBy (byK ks) ks.length ps) : ps.map (fun i => (ks.getD i ByteArray.empty, l.getD i d)) = srtM (ks.zip l) :=
 places_srt hl hn hs.1 (hs.2.imp fun {i j} h => by
  have := kc_anti (ks.getD i ByteArray.empty) (ks.getD j ByteArray.empty)
  unfold byK at *
  omega)
theorem getD_map {α : Type} (g : Nat → α) (d : α) (ps : List Nat) {i : Nat} (h : i < ps.length) : (ps.map g).getD i d = g (ps.getD i 0) := by simp [h]
/-- The first unlike ones along sorted places are those of the sorted rows. -/
theorem fu_sorted {α : Type} (f : α → α → Int) (d : α) (g g' : Nat → α) (ps qs : List Nat) (h : ps.length = qs.length) : fu (fun i => f (g (ps.getD i 0)) (g' (qs.getD i 0))) 0 ps.length = lx f (ps.map g) (qs.map g') := by
 rw [← fu_lx f d (ps.map g) (qs.map g') (by simpa using h), List.length_map]
 refine fu_congr _ _ fun j _ hj => ?_
 rw [getD_map g d ps (by omega), getD_map g' d qs (by omega)]
/-- Objects with as many members. -/
theorem obj_cmp {ka kb : List ByteArray} {la lb : List JV} {ps qs : List Nat} {N : Nat} (f : JV → JV → Int) (d : JV) (hla : ka.length = la.length) (hlb : kb.length = lb.length) (hna : ka.Nodup) (hnb : kb.Nodup) (ha : ka.length = N) (hb : kb.length = N)
  (hp : SortedBy (byK ka) N ps) (hq : SortedBy (byK kb) N qs) :
  th (fu (fun i => kc (ka.getD (ps.getD i 0) ByteArray.empty) (kb.getD (qs.getD i 0) ByteArray.empty)) 0 N) (fu (fun i => f (la.getD (ps.getD i 0) d) (lb.getD (qs.getD i 0) d)) 0 N) =
   th (lx kc ((srtM (ka.zip la)).map (·.1)) ((srtM (kb.zip lb)).map (·.1))) (lx f ((srtM (ka.zip la)).map (·.2)) ((srtM (kb.zip lb)).map (·.2))) := by
 have e1 := sorted_mem (d := d) hla hna (by rw [ha]; exact hp)
 have e2 := sorted_mem (d := d) hlb hnb (by rw [hb]; exact hq)
 have l1 : ps.length = N := by rw [hp.1.length_eq, List.length_range]
 have l2 : qs.length = N := by rw [hq.1.length_eq, List.length_range]
 have f1 := fu_sorted kc ByteArray.empty (fun i => ka.getD i ByteArray.empty) (fun i => kb.getD i ByteArray.empty) ps qs (by omega)
 have f2 := fu_sorted f d (fun i => la.getD i d) (fun i => lb.getD i d) ps qs (by omega)
 rw [l1] at f1 f2
 rw [← e1, ← e2, List.map_map, List.map_map, List.map_map, List.map_map]
 simp only [f1, f2]
 rfl
end Go.Proofs.YtjdboekanmfgpaaGreatDoor

namespace Go.Proofs.YtjdboekanmfgpaaGreatDoor
open Go.RowKit Go.Lib Go.Sort

theorem VI.li {w : World} {k : Int} {n : Bool} {g : ByteArray} {e : Int} {t : ByteArray} {l : List JV} {ks : List ByteArray} {f : Nat → Value} (h : VI w (fun _ => False) (.mk k n g e t l ks) f) :
  ∃ (ao ko : Option Addr) (cap kc' : Nat) (G : Nat → Nat → Value), va f = .agg #[.int .i64 k, .bool n, .string g, .int .i64 e, .string t, .slice ao l.length cap, .slice ko ks.length kc'] ∧
   LI w (fun _ => False) l (.slice ao l.length cap) G ∧ SI w (fun _ => False) ks (.slice ko ks.length kc') ∧ g.size ≤ maxLen ∧ t.size ≤ maxLen := by
 cases h with
 | mk ao cap G f0 f1 f2 f3 f4 f5 f6 hc hs hw hl hr =>
 obtain ⟨ko, kc', e6, k1, k2, k3, k4⟩ := f6
 refine ⟨ao, ko, cap, kc', G, by simp only [va, f0, f1, f2, f3, f4, f5, e6], ⟨ao, cap, rfl, by omega, hr, ?_⟩, ⟨ko, kc', rfl, k1, k2, k3, k4⟩, hs.1, hs.2⟩
 rcases hl with h | ⟨b, off, h1, _, h2⟩
 ·exact Or.inl h
 ·by_cases hk : l = []
  ·exact Or.inl hk
  exact Or.inr ⟨b, off, h1, fun h => h, World.block_lt_of_cell? w _ (h2 0 (List.length_pos_iff.2 hk) 0 (by omega)), h2⟩
/-- Which values value.Compare is asked of. -/
def okNum (Num : Bool → ByteArray → Int → Prop) (k : Int) (n : Bool) (g : ByteArray) (e : Int) (l : List JV) (ks : List ByteArray) : Prop :=
 l.length ≤ 1099511627776 ∧ (k = 6 → ks.length = l.length ∧ ks.Nodup) ∧ (k = 3 → Num n g e)
mutual
def okC (Num : Bool → ByteArray → Int → Prop) : JV → Prop
 | .mk k n g e _ l ks => okNum Num k n g e l ks ∧ okCL Num l
def okCL (Num : Bool → ByteArray → Int → Prop) : List JV → Prop
 | [] => True
 | v :: l => okC Num v ∧ okCL Num l
end
theorem okCL_mem {Num : Bool → ByteArray → Int → Prop} : ∀ {l : List JV}, okCL Num l → ∀ v ∈ l, okC Num v
 | [], _, v, h => absurd h (by simp)
 | a :: l, h, v, hv => by
  unfold okCL at h
  rcases List.mem_cons.1 hv with rfl | hv
  ·exact h.1
  ·exact okCL_mem h.2 v hv
theorem lx_map {α β : Type} (f : α → α → Int) (g : β → α) : ∀ l m : List β, lx f (l.map g) (m.map g) = lx (fun x y => f (g x) (g y)) l m
 | [], [] => rfl
 | [], _ :: _ => rfl
 | _ :: _, [] => rfl
 | a :: l, b :: m => by
  show th _ (lx f (l.map g) (m.map g)) = th _ (lx _ l m)
  rw [lx_map f g l m]
/-- Sorted arrays compared. -/
theorem cmp_arr (V : Bool → ByteArray → Int → Int) (n n' : Bool) (g g' : ByteArray) (e e' : Int) (t t' : ByteArray) (l l' : List JV) (ks ks' : List ByteArray) (d : JV) :
  cmpS V (srt (.mk 5 n g e t l ks)) (srt (.mk 5 n' g' e' t' l' ks')) = th (si l.length l'.length) (fu (fun i => cmpS V (srt (l.getD i d)) (srt (l'.getD i d))) 0 l.length) := by
 rw [srt, if_neg (by decide), srt, if_neg (by decide), cmpS, cmpL_lx, srtL_map, srtL_map, lx_map, List.length_map, List.length_map]
 by_cases h : l.length = l'.length
 ·rw [fu_lx (fun x y => cmpS V (srt x) (srt y)) d l l' h]
  simp [si_refl, h, th, lx]
 ·have h0 : si (l.length : Int) (l'.length : Int) ≠ 0 := fun h2 => h ((si_len _ _).1 h2)
  simp [si_refl, th, h0]
end Go.Proofs.YtjdboekanmfgpaaGreatDoor

namespace Go.Proofs.YtjdboekanmfgpaaGreatDoor
open Go.RowKit Go.Lib

theorem okCL_iff {Num : Bool → ByteArray → Int → Prop} : ∀ {l : List JV}, okCL Num l ↔ ∀ v ∈ l, okC Num v
 | [] => by simp [okCL]
 | a :: l => by
  unfold okCL
  rw [okCL_iff]
  simp
def NumG (n : Bool) (g : ByteArray) (e : Int) : Prop := goodB n g e = true
/-- What may be can be compared. -/
theorem may_okC (v : JV) : ∀ d, Sm v → mayB d v = true → okC NumG v := by
 induction v using JV.ind with
 | h k n g e t l ks ih =>
 intro d hs h
 cases hs with
 | mk h1 h2 h3 h4 h5 h6 =>
 unfold mayB at h
 simp only [Bool.and_eq_true] at h
 obtain ⟨-, hf, hl⟩ := h
 unfold fitB at hf
 simp only [Bool.and_eq_true] at hf
 obtain ⟨-, -, -, hg, -, hk⟩ := hf
 unfold okC okNum
 refine ⟨⟨by omega, fun e6 => ?_, fun _ => hg⟩, okCL_iff.2 fun v hv => ih v hv (d - 1) (h3 v hv) (mayBL_mem hl v hv)⟩
 subst e6
 unfold keyB at hk
 simp at hk
 exact ⟨hk.1.1, hk.2⟩
end Go.Proofs.YtjdboekanmfgpaaGreatDoor

namespace Go.Proofs.YtjdboekanmfgpaaGreatDoor
open Go.Shelf
def lays166_ren : Go.Shelf.Ren := ⟨fun | 166 => 58 | 240 => 89 | 276 => 117 | n => n, fun | 0 => 0 | 3 => 3 | 4 => 4 | 5 => 5 | 9 => 9 | 20 => 20 | 37 => 50 | 70 => 55 | 72 => 57 | 75 => 78 | 80 => 59 | 164 => 129 | n => n, fun | n => n⟩
theorem lays166 : Go.Proofs.Lays.n166 Tryz.prog lays166_ren := {
 mixed := by kernel_rfl
 f166 := Tryz.func58.trans (congrArg some (by kernel_rfl))
 f240 := Tryz.func89.trans (congrArg some (by kernel_rfl))
 f276 := Tryz.func117.trans (congrArg some (by kernel_rfl))
 t0 := Tryz.underlying0
 a0 := Tryz.isAgg0
 z0 := Tryz.sizeOf0
 v0 := Tryz.zeroValue0
 t3 := Tryz.underlying3
 a3 := Tryz.isAgg3
 z3 := Tryz.sizeOf3
 v3 := Tryz.zeroValue3
 t4 := Tryz.underlying4
 a4 := Tryz.isAgg4
 z4 := Tryz.sizeOf4
 v4 := Tryz.zeroValue4
 t9 := Tryz.underlying9
 a9 := Tryz.isAgg9
 z9 := Tryz.sizeOf9
 v9 := Tryz.zeroValue9
 t20 := Tryz.underlying20
 a20 := Tryz.isAgg20
 z20 := Tryz.sizeOf20
 v20 := Tryz.zeroValue20
 t37 := Tryz.underlying50
 a37 := Tryz.isAgg50
 z37 := Tryz.sizeOf50
 v37 := Tryz.zeroValue50
 t70 := Tryz.underlying55
 a70 := Tryz.isAgg55
 z70 := Tryz.sizeOf55
 v70 := Tryz.zeroValue55
 t72 := Tryz.underlying57
 a72 := Tryz.isAgg57
 z72 := Tryz.sizeOf57
 v72 := Tryz.zeroValue57
 t75 := Tryz.underlying78
 a75 := Tryz.isAgg78
 z75 := Tryz.sizeOf78
 v75 := Tryz.zeroValue78
 t164 := Tryz.underlying129
 a164 := Tryz.isAgg129
 z164 := Tryz.sizeOf129
 v164 := Tryz.zeroValue129 }
theorem extra166 : Builder.Extra Tryz.prog lays166_ren := {
 sizeBuilder := by kernel_rfl
 liesBuilder := by kernel_rfl
 t5 := Tryz.underlying5
 a5 := Tryz.isAgg5
 z5 := Tryz.sizeOf5
 v5 := Tryz.zeroValue5
 infoByte := by kernel_rfl
 cellsByte := by kernel_rfl
 sizeByte := by kernel_rfl
 neB5 := by decide }

def lays167_ren : Go.Shelf.Ren := ⟨fun | 167 => 93 | 240 => 89 | 276 => 117 | n => n, fun | 0 => 0 | 4 => 4 | 5 => 5 | 9 => 9 | 20 => 20 | 37 => 50 | 70 => 55 | 72 => 57 | 75 => 78 | 80 => 59 | 164 => 129 | n => n, fun | n => n⟩
theorem lays167 : Go.Proofs.Lays.n167 Tryz.prog lays167_ren := {
 mixed := by kernel_rfl
 f167 := Tryz.func93.trans (congrArg some (by kernel_rfl))
 f240 := Tryz.func89.trans (congrArg some (by kernel_rfl))
 f276 := Tryz.func117.trans (congrArg some (by kernel_rfl))
 t0 := Tryz.underlying0
 a0 := Tryz.isAgg0
 z0 := Tryz.sizeOf0
 v0 := Tryz.zeroValue0
 t4 := Tryz.underlying4
 a4 := Tryz.isAgg4
 z4 := Tryz.sizeOf4
 v4 := Tryz.zeroValue4
 t5 := Tryz.underlying5
 a5 := Tryz.isAgg5
 z5 := Tryz.sizeOf5
 v5 := Tryz.zeroValue5
 t9 := Tryz.underlying9
 a9 := Tryz.isAgg9
 z9 := Tryz.sizeOf9
 v9 := Tryz.zeroValue9
 t20 := Tryz.underlying20
 a20 := Tryz.isAgg20
 z20 := Tryz.sizeOf20
 v20 := Tryz.zeroValue20
 t37 := Tryz.underlying50
 a37 := Tryz.isAgg50
 z37 := Tryz.sizeOf50
 v37 := Tryz.zeroValue50
 t70 := Tryz.underlying55
 a70 := Tryz.isAgg55
 z70 := Tryz.sizeOf55
 v70 := Tryz.zeroValue55
 t72 := Tryz.underlying57
 a72 := Tryz.isAgg57
 z72 := Tryz.sizeOf57
 v72 := Tryz.zeroValue57
 t75 := Tryz.underlying78
 a75 := Tryz.isAgg78
 z75 := Tryz.sizeOf78
 v75 := Tryz.zeroValue78
 t164 := Tryz.underlying129
 a164 := Tryz.isAgg129
 z164 := Tryz.sizeOf129
 v164 := Tryz.zeroValue129 }
theorem extra167 : Builder.Extra Tryz.prog lays167_ren := {
 sizeBuilder := by kernel_rfl
 liesBuilder := by kernel_rfl
 t5 := Tryz.underlying5
 a5 := Tryz.isAgg5
 z5 := Tryz.sizeOf5
 v5 := Tryz.zeroValue5
 infoByte := by kernel_rfl
 cellsByte := by kernel_rfl
 sizeByte := by kernel_rfl
 neB5 := by decide }

end Go.Proofs.YtjdboekanmfgpaaGreatDoor

namespace Go.Proofs.YtjdboekanmfgpaaGreatDoor
open Go.RowKit Go.Sort

/-- A builder in block B, all of its own from there on, that holds the bytes l. -/
def BB (B : Nat) (l : List UInt8) (w : World) : Prop := Lib.IsBuilderF 57 5 B B (Lib.byteCells l) w ∧ B ≤ w.heap.size

theorem isb_more {T e : TypeId} {B b : Nat} {xs : List Value} {w w' : World} (h : Lib.IsBuilderF T e B b xs w) (hk : ∀ k, k < w.heap.size → w'.heap[k]? = w.heap[k]?) : Lib.IsBuilderF T e B b xs w' := by
 have key : ∀ p, Lib.BuilderAtF T e B b p xs w → Lib.BuilderAtF T e B b p xs w' := by
  rintro p ⟨hB, v, hb, hown, hne⟩
  refine ⟨hB, v, by rw [hk b (Array.getElem?_eq_some_iff.1 hb).1]; exact hb, ⟨hown.1, ?_⟩, hne⟩
  rcases hown.2 with hn | ⟨g, cap, cur, fz, rfl, hg, hgg, rest⟩
  ·exact .inl hn
  ·exact .inr ⟨g, cap, cur, fz, rfl, hg, by rw [hk g (Array.getElem?_eq_some_iff.1 hgg).1]; exact hgg, rest⟩
 rcases h with h | h
 ·exact .inl (key _ h)
 ·exact .inr (key _ h)

theorem BB.below {B : Nat} {l : List UInt8} {w w' : World} (h : BB B l w) (hb : Below w.heap.size w w') : BB B l w' := ⟨isb_more h.1 hb.block, Nat.le_trans h.2 hb.size⟩

theorem bb_fresh (w : World) : BB w.heap.size [] (w.alloc (.cells #[.pointer none, .slice none 0 0] 57)) := ⟨Lib.IsBuilderF.of (Lib.fresh_isBuilder _ _ w), by simp⟩

theorem byteCells_append (a b : List UInt8) : Lib.byteCells (a ++ b) = Lib.byteCells a ++ Lib.byteCells b := by simp [Lib.byteCells]

theorem byteCells_len (a : List UInt8) : (Lib.byteCells a).length = a.length := by simp [Lib.byteCells]

theorem wbyte (B : Nat) (l : List UInt8) (c : UInt8) (x : Int) (w : World) (hx : x = (c.toNat : Int)) (h : BB B l w) (hl : l.length + 1 ≤ 140737488355328) :
  Calls Tryz.prog 93 #[.pointer (some ⟨B, 0, none⟩), .int .u8 x] w fun e w' => e = .returned .nilIface ∧ BB B (l ++ [c]) w' ∧ Below B w w' := by
 subst hx
 refine (Any.Builder_WriteByte_k lays167 extra167 B B (Lib.byteCells l) (c.toNat : Int) w h.1 (by rw [byteCells_len]; exact hl) h.2).mono ?_
 rintro e w' ⟨rfl, h1, h2, _⟩
 exact ⟨rfl, ⟨by rw [byteCells_append]; exact .inr h1, Nat.le_trans h.2 h2.size⟩, h2⟩

theorem wstr (B : Nat) (l : List UInt8) (s : ByteArray) (w : World) (h : BB B l w) (hl : l.length + s.size ≤ 140737488355328) :
  Calls Tryz.prog 58 #[.pointer (some ⟨B, 0, none⟩), .string s] w fun e w' => e = .returned (.tuple #[.int .i64 s.size, .nilIface]) ∧ BB B (l ++ s.data.toList) w' ∧ Below B w w' := by
 refine (Any.Builder_WriteString_k lays166 extra166 B B (Lib.byteCells l) s w h.1 (by rw [byteCells_len]; exact hl) h.2).mono ?_
 rintro e w' ⟨rfl, h1, h2, _⟩
 exact ⟨rfl, ⟨by rw [byteCells_append]; exact .inr h1, Nat.le_trans h.2 h2.size⟩, h2⟩

theorem bstr (B : Nat) (l : List UInt8) (w : World) (h : BB B l w) :
  Calls Tryz.prog 33 #[.pointer (some ⟨B, 0, none⟩)] w fun e w' => e = .returned (.string (bs l)) ∧ Below B w w' := by
 refine (Tryz.Builder_String_any_k B B l w h.1 h.2).mono ?_
 rintro e w' ⟨rfl, _, h2, _⟩
 exact ⟨rfl, h2⟩

theorem below_grow (w : World) (q : Nat) (os : Array Obj) : Below w.heap.size w (grow (w.drewN q) os) :=
 ⟨rfl, rfl, rfl, by simp [grow], fun i hi => by show (w.heap ++ os)[i]? = w.heap[i]?; rw [Array.getElem?_append_left hi]⟩

theorem itoa_any (n : Int) (w : World) (h0 : -9223372036854775808 ≤ n) (h1 : n ≤ 9223372036854775807) (htab : Lib.TabIs Tryz.prog w "internal/strconv.uint64pow10" .u64 Lib.pow10Tab) :
  Calls Tryz.prog 95 #[.int .i64 n] w fun e w' => e = .returned (.string (bs (Lib.itoa n))) ∧ Below w.heap.size w w' := by
 refine (Tryz.strconv_Itoa n h0 h1 w htab).mono ?_
 rintro e w' ⟨rfl, k, os, rfl⟩
 exact ⟨rfl, below_grow w k os⟩

end Go.Proofs.YtjdboekanmfgpaaGreatDoor

namespace Go.Proofs.YtjdboekanmfgpaaGreatDoor
open Go.RowKit
attribute [local go_sem] setCell_drewN alloc_drewN

theorem cut_any (l : List UInt8) (c : UInt8) (w : World) :
  Calls Tryz.prog 223 #[.string (bs l), .string ⟨#[c]⟩] w fun e w' => e = .returned (.tuple #[.string (bs (if l.head? = some c then l.tail else l)), .bool (decide (l.head? = some c))]) ∧ w = w' := by
 by_cases h : l.head? = some c
 ·rw [if_pos h, decide_eq_true h]; exact cut_yes (bs l) c w h
 ·rw [if_neg h, decide_eq_false h]; exact cut_no (bs l) c w h
def wW (l : List UInt8) : List UInt8 := if l.head? = some 48 then [48] else tw l
def wR (l : List UInt8) : List UInt8 := if l.head? = some 48 then l.tail else dw l
def wO (l : List UInt8) : Bool := decide (l.head? = some 48 ∨ tw l ≠ [])
theorem splitWhole_any (l : List UInt8) (w : World) (hs : l.length ≤ maxLen) :
  Calls Tryz.prog 224 #[.string (bs l)] w fun e w' => e = .returned (.tuple #[.string (bs (wW l)), .string (bs (wR l)), .bool (wO l)]) ∧ ∃ q, w' = w.drewN q := by
 unfold wW wR wO
 by_cases h : l.head? = some 48
 ·rw [if_pos h, if_pos h, decide_eq_true (.inl h)]; exact splitWhole_nought (bs l) w h
 ·rw [if_neg h, if_neg h]
  have e : decide (l.head? = some 48 ∨ tw l ≠ []) = decide (tw l ≠ []) := decide_eq_decide.2 ⟨fun g => g.resolve_left h, .inr⟩
  rw [e]
  exact splitWhole_digits (bs l) w (by rw [bs_size]; exact hs) h
theorem cutAny_any (l : List UInt8) (b : Nat) (x y : UInt8) (w : World) (c0 : w.cell? ⟨b, 0, none⟩ = some (.int .u8 x.toNat)) (c1 : w.cell? ⟨b, 1, none⟩ = some (.int .u8 y.toNat)) :
  Calls Tryz.prog 226 #[.string (bs l), .slice (some ⟨b, 0, none⟩) 2 2] w fun e w' => e = .returned (.tuple #[.string (bs (if l.head? = some x ∨ l.head? = some y then l.tail else l)), .bool (decide (l.head? = some x ∨ l.head? = some y))]) ∧ w = w' := by
 by_cases h : l.head? = some x ∨ l.head? = some y
 ·rw [if_pos h, decide_eq_true h]; exact cutAny_yes (bs l) b x y w c0 c1 h
 ·rw [if_neg h, decide_eq_false h]; exact cutAny_no (bs l) b x y w c0 c1 h
theorem splitDigits_l (l : List UInt8) (w : World) (hs : l.length ≤ maxLen) :
  Calls Tryz.prog 225 #[.string (bs l)] w fun e w' => e = .returned (.tuple #[.string (bs (tw l)), .string (bs (dw l)), .bool (decide (tw l ≠ []))]) ∧ ∃ q, w' = w.drewN q := splitDigits_any (bs l) w (by rw [bs_size]; exact hs)
theorem split_eq (l : List UInt8) : splitL l = if wO (minusL l) = true then behindL (decide (l.head? = some 45)) (wW (minusL l)) (wR (minusL l)) else none := by
 unfold splitL wW wR wO
 by_cases h : (minusL l).head? = some 48
 ·rw [if_pos h, if_pos h, if_pos h, if_pos (decide_eq_true (.inl h))]
 ·rw [if_neg h, if_neg h, if_neg h]
  by_cases g : tw (minusL l) = []
  ·rw [if_pos g, if_neg]
   rw [decide_eq_false (by rintro (a | a); exact h a; exact a g)]; decide
  ·rw [if_neg g, if_pos (decide_eq_true (.inr g))]
/-- Parts as a value. -/
def pv (p : P3) : Value := .agg #[.bool p.neg, .string (bs p.int), .string (bs p.frac), .bool p.minus, .string (bs p.exp)]
theorem len_minus (l : List UInt8) : (minusL l).length ≤ l.length := by unfold minusL; split <;> simp
theorem len_wR (l : List UInt8) : (wR l).length ≤ l.length := by
 unfold wR
 split
 ·simp
 ·exact (List.dropWhile_suffix _).length_le
theorem len_dw (l : List UInt8) : (dw l).length ≤ l.length := (List.dropWhile_suffix _).length_le
theorem len_sign (l : List UInt8) : (signL l).length ≤ l.length := by unfold signL; split <;> simp

set_option maxRecDepth 100000 in
set_option maxHeartbeats 800000 in
theorem split_none1 (l : List UInt8) (w : World) (hs : l.length ≤ maxLen) (ho : wO (minusL l) = false) :
  Calls Tryz.prog 216 #[.string (bs l)] w fun e w' => (∃ p r, e = .returned (.tuple #[pv p, .string (bs r), .bool false]) ∧ r.length ≤ l.length) ∧ Below w.heap.size w w' := by
 have h1 := fun w => cut_any l 45 w
 have h2 := fun w => splitWhole_any (minusL l) w (Nat.le_trans (len_minus l) hs)
 rw [show (if l.head? = some 45 then l.tail else l) = minusL l from rfl] at h1
 have l3 : Hid ((wR (minusL l)).length ≤ l.length) := Nat.le_trans (len_wR _) (len_minus l)
 rw [ho] at h2
 clear ho hs
 generalize decide (l.head? = some 45) = neg at *
 generalize minusL l = m at *
 generalize wW m = W at *
 generalize wR m = R at *
 go_enter Tryz.func216, Tryz.ntmps216
 go_wp2_with (first | (go_at_call 223; with_reducible refine (h1 _).mono ?_; rintro e w' ⟨rfl, rfl⟩) | (go_at_call 224; refine (h2 _).mono ?_; rintro e w' ⟨rfl, q, rfl⟩))
 refine bodyPost_ret (v := .tuple #[.agg #[.bool neg, .string (bs W), .string ⟨#[]⟩, .bool false, .string ⟨#[]⟩], .string (bs R), .bool false]) ?_ rfl ?_
 ·simp [results, Tryz.results216, go_sem]
 ·exact ⟨⟨⟨neg, W, [], false, []⟩, R, rfl, l3.out⟩, (by with_reducible repeat (first | exact Below.refl _ _ | refine bl_d ?_ | refine bl_n ?_ _ | refine bl_a ?_ _ | refine bl_s ?_ (by omega) _))⟩

set_option maxRecDepth 100000 in
set_option maxHeartbeats 800000 in
theorem split_none2 (l : List UInt8) (w : World) (hs : l.length ≤ maxLen) (ho : wO (minusL l) = true) (hf : (wR (minusL l)).head? = some 46) (hd : tw (wR (minusL l)).tail = []) :
  Calls Tryz.prog 216 #[.string (bs l)] w fun e w' => (∃ p r, e = .returned (.tuple #[pv p, .string (bs r), .bool false]) ∧ r.length ≤ l.length) ∧ Below w.heap.size w w' := by
 have h1 := fun w => cut_any l 45 w
 have h2 := fun w => splitWhole_any (minusL l) w (Nat.le_trans (len_minus l) hs)
 have h3 := fun w => cut_any (wR (minusL l)) 46 w
 have l4 : (wR (minusL l)).tail.length ≤ l.length := Nat.le_trans (by simp) (Nat.le_trans (len_wR _) (len_minus l))
 have h4 := fun w => splitDigits_l (wR (minusL l)).tail w (by omega)
 have l3 : Hid ((dw (wR (minusL l)).tail).length ≤ l.length) := Nat.le_trans (len_dw _) l4
 rw [show (if l.head? = some 45 then l.tail else l) = minusL l from rfl] at h1
 rw [ho] at h2
 rw [if_pos hf, decide_eq_true hf] at h3
 rw [decide_eq_false (by rw [hd]; simp)] at h4
 clear ho hs hf hd l4
 generalize decide (l.head? = some 45) = neg at *
 generalize minusL l = m at *
 generalize wW m = W at *
 generalize wR m = R at *
 generalize tw R.tail = T at *
 generalize dw R.tail = U at *
 generalize R.tail = R' at *
 go_enter Tryz.func216, Tryz.ntmps216
 go_wp2_with (first | (go_at_call 223; with_reducible refine (h1 _).mono ?_; rintro e w' ⟨rfl, rfl⟩) | (go_at_call 223; with_reducible refine (h3 _).mono ?_; rintro e w' ⟨rfl, rfl⟩) | (go_at_call 224; refine (h2 _).mono ?_; rintro e w' ⟨rfl, q, rfl⟩) | (go_at_call 225; refine (h4 _).mono ?_; rintro e w' ⟨rfl, q', rfl⟩))
 refine bodyPost_ret (v := .tuple #[.agg #[.bool neg, .string (bs W), .string (bs T), .bool false, .string ⟨#[]⟩], .string (bs U), .bool false]) ?_ rfl ?_
 ·simp [results, Tryz.results216, go_sem]
 ·exact ⟨⟨⟨neg, W, T, false, []⟩, U, rfl, l3.out⟩, (by with_reducible repeat (first | exact Below.refl _ _ | refine bl_d ?_ | refine bl_n ?_ _ | refine bl_a ?_ _ | refine bl_s ?_ (by omega) _))⟩
set_option maxRecDepth 100000 in
set_option maxHeartbeats 1600000 in
theorem split_some00 (l : List UInt8) (w : World) (hs : l.length ≤ maxLen) (ho : wO (minusL l) = true) (hf : ¬ (wR (minusL l)).head? = some 46) (he : ¬ ((wR (minusL l)).head? = some 101 ∨ (wR (minusL l)).head? = some 69)) :
  Calls Tryz.prog 216 #[.string (bs l)] w fun e w' => e = .returned (.tuple #[pv ⟨decide (l.head? = some 45), wW (minusL l), [], false, []⟩, .string (bs (wR (minusL l))), .bool true]) ∧ Below w.heap.size w w' := by
 have h1 := fun w => cut_any l 45 w
 have h2 := fun w => splitWhole_any (minusL l) w (Nat.le_trans (len_minus l) hs)
 have h3 := fun w => cut_any (wR (minusL l)) 46 w
 have l4 : (wR (minusL l)).length ≤ l.length := Nat.le_trans (len_wR _) (len_minus l)
 rw [show (if l.head? = some 45 then l.tail else l) = minusL l from rfl] at h1
 rw [ho] at h2
 rw [if_neg hf, decide_eq_false hf] at h3
 have l6 : (wR (minusL l)).length ≤ l.length := l4
 have h5 := fun b w c0 c1 => cutAny_any (wR (minusL l)) b 101 69 w c0 c1
 rw [if_neg he, decide_eq_false he] at h5
 clear ho hs hf he l4 l6
 generalize decide (l.head? = some 45) = neg at *
 generalize minusL l = m at *
 generalize wW m = W at *
 generalize wR m = R at *
 go_enter Tryz.func216, Tryz.ntmps216
 go_wp2_with (first | (go_at_call 223; with_reducible refine (h1 _).mono ?_; rintro e w' ⟨rfl, rfl⟩) | (go_at_call 223; with_reducible refine (h3 _).mono ?_; rintro e w' ⟨rfl, rfl⟩) | (go_at_call 224; refine (h2 _).mono ?_; rintro e w' ⟨rfl, q, rfl⟩) | (go_at_call 226; with_reducible refine (h5 _ _ ?_ ?_).mono ?_; simp [go_sem]; simp [go_sem]; rintro e w' ⟨rfl, rfl⟩))
 refine bodyPost_ret (v := .tuple #[.agg #[.bool neg, .string (bs W), .string ⟨#[]⟩, .bool false, .string ⟨#[]⟩], .string (bs R), .bool true]) ?_ rfl ?_
 ·simp [results, Tryz.results216, go_sem]
 ·exact ⟨rfl, (by with_reducible repeat (first | exact Below.refl _ _ | refine bl_d ?_ | refine bl_n ?_ _ | refine bl_a ?_ _ | refine bl_s ?_ (by omega) _))⟩

set_option maxRecDepth 100000 in
set_option maxHeartbeats 1600000 in
theorem split_some10 (l : List UInt8) (w : World) (hs : l.length ≤ maxLen) (ho : wO (minusL l) = true) (hf : (wR (minusL l)).head? = some 46) (hd : tw (wR (minusL l)).tail ≠ []) (he : ¬ ((dw (wR (minusL l)).tail).head? = some 101 ∨ (dw (wR (minusL l)).tail).head? = some 69)) :
  Calls Tryz.prog 216 #[.string (bs l)] w fun e w' => e = .returned (.tuple #[pv ⟨decide (l.head? = some 45), wW (minusL l), tw (wR (minusL l)).tail, false, []⟩, .string (bs (dw (wR (minusL l)).tail)), .bool true]) ∧ Below w.heap.size w w' := by
 have h1 := fun w => cut_any l 45 w
 have h2 := fun w => splitWhole_any (minusL l) w (Nat.le_trans (len_minus l) hs)
 have h3 := fun w => cut_any (wR (minusL l)) 46 w
 have l4 : (wR (minusL l)).length ≤ l.length := Nat.le_trans (len_wR _) (len_minus l)
 rw [show (if l.head? = some 45 then l.tail else l) = minusL l from rfl] at h1
 rw [ho] at h2
 have l5 : (wR (minusL l)).tail.length ≤ l.length := Nat.le_trans (by simp) l4
 have h4 := fun w => splitDigits_l (wR (minusL l)).tail w (by omega)
 rw [if_pos hf, decide_eq_true hf] at h3
 rw [decide_eq_true hd] at h4
 have l6 : (dw (wR (minusL l)).tail).length ≤ l.length := Nat.le_trans (len_dw _) l5
 have h5 := fun b w c0 c1 => cutAny_any (dw (wR (minusL l)).tail) b 101 69 w c0 c1
 rw [if_neg he, decide_eq_false he] at h5
 clear ho hs hf he l4 l6 l5 hd
 generalize decide (l.head? = some 45) = neg at *
 generalize minusL l = m at *
 generalize wW m = W at *
 generalize wR m = R at *
 generalize tw R.tail = T at *
 generalize dw R.tail = U at *
 generalize R.tail = R' at *
 go_enter Tryz.func216, Tryz.ntmps216
 go_wp2_with (first | (go_at_call 223; with_reducible refine (h1 _).mono ?_; rintro e w' ⟨rfl, rfl⟩) | (go_at_call 223; with_reducible refine (h3 _).mono ?_; rintro e w' ⟨rfl, rfl⟩) | (go_at_call 224; refine (h2 _).mono ?_; rintro e w' ⟨rfl, q, rfl⟩) | (go_at_call 225; with_reducible refine (h4 _).mono ?_; rintro e w' ⟨rfl, q1, rfl⟩) | (go_at_call 226; with_reducible refine (h5 _ _ ?_ ?_).mono ?_; simp [go_sem]; simp [go_sem]; rintro e w' ⟨rfl, rfl⟩))
 refine bodyPost_ret (v := .tuple #[.agg #[.bool neg, .string (bs W), .string (bs T), .bool false, .string ⟨#[]⟩], .string (bs U), .bool true]) ?_ rfl ?_
 ·simp [results, Tryz.results216, go_sem]
 ·exact ⟨rfl, (by with_reducible repeat (first | exact Below.refl _ _ | refine bl_d ?_ | refine bl_n ?_ _ | refine bl_a ?_ _ | refine bl_s ?_ (by omega) _))⟩

end Go.Proofs.YtjdboekanmfgpaaGreatDoor
