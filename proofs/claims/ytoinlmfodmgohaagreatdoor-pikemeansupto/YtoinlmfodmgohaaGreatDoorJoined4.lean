/-
  What utf.Points answers: the code points of a valid text, or the error. Conditions: the table of greatest code points holds its four numbers; the text is at most 2^44 bytes long.
  Ranges, trees and the reader as they lie in memory; worlds that differ in some blocks and in new ones alone. No condition.
-/
import Derived.Test.YtoinlmfodmgohaaGreatDoorJoined3
import Derived.Lib.OthersKept
import Derived.Test.YtoinlmfodmgohaaGreatDoorJoined1
import Derived.WalkKit
import Derived.Below
import Derived.ProofKit
import Derived.Deep.Light
import Derived.Laws.AppendOwn
namespace Go.Proofs.YtoinlmfodmgohaaGreatDoor
open Go.RowKit

/-- The bytes as a list, and as a text. -/
def bs (len : Nat) (f : Nat → Int) : List UInt8 := (List.range len).map fun i => UInt8.ofNat (f i).toNat
def txt (len : Nat) (f : Nat → Int) : ByteArray := ⟨(bs len f).toArray⟩
theorem bs_length (len : Nat) (f : Nat → Int) : (bs len f).length = len := by simp [bs]
theorem txt_size (len : Nat) (f : Nat → Int) : (txt len f).size = len := by simp [txt, ByteArray.size, bs_length]
theorem bs_at (len : Nat) (f : Nat → Int) (lo : ∀ i, 0 ≤ f i) (hi : ∀ i, f i < 256) (j : Nat) (h : j < (bs len f).length) : (((bs len f)[j]).toNat : Int) = f j := by
  have a := lo j
  have b := hi j
  simp [bs]
  omega
theorem txt_at (len : Nat) (f : Nat → Int) (lo : ∀ i, 0 ≤ f i) (hi : ∀ i, f i < 256) (j : Nat) (h : j < len) : (((txt len f).get! j).toNat : Int) = f j := by
  have := bs_at len f lo hi j (by rw [bs_length]; exact h)
  have e : (txt len f).get! j = (bs len f)[j]'(by rw [bs_length]; exact h) := by
    simp [txt, ByteArray.get!, bs_length, h]
  rw [e]; exact this


theorem conv_row (w : World) (v : Value) (len : Nat) (f : Nat → Int) (hR : Row w v len f) : (convert 35 9 v).run Tryz.prog w = .ok (.string (txt len f)) w := by
  rcases hR with ⟨rfl, a, cap, rfl, _⟩ | ⟨b, off, cap, rfl, hc, hm, hL⟩
  · rcases a with _ | a
    · exact run_convert_bytes_nil (P := Tryz.prog) w 35 5 Tryz.underlying35 Tryz.underlying5 0 cap 9 Tryz.underlying9
    · exact run_convert_bytes_back (P := Tryz.prog) w 35 9 5 a cap [] Tryz.underlying35 Tryz.underlying5 Tryz.underlying9 (fun j hj => absurd hj (by simp))
  · have hcell : ∀ j (hj : j < (bs len f).length), w.cell? ((⟨b, off, none⟩ : Addr).add j) = some (.int .u8 (((bs len f)[j]).toNat : Int)) := by
      intro j hj
      rw [bs_at len f hL.lo hL.hi j hj]
      rw [bs_length] at hj
      rw [add_at]
      exact hL.cell j hj
    have := run_convert_bytes_back (P := Tryz.prog) w 35 9 5 ⟨b, off, none⟩ cap (bs len f) Tryz.underlying35 Tryz.underlying5 Tryz.underlying9 hcell
    rw [bs_length] at this
    exact this

theorem info3 : (Tryz.prog.info? 3).map (fun i => (i.zero, i.size, i.bytes)) = some (some (.int .i64 0), 1, 8) := by kernel_rfl

theorem Row.drewN {w : World} {v : Value} {len : Nat} {f : Nat → Int} (h : Row w v len f) (n : Nat) : Row (w.drewN n) v len f := by
  rcases h with h | ⟨b, off, cap, rfl, hc, hm, hL⟩
  · exact .inl h
  · exact .inr ⟨b, off, cap, rfl, hc, hm, hL.drewN n⟩

/-- The code points, step by step from a place on. -/
def pointsF (len : Nat) (f : Nat → Int) : Nat → Nat → List Int
  | 0, _ => []
  | k + 1, p => if len ≤ p then [] else ptF (fun i => f (p + i)) (stepF (len - p) fun i => f (p + i)).1 :: pointsF len f k (p + (stepF (len - p) fun i => f (p + i)).1)
def points (len : Nat) (f : Nat → Int) : List Int := pointsF len f len 0

theorem ptF_bd (r : Nat) (g : Nat → Int) (n : Nat) (lo : ∀ i, 0 ≤ g i) (h : stepF r g = (n, true)) : 0 ≤ ptF g n ∧ ptF g n ≤ 1114111 := by
  have := lo 0
  rcases step_bytes r g n h with ⟨rfl, a⟩ | ⟨rfl, l, a⟩ | ⟨rfl, l, a⟩ | ⟨rfl, l, a⟩
  all_goals simp [ptF]
  all_goals omega

theorem own_iterAt {w : World} {base : Nat} {e : TypeId} {size : Nat} {v : Value} {n : Nat} {xs : List Value} (h : w.ownsRow base e size v n xs) {k : Nat} {s : ByteArray} {p : Nat} (hk : w.heap[k]? = some (.stringIter s p)) (p' : Nat) : (w.iterAt k s p').ownsRow base e size v n xs := by
  obtain ⟨h1, h2⟩ := h
  refine ⟨h1, ?_⟩
  rcases h2 with h2 | ⟨g, cap, cur, a, b, c, d⟩
  · exact .inl h2
  · have hne : g ≠ k := by
      intro e1
      rw [e1, hk] at c
      cases c
    exact .inr ⟨g, cap, cur, a, b, by rw [Lib.iterAt_other _ _ _ _ _ hne]; exact c, d⟩
theorem own_ne_iter {w : World} {base : Nat} {e : TypeId} {size : Nat} {v : Value} {n : Nat} {xs : List Value} (h : w.ownsRow base e size v n xs) {k : Nat} {s : ByteArray} {p : Nat} (hk : w.heap[k]? = some (.stringIter s p)) : some k ≠ v.ownBlock := by
  rcases h.2 with ⟨rfl, _⟩ | ⟨g, cap, cur, rfl, b, c, d⟩
  · simp [Value.ownBlock]
  · simp only [Value.ownBlock, ne_eq, Option.some.injEq]
    intro e1
    rw [← e1, hk] at c
    cases c

/-- What stands at the head of each round. -/
def PtRel (len : Nat) (f : Nat → Int) (w : World) (B : Nat) (v : Value) (wr : World) : Prop :=
  ∃ (p k : Nat) (xs : List Int), p ≤ len ∧ len ≤ p + k ∧ (goodF len f k p).2 = true ∧ xs ++ pointsF len f k p = points len f ∧ wr.ownsRow B 3 1 v xs.length (xs.map (Value.int .i64)) ∧
    wr.heap[B + 1]? = some (.stringIter (txt len f) p) ∧ Below B w wr ∧ xs.length ≤ p

theorem PtRel_start (len : Nat) (f : Nat → Int) (w : World) (q c : Nat) (hm : c ≤ maxLen) (hg : (good len f).2 = true) :
    PtRel len f w w.heap.size (.slice (some ⟨w.heap.size, 0, none⟩) 0 c) (((w.drewN q).alloc (.cells (madeCells #[.int .i64 0] c) 3)).iter (txt len f) 0) := by
  refine ⟨0, len, [], Nat.zero_le _, by omega, hg, rfl, ?_, ?_, ?_, Nat.zero_le _⟩
  · have := World.ownsRow_made (base := w.heap.size) (e := 3) (size := 1) (w.drewN q) (madeCells #[.int .i64 0] c) c (by simp) hm (by have := size_madeCells #[Value.int .i64 0] (c * 1); simpa using this)
    exact World.ownsRow.alloc (by simpa using this) _
  · have := World.iter_heap ((w.drewN q).alloc (.cells (madeCells #[.int .i64 0] c) 3)) (txt len f) 0
    simpa using this
  · exact ((below_drewN (Below.refl _ _) q).alloc (by simp) _).alloc (by simp) _

/-- What the append leaves. -/
theorem PtRel_next (len : Nat) (f : Nat → Int) (w : World) (B : Nat) (v v' : Value) (w2 w3 : World) (o : Obj) (p k n : Nat) (xs : List Int) (pt : Int)
    (hlt : p < len) (hk : len ≤ p + (k + 1)) (hs : stepF (len - p) (fun i => f (p + i)) = (n, true)) (hpt : pt = ptF (fun i => f (p + i)) n)
    (hg : (goodF len f (k + 1) p).2 = true) (hx : xs ++ pointsF len f (k + 1) p = points len f) (hit : w2.heap[B + 1]? = some (.stringIter (txt len f) (p + n)))
    (hown2 : w2.ownsRow B 3 1 v xs.length (xs.map (Value.int .i64))) (hb2 : Below B w w2) (hB : B ≤ w2.heap.size) (hl : xs.length ≤ p)
    (hown : w3.ownsRow B 3 1 v' (xs.length + 1) (xs.map (Value.int .i64) ++ [.int .i64 pt])) (hgrow : (w2.alloc o).grownBy w3 v.ownBlock) : PtRel len f w B v' w3 ∧ len - w3.iterPos (B + 1) < len - p := by
  have hn := stepF_le (len - p) (fun i => f (p + i)) (by omega)
  have hn1 := stepF_pos (len - p) (fun i => f (p + i))
  have e1 : (stepF (len - p) fun i => f (p + i)).1 = n := by rw [hs]
  have e2 : (stepF (len - p) fun i => f (p + i)).2 = true := by rw [hs]
  rw [e1] at hn hn1
  have hn1 := hn1 e2
  have hlt2 : B + 1 < w2.heap.size := (Array.getElem?_eq_some_iff.1 hit).1
  have hit3 : w3.heap[B + 1]? = some (.stringIter (txt len f) (p + n)) := by
    rw [hgrow.block (B + 1) (by simp; omega) (own_ne_iter hown2 hit)]
    rw [Below.heap_alloc _ _ _ hlt2]; exact hit
  refine ⟨⟨p + n, k, xs ++ [pt], by omega, by omega, ?_, ?_, ?_, hit3, ?_, by simp; omega⟩, by rw [iterPos_of hit3]; omega⟩
  · unfold goodF at hg
    rw [if_neg (by omega), if_pos e2, e1] at hg
    exact hg
  · unfold pointsF at hx
    rw [if_neg (by omega), e1, ← hpt] at hx
    simpa using hx
  · simpa using hown
  · exact (hb2.alloc hB o).grown hgrow (by simp; omega) (fun j hj => (hown2.lt j hj).1)

set_option maxHeartbeats 400000 in
theorem points_some (v : Value) (len : Nat) (f : Nat → Int) (w : World) (hT : Tab w) (hR : Row w v len f) (lo : ∀ i, 0 ≤ f i) (up : ∀ i, f i < 256) (hm : len ≤ 17592186044416) (hg : (good len f).2 = true) :
    Calls Tryz.prog 56 #[v] w fun e w' => ∃ r, e = .returned (.tuple #[r, .int .i64 0]) ∧ w'.ownsRow w.heap.size 3 1 r (points len f).length ((points len f).map (Value.int .i64)) ∧ Below w.heap.size w w' := by
  obtain ⟨i0, hi, hz0, hz1, hz2⟩ := info_parts info3
  have hgood : Calls Tryz.prog 86 #[v] w fun e w' => e = .returned (.tuple #[.int .i64 ((good len f).1 : Nat), .bool true]) ∧ ∃ n, w' = w.drewN n := by rw [← hg]; exact good_any v len f w hT hR
  have hconv : ∀ q, (convert 35 9 v).run Tryz.prog (w.drewN q) = .ok (.string (txt len f)) (w.drewN q) := fun q => conv_row _ _ _ _ (hR.drewN q)
  have hcnt := fun w => count_any (txt len f) w (by rw [txt_size]; unfold maxLen; omega)
  have hcb := countS_le (txt len f).data.toList
  have hcl : (txt len f).data.toList.length = len := txt_size len f
  obtain ⟨c, hc⟩ : ∃ c : Nat, countS (txt len f).data.toList = c := ⟨(countS (txt len f).data.toList).toNat, by omega⟩
  rw [hc] at hcnt hcb
  have hmk : ∀ w, (Instr.makeSlice 32 (.int .i64 0) (.int .i64 (c : Int))).run Tryz.prog w = .ok (.slice (some ⟨w.heap.size, 0, none⟩) 0 c) (w.alloc (.cells (madeCells #[.int .i64 0] c) 3)) := by
    intro w
    have := run_make (P := Tryz.prog) w 32 3 i0 (.int .i64 0) Tryz.underlying32 hi hz0 .i64 .i64 0 (c : Int) (by omega) (by omega) (by rw [hz2]; omega) (by omega)
    rw [hz1] at this
    simpa [Value.cells] using this
  have hcntw : ∀ w, Calls Tryz.prog 87 #[.string (txt len f)] w fun e w' => e = .returned (.int .i64 (c : Int)) ∧ w = w' := fun w => (hcnt w).mono fun e w' h => ⟨h.1, h.2.symm⟩
  have hcm : c ≤ maxLen := by unfold maxLen; omega
  have HG : Hid ((good len f).2 = true) := hg
  have HC : Hid (countS (txt len f).data.toList = c) := hc
  clear hcnt hc hg
  go_enter Tryz.func56, Tryz.ntmps56
  go_wp2_with (first | (go_at_call 86; refine hgood.mono ?_; rintro e w' ⟨rfl, q, rfl⟩) | (go_at_call 87; refine (hcntw _).mono ?_; rintro e w' ⟨rfl, rfl⟩))
  clear hgood hconv hmk hcntw
  go_loopw [7] (fun t wr => PtRel len f w w.heap.size t wr) (fun _ wr => len - wr.iterPos (w.heap.size + 1))
  case atStart => exact PtRel_start len f w q c hcm HG.out
  case round =>
    obtain ⟨p, k, xs, hp, hk, hgk, hx, hown, hit, hb, hxl⟩ := hrel
    by_cases hlt : p < len
    · obtain ⟨k', rfl⟩ : ∃ k', k = k' + 1 := ⟨k - 1, by omega⟩
      obtain ⟨n, hs⟩ : ∃ n, stepF (len - p) (fun i => f (p + i)) = (n, true) := by
        have := hgk
        unfold goodF at this
        rw [if_neg (by omega)] at this
        by_cases z : (stepF (len - p) fun i => f (p + i)).2 = true
        · exact ⟨_, Prod.ext rfl z⟩
        · rw [if_neg z] at this; cases this
      have hdec := decode_step (txt len f) p (len - p) n (fun i => f (p + i)) (fun i hi => txt_at len f lo up (p + i) (by omega)) (by rw [txt_size]; omega) (by omega) hs
      have hbd := ptF_bd _ _ _ (fun i => lo (p + i)) hs
      obtain ⟨pt, hpt⟩ : ∃ pt, pt = ptF (fun i => f (p + i)) n := ⟨_, rfl⟩
      rw [← hpt] at hdec hbd
      have hnx := fun ty => Lib.run_next_any_at (P := Tryz.prog) wr (w.heap.size + 1) (txt len f) p ty hit (by rw [txt_size]; exact hlt)
      rw [hdec] at hnx
      obtain ⟨w2, hw2⟩ : ∃ w2, w2 = wr.iterAt (w.heap.size + 1) (txt len f) (p + n) := ⟨_, rfl⟩
      have hit2 : w2.heap[w.heap.size + 1]? = some (.stringIter (txt len f) (p + n)) := by rw [hw2]; exact Lib.iterAt_heap _ _ _ _ _ hit
      have hown2 : w2.ownsRow w.heap.size 3 1 u7 xs.length (xs.map (Value.int .i64)) := by rw [hw2]; exact own_iterAt hown hit _
      have hb2 : Below w.heap.size w w2 := by rw [hw2]; exact Lib.below_iterAt hb (by omega) _ _
      have hsz : w.heap.size ≤ w2.heap.size := hb2.size
      have hnx2 : ∀ ty, (Instr.next (.pointer (some ⟨w.heap.size + 1, 0, none⟩)) true ty).run Tryz.prog wr = .ok (.tuple #[.bool true, .int .i64 p, .int .i32 pt]) w2 := by
        intro ty; rw [hnx ty, hw2]; simp; omega
      have HPN := fun v' w3 o h g => PtRel_next len f w w.heap.size u7 v' w2 w3 o p k' n xs pt hlt hk hs hpt hgk hx hit2 hown2 hb2 hsz hxl h g
      have hip := iterPos_of hit
      clear hw2 hnx hdec hs hpt hgk hx hit hown hb
      go_wp2_with (at_builtin; refine wpList_append_own _ rfl _ _ 32 rfl w.heap.size 3 i0 (.int .i64 0) 1 8 Tryz.underlying32 hi hz0 hz1 hz2 rfl (by decide) _ _ _ rfl (hown2.alloc _) ⟨w2.heap.size, 0, none⟩ 1 1 [.int .i64 pt] rfl rfl ?c1 ?c2 ?c3 ?c4 ?c5 ?_)
      case c1 =>
        intro j u hj
        match j, hj with
        | 0, hj => simp at hj; subst hj; simp [Addr.add]
      case c2 => intro u hu; simp at hu; subst hu; rfl
      case c3 => unfold maxLen; omega
      case c4 => omega
      case c5 => simp; omega
      · intro v' w3 hown3 hgrow3 _
        obtain ⟨R1, R2⟩ := HPN v' w3 _ hown3 hgrow3
        have HR : Hid (PtRel len f w w.heap.size v' w3) := R1
        have HM : Hid (len - w3.iterPos (w.heap.size + 1) < len - p) := R2
        clear R1 R2 HPN hown3 hgrow3 hown2 hit2 hb2
        go_wp2
        go_roundw
        case rel => exact HR.out
        case measure => rw [hip]; exact HM.out
    · have e : p = len := by omega
      subst e
      have hnx := fun ty => Lib.run_next_end_at (P := Tryz.prog) wr (w.heap.size + 1) (txt p f) p ty hit (by rw [txt_size]; omega)
      have hxx : xs = points p f := by
        rw [← hx]
        cases k with
        | zero => simp [pointsF]
        | succ k => simp [pointsF]
      subst hxx
      clear hit hgk hx
      go_wp2
      go_ret2
      exact ⟨_, rfl, hown, hb⟩

set_option maxHeartbeats 400000 in
theorem points_none (v : Value) (len : Nat) (f : Nat → Int) (w : World) (hT : Tab w) (hR : Row w v len f) (hg : (good len f).2 = false) :
    Calls Tryz.prog 56 #[v] w fun e w' => e = .returned (.tuple #[.slice none 0 0, .int .i64 10]) ∧ ∃ n, w' = w.drewN n := by
  have hgood : Calls Tryz.prog 86 #[v] w fun e w' => e = .returned (.tuple #[.int .i64 ((good len f).1 : Nat), .bool false]) ∧ ∃ n, w' = w.drewN n := by rw [← hg]; exact good_any v len f w hT hR
  go_enter Tryz.func56, Tryz.ntmps56
  go_wp2_with (go_at_call 86; refine hgood.mono ?_; rintro e w' ⟨rfl, q, rfl⟩)
  go_ret2
  exact ⟨rfl, _, rfl⟩
end Go.Proofs.YtoinlmfodmgohaaGreatDoor

namespace Go.Proofs.YtoinlmfodmgohaaGreatDoor
open Go.RowKit
attribute [local go_sem] setCell_drewN alloc_drewN

theorem hid_intro {p : Prop} (h : p) : Hid p := h
theorem vb_d {B : Nat} {a w : World} (h : Below B a w) : Below B a w.drew := ⟨h.os, h.tape, h.output, h.size, h.block⟩
theorem vb_n {B : Nat} {a w : World} (h : Below B a w) (n : Nat) : Below B a (w.drewN n) := ⟨h.os, h.tape, h.output, h.size, h.block⟩
theorem vb_a {a w : World} (h : Below a.heap.size a w) (o : Obj) : Below a.heap.size a (w.alloc o) := h.alloc h.size o
theorem vb_s {a w : World} (h : Below a.heap.size a w) {b o : Nat} (hb : a.heap.size ≤ b) (v : Value) : Below a.heap.size a (w.setCell ⟨b, o, none⟩ v) := h.setCell hb v
theorem vb_t {a w w2 : World} (h : Below a.heap.size a w) (h2 : Below w.heap.size w w2) : Below a.heap.size a w2 := h.trans (h2.mono h.size)
theorem Tab.below {w w' : World} (h : Tab w) (hb : Below w.heap.size w w') : Tab w' := by
  have key : ∀ o v, w.cell? ⟨0, o, none⟩ = some v → w'.cell? ⟨0, o, none⟩ = some v := fun o v hv => by
    rw [hb.cell (World.block_lt_of_cell? w _ hv)]; exact hv
  exact ⟨key _ _ h.t0, key _ _ h.t1, key _ _ h.t2, key _ _ h.t3⟩

/-- Blocks that were there are as they were, but for those of X. -/
structure But (X : Nat → Prop) (w w' : World) : Prop where
  os : w'.os = w.os
  tape : w'.tape = w.tape
  output : w'.output = w.output
  size : w.heap.size ≤ w'.heap.size
  block : ∀ k, k < w.heap.size → ¬ X k → w'.heap[k]? = w.heap[k]?
theorem But.refl (X : Nat → Prop) (w : World) : But X w w := ⟨rfl, rfl, rfl, Nat.le_refl _, fun _ _ _ => rfl⟩
theorem But.trans {X : Nat → Prop} {a b c : World} (h : But X a b) (k : But X b c) : But X a c :=
  ⟨k.os.trans h.os, k.tape.trans h.tape, k.output.trans h.output, Nat.le_trans h.size k.size, fun i hi hx => (k.block i (Nat.lt_of_lt_of_le hi h.size) hx).trans (h.block i hi hx)⟩
theorem But.ofBelow {X : Nat → Prop} {a b : World} (h : Below a.heap.size a b) : But X a b := ⟨h.os, h.tape, h.output, h.size, fun k hk _ => h.block k hk⟩
theorem But.below {X : Nat → Prop} {a b c : World} (h : But X a b) (k : Below b.heap.size b c) : But X a c := h.trans (But.ofBelow k)
theorem But.alloc {X : Nat → Prop} {a w : World} (h : But X a w) (o : Obj) : But X a (w.alloc o) := h.below (vb_a (Below.refl _ _) o)
theorem But.drew {X : Nat → Prop} {a w : World} (h : But X a w) : But X a w.drew := ⟨h.os, h.tape, h.output, h.size, h.block⟩
theorem But.drewN {X : Nat → Prop} {a w : World} (h : But X a w) (n : Nat) : But X a (w.drewN n) := ⟨h.os, h.tape, h.output, h.size, h.block⟩
theorem But.set {X : Nat → Prop} {a w : World} (h : But X a w) {p : Addr} (hp : X p.block ∨ a.heap.size ≤ p.block) (u : Value) : But X a (w.setCell p u) :=
  ⟨h.os, h.tape, h.output, by have := h.size; simpa [World.setCell] using this, fun k hk hx => (Below.heap_setCell _ _ _ _ (by rcases hp with hp | hp; exact fun e => hx (e ▸ hp); omega)).trans (h.block k hk hx)⟩
theorem But.grown {X : Nat → Prop} {a w w' : World} {o : Option Nat} (h : But X a w) (g : w.grownBy w' o) (ho : ∀ b, o = some b → X b ∨ a.heap.size ≤ b) : But X a w' :=
  ⟨g.os.trans h.os, g.tape.trans h.tape, g.output.trans h.output, Nat.le_trans h.size g.size, fun k hk hx => (g.block k (Nat.lt_of_lt_of_le hk h.size) (fun e => by rcases ho k e.symm with h' | h'; exact hx h'; omega)).trans (h.block k hk hx)⟩
theorem But.tab {X : Nat → Prop} {w w' : World} (hb : But X w w') (h : Tab w) (hx : ¬ X 0) : Tab w' := by
  have key : ∀ o v, w.cell? ⟨0, o, none⟩ = some v → w'.cell? ⟨0, o, none⟩ = some v := fun o v hv =>
    (World.cell?_of_block (w := w) (w' := w') (hb.block _ (World.block_lt_of_cell? w _ hv) hx)).trans hv
  exact ⟨key _ _ h.t0, key _ _ h.t1, key _ _ h.t2, key _ _ h.t3⟩

/-- A number of 64 bits. -/
def I64 (k : Int) : Prop := -9223372036854775808 ≤ k ∧ k ≤ 9223372036854775807
/-- One of a row of ranges. -/
def ra (l : List (Int × Int)) (i : Nat) : Int × Int := l.getD i (0, 0)
theorem ra_mem {l : List (Int × Int)} {i : Nat} (h : i < l.length) : ra l i ∈ l := by
  unfold ra; rw [List.getD_eq_getElem?_getD, List.getElem?_eq_getElem h]; exact List.getElem_mem h
theorem ra_get {l : List (Int × Int)} {i : Nat} (h : i < l.length) : ra l i = l[i] := by
  unfold ra; rw [List.getD_eq_getElem?_getD, List.getElem?_eq_getElem h]; rfl
/-- A row of ranges in a world, outside of blocks that may be written yet. -/
def RI (w : World) (X : Nat → Prop) (l : List (Int × Int)) (v : Value) : Prop :=
  ∃ ao cap, v = .slice ao l.length cap ∧ l.length ≤ cap ∧ cap ≤ maxLen ∧ (∀ r ∈ l, I64 r.1 ∧ I64 r.2) ∧
    (l = [] ∨ ∃ b off, ao = some ⟨b, off, none⟩ ∧ ¬ X b ∧ ∀ i, i < l.length → w.cell? ⟨b, off + i * 2, none⟩ = some (.int .i64 (ra l i).1) ∧ w.cell? ⟨b, off + i * 2 + 1, none⟩ = some (.int .i64 (ra l i).2))
theorem RI.carry {w w' : World} {X X' : Nat → Prop} {l : List (Int × Int)} {v : Value} (h : RI w X l v) (hX : ∀ b, ¬ X b → b < w.heap.size → w'.heap[b]? = w.heap[b]? ∧ ¬ X' b) : RI w' X' l v := by
  obtain ⟨ao, cap, e, h1, h2, h3, h4⟩ := h
  refine ⟨ao, cap, e, h1, h2, h3, ?_⟩
  rcases h4 with h4 | ⟨b, off, h5, h6, h7⟩
  · exact Or.inl h4
  · by_cases hk : l = []
    · exact Or.inl hk
    have h0 : 0 < l.length := List.length_pos_iff.2 hk
    have hb : b < w.heap.size := World.block_lt_of_cell? w _ (h7 0 h0).1
    have hx := hX b h6 hb
    exact Or.inr ⟨b, off, h5, hx.2, fun i hi => ⟨(World.cell?_of_block (w := w) (w' := w') hx.1).trans (h7 i hi).1, (World.cell?_of_block (w := w) (w' := w') hx.1).trans (h7 i hi).2⟩⟩
theorem RI.kept {w w' : World} {X : Nat → Prop} {l : List (Int × Int)} {v : Value} (h : RI w X l v) (hb : Below w.heap.size w w') : RI w' X l v := h.carry fun b hx hlt => ⟨hb.block b hlt, hx⟩
theorem RI.nil (w : World) (X : Nat → Prop) : RI w X [] (.slice none 0 0) := ⟨none, 0, rfl, Nat.le_refl _, by unfold maxLen; omega, fun r hr => by simp at hr, Or.inl rfl⟩
theorem RI.shape {w : World} {X : Nat → Prop} {l : List (Int × Int)} {v : Value} (h : RI w X l v) : ∃ ao cap, v = .slice ao l.length cap ∧ l.length ≤ maxLen := by
  obtain ⟨ao, cap, e, h1, h2, _⟩ := h
  exact ⟨ao, cap, e, Nat.le_trans h1 h2⟩
theorem RI.but {w w' : World} {X Y : Nat → Prop} {l : List (Int × Int)} {v : Value} (h : RI w X l v) (hb : But Y w w') (hxy : ∀ b, Y b → X b) : RI w' X l v := h.carry fun b hx hlt => ⟨hb.block b hlt (fun hy => hx (hxy b hy)), hx⟩
theorem RI.weak {w : World} {X Y : Nat → Prop} {l : List (Int × Int)} {v : Value} (h : RI w X l v) (hxy : ∀ b, Y b → X b) : RI w Y l v := h.carry fun b hx _ => ⟨rfl, fun hy => hx (hxy b hy)⟩

/-- A tree's six cells. -/
inductive XI (w : World) (X : Nat → Prop) : RX → (Nat → Value) → Prop
  | mk {k : Int} {r : List (Int × Int)} {lo hi : Int} {z : Bool} {s : List RX} {f : Nat → Value} (ao : Option Addr) (cap : Nat) (G : Nat → Nat → Value)
    (f0 : f 0 = .int .i64 k) (f1 : RI w X r (f 1)) (f2 : f 2 = .int .i64 lo) (f3 : f 3 = .int .i64 hi) (f4 : f 4 = .bool z) (f5 : f 5 = .slice ao s.length cap)
    (hc : s.length ≤ cap ∧ cap ≤ maxLen) (hw : I64 k ∧ I64 lo ∧ I64 hi)
    (hl : s = [] ∨ ∃ b off, ao = some ⟨b, off, none⟩ ∧ ¬ X b ∧ ∀ i, i < s.length → ∀ j, j < 6 → w.cell? ⟨b, off + i * 6 + j, none⟩ = some (G i j))
    (hr : ∀ i (h : i < s.length), XI w X s[i] (G i)) : XI w X (.mk k r lo hi z s) f
/-- The tree's value itself. -/
def xa (f : Nat → Value) : Value := .agg #[f 0, f 1, f 2, f 3, f 4, f 5]
theorem XI.carry {w w' : World} {X X' : Nat → Prop} {v : RX} {f : Nat → Value} (h : XI w X v f) (hX : ∀ b, ¬ X b → b < w.heap.size → w'.heap[b]? = w.heap[b]? ∧ ¬ X' b) : XI w' X' v f := by
  induction h with
  | mk ao cap G f0 f1 f2 f3 f4 f5 hc hw hl hr ih =>
    refine XI.mk ao cap G f0 (f1.carry hX) f2 f3 f4 f5 hc hw ?_ ih
    rcases hl with h4 | ⟨b, off, h5, h6, h7⟩
    · exact Or.inl h4
    · rename_i s _
      by_cases hk : s = []
      · exact Or.inl hk
      have h0 : 0 < s.length := List.length_pos_iff.2 hk
      have hb : b < w.heap.size := World.block_lt_of_cell? w _ (h7 0 h0 0 (by omega))
      have hx := hX b h6 hb
      exact Or.inr ⟨b, off, h5, hx.2, fun i hi j hj => (World.cell?_of_block (w := w) (w' := w') hx.1).trans (h7 i hi j hj)⟩
theorem XI.kept {w w' : World} {X : Nat → Prop} {v : RX} {f : Nat → Value} (h : XI w X v f) (hb : Below w.heap.size w w') : XI w' X v f := h.carry fun b hx hlt => ⟨hb.block b hlt, hx⟩
theorem XI.but {w w' : World} {X Y : Nat → Prop} {v : RX} {f : Nat → Value} (h : XI w X v f) (hb : But Y w w') (hxy : ∀ b, Y b → X b) : XI w' X v f := h.carry fun b hx hlt => ⟨hb.block b hlt (fun hy => hx (hxy b hy)), hx⟩
theorem XI.weak {w : World} {X Y : Nat → Prop} {v : RX} {f : Nat → Value} (h : XI w X v f) (hxy : ∀ b, Y b → X b) : XI w Y v f := h.carry fun b hx _ => ⟨rfl, fun hy => hx (hxy b hy)⟩

/-- The reader: the code points that are left, and how many groups are open. -/
def RD (w : World) (rb : Nat) (l : List Int) (g : Int) : Prop :=
  ∃ (ao : Option Addr) (n cap a : Nat), w.cell? ⟨rb, 0, none⟩ = some (.slice ao n cap) ∧ w.cell? ⟨rb, 1, none⟩ = some (.int .i64 (a : Int)) ∧ w.cell? ⟨rb, 2, none⟩ = some (.int .i64 g) ∧
    (∀ o, w.frozen? ⟨rb, o, none⟩ = false) ∧ a + l.length = n ∧ n ≤ cap ∧ n ≤ 4096 ∧ (∀ c ∈ l, 0 ≤ c ∧ c ≤ 1114111) ∧ (0 ≤ g ∧ g ≤ 201) ∧
    (l = [] ∨ ∃ pb po, ao = some ⟨pb, po, none⟩ ∧ pb < rb ∧ ∀ i, i < l.length → w.cell? ⟨pb, po + (a + i), none⟩ = some (.int .i64 (pk l i)))
theorem RD.lt {w : World} {rb : Nat} {l : List Int} {g : Int} (h : RD w rb l g) : rb < w.heap.size := by
  obtain ⟨_, _, _, _, c0, _⟩ := h
  exact World.block_lt_of_cell? w _ c0
theorem RD.below {w w' : World} {rb : Nat} {l : List Int} {g : Int} (h : RD w rb l g) (hb : Below w.heap.size w w') : RD w' rb l g := by
  have hlt := h.lt
  obtain ⟨ao, n, cap, a, c0, c1, c2, fr, h1, h2, h3, h4, h5, h6⟩ := h
  refine ⟨ao, n, cap, a, (hb.cell (p := ⟨rb, 0, none⟩) hlt).trans c0, (hb.cell (p := ⟨rb, 1, none⟩) hlt).trans c1, (hb.cell (p := ⟨rb, 2, none⟩) hlt).trans c2, fun o => (hb.frozen (p := ⟨rb, o, none⟩) hlt).trans (fr o), h1, h2, h3, h4, h5, ?_⟩
  rcases h6 with h6 | ⟨pb, po, e, hne, h7⟩
  · exact Or.inl h6
  · exact Or.inr ⟨pb, po, e, hne, fun i hi => (hb.cell (p := ⟨pb, po + (a + i), none⟩) (World.block_lt_of_cell? w _ (h7 i hi))).trans (h7 i hi)⟩
theorem pk_drop (l : List Int) (k i : Nat) : pk (l.drop k) i = pk l (k + i) := by
  simp [pk, List.getD_eq_getElem?_getD, List.getElem?_drop]
theorem pk_mem {l : List Int} {i : Nat} (h : i < l.length) : pk l i ∈ l := by
  unfold pk; rw [List.getD_eq_getElem?_getD, List.getElem?_eq_getElem h]; exact List.getElem_mem h
theorem pk_out {l : List Int} {i : Nat} (h : l.length ≤ i) : pk l i = -1 := by
  unfold pk; rw [List.getD_eq_getElem?_getD, List.getElem?_eq_none h]; rfl
/-- Passing over some. -/
theorem RD.adv {w : World} {rb : Nat} {l : List Int} {g : Int} (h : RD w rb l g) (k : Nat) (hk : k ≤ l.length) (a : Nat) (ha : w.cell? ⟨rb, 1, none⟩ = some (.int .i64 (a : Int))) (x : Int) (hx : x = (a : Int) + k) : RD (w.setCell ⟨rb, 1, none⟩ (.int .i64 x)) rb (l.drop k) g := by
  obtain ⟨ao, n, cap, a', c0, c1, c2, fr, h1, h2, h3, h4, h5, h6⟩ := h
  obtain rfl : a = a' := by rw [ha] at c1; simp at c1; omega
  subst hx
  have oth : ∀ p : Addr, (⟨rb, 1, none⟩ : Addr) ≠ p → ∀ v, (w.setCell ⟨rb, 1, none⟩ v).cell? p = w.cell? p := fun p hp v => World.cell?_setCell_other _ _ _ _ hp
  refine ⟨ao, n, cap, a + k, ?_, ?_, ?_, fun o => by rw [World.frozen?_setCell]; exact fr o, by simp only [List.length_drop]; omega, h2, h3, fun c hc => h4 c (List.mem_of_mem_drop hc), h5, ?_⟩
  · rw [oth _ (by simp)]; exact c0
  · rw [World.cell?_setCell_same _ _ _ ha]; simp
  · rw [oth _ (by simp)]; exact c2
  · rcases h6 with h6 | ⟨pb, po, e, hne, h7⟩
    · subst h6; simp
    · by_cases hz : l.drop k = []
      · exact Or.inl hz
      refine Or.inr ⟨pb, po, e, hne, fun i hi => ?_⟩
      rw [oth _ (by intro he; injection he with he1; omega), pk_drop, show po + (a + k + i) = po + (a + (k + i)) by omega]
      exact h7 (k + i) (by simp only [List.length_drop] at hi; omega)
/-- The count of groups turned. -/
theorem RD.grp {w : World} {rb : Nat} {l : List Int} {g : Int} (h : RD w rb l g) (x : Int) (hx : 0 ≤ x ∧ x ≤ 201) : RD (w.setCell ⟨rb, 2, none⟩ (.int .i64 x)) rb l x := by
  obtain ⟨ao, n, cap, a, c0, c1, c2, fr, h1, h2, h3, h4, h5, h6⟩ := h
  have oth : ∀ p : Addr, (⟨rb, 2, none⟩ : Addr) ≠ p → ∀ v, (w.setCell ⟨rb, 2, none⟩ v).cell? p = w.cell? p := fun p hp v => World.cell?_setCell_other _ _ _ _ hp
  refine ⟨ao, n, cap, a, ?_, ?_, ?_, fun o => by rw [World.frozen?_setCell]; exact fr o, h1, h2, h3, h4, hx, ?_⟩
  · rw [oth _ (by simp)]; exact c0
  · rw [oth _ (by simp)]; exact c1
  · exact World.cell?_setCell_same _ _ _ c2
  · rcases h6 with h6 | ⟨pb, po, e, hne, h7⟩
    · exact Or.inl h6
    · exact Or.inr ⟨pb, po, e, hne, fun i hi => by rw [oth _ (by intro he; injection he with he1; omega)]; exact h7 i hi⟩
/-- A store into a block behind the reader's. -/
theorem RD.away {w : World} {rb : Nat} {l : List Int} {g : Int} (h : RD w rb l g) {b o : Nat} (hb : rb < b) (u : Value) : RD (w.setCell ⟨b, o, none⟩ u) rb l g := by
  obtain ⟨ao, n, cap, a, c0, c1, c2, fr, h1, h2, h3, h4, h5, h6⟩ := h
  have oth : ∀ p : Addr, p.block < b → (w.setCell ⟨b, o, none⟩ u).cell? p = w.cell? p := fun p hp => World.cell?_setCell_other _ _ _ _ (by intro e; rw [← e] at hp; exact Nat.lt_irrefl _ hp)
  refine ⟨ao, n, cap, a, (oth _ hb).trans c0, (oth _ hb).trans c1, (oth _ hb).trans c2, fun o' => by rw [World.frozen?_setCell]; exact fr o', h1, h2, h3, h4, h5, ?_⟩
  rcases h6 with h6 | ⟨pb, po, e, hne, h7⟩
  · exact Or.inl h6
  · exact Or.inr ⟨pb, po, e, hne, fun i hi => (oth _ (by show pb < b; omega)).trans (h7 i hi)⟩
theorem RI.set {w : World} {X : Nat → Prop} {l : List (Int × Int)} {v : Value} (h : RI w X l v) {a : Addr} (ha : X a.block) (u : Value) : RI (w.setCell a u) X l v :=
  h.carry fun b hx _ => ⟨Below.heap_setCell w a u b (fun e => hx (e ▸ ha)), hx⟩
theorem XI.set {w : World} {X : Nat → Prop} {t : RX} {f : Nat → Value} (h : XI w X t f) {a : Addr} (ha : X a.block) (u : Value) : XI (w.setCell a u) X t f :=
  h.carry fun b hx _ => ⟨Below.heap_setCell w a u b (fun e => hx (e ▸ ha)), hx⟩
/-- The panic with ErrRx. -/
abbrev stopX : Ending := .panicked [{ v := .iface 25 (.int .i64 90), recovered := false }]
end Go.Proofs.YtoinlmfodmgohaaGreatDoor
