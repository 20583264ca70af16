/-
  What must come at any rate comes: heads answers true. Conditions: the table of greatest code points holds its four numbers.
-/
import Derived.Test.YtibkhbmglnlgkaaDoorA7
namespace Go.Proofs.YtibkhbmglnlgkaaDoor
open Go.RowKit

def fA : Nat → Int := fun i => if i = 0 then 226 else if i = 1 then 40 else 0
def fB : Nat → Int := fun i => if i = 0 then 255 else 0
def fC : Nat → Int := fun i => if i = 0 then 226 else if i = 1 then 130 else if i = 2 then 172 else if i = 3 then 97 else 0
theorem goodA : good 2 fA = (1, false) := by decide
theorem goodB : good 1 fB = (0, false) := by decide
theorem goodC : good 4 fC = (4, true) := by decide
theorem pointsC : points 4 fC = [8364, 97] := by decide

theorem bytes_if2 (a b : Int) (P : Int → Prop) (ha : P a) (hb : P b) (c : Prop) [Decidable c] : P (if c then a else b) := by split <;> assumption

theorem rowA (w : World) (c : Nat) (hc : 2 ≤ c) (hm : c ≤ maxLen) : Row (w.alloc (.cells #[.int .u8 226, .int .u8 40] 5)) (.slice (some ⟨w.heap.size, 0, none⟩) 2 c) 2 fA := by
  refine .inr ⟨_, _, c, rfl, hc, hm, ⟨fun i hi => ?_, fun i => ?_, fun i => ?_⟩⟩
  · match i, hi with
    | 0, _ => simp [fA]
    | 1, _ => simp [fA]
  · unfold fA; repeat' split
    all_goals omega
  · unfold fA; repeat' split
    all_goals omega
theorem rowB (w : World) (c : Nat) (hc : 1 ≤ c) (hm : c ≤ maxLen) : Row (w.alloc (.cells #[.int .u8 255] 5)) (.slice (some ⟨w.heap.size, 0, none⟩) 1 c) 1 fB := by
  refine .inr ⟨_, _, c, rfl, hc, hm, ⟨fun i hi => ?_, fun i => ?_, fun i => ?_⟩⟩
  · match i, hi with
    | 0, _ => simp [fB]
  · unfold fB; repeat' split
    all_goals omega
  · unfold fB; repeat' split
    all_goals omega
theorem fC_lo (i : Nat) : 0 ≤ fC i := by
  unfold fC; repeat' split
  all_goals omega
theorem fC_hi (i : Nat) : fC i < 256 := by
  unfold fC; repeat' split
  all_goals omega
theorem rowC (w : World) (c : Nat) (hc : 4 ≤ c) (hm : c ≤ maxLen) : Row (w.alloc (.cells #[.int .u8 226, .int .u8 130, .int .u8 172, .int .u8 97] 5)) (.slice (some ⟨w.heap.size, 0, none⟩) 4 c) 4 fC := by
  refine .inr ⟨_, _, c, rfl, hc, hm, ⟨fun i hi => ?_, fC_lo, fC_hi⟩⟩
  match i, hi with
  | 0, _ => simp [fC]
  | 1, _ => simp [fC]
  | 2, _ => simp [fC]
  | 3, _ => simp [fC]

theorem Tab.alloc {w : World} (h : Tab w) (h0 : 0 < w.heap.size) (o : Obj) : Tab (w.alloc o) := h.below ((Below.refl _ _).alloc (Nat.le_refl _) o) h0

theorem headA (w : World) (hT : Tab w) (h0 : 0 < w.heap.size) : Calls Tryd.prog 9 #[.slice (some ⟨w.heap.size, 0, none⟩) 2 2] (w.alloc (.cells #[.int .u8 226, .int .u8 40] 5))
    fun e w' => e = .returned (.tuple #[.int .i64 1, .bool false]) ∧ ∃ n, w' = (w.alloc (.cells #[.int .u8 226, .int .u8 40] 5)).drewN n := by
  have := good_any _ 2 fA _ (hT.alloc h0 _) (rowA w 2 (by omega) (by simp [maxLen]))
  rw [goodA] at this
  exact this
theorem headB (w : World) (hT : Tab w) (h0 : 0 < w.heap.size) : Calls Tryd.prog 11 #[.slice (some ⟨w.heap.size, 0, none⟩) 1 1] (w.alloc (.cells #[.int .u8 255] 5))
    fun e w' => e = .returned (.tuple #[.slice none 0 0, .int .i64 10]) ∧ ∃ n, w' = (w.alloc (.cells #[.int .u8 255] 5)).drewN n :=
  points_none _ 1 fB _ (hT.alloc h0 _) (rowB w 1 (by omega) (by simp [maxLen])) (by rw [goodB])
theorem headC (w : World) (hT : Tab w) (h0 : 0 < w.heap.size) : Calls Tryd.prog 11 #[.slice (some ⟨w.heap.size, 0, none⟩) 4 4] (w.alloc (.cells #[.int .u8 226, .int .u8 130, .int .u8 172, .int .u8 97] 5))
    fun e w' => ∃ r, e = .returned (.tuple #[r, .int .i64 0]) ∧ IRow w' r [8364, 97] ∧ Below w.heap.size w w' := by
  have := points_some _ 4 fC _ (hT.alloc h0 _) (rowC w 4 (by omega) (by simp [maxLen])) fC_lo fC_hi (by omega) (by rw [goodC])
  rw [pointsC] at this
  refine this.mono ?_
  rintro e w' ⟨r, h1, h2, h3⟩
  exact ⟨r, h1, IRow.of_own h2, ((Below.refl _ _).alloc (Nat.le_refl _) _).trans (h3.mono (by simp))⟩

theorem irowD (w : World) : IRow (w.alloc (.cells #[.int .i64 8364, .int .i64 97] 3)) (.slice (some ⟨w.heap.size, 0, none⟩) 2 2) [8364, 97] := by
  refine .inr ⟨_, 0, 2, rfl, by simp [maxLen], fun i hi => ?_⟩
  match i, hi with
  | 0, _ => simp
  | 1, _ => simp

theorem IRow.below {w w' : World} {v : Value} {xs : List Int} (h : IRow w v xs) (hb : Below w.heap.size w w') : IRow w' v xs := by
  rcases h with h | ⟨b, off, cap, rfl, hm, hc⟩
  · exact .inl h
  · refine .inr ⟨b, off, cap, rfl, hm, fun i hi => ?_⟩
    have h1 := hc i hi
    have hlt : b < w.heap.size := by
      by_cases z : b < w.heap.size
      · exact z
      · simp [World.cell?, Array.getElem?_eq_none (show w.heap.size ≤ b by omega)] at h1
    rw [hb.cell (p := ⟨b, off + i, none⟩) hlt]; exact h1

theorem intsD (w : World) (r : Value) (h : IRow w r [8364, 97]) : Calls Tryd.prog 13 #[r, .slice (some ⟨w.heap.size, 0, none⟩) 2 2] (w.alloc (.cells #[.int .i64 8364, .int .i64 97] 3))
    fun e w' => e = .returned (.bool true) ∧ ∃ n, w' = (w.alloc (.cells #[.int .i64 8364, .int .i64 97] 3)).drewN n := by
  have := ints_any r _ _ _ _ (h.below ((Below.refl _ _).alloc (Nat.le_refl _) _)) (irowD w)
  simpa using this

set_option maxHeartbeats 400000 in
theorem heads_any (w : World) (hT : Tab w) (h0 : 0 < w.heap.size) :
    Calls Tryd.prog 18 #[] w fun e w' => e = .returned (.bool true) ∧ Below w.heap.size w w' := by
  have hA := headA w hT h0
  go_enter Tryd.func18, Tryd.ntmps18
  go_wp2_with fail
  refine hA.mono ?_
  rintro e w' ⟨rfl, q, rfl⟩
  clear hA
  obtain ⟨w1, hw1⟩ : ∃ w1, w1 = (w.alloc (.cells #[.int .u8 226, .int .u8 40] 5)).drewN q := ⟨_, rfl⟩
  rw [← hw1]
  have hT1 : Tab w1 := by rw [hw1]; exact (hT.alloc h0 _).drewN q
  have hb1 : Below w.heap.size w w1 := by rw [hw1]; exact below_drewN ((Below.refl _ _).alloc (Nat.le_refl _) _) q
  have hz1 := hb1.size
  have hP := pair_ok 55357 56832 w1 hT1 (by omega) (by omega) (by omega) (by omega)
  have hB := headB w1 hT1 (by omega)
  clear hw1 hT
  go_wp2_with fail
  refine hP.mono ?_
  rintro e w' ⟨rfl, rfl⟩
  clear hP
  go_wp2_with fail
  refine hB.mono ?_
  rintro e w' ⟨rfl, q', rfl⟩
  obtain ⟨w2, hw2⟩ : ∃ w2, w2 = (w1.alloc (.cells #[.int .u8 255] 5)).drewN q' := ⟨_, rfl⟩
  rw [← hw2]
  have hT2 : Tab w2 := by rw [hw2]; exact (hT1.alloc (by omega) _).drewN q'
  have hb2 : Below w.heap.size w w2 := by rw [hw2]; exact below_drewN (hb1.alloc hz1 _) q'
  have hz2 := hb2.size
  have hC := headC w2 hT2 (by omega)
  clear hw2 hT1 hB hb1 hz1
  go_wp2_with fail
  refine hC.mono ?_
  rintro e w3 ⟨r, rfl, hR, hb3⟩
  have hb3 : Below w.heap.size w w3 := hb2.trans (hb3.mono hz2)
  have hI := intsD w3 r hR
  have hz3 := hb3.size
  clear hC hb2 hz2 hT2 hR
  go_wp2_with fail
  refine hI.mono ?_
  rintro e w' ⟨rfl, q3, rfl⟩
  go_wp2
  go_ret
  exact ⟨rfl, below_drewN (hb3.alloc hz3 _) q3⟩
end Go.Proofs.YtibkhbmglnlgkaaDoor
