/-
  What nat.Div and nat.Compare answer of numbers that are known by what they are worth. Conditions: the numbers have at most 1000 limbs.
-/
import Derived.Test.YtmhplblmabiekaaN1
import Derived.Test.YtmhplblmabiekaaE5
namespace Go.Proofs.Ytmhplblmabiekaa
open Go.RowKit

theorem num_pos_len {n : Nat} {f : Nat → Int} {B : Int} (hc : Can n f) (hB : 0 < B) (e : val f n = B) : 0 < n := by
  by_cases z : 0 < n
  · exact z
  · have : n = 0 := by omega
    subst this
    rw [val_zero] at e; omega
theorem divided_num (v0 v1 : Value) (A B : Int) (w : World) (h0 : Num w v0 A) (h1 : Num w v1 B) (hA : A < pw 1000) (hB : 0 < B) :
    Calls Try.prog 34 #[v0, v1] w fun e w' => ∃ rq, ∃ rr, e = .returned (.tuple #[rq, rr]) ∧ Divides w' rq rr A B ∧ Below w.heap.size w w' := by
  obtain ⟨n, f, r0, c0, e0⟩ := h0
  obtain ⟨m, g, r1, c1, e1⟩ := h1
  have := can_le c0 (k := 1000) (by rw [e0]; exact hA)
  have := divided_any v0 v1 n m f g w r0 r1 c0 c1 (num_pos_len c1 hB e1) (by omega)
  rw [e0, e1] at this
  exact this
theorem div_num (v0 v1 : Value) (A B : Int) (w : World) (h0 : Num w v0 A) (h1 : Num w v1 B) (hA : A < pw 1000) (hB : 0 < B) :
    Calls Try.prog 18 #[v0, v1] w fun e w' => ∃ rq, ∃ rr, e = .returned (.tuple #[rq, rr, .int .i64 0]) ∧ Divides w' rq rr A B ∧ Below w.heap.size w w' := by
  obtain ⟨n, f, r0, c0, e0⟩ := h0
  obtain ⟨m, g, r1, c1, e1⟩ := h1
  exact div_ok v0 v1 A B n m f g w r0 r1 c0 c1 (num_pos_len c1 hB e1) (fun w' k0 k1 => divided_num v0 v1 A B w' ⟨n, f, k0, c0, e0⟩ ⟨m, g, k1, c1, e1⟩ hA hB)
set_option maxHeartbeats 400000 in
theorem compare_num (v0 v1 : Value) (A B : Int) (w : World) (h0 : Num w v0 A) (h1 : Num w v1 B) :
    Calls Try.prog 9 #[v0, v1] w fun e w' => e = .returned (.tuple #[.int .i64 (cmpI A B), .int .i64 0]) ∧ Below w.heap.size w w' := by
  obtain ⟨n, f, r0, c0, e0⟩ := h0
  obtain ⟨m, g, r1, c1, e1⟩ := h1
  have hk := (checked_new v0 v1 n m f g w r0 r1).1 c0 c1
  have hc := compared_any v0 v1 n m f g _ (r0.alloc (.cells #[v0, v1] 22)) (r1.alloc _) c0 c1
  rw [e0, e1] at hc
  obtain ⟨a, cap, rfl, _⟩ := r0.shape
  obtain ⟨a', cap', rfl, _⟩ := r1.shape
  have hb : ∀ q, Below w.heap.size w ((w.alloc (.cells #[.slice a n cap, .slice a' m cap'] 22)).drewN q) := fun q => below_drewN (one_below w _) q
  clear r0 r1 c0 c1 e0 e1
  generalize cmpI A B = C at *
  go_enter Try.func9, Try.ntmps9
  go_wp2_with fail
  refine hk.mono ?_
  rintro e w' ⟨rfl, rfl⟩
  go_wp2_with fail
  refine hc.mono ?_
  rintro e w' ⟨rfl, q, rfl⟩
  go_wp2
  go_ret2
  exact ⟨rfl, hb q⟩
theorem Divides.below {w w' : World} {rq rr : Value} {A B : Int} (h : Divides w rq rr A B) (hb : Below w.heap.size w w') : Divides w' rq rr A B := by
  obtain ⟨Q, R, a, b, c⟩ := h
  exact ⟨Q, R, a.below hb, b.below hb, c⟩
/-- Quotient and rest are known by their equation. -/
theorem divides_eq {A B Q R : Int} (h : A = Q * B + R) (r0 : 0 ≤ R) (r1 : R < B) : Q = A / B ∧ R = A % B := by
  have e1 := Int.mul_ediv_add_emod A B
  have m0 := Int.emod_nonneg A (show B ≠ 0 by omega)
  have m1 := Int.emod_lt_of_pos A (show 0 < B by omega)
  rw [Int.mul_comm] at e1
  have hq : Q = A / B := by
    by_cases c : Q < A / B
    · have : (Q + 1) * B ≤ A / B * B := Int.mul_le_mul_of_nonneg_right (by omega) (by omega)
      rw [Int.add_mul] at this; omega
    · by_cases d : A / B < Q
      · have : (A / B + 1) * B ≤ Q * B := Int.mul_le_mul_of_nonneg_right (by omega) (by omega)
        rw [Int.add_mul] at this; omega
      · omega
  exact ⟨hq, by rw [← hq] at e1; omega⟩
end Go.Proofs.Ytmhplblmabiekaa
