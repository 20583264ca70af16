/-
  What nat.Div and nat.Compare answer of numbers that are known by what they are worth. Conditions: the numbers have at most 1000 limbs.
-/
import Derived.Test.YtpfbmkgknmlebaaGreatDoorN1
import Derived.Test.YtpfbmkgknmlebaaGreatDoorE5
namespace Go.Proofs.YtpfbmkgknmlebaaGreatDoor
open Go.RowKit

theorem num_pos_len {n : Nat} {f : Nat → Int} {B : Int} (hc : Can n f) (hB : 0 < B) (e : val f n = B) : 0 < n := by
  by_cases z : 0 < n
  · exact z
  · have : n = 0 := by omega
    subst this
    rw [val_zero] at e; omega
theorem divided_num (v0 v1 : Value) (A B : Int) (w : World) (h0 : Num w v0 A) (h1 : Num w v1 B) (hA : A < pw 1000) (hB : 0 < B) :
    Calls Tryz.prog 86 #[v0, v1] w fun e w' => ∃ rq, ∃ rr, e = .returned (.tuple #[rq, rr]) ∧ Divides w' rq rr A B ∧ Below w.heap.size w w' := by
  obtain ⟨n, f, r0, c0, e0⟩ := h0
  obtain ⟨m, g, r1, c1, e1⟩ := h1
  have := can_le c0 (k := 1000) (by rw [e0]; exact hA)
  have := divided_any v0 v1 n m f g w r0 r1 c0 c1 (num_pos_len c1 hB e1) (by omega)
  rw [e0, e1] at this
  exact this
theorem div_num (v0 v1 : Value) (A B : Int) (w : World) (h0 : Num w v0 A) (h1 : Num w v1 B) (hA : A < pw 1000) (hB : 0 < B) :
    Calls Tryz.prog 61 #[v0, v1] w fun e w' => ∃ rq, ∃ rr, e = .returned (.tuple #[rq, rr, .int .i64 0]) ∧ Divides w' rq rr A B ∧ Below w.heap.size w w' := by
  obtain ⟨n, f, r0, c0, e0⟩ := h0
  obtain ⟨m, g, r1, c1, e1⟩ := h1
  exact div_ok v0 v1 A B n m f g w r0 r1 c0 c1 (num_pos_len c1 hB e1) (fun w' k0 k1 => divided_num v0 v1 A B w' ⟨n, f, k0, c0, e0⟩ ⟨m, g, k1, c1, e1⟩ hA hB)

theorem Divides.below {w w' : World} {rq rr : Value} {A B : Int} (h : Divides w rq rr A B) (hb : Below w.heap.size w w') : Divides w' rq rr A B := by
  obtain ⟨Q, R, a, b, c⟩ := h
  exact ⟨Q, R, a.below hb, b.below hb, c⟩
/-- Quotient and rest are known by their equation. -/
theorem divides_eq {A B Q R : Int} (h : A = Q * B + R) (r0 : 0 ≤ R) (r1 : R < B) : Q = A / B ∧ R = A % B := by
  have e1 := Int.mul_ediv_add_emod A B
  have m0 := Int.emod_nonneg A (show B ≠ 0 by omega)
  have m1 := Int.emod_lt_of_pos A (show 0 < B by omega)
  rw [Int.mul_comm] at e1
  have hq : Q = A / B := by
    by_cases c : Q < A / B
    · have : (Q + 1) * B ≤ A / B * B := Int.mul_le_mul_of_nonneg_right (by omega) (by omega)
      rw [Int.add_mul] at this; omega
    · by_cases d : A / B < Q
      · have : (A / B + 1) * B ≤ Q * B := Int.mul_le_mul_of_nonneg_right (by omega) (by omega)
        rw [Int.add_mul] at this; omega
      · omega
  exact ⟨hq, by rw [← hq] at e1; omega⟩
end Go.Proofs.YtpfbmkgknmlebaaGreatDoor
