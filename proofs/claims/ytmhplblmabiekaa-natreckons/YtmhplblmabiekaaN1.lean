/-
  What nat's calls answer of numbers that are known by what they are worth. Conditions: the numbers have at most 1000 limbs.
-/
import Derived.Test.YtmhplblmabiekaaA11
namespace Go.Proofs.Ytmhplblmabiekaa
open Go.RowKit

theorem add_num (v0 v1 : Value) (A B : Int) (w : World) (h0 : Num w v0 A) (h1 : Num w v1 B) (hA : A < pw 1000) (hB : B < pw 1000) :
    Calls Try.prog 11 #[v0, v1] w fun e w' => ∃ r, e = .returned (.tuple #[r, .int .i64 0]) ∧ Num w' r (A + B) ∧ Below w.heap.size w w' := by
  obtain ⟨n, f, r0, c0, e0⟩ := h0
  obtain ⟨m, g, r1, c1, e1⟩ := h1
  have := can_le c0 (k := 1000) (by rw [e0]; exact hA)
  have := can_le c1 (k := 1000) (by rw [e1]; exact hB)
  exact add_ok v0 v1 A B n m f g w r0 r1 c0 c1 e0 e1 (by omega) (by omega)
theorem sub_num (v0 v1 : Value) (A B : Int) (w : World) (h0 : Num w v0 A) (h1 : Num w v1 B) (hA : A < pw 1000) (hle : B ≤ A) :
    Calls Try.prog 13 #[v0, v1] w fun e w' => ∃ r, e = .returned (.tuple #[r, .int .i64 0]) ∧ Num w' r (A - B) ∧ Below w.heap.size w w' := by
  obtain ⟨n, f, r0, c0, e0⟩ := h0
  obtain ⟨m, g, r1, c1, e1⟩ := h1
  have := can_le c0 (k := 1000) (by rw [e0]; exact hA)
  exact sub_ok v0 v1 A B n m f g w r0 r1 c0 c1 e0 e1 (by omega) hle
theorem mul_num (v0 v1 : Value) (A B : Int) (w : World) (h0 : Num w v0 A) (h1 : Num w v1 B) (hA : A < pw 1000) (hB : B < pw 1000) :
    Calls Try.prog 16 #[v0, v1] w fun e w' => ∃ r, e = .returned (.tuple #[r, .int .i64 0]) ∧ Num w' r (A * B) ∧ Below w.heap.size w w' := by
  obtain ⟨n, f, r0, c0, e0⟩ := h0
  obtain ⟨m, g, r1, c1, e1⟩ := h1
  have := can_le c0 (k := 1000) (by rw [e0]; exact hA)
  have := can_le c1 (k := 1000) (by rw [e1]; exact hB)
  exact mul_ok v0 v1 A B n m f g w r0 r1 c0 c1 e0 e1 (by omega) (by omega)
theorem check_num (v0 : Value) (A : Int) (w : World) (h0 : Num w v0 A) : Calls Try.prog 22 #[v0] w fun e w' => e = .returned (.int .i64 0) ∧ w = w' := by
  obtain ⟨n, f, r0, c0, e0⟩ := h0
  exact check_ok v0 n f w r0 c0
theorem mul_pw {A B : Int} {a b : Nat} (a0 : 0 ≤ A) (hA : A < pw a) (hB : B < pw b) : A * B < pw (a + b) := by
  have h1 : A * B ≤ A * pw b := Int.mul_le_mul_of_nonneg_left (by omega) a0
  have h2 : A * pw b < pw a * pw b := Int.mul_lt_mul_of_pos_right hA (by have := pw_pos b; omega)
  rw [pw_add]; omega
theorem lt_pw {A : Int} {a b : Nat} (h : A < pw a) (hb : a ≤ b) : A < pw b := by have := pw_mono hb; omega
theorem add_pw {A B : Int} {a : Nat} (hA : A < pw a) (hB : B < pw a) : A + B < pw (a + 1) := by have := pw_pos a; rw [pw_succ]; omega
theorem num_row {w : World} {v : Value} {n : Nat} {f : Nat → Int} (h : Row w v n f) (hc : Can n f) : Num w v (val f n) := ⟨n, f, h, hc, rfl⟩
end Go.Proofs.Ytmhplblmabiekaa
