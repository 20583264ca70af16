/-
  What nat.column, nat.product and nat.Mul answer. Conditions: the numbers have at most 1000 limbs each.
-/
import Derived.Test.YtpeoepcfiejpmabGreatDoorA5
namespace Go.Proofs.YtpeoepcfiejpmabGreatDoor
open Go.RowKit

/-- The products of two limbs whose places make up p, of the first k limbs. -/
def colk (F G : Nat → Int) (p : Nat) : Nat → Int
  | 0 => 0
  | k + 1 => colk F G p k + (if k ≤ p then F k * G (p - k) else 0)
theorem val_add (f g : Nat → Int) (n : Nat) : val (fun p => f p + g p) n = val f n + val g n := by
  induction n with
  | zero => rfl
  | succ n ih => rw [val_succ, val_succ, val_succ, ih, Int.add_mul]; omega
theorem val_null (n : Nat) : val (fun _ => 0) n = 0 := by
  induction n with
  | zero => rfl
  | succ n ih => rw [val_succ, ih]; simp
theorem val_shift (x : Int) (G : Nat → Int) (k r : Nat) : val (fun p => if k ≤ p then x * G (p - k) else 0) (k + r) = x * pw k * val G r := by
  induction r with
  | zero =>
    rw [Nat.add_zero, val_trim (Nat.zero_le _) (fun i _ hi => if_neg (by omega))]
    simp [val_zero]
  | succ r ih =>
    rw [← Nat.add_assoc, val_succ, ih, val_succ]
    simp only [Nat.le_add_right, if_true, Nat.add_sub_cancel_left]
    rw [pw_add, Int.mul_add]
    congr 1
    rw [Int.mul_assoc, Int.mul_assoc, Int.mul_left_comm (G r)]
theorem col_val (F G : Nat → Int) (m N k : Nat) (hz : ∀ i, m ≤ i → G i = 0) (hN : k + m ≤ N) : val (fun p => colk F G p k) N = val F k * val G m := by
  induction k with
  | zero => simp [colk, val_null, val_zero]
  | succ k ih =>
    have e : (fun p => colk F G p (k + 1)) = (fun p => colk F G p k + (if k ≤ p then F k * G (p - k) else 0)) := rfl
    rw [e, val_add, ih (by omega)]
    obtain ⟨r, rfl⟩ : ∃ r, N = k + r := ⟨N - k, by omega⟩
    rw [val_shift, val_succ, Int.add_mul, val_trim (show m ≤ r by omega) (fun i hi _ => hz i hi)]
theorem limb_z (n : Nat) (f : Nat → Int) (i : Nat) (h : n ≤ i) : limb n f i = 0 := by simp [limb, show ¬ i < n by omega]
theorem mul9 (x y : Int) (x0 : 0 ≤ x) (x1 : x < 1000000000) (y0 : 0 ≤ y) (y1 : y < 1000000000) : 0 ≤ x * y ∧ x * y ≤ 999999998000000001 := by
  refine ⟨Int.mul_nonneg x0 y0, ?_⟩
  have h1 : x * y ≤ 999999999 * y := Int.mul_le_mul_of_nonneg_right (by omega) y0
  omega
theorem colk_bd {F G : Nat → Int} (hF : All9 F) (hG : All9 G) (p k : Nat) : 0 ≤ colk F G p k ∧ colk F G p k ≤ k * 999999998000000001 := by
  induction k with
  | zero => simp [colk]
  | succ k ih =>
    have h := mul9 (F k) (G (p - k)) (hF k).1 (hF k).2 (hG (p - k)).1 (hG (p - k)).2
    unfold colk
    split
    · omega
    · omega
/-- Places ahead of where the products begin count nothing. -/
theorem colk_ahead (n m : Nat) (f g : Nat → Int) (p k : Nat) (h : k + m ≤ p + 1) : colk (limb n f) (limb m g) p k = 0 := by
  induction k with
  | zero => rfl
  | succ k ih =>
    unfold colk
    rw [ih (by omega), if_pos (by omega), limb_z m g (p - k) (by omega)]
    simp
theorem colk_past (F G : Nat → Int) (p k j : Nat) (h : p + 1 ≤ k) : colk F G p (k + j) = colk F G p k := by
  induction j with
  | zero => rfl
  | succ j ih =>
    rw [← Nat.add_assoc]
    show colk F G p (k + j) + _ = _
    rw [ih, if_neg (by omega)]; omega

end Go.Proofs.YtpeoepcfiejpmabGreatDoor
