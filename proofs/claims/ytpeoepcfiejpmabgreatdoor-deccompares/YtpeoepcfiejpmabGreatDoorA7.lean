/-
  What nat.product and nat.Mul answer. Conditions: the numbers have at most 1000 limbs each.
-/
import Derived.Test.YtpeoepcfiejpmabGreatDoorA6
namespace Go.Proofs.YtpeoepcfiejpmabGreatDoor
open Go.RowKit

theorem colk_null (n m : Nat) (f g : Nat → Int) (p k : Nat) (h : n = 0 ∨ m = 0) : colk (limb n f) (limb m g) p k = 0 := by
  induction k with
  | zero => rfl
  | succ k ih =>
    unfold colk
    rw [ih]
    rcases h with rfl | rfl
    · simp [limb_z]
    · simp [limb_z]

/-- The columns of a product. -/
def cols (n m : Nat) (f g : Nat → Int) : Nat → Int := fun p => colk (limb n f) (limb m g) p n
def null : Nat → Int := fun _ => 0
theorem nS_bd (n : Nat) (x c : Int) (h : 0 ≤ x ∧ x ≤ n * 999999998000000001) (hc : 0 ≤ c ∧ c ≤ n * 1000000000) : 0 ≤ nS x 0 c ∧ nS x 0 c ≤ n * 1000000000 := by
  unfold nS
  omega
theorem prod_carr {n m : Nat} {f g : Nat → Int} (hf : Limbs n f) (hg : Limbs m g) (k : Nat) : 0 ≤ carr nS (cols n m f g) null k ∧ carr nS (cols n m f g) null k ≤ n * 1000000000 := by
  induction k with
  | zero => show (0 : Int) ≤ 0 ∧ (0 : Int) ≤ _; omega
  | succ k ih => exact nS_bd n (cols n m f g k) _ (colk_bd (limb_all hf) (limb_all hg) k n) ih
theorem prod_outs {n m : Nat} {f g : Nat → Int} (N : Nat) : All9 (outs dS nS (cols n m f g) null N) := by
  intro i
  unfold outs
  split
  · unfold dS; omega
  · omega
theorem prod_val {n m : Nat} {f g : Nat → Int} (hf : Limbs n f) (hg : Limbs m g) : val (outs dS nS (cols n m f g) null (n + m)) (n + m) = val f n * val g m := by
  have h1 := sum_val (f := cols n m f g) (g := null) (n + m) (n + m) (Nat.le_refl _)
  have h2 : val (cols n m f g) (n + m) = val f n * val g m := by
    have := col_val (limb n f) (limb m g) m (n + m) n (fun i hi => limb_z m g i hi) (Nat.le_refl _)
    rw [limb_val (Nat.le_refl _), limb_val (Nat.le_refl _)] at this
    exact this
  have h3 : val null (n + m) = 0 := val_null _
  rw [h2, h3] at h1
  have h4 := val_nonneg (all_limbs (prod_outs (n := n) (m := m) (f := f) (g := g) (n + m)) (n + m))
  have h5 := (prod_carr hf hg (n + m)).1
  have h6 : val f n * val g m < pw (n + m) := by
    rw [pw_add]
    have a1 := val_nonneg hf
    have a2 := val_lt hf
    have a3 := val_nonneg hg
    have a4 := val_lt hg
    have b1 : val f n * val g m ≤ val f n * pw m := Int.mul_le_mul_of_nonneg_left (by omega) a1
    have b2 : val f n * pw m < pw n * pw m := Int.mul_lt_mul_of_pos_right a2 (by have := pw_pos m; omega)
    omega
  generalize carr nS (cols n m f g) null (n + m) = c at *
  by_cases e : c = 0
  · rw [e] at h1; omega
  · have : 1 * pw (n + m) ≤ c * pw (n + m) := Int.mul_le_mul_of_nonneg_right (by omega) (by have := pw_pos (n + m); omega)
    omega

end Go.Proofs.YtpeoepcfiejpmabGreatDoor
