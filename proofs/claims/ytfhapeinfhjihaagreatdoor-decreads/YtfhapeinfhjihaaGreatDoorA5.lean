/-
  What nat.sum, nat.difference, nat.Add and nat.Sub answer. Conditions: the numbers' limbs together take at most 2^47 bytes.
-/
import Derived.Test.YtfhapeinfhjihaaGreatDoorA4
namespace Go.Proofs.YtfhapeinfhjihaaGreatDoor
open Go.RowKit

theorem limb_val {n N : Nat} {f : Nat → Int} (h : n ≤ N) : val (limb n f) N = val f n := by
  rw [val_trim h (fun i hi _ => by simp [limb, show ¬ i < n by omega])]
  exact val_congr (fun i hi => by simp [limb, hi])
theorem step_mul (d n x p : Int) (h : d + n * 1000000000 = x) : d * p + n * (p * 1000000000) = x * p := by
  subst h; rw [Int.add_mul, Int.mul_assoc, Int.mul_comm 1000000000 p]
theorem sum_val {f g : Nat → Int} (N k : Nat) (hk : k ≤ N) : val (outs dS nS f g N) k + carr nS f g k * pw k = val f k + val g k := by
  induction k with
  | zero => simp [val_zero, carr]
  | succ k ih =>
    have h1 := ih (by omega)
    have e1 : outs dS nS f g N k = dS (f k) (g k) (carr nS f g k) := by simp [outs, show k < N by omega]
    have e2 : carr nS f g (k + 1) = nS (f k) (g k) (carr nS f g k) := rfl
    have h2 := step_mul (dS (f k) (g k) (carr nS f g k)) (nS (f k) (g k) (carr nS f g k)) (f k + g k + carr nS f g k) (pw k) (by unfold dS nS; omega)
    rw [Int.add_mul, Int.add_mul] at h2
    rw [val_succ, val_succ, val_succ, pw_succ, e1, e2]
    omega
theorem dif_val {f g : Nat → Int} (N k : Nat) (hk : k ≤ N) : val (outs dD nD f g N) k + val g k = val f k + carr nD f g k * pw k := by
  induction k with
  | zero => simp [val_zero, carr]
  | succ k ih =>
    have h1 := ih (by omega)
    have e1 : outs dD nD f g N k = dD (f k) (g k) (carr nD f g k) := by simp [outs, show k < N by omega]
    have e2 : carr nD f g (k + 1) = nD (f k) (g k) (carr nD f g k) := rfl
    have h2 := step_mul (dD (f k) (g k) (carr nD f g k)) (- nD (f k) (g k) (carr nD f g k)) (f k - g k - carr nD f g k) (pw k) (by unfold dD nD; omega)
    rw [Int.sub_mul, Int.sub_mul, Int.neg_mul] at h2
    rw [val_succ, val_succ, val_succ, pw_succ, e1, e2]
    omega
theorem all_limbs {f : Nat → Int} (h : All9 f) (n : Nat) : Limbs n f := fun i _ => h i
theorem sum_fits {n m : Nat} {f g : Nat → Int} (hf : Limbs n f) (hg : Limbs m g) : val (outs dS nS (limb n f) (limb m g) (max n m + 1)) (max n m + 1) = val f n + val g m := by
  have h1 := sum_val (f := limb n f) (g := limb m g) (max n m + 1) (max n m + 1) (Nat.le_refl _)
  rw [limb_val (show n ≤ max n m + 1 by omega), limb_val (show m ≤ max n m + 1 by omega)] at h1
  have h2 := val_nonneg (all_limbs (outs_bd stepsS (limb_all hf) (limb_all hg) (max n m + 1)) (max n m + 1))
  have h3 := carr_bd stepsS (limb_all hf) (limb_all hg) (max n m + 1)
  have h4 := val_lt hf
  have h5 := val_lt hg
  have h6 := pw_mono (show n ≤ max n m by omega)
  have h7 := pw_mono (show m ≤ max n m by omega)
  have h8 := pw_succ (max n m)
  have h9 := pw_pos (max n m)
  rcases (show carr nS (limb n f) (limb m g) (max n m + 1) = 0 ∨ carr nS (limb n f) (limb m g) (max n m + 1) = 1 by omega) with e | e
  · rw [e] at h1; omega
  · rw [e] at h1; omega
theorem dif_fits {n m : Nat} {f g : Nat → Int} (hf : Limbs n f) (hg : Limbs m g) (hm : m ≤ n) (hle : val g m ≤ val f n) : val (outs dD nD (limb n f) (limb m g) n) n = val f n - val g m := by
  have h1 := dif_val (f := limb n f) (g := limb m g) n n (Nat.le_refl _)
  rw [limb_val (Nat.le_refl n), limb_val hm] at h1
  have h2 := val_lt (all_limbs (outs_bd stepsD (limb_all hf) (limb_all hg) n) n)
  have h3 := carr_bd stepsD (limb_all hf) (limb_all hg) n
  rcases (show carr nD (limb n f) (limb m g) n = 0 ∨ carr nD (limb n f) (limb m g) n = 1 by omega) with e | e
  · rw [e] at h1; omega
  · rw [e] at h1; omega

/-- A block of one number, of the call's own. -/
theorem one_block (w : World) (x : Int) : (w.alloc (.cells #[.int .u64 x] 121)).heap[w.heap.size]? = some (.cells #[.int .u64 x] 121 (0, 0)) := heap_alloc_new w _
theorem one_below (w : World) (o : Obj) : Below w.heap.size w (w.alloc o) := (Below.refl _ _).alloc (Nat.le_refl _) _

/-- What nat.upward leaves at its end, as a number. -/
theorem num_of_trim {w : World} {r : Value} {N : Nat} {g : Nat → Int} {V : Int} (hb : All9 g) (h : ∃ m', Row w r m' g ∧ Trims N g m') (hV : val g N = V) : Num w r V := by
  obtain ⟨m', hr, ht⟩ := h
  obtain ⟨c1, c2⟩ := ht.can (all_limbs hb _)
  exact ⟨m', _, hr, c1, by rw [c2, hV]⟩

/-- The numbers' slices in a row of slices: what nat.checked is handed. -/
theorem checked_new (v0 v1 : Value) (n m : Nat) (f g : Nat → Int) (w : World) (h0 : Row w v0 n f) (h1 : Row w v1 m g) :
    (Can n f → Can m g → Calls Tryz.prog 46 #[.slice (some ⟨w.heap.size, 0, none⟩) 2 2] (w.alloc (.cells #[v0, v1] 45)) fun e w' => e = .returned (.int .i64 0) ∧ w.alloc (.cells #[v0, v1] 45) = w') ∧
    (¬ (Can n f ∧ Can m g) → Calls Tryz.prog 46 #[.slice (some ⟨w.heap.size, 0, none⟩) 2 2] (w.alloc (.cells #[v0, v1] 45)) fun e w' => e = .returned (.int .i64 2) ∧ w.alloc (.cells #[v0, v1] 45) = w') := by
  have c0 : (w.alloc (.cells #[v0, v1] 45)).cell? ⟨w.heap.size, 0, none⟩ = some v0 := by simp
  have c1 : (w.alloc (.cells #[v0, v1] 45)).cell? ⟨w.heap.size, 1, none⟩ = some v1 := by simp
  exact ⟨fun k0 k1 => checked_ok v0 v1 n m _ f g _ c0 c1 (h0.alloc _) (h1.alloc _) k0 k1, fun k => checked_bad v0 v1 n m _ f g _ c0 c1 (h0.alloc _) (h1.alloc _) k⟩

theorem below_from_alloc {w w' : World} {o : Obj} (h : Below (w.alloc o).heap.size (w.alloc o) w') : Below w.heap.size w w' :=
  ((Below.refl _ _).alloc (Nat.le_refl _) o).trans (h.mono (by simp))

theorem cmpI_lt (a b : Int) : decide (cmpI a b < 0) = decide (a < b) := by
  unfold cmpI
  by_cases h : a < b
  · simp [h]
  · by_cases e : a = b
    · simp [e]
    · simp [h, e]

end Go.Proofs.YtfhapeinfhjihaaGreatDoor
