/-
  Numbers as limbs: what limbs are worth, and that a number's limbs are known by what they are worth. No condition.
-/
namespace Go.Proofs.YtfhapeinfhjihaaGreatDoor

/-- The worth of the place n. -/
def pw (n : Nat) : Int := 1000000000 ^ n
theorem pw_zero : pw 0 = 1 := rfl
theorem pw_succ (n : Nat) : pw (n + 1) = pw n * 1000000000 := by unfold pw; exact Int.pow_succ _ _
theorem pw_pos (n : Nat) : 1 ≤ pw n := by
  induction n with
  | zero => decide
  | succ n ih => rw [pw_succ]; omega
theorem pw_add (a b : Nat) : pw (a + b) = pw a * pw b := by unfold pw; exact Int.pow_add _ _ _
/-- What the limbs below n are worth. -/
def val (f : Nat → Int) : Nat → Int
  | 0 => 0
  | n + 1 => val f n + f n * pw n
theorem val_zero (f : Nat → Int) : val f 0 = 0 := rfl
theorem val_succ (f : Nat → Int) (n : Nat) : val f (n + 1) = val f n + f n * pw n := rfl
def Limbs (n : Nat) (f : Nat → Int) : Prop := ∀ i, i < n → 0 ≤ f i ∧ f i < 1000000000
/-- Limbs that are a number. -/
def Can (n : Nat) (f : Nat → Int) : Prop := Limbs n f ∧ (0 < n → f (n - 1) ≠ 0)

theorem Limbs.le {n m : Nat} {f : Nat → Int} (h : Limbs n f) (hm : m ≤ n) : Limbs m f := fun i hi => h i (by omega)
theorem val_nonneg {n : Nat} {f : Nat → Int} (h : Limbs n f) : 0 ≤ val f n := by
  induction n with
  | zero => simp [val_zero]
  | succ n ih =>
    have := ih (h.le (by omega))
    have := Int.mul_nonneg (h n (by omega)).1 (show 0 ≤ pw n by have := pw_pos n; omega)
    rw [val_succ]; omega
theorem val_lt {n : Nat} {f : Nat → Int} (h : Limbs n f) : val f n < pw n := by
  induction n with
  | zero => rw [val_zero, pw_zero]; omega
  | succ n ih =>
    have h1 := ih (h.le (by omega))
    have h2 := (h n (by omega)).2
    have h3 : (f n + 1) * pw n ≤ 1000000000 * pw n := Int.mul_le_mul_of_nonneg_right (by omega) (by have := pw_pos n; omega)
    rw [Int.add_mul] at h3
    rw [val_succ, pw_succ]; omega
theorem val_congr {n : Nat} {f g : Nat → Int} (h : ∀ i, i < n → f i = g i) : val f n = val g n := by
  induction n with
  | zero => rfl
  | succ n ih => rw [val_succ, val_succ, ih (fun i hi => h i (by omega)), h n (by omega)]
/-- The highest limb in which two parts decides. -/
theorem val_less {n : Nat} {f g : Nat → Int} (hf : Limbs n f) (hg : Limbs n g) (k : Nat) (hk : k < n) (hlt : f k < g k) (he : ∀ i, k < i → i < n → f i = g i) : val f n < val g n := by
  induction n with
  | zero => omega
  | succ n ih =>
    rw [val_succ, val_succ]
    by_cases e : k = n
    · subst e
      have h1 := val_lt (hf.le (show k ≤ k + 1 by omega))
      have h2 := val_nonneg (hg.le (show k ≤ k + 1 by omega))
      have h3 : (f k + 1) * pw k ≤ g k * pw k := Int.mul_le_mul_of_nonneg_right (by omega) (by have := pw_pos k; omega)
      rw [Int.add_mul] at h3
      omega
    · have := ih (hf.le (by omega)) (hg.le (by omega)) (by omega) (fun i h1 h2 => he i h1 (by omega))
      rw [he n (by omega) (by omega)]
      omega
/-- The highest place in which two rows of limbs part, or none. -/
theorem parts_at (n : Nat) (f g : Nat → Int) : (∀ i, i < n → f i = g i) ∨ ∃ k, k < n ∧ f k ≠ g k ∧ ∀ i, k < i → i < n → f i = g i := by
  induction n with
  | zero => exact .inl (fun i hi => absurd hi (by omega))
  | succ n ih =>
    by_cases e : f n = g n
    · rcases ih with h | ⟨k, h1, h2, h3⟩
      · exact .inl (fun i hi => by
          by_cases z : i = n
          · rw [z]; exact e
          · exact h i (by omega))
      · exact .inr ⟨k, by omega, h2, fun i h4 h5 => by
          by_cases z : i = n
          · rw [z]; exact e
          · exact h3 i h4 (by omega)⟩
    · exact .inr ⟨n, by omega, e, fun i h1 h2 => absurd h1 (by omega)⟩
theorem val_inj {n : Nat} {f g : Nat → Int} (hf : Limbs n f) (hg : Limbs n g) (h : val f n = val g n) : ∀ i, i < n → f i = g i := by
  rcases parts_at n f g with k | ⟨k, h1, h2, h3⟩
  · exact k
  · by_cases z : f k < g k
    · have := val_less hf hg k h1 z h3; omega
    · have := val_less hg hf k h1 (by omega) (fun i a b => (h3 i a b).symm); omega
theorem can_ge {n : Nat} {f : Nat → Int} (h : Can n f) (h0 : 0 < n) : pw (n - 1) ≤ val f n := by
  obtain ⟨m, rfl⟩ : ∃ m, n = m + 1 := ⟨n - 1, by omega⟩
  have h1 := (h.1 m (by omega)).1
  have h2 := h.2 (by omega)
  have h3 := val_nonneg (h.1.le (show m ≤ m + 1 by omega))
  have h4 : 1 * pw m ≤ f m * pw m := Int.mul_le_mul_of_nonneg_right (by simp at h2; omega) (by have := pw_pos m; omega)
  simp only [Nat.add_sub_cancel] at *
  rw [val_succ]; omega
theorem pw_mono {a b : Nat} (h : a ≤ b) : pw a ≤ pw b := by
  obtain ⟨c, rfl⟩ : ∃ c, b = a + c := ⟨b - a, by omega⟩
  induction c with
  | zero => exact Int.le_refl _
  | succ c ih => have := ih (by omega); have := pw_pos (a + c); rw [← Nat.add_assoc, pw_succ]; omega
/-- A longer number is greater. -/
theorem can_less {n m : Nat} {f g : Nat → Int} (hf : Limbs n f) (hg : Can m g) (h : n < m) : val f n < val g m := by
  have h1 := val_lt hf
  have h2 := can_ge hg (by omega)
  have h3 := pw_mono (show n ≤ m - 1 by omega)
  omega
theorem can_len {n m : Nat} {f g : Nat → Int} (hf : Can n f) (hg : Can m g) (h : val f n = val g m) : n = m := by
  by_cases a : n < m
  · have := can_less hf.1 hg a; omega
  · by_cases b : m < n
    · have := can_less hg.1 hf b; omega
    · omega
theorem can_inj {n m : Nat} {f g : Nat → Int} (hf : Can n f) (hg : Can m g) (h : val f n = val g m) : n = m ∧ ∀ i, i < n → f i = g i := by
  have e := can_len hf hg h
  subst e
  exact ⟨rfl, val_inj hf.1 hg.1 h⟩
/-- Noughts at the end count nothing. -/
theorem val_trim {n m : Nat} {f : Nat → Int} (h : m ≤ n) (hz : ∀ i, m ≤ i → i < n → f i = 0) : val f n = val f m := by
  induction n with
  | zero => rw [show m = 0 by omega]
  | succ n ih =>
    by_cases e : m = n + 1
    · rw [e]
    · rw [val_succ, ih (by omega) (fun i a b => hz i a (by omega)), hz n (by omega) (by omega)]; simp
end Go.Proofs.YtfhapeinfhjihaaGreatDoor
