/-
  Plain mathematics: a code point's bytes are those that it was read from; of a valid text the bytes that follow no other are as many as its code points. No condition.
-/
import Derived.Test.YtibkhbmglnlgkaaDoorB4
namespace Go.Proofs.YtibkhbmglnlgkaaDoor
open Go.RowKit
set_option linter.unusedSimpArgs false
set_option linter.unusedVariables false

theorem encN_pt (r : Nat) (g : Nat → Int) (n : Nat) (lo : ∀ i, 0 ≤ g i) (h : stepF r g = (n, true)) : encN (ptF g n) = n := by
  have := lo 0
  rcases step_bytes r g n h with ⟨rfl, a⟩ | ⟨rfl, l, a⟩ | ⟨rfl, l, a⟩ | ⟨rfl, l, a⟩
  · have e : ptF g 1 = g 0 := rfl
    rw [e]; unfold encN; rw [if_pos (by omega)]
  · have e : ptF g 2 = g 0 % 32 * 64 + g 1 % 64 := rfl
    rw [e]; unfold encN; rw [if_neg (by omega), if_pos (by omega)]
  · have e : ptF g 3 = g 0 % 16 * 4096 + g 1 % 64 * 64 + g 2 % 64 := rfl
    rw [e]; unfold encN; rw [if_neg (by omega), if_neg (by omega), if_pos (by omega)]
  · have e : ptF g 4 = g 0 % 8 * 262144 + g 1 % 64 * 4096 + g 2 % 64 * 64 + g 3 % 64 := rfl
    rw [e]; unfold encN; rw [if_neg (by omega), if_neg (by omega), if_neg (by omega)]
theorem ptB_pt (r : Nat) (g : Nat → Int) (n : Nat) (lo : ∀ i, 0 ≤ g i) (h : stepF r g = (n, true)) : ptB (ptF g n) = true := by
  have := lo 0
  rw [ptB_iff]
  rcases step_bytes r g n h with ⟨rfl, a⟩ | ⟨rfl, l, a⟩ | ⟨rfl, l, a⟩ | ⟨rfl, l, a⟩
  all_goals simp [ptF]
  all_goals omega
theorem encF_pt (r : Nat) (g : Nat → Int) (n : Nat) (lo : ∀ i, 0 ≤ g i) (h : stepF r g = (n, true)) (i : Nat) (hi : i < n) : encF (ptF g n) i = g i := by
  have := lo 0
  rcases step_bytes r g n h with ⟨rfl, a⟩ | ⟨rfl, l, a⟩ | ⟨rfl, l, a⟩ | ⟨rfl, l, a⟩
  · obtain rfl : i = 0 := by omega
    simp [encF, ptF]; omega
  · have e : ptF g 2 = g 0 % 32 * 64 + g 1 % 64 := rfl
    have z : i = 0 ∨ i = 1 := by omega
    rw [e]
    unfold encF
    rw [if_neg (by omega), if_pos (by omega)]
    rcases z with rfl | rfl
    · simp; omega
    · simp; omega
  · have e : ptF g 3 = g 0 % 16 * 4096 + g 1 % 64 * 64 + g 2 % 64 := rfl
    have z : i = 0 ∨ i = 1 ∨ i = 2 := by omega
    rw [e]
    unfold encF
    rw [if_neg (by omega), if_neg (by omega), if_pos (by omega)]
    rcases z with rfl | rfl | rfl
    · simp; omega
    · simp; omega
    · simp; omega
  · have e : ptF g 4 = g 0 % 8 * 262144 + g 1 % 64 * 4096 + g 2 % 64 * 64 + g 3 % 64 := rfl
    have z : i = 0 ∨ i = 1 ∨ i = 2 ∨ i = 3 := by omega
    rw [e]
    unfold encF
    rw [if_neg (by omega), if_neg (by omega), if_neg (by omega)]
    rcases z with rfl | rfl | rfl | rfl
    · simp; omega
    · simp; omega
    · simp; omega
    · simp; omega

theorem goodF_le (len : Nat) (f : Nat → Int) : ∀ k p, p ≤ len → (goodF len f k p).1 ≤ len
  | 0, p, h => h
  | k + 1, p, h => by
    unfold goodF
    split
    · exact h
    · have := stepF_le (len - p) (fun i => f (p + i)) (by omega)
      split
      · exact goodF_le len f k _ (by omega)
      · show p + _ ≤ len
        omega
theorem goodF_true (len : Nat) (f : Nat → Int) : ∀ k p, p ≤ len → len ≤ p + k → (goodF len f k p).2 = true → (goodF len f k p).1 = len
  | 0, p, h, hk, _ => by show p = len; omega
  | k + 1, p, h, hk, ht => by
    unfold goodF at ht ⊢
    split
    · show p = len; omega
    · rename_i hlt
      rw [if_neg hlt] at ht
      have h1 := stepF_le (len - p) (fun i => f (p + i)) (by omega)
      have h2 := stepF_pos (len - p) (fun i => f (p + i))
      split
      · rename_i hs
        rw [if_pos hs] at ht
        have := h2 hs
        exact goodF_true len f k _ (by omega) (by omega) ht
      · rename_i hs
        rw [if_neg hs] at ht
        cases ht
theorem good_le (len : Nat) (f : Nat → Int) : (good len f).1 ≤ len := goodF_le len f len 0 (Nat.zero_le _)
theorem good_whole (len : Nat) (f : Nat → Int) (h : (good len f).2 = true) : (good len f).1 = len := goodF_true len f len 0 (Nat.zero_le _) (by omega) h

/-- One step of what is good, and of its code points. -/
theorem good_step (len : Nat) (f : Nat → Int) (k p : Nat) (hlt : p < len) (h : (goodF len f (k + 1) p).2 = true) :
    ∃ n, stepF (len - p) (fun i => f (p + i)) = (n, true) ∧ 1 ≤ n ∧ p + n ≤ len ∧ (goodF len f k (p + n)).2 = true ∧ pointsF len f (k + 1) p = ptF (fun i => f (p + i)) n :: pointsF len f k (p + n) := by
  unfold goodF at h
  rw [if_neg (by omega)] at h
  by_cases z : (stepF (len - p) fun i => f (p + i)).2 = true
  · rw [if_pos z] at h
    refine ⟨(stepF (len - p) fun i => f (p + i)).1, Prod.ext rfl z, stepF_pos _ _ z, ?_, h, ?_⟩
    · have := stepF_le (len - p) (fun i => f (p + i)) (by omega)
      omega
    · conv => lhs; unfold pointsF
      rw [if_neg (by omega)]
  · rw [if_neg z] at h; cases h

theorem count_drop (len : Nat) (f : Nat → Int) (lo : ∀ i, 0 ≤ f i) (hi : ∀ i, f i < 256) (p : Nat) (h : p < len) :
    countS ((bs len f).drop p) = (if folB (f p) = true then 0 else 1) + countS ((bs len f).drop (p + 1)) := by
  have hl : p < (bs len f).length := by rw [bs_length]; exact h
  rw [List.drop_eq_getElem_cons hl]
  have e := bs_at len f lo hi p hl
  have : heads8 ((bs len f)[p]) = !folB (f p) := by unfold heads8; rw [e]
  unfold countS
  rw [List.filter_cons, this]
  cases z : folB (f p)
  · simp; omega
  · simp

theorem count_points (len : Nat) (f : Nat → Int) (lo : ∀ i, 0 ≤ f i) (hi : ∀ i, f i < 256) : ∀ k p, p ≤ len → len ≤ p + k → (goodF len f k p).2 = true → countS ((bs len f).drop p) = (pointsF len f k p).length
  | 0, p, h, hk, _ => by
    have : (bs len f).drop p = [] := List.drop_eq_nil_of_le (by rw [bs_length]; omega)
    rw [this]; simp [countS, pointsF]
  | k + 1, p, h, hk, ht => by
    by_cases hlt : p < len
    · obtain ⟨n, hs, n1, hn, hg, hp⟩ := good_step len f k p hlt ht
      rw [hp, List.length_cons, Int.natCast_add]
      rw [← count_points len f lo hi k (p + n) hn (by omega) hg]
      have fo : ∀ i, 128 ≤ f i → f i ≤ 191 → folB (f i) = true := fun i a b => (folB_iff _).2 ⟨a, b⟩
      have ff : ∀ i, (f i < 128 ∨ 191 < f i) → ¬ folB (f i) = true := fun i a b => by have := (folB_iff _).1 b; omega
      rcases step_bytes _ _ n hs with ⟨rfl, a⟩ | ⟨rfl, l, a⟩ | ⟨rfl, l, a⟩ | ⟨rfl, l, a⟩
      · rw [count_drop len f lo hi p hlt, if_neg (ff p (by simp at a; omega))]
        simp; omega
      · simp only [Nat.add_zero] at a
        rw [count_drop len f lo hi p hlt, if_neg (ff p (by omega)), count_drop len f lo hi (p + 1) (by omega), if_pos (fo (p + 1) (by omega) (by omega))]
        rw [show p + 2 = p + 1 + 1 from rfl]; simp; omega
      · simp only [Nat.add_zero] at a
        rw [count_drop len f lo hi p hlt, if_neg (ff p (by omega)), count_drop len f lo hi (p + 1) (by omega), if_pos (fo (p + 1) (by omega) (by omega)),
          count_drop len f lo hi (p + 1 + 1) (by omega), if_pos (fo (p + 2) (by omega) (by omega))]
        rw [show p + 3 = p + 1 + 1 + 1 from rfl]; simp; omega
      · simp only [Nat.add_zero] at a
        rw [count_drop len f lo hi p hlt, if_neg (ff p (by omega)), count_drop len f lo hi (p + 1) (by omega), if_pos (fo (p + 1) (by omega) (by omega)),
          count_drop len f lo hi (p + 1 + 1) (by omega), if_pos (fo (p + 2) (by omega) (by omega)), count_drop len f lo hi (p + 1 + 1 + 1) (by omega), if_pos (fo (p + 3) (by omega) (by omega))]
        rw [show p + 4 = p + 1 + 1 + 1 + 1 from rfl]; simp; omega
    · have : (bs len f).drop p = [] := List.drop_eq_nil_of_le (by rw [bs_length]; omega)
      rw [this]; simp [countS, pointsF, show len ≤ p by omega]

theorem count_whole (len : Nat) (f : Nat → Int) (lo : ∀ i, 0 ≤ f i) (hi : ∀ i, f i < 256) (h : (good len f).2 = true) : countS (txt len f).data.toList = (points len f).length := by
  have := count_points len f lo hi len 0 (Nat.zero_le _) (by omega) h
  simpa [txt, points] using this
end Go.Proofs.YtibkhbmglnlgkaaDoor
