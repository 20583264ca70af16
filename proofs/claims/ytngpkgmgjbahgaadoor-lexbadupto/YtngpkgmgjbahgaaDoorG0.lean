/-
  Plain mathematics: a valid text that is cut at a byte below 128 is valid on both sides. No condition.
-/
import Derived.Test.YtngpkgmgjbahgaaDoorUM5a
import Derived.Test.YtngpkgmgjbahgaaDoorV13
namespace Go.Proofs.YtngpkgmgjbahgaaDoor
open Go.RowKit

theorem passL_all {l : List UInt8} {p : Int → Bool} (k : Nat) : ∀ i j, i ≤ j → j < passL l p k i → p (bx l j) = true := by
  induction k with
  | zero => intro i j h1 h2; simp only [passL] at h2; omega
  | succ k ih =>
    intro i j h1 h2
    simp only [passL] at h2
    split at h2
    · rename_i g
      by_cases e : i = j
      · subst e; simp [hasAt] at g; exact g.2
      · exact ih (i + 1) j (by omega) h2
    · omega
theorem pass_all {l : List UInt8} {p : Int → Bool} {i j : Nat} (h1 : i ≤ j) (h2 : j < pass l p i) : p (bx l j) = true := passL_all _ i j h1 h2
theorem passL_end {l : List UInt8} {p : Int → Bool} (k : Nat) : ∀ i, l.length ≤ i + k → hasAt l (passL l p k i) p = false := by
  induction k with
  | zero => intro i h; simp only [passL]; exact hasAt_out p (by omega)
  | succ k ih =>
    intro i h
    simp only [passL]
    split
    · exact ih (i + 1) (by omega)
    · rename_i g; simpa using g
theorem pass_end (l : List UInt8) (p : Int → Bool) (i : Nat) : hasAt l (pass l p i) p = false := passL_end _ i (by omega)

theorem goodF_fuel (len : Nat) (f : Nat → Int) (k : Nat) : ∀ k' p, len ≤ p + k → len ≤ p + k' → goodF len f k p = goodF len f k' p := by
  induction k with
  | zero =>
    intro k' p h1 h2
    cases k' with
    | zero => rfl
    | succ k' => simp only [goodF]; rw [if_pos (by omega)]
  | succ k ih =>
    intro k' p h1 h2
    cases k' with
    | zero => simp only [goodF]; rw [if_pos (by omega)]
    | succ k' =>
      simp only [goodF]
      by_cases g : len ≤ p
      · rw [if_pos g, if_pos g]
      · rw [if_neg g, if_neg g]
        by_cases g2 : (stepF (len - p) fun i => f (p + i)).2 = true
        · rw [if_pos g2, if_pos g2]
          have := stepF_pos _ _ g2
          exact ih k' _ (by omega) (by omega)
        · rw [if_neg g2, if_neg g2]
theorem goodF_shift (len : Nat) (f : Nat → Int) (p : Nat) (hp : p ≤ len) (k : Nat) : ∀ q, (goodF len f k (p + q)).2 = (goodF (len - p) (fun i => f (p + i)) k q).2 := by
  induction k with
  | zero => intro q; rfl
  | succ k ih =>
    intro q
    simp only [goodF]
    rw [show len - (p + q) = len - p - q by omega]
    have e : (fun i => f (p + q + i)) = fun i => f (p + (q + i)) := by funext i; rw [Nat.add_assoc]
    rw [e]
    by_cases g : len ≤ p + q
    · rw [if_pos g, if_pos (show len - p ≤ q by omega)]
    · rw [if_neg g, if_neg (show ¬ len - p ≤ q by omega)]
      by_cases g2 : (stepF (len - p - q) fun i => f (p + (q + i))).2 = true
      · rw [if_pos g2, if_pos g2, Nat.add_assoc]
        exact ih _
      · rw [if_neg g2, if_neg g2]
theorem bx_drop (t : List UInt8) (n : Nat) : bx (t.drop n) = fun i => bx t (n + i) := by funext i; simp [bx, List.getElem?_drop]
/-- A valid text begins with a whole step, and goes on as one. -/
theorem good_iff {t : List UInt8} (h0 : t ≠ []) : (goodL t).2 = true ↔ ∃ n, stepF t.length (bx t) = (n, true) ∧ n ≤ t.length ∧ (goodL (t.drop n)).2 = true := by
  have hl : 0 < t.length := List.length_pos_iff.2 h0
  obtain ⟨k, hk⟩ : ∃ k, t.length = k + 1 := ⟨t.length - 1, by omega⟩
  unfold goodL good
  have e0 : (fun i => bx t (0 + i)) = bx t := by funext i; rw [Nat.zero_add]
  have key : ∀ n, 1 ≤ n → n ≤ t.length → (goodF t.length (bx t) k n).2 = (goodF (t.drop n).length (bx (t.drop n)) (t.drop n).length 0).2 := fun n h1 hn => by
    rw [goodF_fuel t.length (bx t) k (t.length - n) n (by omega) (by omega)]
    have := goodF_shift t.length (bx t) n hn (t.length - n) 0
    rw [Nat.add_zero] at this
    rw [this, bx_drop, List.length_drop]
  have hs := stepF_le t.length (bx t) hl
  rw [show goodF t.length (bx t) t.length 0 = goodF t.length (bx t) (k + 1) 0 by rw [← hk]]
  simp only [goodF]
  rw [if_neg (by omega), Nat.sub_zero, e0, Nat.zero_add]
  cases hst : stepF t.length (bx t) with
  | mk n ok =>
    rw [hst] at hs
    simp only at hs ⊢
    cases ok
    · simp
    · rw [if_pos rfl]
      have hp := stepF_pos t.length (bx t) (by rw [hst])
      rw [hst] at hp
      rw [key n hp hs]
      constructor
      · intro h; exact ⟨n, rfl, hs, h⟩
      · rintro ⟨m, hm, _, h⟩; cases hm; exact h
theorem good_split (n : Nat) : ∀ {a b : List UInt8} {c : UInt8}, a.length ≤ n → c.toNat < 128 → (goodL (a ++ c :: b)).2 = true → (goodL a).2 = true ∧ (goodL b).2 = true := by
  induction n with
  | zero =>
    intro a b c ha hc h
    obtain rfl : a = [] := List.length_eq_zero_iff.1 (by omega)
    obtain ⟨n, hs, _, hd⟩ := (good_iff (by simp)).1 h
    have e0 : bx ([] ++ c :: b) 0 = (c.toNat : Int) := by simp [bx]
    have : stepF ([] ++ c :: b).length (bx ([] ++ c :: b)) = (1, true) := by
      have hs1 : stN (c.toNat : Int) = 1 := if_pos (by omega)
      unfold stepF
      rw [e0, if_neg (by rw [hs1]; decide), if_pos hs1]
    rw [this] at hs
    obtain rfl : 1 = n := (Prod.mk.inj hs).1
    exact ⟨rfl, by simpa using hd⟩
  | succ n ih =>
    intro a b c ha hc h
    by_cases h0 : a = []
    · subst h0; exact ih (by simp) hc h
    · have hap := List.length_pos_iff.2 h0
      obtain ⟨m, hs, hm, hd⟩ := (good_iff (by simp)).1 h
      have hp := stepF_pos _ _ (by rw [hs])
      rw [hs] at hp
      simp only at hp
      have hcx : bx (a ++ c :: b) a.length = (c.toNat : Int) := by simp [bx]
      have hma : m ≤ a.length := by
        rcases step_bytes _ _ _ hs with ⟨e, _⟩ | ⟨e, _, _, _, x1, _⟩ | ⟨e, _, _, _, x1, _, _, _, x2, _⟩ | ⟨e, _, _, _, x1, _, _, _, x2, _, x3, _⟩
        · omega
        all_goals
          apply Nat.le_of_not_lt
          intro hlt
          have q : a.length = 1 ∨ a.length = 2 ∨ a.length = 3 := by omega
          rcases q with q | q | q <;> rw [q] at hcx <;> omega
      have hag : ∀ i, i < m → bx a i = bx (a ++ c :: b) i := fun i hi => by
        unfold bx; rw [List.getElem?_append_left (by omega)]
      have hsa : stepF a.length (bx a) = (m, true) := step_good _ _ _ _ _ (bx_lo a) (bx_hi a) hs hma hag
      rw [List.drop_append_of_le_length hma] at hd
      have r := ih (a := a.drop m) (by simp; omega) hc hd
      exact ⟨(good_iff h0).2 ⟨m, hsa, hma, r.1⟩, r.2⟩
end Go.Proofs.YtngpkgmgjbahgaaDoor
