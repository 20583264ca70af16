/-
  The states of a tree at another place; where they lead to. No condition.
-/
import Derived.Test.YtcgohdfpmfpfiaaG16
namespace Go.Proofs.Ytcgohdfpmfpfiaa

/-- A state moved along. -/
def shiftS (d : Int) (s : ST) : ST := ⟨s.k, s.r, s.a + d, if s.k = 2 then s.b + d else s.b⟩
theorem rep_shift (g g' : Nat → List ST) (q d : Nat) (h : ∀ n, g' (n + d) = (g n).map (shiftS (d : Int))) : ∀ c n, rep g' q (n + d) c = (rep g q n c).map (shiftS (d : Int))
  | 0, _ => rfl
  | c + 1, n => by
    rw [rep, rep, List.map_append, h, show n + d + q = n + q + d by omega, rep_shift g g' q d h c (n + q)]
theorem bldL_shift {l : List RX} {d : Nat} (h : ∀ x ∈ l, ∀ n, bld x (n + d) = (bld x n).map (shiftS (d : Int))) : ∀ n, bldL l (n + d) = (bldL l n).map (shiftS (d : Int)) := by
  induction l with
  | nil => intro n; rfl
  | cons x l ih =>
    intro n
    rw [bldL, bldL, List.map_append, h x (by simp), show n + d + szX x = n + szX x + d by omega, ih (fun y hy => h y (by simp [hy]))]
theorem bldA_shift {l : List RX} {d : Nat} (h : ∀ x ∈ l, ∀ n, bld x (n + d) = (bld x n).map (shiftS (d : Int))) : ∀ n e, bldA l (n + d) (e + d) = (bldA l n e).map (shiftS (d : Int)) := by
  induction l with
  | nil => intro n e; rfl
  | cons x l ih =>
    intro n e
    rw [bldA, bldA, List.map_append, show n + d + szX x + 2 = n + szX x + 2 + d by omega, ih (fun y hy => h y (by simp [hy]))]
    congr 1
    by_cases h0 : l.length = 0
    · rw [if_pos h0, if_pos h0, h x (by simp)]
    · rw [if_neg h0, if_neg h0, show n + d + 1 = n + 1 + d by omega, h x (by simp)]
      simp [shiftS]
      omega
theorem bld_shift (d : Nat) : ∀ (t : RX) (n : Nat), bld t (n + d) = (bld t n).map (shiftS (d : Int)) := by
  intro t
  induction t using RX.ind with
  | h k r lo hi z s ih =>
    intro n
    have hL := bldL_shift (d := d) ih
    have hA := bldA_shift (d := d) ih
    by_cases c5 : k = 5
    · subst c5
      rw [bld_5, bld_5]
      by_cases hh : hi = -1
      · rw [if_pos hh, if_pos hh, List.map_append, rep_shift (bldL s) (bldL s) (szL s) d hL, show n + d + lo.toNat * szL s + 1 = n + lo.toNat * szL s + 1 + d by omega]
        congr 1
        rw [List.map_append, List.map_cons, hL]
        generalize lo.toNat * szL s = m
        simp [shiftS]
        omega
      · rw [if_neg hh, if_neg hh, List.map_append, rep_shift (bldL s) (bldL s) (szL s) d hL, show n + d + lo.toNat * szL s = n + lo.toNat * szL s + d by omega]
        congr 1
        refine rep_shift _ _ _ d (fun p => ?_) _ _
        rw [List.map_cons, show p + d + 1 = p + 1 + d by omega, hL]
        generalize lo.toNat * szL s = m
        generalize (hi - lo).toNat * (szL s + 1) = m2
        simp [shiftS]
        omega
    · rw [bld, bld]
      by_cases c2 : k = 2
      · rw [if_pos c2, if_pos c2]; simp [shiftS]; omega
      · rw [if_neg c2, if_neg c2]
        by_cases c6 : k = 6
        · rw [if_pos c6, if_pos c6]; simp [shiftS]; omega
        · rw [if_neg c6, if_neg c6]
          by_cases c7 : k = 7
          · rw [if_pos c7, if_pos c7]; simp [shiftS]; omega
          · rw [if_neg c7, if_neg c7]
            by_cases c8 : k = 8
            · rw [if_pos c8, if_pos c8]; simp [shiftS]; omega
            · rw [if_neg c8, if_neg c8]
              by_cases c9 : k = 9
              · rw [if_pos c9, if_pos c9]; simp [shiftS]; omega
              · rw [if_neg c9, if_neg c9]
                by_cases c3 : k = 3
                · rw [if_pos c3, if_pos c3]; exact hL n
                · rw [if_neg c3, if_neg c3]
                  by_cases c4 : k = 4
                  · rw [if_pos c4, if_pos c4, show n + d + (szL s + (s.length - 1) * 2) = n + (szL s + (s.length - 1) * 2) + d by omega]; exact hA _ _
                  · rw [if_neg c4, if_neg c4, if_neg c5, if_neg c5]; rfl
/-- Where a state of a tree may lead to. -/
def GoodS (M : Nat) (s : ST) : Prop := 1 ≤ s.k ∧ s.k ≤ 6 ∧ 0 ≤ s.a ∧ s.a ≤ (M : Int) ∧ 0 ≤ s.b ∧ s.b ≤ (M : Int) ∧ (s.k ≠ 2 → s.b = 0) ∧ (s.k ≠ 1 → s.r = []) ∧ rgB s.r = true
theorem GoodS.mono {M N : Nat} {s : ST} (h : GoodS M s) (hl : M ≤ N) : GoodS N s := by
  obtain ⟨h1, h2, h3, h4, h5, h6, h7⟩ := h
  exact ⟨h1, h2, h3, by omega, h5, by omega, h7⟩
theorem rg_nil : rgB [] = true := by decide
theorem good_fork (a b : Int) (M : Nat) (h : 0 ≤ a ∧ a ≤ (M : Int) ∧ 0 ≤ b ∧ b ≤ (M : Int)) : GoodS M ⟨2, [], a, b⟩ :=
  ⟨by simp, by simp, h.1, h.2.1, h.2.2.1, h.2.2.2, fun h => absurd rfl h, fun _ => rfl, rg_nil⟩
theorem good_rep (g : Nat → List ST) (q M : Nat) (h : ∀ n, n + q ≤ M → ∀ s ∈ g n, GoodS M s) : ∀ c n, n + c * q ≤ M → ∀ s ∈ rep g q n c, GoodS M s
  | 0, _, _, s, hs => by simp [rep] at hs
  | c + 1, n, hM, s, hs => by
    rw [Nat.succ_mul] at hM
    rcases List.mem_append.1 hs with hs | hs
    · exact h n (by omega) s hs
    · exact good_rep g q M h c (n + q) (by omega) s hs
theorem good_L {l : List RX} {M : Nat} (h : ∀ x ∈ l, ∀ n, n + szX x ≤ M → ∀ s ∈ bld x n, GoodS M s) : ∀ n, n + szL l ≤ M → ∀ s ∈ bldL l n, GoodS M s := by
  induction l with
  | nil => intro n _ s hs; simp [bldL] at hs
  | cons x l ih =>
    intro n hM s hs
    simp only [szL] at hM
    rcases List.mem_append.1 hs with hs | hs
    · exact h x (by simp) n (by omega) s hs
    · exact ih (fun y hy => h y (by simp [hy])) (n + szX x) (by omega) s hs
theorem good_A {l : List RX} {M : Nat} (h : ∀ x ∈ l, ∀ n, n + szX x ≤ M → ∀ s ∈ bld x n, GoodS M s) : ∀ n e, e ≤ M → n + (szL l + (l.length - 1) * 2) ≤ M → ∀ s ∈ bldA l n e, GoodS M s := by
  induction l with
  | nil => intro n e _ _ s hs; simp [bldA] at hs
  | cons x l ih =>
    intro n e he hM s hs
    simp only [szL, List.length_cons] at hM
    rw [bldA] at hs
    rcases List.mem_append.1 hs with hs | hs
    · by_cases h0 : l.length = 0
      · rw [if_pos h0] at hs
        exact h x (by simp) n (by omega) s hs
      · rw [if_neg h0] at hs
        rcases List.mem_cons.1 hs with rfl | hs
        · exact good_fork _ _ _ (by omega)
        · rcases List.mem_append.1 hs with hs | hs
          · exact h x (by simp) (n + 1) (by omega) s hs
          · obtain rfl := List.mem_singleton.1 hs
            exact good_fork _ _ _ (by omega)
    · by_cases h0 : l.length = 0
      · obtain rfl : l = [] := List.eq_nil_of_length_eq_zero h0
        simp [bldA] at hs
      · exact ih (fun y hy => h y (by simp [hy])) (n + szX x + 2) e he (by omega) s hs
/-- The states of a right tree. -/
theorem bld_good : ∀ (t : RX) (d : Nat), rightB d t = true → ∀ (M n : Nat), n + szX t ≤ M → ∀ s ∈ bld t n, GoodS M s := by
  intro t
  induction t using RX.ind with
  | h k r lo hi z s ih =>
    intro d hr M n hM st hst
    obtain ⟨⟨e, rfl, hre⟩, hk4, hk5⟩ := right_parts hr
    have hrg : rgB r = true := by
      simp only [rightB, Bool.and_eq_true] at hr
      have := hr.1.1
      unfold headB at this
      cases hb : rgB r
      · rw [hb] at this; simp at this
      · rfl
    have hs : ∀ x ∈ s, ∀ n, n + szX x ≤ M → ∀ st ∈ bld x n, GoodS M st := fun x hx n hn => ih x hx e (hre x hx) M n hn
    have one : ∀ (k' : Int), 1 ≤ k' → k' ≤ 6 → k' ≠ 2 → n + 1 ≤ M → GoodS M ⟨k', [], (n : Int) + 1, 0⟩ := fun k' h1 h2 _ h4 => ⟨h1, h2, (by show (0 : Int) ≤ (n : Int) + 1; omega), (by show (n : Int) + 1 ≤ (M : Int); omega), Int.le_refl _, (by show (0 : Int) ≤ (M : Int); omega), fun _ => rfl, fun _ => rfl, rg_nil⟩
    by_cases c5 : k = 5
    · subst c5
      obtain ⟨_, hlo, _, hhi⟩ := hk5 rfl
      rw [szX_5] at hM
      rw [bld_5] at hst
      have hL : ∀ n, n + szL s ≤ M → ∀ st ∈ bldL s n, GoodS M st := good_L hs
      by_cases hh : hi = -1
      · rw [if_pos hh] at hst hM
        rcases List.mem_append.1 hst with hst | hst
        · exact good_rep _ _ M hL _ _ (by omega) st hst
        · rcases List.mem_append.1 hst with hst | hst
          · rcases List.mem_cons.1 hst with rfl | hst
            · exact good_fork _ _ _ (by omega)
            · exact hL _ (by omega) st hst
          · obtain rfl := List.mem_singleton.1 hst
            exact good_fork _ _ _ (by omega)
      · rw [if_neg hh] at hst hM
        rcases List.mem_append.1 hst with hst | hst
        · exact good_rep _ _ M hL _ _ (by omega) st hst
        · refine good_rep _ _ M (fun p hp st hst => ?_) _ _ (by omega) st hst
          rcases List.mem_cons.1 hst with rfl | hst
          · exact good_fork _ _ _ (by omega)
          · exact hL _ (by omega) st hst
    · rw [bld] at hst
      rw [szX] at hM
      by_cases c1 : k = 1
      · subst c1; simp at hst
      · rw [if_neg c1] at hM
        by_cases c3 : k = 3
        · subst c3; simp at hst hM; exact good_L hs n hM st hst
        · by_cases c4 : k = 4
          · subst c4; simp at hst hM; exact good_A hs n _ (by omega) hM st hst
          · rw [if_neg c3, if_neg c4, if_neg c5] at hM
            rw [if_neg c3, if_neg c4, if_neg c5] at hst
            by_cases c2 : k = 2
            · rw [if_pos c2] at hst
              obtain rfl := List.mem_singleton.1 hst
              exact ⟨by simp, by simp, (by show (0 : Int) ≤ (n : Int) + 1; omega), (by show (n : Int) + 1 ≤ (M : Int); omega), Int.le_refl _, (by show (0 : Int) ≤ (M : Int); omega), fun _ => rfl, fun h => absurd rfl h, hrg⟩
            · rw [if_neg c2] at hst
              by_cases c6 : k = 6
              · rw [if_pos c6] at hst; obtain rfl := List.mem_singleton.1 hst; exact one 3 (by omega) (by omega) (by omega) hM
              · rw [if_neg c6] at hst
                by_cases c7 : k = 7
                · rw [if_pos c7] at hst; obtain rfl := List.mem_singleton.1 hst; exact one 4 (by omega) (by omega) (by omega) hM
                · rw [if_neg c7] at hst
                  by_cases c8 : k = 8
                  · rw [if_pos c8] at hst; obtain rfl := List.mem_singleton.1 hst; exact one 5 (by omega) (by omega) (by omega) hM
                  · rw [if_neg c8] at hst
                    by_cases c9 : k = 9
                    · rw [if_pos c9] at hst; obtain rfl := List.mem_singleton.1 hst; exact one 6 (by omega) (by omega) (by omega) hM
                    · rw [if_neg c9] at hst; simp at hst
end Go.Proofs.Ytcgohdfpmfpfiaa
