/-
  What ref4.Blank answers, and plain facts on what is read at a place. No condition.
-/
import Derived.Test.YtngpkgmgjbahgaaDoorF7
import Derived.Test.YtngpkgmgjbahgaaDoorF4
import Derived.Test.YtngpkgmgjbahgaaDoorV17
namespace Go.Proofs.YtngpkgmgjbahgaaDoor
open Go.RowKit
attribute [local go_sem] setCell_drewN alloc_drewN

theorem spelled_sub {l : List UInt8} (cs : List UInt8) : ∀ {i k : Nat}, spelledL l i cs = .ok k → sub l i k = cs := by
  induction cs with
  | nil => intro i k h; simp [spelledL] at h; subst h; exact sub_self _ _
  | cons c cs ih =>
    intro i k h
    simp only [spelledL] at h
    split at h
    · rename_i g
      have hl := hasAt_lt g
      have e := ih h
      have hk := (spelledL_le cs h).1
      rw [hasAt_in _ hl] at g
      have g2 : bx l i = (c.toNat : Int) := by simpa using g
      rw [← bx_at hl] at g2
      have g3 : l[i] = c := UInt8.toNat.inj (by omega)
      rw [← sub_cat (m := 1) (by omega), e]
      simp [sub, List.drop_eq_getElem_cons hl, g3]
    · cases h
theorem readL_word {l : List UInt8} {p : Nat} (hp : p < l.length) (hs : signB (bx l p) = false) :
    (bx l p = 110 → readL l p = stands 3 l p (spelledL l p [110, 117, 108, 108])) ∧ (bx l p = 116 → readL l p = stands 3 l p (spelledL l p [116, 114, 117, 101])) ∧ (bx l p = 102 → readL l p = stands 3 l p (spelledL l p [102, 97, 108, 115, 101])) ∧
    (bx l p = 45 → readL l p = stands 2 l p (numberL l p)) ∧ (digitB (bx l p) = true → readL l p = stands 2 l p (numberL l p)) ∧ (bx l p = 34 → readL l p = textL l p) := by
  have h0 : ¬ p = l.length := by omega
  unfold readL
  rw [if_neg h0, if_neg (by rw [hs]; simp)]
  refine ⟨fun h => ?_, fun h => ?_, fun h => ?_, fun h => ?_, fun h => ?_, fun h => ?_⟩
  · rw [if_pos h]
  · rw [if_neg (by omega), if_pos h]
  · rw [if_neg (by omega), if_neg (by omega), if_pos h]
  · rw [if_neg (by omega), if_neg (by omega), if_neg (by omega), if_pos (.inl h)]
  · have g : 48 ≤ bx l p ∧ bx l p ≤ 57 := by simpa [digitB] using h
    rw [if_neg (by omega), if_neg (by omega), if_neg (by omega), if_pos (.inr h)]
  · rw [if_neg (by omega), if_neg (by omega), if_neg (by omega), if_neg (by rw [h]; decide), if_pos h]
theorem readL_none {l : List UInt8} {p : Nat} (hp : p < l.length) (hs : signB (bx l p) = false) (n1 : bx l p ≠ 110) (n2 : bx l p ≠ 116) (n3 : bx l p ≠ 102) (n4 : bx l p ≠ 45) (n5 : digitB (bx l p) = false) (n6 : bx l p ≠ 34) : readL l p = .error (p + 1) := by
  unfold readL
  rw [if_neg (by omega), if_neg (by rw [hs]; simp), if_neg n1, if_neg n2, if_neg n3, if_neg (by rw [n5]; simp [n4]), if_neg n6]
theorem readL_sign {l : List UInt8} {p : Nat} (hp : p < l.length) (hs : signB (bx l p) = true) : readL l p = .ok ⟨4, sub l p (p + 1), p, p + 1⟩ := by
  unfold readL
  rw [if_neg (by omega), if_pos hs]
theorem numberL_error {l : List UInt8} {i n : Nat} (h : numberL l i = .error n) : 0 < n := by
  unfold numberL at h
  cases hw : wholeL l i with
  | error a =>
    rw [hw] at h
    have e : a = n := Except.error.inj h
    unfold wholeL at hw
    split at hw
    · cases hw
    · have := digitsL_error hw; omega
  | ok a =>
    rw [hw] at h
    cases hf : fracPart l (.ok a) with
    | error b =>
      rw [hf] at h
      have e : b = n := Except.error.inj h
      simp only [fracPart] at hf
      split at hf
      · have := digitsL_error hf; omega
      · cases hf
    | ok b =>
      rw [hf] at h
      simp only [expPart] at h
      split at h
      · have := digitsL_error h; omega
      · cases h
theorem textF_error {l : List UInt8} {fr : Nat} (f : Nat) : ∀ {i n : Nat} {out : List UInt8}, textF l fr f i out = .error n → 0 < n := by
  induction f with
  | zero => intro i n out h; simp only [textF] at h; have := Except.error.inj h; omega
  | succ f ih =>
    intro i n out h
    simp only [textF] at h
    cases hp : plainL l i with
    | error m =>
      rw [hp] at h
      have e : m = n := Except.error.inj h
      unfold plainL at hp
      split at hp
      · cases hp
      · have := Except.error.inj hp; omega
    | ok e =>
      rw [hp] at h
      simp only at h
      split at h
      · cases h
      · cases hx : escapeL l e with
        | error m =>
          rw [hx] at h
          have e2 : m = n := Except.error.inj h
          by_cases hb : hasAt l e (· == 92) = true
          · rw [escape_of hb] at hx
            cases hy : escL l (e + 1) with
            | error q => rw [hy] at hx; have := escL_error hy; have := Except.error.inj hx; omega
            | ok r => rw [hy] at hx; cases hx
          · unfold escapeL at hx
            rw [if_neg hb] at hx
            have := Except.error.inj hx
            omega
        | ok r => rw [hx] at h; exact ih h
theorem textL_error {l : List UInt8} {i n : Nat} (h : textL l i = .error n) : 0 < n := textF_error _ h
theorem textF_ok {l : List UInt8} {fr : Nat} (f : Nat) : ∀ {i : Nat} {out : List UInt8} {t : Tok}, textF l fr f i out = .ok t → t.kind = 1 ∧ t.fr = fr := by
  induction f with
  | zero => intro i out t h; simp [textF] at h
  | succ f ih =>
    intro i out t h
    simp only [textF] at h
    cases hp : plainL l i with
    | error m => rw [hp] at h; cases h
    | ok e =>
      rw [hp] at h
      simp only at h
      split at h
      · have := Except.ok.inj h; subst this; exact ⟨rfl, rfl⟩
      · cases hx : escapeL l e with
        | error m => rw [hx] at h; cases h
        | ok r => rw [hx] at h; exact ih h
theorem keep2 {w w' : World} {a b c d : Value} {a' b' c' d' : Value} {ty : TypeId} (h : Below ((w.alloc (.cells #[a, b, c, d] ty)).alloc (.cells #[a', b', c', d'] ty)).heap.size ((w.alloc (.cells #[a, b, c, d] ty)).alloc (.cells #[a', b', c', d'] ty)) w') :
    (∀ o, w'.cell? ⟨w.heap.size, o, none⟩ = #[a, b, c, d][o]?) ∧ (∀ o, w'.frozen? ⟨w.heap.size, o, none⟩ = false) ∧ (∀ o, w'.cell? ⟨w.heap.size + 1, o, none⟩ = #[a', b', c', d'][o]?) ∧ (∀ o, w'.frozen? ⟨w.heap.size + 1, o, none⟩ = false) ∧ w.heap.size + 1 < w'.heap.size := by
  have z := h.size
  simp only [World.size_alloc] at z
  refine ⟨fun o => ?_, fun o => ?_, fun o => ?_, fun o => ?_, by omega⟩
  · rw [h.cell (p := ⟨w.heap.size, o, none⟩) (by simp only [World.size_alloc]; omega)]
    simp [go_sem]
  · rw [h.frozen (p := ⟨w.heap.size, o, none⟩) (by simp only [World.size_alloc]; omega)]
    simp [go_sem]
  · rw [h.cell (p := ⟨w.heap.size + 1, o, none⟩) (by simp only [World.size_alloc]; omega)]
    simp [go_sem]
  · rw [h.frozen (p := ⟨w.heap.size + 1, o, none⟩) (by simp only [World.size_alloc]; omega)]
    simp [go_sem]
end Go.Proofs.YtngpkgmgjbahgaaDoor
