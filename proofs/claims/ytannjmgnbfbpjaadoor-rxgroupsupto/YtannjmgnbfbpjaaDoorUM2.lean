/-
  Plain mathematics: a whole step of UTF-8, and what the model's own decoding of a text makes of it. No condition but that the bytes are those of the text.
-/
import Derived.Test.YtannjmgnbfbpjaaDoorUA4
namespace Go.Proofs.YtannjmgnbfbpjaaDoor
open Go.RowKit
set_option linter.unusedSimpArgs false
set_option linter.unusedVariables false

/-- The code point of n bytes. -/
def ptF (g : Nat → Int) (n : Nat) : Int :=
  if n = 1 then g 0 else if n = 2 then (g 0 % 32) * 64 + g 1 % 64 else if n = 3 then (g 0 % 16) * 4096 + (g 1 % 64) * 64 + g 2 % 64
  else (g 0 % 8) * 262144 + (g 1 % 64) * 4096 + (g 2 % 64) * 64 + g 3 % 64

/-- The whole steps, one by one. -/
theorem stepF_true (r : Nat) (g : Nat → Int) (n : Nat) (h : stepF r g = (n, true)) :
    (n = 1 ∧ stN (g 0) = 1) ∨ (n = 2 ∧ stN (g 0) = 2 ∧ 1 < r ∧ secB (g 0) (g 1) = true) ∨ (n = 3 ∧ stN (g 0) = 3 ∧ 2 < r ∧ secB (g 0) (g 1) = true ∧ folB (g 2) = true) ∨
    (n = 4 ∧ stN (g 0) ≠ 0 ∧ stN (g 0) ≠ 1 ∧ stN (g 0) ≠ 2 ∧ stN (g 0) ≠ 3 ∧ 3 < r ∧ secB (g 0) (g 1) = true ∧ folB (g 2) = true ∧ folB (g 3) = true) := by
  unfold stepF at h
  repeat' split at h
  all_goals simp only [Prod.mk.injEq, Bool.false_eq_true, and_false, and_true] at h
  · exact .inl ⟨h.symm, ‹_›⟩
  · exact .inr (.inl ⟨h.symm, ‹_›, by omega, by simp_all⟩)
  · exact .inr (.inr (.inl ⟨h.symm, ‹_›, by omega, by simp_all, by simp_all⟩))
  · exact .inr (.inr (.inr ⟨h.symm, ‹_›, ‹_›, ‹_›, ‹_›, by omega, by simp_all, by simp_all, by simp_all⟩))

theorem stN_one (c : Int) (e : stN c = 1) : c < 128 := by
  unfold stN at e; repeat' split at e
  all_goals omega
theorem stN_four' (c : Int) (a : stN c ≠ 0) (b : stN c ≠ 1) (d : stN c ≠ 2) (e : stN c ≠ 3) : 240 ≤ c ∧ c ≤ 244 := by
  unfold stN at *; repeat' split at a
  all_goals omega

/-- What the bytes of a whole step are. -/
theorem step_bytes (r : Nat) (g : Nat → Int) (n : Nat) (h : stepF r g = (n, true)) :
    (n = 1 ∧ g 0 < 128) ∨ (n = 2 ∧ 1 < r ∧ 194 ≤ g 0 ∧ g 0 ≤ 223 ∧ 128 ≤ g 1 ∧ g 1 ≤ 191) ∨
    (n = 3 ∧ 2 < r ∧ 224 ≤ g 0 ∧ g 0 ≤ 239 ∧ 128 ≤ g 1 ∧ g 1 ≤ 191 ∧ (g 0 = 224 → 160 ≤ g 1) ∧ (g 0 = 237 → g 1 ≤ 159) ∧ 128 ≤ g 2 ∧ g 2 ≤ 191) ∨
    (n = 4 ∧ 3 < r ∧ 240 ≤ g 0 ∧ g 0 ≤ 244 ∧ 128 ≤ g 1 ∧ g 1 ≤ 191 ∧ (g 0 = 240 → 144 ≤ g 1) ∧ (g 0 = 244 → g 1 ≤ 143) ∧ 128 ≤ g 2 ∧ g 2 ≤ 191 ∧ 128 ≤ g 3 ∧ g 3 ≤ 191) := by
  rcases stepF_true r g n h with ⟨e, a⟩ | ⟨e, a, l, s⟩ | ⟨e, a, l, s, t⟩ | ⟨e, a0, a1, a2, a3, l, s, t, u⟩
  · exact .inl ⟨e, stN_one _ a⟩
  · have b := stN_two _ a
    have f := secB_fol _ _ s
    rw [folB_iff] at f
    exact .inr (.inl ⟨e, l, b.1, b.2, f.1, f.2⟩)
  · have b := stN_three _ a
    have f := secB_fol _ _ s
    rw [folB_iff] at f t
    rw [secB_iff] at s
    refine .inr (.inr (.inl ⟨e, l, b.1, b.2, f.1, f.2, fun k => ?_, fun k => ?_, t.1, t.2⟩))
    · rw [if_pos k] at s; exact s.1
    · rw [if_pos (c := g 0 = 237) k] at s; exact s.2
  · have b := stN_four' _ a0 a1 a2 a3
    have f := secB_fol _ _ s
    rw [folB_iff] at f t u
    rw [secB_iff] at s
    refine .inr (.inr (.inr ⟨e, l, b.1, b.2, f.1, f.2, fun k => ?_, fun k => ?_, t.1, t.2, u.1, u.2⟩))
    · rw [if_neg (by omega), if_pos (c := g 0 = 240) k] at s; exact s.1
    · rw [if_neg (c := g 0 = 237) (by omega), if_pos (c := g 0 = 244) k] at s; exact s.2

theorem decode_step (s : ByteArray) (p r n : Nat) (g : Nat → Int) (hs : ∀ i, i < r → ((s.get! (p + i)).toNat : Int) = g i) (hl : s.size = p + r) (h0 : 0 < r) (h : stepF r g = (n, true)) :
    Utf8.decode s p = ((ptF g n).toNat, n) := by
  have e0 := hs 0 h0
  have e0s : ((s.get! p).toNat : Int) = g 0 := e0
  rcases step_bytes r g n h with ⟨rfl, a⟩ | ⟨rfl, l, a⟩ | ⟨rfl, l, a⟩ | ⟨rfl, l, a⟩
  · have c : (s.get! (p + 0)).toNat < 128 := by omega
    simp only [Utf8.decode, c, if_true, ptF]
    rw [← e0]; simp
  · have e1 := hs 1 (by omega)
    unfold Utf8.decode
    simp only []
    rw [if_neg (by omega), if_pos (by simp; omega), if_pos (by omega)]
    simp only [ptF]
    rw [Prod.mk.injEq]; refine ⟨?_, rfl⟩
    simp; omega
  · have e1 := hs 1 (by omega)
    have e2 := hs 2 (by omega)
    unfold Utf8.decode
    simp only []
    rw [if_neg (by omega), if_neg (by simp; omega), if_pos (by simp; omega), if_pos (by simp [Utf8.valid]; omega)]
    simp only [ptF]
    rw [Prod.mk.injEq]; refine ⟨?_, rfl⟩
    simp; omega
  · have e1 := hs 1 (by omega)
    have e2 := hs 2 (by omega)
    have e3 := hs 3 (by omega)
    unfold Utf8.decode
    simp only []
    rw [if_neg (by omega), if_neg (by simp; omega), if_neg (by simp; omega), if_pos (by simp; omega), if_pos (by simp [Utf8.valid]; omega)]
    simp only [ptF]
    rw [Prod.mk.injEq]; refine ⟨?_, rfl⟩
    simp; omega
end Go.Proofs.YtannjmgnbfbpjaaDoor
