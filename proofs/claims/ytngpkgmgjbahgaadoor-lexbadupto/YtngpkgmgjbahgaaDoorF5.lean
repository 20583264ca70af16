/-
  What ref4.escape answers: the code point behind a backslash, or the bad length: the same as lex.escape. Conditions: the bytes lie in memory, at most 2^48 of them.
-/
import Derived.Test.YtngpkgmgjbahgaaDoorV5
import Derived.Test.YtngpkgmgjbahgaaDoorV12
namespace Go.Proofs.YtngpkgmgjbahgaaDoor
open Go.RowKit
attribute [local go_sem] setCell_drewN alloc_drewN

/-- Behind four digits: a second four, where the first are a high surrogate's. -/
def afterU (l : List UInt8) : Except Nat (Nat × Nat) → Except Nat (Nat × Nat)
  | .error n => .error n
  | .ok r => if 55296 ≤ r.1 ∧ r.1 ≤ 56319 then pairL l r.2 r.1 else .ok r
/-- What stands behind a backslash: the code point, where it ends. -/
def escL (l : List UInt8) (i : Nat) : Except Nat (Nat × Nat) :=
  if hasAt l i meanB = true then .ok ((meanV (bx l i)).toNat, i + 1)
  else if hasAt l i (· == 117) = true then afterU l (unitL l false (i + 1))
  else .error (i + 1)

def fromS : ByteArray := ⟨#[34, 92, 47, 98, 102, 110, 114, 116]⟩
def toS : ByteArray := ⟨#[34, 92, 47, 8, 12, 10, 13, 9]⟩
theorem cx_bd (s : ByteArray) (k : Nat) : 0 ≤ cx s k ∧ cx s k < 256 := by
  unfold cx
  split
  · rename_i h
    have := UInt8.toNat_lt (s[k]'h)
    exact ⟨by omega, by omega⟩
  · omega
theorem mean_hit {c : Int} {k : Nat} (hk : k < 8) (h : c = cx fromS k) : meanB c = true ∧ meanV c = cx toS k := by
  have : k = 0 ∨ k = 1 ∨ k = 2 ∨ k = 3 ∨ k = 4 ∨ k = 5 ∨ k = 6 ∨ k = 7 := by omega
  subst h
  rcases this with rfl | rfl | rfl | rfl | rfl | rfl | rfl | rfl <;> decide
theorem mean_miss {c : Int} (h : ∀ j, j < 8 → c ≠ cx fromS j) : meanB c = false := by
  have h0 := h 0 (by omega)
  have h1 := h 1 (by omega)
  have h2 := h 2 (by omega)
  have h3 := h 3 (by omega)
  have h4 := h 4 (by omega)
  have h5 := h 5 (by omega)
  have h6 := h 6 (by omega)
  have h7 := h 7 (by omega)
  have e0 : cx fromS 0 = 34 := by decide
  have e1 : cx fromS 1 = 92 := by decide
  have e2 : cx fromS 2 = 47 := by decide
  have e3 : cx fromS 3 = 98 := by decide
  have e4 : cx fromS 4 = 102 := by decide
  have e5 : cx fromS 5 = 110 := by decide
  have e6 : cx fromS 6 = 114 := by decide
  have e7 : cx fromS 7 = 116 := by decide
  rw [e0] at h0; rw [e1] at h1; rw [e2] at h2; rw [e3] at h3; rw [e4] at h4; rw [e5] at h5; rw [e6] at h6; rw [e7] at h7
  simp [meanB, h0, h1, h2, h3, h4, h5, h6, h7]

theorem unitF_error {l : List UInt8} {low : Bool} (k : Nat) : ∀ {i val n : Nat}, unitF l low k i val = .error n → 0 < n := by
  induction k with
  | zero => intro i val n h; simp [unitF] at h
  | succ k ih =>
    intro i val n h
    simp only [unitF] at h
    split at h
    · exact ih h
    · have := Except.error.inj h; omega
theorem unitL_error {l : List UInt8} {low : Bool} {i n : Nat} (h : unitL l low i = .error n) : 0 < n := unitF_error 4 h

theorem escape_of {l : List UInt8} {i : Nat} (h : hasAt l i (· == 92) = true) : escapeL l i = match escL l (i + 1) with
    | .error n => .error n
    | .ok r => .ok (encL r.1, r.2) := by
  unfold escapeL escL
  rw [if_pos h]
  by_cases hu : hasAt l (i + 1) (· == 117) = true
  · have hin := hasAt_lt hu
    have hb : bx l (i + 1) = 117 := by rw [hasAt_in _ hin] at hu; simpa using hu
    rw [if_pos hu, if_neg (by rw [hasAt_in _ hin, hb]; decide), if_pos hu]
    unfold pointL afterU
    cases unitL l false (i + 1 + 1) with
    | error n => rfl
    | ok r =>
      simp only
      split
      · cases pairL l r.2 r.1 with
        | error n => rfl
        | ok q => rfl
      · rfl
  · rw [if_neg hu]
    by_cases hm : hasAt l (i + 1) meanB = true
    · rw [if_pos hm, if_pos hm]
      have hin := hasAt_lt hm
      rw [hasAt_in _ hin] at hm
      have hv : meanV (bx l (i + 1)) < 128 ∧ 0 ≤ meanV (bx l (i + 1)) := by
        unfold meanV
        repeat' split
        all_goals omega
      generalize meanV (bx l (i + 1)) = x at *
      simp only [Except.ok.injEq, Prod.mk.injEq, and_true]
      unfold encL
      have e1 : encN ((x.toNat : Nat) : Int) = 1 := if_pos (by omega)
      rw [e1]
      simp only [List.range_one, List.map_cons, List.map_nil, List.cons.injEq, and_true]
      have e2 : encF ((x.toNat : Nat) : Int) 0 = x := by unfold encF; simp; omega
      rw [e2]
    · rw [if_neg hm, if_neg hm, if_neg hu]
end Go.Proofs.YtngpkgmgjbahgaaDoor
