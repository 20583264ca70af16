/-
  What ref4.four answers: the number of four digits of 16, or where it is bad: the same as lex.unit. Conditions: the bytes lie in memory, at most 2^48 of them.
-/
import Derived.Test.YtngpkgmgjbahgaaDoorF2
import Derived.Test.YtngpkgmgjbahgaaDoorV11
namespace Go.Proofs.YtngpkgmgjbahgaaDoor
open Go.RowKit
attribute [local go_sem] setCell_drewN alloc_drewN

/-- A number and a place, or the bad length, as the document's answer returns them. -/
def runV : Except Nat (Nat × Nat) → Value
  | .ok r => .tuple #[.int .i64 r.1, .int .i64 r.2, .int .i64 0]
  | .error n => .tuple #[.int .i64 0, .int .i64 0, .int .i64 n]
/-- What is known of the number so far. -/
def inv4 (low : Bool) (k val : Nat) : Prop :=
  if low = true then (k = 1 → val = 13) ∧ (k = 2 → 220 ≤ val ∧ val ≤ 223) ∧ (k = 3 → 3520 ≤ val ∧ val ≤ 3583) else (k = 2 → val < 220 ∨ 223 < val) ∧ (k = 3 → val < 3520 ∨ 3583 < val)
theorem unitF_step {l : List UInt8} {low : Bool} {j p val : Nat} (h : hasAt l p (stepU low val (4 * j)) = true) : unitF l low (j + 1) p val = unitF l low j (p + 1) (valU val (bx l p)) := by
  conv => lhs; rw [unitF]
  rw [if_pos h]
theorem unitF_stop {l : List UInt8} {low : Bool} {j p val : Nat} (h : hasAt l p (stepU low val (4 * j)) = false) : unitF l low (j + 1) p val = .error (p + 1) := by
  conv => lhs; rw [unitF]
  rw [if_neg (by rw [h]; simp)]

end Go.Proofs.YtngpkgmgjbahgaaDoor
