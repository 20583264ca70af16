/-
  What ref4.number answers: the same as lex.number. Conditions: the bytes lie in memory, at most 2^48 of them.
-/
import Derived.Test.YtngpkgmgjbahgaaDoorF1
import Derived.Deep.DeepCutAuto
namespace Go.Proofs.YtngpkgmgjbahgaaDoor
open Go.RowKit
attribute [local go_sem] setCell_drewN alloc_drewN

theorem digitsL_error {l : List UInt8} {i n : Nat} (h : digitsL l i = .error n) : n = i + 1 := by
  unfold digitsL at h
  split at h
  · cases h
  · exact (Except.error.inj h).symm
theorem digitsL_ok {l : List UInt8} {i k : Nat} (h : digitsL l i = .ok k) : k ≤ l.length := (digitsL_le h).2

end Go.Proofs.YtngpkgmgjbahgaaDoor
