/-
  What ref4.escape answers: the code point behind a backslash, or the bad length: the same as lex.escape. Conditions: the bytes lie in memory, at most 2^48 of them.
-/
import Derived.Test.YtngpkgmgjbahgaaDoorF3
import Derived.Test.YtngpkgmgjbahgaaDoorF5
import Derived.Test.YtngpkgmgjbahgaaDoorG2
import Derived.Deep.DeepCutAuto
namespace Go.Proofs.YtngpkgmgjbahgaaDoor
open Go.RowKit
attribute [local go_sem] setCell_drewN alloc_drewN

def markS : ByteArray := ⟨#[92, 117]⟩
theorem spelledL_error {l : List UInt8} (cs : List UInt8) : ∀ {i n : Nat}, spelledL l i cs = .error n → 0 < n := by
  induction cs with
  | nil => intro i n h; simp [spelledL] at h
  | cons c cs ih =>
    intro i n h
    simp only [spelledL] at h
    split at h
    · exact ih h
    · have := Except.error.inj h; omega

end Go.Proofs.YtngpkgmgjbahgaaDoor
