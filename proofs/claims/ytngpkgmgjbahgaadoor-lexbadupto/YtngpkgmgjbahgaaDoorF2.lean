/-
  What ref4.Hex answers: a digit of 16. No condition but that a byte is below 256.
-/
import Derived.Test.YtngpkgmgjbahgaaDoorF1
import Derived.Test.YtngpkgmgjbahgaaDoorV7
namespace Go.Proofs.YtngpkgmgjbahgaaDoor
open Go.RowKit
attribute [local go_sem] setCell_drewN alloc_drewN

def hexI (c : Int) : Int := if hexB c = true then hexV c else -1

end Go.Proofs.YtngpkgmgjbahgaaDoor
