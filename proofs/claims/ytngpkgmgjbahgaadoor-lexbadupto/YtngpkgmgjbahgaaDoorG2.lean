/-
  What ref1.Put and ref1.Pair answer. Conditions: what stands ahead of a code point is at most 2^47 - 4096 bytes long.
-/
import Derived.Test.YtngpkgmgjbahgaaDoorUB3
import Derived.Test.YtngpkgmgjbahgaaDoorV13
namespace Go.Proofs.YtngpkgmgjbahgaaDoor
open Go.RowKit

end Go.Proofs.YtngpkgmgjbahgaaDoor
