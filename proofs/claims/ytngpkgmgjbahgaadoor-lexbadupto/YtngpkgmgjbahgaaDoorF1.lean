/-
  What ref4.digit, ref4.some and ref4.word answer: the same as lex.digits and lex.spelled. Conditions: the bytes lie in memory, at most 2^48 of them.
-/
import Derived.Test.YtngpkgmgjbahgaaDoorV5
namespace Go.Proofs.YtngpkgmgjbahgaaDoor
open Go.RowKit
attribute [local go_sem] setCell_drewN alloc_drewN

/-- A place, or the bad length, as the document's answer returns them. -/
def rpV : Pl → Value
  | .ok k => .tuple #[.int .i64 k, .int .i64 0]
  | .error n => .tuple #[.int .i64 0, .int .i64 n]

end Go.Proofs.YtngpkgmgjbahgaaDoor
