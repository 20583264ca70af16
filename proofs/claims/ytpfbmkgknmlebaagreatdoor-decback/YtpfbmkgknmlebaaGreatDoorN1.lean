/-
  What nat's calls answer of numbers that are known by what they are worth. Conditions: the numbers have at most 1000 limbs.
-/
import Derived.Test.YtpfbmkgknmlebaaGreatDoorA11
namespace Go.Proofs.YtpfbmkgknmlebaaGreatDoor
open Go.RowKit

end Go.Proofs.YtpfbmkgknmlebaaGreatDoor
