/-
  What ref.length, ref.second, ref.step and ref.Good answer: the same step, and the same good beginning. No condition.
-/
import Derived.Test.YtngpkgmgjbahgaaDoorV1
namespace Go.Proofs.YtngpkgmgjbahgaaDoor
open Go.RowKit

theorem secB_mk (c d : Int) (x : Bool) (lo hi : Int) (h1 : (if c = 224 then (160 : Int) else if c = 240 then 144 else 128) = lo) (h2 : (if c = 237 then (159 : Int) else if c = 244 then 143 else 191) = hi)
    (h : x = true ↔ (lo ≤ d ∧ d ≤ hi)) : x = secB c d := by
  rw [Bool.eq_iff_iff, h, secB_iff, h1, h2]

end Go.Proofs.YtngpkgmgjbahgaaDoor
