/-
  Trees in which nothing is longer than a bound. No condition.
-/
import Derived.Test.YtcgohdfpmfpfiaaX2
namespace Go.Proofs.Ytcgohdfpmfpfiaa

/-- Nothing in it is longer than N. -/
inductive BdX (N : Nat) : RX → Prop
  | mk {k : Int} {r : List (Int × Int)} {lo hi : Int} {z : Bool} {s : List RX} (h1 : r.length ≤ N) (h2 : s.length ≤ N) (h3 : ∀ c ∈ s, BdX N c) : BdX N (.mk k r lo hi z s)
theorem BdX.mono {N M : Nat} {v : RX} (h : BdX N v) (hle : N ≤ M) : BdX M v := by
  induction v using RX.ind with
  | h k r lo hi z s ih =>
    cases h with
    | mk h1 h2 h3 => exact .mk (by omega) (by omega) (fun c hc => ih c hc (h3 c hc))
theorem BdX.r {N : Nat} {k : Int} {r : List (Int × Int)} {lo hi : Int} {z : Bool} {s : List RX} (h : BdX N (.mk k r lo hi z s)) : r.length ≤ N := by cases h; assumption
theorem BdX.s {N : Nat} {k : Int} {r : List (Int × Int)} {lo hi : Int} {z : Bool} {s : List RX} (h : BdX N (.mk k r lo hi z s)) : ∀ c ∈ s, BdX N c := by cases h; assumption
theorem BdX.n {N : Nat} {k : Int} {r : List (Int × Int)} {lo hi : Int} {z : Bool} {s : List RX} (h : BdX N (.mk k r lo hi z s)) : s.length ≤ N := by cases h; assumption
end Go.Proofs.Ytcgohdfpmfpfiaa
