/-
  What ref4.Next answers: the same as lex.Next. Conditions: the bytes lie in memory, at most 2^47 - 4096 of them, one at least; the place lies within them.
-/
import Derived.Test.YtnpnnkjkohcgnaaDoorF9w
import Derived.Test.YtnpnnkjkohcgnaaDoorF9n
import Derived.Test.YtnpnnkjkohcgnaaDoorF9t
import Derived.Test.YtnpnnkjkohcgnaaDoorF9s
namespace Go.Proofs.YtnpnnkjkohcgnaaDoor
open Go.RowKit

theorem rnext_some (l : List UInt8) (i : Nat) (v : Value) (w : World) (hB : Byt w v l) (h0 : 0 < l.length) (hi : i ≤ l.length) (hm : l.length ≤ 140737488351232) :
    Calls Tryd.prog 7 #[v, .int .i64 i] w fun r w' => r = .returned (nxV (nextL l i)) ∧ Below w.heap.size w w' := by
  by_cases hw : pass l blankB i < l.length ∧ (bx l (pass l blankB i) = 110 ∨ bx l (pass l blankB i) = 116 ∨ bx l (pass l blankB i) = 102)
  · exact rnext_w l i v w hB h0 hi hm hw
  · by_cases hn : pass l blankB i < l.length ∧ (bx l (pass l blankB i) = 45 ∨ (48 ≤ bx l (pass l blankB i) ∧ bx l (pass l blankB i) ≤ 57))
    · exact rnext_n l i v w hB h0 hi hm hn
    · by_cases ht : pass l blankB i < l.length ∧ bx l (pass l blankB i) = 34
      · exact rnext_t l i v w hB h0 hi hm ht
      · exact rnext_s l i v w hB h0 hi hm (fun h => by omega)
end Go.Proofs.YtnpnnkjkohcgnaaDoor
