/-
  How a walk becomes a row: texts that come in as arguments, and how many bytes they can be. Conditions: none of its own.
-/
import Derived.Test.YtgmigdfkdioalaaUU1
import Derived.Test.YtgmigdfkdioalaaRows
import Derived.ProofKit
import Derived.OpenShut
import Derived.ShutString
import Derived.ChangeOld
import Derived.Below
import Derived.Deep.DeepHandedRow
import Derived.SizedLaws
import Derived.LaidLaws
namespace Go.Proofs.Ytgmigdfkdioalaa
open Go.ChangeShapes Go.WideShapes Go.ChangeAt Go.RowKit

theorem own : ownKnob Try.prog.godebug = none := by kernel_rfl
theorem laidOut : laidOutB Try.prog = true := by kernel_rfl
theorem bulk_part {H : Type} {d : DataW H} : ∀ {l : List (DataW H)}, d ∈ l → Rows.uptoBulk d ≤ Rows.uptoBulkAll l
  | x :: r, h => by
    simp only [Rows.uptoBulkAll]
    rcases List.mem_cons.1 h with e | e
    · subst e; omega
    · have := bulk_part e; omega
theorem upto_text {H : Type} {ds : List (DataW H)} (hc : Rows.uptoSmall H ds = true) {j : Nat} {bytes : List UInt8} (hd : ds[j]? = some (.lit (.string bytes))) : bytes.length ≤ 1048576 := by
  have hb : Rows.uptoBulkAll ds ≤ 1048576 := of_decide_eq_true hc
  have hp := bulk_part (List.mem_of_getElem? hd)
  simp only [Rows.uptoBulk] at hp
  omega
end Go.Proofs.Ytgmigdfkdioalaa
