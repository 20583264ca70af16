/-
  NARROWER THAN 'FOR EVERY INPUT', by the rows' own cells (each row's printed sentence says how): RxSets: laid · RxIn: laid · RxGroups: laid.
  DERIVED. THE GIVEN ROWS OF THIS SEAT. 3 by the template 'for every input the law returns true; each argument reads behind the call as it read before'; 0 by the template 'total and deterministic' (their statements: YtannjmgnbfbpjaaDoorTotals.lean).
  GIVEN WITH THE SEED: the statements are not yours to turn. If you find one false, say at which input.
  Laid BY PROGRAM, IN A SANDBOX (cutbox-rows.mjs): the forced cells as the released guide's own fill.sh prints them over the translation 266ce57f52316c95… (all of the seat's roots in one cut). By AI agents, Wed Nov 11 2026. No macro, syntax, notation, axiom, sorry.
-/
import Derived.Test.YtannjmgnbfbpjaaDoorChecked
import GoSem.Claim
import GoSem.ClaimJoined
import GoSem.ClaimMapViews
import Derived.JoinedTies
import Derived.KernelRfl
namespace Go.Proofs.YtannjmgnbfbpjaaDoor
/- THE CELL 'sum', in the pinned program and in every row, IS THE sha256 OF THE DUMP (.gsa) THAT YtannjmgnbfbpjaaDoorProg.lean LOADS. Nothing in Lean hashes anything: it is a label: what it is worth is what the hold of that sum in a sandbox is worth. -/
noncomputable def Tryd.pinned : Pinned := { name := "ytannjmgnbfbpjaadoor", sum := "266ce57f52316c95a72c1b54d3ce29e1f409c7b4fcd2dc35da36c8516c2d2dc8", checked := Tryd.checked }
namespace Rows
def none {H : Type} : Left H := { results := [], args := [] }

/- WHAT THE LISTED PACKAGE-LEVEL VARIABLES READ AS WHEN THE CALL BEGINS. Each datum BY PROGRAM (the guide's laid-datum.mjs) off the statement by which the dump's own 'gosem.cut.vars' lays the variable. In a bare row this is a premise. The card (YtannjmgnbfbpjaaDoorCards.lean) ties it to the program's text. -/
def laid_caliper_utf_greatest {H : Type} : DataW H := .agg [.lit (.int .i64 127), .lit (.int .i64 2047), .lit (.int .i64 65535), .lit (.int .i64 1114111)]

/-- 'caliperlaw09.RxSets': WHATEVER THE INPUT: true; the input reads as it did. -/
def rxSetsSpec : ChangeSpec := { name := "rxSets", fn := fun _ => fun
  | [d] => { results := [.lit (.bool true)], args := [d] }
  | _ => none }
def rxSetsRow : OpenClaim := { program := "ytannjmgnbfbpjaadoor", sum := "266ce57f52316c95a72c1b54d3ce29e1f409c7b4fcd2dc35da36c8516c2d2dc8", func := "caliper/caliperlaw09.RxSets", spec := "rxSets", inPlace := ["internal/bytealg.IndexByteString", "internal/bytealg.IndexString"], unfollowed := true, recurses := true, named := ["caliper/utf.greatest", "internal/bytealg.MaxLen"], apart := false, laid := [("caliper/utf.greatest", laid_caliper_utf_greatest)] }
def RxSetsSaid : Prop := rxSetsRow.holds Tryd.pinned (OpenSpec.ofChange rxSetsSpec)

/-- ITS FALSE NEIGHBOUR: 'it returns false'. Refute it at one input. -/
def rxSetsWrong : ChangeSpec := { name := "rxSets", fn := fun _ => fun
  | [d] => { results := [.lit (.bool false)], args := [d] }
  | _ => none }
def RxSetsWrongFalsely : Prop := rxSetsRow.holds Tryd.pinned (OpenSpec.ofChange rxSetsWrong)

/-- 'caliperlaw09.RxIn': WHATEVER THE INPUT: true; the input reads as it did. -/
def rxInSpec : ChangeSpec := { name := "rxIn", fn := fun _ => fun
  | [d1, d2] => { results := [.lit (.bool true)], args := [d1, d2] }
  | _ => none }
def rxInRow : OpenClaim := { program := "ytannjmgnbfbpjaadoor", sum := "266ce57f52316c95a72c1b54d3ce29e1f409c7b4fcd2dc35da36c8516c2d2dc8", func := "caliper/caliperlaw09.RxIn", spec := "rxIn", inPlace := ["internal/bytealg.IndexByteString", "internal/bytealg.IndexString"], unfollowed := true, recurses := true, named := ["caliper/utf.greatest", "internal/bytealg.MaxLen"], apart := false, laid := [("caliper/utf.greatest", laid_caliper_utf_greatest)] }
def RxInSaid : Prop := rxInRow.holds Tryd.pinned (OpenSpec.ofChange rxInSpec)

/-- ITS FALSE NEIGHBOUR: 'it returns false'. Refute it at one input. -/
def rxInWrong : ChangeSpec := { name := "rxIn", fn := fun _ => fun
  | [d1, d2] => { results := [.lit (.bool false)], args := [d1, d2] }
  | _ => none }
def RxInWrongFalsely : Prop := rxInRow.holds Tryd.pinned (OpenSpec.ofChange rxInWrong)

/-- 'caliperlaw09.RxGroups': WHATEVER THE INPUT: true; the input reads as it did. -/
def rxGroupsSpec : ChangeSpec := { name := "rxGroups", fn := fun _ => fun
  | [d1, d2] => { results := [.lit (.bool true)], args := [d1, d2] }
  | _ => none }
def rxGroupsRow : OpenClaim := { program := "ytannjmgnbfbpjaadoor", sum := "266ce57f52316c95a72c1b54d3ce29e1f409c7b4fcd2dc35da36c8516c2d2dc8", func := "caliper/caliperlaw09.RxGroups", spec := "rxGroups", inPlace := ["internal/bytealg.IndexByteString", "internal/bytealg.IndexString"], unfollowed := true, recurses := true, named := ["caliper/utf.greatest", "internal/bytealg.MaxLen"], apart := false, laid := [("caliper/utf.greatest", laid_caliper_utf_greatest)] }
def RxGroupsSaid : Prop := rxGroupsRow.holds Tryd.pinned (OpenSpec.ofChange rxGroupsSpec)

/-- ITS FALSE NEIGHBOUR: 'it returns false'. Refute it at one input. -/
def rxGroupsWrong : ChangeSpec := { name := "rxGroups", fn := fun _ => fun
  | [d1, d2] => { results := [.lit (.bool false)], args := [d1, d2] }
  | _ => none }
def RxGroupsWrongFalsely : Prop := rxGroupsRow.holds Tryd.pinned (OpenSpec.ofChange rxGroupsWrong)

/- THE SECOND FORM. 'bulk': how many values and letters a reading holds, each counted each time it is reached (what is shared counts as often as it is met; a slice's spare places count too). A statement '..UptoSaid' is the law's where the arguments, and the package variables that the reading takes, are together of bulk at most 1048576: NARROWER than '..Said'. Prove '..Said' where nothing that the law and all that it calls make is longer than what came in: it says more and counts as full. Else prove '..UptoSaid'. A law counts once. -/
mutual
def uptoBulk {H : Type} : DataW H → Nat
  | .lit (.string bytes) => bytes.length + 1
  | .lit _ => 1
  | .nil => 1
  | .ptr d => uptoBulk d + 1
  | .slice elems spare => uptoBulkAll elems + uptoBulkAll spare + 1
  | .agg parts => uptoBulkAll parts + 1
  | .iface _ d => uptoBulk d + 1
  | .map entries => uptoBulkEntries entries + 1
  | .held _ => 1
def uptoBulkAll {H : Type} : List (DataW H) → Nat
  | [] => 0
  | d :: r => uptoBulk d + uptoBulkAll r
def uptoBulkEntries {H : Type} : List (Lit × DataW H) → Nat
  | [] => 0
  | x :: r => uptoBulkEntry x + uptoBulkEntries r
def uptoBulkEntry {H : Type} : Lit × DataW H → Nat
  | (.string bytes, d) => bytes.length + uptoBulk d + 1
  | (_, d) => uptoBulk d + 1
 end
def uptoSmall : (H : Type) → List (DataW H) → Bool := fun _ ds => decide (uptoBulkAll ds ≤ 1048576)
def OpenSpec.upto (s : _root_.Go.ChangeSpec) : _root_.Go.OpenSpec := { _root_.Go.OpenSpec.ofChange s with cond := some uptoSmall }

/-- 'caliperlaw09.RxSets', WHERE WHAT IT READS IS OF BULK AT MOST 1048576: true; the input reads as it did. -/
def rxSetsUptoRow : OpenClaim := { program := "ytannjmgnbfbpjaadoor", sum := "266ce57f52316c95a72c1b54d3ce29e1f409c7b4fcd2dc35da36c8516c2d2dc8", func := "caliper/caliperlaw09.RxSets", spec := "rxSets", inPlace := ["internal/bytealg.IndexByteString", "internal/bytealg.IndexString"], unfollowed := true, recurses := true, named := ["caliper/utf.greatest", "internal/bytealg.MaxLen"], apart := false, laid := [("caliper/utf.greatest", laid_caliper_utf_greatest)], narrowed := true }
def RxSetsUptoSaid : Prop := rxSetsUptoRow.holds Tryd.pinned (OpenSpec.upto rxSetsSpec)

/-- 'caliperlaw09.RxIn', WHERE WHAT IT READS IS OF BULK AT MOST 1048576: true; the input reads as it did. -/
def rxInUptoRow : OpenClaim := { program := "ytannjmgnbfbpjaadoor", sum := "266ce57f52316c95a72c1b54d3ce29e1f409c7b4fcd2dc35da36c8516c2d2dc8", func := "caliper/caliperlaw09.RxIn", spec := "rxIn", inPlace := ["internal/bytealg.IndexByteString", "internal/bytealg.IndexString"], unfollowed := true, recurses := true, named := ["caliper/utf.greatest", "internal/bytealg.MaxLen"], apart := false, laid := [("caliper/utf.greatest", laid_caliper_utf_greatest)], narrowed := true }
def RxInUptoSaid : Prop := rxInUptoRow.holds Tryd.pinned (OpenSpec.upto rxInSpec)

/-- 'caliperlaw09.RxGroups', WHERE WHAT IT READS IS OF BULK AT MOST 1048576: true; the input reads as it did. -/
def rxGroupsUptoRow : OpenClaim := { program := "ytannjmgnbfbpjaadoor", sum := "266ce57f52316c95a72c1b54d3ce29e1f409c7b4fcd2dc35da36c8516c2d2dc8", func := "caliper/caliperlaw09.RxGroups", spec := "rxGroups", inPlace := ["internal/bytealg.IndexByteString", "internal/bytealg.IndexString"], unfollowed := true, recurses := true, named := ["caliper/utf.greatest", "internal/bytealg.MaxLen"], apart := false, laid := [("caliper/utf.greatest", laid_caliper_utf_greatest)], narrowed := true }
def RxGroupsUptoSaid : Prop := rxGroupsUptoRow.holds Tryd.pinned (OpenSpec.upto rxGroupsSpec)

end Rows
end Go.Proofs.YtannjmgnbfbpjaaDoor
