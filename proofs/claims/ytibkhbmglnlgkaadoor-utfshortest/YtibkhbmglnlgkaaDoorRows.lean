/-
  NARROWER THAN 'FOR EVERY INPUT', by the rows' own cells (each row's printed sentence says how): UtfReads: laid · UtfPuts: laid · UtfBack: laid · UtfShortest: laid · UtfPairs: laid · UtfOrder: laid.
  DERIVED. THE GIVEN ROWS OF THIS SEAT. 6 by the template 'for every input the law returns true; each argument reads behind the call as it read before'; 0 by the template 'total and deterministic' (their statements: YtibkhbmglnlgkaaDoorTotals.lean).
  GIVEN WITH THE SEED: the statements are not yours to turn. If you find one false, say at which input.
  Laid BY PROGRAM, IN A SANDBOX (cutbox-rows.mjs): the forced cells as the released guide's own fill.sh prints them over the translation 768a22207496b7d8… (all of the seat's roots in one cut). By AI agents, Wed Nov 11 2026. No macro, syntax, notation, axiom, sorry.
-/
import Derived.Test.YtibkhbmglnlgkaaDoorChecked
import GoSem.Claim
import GoSem.ClaimJoined
import GoSem.ClaimMapViews
import Derived.JoinedTies
import Derived.KernelRfl
namespace Go.Proofs.YtibkhbmglnlgkaaDoor
/- THE CELL 'sum', in the pinned program and in every row, IS THE sha256 OF THE DUMP (.gsa) THAT YtibkhbmglnlgkaaDoorProg.lean LOADS. Nothing in Lean hashes anything: it is a label: what it is worth is what the hold of that sum in a sandbox is worth. -/
noncomputable def Tryd.pinned : Pinned := { name := "ytibkhbmglnlgkaadoor", sum := "768a22207496b7d8e736504bffb47419f03b9737b13d4d70746c478f3d8103b2", checked := Tryd.checked }
namespace Rows
def none {H : Type} : Left H := { results := [], args := [] }

/- WHAT THE LISTED PACKAGE-LEVEL VARIABLES READ AS WHEN THE CALL BEGINS. Each datum BY PROGRAM (the guide's laid-datum.mjs) off the statement by which the dump's own 'gosem.cut.vars' lays the variable. In a bare row this is a premise. The card (YtibkhbmglnlgkaaDoorCards.lean) ties it to the program's text. -/
def laid_caliper_utf_greatest {H : Type} : DataW H := .agg [.lit (.int .i64 127), .lit (.int .i64 2047), .lit (.int .i64 65535), .lit (.int .i64 1114111)]

/-- 'caliperlaw01.UtfReads': WHATEVER THE INPUT: true; the input reads as it did. -/
def utfReadsSpec : ChangeSpec := { name := "utfReads", fn := fun _ => fun
  | [d1, d2] => { results := [.lit (.bool true)], args := [d1, d2] }
  | _ => none }
def utfReadsRow : OpenClaim := { program := "ytibkhbmglnlgkaadoor", sum := "768a22207496b7d8e736504bffb47419f03b9737b13d4d70746c478f3d8103b2", func := "caliper/caliperlaw01.UtfReads", spec := "utfReads", inPlace := ["internal/bytealg.abigen_runtime_cmpstring"], named := ["caliper/utf.greatest"], apart := false, laid := [("caliper/utf.greatest", laid_caliper_utf_greatest)] }
def UtfReadsSaid : Prop := utfReadsRow.holds Tryd.pinned (OpenSpec.ofChange utfReadsSpec)

/-- ITS FALSE NEIGHBOUR: 'it returns false'. Refute it at one input. -/
def utfReadsWrong : ChangeSpec := { name := "utfReads", fn := fun _ => fun
  | [d1, d2] => { results := [.lit (.bool false)], args := [d1, d2] }
  | _ => none }
def UtfReadsWrongFalsely : Prop := utfReadsRow.holds Tryd.pinned (OpenSpec.ofChange utfReadsWrong)

/-- 'caliperlaw01.UtfPuts': WHATEVER THE INPUT: true; the input reads as it did. -/
def utfPutsSpec : ChangeSpec := { name := "utfPuts", fn := fun _ => fun
  | [d1, d2, d3] => { results := [.lit (.bool true)], args := [d1, d2, d3] }
  | _ => none }
def utfPutsRow : OpenClaim := { program := "ytibkhbmglnlgkaadoor", sum := "768a22207496b7d8e736504bffb47419f03b9737b13d4d70746c478f3d8103b2", func := "caliper/caliperlaw01.UtfPuts", spec := "utfPuts", named := ["caliper/utf.greatest"], apart := false, laid := [("caliper/utf.greatest", laid_caliper_utf_greatest)] }
def UtfPutsSaid : Prop := utfPutsRow.holds Tryd.pinned (OpenSpec.ofChange utfPutsSpec)

/-- ITS FALSE NEIGHBOUR: 'it returns false'. Refute it at one input. -/
def utfPutsWrong : ChangeSpec := { name := "utfPuts", fn := fun _ => fun
  | [d1, d2, d3] => { results := [.lit (.bool false)], args := [d1, d2, d3] }
  | _ => none }
def UtfPutsWrongFalsely : Prop := utfPutsRow.holds Tryd.pinned (OpenSpec.ofChange utfPutsWrong)

/-- 'caliperlaw01.UtfBack': WHATEVER THE INPUT: true; the input reads as it did. -/
def utfBackSpec : ChangeSpec := { name := "utfBack", fn := fun _ => fun
  | [d] => { results := [.lit (.bool true)], args := [d] }
  | _ => none }
def utfBackRow : OpenClaim := { program := "ytibkhbmglnlgkaadoor", sum := "768a22207496b7d8e736504bffb47419f03b9737b13d4d70746c478f3d8103b2", func := "caliper/caliperlaw01.UtfBack", spec := "utfBack", named := ["caliper/utf.greatest"], apart := false, laid := [("caliper/utf.greatest", laid_caliper_utf_greatest)] }
def UtfBackSaid : Prop := utfBackRow.holds Tryd.pinned (OpenSpec.ofChange utfBackSpec)

/-- ITS FALSE NEIGHBOUR: 'it returns false'. Refute it at one input. -/
def utfBackWrong : ChangeSpec := { name := "utfBack", fn := fun _ => fun
  | [d] => { results := [.lit (.bool false)], args := [d] }
  | _ => none }
def UtfBackWrongFalsely : Prop := utfBackRow.holds Tryd.pinned (OpenSpec.ofChange utfBackWrong)

/-- 'caliperlaw01.UtfShortest': WHATEVER THE INPUT: true; the input reads as it did. -/
def utfShortestSpec : ChangeSpec := { name := "utfShortest", fn := fun _ => fun
  | [d] => { results := [.lit (.bool true)], args := [d] }
  | _ => none }
def utfShortestRow : OpenClaim := { program := "ytibkhbmglnlgkaadoor", sum := "768a22207496b7d8e736504bffb47419f03b9737b13d4d70746c478f3d8103b2", func := "caliper/caliperlaw01.UtfShortest", spec := "utfShortest", named := ["caliper/utf.greatest"], apart := false, laid := [("caliper/utf.greatest", laid_caliper_utf_greatest)] }
def UtfShortestSaid : Prop := utfShortestRow.holds Tryd.pinned (OpenSpec.ofChange utfShortestSpec)

/-- ITS FALSE NEIGHBOUR: 'it returns false'. Refute it at one input. -/
def utfShortestWrong : ChangeSpec := { name := "utfShortest", fn := fun _ => fun
  | [d] => { results := [.lit (.bool false)], args := [d] }
  | _ => none }
def UtfShortestWrongFalsely : Prop := utfShortestRow.holds Tryd.pinned (OpenSpec.ofChange utfShortestWrong)

/-- 'caliperlaw01.UtfPairs': WHATEVER THE INPUT: true; the input reads as it did. -/
def utfPairsSpec : ChangeSpec := { name := "utfPairs", fn := fun _ => fun
  | [d] => { results := [.lit (.bool true)], args := [d] }
  | _ => none }
def utfPairsRow : OpenClaim := { program := "ytibkhbmglnlgkaadoor", sum := "768a22207496b7d8e736504bffb47419f03b9737b13d4d70746c478f3d8103b2", func := "caliper/caliperlaw01.UtfPairs", spec := "utfPairs", named := ["caliper/utf.greatest"], apart := false, laid := [("caliper/utf.greatest", laid_caliper_utf_greatest)] }
def UtfPairsSaid : Prop := utfPairsRow.holds Tryd.pinned (OpenSpec.ofChange utfPairsSpec)

/-- ITS FALSE NEIGHBOUR: 'it returns false'. Refute it at one input. -/
def utfPairsWrong : ChangeSpec := { name := "utfPairs", fn := fun _ => fun
  | [d] => { results := [.lit (.bool false)], args := [d] }
  | _ => none }
def UtfPairsWrongFalsely : Prop := utfPairsRow.holds Tryd.pinned (OpenSpec.ofChange utfPairsWrong)

/-- 'caliperlaw01.UtfOrder': WHATEVER THE INPUT: true; the input reads as it did. -/
def utfOrderSpec : ChangeSpec := { name := "utfOrder", fn := fun _ => fun
  | [d1, d2] => { results := [.lit (.bool true)], args := [d1, d2] }
  | _ => none }
def utfOrderRow : OpenClaim := { program := "ytibkhbmglnlgkaadoor", sum := "768a22207496b7d8e736504bffb47419f03b9737b13d4d70746c478f3d8103b2", func := "caliper/caliperlaw01.UtfOrder", spec := "utfOrder", inPlace := ["internal/bytealg.abigen_runtime_cmpstring"], named := ["caliper/utf.greatest"], apart := false, laid := [("caliper/utf.greatest", laid_caliper_utf_greatest)] }
def UtfOrderSaid : Prop := utfOrderRow.holds Tryd.pinned (OpenSpec.ofChange utfOrderSpec)

/-- ITS FALSE NEIGHBOUR: 'it returns false'. Refute it at one input. -/
def utfOrderWrong : ChangeSpec := { name := "utfOrder", fn := fun _ => fun
  | [d1, d2] => { results := [.lit (.bool false)], args := [d1, d2] }
  | _ => none }
def UtfOrderWrongFalsely : Prop := utfOrderRow.holds Tryd.pinned (OpenSpec.ofChange utfOrderWrong)

/- THE SECOND FORM. 'bulk': how many values and letters a reading holds, each counted each time it is reached (what is shared counts as often as it is met; a slice's spare places count too). A statement '..UptoSaid' is the law's where the arguments, and the package variables that the reading takes, are together of bulk at most 1048576: NARROWER than '..Said'. Prove '..Said' where nothing that the law and all that it calls make is longer than what came in: it says more and counts as full. Else prove '..UptoSaid'. A law counts once. -/
mutual
def uptoBulk {H : Type} : DataW H → Nat
  | .lit (.string bytes) => bytes.length + 1
  | .lit _ => 1
  | .nil => 1
  | .ptr d => uptoBulk d + 1
  | .slice elems spare => uptoBulkAll elems + uptoBulkAll spare + 1
  | .agg parts => uptoBulkAll parts + 1
  | .iface _ d => uptoBulk d + 1
  | .map entries => uptoBulkEntries entries + 1
  | .held _ => 1
def uptoBulkAll {H : Type} : List (DataW H) → Nat
  | [] => 0
  | d :: r => uptoBulk d + uptoBulkAll r
def uptoBulkEntries {H : Type} : List (Lit × DataW H) → Nat
  | [] => 0
  | x :: r => uptoBulkEntry x + uptoBulkEntries r
def uptoBulkEntry {H : Type} : Lit × DataW H → Nat
  | (.string bytes, d) => bytes.length + uptoBulk d + 1
  | (_, d) => uptoBulk d + 1
 end
def uptoSmall : (H : Type) → List (DataW H) → Bool := fun _ ds => decide (uptoBulkAll ds ≤ 1048576)
def OpenSpec.upto (s : _root_.Go.ChangeSpec) : _root_.Go.OpenSpec := { _root_.Go.OpenSpec.ofChange s with cond := some uptoSmall }

/-- 'caliperlaw01.UtfReads', WHERE WHAT IT READS IS OF BULK AT MOST 1048576: true; the input reads as it did. -/
def utfReadsUptoRow : OpenClaim := { program := "ytibkhbmglnlgkaadoor", sum := "768a22207496b7d8e736504bffb47419f03b9737b13d4d70746c478f3d8103b2", func := "caliper/caliperlaw01.UtfReads", spec := "utfReads", inPlace := ["internal/bytealg.abigen_runtime_cmpstring"], named := ["caliper/utf.greatest"], apart := false, laid := [("caliper/utf.greatest", laid_caliper_utf_greatest)], narrowed := true }
def UtfReadsUptoSaid : Prop := utfReadsUptoRow.holds Tryd.pinned (OpenSpec.upto utfReadsSpec)

/-- 'caliperlaw01.UtfPuts', WHERE WHAT IT READS IS OF BULK AT MOST 1048576: true; the input reads as it did. -/
def utfPutsUptoRow : OpenClaim := { program := "ytibkhbmglnlgkaadoor", sum := "768a22207496b7d8e736504bffb47419f03b9737b13d4d70746c478f3d8103b2", func := "caliper/caliperlaw01.UtfPuts", spec := "utfPuts", named := ["caliper/utf.greatest"], apart := false, laid := [("caliper/utf.greatest", laid_caliper_utf_greatest)], narrowed := true }
def UtfPutsUptoSaid : Prop := utfPutsUptoRow.holds Tryd.pinned (OpenSpec.upto utfPutsSpec)

/-- 'caliperlaw01.UtfBack', WHERE WHAT IT READS IS OF BULK AT MOST 1048576: true; the input reads as it did. -/
def utfBackUptoRow : OpenClaim := { program := "ytibkhbmglnlgkaadoor", sum := "768a22207496b7d8e736504bffb47419f03b9737b13d4d70746c478f3d8103b2", func := "caliper/caliperlaw01.UtfBack", spec := "utfBack", named := ["caliper/utf.greatest"], apart := false, laid := [("caliper/utf.greatest", laid_caliper_utf_greatest)], narrowed := true }
def UtfBackUptoSaid : Prop := utfBackUptoRow.holds Tryd.pinned (OpenSpec.upto utfBackSpec)

/-- 'caliperlaw01.UtfShortest', WHERE WHAT IT READS IS OF BULK AT MOST 1048576: true; the input reads as it did. -/
def utfShortestUptoRow : OpenClaim := { program := "ytibkhbmglnlgkaadoor", sum := "768a22207496b7d8e736504bffb47419f03b9737b13d4d70746c478f3d8103b2", func := "caliper/caliperlaw01.UtfShortest", spec := "utfShortest", named := ["caliper/utf.greatest"], apart := false, laid := [("caliper/utf.greatest", laid_caliper_utf_greatest)], narrowed := true }
def UtfShortestUptoSaid : Prop := utfShortestUptoRow.holds Tryd.pinned (OpenSpec.upto utfShortestSpec)

/-- 'caliperlaw01.UtfPairs', WHERE WHAT IT READS IS OF BULK AT MOST 1048576: true; the input reads as it did. -/
def utfPairsUptoRow : OpenClaim := { program := "ytibkhbmglnlgkaadoor", sum := "768a22207496b7d8e736504bffb47419f03b9737b13d4d70746c478f3d8103b2", func := "caliper/caliperlaw01.UtfPairs", spec := "utfPairs", named := ["caliper/utf.greatest"], apart := false, laid := [("caliper/utf.greatest", laid_caliper_utf_greatest)], narrowed := true }
def UtfPairsUptoSaid : Prop := utfPairsUptoRow.holds Tryd.pinned (OpenSpec.upto utfPairsSpec)

/-- 'caliperlaw01.UtfOrder', WHERE WHAT IT READS IS OF BULK AT MOST 1048576: true; the input reads as it did. -/
def utfOrderUptoRow : OpenClaim := { program := "ytibkhbmglnlgkaadoor", sum := "768a22207496b7d8e736504bffb47419f03b9737b13d4d70746c478f3d8103b2", func := "caliper/caliperlaw01.UtfOrder", spec := "utfOrder", inPlace := ["internal/bytealg.abigen_runtime_cmpstring"], named := ["caliper/utf.greatest"], apart := false, laid := [("caliper/utf.greatest", laid_caliper_utf_greatest)], narrowed := true }
def UtfOrderUptoSaid : Prop := utfOrderUptoRow.holds Tryd.pinned (OpenSpec.upto utfOrderSpec)

end Rows
end Go.Proofs.YtibkhbmglnlgkaaDoor
