/-
  NARROWER THAN 'FOR EVERY INPUT', by the rows' own cells (each row's printed sentence says how): PikeClass: laid · PikeSearches: laid · PikeMeans: loops, laid · PikeSteps: laid · PikeWithin: loops, laid · PikeParts: loops, laid.
  DERIVED. THE GIVEN ROWS OF THIS SEAT. 6 by the template 'for every input the law returns true; each argument reads behind the call as it read before'; 0 by the template 'total and deterministic' (their statements: YtoinlmfodmgohaaGreatDoorTotals.lean).
  GIVEN WITH THE SEED: the statements are not yours to turn. If you find one false, say at which input.
  Laid BY PROGRAM, IN A SANDBOX (cutbox-rows.mjs): the forced cells as the released guide's own fill.sh prints them over the translation 8211cd67533d9104… (all of the seat's roots in one cut). By AI agents, Wed Nov 11 2026. No macro, syntax, notation, axiom, sorry.
-/
import Derived.Test.YtoinlmfodmgohaaGreatDoorChecked
import GoSem.Claim
import GoSem.ClaimJoined
import GoSem.ClaimMapViews
import Derived.JoinedTies
import Derived.KernelRfl
namespace Go.Proofs.YtoinlmfodmgohaaGreatDoor
/- THE CELL 'sum', in the pinned program and in every row, IS THE sha256 OF THE DUMP (.gsa) THAT YtoinlmfodmgohaaGreatDoorProg.lean LOADS. Nothing in Lean hashes anything: it is a label: what it is worth is what the hold of that sum in a sandbox is worth. -/
noncomputable def Tryz.pinned : Pinned := { name := "ytoinlmfodmgohaagreatdoor", sum := "8211cd67533d9104b6492d99f181a87709e994574a241178e41f3bf5ba456d8d", checked := Tryz.checked }
namespace Rows
def none {H : Type} : Left H := { results := [], args := [] }

/- WHAT THE LISTED PACKAGE-LEVEL VARIABLES READ AS WHEN THE CALL BEGINS. Each datum BY PROGRAM (the guide's laid-datum.mjs) off the statement by which the dump's own 'gosem.cut.vars' lays the variable. In a bare row this is a premise. The card (YtoinlmfodmgohaaGreatDoorCards.lean) ties it to the program's text. -/
def laid_caliper_utf_greatest {H : Type} : DataW H := .agg [.lit (.int .i64 127), .lit (.int .i64 2047), .lit (.int .i64 65535), .lit (.int .i64 1114111)]

/-- 'caliperlaw11.PikeClass': WHATEVER THE INPUT: true; the input reads as it did. -/
def pikeClassSpec : ChangeSpec := { name := "pikeClass", fn := fun _ => fun
  | [d1, d2] => { results := [.lit (.bool true)], args := [d1, d2] }
  | _ => none }
def pikeClassRow : OpenClaim := { program := "ytoinlmfodmgohaagreatdoor", sum := "8211cd67533d9104b6492d99f181a87709e994574a241178e41f3bf5ba456d8d", func := "caliper/caliperlaw11.PikeClass", spec := "pikeClass", inPlace := ["internal/bytealg.IndexByteString", "internal/bytealg.IndexString"], unfollowed := true, recurses := true, named := ["caliper/utf.greatest", "internal/bytealg.MaxLen"], apart := false, laid := [("caliper/utf.greatest", laid_caliper_utf_greatest)] }
def PikeClassSaid : Prop := pikeClassRow.holds Tryz.pinned (OpenSpec.ofChange pikeClassSpec)

/-- ITS FALSE NEIGHBOUR: 'it returns false'. Refute it at one input. -/
def pikeClassWrong : ChangeSpec := { name := "pikeClass", fn := fun _ => fun
  | [d1, d2] => { results := [.lit (.bool false)], args := [d1, d2] }
  | _ => none }
def PikeClassWrongFalsely : Prop := pikeClassRow.holds Tryz.pinned (OpenSpec.ofChange pikeClassWrong)

/-- 'caliperlaw11.PikeSearches': WHATEVER THE INPUT: true; the input reads as it did. -/
def pikeSearchesSpec : ChangeSpec := { name := "pikeSearches", fn := fun _ => fun
  | [d1, d2, d3] => { results := [.lit (.bool true)], args := [d1, d2, d3] }
  | _ => none }
def pikeSearchesRow : OpenClaim := { program := "ytoinlmfodmgohaagreatdoor", sum := "8211cd67533d9104b6492d99f181a87709e994574a241178e41f3bf5ba456d8d", func := "caliper/caliperlaw11.PikeSearches", spec := "pikeSearches", inPlace := ["internal/bytealg.IndexByteString", "internal/bytealg.IndexString"], unfollowed := true, recurses := true, named := ["caliper/utf.greatest", "internal/bytealg.MaxLen"], apart := false, laid := [("caliper/utf.greatest", laid_caliper_utf_greatest)] }
def PikeSearchesSaid : Prop := pikeSearchesRow.holds Tryz.pinned (OpenSpec.ofChange pikeSearchesSpec)

/-- ITS FALSE NEIGHBOUR: 'it returns false'. Refute it at one input. -/
def pikeSearchesWrong : ChangeSpec := { name := "pikeSearches", fn := fun _ => fun
  | [d1, d2, d3] => { results := [.lit (.bool false)], args := [d1, d2, d3] }
  | _ => none }
def PikeSearchesWrongFalsely : Prop := pikeSearchesRow.holds Tryz.pinned (OpenSpec.ofChange pikeSearchesWrong)

/-- 'caliperlaw11.PikeMeans': WHATEVER THE INPUT: true; the input reads as it did. -/
def pikeMeansSpec : ChangeSpec := { name := "pikeMeans", fn := fun _ => fun
  | [d1, d2] => { results := [.lit (.bool true)], args := [d1, d2] }
  | _ => none }
def pikeMeansRow : OpenClaim := { program := "ytoinlmfodmgohaagreatdoor", sum := "8211cd67533d9104b6492d99f181a87709e994574a241178e41f3bf5ba456d8d", func := "caliper/caliperlaw11.PikeMeans", spec := "pikeMeans", inPlace := ["internal/bytealg.IndexByteString", "internal/bytealg.IndexString"], unfollowed := true, recurses := true, named := ["caliper/utf.greatest", "internal/bytealg.MaxLen"], loops := true, apart := false, laid := [("caliper/utf.greatest", laid_caliper_utf_greatest)] }
def PikeMeansSaid : Prop := pikeMeansRow.holds Tryz.pinned (OpenSpec.ofChange pikeMeansSpec)

/-- ITS FALSE NEIGHBOUR: 'it returns false'. Refute it at one input. -/
def pikeMeansWrong : ChangeSpec := { name := "pikeMeans", fn := fun _ => fun
  | [d1, d2] => { results := [.lit (.bool false)], args := [d1, d2] }
  | _ => none }
def PikeMeansWrongFalsely : Prop := pikeMeansRow.holds Tryz.pinned (OpenSpec.ofChange pikeMeansWrong)

/-- 'caliperlaw11.PikeSteps': WHATEVER THE INPUT: true; the input reads as it did. -/
def pikeStepsSpec : ChangeSpec := { name := "pikeSteps", fn := fun _ => fun
  | [d1, d2] => { results := [.lit (.bool true)], args := [d1, d2] }
  | _ => none }
def pikeStepsRow : OpenClaim := { program := "ytoinlmfodmgohaagreatdoor", sum := "8211cd67533d9104b6492d99f181a87709e994574a241178e41f3bf5ba456d8d", func := "caliper/caliperlaw11.PikeSteps", spec := "pikeSteps", inPlace := ["internal/bytealg.IndexByteString", "internal/bytealg.IndexString"], unfollowed := true, recurses := true, named := ["caliper/utf.greatest", "internal/bytealg.MaxLen"], apart := false, laid := [("caliper/utf.greatest", laid_caliper_utf_greatest)] }
def PikeStepsSaid : Prop := pikeStepsRow.holds Tryz.pinned (OpenSpec.ofChange pikeStepsSpec)

/-- ITS FALSE NEIGHBOUR: 'it returns false'. Refute it at one input. -/
def pikeStepsWrong : ChangeSpec := { name := "pikeSteps", fn := fun _ => fun
  | [d1, d2] => { results := [.lit (.bool false)], args := [d1, d2] }
  | _ => none }
def PikeStepsWrongFalsely : Prop := pikeStepsRow.holds Tryz.pinned (OpenSpec.ofChange pikeStepsWrong)

/-- 'caliperlaw11.PikeWithin': WHATEVER THE INPUT: true; the input reads as it did. -/
def pikeWithinSpec : ChangeSpec := { name := "pikeWithin", fn := fun _ => fun
  | [d1, d2] => { results := [.lit (.bool true)], args := [d1, d2] }
  | _ => none }
def pikeWithinRow : OpenClaim := { program := "ytoinlmfodmgohaagreatdoor", sum := "8211cd67533d9104b6492d99f181a87709e994574a241178e41f3bf5ba456d8d", func := "caliper/caliperlaw11.PikeWithin", spec := "pikeWithin", inPlace := ["internal/bytealg.IndexByteString", "internal/bytealg.IndexString"], unfollowed := true, recurses := true, named := ["caliper/utf.greatest", "internal/bytealg.MaxLen"], loops := true, apart := false, laid := [("caliper/utf.greatest", laid_caliper_utf_greatest)] }
def PikeWithinSaid : Prop := pikeWithinRow.holds Tryz.pinned (OpenSpec.ofChange pikeWithinSpec)

/-- ITS FALSE NEIGHBOUR: 'it returns false'. Refute it at one input. -/
def pikeWithinWrong : ChangeSpec := { name := "pikeWithin", fn := fun _ => fun
  | [d1, d2] => { results := [.lit (.bool false)], args := [d1, d2] }
  | _ => none }
def PikeWithinWrongFalsely : Prop := pikeWithinRow.holds Tryz.pinned (OpenSpec.ofChange pikeWithinWrong)

/-- 'caliperlaw11.PikeParts': WHATEVER THE INPUT: true; the input reads as it did. -/
def pikePartsSpec : ChangeSpec := { name := "pikeParts", fn := fun _ => fun
  | [d1, d2, d3] => { results := [.lit (.bool true)], args := [d1, d2, d3] }
  | _ => none }
def pikePartsRow : OpenClaim := { program := "ytoinlmfodmgohaagreatdoor", sum := "8211cd67533d9104b6492d99f181a87709e994574a241178e41f3bf5ba456d8d", func := "caliper/caliperlaw11.PikeParts", spec := "pikeParts", inPlace := ["internal/bytealg.IndexByteString", "internal/bytealg.IndexString"], unfollowed := true, recurses := true, named := ["caliper/utf.greatest", "internal/bytealg.MaxLen"], loops := true, apart := false, laid := [("caliper/utf.greatest", laid_caliper_utf_greatest)] }
def PikePartsSaid : Prop := pikePartsRow.holds Tryz.pinned (OpenSpec.ofChange pikePartsSpec)

/-- ITS FALSE NEIGHBOUR: 'it returns false'. Refute it at one input. -/
def pikePartsWrong : ChangeSpec := { name := "pikeParts", fn := fun _ => fun
  | [d1, d2, d3] => { results := [.lit (.bool false)], args := [d1, d2, d3] }
  | _ => none }
def PikePartsWrongFalsely : Prop := pikePartsRow.holds Tryz.pinned (OpenSpec.ofChange pikePartsWrong)

/- THE SECOND FORM. 'bulk': how many values and letters a reading holds, each counted each time it is reached (what is shared counts as often as it is met; a slice's spare places count too). A statement '..UptoSaid' is the law's where the arguments, and the package variables that the reading takes, are together of bulk at most 1048576: NARROWER than '..Said'. Prove '..Said' where nothing that the law and all that it calls make is longer than what came in: it says more and counts as full. Else prove '..UptoSaid'. A law counts once. -/
mutual
def uptoBulk {H : Type} : DataW H → Nat
  | .lit (.string bytes) => bytes.length + 1
  | .lit _ => 1
  | .nil => 1
  | .ptr d => uptoBulk d + 1
  | .slice elems spare => uptoBulkAll elems + uptoBulkAll spare + 1
  | .agg parts => uptoBulkAll parts + 1
  | .iface _ d => uptoBulk d + 1
  | .map entries => uptoBulkEntries entries + 1
  | .held _ => 1
def uptoBulkAll {H : Type} : List (DataW H) → Nat
  | [] => 0
  | d :: r => uptoBulk d + uptoBulkAll r
def uptoBulkEntries {H : Type} : List (Lit × DataW H) → Nat
  | [] => 0
  | x :: r => uptoBulkEntry x + uptoBulkEntries r
def uptoBulkEntry {H : Type} : Lit × DataW H → Nat
  | (.string bytes, d) => bytes.length + uptoBulk d + 1
  | (_, d) => uptoBulk d + 1
 end
def uptoSmall : (H : Type) → List (DataW H) → Bool := fun _ ds => decide (uptoBulkAll ds ≤ 1048576)
def OpenSpec.upto (s : _root_.Go.ChangeSpec) : _root_.Go.OpenSpec := { _root_.Go.OpenSpec.ofChange s with cond := some uptoSmall }

/-- 'caliperlaw11.PikeClass', WHERE WHAT IT READS IS OF BULK AT MOST 1048576: true; the input reads as it did. -/
def pikeClassUptoRow : OpenClaim := { program := "ytoinlmfodmgohaagreatdoor", sum := "8211cd67533d9104b6492d99f181a87709e994574a241178e41f3bf5ba456d8d", func := "caliper/caliperlaw11.PikeClass", spec := "pikeClass", inPlace := ["internal/bytealg.IndexByteString", "internal/bytealg.IndexString"], unfollowed := true, recurses := true, named := ["caliper/utf.greatest", "internal/bytealg.MaxLen"], apart := false, laid := [("caliper/utf.greatest", laid_caliper_utf_greatest)], narrowed := true }
def PikeClassUptoSaid : Prop := pikeClassUptoRow.holds Tryz.pinned (OpenSpec.upto pikeClassSpec)

/-- 'caliperlaw11.PikeSearches', WHERE WHAT IT READS IS OF BULK AT MOST 1048576: true; the input reads as it did. -/
def pikeSearchesUptoRow : OpenClaim := { program := "ytoinlmfodmgohaagreatdoor", sum := "8211cd67533d9104b6492d99f181a87709e994574a241178e41f3bf5ba456d8d", func := "caliper/caliperlaw11.PikeSearches", spec := "pikeSearches", inPlace := ["internal/bytealg.IndexByteString", "internal/bytealg.IndexString"], unfollowed := true, recurses := true, named := ["caliper/utf.greatest", "internal/bytealg.MaxLen"], apart := false, laid := [("caliper/utf.greatest", laid_caliper_utf_greatest)], narrowed := true }
def PikeSearchesUptoSaid : Prop := pikeSearchesUptoRow.holds Tryz.pinned (OpenSpec.upto pikeSearchesSpec)

/-- 'caliperlaw11.PikeMeans', WHERE WHAT IT READS IS OF BULK AT MOST 1048576: true; the input reads as it did. -/
def pikeMeansUptoRow : OpenClaim := { program := "ytoinlmfodmgohaagreatdoor", sum := "8211cd67533d9104b6492d99f181a87709e994574a241178e41f3bf5ba456d8d", func := "caliper/caliperlaw11.PikeMeans", spec := "pikeMeans", inPlace := ["internal/bytealg.IndexByteString", "internal/bytealg.IndexString"], unfollowed := true, recurses := true, named := ["caliper/utf.greatest", "internal/bytealg.MaxLen"], loops := true, apart := false, laid := [("caliper/utf.greatest", laid_caliper_utf_greatest)], narrowed := true }
def PikeMeansUptoSaid : Prop := pikeMeansUptoRow.holds Tryz.pinned (OpenSpec.upto pikeMeansSpec)

/-- 'caliperlaw11.PikeSteps', WHERE WHAT IT READS IS OF BULK AT MOST 1048576: true; the input reads as it did. -/
def pikeStepsUptoRow : OpenClaim := { program := "ytoinlmfodmgohaagreatdoor", sum := "8211cd67533d9104b6492d99f181a87709e994574a241178e41f3bf5ba456d8d", func := "caliper/caliperlaw11.PikeSteps", spec := "pikeSteps", inPlace := ["internal/bytealg.IndexByteString", "internal/bytealg.IndexString"], unfollowed := true, recurses := true, named := ["caliper/utf.greatest", "internal/bytealg.MaxLen"], apart := false, laid := [("caliper/utf.greatest", laid_caliper_utf_greatest)], narrowed := true }
def PikeStepsUptoSaid : Prop := pikeStepsUptoRow.holds Tryz.pinned (OpenSpec.upto pikeStepsSpec)

/-- 'caliperlaw11.PikeWithin', WHERE WHAT IT READS IS OF BULK AT MOST 1048576: true; the input reads as it did. -/
def pikeWithinUptoRow : OpenClaim := { program := "ytoinlmfodmgohaagreatdoor", sum := "8211cd67533d9104b6492d99f181a87709e994574a241178e41f3bf5ba456d8d", func := "caliper/caliperlaw11.PikeWithin", spec := "pikeWithin", inPlace := ["internal/bytealg.IndexByteString", "internal/bytealg.IndexString"], unfollowed := true, recurses := true, named := ["caliper/utf.greatest", "internal/bytealg.MaxLen"], loops := true, apart := false, laid := [("caliper/utf.greatest", laid_caliper_utf_greatest)], narrowed := true }
def PikeWithinUptoSaid : Prop := pikeWithinUptoRow.holds Tryz.pinned (OpenSpec.upto pikeWithinSpec)

/-- 'caliperlaw11.PikeParts', WHERE WHAT IT READS IS OF BULK AT MOST 1048576: true; the input reads as it did. -/
def pikePartsUptoRow : OpenClaim := { program := "ytoinlmfodmgohaagreatdoor", sum := "8211cd67533d9104b6492d99f181a87709e994574a241178e41f3bf5ba456d8d", func := "caliper/caliperlaw11.PikeParts", spec := "pikeParts", inPlace := ["internal/bytealg.IndexByteString", "internal/bytealg.IndexString"], unfollowed := true, recurses := true, named := ["caliper/utf.greatest", "internal/bytealg.MaxLen"], loops := true, apart := false, laid := [("caliper/utf.greatest", laid_caliper_utf_greatest)], narrowed := true }
def PikePartsUptoSaid : Prop := pikePartsUptoRow.holds Tryz.pinned (OpenSpec.upto pikePartsSpec)

end Rows
end Go.Proofs.YtoinlmfodmgohaaGreatDoor
