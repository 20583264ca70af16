/-
  NARROWER THAN 'FOR EVERY INPUT', by the rows' own cells (each row's printed sentence says how): JsonReads: laid · JsonParses: laid · JsonBlanks: laid · JsonBad: laid · JsonPuts: laid · JsonLimits: laid.
  DERIVED. THE GIVEN ROWS OF THIS SEAT. 6 by the template 'for every input the law returns true; each argument reads behind the call as it read before'; 0 by the template 'total and deterministic' (their statements: YtjakgdaodlgeaaaGreatDoorTotals.lean).
  GIVEN WITH THE SEED: the statements are not yours to turn. If you find one false, say at which input.
  Laid BY PROGRAM, IN A SANDBOX (cutbox-rows.mjs): the forced cells as the released guide's own fill.sh prints them over the translation f6460700f2be5450… (all of the seat's roots in one cut). By AI agents, Wed Nov 11 2026. No macro, syntax, notation, axiom, sorry.
-/
import Derived.Test.YtjakgdaodlgeaaaGreatDoorChecked
import GoSem.PinnedTables
import GoSem.Claim
import GoSem.ClaimJoined
import GoSem.ClaimMapViews
import Derived.JoinedTies
import Derived.KernelRfl
namespace Go.Proofs.YtjakgdaodlgeaaaGreatDoor
/- THE CELL 'sum', in the pinned program and in every row, IS THE sha256 OF THE DUMP (.gsa) THAT YtjakgdaodlgeaaaGreatDoorProg.lean LOADS. Nothing in Lean hashes anything: it is a label: what it is worth is what the hold of that sum in a sandbox is worth. -/
noncomputable def Tryz.pinned : Pinned := { name := "ytjakgdaodlgeaaagreatdoor", sum := "f6460700f2be5450ff8f28485856410f8b336833be7ac846f24f76572a75722d", checked := Tryz.checked }
namespace Rows
def none {H : Type} : Left H := { results := [], args := [] }

/- WHAT THE LISTED PACKAGE-LEVEL VARIABLES READ AS WHEN THE CALL BEGINS. Each datum BY PROGRAM (the guide's laid-datum.mjs) off the statement by which the dump's own 'gosem.cut.vars' lays the variable. In a bare row this is a premise. The card (YtjakgdaodlgeaaaGreatDoorCards.lean) ties it to the program's text. -/
def laid_unicode_utf8_acceptRanges {H : Type} : DataW H := .agg [.agg [.lit (.int .u8 128), .lit (.int .u8 191)], .agg [.lit (.int .u8 160), .lit (.int .u8 191)], .agg [.lit (.int .u8 128), .lit (.int .u8 159)], .agg [.lit (.int .u8 144), .lit (.int .u8 191)], .agg [.lit (.int .u8 128), .lit (.int .u8 143)], .agg [.lit (.int .u8 0), .lit (.int .u8 0)], .agg [.lit (.int .u8 0), .lit (.int .u8 0)], .agg [.lit (.int .u8 0), .lit (.int .u8 0)], .agg [.lit (.int .u8 0), .lit (.int .u8 0)], .agg [.lit (.int .u8 0), .lit (.int .u8 0)], .agg [.lit (.int .u8 0), .lit (.int .u8 0)], .agg [.lit (.int .u8 0), .lit (.int .u8 0)], .agg [.lit (.int .u8 0), .lit (.int .u8 0)], .agg [.lit (.int .u8 0), .lit (.int .u8 0)], .agg [.lit (.int .u8 0), .lit (.int .u8 0)], .agg [.lit (.int .u8 0), .lit (.int .u8 0)]]
def laid_errors_errorType {H : Type} : DataW H := .iface "internal/reflectlite.rtype" (.agg [.ptr (.lit (.string [101, 114, 114, 111, 114]))])
def laid_caliper_dec_errLarge {H : Type} : DataW H := .iface "*errors.errorString" (.ptr (.agg [.lit (.string [97, 32, 110, 117, 109, 98, 101, 114, 32, 116, 111, 111, 32, 108, 97, 114, 103, 101])]))
def laid_caliper_utf_greatest {H : Type} : DataW H := .agg [.lit (.int .i64 127), .lit (.int .i64 2047), .lit (.int .i64 65535), .lit (.int .i64 1114111)]
/-- One of Go's own tables, pinned by name: the form's constant. -/
def laid_unicode_utf8_first : DataW Unit := Go.Pinned.utf8First

/-- 'caliperlaw05.JsonReads': WHATEVER THE INPUT: true; the input reads as it did. -/
def jsonReadsSpec : ChangeSpec := { name := "jsonReads", fn := fun _ => fun
  | [d1, d2] => { results := [.lit (.bool true)], args := [d1, d2] }
  | _ => none }
def jsonReadsRow : OpenClaim := { program := "ytjakgdaodlgeaaagreatdoor", sum := "f6460700f2be5450ff8f28485856410f8b336833be7ac846f24f76572a75722d", func := "caliper/caliperlaw05.JsonReads", spec := "jsonReads", inPlace := ["internal/bytealg.IndexByteString", "internal/reflectlite.ValueOf", "(internal/reflectlite.Value).Type", "(internal/reflectlite.Value).IsNil", "internal/reflectlite.TypeOf", "(internal/reflectlite.Value).Elem", "(internal/reflectlite.Value).Set", "internal/bytealg.IndexString"], unfollowed := true, recurses := true, named := ["caliper/utf.greatest", "errors.errorType", "caliper/dec.errLarge", "unicode/utf8.first", "unicode/utf8.acceptRanges", "internal/bytealg.MaxLen"], apart := false, laid := [("unicode/utf8.acceptRanges", laid_unicode_utf8_acceptRanges), ("errors.errorType", laid_errors_errorType), ("caliper/dec.errLarge", laid_caliper_dec_errLarge), ("caliper/utf.greatest", laid_caliper_utf_greatest), ("unicode/utf8.first", laid_unicode_utf8_first)] }
def JsonReadsSaid : Prop := jsonReadsRow.holds Tryz.pinned (OpenSpec.ofChange jsonReadsSpec)

/-- ITS FALSE NEIGHBOUR: 'it returns false'. Refute it at one input. -/
def jsonReadsWrong : ChangeSpec := { name := "jsonReads", fn := fun _ => fun
  | [d1, d2] => { results := [.lit (.bool false)], args := [d1, d2] }
  | _ => none }
def JsonReadsWrongFalsely : Prop := jsonReadsRow.holds Tryz.pinned (OpenSpec.ofChange jsonReadsWrong)

/-- 'caliperlaw05.JsonParses': WHATEVER THE INPUT: true; the input reads as it did. -/
def jsonParsesSpec : ChangeSpec := { name := "jsonParses", fn := fun _ => fun
  | [d] => { results := [.lit (.bool true)], args := [d] }
  | _ => none }
def jsonParsesRow : OpenClaim := { program := "ytjakgdaodlgeaaagreatdoor", sum := "f6460700f2be5450ff8f28485856410f8b336833be7ac846f24f76572a75722d", func := "caliper/caliperlaw05.JsonParses", spec := "jsonParses", inPlace := ["internal/bytealg.IndexByteString", "internal/reflectlite.ValueOf", "(internal/reflectlite.Value).Type", "(internal/reflectlite.Value).IsNil", "internal/reflectlite.TypeOf", "(internal/reflectlite.Value).Elem", "(internal/reflectlite.Value).Set", "internal/bytealg.IndexString"], unfollowed := true, recurses := true, named := ["caliper/utf.greatest", "errors.errorType", "caliper/dec.errLarge", "unicode/utf8.first", "unicode/utf8.acceptRanges", "internal/bytealg.MaxLen"], apart := false, laid := [("unicode/utf8.acceptRanges", laid_unicode_utf8_acceptRanges), ("errors.errorType", laid_errors_errorType), ("caliper/dec.errLarge", laid_caliper_dec_errLarge), ("caliper/utf.greatest", laid_caliper_utf_greatest), ("unicode/utf8.first", laid_unicode_utf8_first)] }
def JsonParsesSaid : Prop := jsonParsesRow.holds Tryz.pinned (OpenSpec.ofChange jsonParsesSpec)

/-- ITS FALSE NEIGHBOUR: 'it returns false'. Refute it at one input. -/
def jsonParsesWrong : ChangeSpec := { name := "jsonParses", fn := fun _ => fun
  | [d] => { results := [.lit (.bool false)], args := [d] }
  | _ => none }
def JsonParsesWrongFalsely : Prop := jsonParsesRow.holds Tryz.pinned (OpenSpec.ofChange jsonParsesWrong)

/-- 'caliperlaw05.JsonBlanks': WHATEVER THE INPUT: true; the input reads as it did. -/
def jsonBlanksSpec : ChangeSpec := { name := "jsonBlanks", fn := fun _ => fun
  | [d1, d2] => { results := [.lit (.bool true)], args := [d1, d2] }
  | _ => none }
def jsonBlanksRow : OpenClaim := { program := "ytjakgdaodlgeaaagreatdoor", sum := "f6460700f2be5450ff8f28485856410f8b336833be7ac846f24f76572a75722d", func := "caliper/caliperlaw05.JsonBlanks", spec := "jsonBlanks", inPlace := ["internal/bytealg.IndexByteString", "internal/reflectlite.ValueOf", "(internal/reflectlite.Value).Type", "(internal/reflectlite.Value).IsNil", "internal/reflectlite.TypeOf", "(internal/reflectlite.Value).Elem", "(internal/reflectlite.Value).Set", "internal/bytealg.IndexString"], unfollowed := true, recurses := true, named := ["caliper/utf.greatest", "errors.errorType", "caliper/dec.errLarge", "unicode/utf8.first", "unicode/utf8.acceptRanges", "internal/bytealg.MaxLen"], apart := false, laid := [("unicode/utf8.acceptRanges", laid_unicode_utf8_acceptRanges), ("errors.errorType", laid_errors_errorType), ("caliper/dec.errLarge", laid_caliper_dec_errLarge), ("caliper/utf.greatest", laid_caliper_utf_greatest), ("unicode/utf8.first", laid_unicode_utf8_first)] }
def JsonBlanksSaid : Prop := jsonBlanksRow.holds Tryz.pinned (OpenSpec.ofChange jsonBlanksSpec)

/-- ITS FALSE NEIGHBOUR: 'it returns false'. Refute it at one input. -/
def jsonBlanksWrong : ChangeSpec := { name := "jsonBlanks", fn := fun _ => fun
  | [d1, d2] => { results := [.lit (.bool false)], args := [d1, d2] }
  | _ => none }
def JsonBlanksWrongFalsely : Prop := jsonBlanksRow.holds Tryz.pinned (OpenSpec.ofChange jsonBlanksWrong)

/-- 'caliperlaw05.JsonBad': WHATEVER THE INPUT: true; the input reads as it did. -/
def jsonBadSpec : ChangeSpec := { name := "jsonBad", fn := fun _ => fun
  | [d1, d2] => { results := [.lit (.bool true)], args := [d1, d2] }
  | _ => none }
def jsonBadRow : OpenClaim := { program := "ytjakgdaodlgeaaagreatdoor", sum := "f6460700f2be5450ff8f28485856410f8b336833be7ac846f24f76572a75722d", func := "caliper/caliperlaw05.JsonBad", spec := "jsonBad", inPlace := ["internal/bytealg.IndexByteString", "internal/reflectlite.ValueOf", "(internal/reflectlite.Value).Type", "(internal/reflectlite.Value).IsNil", "internal/reflectlite.TypeOf", "(internal/reflectlite.Value).Elem", "(internal/reflectlite.Value).Set", "internal/bytealg.IndexString"], unfollowed := true, recurses := true, named := ["caliper/utf.greatest", "errors.errorType", "caliper/dec.errLarge", "unicode/utf8.first", "unicode/utf8.acceptRanges", "internal/bytealg.MaxLen"], apart := false, laid := [("unicode/utf8.acceptRanges", laid_unicode_utf8_acceptRanges), ("errors.errorType", laid_errors_errorType), ("caliper/dec.errLarge", laid_caliper_dec_errLarge), ("caliper/utf.greatest", laid_caliper_utf_greatest), ("unicode/utf8.first", laid_unicode_utf8_first)] }
def JsonBadSaid : Prop := jsonBadRow.holds Tryz.pinned (OpenSpec.ofChange jsonBadSpec)

/-- ITS FALSE NEIGHBOUR: 'it returns false'. Refute it at one input. -/
def jsonBadWrong : ChangeSpec := { name := "jsonBad", fn := fun _ => fun
  | [d1, d2] => { results := [.lit (.bool false)], args := [d1, d2] }
  | _ => none }
def JsonBadWrongFalsely : Prop := jsonBadRow.holds Tryz.pinned (OpenSpec.ofChange jsonBadWrong)

/-- 'caliperlaw05.JsonPuts': WHATEVER THE INPUT: true; the input reads as it did. -/
def jsonPutsSpec : ChangeSpec := { name := "jsonPuts", fn := fun _ => fun
  | [d] => { results := [.lit (.bool true)], args := [d] }
  | _ => none }
def jsonPutsRow : OpenClaim := { program := "ytjakgdaodlgeaaagreatdoor", sum := "f6460700f2be5450ff8f28485856410f8b336833be7ac846f24f76572a75722d", func := "caliper/caliperlaw05.JsonPuts", spec := "jsonPuts", inPlace := ["internal/bytealg.IndexByteString", "internal/reflectlite.ValueOf", "(internal/reflectlite.Value).Type", "(internal/reflectlite.Value).IsNil", "internal/reflectlite.TypeOf", "(internal/reflectlite.Value).Elem", "(internal/reflectlite.Value).Set", "internal/bytealg.IndexString"], unfollowed := true, recurses := true, named := ["caliper/utf.greatest", "errors.errorType", "caliper/dec.errLarge", "unicode/utf8.first", "unicode/utf8.acceptRanges", "internal/bytealg.MaxLen"], apart := false, laid := [("unicode/utf8.acceptRanges", laid_unicode_utf8_acceptRanges), ("errors.errorType", laid_errors_errorType), ("caliper/dec.errLarge", laid_caliper_dec_errLarge), ("caliper/utf.greatest", laid_caliper_utf_greatest), ("unicode/utf8.first", laid_unicode_utf8_first)] }
def JsonPutsSaid : Prop := jsonPutsRow.holds Tryz.pinned (OpenSpec.ofChange jsonPutsSpec)

/-- ITS FALSE NEIGHBOUR: 'it returns false'. Refute it at one input. -/
def jsonPutsWrong : ChangeSpec := { name := "jsonPuts", fn := fun _ => fun
  | [d] => { results := [.lit (.bool false)], args := [d] }
  | _ => none }
def JsonPutsWrongFalsely : Prop := jsonPutsRow.holds Tryz.pinned (OpenSpec.ofChange jsonPutsWrong)

/-- 'caliperlaw05.JsonLimits': WHATEVER THE INPUT: true; the input reads as it did. -/
def jsonLimitsSpec : ChangeSpec := { name := "jsonLimits", fn := fun _ => fun
  | [d1, d2] => { results := [.lit (.bool true)], args := [d1, d2] }
  | _ => none }
def jsonLimitsRow : OpenClaim := { program := "ytjakgdaodlgeaaagreatdoor", sum := "f6460700f2be5450ff8f28485856410f8b336833be7ac846f24f76572a75722d", func := "caliper/caliperlaw05.JsonLimits", spec := "jsonLimits", inPlace := ["internal/bytealg.IndexByteString", "internal/reflectlite.ValueOf", "(internal/reflectlite.Value).Type", "(internal/reflectlite.Value).IsNil", "internal/reflectlite.TypeOf", "(internal/reflectlite.Value).Elem", "(internal/reflectlite.Value).Set", "internal/bytealg.IndexString"], unfollowed := true, recurses := true, named := ["caliper/utf.greatest", "errors.errorType", "caliper/dec.errLarge", "unicode/utf8.first", "unicode/utf8.acceptRanges", "internal/bytealg.MaxLen"], apart := false, laid := [("unicode/utf8.acceptRanges", laid_unicode_utf8_acceptRanges), ("errors.errorType", laid_errors_errorType), ("caliper/dec.errLarge", laid_caliper_dec_errLarge), ("caliper/utf.greatest", laid_caliper_utf_greatest), ("unicode/utf8.first", laid_unicode_utf8_first)] }
def JsonLimitsSaid : Prop := jsonLimitsRow.holds Tryz.pinned (OpenSpec.ofChange jsonLimitsSpec)

/-- ITS FALSE NEIGHBOUR: 'it returns false'. Refute it at one input. -/
def jsonLimitsWrong : ChangeSpec := { name := "jsonLimits", fn := fun _ => fun
  | [d1, d2] => { results := [.lit (.bool false)], args := [d1, d2] }
  | _ => none }
def JsonLimitsWrongFalsely : Prop := jsonLimitsRow.holds Tryz.pinned (OpenSpec.ofChange jsonLimitsWrong)

/- THE SECOND FORM. 'bulk': how many values and letters a reading holds, each counted each time it is reached (what is shared counts as often as it is met; a slice's spare places count too). A statement '..UptoSaid' is the law's where the arguments, and the package variables that the reading takes, are together of bulk at most 1048576: NARROWER than '..Said'. Prove '..Said' where nothing that the law and all that it calls make is longer than what came in: it says more and counts as full. Else prove '..UptoSaid'. A law counts once. -/
mutual
def uptoBulk {H : Type} : DataW H → Nat
  | .lit (.string bytes) => bytes.length + 1
  | .lit _ => 1
  | .nil => 1
  | .ptr d => uptoBulk d + 1
  | .slice elems spare => uptoBulkAll elems + uptoBulkAll spare + 1
  | .agg parts => uptoBulkAll parts + 1
  | .iface _ d => uptoBulk d + 1
  | .map entries => uptoBulkEntries entries + 1
  | .held _ => 1
def uptoBulkAll {H : Type} : List (DataW H) → Nat
  | [] => 0
  | d :: r => uptoBulk d + uptoBulkAll r
def uptoBulkEntries {H : Type} : List (Lit × DataW H) → Nat
  | [] => 0
  | x :: r => uptoBulkEntry x + uptoBulkEntries r
def uptoBulkEntry {H : Type} : Lit × DataW H → Nat
  | (.string bytes, d) => bytes.length + uptoBulk d + 1
  | (_, d) => uptoBulk d + 1
 end
def uptoSmall : (H : Type) → List (DataW H) → Bool := fun _ ds => decide (uptoBulkAll ds ≤ 1048576)
def OpenSpec.upto (s : _root_.Go.ChangeSpec) : _root_.Go.OpenSpec := { _root_.Go.OpenSpec.ofChange s with cond := some uptoSmall }

/-- 'caliperlaw05.JsonReads', WHERE WHAT IT READS IS OF BULK AT MOST 1048576: true; the input reads as it did. -/
def jsonReadsUptoRow : OpenClaim := { program := "ytjakgdaodlgeaaagreatdoor", sum := "f6460700f2be5450ff8f28485856410f8b336833be7ac846f24f76572a75722d", func := "caliper/caliperlaw05.JsonReads", spec := "jsonReads", inPlace := ["internal/bytealg.IndexByteString", "internal/reflectlite.ValueOf", "(internal/reflectlite.Value).Type", "(internal/reflectlite.Value).IsNil", "internal/reflectlite.TypeOf", "(internal/reflectlite.Value).Elem", "(internal/reflectlite.Value).Set", "internal/bytealg.IndexString"], unfollowed := true, recurses := true, named := ["caliper/utf.greatest", "errors.errorType", "caliper/dec.errLarge", "unicode/utf8.first", "unicode/utf8.acceptRanges", "internal/bytealg.MaxLen"], apart := false, laid := [("unicode/utf8.acceptRanges", laid_unicode_utf8_acceptRanges), ("errors.errorType", laid_errors_errorType), ("caliper/dec.errLarge", laid_caliper_dec_errLarge), ("caliper/utf.greatest", laid_caliper_utf_greatest), ("unicode/utf8.first", laid_unicode_utf8_first)], narrowed := true }
def JsonReadsUptoSaid : Prop := jsonReadsUptoRow.holds Tryz.pinned (OpenSpec.upto jsonReadsSpec)

/-- 'caliperlaw05.JsonParses', WHERE WHAT IT READS IS OF BULK AT MOST 1048576: true; the input reads as it did. -/
def jsonParsesUptoRow : OpenClaim := { program := "ytjakgdaodlgeaaagreatdoor", sum := "f6460700f2be5450ff8f28485856410f8b336833be7ac846f24f76572a75722d", func := "caliper/caliperlaw05.JsonParses", spec := "jsonParses", inPlace := ["internal/bytealg.IndexByteString", "internal/reflectlite.ValueOf", "(internal/reflectlite.Value).Type", "(internal/reflectlite.Value).IsNil", "internal/reflectlite.TypeOf", "(internal/reflectlite.Value).Elem", "(internal/reflectlite.Value).Set", "internal/bytealg.IndexString"], unfollowed := true, recurses := true, named := ["caliper/utf.greatest", "errors.errorType", "caliper/dec.errLarge", "unicode/utf8.first", "unicode/utf8.acceptRanges", "internal/bytealg.MaxLen"], apart := false, laid := [("unicode/utf8.acceptRanges", laid_unicode_utf8_acceptRanges), ("errors.errorType", laid_errors_errorType), ("caliper/dec.errLarge", laid_caliper_dec_errLarge), ("caliper/utf.greatest", laid_caliper_utf_greatest), ("unicode/utf8.first", laid_unicode_utf8_first)], narrowed := true }
def JsonParsesUptoSaid : Prop := jsonParsesUptoRow.holds Tryz.pinned (OpenSpec.upto jsonParsesSpec)

/-- 'caliperlaw05.JsonBlanks', WHERE WHAT IT READS IS OF BULK AT MOST 1048576: true; the input reads as it did. -/
def jsonBlanksUptoRow : OpenClaim := { program := "ytjakgdaodlgeaaagreatdoor", sum := "f6460700f2be5450ff8f28485856410f8b336833be7ac846f24f76572a75722d", func := "caliper/caliperlaw05.JsonBlanks", spec := "jsonBlanks", inPlace := ["internal/bytealg.IndexByteString", "internal/reflectlite.ValueOf", "(internal/reflectlite.Value).Type", "(internal/reflectlite.Value).IsNil", "internal/reflectlite.TypeOf", "(internal/reflectlite.Value).Elem", "(internal/reflectlite.Value).Set", "internal/bytealg.IndexString"], unfollowed := true, recurses := true, named := ["caliper/utf.greatest", "errors.errorType", "caliper/dec.errLarge", "unicode/utf8.first", "unicode/utf8.acceptRanges", "internal/bytealg.MaxLen"], apart := false, laid := [("unicode/utf8.acceptRanges", laid_unicode_utf8_acceptRanges), ("errors.errorType", laid_errors_errorType), ("caliper/dec.errLarge", laid_caliper_dec_errLarge), ("caliper/utf.greatest", laid_caliper_utf_greatest), ("unicode/utf8.first", laid_unicode_utf8_first)], narrowed := true }
def JsonBlanksUptoSaid : Prop := jsonBlanksUptoRow.holds Tryz.pinned (OpenSpec.upto jsonBlanksSpec)

/-- 'caliperlaw05.JsonBad', WHERE WHAT IT READS IS OF BULK AT MOST 1048576: true; the input reads as it did. -/
def jsonBadUptoRow : OpenClaim := { program := "ytjakgdaodlgeaaagreatdoor", sum := "f6460700f2be5450ff8f28485856410f8b336833be7ac846f24f76572a75722d", func := "caliper/caliperlaw05.JsonBad", spec := "jsonBad", inPlace := ["internal/bytealg.IndexByteString", "internal/reflectlite.ValueOf", "(internal/reflectlite.Value).Type", "(internal/reflectlite.Value).IsNil", "internal/reflectlite.TypeOf", "(internal/reflectlite.Value).Elem", "(internal/reflectlite.Value).Set", "internal/bytealg.IndexString"], unfollowed := true, recurses := true, named := ["caliper/utf.greatest", "errors.errorType", "caliper/dec.errLarge", "unicode/utf8.first", "unicode/utf8.acceptRanges", "internal/bytealg.MaxLen"], apart := false, laid := [("unicode/utf8.acceptRanges", laid_unicode_utf8_acceptRanges), ("errors.errorType", laid_errors_errorType), ("caliper/dec.errLarge", laid_caliper_dec_errLarge), ("caliper/utf.greatest", laid_caliper_utf_greatest), ("unicode/utf8.first", laid_unicode_utf8_first)], narrowed := true }
def JsonBadUptoSaid : Prop := jsonBadUptoRow.holds Tryz.pinned (OpenSpec.upto jsonBadSpec)

/-- 'caliperlaw05.JsonPuts', WHERE WHAT IT READS IS OF BULK AT MOST 1048576: true; the input reads as it did. -/
def jsonPutsUptoRow : OpenClaim := { program := "ytjakgdaodlgeaaagreatdoor", sum := "f6460700f2be5450ff8f28485856410f8b336833be7ac846f24f76572a75722d", func := "caliper/caliperlaw05.JsonPuts", spec := "jsonPuts", inPlace := ["internal/bytealg.IndexByteString", "internal/reflectlite.ValueOf", "(internal/reflectlite.Value).Type", "(internal/reflectlite.Value).IsNil", "internal/reflectlite.TypeOf", "(internal/reflectlite.Value).Elem", "(internal/reflectlite.Value).Set", "internal/bytealg.IndexString"], unfollowed := true, recurses := true, named := ["caliper/utf.greatest", "errors.errorType", "caliper/dec.errLarge", "unicode/utf8.first", "unicode/utf8.acceptRanges", "internal/bytealg.MaxLen"], apart := false, laid := [("unicode/utf8.acceptRanges", laid_unicode_utf8_acceptRanges), ("errors.errorType", laid_errors_errorType), ("caliper/dec.errLarge", laid_caliper_dec_errLarge), ("caliper/utf.greatest", laid_caliper_utf_greatest), ("unicode/utf8.first", laid_unicode_utf8_first)], narrowed := true }
def JsonPutsUptoSaid : Prop := jsonPutsUptoRow.holds Tryz.pinned (OpenSpec.upto jsonPutsSpec)

/-- 'caliperlaw05.JsonLimits', WHERE WHAT IT READS IS OF BULK AT MOST 1048576: true; the input reads as it did. -/
def jsonLimitsUptoRow : OpenClaim := { program := "ytjakgdaodlgeaaagreatdoor", sum := "f6460700f2be5450ff8f28485856410f8b336833be7ac846f24f76572a75722d", func := "caliper/caliperlaw05.JsonLimits", spec := "jsonLimits", inPlace := ["internal/bytealg.IndexByteString", "internal/reflectlite.ValueOf", "(internal/reflectlite.Value).Type", "(internal/reflectlite.Value).IsNil", "internal/reflectlite.TypeOf", "(internal/reflectlite.Value).Elem", "(internal/reflectlite.Value).Set", "internal/bytealg.IndexString"], unfollowed := true, recurses := true, named := ["caliper/utf.greatest", "errors.errorType", "caliper/dec.errLarge", "unicode/utf8.first", "unicode/utf8.acceptRanges", "internal/bytealg.MaxLen"], apart := false, laid := [("unicode/utf8.acceptRanges", laid_unicode_utf8_acceptRanges), ("errors.errorType", laid_errors_errorType), ("caliper/dec.errLarge", laid_caliper_dec_errLarge), ("caliper/utf.greatest", laid_caliper_utf_greatest), ("unicode/utf8.first", laid_unicode_utf8_first)], narrowed := true }
def JsonLimitsUptoSaid : Prop := jsonLimitsUptoRow.holds Tryz.pinned (OpenSpec.upto jsonLimitsSpec)

end Rows
end Go.Proofs.YtjakgdaodlgeaaaGreatDoor
