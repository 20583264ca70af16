/-
  DERIVED. GIVEN WITH THE SEED: THE CARDS: each row of YtcbhjhkmmdcdeaaDoorRows.lean that lists a variable, with what it lists TIED to the program's text (the seventh form; the later family's looks); each row that meets fmt, with fmt's text TOLD by the authors' own Lean function (tested against real Go, not proved from fmt's source: count such statements apart). THE CARD IS WHAT COUNTS. Prove the row's statement (the work); the ties are given (YtcbhjhkmmdcdeaaDoorTie.lean); close each card by the builder's one call (the guide's Derived/Test/ToyasCard.lean, 'card_holds'). Laid BY PROGRAM, IN A SANDBOX (cutbox-door.mjs). By AI agents, Wed Nov 11 2026. No macro, syntax, notation, axiom, sorry.
-/
import Derived.Test.YtcbhjhkmmdcdeaaDoorRows
import GoSem.ClaimSeven
namespace Go.Proofs.YtcbhjhkmmdcdeaaDoor
namespace Rows

/-- THE TIED CARD OF 'caliperlaw07.PointerFinds'. -/
def pointerFindsCard : Claim7 := { stood := { row := pointerFindsRow, standIns := [], harness := (true, "7ffa58d21851f81c10be7631ba6f88aa901ddace7c7beaa61e93e7bd4ca7866c"), looks := false }, kinds := [], alts := [], laidByText := true, laidKinds := [.data, .data, .data, .data], laidTests := true, laidLooks := .later }
def PointerFindsCardSaid : Prop := Claim7.holds Tryd.pinned (.plain (OpenSpec.ofChange pointerFindsSpec)) pointerFindsCard

/-- THE TIED CARD OF 'caliperlaw07.PointerAll'. -/
def pointerAllCard : Claim7 := { stood := { row := pointerAllRow, standIns := [], harness := (true, "7ffa58d21851f81c10be7631ba6f88aa901ddace7c7beaa61e93e7bd4ca7866c"), looks := false }, kinds := [], alts := [], laidByText := true, laidKinds := [.data, .data, .data, .data], laidTests := true, laidLooks := .later }
def PointerAllCardSaid : Prop := Claim7.holds Tryd.pinned (.plain (OpenSpec.ofChange pointerAllSpec)) pointerAllCard

/-- THE TIED CARD OF 'caliperlaw07.PointerSteps'. -/
def pointerStepsCard : Claim7 := { stood := { row := pointerStepsRow, standIns := [], harness := (true, "7ffa58d21851f81c10be7631ba6f88aa901ddace7c7beaa61e93e7bd4ca7866c"), looks := false }, kinds := [], alts := [], laidByText := true, laidKinds := [.data, .data, .data, .data], laidTests := true, laidLooks := .later }
def PointerStepsCardSaid : Prop := Claim7.holds Tryd.pinned (.plain (OpenSpec.ofChange pointerStepsSpec)) pointerStepsCard

/-- THE SECOND FORM's CARD OF 'caliperlaw07.PointerFinds'. -/
def pointerFindsUptoCard : Claim7 := { stood := { row := pointerFindsUptoRow, standIns := [], harness := (true, "7ffa58d21851f81c10be7631ba6f88aa901ddace7c7beaa61e93e7bd4ca7866c"), looks := false }, kinds := [], alts := [], laidByText := true, laidKinds := [.data, .data, .data, .data], laidTests := true, laidLooks := .later }
def PointerFindsUptoCardSaid : Prop := Claim7.holds Tryd.pinned (.plain (OpenSpec.upto pointerFindsSpec)) pointerFindsUptoCard

/-- THE SECOND FORM's CARD OF 'caliperlaw07.PointerAll'. -/
def pointerAllUptoCard : Claim7 := { stood := { row := pointerAllUptoRow, standIns := [], harness := (true, "7ffa58d21851f81c10be7631ba6f88aa901ddace7c7beaa61e93e7bd4ca7866c"), looks := false }, kinds := [], alts := [], laidByText := true, laidKinds := [.data, .data, .data, .data], laidTests := true, laidLooks := .later }
def PointerAllUptoCardSaid : Prop := Claim7.holds Tryd.pinned (.plain (OpenSpec.upto pointerAllSpec)) pointerAllUptoCard

/-- THE SECOND FORM's CARD OF 'caliperlaw07.PointerSteps'. -/
def pointerStepsUptoCard : Claim7 := { stood := { row := pointerStepsUptoRow, standIns := [], harness := (true, "7ffa58d21851f81c10be7631ba6f88aa901ddace7c7beaa61e93e7bd4ca7866c"), looks := false }, kinds := [], alts := [], laidByText := true, laidKinds := [.data, .data, .data, .data], laidTests := true, laidLooks := .later }
def PointerStepsUptoCardSaid : Prop := Claim7.holds Tryd.pinned (.plain (OpenSpec.upto pointerStepsSpec)) pointerStepsUptoCard
end Rows
end Go.Proofs.YtcbhjhkmmdcdeaaDoor
