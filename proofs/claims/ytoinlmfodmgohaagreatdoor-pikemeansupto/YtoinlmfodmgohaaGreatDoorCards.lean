/-
  DERIVED. GIVEN WITH THE SEED: THE CARDS: each row of YtoinlmfodmgohaaGreatDoorRows.lean that lists a variable, with what it lists TIED to the program's text (the seventh form; the later family's looks); each row that meets fmt, with fmt's text TOLD by the authors' own Lean function (tested against real Go, not proved from fmt's source: count such statements apart). THE CARD IS WHAT COUNTS. Prove the row's statement (the work); the ties are given (YtoinlmfodmgohaaGreatDoorTie.lean); close each card by the builder's one call (the guide's Derived/Test/ToyasCard.lean, 'card_holds'). Laid BY PROGRAM, IN A SANDBOX (cutbox-door.mjs). By AI agents, Wed Nov 11 2026. No macro, syntax, notation, axiom, sorry.
-/
import Derived.Test.YtoinlmfodmgohaaGreatDoorRows
import GoSem.ClaimSeven
namespace Go.Proofs.YtoinlmfodmgohaaGreatDoor
namespace Rows

/-- THE TIED CARD OF 'caliperlaw11.PikeClass'. -/
def pikeClassCard : Claim7 := { stood := { row := pikeClassRow, standIns := [], harness := (true, "7ae924fa25aa0a6b4303311af2fb9ddff709e55a5e3d76c70e5875a7d78b870f"), looks := true }, kinds := [], alts := [], laidByText := true, laidKinds := [.data], laidTests := true, laidLooks := .later }
def PikeClassCardSaid : Prop := Claim7.holds Tryz.pinned (.plain (OpenSpec.ofChange pikeClassSpec)) pikeClassCard

/-- THE TIED CARD OF 'caliperlaw11.PikeSearches'. -/
def pikeSearchesCard : Claim7 := { stood := { row := pikeSearchesRow, standIns := [], harness := (true, "7ae924fa25aa0a6b4303311af2fb9ddff709e55a5e3d76c70e5875a7d78b870f"), looks := true }, kinds := [], alts := [], laidByText := true, laidKinds := [.data], laidTests := true, laidLooks := .later }
def PikeSearchesCardSaid : Prop := Claim7.holds Tryz.pinned (.plain (OpenSpec.ofChange pikeSearchesSpec)) pikeSearchesCard

/-- THE TIED CARD OF 'caliperlaw11.PikeMeans'. -/
def pikeMeansCard : Claim7 := { stood := { row := pikeMeansRow, standIns := [], harness := (true, "7ae924fa25aa0a6b4303311af2fb9ddff709e55a5e3d76c70e5875a7d78b870f"), looks := true }, kinds := [], alts := [], laidByText := true, laidKinds := [.data], laidTests := true, laidLooks := .later }
def PikeMeansCardSaid : Prop := Claim7.holds Tryz.pinned (.plain (OpenSpec.ofChange pikeMeansSpec)) pikeMeansCard

/-- THE TIED CARD OF 'caliperlaw11.PikeSteps'. -/
def pikeStepsCard : Claim7 := { stood := { row := pikeStepsRow, standIns := [], harness := (true, "7ae924fa25aa0a6b4303311af2fb9ddff709e55a5e3d76c70e5875a7d78b870f"), looks := true }, kinds := [], alts := [], laidByText := true, laidKinds := [.data], laidTests := true, laidLooks := .later }
def PikeStepsCardSaid : Prop := Claim7.holds Tryz.pinned (.plain (OpenSpec.ofChange pikeStepsSpec)) pikeStepsCard

/-- THE TIED CARD OF 'caliperlaw11.PikeWithin'. -/
def pikeWithinCard : Claim7 := { stood := { row := pikeWithinRow, standIns := [], harness := (true, "7ae924fa25aa0a6b4303311af2fb9ddff709e55a5e3d76c70e5875a7d78b870f"), looks := true }, kinds := [], alts := [], laidByText := true, laidKinds := [.data], laidTests := true, laidLooks := .later }
def PikeWithinCardSaid : Prop := Claim7.holds Tryz.pinned (.plain (OpenSpec.ofChange pikeWithinSpec)) pikeWithinCard

/-- THE TIED CARD OF 'caliperlaw11.PikeParts'. -/
def pikePartsCard : Claim7 := { stood := { row := pikePartsRow, standIns := [], harness := (true, "7ae924fa25aa0a6b4303311af2fb9ddff709e55a5e3d76c70e5875a7d78b870f"), looks := true }, kinds := [], alts := [], laidByText := true, laidKinds := [.data], laidTests := true, laidLooks := .later }
def PikePartsCardSaid : Prop := Claim7.holds Tryz.pinned (.plain (OpenSpec.ofChange pikePartsSpec)) pikePartsCard

/-- THE SECOND FORM's CARD OF 'caliperlaw11.PikeClass'. -/
def pikeClassUptoCard : Claim7 := { stood := { row := pikeClassUptoRow, standIns := [], harness := (true, "7ae924fa25aa0a6b4303311af2fb9ddff709e55a5e3d76c70e5875a7d78b870f"), looks := true }, kinds := [], alts := [], laidByText := true, laidKinds := [.data], laidTests := true, laidLooks := .later }
def PikeClassUptoCardSaid : Prop := Claim7.holds Tryz.pinned (.plain (OpenSpec.upto pikeClassSpec)) pikeClassUptoCard

/-- THE SECOND FORM's CARD OF 'caliperlaw11.PikeSearches'. -/
def pikeSearchesUptoCard : Claim7 := { stood := { row := pikeSearchesUptoRow, standIns := [], harness := (true, "7ae924fa25aa0a6b4303311af2fb9ddff709e55a5e3d76c70e5875a7d78b870f"), looks := true }, kinds := [], alts := [], laidByText := true, laidKinds := [.data], laidTests := true, laidLooks := .later }
def PikeSearchesUptoCardSaid : Prop := Claim7.holds Tryz.pinned (.plain (OpenSpec.upto pikeSearchesSpec)) pikeSearchesUptoCard

/-- THE SECOND FORM's CARD OF 'caliperlaw11.PikeMeans'. -/
def pikeMeansUptoCard : Claim7 := { stood := { row := pikeMeansUptoRow, standIns := [], harness := (true, "7ae924fa25aa0a6b4303311af2fb9ddff709e55a5e3d76c70e5875a7d78b870f"), looks := true }, kinds := [], alts := [], laidByText := true, laidKinds := [.data], laidTests := true, laidLooks := .later }
def PikeMeansUptoCardSaid : Prop := Claim7.holds Tryz.pinned (.plain (OpenSpec.upto pikeMeansSpec)) pikeMeansUptoCard

/-- THE SECOND FORM's CARD OF 'caliperlaw11.PikeSteps'. -/
def pikeStepsUptoCard : Claim7 := { stood := { row := pikeStepsUptoRow, standIns := [], harness := (true, "7ae924fa25aa0a6b4303311af2fb9ddff709e55a5e3d76c70e5875a7d78b870f"), looks := true }, kinds := [], alts := [], laidByText := true, laidKinds := [.data], laidTests := true, laidLooks := .later }
def PikeStepsUptoCardSaid : Prop := Claim7.holds Tryz.pinned (.plain (OpenSpec.upto pikeStepsSpec)) pikeStepsUptoCard

/-- THE SECOND FORM's CARD OF 'caliperlaw11.PikeWithin'. -/
def pikeWithinUptoCard : Claim7 := { stood := { row := pikeWithinUptoRow, standIns := [], harness := (true, "7ae924fa25aa0a6b4303311af2fb9ddff709e55a5e3d76c70e5875a7d78b870f"), looks := true }, kinds := [], alts := [], laidByText := true, laidKinds := [.data], laidTests := true, laidLooks := .later }
def PikeWithinUptoCardSaid : Prop := Claim7.holds Tryz.pinned (.plain (OpenSpec.upto pikeWithinSpec)) pikeWithinUptoCard

/-- THE SECOND FORM's CARD OF 'caliperlaw11.PikeParts'. -/
def pikePartsUptoCard : Claim7 := { stood := { row := pikePartsUptoRow, standIns := [], harness := (true, "7ae924fa25aa0a6b4303311af2fb9ddff709e55a5e3d76c70e5875a7d78b870f"), looks := true }, kinds := [], alts := [], laidByText := true, laidKinds := [.data], laidTests := true, laidLooks := .later }
def PikePartsUptoCardSaid : Prop := Claim7.holds Tryz.pinned (.plain (OpenSpec.upto pikePartsSpec)) pikePartsUptoCard
end Rows
end Go.Proofs.YtoinlmfodmgohaaGreatDoor
