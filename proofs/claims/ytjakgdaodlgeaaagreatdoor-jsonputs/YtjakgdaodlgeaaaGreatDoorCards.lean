/-
  DERIVED. GIVEN WITH THE SEED: THE CARDS: each row of YtjakgdaodlgeaaaGreatDoorRows.lean that lists a variable, with what it lists TIED to the program's text (the seventh form; the later family's looks); each row that meets fmt, with fmt's text TOLD by the authors' own Lean function (tested against real Go, not proved from fmt's source: count such statements apart). THE CARD IS WHAT COUNTS. Prove the row's statement (the work); the ties are given (YtjakgdaodlgeaaaGreatDoorTie.lean); close each card by the builder's one call (the guide's Derived/Test/ToyasCard.lean, 'card_holds'). Laid BY PROGRAM, IN A SANDBOX (cutbox-door.mjs). By AI agents, Wed Nov 11 2026. No macro, syntax, notation, axiom, sorry.
-/
import Derived.Test.YtjakgdaodlgeaaaGreatDoorRows
import GoSem.ClaimSeven
namespace Go.Proofs.YtjakgdaodlgeaaaGreatDoor
namespace Rows

/-- THE TIED CARD OF 'caliperlaw05.JsonReads'. -/
def jsonReadsCard : Claim7 := { stood := { row := jsonReadsRow, standIns := [], harness := (true, "50fa0acf28e8a0c46523cf9b5141a8bec8c5f6845a354c52d8d78fb5605c2124"), looks := true }, kinds := [], alts := [], laidByText := true, laidKinds := [.data, .handle, .sentinel, .data, .pinned], laidTests := true, laidLooks := .later }
def JsonReadsCardSaid : Prop := Claim7.holds Tryz.pinned (.plain (OpenSpec.ofChange jsonReadsSpec)) jsonReadsCard

/-- THE TIED CARD OF 'caliperlaw05.JsonParses'. -/
def jsonParsesCard : Claim7 := { stood := { row := jsonParsesRow, standIns := [], harness := (true, "50fa0acf28e8a0c46523cf9b5141a8bec8c5f6845a354c52d8d78fb5605c2124"), looks := true }, kinds := [], alts := [], laidByText := true, laidKinds := [.data, .handle, .sentinel, .data, .pinned], laidTests := true, laidLooks := .later }
def JsonParsesCardSaid : Prop := Claim7.holds Tryz.pinned (.plain (OpenSpec.ofChange jsonParsesSpec)) jsonParsesCard

/-- THE TIED CARD OF 'caliperlaw05.JsonBlanks'. -/
def jsonBlanksCard : Claim7 := { stood := { row := jsonBlanksRow, standIns := [], harness := (true, "50fa0acf28e8a0c46523cf9b5141a8bec8c5f6845a354c52d8d78fb5605c2124"), looks := true }, kinds := [], alts := [], laidByText := true, laidKinds := [.data, .handle, .sentinel, .data, .pinned], laidTests := true, laidLooks := .later }
def JsonBlanksCardSaid : Prop := Claim7.holds Tryz.pinned (.plain (OpenSpec.ofChange jsonBlanksSpec)) jsonBlanksCard

/-- THE TIED CARD OF 'caliperlaw05.JsonBad'. -/
def jsonBadCard : Claim7 := { stood := { row := jsonBadRow, standIns := [], harness := (true, "50fa0acf28e8a0c46523cf9b5141a8bec8c5f6845a354c52d8d78fb5605c2124"), looks := true }, kinds := [], alts := [], laidByText := true, laidKinds := [.data, .handle, .sentinel, .data, .pinned], laidTests := true, laidLooks := .later }
def JsonBadCardSaid : Prop := Claim7.holds Tryz.pinned (.plain (OpenSpec.ofChange jsonBadSpec)) jsonBadCard

/-- THE TIED CARD OF 'caliperlaw05.JsonPuts'. -/
def jsonPutsCard : Claim7 := { stood := { row := jsonPutsRow, standIns := [], harness := (true, "50fa0acf28e8a0c46523cf9b5141a8bec8c5f6845a354c52d8d78fb5605c2124"), looks := true }, kinds := [], alts := [], laidByText := true, laidKinds := [.data, .handle, .sentinel, .data, .pinned], laidTests := true, laidLooks := .later }
def JsonPutsCardSaid : Prop := Claim7.holds Tryz.pinned (.plain (OpenSpec.ofChange jsonPutsSpec)) jsonPutsCard

/-- THE TIED CARD OF 'caliperlaw05.JsonLimits'. -/
def jsonLimitsCard : Claim7 := { stood := { row := jsonLimitsRow, standIns := [], harness := (true, "50fa0acf28e8a0c46523cf9b5141a8bec8c5f6845a354c52d8d78fb5605c2124"), looks := true }, kinds := [], alts := [], laidByText := true, laidKinds := [.data, .handle, .sentinel, .data, .pinned], laidTests := true, laidLooks := .later }
def JsonLimitsCardSaid : Prop := Claim7.holds Tryz.pinned (.plain (OpenSpec.ofChange jsonLimitsSpec)) jsonLimitsCard

/-- THE SECOND FORM's CARD OF 'caliperlaw05.JsonReads'. -/
def jsonReadsUptoCard : Claim7 := { stood := { row := jsonReadsUptoRow, standIns := [], harness := (true, "50fa0acf28e8a0c46523cf9b5141a8bec8c5f6845a354c52d8d78fb5605c2124"), looks := true }, kinds := [], alts := [], laidByText := true, laidKinds := [.data, .handle, .sentinel, .data, .pinned], laidTests := true, laidLooks := .later }
def JsonReadsUptoCardSaid : Prop := Claim7.holds Tryz.pinned (.plain (OpenSpec.upto jsonReadsSpec)) jsonReadsUptoCard

/-- THE SECOND FORM's CARD OF 'caliperlaw05.JsonParses'. -/
def jsonParsesUptoCard : Claim7 := { stood := { row := jsonParsesUptoRow, standIns := [], harness := (true, "50fa0acf28e8a0c46523cf9b5141a8bec8c5f6845a354c52d8d78fb5605c2124"), looks := true }, kinds := [], alts := [], laidByText := true, laidKinds := [.data, .handle, .sentinel, .data, .pinned], laidTests := true, laidLooks := .later }
def JsonParsesUptoCardSaid : Prop := Claim7.holds Tryz.pinned (.plain (OpenSpec.upto jsonParsesSpec)) jsonParsesUptoCard

/-- THE SECOND FORM's CARD OF 'caliperlaw05.JsonBlanks'. -/
def jsonBlanksUptoCard : Claim7 := { stood := { row := jsonBlanksUptoRow, standIns := [], harness := (true, "50fa0acf28e8a0c46523cf9b5141a8bec8c5f6845a354c52d8d78fb5605c2124"), looks := true }, kinds := [], alts := [], laidByText := true, laidKinds := [.data, .handle, .sentinel, .data, .pinned], laidTests := true, laidLooks := .later }
def JsonBlanksUptoCardSaid : Prop := Claim7.holds Tryz.pinned (.plain (OpenSpec.upto jsonBlanksSpec)) jsonBlanksUptoCard

/-- THE SECOND FORM's CARD OF 'caliperlaw05.JsonBad'. -/
def jsonBadUptoCard : Claim7 := { stood := { row := jsonBadUptoRow, standIns := [], harness := (true, "50fa0acf28e8a0c46523cf9b5141a8bec8c5f6845a354c52d8d78fb5605c2124"), looks := true }, kinds := [], alts := [], laidByText := true, laidKinds := [.data, .handle, .sentinel, .data, .pinned], laidTests := true, laidLooks := .later }
def JsonBadUptoCardSaid : Prop := Claim7.holds Tryz.pinned (.plain (OpenSpec.upto jsonBadSpec)) jsonBadUptoCard

/-- THE SECOND FORM's CARD OF 'caliperlaw05.JsonPuts'. -/
def jsonPutsUptoCard : Claim7 := { stood := { row := jsonPutsUptoRow, standIns := [], harness := (true, "50fa0acf28e8a0c46523cf9b5141a8bec8c5f6845a354c52d8d78fb5605c2124"), looks := true }, kinds := [], alts := [], laidByText := true, laidKinds := [.data, .handle, .sentinel, .data, .pinned], laidTests := true, laidLooks := .later }
def JsonPutsUptoCardSaid : Prop := Claim7.holds Tryz.pinned (.plain (OpenSpec.upto jsonPutsSpec)) jsonPutsUptoCard

/-- THE SECOND FORM's CARD OF 'caliperlaw05.JsonLimits'. -/
def jsonLimitsUptoCard : Claim7 := { stood := { row := jsonLimitsUptoRow, standIns := [], harness := (true, "50fa0acf28e8a0c46523cf9b5141a8bec8c5f6845a354c52d8d78fb5605c2124"), looks := true }, kinds := [], alts := [], laidByText := true, laidKinds := [.data, .handle, .sentinel, .data, .pinned], laidTests := true, laidLooks := .later }
def JsonLimitsUptoCardSaid : Prop := Claim7.holds Tryz.pinned (.plain (OpenSpec.upto jsonLimitsSpec)) jsonLimitsUptoCard
end Rows
end Go.Proofs.YtjakgdaodlgeaaaGreatDoor
