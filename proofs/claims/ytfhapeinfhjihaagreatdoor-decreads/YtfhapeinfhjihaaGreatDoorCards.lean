/-
  DERIVED. GIVEN WITH THE SEED: THE CARDS: each row of YtfhapeinfhjihaaGreatDoorRows.lean that lists a variable, with what it lists TIED to the program's text (the seventh form; the later family's looks); each row that meets fmt, with fmt's text TOLD by the authors' own Lean function (tested against real Go, not proved from fmt's source: count such statements apart). THE CARD IS WHAT COUNTS. Prove the row's statement (the work); the ties are given (YtfhapeinfhjihaaGreatDoorTie.lean); close each card by the builder's one call (the guide's Derived/Test/ToyasCard.lean, 'card_holds'). Laid BY PROGRAM, IN A SANDBOX (cutbox-door.mjs). By AI agents, Wed Nov 11 2026. No macro, syntax, notation, axiom, sorry.
-/
import Derived.Test.YtfhapeinfhjihaaGreatDoorRows
import GoSem.ClaimSeven
namespace Go.Proofs.YtfhapeinfhjihaaGreatDoor
namespace Rows

/-- THE TIED CARD OF 'caliperlaw03.DecReads'. -/
def decReadsCard : Claim7 := { stood := { row := decReadsRow, standIns := [], harness := (true, "521322bba4890ce81053b34baa5d2ba6d918eaef6a416f828ee1004a535e473d"), looks := true }, kinds := [], alts := [], laidByText := true, laidKinds := [.data, .data, .data, .data, .handle, .sentinel, .pinned], laidTests := true, laidLooks := .later }
def DecReadsCardSaid : Prop := Claim7.holds Tryz.pinned (.plain (OpenSpec.ofChange decReadsSpec)) decReadsCard

/-- THE TIED CARD OF 'caliperlaw03.DecMultiples'. -/
def decMultiplesCard : Claim7 := { stood := { row := decMultiplesRow, standIns := [], harness := (true, "521322bba4890ce81053b34baa5d2ba6d918eaef6a416f828ee1004a535e473d"), looks := true }, kinds := [], alts := [], laidByText := true, laidKinds := [.data, .data, .data, .data, .handle, .sentinel, .pinned], laidTests := true, laidLooks := .later }
def DecMultiplesCardSaid : Prop := Claim7.holds Tryz.pinned (.plain (OpenSpec.ofChange decMultiplesSpec)) decMultiplesCard

/-- THE TIED CARD OF 'caliperlaw03.DecTimes'. -/
def decTimesCard : Claim7 := { stood := { row := decTimesRow, standIns := [], harness := (true, "521322bba4890ce81053b34baa5d2ba6d918eaef6a416f828ee1004a535e473d"), looks := true }, kinds := [], alts := [], laidByText := true, laidKinds := [.data, .data, .data, .data, .handle, .sentinel, .pinned], laidTests := true, laidLooks := .later }
def DecTimesCardSaid : Prop := Claim7.holds Tryz.pinned (.plain (OpenSpec.ofChange decTimesSpec)) decTimesCard

/-- THE SECOND FORM's CARD OF 'caliperlaw03.DecReads'. -/
def decReadsUptoCard : Claim7 := { stood := { row := decReadsUptoRow, standIns := [], harness := (true, "521322bba4890ce81053b34baa5d2ba6d918eaef6a416f828ee1004a535e473d"), looks := true }, kinds := [], alts := [], laidByText := true, laidKinds := [.data, .data, .data, .data, .handle, .sentinel, .pinned], laidTests := true, laidLooks := .later }
def DecReadsUptoCardSaid : Prop := Claim7.holds Tryz.pinned (.plain (OpenSpec.upto decReadsSpec)) decReadsUptoCard

/-- THE SECOND FORM's CARD OF 'caliperlaw03.DecMultiples'. -/
def decMultiplesUptoCard : Claim7 := { stood := { row := decMultiplesUptoRow, standIns := [], harness := (true, "521322bba4890ce81053b34baa5d2ba6d918eaef6a416f828ee1004a535e473d"), looks := true }, kinds := [], alts := [], laidByText := true, laidKinds := [.data, .data, .data, .data, .handle, .sentinel, .pinned], laidTests := true, laidLooks := .later }
def DecMultiplesUptoCardSaid : Prop := Claim7.holds Tryz.pinned (.plain (OpenSpec.upto decMultiplesSpec)) decMultiplesUptoCard

/-- THE SECOND FORM's CARD OF 'caliperlaw03.DecTimes'. -/
def decTimesUptoCard : Claim7 := { stood := { row := decTimesUptoRow, standIns := [], harness := (true, "521322bba4890ce81053b34baa5d2ba6d918eaef6a416f828ee1004a535e473d"), looks := true }, kinds := [], alts := [], laidByText := true, laidKinds := [.data, .data, .data, .data, .handle, .sentinel, .pinned], laidTests := true, laidLooks := .later }
def DecTimesUptoCardSaid : Prop := Claim7.holds Tryz.pinned (.plain (OpenSpec.upto decTimesSpec)) decTimesUptoCard
end Rows
end Go.Proofs.YtfhapeinfhjihaaGreatDoor
