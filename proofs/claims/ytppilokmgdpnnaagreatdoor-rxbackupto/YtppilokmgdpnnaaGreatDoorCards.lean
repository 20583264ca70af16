/-
  DERIVED. GIVEN WITH THE SEED: THE CARDS: each row of YtppilokmgdpnnaaGreatDoorRows.lean that lists a variable, with what it lists TIED to the program's text (the seventh form; the later family's looks); each row that meets fmt, with fmt's text TOLD by the authors' own Lean function (tested against real Go, not proved from fmt's source: count such statements apart). THE CARD IS WHAT COUNTS. Prove the row's statement (the work); the ties are given (YtppilokmgdpnnaaGreatDoorTie.lean); close each card by the builder's one call (the guide's Derived/Test/ToyasCard.lean, 'card_holds'). Laid BY PROGRAM, IN A SANDBOX (cutbox-door.mjs). By AI agents, Wed Nov 11 2026. No macro, syntax, notation, axiom, sorry.
-/
import Derived.Test.YtppilokmgdpnnaaGreatDoorRows
import GoSem.ClaimSeven
namespace Go.Proofs.YtppilokmgdpnnaaGreatDoor
namespace Rows

/-- THE TIED CARD OF 'caliperlaw09.RxChecks'. -/
def rxChecksCard : Claim7 := { stood := { row := rxChecksRow, standIns := [], harness := (true, "d254c331798b2cdde9610c91b3ca2951eac7e3f707e7afa250b20bc721fc4500"), looks := true }, kinds := [], alts := [], laidByText := true, laidKinds := [.data, .data, .data, .data], laidTests := true, laidLooks := .later }
def RxChecksCardSaid : Prop := Claim7.holds Tryz.pinned (.plain (OpenSpec.ofChange rxChecksSpec)) rxChecksCard

/-- THE TIED CARD OF 'caliperlaw09.RxBack'. -/
def rxBackCard : Claim7 := { stood := { row := rxBackRow, standIns := [], harness := (true, "d254c331798b2cdde9610c91b3ca2951eac7e3f707e7afa250b20bc721fc4500"), looks := true }, kinds := [], alts := [], laidByText := true, laidKinds := [.data, .data, .data, .data], laidTests := true, laidLooks := .later }
def RxBackCardSaid : Prop := Claim7.holds Tryz.pinned (.plain (OpenSpec.ofChange rxBackSpec)) rxBackCard

/-- THE SECOND FORM's CARD OF 'caliperlaw09.RxChecks'. -/
def rxChecksUptoCard : Claim7 := { stood := { row := rxChecksUptoRow, standIns := [], harness := (true, "d254c331798b2cdde9610c91b3ca2951eac7e3f707e7afa250b20bc721fc4500"), looks := true }, kinds := [], alts := [], laidByText := true, laidKinds := [.data, .data, .data, .data], laidTests := true, laidLooks := .later }
def RxChecksUptoCardSaid : Prop := Claim7.holds Tryz.pinned (.plain (OpenSpec.upto rxChecksSpec)) rxChecksUptoCard

/-- THE SECOND FORM's CARD OF 'caliperlaw09.RxBack'. -/
def rxBackUptoCard : Claim7 := { stood := { row := rxBackUptoRow, standIns := [], harness := (true, "d254c331798b2cdde9610c91b3ca2951eac7e3f707e7afa250b20bc721fc4500"), looks := true }, kinds := [], alts := [], laidByText := true, laidKinds := [.data, .data, .data, .data], laidTests := true, laidLooks := .later }
def RxBackUptoCardSaid : Prop := Claim7.holds Tryz.pinned (.plain (OpenSpec.upto rxBackSpec)) rxBackUptoCard
end Rows
end Go.Proofs.YtppilokmgdpnnaaGreatDoor
