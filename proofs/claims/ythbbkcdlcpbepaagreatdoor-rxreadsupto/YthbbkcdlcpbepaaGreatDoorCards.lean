/-
  DERIVED. GIVEN WITH THE SEED: THE CARDS: each row of YthbbkcdlcpbepaaGreatDoorRows.lean that lists a variable, with what it lists TIED to the program's text (the seventh form; the later family's looks); each row that meets fmt, with fmt's text TOLD by the authors' own Lean function (tested against real Go, not proved from fmt's source: count such statements apart). THE CARD IS WHAT COUNTS. Prove the row's statement (the work); the ties are given (YthbbkcdlcpbepaaGreatDoorTie.lean); close each card by the builder's one call (the guide's Derived/Test/ToyasCard.lean, 'card_holds'). Laid BY PROGRAM, IN A SANDBOX (cutbox-door.mjs). By AI agents, Wed Nov 11 2026. No macro, syntax, notation, axiom, sorry.
-/
import Derived.Test.YthbbkcdlcpbepaaGreatDoorRows
import GoSem.ClaimSeven
namespace Go.Proofs.YthbbkcdlcpbepaaGreatDoor
namespace Rows

/-- THE TIED CARD OF 'caliperlaw09.RxReads'. -/
def rxReadsCard : Claim7 := { stood := { row := rxReadsRow, standIns := [], harness := (true, "f6b96594776a8bbcafa09cf913bc2818c6c29eb27065c00655b4e5f84313028c"), looks := true }, kinds := [], alts := [], laidByText := true, laidKinds := [.data], laidTests := true, laidLooks := .later }
def RxReadsCardSaid : Prop := Claim7.holds Tryz.pinned (.plain (OpenSpec.ofChange rxReadsSpec)) rxReadsCard

/-- THE TIED CARD OF 'caliperlaw09.RxChecks'. -/
def rxChecksCard : Claim7 := { stood := { row := rxChecksRow, standIns := [], harness := (true, "f6b96594776a8bbcafa09cf913bc2818c6c29eb27065c00655b4e5f84313028c"), looks := true }, kinds := [], alts := [], laidByText := true, laidKinds := [.data, .data, .data, .data], laidTests := true, laidLooks := .later }
def RxChecksCardSaid : Prop := Claim7.holds Tryz.pinned (.plain (OpenSpec.ofChange rxChecksSpec)) rxChecksCard

/-- THE TIED CARD OF 'caliperlaw09.RxBack'. -/
def rxBackCard : Claim7 := { stood := { row := rxBackRow, standIns := [], harness := (true, "f6b96594776a8bbcafa09cf913bc2818c6c29eb27065c00655b4e5f84313028c"), looks := true }, kinds := [], alts := [], laidByText := true, laidKinds := [.data, .data, .data, .data], laidTests := true, laidLooks := .later }
def RxBackCardSaid : Prop := Claim7.holds Tryz.pinned (.plain (OpenSpec.ofChange rxBackSpec)) rxBackCard

/-- THE SECOND FORM's CARD OF 'caliperlaw09.RxReads'. -/
def rxReadsUptoCard : Claim7 := { stood := { row := rxReadsUptoRow, standIns := [], harness := (true, "f6b96594776a8bbcafa09cf913bc2818c6c29eb27065c00655b4e5f84313028c"), looks := true }, kinds := [], alts := [], laidByText := true, laidKinds := [.data], laidTests := true, laidLooks := .later }
def RxReadsUptoCardSaid : Prop := Claim7.holds Tryz.pinned (.plain (OpenSpec.upto rxReadsSpec)) rxReadsUptoCard

/-- THE SECOND FORM's CARD OF 'caliperlaw09.RxChecks'. -/
def rxChecksUptoCard : Claim7 := { stood := { row := rxChecksUptoRow, standIns := [], harness := (true, "f6b96594776a8bbcafa09cf913bc2818c6c29eb27065c00655b4e5f84313028c"), looks := true }, kinds := [], alts := [], laidByText := true, laidKinds := [.data, .data, .data, .data], laidTests := true, laidLooks := .later }
def RxChecksUptoCardSaid : Prop := Claim7.holds Tryz.pinned (.plain (OpenSpec.upto rxChecksSpec)) rxChecksUptoCard

/-- THE SECOND FORM's CARD OF 'caliperlaw09.RxBack'. -/
def rxBackUptoCard : Claim7 := { stood := { row := rxBackUptoRow, standIns := [], harness := (true, "f6b96594776a8bbcafa09cf913bc2818c6c29eb27065c00655b4e5f84313028c"), looks := true }, kinds := [], alts := [], laidByText := true, laidKinds := [.data, .data, .data, .data], laidTests := true, laidLooks := .later }
def RxBackUptoCardSaid : Prop := Claim7.holds Tryz.pinned (.plain (OpenSpec.upto rxBackSpec)) rxBackUptoCard
end Rows
end Go.Proofs.YthbbkcdlcpbepaaGreatDoor
