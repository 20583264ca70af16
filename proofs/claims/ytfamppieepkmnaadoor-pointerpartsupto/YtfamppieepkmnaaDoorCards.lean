/-
  DERIVED. GIVEN WITH THE SEED: THE CARDS: each row of YtfamppieepkmnaaDoorRows.lean that lists a variable, with what it lists TIED to the program's text (the seventh form; the later family's looks); each row that meets fmt, with fmt's text TOLD by the authors' own Lean function (tested against real Go, not proved from fmt's source: count such statements apart). THE CARD IS WHAT COUNTS. Prove the row's statement (the work); the ties are given (YtfamppieepkmnaaDoorTie.lean); close each card by the builder's one call (the guide's Derived/Test/ToyasCard.lean, 'card_holds'). Laid BY PROGRAM, IN A SANDBOX (cutbox-door.mjs). By AI agents, Wed Nov 11 2026. No macro, syntax, notation, axiom, sorry.
-/
import Derived.Test.YtfamppieepkmnaaDoorRows
import GoSem.ClaimSeven
namespace Go.Proofs.YtfamppieepkmnaaDoor
namespace Rows

/-- THE TIED CARD OF 'caliperlaw07.PointerParts'. -/
def pointerPartsCard : Claim7 := { stood := { row := pointerPartsRow, standIns := [], harness := (true, "bc2cd75fed5e3984c159f11fadcfa1f11a9dae6decbe883a7fa9497ba8081612"), looks := false }, kinds := [], alts := [], laidByText := true, laidKinds := [.data, .data, .data, .data], laidTests := true, laidLooks := .later }
def PointerPartsCardSaid : Prop := Claim7.holds Tryd.pinned (.plain (OpenSpec.ofChange pointerPartsSpec)) pointerPartsCard

/-- THE TIED CARD OF 'caliperlaw07.PointerBack'. -/
def pointerBackCard : Claim7 := { stood := { row := pointerBackRow, standIns := [], harness := (true, "bc2cd75fed5e3984c159f11fadcfa1f11a9dae6decbe883a7fa9497ba8081612"), looks := false }, kinds := [], alts := [], laidByText := true, laidKinds := [.data, .data, .data, .data], laidTests := true, laidLooks := .later }
def PointerBackCardSaid : Prop := Claim7.holds Tryd.pinned (.plain (OpenSpec.ofChange pointerBackSpec)) pointerBackCard

/-- THE TIED CARD OF 'caliperlaw07.PointerEscapes'. -/
def pointerEscapesCard : Claim7 := { stood := { row := pointerEscapesRow, standIns := [], harness := (true, "bc2cd75fed5e3984c159f11fadcfa1f11a9dae6decbe883a7fa9497ba8081612"), looks := false }, kinds := [], alts := [], laidByText := true, laidKinds := [.data, .data, .data, .data], laidTests := true, laidLooks := .later }
def PointerEscapesCardSaid : Prop := Claim7.holds Tryd.pinned (.plain (OpenSpec.ofChange pointerEscapesSpec)) pointerEscapesCard

/-- THE SECOND FORM's CARD OF 'caliperlaw07.PointerParts'. -/
def pointerPartsUptoCard : Claim7 := { stood := { row := pointerPartsUptoRow, standIns := [], harness := (true, "bc2cd75fed5e3984c159f11fadcfa1f11a9dae6decbe883a7fa9497ba8081612"), looks := false }, kinds := [], alts := [], laidByText := true, laidKinds := [.data, .data, .data, .data], laidTests := true, laidLooks := .later }
def PointerPartsUptoCardSaid : Prop := Claim7.holds Tryd.pinned (.plain (OpenSpec.upto pointerPartsSpec)) pointerPartsUptoCard

/-- THE SECOND FORM's CARD OF 'caliperlaw07.PointerBack'. -/
def pointerBackUptoCard : Claim7 := { stood := { row := pointerBackUptoRow, standIns := [], harness := (true, "bc2cd75fed5e3984c159f11fadcfa1f11a9dae6decbe883a7fa9497ba8081612"), looks := false }, kinds := [], alts := [], laidByText := true, laidKinds := [.data, .data, .data, .data], laidTests := true, laidLooks := .later }
def PointerBackUptoCardSaid : Prop := Claim7.holds Tryd.pinned (.plain (OpenSpec.upto pointerBackSpec)) pointerBackUptoCard

/-- THE SECOND FORM's CARD OF 'caliperlaw07.PointerEscapes'. -/
def pointerEscapesUptoCard : Claim7 := { stood := { row := pointerEscapesUptoRow, standIns := [], harness := (true, "bc2cd75fed5e3984c159f11fadcfa1f11a9dae6decbe883a7fa9497ba8081612"), looks := false }, kinds := [], alts := [], laidByText := true, laidKinds := [.data, .data, .data, .data], laidTests := true, laidLooks := .later }
def PointerEscapesUptoCardSaid : Prop := Claim7.holds Tryd.pinned (.plain (OpenSpec.upto pointerEscapesSpec)) pointerEscapesUptoCard
end Rows
end Go.Proofs.YtfamppieepkmnaaDoor
