/-
  DERIVED. GIVEN WITH THE SEED: THE CARDS: each row of YtibkhbmglnlgkaaDoorRows.lean that lists a variable, with what it lists TIED to the program's text (the seventh form; the later family's looks); each row that meets fmt, with fmt's text TOLD by the authors' own Lean function (tested against real Go, not proved from fmt's source: count such statements apart). THE CARD IS WHAT COUNTS. Prove the row's statement (the work); the ties are given (YtibkhbmglnlgkaaDoorTie.lean); close each card by the builder's one call (the guide's Derived/Test/ToyasCard.lean, 'card_holds'). Laid BY PROGRAM, IN A SANDBOX (cutbox-door.mjs). By AI agents, Wed Nov 11 2026. No macro, syntax, notation, axiom, sorry.
-/
import Derived.Test.YtibkhbmglnlgkaaDoorRows
import GoSem.ClaimSeven
namespace Go.Proofs.YtibkhbmglnlgkaaDoor
namespace Rows

/-- THE TIED CARD OF 'caliperlaw01.UtfReads'. -/
def utfReadsCard : Claim7 := { stood := { row := utfReadsRow, standIns := [], harness := (true, "571466c45d1c053d9f8ef2fab67f80b951a10c36d5bafdbdd16104a61e959d96"), looks := false }, kinds := [], alts := [], laidByText := true, laidKinds := [.data], laidTests := true, laidLooks := .later }
def UtfReadsCardSaid : Prop := Claim7.holds Tryd.pinned (.plain (OpenSpec.ofChange utfReadsSpec)) utfReadsCard

/-- THE TIED CARD OF 'caliperlaw01.UtfPuts'. -/
def utfPutsCard : Claim7 := { stood := { row := utfPutsRow, standIns := [], harness := (true, "571466c45d1c053d9f8ef2fab67f80b951a10c36d5bafdbdd16104a61e959d96"), looks := false }, kinds := [], alts := [], laidByText := true, laidKinds := [.data], laidTests := true, laidLooks := .later }
def UtfPutsCardSaid : Prop := Claim7.holds Tryd.pinned (.plain (OpenSpec.ofChange utfPutsSpec)) utfPutsCard

/-- THE TIED CARD OF 'caliperlaw01.UtfBack'. -/
def utfBackCard : Claim7 := { stood := { row := utfBackRow, standIns := [], harness := (true, "571466c45d1c053d9f8ef2fab67f80b951a10c36d5bafdbdd16104a61e959d96"), looks := false }, kinds := [], alts := [], laidByText := true, laidKinds := [.data], laidTests := true, laidLooks := .later }
def UtfBackCardSaid : Prop := Claim7.holds Tryd.pinned (.plain (OpenSpec.ofChange utfBackSpec)) utfBackCard

/-- THE TIED CARD OF 'caliperlaw01.UtfShortest'. -/
def utfShortestCard : Claim7 := { stood := { row := utfShortestRow, standIns := [], harness := (true, "571466c45d1c053d9f8ef2fab67f80b951a10c36d5bafdbdd16104a61e959d96"), looks := false }, kinds := [], alts := [], laidByText := true, laidKinds := [.data], laidTests := true, laidLooks := .later }
def UtfShortestCardSaid : Prop := Claim7.holds Tryd.pinned (.plain (OpenSpec.ofChange utfShortestSpec)) utfShortestCard

/-- THE TIED CARD OF 'caliperlaw01.UtfPairs'. -/
def utfPairsCard : Claim7 := { stood := { row := utfPairsRow, standIns := [], harness := (true, "571466c45d1c053d9f8ef2fab67f80b951a10c36d5bafdbdd16104a61e959d96"), looks := false }, kinds := [], alts := [], laidByText := true, laidKinds := [.data], laidTests := true, laidLooks := .later }
def UtfPairsCardSaid : Prop := Claim7.holds Tryd.pinned (.plain (OpenSpec.ofChange utfPairsSpec)) utfPairsCard

/-- THE TIED CARD OF 'caliperlaw01.UtfOrder'. -/
def utfOrderCard : Claim7 := { stood := { row := utfOrderRow, standIns := [], harness := (true, "571466c45d1c053d9f8ef2fab67f80b951a10c36d5bafdbdd16104a61e959d96"), looks := false }, kinds := [], alts := [], laidByText := true, laidKinds := [.data], laidTests := true, laidLooks := .later }
def UtfOrderCardSaid : Prop := Claim7.holds Tryd.pinned (.plain (OpenSpec.ofChange utfOrderSpec)) utfOrderCard

/-- THE SECOND FORM's CARD OF 'caliperlaw01.UtfReads'. -/
def utfReadsUptoCard : Claim7 := { stood := { row := utfReadsUptoRow, standIns := [], harness := (true, "571466c45d1c053d9f8ef2fab67f80b951a10c36d5bafdbdd16104a61e959d96"), looks := false }, kinds := [], alts := [], laidByText := true, laidKinds := [.data], laidTests := true, laidLooks := .later }
def UtfReadsUptoCardSaid : Prop := Claim7.holds Tryd.pinned (.plain (OpenSpec.upto utfReadsSpec)) utfReadsUptoCard

/-- THE SECOND FORM's CARD OF 'caliperlaw01.UtfPuts'. -/
def utfPutsUptoCard : Claim7 := { stood := { row := utfPutsUptoRow, standIns := [], harness := (true, "571466c45d1c053d9f8ef2fab67f80b951a10c36d5bafdbdd16104a61e959d96"), looks := false }, kinds := [], alts := [], laidByText := true, laidKinds := [.data], laidTests := true, laidLooks := .later }
def UtfPutsUptoCardSaid : Prop := Claim7.holds Tryd.pinned (.plain (OpenSpec.upto utfPutsSpec)) utfPutsUptoCard

/-- THE SECOND FORM's CARD OF 'caliperlaw01.UtfBack'. -/
def utfBackUptoCard : Claim7 := { stood := { row := utfBackUptoRow, standIns := [], harness := (true, "571466c45d1c053d9f8ef2fab67f80b951a10c36d5bafdbdd16104a61e959d96"), looks := false }, kinds := [], alts := [], laidByText := true, laidKinds := [.data], laidTests := true, laidLooks := .later }
def UtfBackUptoCardSaid : Prop := Claim7.holds Tryd.pinned (.plain (OpenSpec.upto utfBackSpec)) utfBackUptoCard

/-- THE SECOND FORM's CARD OF 'caliperlaw01.UtfShortest'. -/
def utfShortestUptoCard : Claim7 := { stood := { row := utfShortestUptoRow, standIns := [], harness := (true, "571466c45d1c053d9f8ef2fab67f80b951a10c36d5bafdbdd16104a61e959d96"), looks := false }, kinds := [], alts := [], laidByText := true, laidKinds := [.data], laidTests := true, laidLooks := .later }
def UtfShortestUptoCardSaid : Prop := Claim7.holds Tryd.pinned (.plain (OpenSpec.upto utfShortestSpec)) utfShortestUptoCard

/-- THE SECOND FORM's CARD OF 'caliperlaw01.UtfPairs'. -/
def utfPairsUptoCard : Claim7 := { stood := { row := utfPairsUptoRow, standIns := [], harness := (true, "571466c45d1c053d9f8ef2fab67f80b951a10c36d5bafdbdd16104a61e959d96"), looks := false }, kinds := [], alts := [], laidByText := true, laidKinds := [.data], laidTests := true, laidLooks := .later }
def UtfPairsUptoCardSaid : Prop := Claim7.holds Tryd.pinned (.plain (OpenSpec.upto utfPairsSpec)) utfPairsUptoCard

/-- THE SECOND FORM's CARD OF 'caliperlaw01.UtfOrder'. -/
def utfOrderUptoCard : Claim7 := { stood := { row := utfOrderUptoRow, standIns := [], harness := (true, "571466c45d1c053d9f8ef2fab67f80b951a10c36d5bafdbdd16104a61e959d96"), looks := false }, kinds := [], alts := [], laidByText := true, laidKinds := [.data], laidTests := true, laidLooks := .later }
def UtfOrderUptoCardSaid : Prop := Claim7.holds Tryd.pinned (.plain (OpenSpec.upto utfOrderSpec)) utfOrderUptoCard
end Rows
end Go.Proofs.YtibkhbmglnlgkaaDoor
