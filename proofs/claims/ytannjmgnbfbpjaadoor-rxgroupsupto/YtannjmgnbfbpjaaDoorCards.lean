/-
  DERIVED. GIVEN WITH THE SEED: THE CARDS: each row of YtannjmgnbfbpjaaDoorRows.lean that lists a variable, with what it lists TIED to the program's text (the seventh form; the later family's looks); each row that meets fmt, with fmt's text TOLD by the authors' own Lean function (tested against real Go, not proved from fmt's source: count such statements apart). THE CARD IS WHAT COUNTS. Prove the row's statement (the work); the ties are given (YtannjmgnbfbpjaaDoorTie.lean); close each card by the builder's one call (the guide's Derived/Test/ToyasCard.lean, 'card_holds'). Laid BY PROGRAM, IN A SANDBOX (cutbox-door.mjs). By AI agents, Wed Nov 11 2026. No macro, syntax, notation, axiom, sorry.
-/
import Derived.Test.YtannjmgnbfbpjaaDoorRows
import GoSem.ClaimSeven
namespace Go.Proofs.YtannjmgnbfbpjaaDoor
namespace Rows

/-- THE TIED CARD OF 'caliperlaw09.RxSets'. -/
def rxSetsCard : Claim7 := { stood := { row := rxSetsRow, standIns := [], harness := (true, "9d5969b2e474f1871994e0a5fdc24e36ae6cb45139f3b9f9b2382a4bf1dd6a15"), looks := true }, kinds := [], alts := [], laidByText := true, laidKinds := [.data], laidTests := true, laidLooks := .later }
def RxSetsCardSaid : Prop := Claim7.holds Tryd.pinned (.plain (OpenSpec.ofChange rxSetsSpec)) rxSetsCard

/-- THE TIED CARD OF 'caliperlaw09.RxIn'. -/
def rxInCard : Claim7 := { stood := { row := rxInRow, standIns := [], harness := (true, "9d5969b2e474f1871994e0a5fdc24e36ae6cb45139f3b9f9b2382a4bf1dd6a15"), looks := true }, kinds := [], alts := [], laidByText := true, laidKinds := [.data], laidTests := true, laidLooks := .later }
def RxInCardSaid : Prop := Claim7.holds Tryd.pinned (.plain (OpenSpec.ofChange rxInSpec)) rxInCard

/-- THE TIED CARD OF 'caliperlaw09.RxGroups'. -/
def rxGroupsCard : Claim7 := { stood := { row := rxGroupsRow, standIns := [], harness := (true, "9d5969b2e474f1871994e0a5fdc24e36ae6cb45139f3b9f9b2382a4bf1dd6a15"), looks := true }, kinds := [], alts := [], laidByText := true, laidKinds := [.data], laidTests := true, laidLooks := .later }
def RxGroupsCardSaid : Prop := Claim7.holds Tryd.pinned (.plain (OpenSpec.ofChange rxGroupsSpec)) rxGroupsCard

/-- THE SECOND FORM's CARD OF 'caliperlaw09.RxSets'. -/
def rxSetsUptoCard : Claim7 := { stood := { row := rxSetsUptoRow, standIns := [], harness := (true, "9d5969b2e474f1871994e0a5fdc24e36ae6cb45139f3b9f9b2382a4bf1dd6a15"), looks := true }, kinds := [], alts := [], laidByText := true, laidKinds := [.data], laidTests := true, laidLooks := .later }
def RxSetsUptoCardSaid : Prop := Claim7.holds Tryd.pinned (.plain (OpenSpec.upto rxSetsSpec)) rxSetsUptoCard

/-- THE SECOND FORM's CARD OF 'caliperlaw09.RxIn'. -/
def rxInUptoCard : Claim7 := { stood := { row := rxInUptoRow, standIns := [], harness := (true, "9d5969b2e474f1871994e0a5fdc24e36ae6cb45139f3b9f9b2382a4bf1dd6a15"), looks := true }, kinds := [], alts := [], laidByText := true, laidKinds := [.data], laidTests := true, laidLooks := .later }
def RxInUptoCardSaid : Prop := Claim7.holds Tryd.pinned (.plain (OpenSpec.upto rxInSpec)) rxInUptoCard

/-- THE SECOND FORM's CARD OF 'caliperlaw09.RxGroups'. -/
def rxGroupsUptoCard : Claim7 := { stood := { row := rxGroupsUptoRow, standIns := [], harness := (true, "9d5969b2e474f1871994e0a5fdc24e36ae6cb45139f3b9f9b2382a4bf1dd6a15"), looks := true }, kinds := [], alts := [], laidByText := true, laidKinds := [.data], laidTests := true, laidLooks := .later }
def RxGroupsUptoCardSaid : Prop := Claim7.holds Tryd.pinned (.plain (OpenSpec.upto rxGroupsSpec)) rxGroupsUptoCard
end Rows
end Go.Proofs.YtannjmgnbfbpjaaDoor
