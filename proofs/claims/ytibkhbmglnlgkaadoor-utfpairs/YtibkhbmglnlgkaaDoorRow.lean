/-
  How a walk becomes a row and a card: what the listed table gives, and a world for the witness. Conditions: none of its own.
-/
import Derived.Test.YtibkhbmglnlgkaaDoorA8
import Derived.Test.YtibkhbmglnlgkaaDoorCards
import Derived.Test.YtibkhbmglnlgkaaDoorTie
import Derived.ProofKit
import Derived.OpenShut
import Derived.ShutString
import Derived.ChangeOld
import Derived.Below
import Derived.Deep.DeepHandedRow
import Derived.Lib.LaidTab
namespace Go.Proofs.YtibkhbmglnlgkaaDoor
open Go.ChangeShapes Go.WideShapes Go.ChangeAt Go.RowKit

theorem own : ownKnob Tryd.prog.godebug = none := by kernel_rfl
theorem laidOut : laidOutB Tryd.prog = true := by kernel_rfl
theorem gTab : Tryd.prog.globalNamed "caliper/utf.greatest" = some 0 := by kernel_rfl
theorem gTabType : (Tryd.prog.globals[0]?).map (·.type) = some 61 := by kernel_rfl
theorem cells61 : Tryd.prog.cellsOf 61 = 4 := by kernel_rfl
theorem cells3 : Tryd.prog.cellsOf 3 = 1 := by kernel_rfl

/-- What the row's list gives: the table's cells hold its four numbers. -/
theorem table {W : World} (h : laidMetH Tryd.prog Rows.utfPairsRow.laid W) : Tab W := by
  have ht : Lib.TabIs Tryd.prog W "caliper/utf.greatest" .i64 [127, 2047, 65535, 1114111] := Lib.tabIs_of_head (rest := []) gTab gTabType Tryd.underlying61 Tryd.underlying3 cells3 cells61 h
  exact ⟨ht.cell gTab 0 (by decide), ht.cell gTab 1 (by decide), ht.cell gTab 2 (by decide), ht.cell gTab 3 (by decide)⟩
theorem Tab.pos {W : World} (h : Tab W) : 0 < W.heap.size := by
  by_cases z : 0 < W.heap.size
  · exact z
  · have := h.t0
    simp [World.cell?, Array.getElem?_eq_none (show W.heap.size ≤ 0 by omega)] at this

end Go.Proofs.YtibkhbmglnlgkaaDoor
