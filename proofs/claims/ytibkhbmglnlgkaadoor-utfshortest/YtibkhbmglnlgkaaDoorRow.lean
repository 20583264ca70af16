/-
  How a walk becomes a row and a card: what the listed table gives, and a world for the witness. Conditions: none of its own.
-/
import Derived.Test.YtibkhbmglnlgkaaDoorA8
import Derived.Test.YtibkhbmglnlgkaaDoorCards
import Derived.Test.YtibkhbmglnlgkaaDoorTie
import Derived.ProofKit
import Derived.OpenShut
import Derived.ShutString
import Derived.ChangeOld
import Derived.Below
import Derived.Deep.DeepHandedRow
import Derived.Lib.LaidTab
import Derived.SizedLaws
namespace Go.Proofs.YtibkhbmglnlgkaaDoor
open Go.ChangeShapes Go.WideShapes Go.ChangeAt Go.RowKit

theorem own : ownKnob Tryd.prog.godebug = none := by kernel_rfl
theorem laidOut : laidOutB Tryd.prog = true := by kernel_rfl
theorem gTab : Tryd.prog.globalNamed "caliper/utf.greatest" = some 0 := by kernel_rfl
theorem gTabType : (Tryd.prog.globals[0]?).map (·.type) = some 61 := by kernel_rfl
theorem cells61 : Tryd.prog.cellsOf 61 = 4 := by kernel_rfl
theorem cells3 : Tryd.prog.cellsOf 3 = 1 := by kernel_rfl

/-- What the row's list gives: the table's cells hold its four numbers. -/
theorem table {W : World} (h : laidMetH Tryd.prog Rows.utfPairsRow.laid W) : Tab W := by
  have ht : Lib.TabIs Tryd.prog W "caliper/utf.greatest" .i64 [127, 2047, 65535, 1114111] := Lib.tabIs_of_head (rest := []) gTab gTabType Tryd.underlying61 Tryd.underlying3 cells3 cells61 h
  exact ⟨ht.cell gTab 0 (by decide), ht.cell gTab 1 (by decide), ht.cell gTab 2 (by decide), ht.cell gTab 3 (by decide)⟩
theorem Tab.pos {W : World} (h : Tab W) : 0 < W.heap.size := by
  by_cases z : 0 < W.heap.size
  · exact z
  · have := h.t0
    simp [World.cell?, Array.getElem?_eq_none (show W.heap.size ≤ 0 by omega)] at this


theorem bytes5 : Tryd.prog.bytesOf 5 = 1 := by kernel_rfl
theorem cells5 : Tryd.prog.cellsOf 5 = 1 := by kernel_rfl

/-- A slice of bytes that came in. -/
theorem open_bytes {H : Type} {enc : TypeId × Value → H} {W : World} {base : Nat} {v : Value} {d : DataW H} {p : List MemPlace} (hv : Value.okWide Tryd.prog W .any base 22 v)
    (h : DataW.Trod enc Tryd.prog W 0 (fun _ => true) true 22 v d p) :
    ∃ n f, Row W v n f ∧ (∀ i, 0 ≤ f i) ∧ (∀ i, f i < 256) ∧ (n = 0 ∨ ∃ elems spare, d = .slice elems spare ∧ elems.length = n) := by
  obtain ⟨a0, len0, cap0, rfl⟩ := okWide_slice Tryd.underlying22 hv
  obtain ⟨fuel, hf⟩ := h
  rcases open_ints Tryd.underlying22 Tryd.underlying5 cells5 hf with ⟨hcs, _⟩ | ⟨x, l, c, zs, hcs, _, hl, hm, hz, hx, hcell, hwz⟩
  · simp [Value.cells] at hcs
    obtain ⟨rfl, rfl, rfl⟩ := hcs
    exact ⟨0, fun _ => 0, .inl ⟨rfl, none, 0, rfl, fun _ => rfl⟩, fun _ => (by decide : (0 : Int) ≤ 0), fun _ => (by decide : (0 : Int) < 256), .inl rfl⟩
  · simp [Value.cells] at hcs
    obtain ⟨rfl, rfl, rfl⟩ := hcs
    simp only [if_true] at hz
    have hb : ∀ i, 0 ≤ zs.getD i 0 ∧ zs.getD i 0 < 256 := by
      intro i
      by_cases k : i < zs.length
      · have e : zs.getD i 0 = zs[i] := by rw [List.getD_eq_getElem?_getD, List.getElem?_eq_getElem k]; rfl
        have := bounds_u8 (hwz zs[i] (List.getElem_mem k))
        rw [e]; omega
      · have e : zs.getD i 0 = 0 := by rw [List.getD_eq_getElem?_getD, List.getElem?_eq_none (by omega)]; rfl
        rw [e]; omega
    by_cases h0 : len0 = 0
    · subst h0
      exact ⟨0, fun _ => 0, .inl ⟨rfl, some x, cap0, rfl, fun e => by cases e⟩, fun _ => (by decide : (0 : Int) ≤ 0), fun _ => (by decide : (0 : Int) < 256), .inl rfl⟩
    · obtain ⟨b, off, spot⟩ := x
      have hc := hcell 0 (by omega)
      have hspot : spot = none := by simpa [Addr.add] using World.cell?_spot hc
      subst hspot
      refine ⟨len0, fun i => zs.getD i 0, .inr ⟨b, off, cap0, rfl, hl, hm, ⟨fun i hi => ?_, fun i => (hb i).1, fun i => (hb i).2⟩⟩, fun i => (hb i).1, fun i => (hb i).2, .inr ?_⟩
      · have := hcell i (by omega)
        rw [add_at] at this
        exact this
      · obtain ⟨rfl, _⟩ := Prod.mk.inj hx
        exact ⟨_, _, rfl, by simp [lits]; omega⟩

/-- The form's own reach, for a slice of bytes. -/
theorem reach_bytes {H : Type} {ts : List TypeId} {ds : List (DataW H)} (hsz : (DataW.weightsEach Tryd.prog ts ds).all (· ≤ reachBytes) = true) {j n : Nat} {d : DataW H} (ht : ts[j]? = some 22) (hd : ds[j]? = some d)
    (h : n = 0 ∨ ∃ elems spare, d = .slice elems spare ∧ elems.length = n) : n ≤ 140737488351232 := by
  rcases h with h | ⟨elems, spare, rfl, h⟩
  · omega
  · have := sized_slice hsz ht hd Tryd.underlying22
    rw [bytes5] at this
    simp only [reachBytes] at this
    omega

theorem bulk_pos {H : Type} (d : DataW H) : 1 ≤ Rows.uptoBulk d := by
  cases d with
  | lit l => cases l <;> simp [Rows.uptoBulk]
  | _ => simp [Rows.uptoBulk]
theorem bulk_part {H : Type} {d : DataW H} : ∀ {l : List (DataW H)}, d ∈ l → Rows.uptoBulk d ≤ Rows.uptoBulkAll l
  | x :: r, h => by
    simp only [Rows.uptoBulkAll]
    rcases List.mem_cons.1 h with e | e
    · subst e; omega
    · have := bulk_part e; omega
theorem bulk_length {H : Type} : ∀ (l : List (DataW H)), l.length ≤ Rows.uptoBulkAll l
  | [] => by simp
  | x :: r => by
    have := bulk_length r
    have := bulk_pos x
    simp only [Rows.uptoBulkAll, List.length_cons]
    omega
/-- The second form's bound, for a slice of bytes. -/
theorem upto_bytes {H : Type} {ds : List (DataW H)} (hc : Rows.uptoSmall H ds = true) {j n : Nat} {d : DataW H} (hd : ds[j]? = some d) (h : n = 0 ∨ ∃ elems spare, d = .slice elems spare ∧ elems.length = n) : n ≤ 1048576 := by
  have hb : Rows.uptoBulkAll ds ≤ 1048576 := of_decide_eq_true hc
  have hp := bulk_part (List.mem_of_getElem? hd)
  rcases h with h | ⟨elems, spare, rfl, h⟩
  · omega
  · have := bulk_length elems
    simp only [Rows.uptoBulk] at hp
    omega
/-- .. and for a text. -/
theorem upto_text {H : Type} {ds : List (DataW H)} (hc : Rows.uptoSmall H ds = true) {j : Nat} {bytes : List UInt8} (hd : ds[j]? = some (.lit (.string bytes))) : bytes.length ≤ 1048576 := by
  have hb : Rows.uptoBulkAll ds ≤ 1048576 := of_decide_eq_true hc
  have hp := bulk_part (List.mem_of_getElem? hd)
  simp only [Rows.uptoBulk] at hp
  omega
end Go.Proofs.YtibkhbmglnlgkaaDoor
