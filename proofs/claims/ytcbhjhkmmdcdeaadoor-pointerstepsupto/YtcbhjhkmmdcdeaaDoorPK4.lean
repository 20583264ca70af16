/-
  A value that comes in as an argument: a tree that lies in memory, nothing in it longer than the bulk of what was read. No condition.
-/
import Derived.Test.YtcbhjhkmmdcdeaaDoorPKn
import Derived.Test.YtcbhjhkmmdcdeaaDoorPK3
namespace Go.Proofs.YtcbhjhkmmdcdeaaDoor
open Go.ChangeShapes Go.WideShapes Go.ChangeAt Go.RowKit Go.Deep

set_option maxRecDepth 100000 in
theorem open_val {H : Type} {enc : TypeId × Value → H} {W : World} {base : Nat} {v : Value} {d : DataW H} {p : List MemPlace} (hv : Value.okWide Tryd.prog W .any base 28 v)
    (h : DataW.Trod enc Tryd.prog W 0 (fun _ => true) true 28 v d p) :
    ∃ (T : JV) (f : Nat → Value), v = .agg #[f 0, f 1, f 2, f 3, f 4, f 5, f 6] ∧ VI W (fun _ => False) T f ∧ Bd (Rows.uptoBulk d) T := by
  obtain ⟨cs, rfl, hsz⟩ := okWide_struct Tryd.underlying28 hv
  rw [cellsValue] at hsz
  obtain ⟨c0, c1, c2, c3, c4, c5, c6, rfl⟩ : ∃ c0 c1 c2 c3 c4 c5 c6, cs = #[c0, c1, c2, c3, c4, c5, c6] := by
    obtain ⟨l⟩ := cs
    match l, hsz with
    | [a, b, c, d, e, f, g], _ => exact ⟨a, b, c, d, e, f, g, rfl⟩
  obtain ⟨fuel, hf⟩ := h
  have hf : DataW.trod enc Tryd.prog W 0 (fun _ => true) true fuel 28 [c0, c1, c2, c3, c4, c5, c6] = some (d, p) := hf
  obtain ⟨T, f, hcs, hvi, hbd⟩ := open_value2 fuel _ _ hf
  simp only [List.cons.injEq, and_true] at hcs
  obtain ⟨rfl, rfl, rfl, rfl, rfl, rfl, rfl⟩ := hcs
  exact ⟨T, f, rfl, hvi, hbd⟩
theorem upto_val {H : Type} {ds : List (DataW H)} (hc : Rows.uptoSmall H ds = true) {j : Nat} {T : JV} {d : DataW H} (hd : ds[j]? = some d) (h : Bd (Rows.uptoBulk d) T) : Sm T ∧ Sz T := by
  have hb : Rows.uptoBulkAll ds ≤ 1048576 := of_decide_eq_true hc
  have hp := bulk_part (List.mem_of_getElem? hd)
  exact h.sm (by omega)
end Go.Proofs.YtcbhjhkmmdcdeaaDoor
