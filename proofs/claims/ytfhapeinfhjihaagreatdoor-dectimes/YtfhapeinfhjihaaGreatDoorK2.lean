/-
  Limbs that come in as arguments. Conditions: none of its own.
-/
import Derived.Test.YtfhapeinfhjihaaGreatDoorK1
import Derived.Test.YtfhapeinfhjihaaGreatDoorA1
namespace Go.Proofs.YtfhapeinfhjihaaGreatDoor
open Go.ChangeShapes Go.WideShapes Go.ChangeAt Go.RowKit

theorem cellsU : Tryz.prog.cellsOf 76 = 1 := by kernel_rfl
theorem addAt (b off j : Nat) : (⟨b, off, none⟩ : Addr).add j = ⟨b, off + j, none⟩ := by
  simp only [Addr.add]; split
  · simp_all
  · rfl
set_option maxRecDepth 100000 in
/-- A slice of limbs that came in. -/
theorem open_limbs {H : Type} {enc : TypeId × Value → H} {W : World} {base : Nat} {v : Value} {d : DataW H} {p : List MemPlace} (hv : Value.okWide Tryz.prog W .any base 45 v)
    (h : DataW.Trod enc Tryz.prog W 0 (fun _ => true) true 45 v d p) :
    ∃ n f, Row W v n f ∧ (n = 0 ∨ ∃ elems spare, d = .slice elems spare ∧ elems.length = n) := by
  obtain ⟨a0, len0, cap0, rfl⟩ := okWide_slice Tryz.underlying45 hv
  obtain ⟨fuel, hf⟩ := h
  rcases open_ints Tryz.underlying45 Tryz.underlying76 cellsU hf with ⟨hcs, _⟩ | ⟨x, l, c, zs, hcs, _, hl, hm, hz, hx, hcell, hwz⟩
  · simp [Value.cells] at hcs
    obtain ⟨rfl, rfl, rfl⟩ := hcs
    exact ⟨0, fun _ => 0, .inl ⟨rfl, none, 0, rfl, fun _ => rfl⟩, .inl rfl⟩
  · simp [Value.cells] at hcs
    obtain ⟨rfl, rfl, rfl⟩ := hcs
    simp only [if_true] at hz
    have hb : ∀ i, 0 ≤ zs.getD i 0 ∧ zs.getD i 0 < 4294967296 := by
      intro i
      by_cases k : i < zs.length
      · have e : zs.getD i 0 = zs[i] := by rw [List.getD_eq_getElem?_getD, List.getElem?_eq_getElem k]; rfl
        have := bounds_u32 (hwz zs[i] (List.getElem_mem k))
        rw [e]; omega
      · have e : zs.getD i 0 = 0 := by rw [List.getD_eq_getElem?_getD, List.getElem?_eq_none (by omega)]; rfl
        rw [e]; omega
    by_cases h0 : len0 = 0
    · subst h0
      exact ⟨0, fun _ => 0, .inl ⟨rfl, some x, cap0, rfl, fun e => by cases e⟩, .inl rfl⟩
    · obtain ⟨b, off, spot⟩ := x
      have hc := hcell 0 (by omega)
      have hspot : spot = none := by simpa [Addr.add] using World.cell?_spot hc
      subst hspot
      refine ⟨len0, fun i => zs.getD i 0, .inr ⟨b, off, cap0, rfl, hl, hm, ⟨fun i hi => ?_, fun i => (hb i).1, fun i => (hb i).2⟩⟩, .inr ?_⟩
      · have := hcell i (by omega)
        rw [addAt] at this
        exact this
      · obtain ⟨rfl, _⟩ := Prod.mk.inj hx
        exact ⟨_, _, rfl, by simp [lits]; omega⟩
end Go.Proofs.YtfhapeinfhjihaaGreatDoor
