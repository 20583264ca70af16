/-
  DecBack answers true for every number and text, and leaves memory that was there as it was. Conditions: the package's sentinel, and the library's variables, as the program lays them.
-/
import Derived.Test.YtpeoepcfiejpmabGreatDoorS18
import Derived.Test.YtpeoepcfiejpmabGreatDoorS20
namespace Go.Proofs.YtpeoepcfiejpmabGreatDoor
open Go.RowKit
attribute [local go_sem] setCell_drewN alloc_drewN

theorem keep {w w' : World} {c : Array Value} {t : TypeId} (h : Below (w.alloc (.cells c t)).heap.size (w.alloc (.cells c t)) w') : (∀ o, w'.cell? ⟨w.heap.size, o, none⟩ = c[o]?) ∧ w.heap.size < w'.heap.size := by
  refine ⟨fun o => ?_, ?_⟩
  · rw [h.cell (p := ⟨w.heap.size, o, none⟩) (by simp)]
    rw [World.cell?_alloc_at _ _ _ _ rfl]
  · have := h.size
    simp at this
    omega
theorem text_len {d : D3} (h : Good d) : (textL d).length ≤ 70000 := by
  unfold textL sufL
  rcases h with ⟨h1, h2, h3⟩ | ⟨h1, h2, h3⟩
  · rw [if_pos h1]; decide
  · rw [if_neg h1.1]
    have l1 := h1.2.1
    have l2 := itoa_len d.ex h2 h3
    split <;> split <;> simp <;> omega
theorem eq_self (n : Bool) (s : ByteArray) (e : Int) : eqD n s e n s e = true := decide_eq_true ⟨rfl, rfl, rfl⟩
/-- Compared as nought just where they are the same. -/
theorem zero_iff {n m : Bool} {s t : ByteArray} {e f : Int} (gA : goodB n s e = true) (gB : goodB m t f = true) : (sg (V ⟨n, s.data.toList, e⟩) (V ⟨m, t.data.toList, f⟩) == 0) = eqD n s e m t f := by
  have key : sg (V ⟨n, s.data.toList, e⟩) (V ⟨m, t.data.toList, f⟩) = 0 ↔ (n = m ∧ s = t ∧ e = f) := by
    constructor
    · intro h
      have hv : V ⟨n, s.data.toList, e⟩ = V ⟨m, t.data.toList, f⟩ := by
        unfold sg at h
        split at h
        · cases h
        · split at h
          · cases h
          · omega
      have := V_inj (of_decide_eq_true gA) (of_decide_eq_true gB) hv
      simp only [D3.mk.injEq] at this
      exact ⟨this.1, by rw [← bs_self s, ← bs_self t, this.2.1], this.2.2⟩
    · rintro ⟨rfl, rfl, rfl⟩
      simp [sg]
  rw [Bool.eq_iff_iff]
  unfold eqD
  rw [decide_eq_true_iff, beq_iff_eq, key]

end Go.Proofs.YtpeoepcfiejpmabGreatDoor
