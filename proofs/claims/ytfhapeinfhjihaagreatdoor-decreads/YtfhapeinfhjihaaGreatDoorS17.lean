/-
  What dec.Multiple answers of numbers that may be, by what dec.divides does. Conditions: the divisor is above nought.
-/
import Derived.Test.YtfhapeinfhjihaaGreatDoorS14
import Derived.Test.YtfhapeinfhjihaaGreatDoorS15
import Derived.Test.YtfhapeinfhjihaaGreatDoorS16
namespace Go.Proofs.YtfhapeinfhjihaaGreatDoor
open Go.RowKit
attribute [local go_sem] setCell_drewN alloc_drewN

set_option maxRecDepth 100000 in
set_option maxHeartbeats 1600000 in
theorem multiple_by (n m : Bool) (s t : ByteArray) (e f : Int) (res : Bool) (w : World) (hs : s.size ≤ maxLen) (ht : t.size ≤ maxLen) (gA : goodB n s e = true) (gB : goodB m t f = true) (hsg : sgnD m t = 1)
    (hd : ∀ w, Calls Tryz.prog 37 #[.agg #[.bool m, .string t, .int .i64 f], .agg #[.bool n, .string s, .int .i64 e]] w fun r w' => r = .returned (.bool res) ∧ Below w.heap.size w w') :
    Calls Tryz.prog 17 #[.agg #[.bool n, .string s, .int .i64 e], .agg #[.bool m, .string t, .int .i64 f]] w fun r w' => r = .returned (.tuple #[.bool res, .int .i64 0]) ∧ Below w.heap.size w w' := by
  have h1 := fun b w k => checked_two n m s t e f b w hs ht k
  have h2 := fun w => sign_dec m t f w gB
  rw [gA, gB] at h1
  simp only [errB, Bool.and_self, if_true] at h1
  rw [hsg] at h2
  clear hs ht gA gB hsg
  go_enter Tryz.func17, Tryz.ntmps17
  go_wp2_with fail
  refine (h1 _ _ (by simp) ?_ ?_ ?_ ?_ ?_ ?_).mono ?_
  iterate 6 (simp [go_sem])
  rintro r w1 ⟨rfl, hb1⟩
  have hk1 := fun b o hb => hb1.cell (p := ⟨b, o, none⟩) hb
  have ka : ∀ o, w1.cell? ⟨w.heap.size, o, none⟩ = #[Value.bool n, .string s, .int .i64 e][o]? := fun o => by rw [hk1 w.heap.size o (by simp <;> omega)]; simp [go_sem]
  have kb : ∀ o, w1.cell? ⟨w.heap.size + 1, o, none⟩ = #[Value.bool m, .string t, .int .i64 f][o]? := fun o => by rw [hk1 (w.heap.size + 1) o (by simp <;> omega)]; simp [go_sem]
  have hz1 : w.heap.size + 1 < w1.heap.size := by have := hb1.size; simp at this; omega
  clear hk1
  go_wp2_with fail
  refine (h2 _).mono ?_
  rintro r w2 ⟨rfl, hb2⟩
  have ka2 : ∀ o, w2.cell? ⟨w.heap.size, o, none⟩ = #[Value.bool n, .string s, .int .i64 e][o]? := fun o => by rw [hb2.cell (p := ⟨w.heap.size, o, none⟩) (by show w.heap.size < _; omega)]; exact ka o
  have kb2 : ∀ o, w2.cell? ⟨w.heap.size + 1, o, none⟩ = #[Value.bool m, .string t, .int .i64 f][o]? := fun o => by rw [hb2.cell (p := ⟨w.heap.size + 1, o, none⟩) (by show w.heap.size + 1 < _; omega)]; exact kb o
  go_wp2_with fail
  refine (hd _).mono ?_
  rintro r w3 ⟨rfl, hb3⟩
  go_wp2
  go_ret2
  exact ⟨rfl, (by with_reducible repeat (first | exact Below.refl _ _ | refine bl_t ?_ hb3 | refine bl_t ?_ hb2 | refine bl_t ?_ hb1 |  refine bl_d ?_ | refine bl_n ?_ _ | refine bl_a ?_ _ | refine bl_s ?_ (by omega) _))⟩
end Go.Proofs.YtfhapeinfhjihaaGreatDoor
