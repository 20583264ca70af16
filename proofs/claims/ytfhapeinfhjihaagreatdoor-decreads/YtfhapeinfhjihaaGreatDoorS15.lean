/-
  What dec.checked, dec.order and dec.Compare answer. No condition.
-/
import Derived.Test.YtfhapeinfhjihaaGreatDoorS8
namespace Go.Proofs.YtfhapeinfhjihaaGreatDoor
open Go.RowKit
attribute [local go_sem] setCell_drewN alloc_drewN

set_option maxRecDepth 100000 in
set_option maxHeartbeats 1600000 in
theorem checked_two (n m : Bool) (s t : ByteArray) (e f : Int) (b : Nat) (w : World) (hs : s.size ≤ maxLen) (ht : t.size ≤ maxLen) (hbl : b < w.heap.size)
    (c0 : w.cell? ⟨b, 0, none⟩ = some (.bool n)) (c1 : w.cell? ⟨b, 1, none⟩ = some (.string s)) (c2 : w.cell? ⟨b, 2, none⟩ = some (.int .i64 e))
    (c3 : w.cell? ⟨b, 3, none⟩ = some (.bool m)) (c4 : w.cell? ⟨b, 4, none⟩ = some (.string t)) (c5 : w.cell? ⟨b, 5, none⟩ = some (.int .i64 f)) :
    Calls Tryz.prog 35 #[.slice (some ⟨b, 0, none⟩) 2 2] w fun r w' => r = .returned (.int .i64 (errB (goodB n s e && goodB m t f))) ∧ Below w.heap.size w w' := by
  have h1 := fun w => check_any n s e w hs
  have h2 := fun w => check_any m t f w ht
  clear hs ht
  cases g1 : goodB n s e
  · rw [g1] at h1
    simp only [errB, Bool.false_eq_true, if_false, Bool.false_and] at h1 ⊢
    clear h2 g1 c3 c4 c5
    go_enter Tryz.func35, Tryz.ntmps35
    go_wp2
    refine wp_loop_rounds 1 ?_
    rw [rounds_succ]
    go_wp2_with (go_at_call 12; refine (h1 _).mono ?_; rintro r w1 ⟨rfl, hb1⟩)
    go_ret
    exact ⟨rfl, (by with_reducible repeat (first | exact Below.refl _ _ | refine bl_t ?_ hb1 | refine bl_d ?_ | refine bl_n ?_ _ | refine bl_a ?_ _ | refine bl_s ?_ (by omega) _))⟩
  · rw [g1] at h1
    simp only [errB, if_true] at h1
    cases g2 : goodB m t f
    · rw [g2] at h2
      simp only [errB, Bool.false_eq_true, if_false, Bool.true_and] at h2 ⊢
      clear g1 g2
      go_enter Tryz.func35, Tryz.ntmps35
      go_wp2
      refine wp_loop_rounds 2 ?_
      rw [rounds_succ]
      go_wp2_with (go_at_call 12; refine (h1 _).mono ?_; rintro r w1 ⟨rfl, hb1⟩)
      have k3 : w1.cell? ⟨b, 3, none⟩ = some (.bool m) := by rw [hb1.cell (p := ⟨b, 3, none⟩) (by simp only [World.size_alloc]; omega), World.cell?_alloc_lt _ _ ⟨b, 3, none⟩ hbl]; exact c3
      have k4 : w1.cell? ⟨b, 4, none⟩ = some (.string t) := by rw [hb1.cell (p := ⟨b, 4, none⟩) (by simp only [World.size_alloc]; omega), World.cell?_alloc_lt _ _ ⟨b, 4, none⟩ hbl]; exact c4
      have k5 : w1.cell? ⟨b, 5, none⟩ = some (.int .i64 f) := by rw [hb1.cell (p := ⟨b, 5, none⟩) (by simp only [World.size_alloc]; omega), World.cell?_alloc_lt _ _ ⟨b, 5, none⟩ hbl]; exact c5
      rw [rounds_succ]
      go_wp2_with (go_at_call 12; refine (h2 _).mono ?_; rintro r w2 ⟨rfl, hb2⟩)
      go_ret
      exact ⟨rfl, (by with_reducible repeat (first | exact Below.refl _ _ | refine bl_t ?_ hb2 | refine bl_t ?_ hb1 | refine bl_d ?_ | refine bl_n ?_ _ | refine bl_a ?_ _ | refine bl_s ?_ (by omega) _))⟩
    · rw [g2] at h2
      simp only [errB, if_true, Bool.true_and] at h2 ⊢
      clear g1 g2
      go_enter Tryz.func35, Tryz.ntmps35
      go_wp2
      refine wp_loop_rounds 3 ?_
      rw [rounds_succ]
      go_wp2_with (go_at_call 12; refine (h1 _).mono ?_; rintro r w1 ⟨rfl, hb1⟩)
      have k3 : w1.cell? ⟨b, 3, none⟩ = some (.bool m) := by rw [hb1.cell (p := ⟨b, 3, none⟩) (by simp only [World.size_alloc]; omega), World.cell?_alloc_lt _ _ ⟨b, 3, none⟩ hbl]; exact c3
      have k4 : w1.cell? ⟨b, 4, none⟩ = some (.string t) := by rw [hb1.cell (p := ⟨b, 4, none⟩) (by simp only [World.size_alloc]; omega), World.cell?_alloc_lt _ _ ⟨b, 4, none⟩ hbl]; exact c4
      have k5 : w1.cell? ⟨b, 5, none⟩ = some (.int .i64 f) := by rw [hb1.cell (p := ⟨b, 5, none⟩) (by simp only [World.size_alloc]; omega), World.cell?_alloc_lt _ _ ⟨b, 5, none⟩ hbl]; exact c5
      rw [rounds_succ]
      go_wp2_with (go_at_call 12; refine (h2 _).mono ?_; rintro r w2 ⟨rfl, hb2⟩)
      rw [rounds_succ]
      go_wp2
      go_ret
      exact ⟨rfl, (by with_reducible repeat (first | exact Below.refl _ _ | refine bl_t ?_ hb2 | refine bl_t ?_ hb1 | refine bl_d ?_ | refine bl_n ?_ _ | refine bl_a ?_ _ | refine bl_s ?_ (by omega) _))⟩
end Go.Proofs.YtfhapeinfhjihaaGreatDoor
