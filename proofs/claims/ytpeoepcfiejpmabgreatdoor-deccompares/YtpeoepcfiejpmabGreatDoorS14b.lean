/-
  What dec.orderOfSizes answers. Conditions: bounds that numbers which may be keep.
-/
import Derived.Test.YtpeoepcfiejpmabGreatDoorS14
import Derived.Deep.DeepCutAuto
namespace Go.Proofs.YtpeoepcfiejpmabGreatDoor
open Go.RowKit
attribute [local go_sem] setCell_drewN alloc_drewN

set_option maxRecDepth 100000 in
set_option maxHeartbeats 1600000 in
theorem sizes_far (n m : Bool) (s t : ByteArray) (e f x y : Int) (w : World) (h1 : ∀ w, Calls Tryz.prog 29 #[.agg #[.bool n, .string s, .int .i64 e]] w fun r w' => r = .returned (.int .i64 x) ∧ w' = w.alloc (.cells #[.bool n, .string s, .int .i64 e] 23)) (h2 : ∀ w, Calls Tryz.prog 29 #[.agg #[.bool m, .string t, .int .i64 f]] w fun r w' => r = .returned (.int .i64 y) ∧ w' = w.alloc (.cells #[.bool m, .string t, .int .i64 f] 23)) (hne2 : (x != y) = true) :
    Calls Tryz.prog 59 #[.agg #[.bool n, .string s, .int .i64 e], .agg #[.bool m, .string t, .int .i64 f]] w fun r w' => r = .returned (.int .i64 (sg x y)) ∧ Below w.heap.size w w' := by
  go_enter Tryz.func59, Tryz.ntmps59
  go_upto_region 1 with fail
  go_cut [9] (fun s9 wx => s9 = .bool true ∧ Below ((w.alloc (.cells #[.bool n, .string s, .int .i64 e] 23)).alloc (.cells #[.bool m, .string t, .int .i64 f] 23)).heap.size ((w.alloc (.cells #[.bool n, .string s, .int .i64 e] 23)).alloc (.cells #[.bool m, .string t, .int .i64 f] 23)) wx)
  case first =>
    go_region_with (first | (go_at_call 29; with_reducible refine (h1 _).mono ?_; rintro r w' ⟨rfl, rfl⟩) | (go_at_call 29; with_reducible refine (h2 _).mono ?_; rintro r w' ⟨rfl, rfl⟩))
    all_goals (try go_wp2_with fail)
    all_goals
      go_meet
      exact ⟨rfl, (by with_reducible repeat (first | exact Below.refl _ _ | refine bl_d ?_ | refine bl_n ?_ _ | refine bl_a ?_ _))⟩
  case rest =>
    obtain rfl := hcut.1
    have hB := hcut.2
    have ka : ∀ o, wc.cell? ⟨w.heap.size, o, none⟩ = #[Value.bool n, .string s, .int .i64 e][o]? := fun o => by rw [hB.cell (p := ⟨w.heap.size, o, none⟩) (by simp <;> omega)]; simp [go_sem]
    have kb : ∀ o, wc.cell? ⟨w.heap.size + 1, o, none⟩ = #[Value.bool m, .string t, .int .i64 f][o]? := fun o => by rw [hB.cell (p := ⟨w.heap.size + 1, o, none⟩) (by simp <;> omega)]; simp [go_sem]
    have za : w.heap.size < wc.heap.size := by have := hB.size; simp at this; omega
    have zb : w.heap.size + 1 < wc.heap.size := by have := hB.size; simp at this; omega
    have hW : Below w.heap.size w wc := bl_t (bl_a (bl_a (Below.refl _ _) _) _) hB
    clear hcut hB
    go_wp2_with fail
    go_region_with (first | (go_at_call 29; with_reducible refine (h1 _).mono ?_; rintro r w' ⟨rfl, rfl⟩) | (go_at_call 29; with_reducible refine (h2 _).mono ?_; rintro r w' ⟨rfl, rfl⟩) | (go_at_call 58; refine (compare_int _ _ _).mono ?_; rintro r w' ⟨rfl, rfl⟩))
    all_goals (try go_wp2)
    all_goals go_ret
    all_goals exact ⟨rfl, bl_t hW (by with_reducible repeat (first | exact Below.refl _ _ | refine bl_d ?_ | refine bl_n ?_ _ | refine bl_a ?_ _))⟩
set_option maxRecDepth 100000 in
set_option maxHeartbeats 1600000 in
theorem sizes_near (n m : Bool) (s t : ByteArray) (e f x : Int) (w : World) (h1 : ∀ w, Calls Tryz.prog 29 #[.agg #[.bool n, .string s, .int .i64 e]] w fun r w' => r = .returned (.int .i64 x) ∧ w' = w.alloc (.cells #[.bool n, .string s, .int .i64 e] 23)) (h2 : ∀ w, Calls Tryz.prog 29 #[.agg #[.bool m, .string t, .int .i64 f]] w fun r w' => r = .returned (.int .i64 x) ∧ w' = w.alloc (.cells #[.bool m, .string t, .int .i64 f] 23)) :
    Calls Tryz.prog 59 #[.agg #[.bool n, .string s, .int .i64 e], .agg #[.bool m, .string t, .int .i64 f]] w fun r w' => r = .returned (.int .i64 (Lib.compareBytes s.data.toList t.data.toList)) ∧ Below w.heap.size w w' := by
  go_enter Tryz.func59, Tryz.ntmps59
  go_wp2_with fail
  go_region_with (first | (go_at_call 29; with_reducible refine (h1 _).mono ?_; rintro r w' ⟨rfl, rfl⟩) | (go_at_call 29; with_reducible refine (h2 _).mono ?_; rintro r w' ⟨rfl, rfl⟩))
  all_goals (try go_wp2_with (go_at_call 81; refine (compare_str _ _ _).mono ?_; rintro r w' ⟨rfl, rfl⟩))
  all_goals go_ret
  all_goals exact ⟨rfl, (by with_reducible repeat (first | exact Below.refl _ _ | refine bl_d ?_ | refine bl_n ?_ _ | refine bl_a ?_ _ | refine bl_s ?_ (by omega) _))⟩
theorem sizes_any (n m : Bool) (s t : ByteArray) (e f : Int) (w : World) (hs : s.size ≤ 65536) (e0 : -1000000 ≤ e) (e1 : e ≤ 1000000) (ht : t.size ≤ 65536) (f0 : -1000000 ≤ f) (f1 : f ≤ 1000000) :
    Calls Tryz.prog 59 #[.agg #[.bool n, .string s, .int .i64 e], .agg #[.bool m, .string t, .int .i64 f]] w fun r w' => r = .returned (.int .i64 (sizes3 ⟨n, s.data.toList, e⟩ ⟨m, t.data.toList, f⟩)) ∧ Below w.heap.size w w' := by
  have h1 := fun w => height_any n s e w hs e0 e1
  have h2 := fun w => height_any m t f w ht f0 f1
  have hX : sizes3 ⟨n, s.data.toList, e⟩ ⟨m, t.data.toList, f⟩ = if (s.size : Int) + e = (t.size : Int) + f then Lib.compareBytes s.data.toList t.data.toList else sg ((s.size : Int) + e) ((t.size : Int) + f) := by
    unfold sizes3 height3
    simp only [len_of]
  rw [hX]
  by_cases hxy : (s.size : Int) + e = (t.size : Int) + f
  · rw [if_pos hxy]
    rw [hxy] at h1
    exact sizes_near n m s t e f _ w h1 h2
  · rw [if_neg hxy]
    have hne : ((s.size : Int) + e == (t.size : Int) + f) = false := beq_eq_false_iff_ne.2 hxy
    exact sizes_far n m s t e f _ _ w h1 h2 (by simp only [bne, hne]; rfl)
end Go.Proofs.YtpeoepcfiejpmabGreatDoor
