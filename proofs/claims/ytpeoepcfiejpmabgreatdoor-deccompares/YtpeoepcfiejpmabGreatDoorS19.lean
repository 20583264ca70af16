/-
  What dec.order and dec.Compare answer: how numbers stand. No condition.
-/
import Derived.Test.YtpeoepcfiejpmabGreatDoorS14b
import Derived.Test.YtpeoepcfiejpmabGreatDoorS15
namespace Go.Proofs.YtpeoepcfiejpmabGreatDoor
open Go.RowKit
attribute [local go_sem] setCell_drewN alloc_drewN

set_option maxHeartbeats 400000 in
theorem order_same (n m : Bool) (s t : ByteArray) (e f : Int) (w : World) (hz : eqD n s e m t f = true) :
    Calls Tryz.prog 35 #[.agg #[.bool n, .string s, .int .i64 e], .agg #[.bool m, .string t, .int .i64 f]] w fun r w' => r = .returned (.int .i64 0) ∧ Below w.heap.size w w' := by
  have hq := eqIn_dec n s e m t f
  rw [hz] at hq
  clear hz
  go_enter Tryz.func35, Tryz.ntmps35
  go_wp2
  go_ret
  exact ⟨rfl, (by with_reducible repeat (first | exact Below.refl _ _ | refine bl_d ?_ | refine bl_n ?_ _ | refine bl_a ?_ _))⟩

set_option maxRecDepth 100000 in
set_option maxHeartbeats 1600000 in
theorem order_signs (n m : Bool) (s t : ByteArray) (e f x y : Int) (w : World) (hz : eqD n s e m t f = false) (h1 : (∀ w, Calls Tryz.prog 38 #[.agg #[.bool n, .string s, .int .i64 e]] w fun r w' => r = .returned (.int .i64 x) ∧ ∃ q, w' = ((w.alloc (.cells #[.bool n, .string s, .int .i64 e] 23)).alloc (.cells #[.bool false, .string ⟨#[]⟩, .int .i64 0] 23)).drewN q)) (h2 : (∀ w, Calls Tryz.prog 38 #[.agg #[.bool m, .string t, .int .i64 f]] w fun r w' => r = .returned (.int .i64 y) ∧ ∃ q, w' = ((w.alloc (.cells #[.bool m, .string t, .int .i64 f] 23)).alloc (.cells #[.bool false, .string ⟨#[]⟩, .int .i64 0] 23)).drewN q)) (hne2 : (x != y) = true) :
    Calls Tryz.prog 35 #[.agg #[.bool n, .string s, .int .i64 e], .agg #[.bool m, .string t, .int .i64 f]] w fun r w' => r = .returned (.int .i64 (sg x y)) ∧ Below w.heap.size w w' := by
  have hq := eqIn_dec n s e m t f
  rw [hz] at hq
  clear hz
  go_enter Tryz.func35, Tryz.ntmps35
  go_upto_region 3 with fail
  go_cut [9] (fun s9 wx => s9 = .bool true ∧ Below ((w.alloc (.cells #[.bool n, .string s, .int .i64 e] 23)).alloc (.cells #[.bool m, .string t, .int .i64 f] 23)).heap.size ((w.alloc (.cells #[.bool n, .string s, .int .i64 e] 23)).alloc (.cells #[.bool m, .string t, .int .i64 f] 23)) wx)
  case first =>
    go_region_with (first | (go_at_call 38; with_reducible refine (h1 _).mono ?_; rintro r w' ⟨rfl, q, rfl⟩) | (go_at_call 38; with_reducible refine (h2 _).mono ?_; rintro r w' ⟨rfl, q, rfl⟩))
    all_goals (try go_wp2_with fail)
    all_goals
      go_meet
      exact ⟨rfl, (by with_reducible repeat (first | exact Below.refl _ _ | refine bl_d ?_ | refine bl_n ?_ _ | refine bl_a ?_ _))⟩
  case rest =>
    obtain rfl := hcut.1
    have hB := hcut.2
    have ka : ∀ o, wc.cell? ⟨w.heap.size, o, none⟩ = #[Value.bool n, .string s, .int .i64 e][o]? := fun o => by rw [hB.cell (p := ⟨w.heap.size, o, none⟩) (by simp <;> omega)]; simp [go_sem]
    have kb : ∀ o, wc.cell? ⟨w.heap.size + 1, o, none⟩ = #[Value.bool m, .string t, .int .i64 f][o]? := fun o => by rw [hB.cell (p := ⟨w.heap.size + 1, o, none⟩) (by simp <;> omega)]; simp [go_sem]
    have za : w.heap.size < wc.heap.size := by have := hB.size; simp at this; omega
    have zb : w.heap.size + 1 < wc.heap.size := by have := hB.size; simp at this; omega
    have hW : Below w.heap.size w wc := bl_t (bl_a (bl_a (Below.refl _ _) _) _) hB
    clear hcut hB
    go_wp2_with fail
    go_region_with (first | (go_at_call 38; with_reducible refine (h1 _).mono ?_; rintro r w' ⟨rfl, q, rfl⟩) | (go_at_call 38; with_reducible refine (h2 _).mono ?_; rintro r w' ⟨rfl, q, rfl⟩) | (go_at_call 58; refine (compare_int _ _ _).mono ?_; rintro r w' ⟨rfl, rfl⟩))
    all_goals (try go_wp2)
    all_goals go_ret
    all_goals exact ⟨rfl, bl_t hW (by with_reducible repeat (first | exact Below.refl _ _ | refine bl_d ?_ | refine bl_n ?_ _ | refine bl_a ?_ _))⟩

set_option maxRecDepth 100000 in
set_option maxHeartbeats 1600000 in
theorem order_below (m : Bool) (s t : ByteArray) (e f x z : Int) (w : World) (hz : eqD true s e m t f = false) (h1 : (∀ w, Calls Tryz.prog 38 #[.agg #[.bool true, .string s, .int .i64 e]] w fun r w' => r = .returned (.int .i64 x) ∧ ∃ q, w' = ((w.alloc (.cells #[.bool true, .string s, .int .i64 e] 23)).alloc (.cells #[.bool false, .string ⟨#[]⟩, .int .i64 0] 23)).drewN q)) (h2 : (∀ w, Calls Tryz.prog 38 #[.agg #[.bool m, .string t, .int .i64 f]] w fun r w' => r = .returned (.int .i64 x) ∧ ∃ q, w' = ((w.alloc (.cells #[.bool m, .string t, .int .i64 f] 23)).alloc (.cells #[.bool false, .string ⟨#[]⟩, .int .i64 0] 23)).drewN q)) (h3 : ∀ w, Calls Tryz.prog 59 #[.agg #[.bool m, .string t, .int .i64 f], .agg #[.bool true, .string s, .int .i64 e]] w fun r w' => r = .returned (.int .i64 z) ∧ Below w.heap.size w w') :
    Calls Tryz.prog 35 #[.agg #[.bool true, .string s, .int .i64 e], .agg #[.bool m, .string t, .int .i64 f]] w fun r w' => r = .returned (.int .i64 z) ∧ Below w.heap.size w w' := by
  have hq := eqIn_dec true s e m t f
  rw [hz] at hq
  clear hz
  go_enter Tryz.func35, Tryz.ntmps35
  go_upto_region 3 with fail
  go_cut [9] (fun s9 wx => s9 = .bool false ∧ Below ((w.alloc (.cells #[.bool true, .string s, .int .i64 e] 23)).alloc (.cells #[.bool m, .string t, .int .i64 f] 23)).heap.size ((w.alloc (.cells #[.bool true, .string s, .int .i64 e] 23)).alloc (.cells #[.bool m, .string t, .int .i64 f] 23)) wx)
  case first =>
    go_region_with (first | (go_at_call 38; with_reducible refine (h1 _).mono ?_; rintro r w' ⟨rfl, q, rfl⟩) | (go_at_call 38; with_reducible refine (h2 _).mono ?_; rintro r w' ⟨rfl, q, rfl⟩))
    all_goals (try go_wp2_with fail)
    all_goals
      go_meet
      exact ⟨rfl, (by with_reducible repeat (first | exact Below.refl _ _ | refine bl_d ?_ | refine bl_n ?_ _ | refine bl_a ?_ _))⟩
  case rest =>
    obtain rfl := hcut.1
    have hB := hcut.2
    have ka : ∀ o, wc.cell? ⟨w.heap.size, o, none⟩ = #[Value.bool true, .string s, .int .i64 e][o]? := fun o => by rw [hB.cell (p := ⟨w.heap.size, o, none⟩) (by simp <;> omega)]; simp [go_sem]
    have kb : ∀ o, wc.cell? ⟨w.heap.size + 1, o, none⟩ = #[Value.bool m, .string t, .int .i64 f][o]? := fun o => by rw [hB.cell (p := ⟨w.heap.size + 1, o, none⟩) (by simp <;> omega)]; simp [go_sem]
    have za : w.heap.size < wc.heap.size := by have := hB.size; simp at this; omega
    have zb : w.heap.size + 1 < wc.heap.size := by have := hB.size; simp at this; omega
    have hW : Below w.heap.size w wc := bl_t (bl_a (bl_a (Below.refl _ _) _) _) hB
    clear hcut hB
    go_wp2_with (go_at_call 59; refine (h3 _).mono ?_; rintro r w2 ⟨rfl, hb2⟩)
    go_ret
    exact ⟨rfl, bl_t hW hb2⟩

set_option maxRecDepth 100000 in
set_option maxHeartbeats 1600000 in
theorem order_above (m : Bool) (s t : ByteArray) (e f x z : Int) (w : World) (hz : eqD false s e m t f = false) (h1 : (∀ w, Calls Tryz.prog 38 #[.agg #[.bool false, .string s, .int .i64 e]] w fun r w' => r = .returned (.int .i64 x) ∧ ∃ q, w' = ((w.alloc (.cells #[.bool false, .string s, .int .i64 e] 23)).alloc (.cells #[.bool false, .string ⟨#[]⟩, .int .i64 0] 23)).drewN q)) (h2 : (∀ w, Calls Tryz.prog 38 #[.agg #[.bool m, .string t, .int .i64 f]] w fun r w' => r = .returned (.int .i64 x) ∧ ∃ q, w' = ((w.alloc (.cells #[.bool m, .string t, .int .i64 f] 23)).alloc (.cells #[.bool false, .string ⟨#[]⟩, .int .i64 0] 23)).drewN q)) (h3 : ∀ w, Calls Tryz.prog 59 #[.agg #[.bool false, .string s, .int .i64 e], .agg #[.bool m, .string t, .int .i64 f]] w fun r w' => r = .returned (.int .i64 z) ∧ Below w.heap.size w w') :
    Calls Tryz.prog 35 #[.agg #[.bool false, .string s, .int .i64 e], .agg #[.bool m, .string t, .int .i64 f]] w fun r w' => r = .returned (.int .i64 z) ∧ Below w.heap.size w w' := by
  have hq := eqIn_dec false s e m t f
  rw [hz] at hq
  clear hz
  go_enter Tryz.func35, Tryz.ntmps35
  go_upto_region 3 with fail
  go_cut [9] (fun s9 wx => s9 = .bool false ∧ Below ((w.alloc (.cells #[.bool false, .string s, .int .i64 e] 23)).alloc (.cells #[.bool m, .string t, .int .i64 f] 23)).heap.size ((w.alloc (.cells #[.bool false, .string s, .int .i64 e] 23)).alloc (.cells #[.bool m, .string t, .int .i64 f] 23)) wx)
  case first =>
    go_region_with (first | (go_at_call 38; with_reducible refine (h1 _).mono ?_; rintro r w' ⟨rfl, q, rfl⟩) | (go_at_call 38; with_reducible refine (h2 _).mono ?_; rintro r w' ⟨rfl, q, rfl⟩))
    all_goals (try go_wp2_with fail)
    all_goals
      go_meet
      exact ⟨rfl, (by with_reducible repeat (first | exact Below.refl _ _ | refine bl_d ?_ | refine bl_n ?_ _ | refine bl_a ?_ _))⟩
  case rest =>
    obtain rfl := hcut.1
    have hB := hcut.2
    have ka : ∀ o, wc.cell? ⟨w.heap.size, o, none⟩ = #[Value.bool false, .string s, .int .i64 e][o]? := fun o => by rw [hB.cell (p := ⟨w.heap.size, o, none⟩) (by simp <;> omega)]; simp [go_sem]
    have kb : ∀ o, wc.cell? ⟨w.heap.size + 1, o, none⟩ = #[Value.bool m, .string t, .int .i64 f][o]? := fun o => by rw [hB.cell (p := ⟨w.heap.size + 1, o, none⟩) (by simp <;> omega)]; simp [go_sem]
    have za : w.heap.size < wc.heap.size := by have := hB.size; simp at this; omega
    have zb : w.heap.size + 1 < wc.heap.size := by have := hB.size; simp at this; omega
    have hW : Below w.heap.size w wc := bl_t (bl_a (bl_a (Below.refl _ _) _) _) hB
    clear hcut hB
    go_wp2_with (go_at_call 59; refine (h3 _).mono ?_; rintro r w2 ⟨rfl, hb2⟩)
    go_ret
    exact ⟨rfl, bl_t hW hb2⟩

end Go.Proofs.YtpeoepcfiejpmabGreatDoor
