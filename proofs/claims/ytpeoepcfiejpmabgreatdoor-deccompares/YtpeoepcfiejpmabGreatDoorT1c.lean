/-
  What ref3.Compare answers. No condition.
-/
import Derived.Test.YtpeoepcfiejpmabGreatDoorT1b
namespace Go.Proofs.YtpeoepcfiejpmabGreatDoor
open Go.RowKit
attribute [local go_sem] setCell_drewN alloc_drewN

theorem keep2 {w w' : World} {c1 c2 : Array Value} {t : TypeId} (h : Below ((w.alloc (.cells c1 t)).alloc (.cells c2 t)).heap.size ((w.alloc (.cells c1 t)).alloc (.cells c2 t)) w') :
    (∀ o, w'.cell? ⟨w.heap.size, o, none⟩ = c1[o]?) ∧ (∀ o, w'.cell? ⟨w.heap.size + 1, o, none⟩ = c2[o]?) ∧ w.heap.size < w'.heap.size ∧ w.heap.size + 1 < w'.heap.size := by
  have z := h.size
  simp only [World.size_alloc] at z
  refine ⟨fun o => ?_, fun o => ?_, by omega, by omega⟩
  · rw [h.cell (p := ⟨w.heap.size, o, none⟩) (by simp only [World.size_alloc]; omega)]
    simp [go_sem]
  · rw [h.cell (p := ⟨w.heap.size + 1, o, none⟩) (by simp only [World.size_alloc]; omega)]
    simp [go_sem]

set_option maxHeartbeats 800000 in
theorem rcmp_bad1 (n m : Bool) (s t : ByteArray) (e f : Int) (w : World) (h1 : ∀ w, Calls Tryz.prog 14 #[.agg #[.bool n, .string s, .int .i64 e]] w fun r w' => r = .returned (.int .i64 2) ∧ Below w.heap.size w w') :
    Calls Tryz.prog 19 #[.agg #[.bool n, .string s, .int .i64 e], .agg #[.bool m, .string t, .int .i64 f]] w fun r w' => r = .returned (.tuple #[.int .i64 0, .int .i64 2]) ∧ Below w.heap.size w w' := by
  go_enter Tryz.func19, Tryz.ntmps19
  go_wp2_with (go_at_call 14; refine (h1 _).mono ?_; rintro r w1 ⟨rfl, hb1⟩)
  go_ret2
  exact ⟨rfl, bl_t (by with_reducible repeat (first | exact Below.refl _ _ | refine bl_d ?_ | refine bl_n ?_ _ | refine bl_a ?_ _)) hb1⟩

set_option maxHeartbeats 800000 in
theorem rcmp_bad2 (n m : Bool) (s t : ByteArray) (e f : Int) (w : World) (h1 : ∀ w, Calls Tryz.prog 14 #[.agg #[.bool n, .string s, .int .i64 e]] w fun r w' => r = .returned (.int .i64 0) ∧ Below w.heap.size w w') (h2 : ∀ w, Calls Tryz.prog 14 #[.agg #[.bool m, .string t, .int .i64 f]] w fun r w' => r = .returned (.int .i64 2) ∧ Below w.heap.size w w') :
    Calls Tryz.prog 19 #[.agg #[.bool n, .string s, .int .i64 e], .agg #[.bool m, .string t, .int .i64 f]] w fun r w' => r = .returned (.tuple #[.int .i64 0, .int .i64 2]) ∧ Below w.heap.size w w' := by
  go_enter Tryz.func19, Tryz.ntmps19
  go_wp2_with fail
  refine (h1 _).mono ?_
  rintro r w1 ⟨rfl, hb1⟩
  obtain ⟨ka1, kb1, za1, zb1⟩ := keep2 hb1
  go_wp2_with fail
  refine (h2 _).mono ?_
  rintro r w2 ⟨rfl, hb2⟩
  go_wp2
  go_ret2
  exact ⟨rfl, bl_t (bl_t (by with_reducible repeat (first | exact Below.refl _ _ | refine bl_d ?_ | refine bl_n ?_ _ | refine bl_a ?_ _)) hb1) hb2⟩

set_option maxRecDepth 100000 in
set_option maxHeartbeats 1600000 in
theorem rcmp_lt (n m : Bool) (s t : ByteArray) (e f x y : Int) (w : World) (h1 : ∀ w, Calls Tryz.prog 14 #[.agg #[.bool n, .string s, .int .i64 e]] w fun r w' => r = .returned (.int .i64 0) ∧ Below w.heap.size w w') (h2 : ∀ w, Calls Tryz.prog 14 #[.agg #[.bool m, .string t, .int .i64 f]] w fun r w' => r = .returned (.int .i64 0) ∧ Below w.heap.size w w')
    (g1 : ∀ w, Calls Tryz.prog 36 #[.agg #[.bool n, .string s, .int .i64 e]] w fun r w' => r = .returned (.int .i64 x) ∧ w' = w.alloc (.cells #[.bool n, .string s, .int .i64 e] 23)) (g2 : ∀ w, Calls Tryz.prog 36 #[.agg #[.bool m, .string t, .int .i64 f]] w fun r w' => r = .returned (.int .i64 y) ∧ w' = w.alloc (.cells #[.bool m, .string t, .int .i64 f] 23))
    (hl : x < y) :
    Calls Tryz.prog 19 #[.agg #[.bool n, .string s, .int .i64 e], .agg #[.bool m, .string t, .int .i64 f]] w fun r w' => r = .returned (.tuple #[.int .i64 (-1), .int .i64 0]) ∧ Below w.heap.size w w' := by
  go_enter Tryz.func19, Tryz.ntmps19
  go_wp2_with fail
  refine (h1 _).mono ?_
  rintro r w1 ⟨rfl, hb1⟩
  obtain ⟨ka1, kb1, za1, zb1⟩ := keep2 hb1
  go_wp2_with fail
  refine (h2 _).mono ?_
  rintro r w2 ⟨rfl, hb2⟩
  have hA2 := bl_t hb1 hb2
  obtain ⟨ka2, kb2, za2, zb2⟩ := keep2 hA2
  clear ka1 kb1 za1 zb1
  go_upto_region 3 with fail
  go_cut [6, 7] (fun s6 s7 wx => s6 = .int .i64 x ∧ s7 = .int .i64 y ∧ Below w2.heap.size w2 wx)
  case first =>
    go_region_with (first | (go_at_call 36; with_reducible refine (g1 _).mono ?_; rintro r w' ⟨rfl, rfl⟩) | (go_at_call 36; with_reducible refine (g2 _).mono ?_; rintro r w' ⟨rfl, rfl⟩))
    all_goals (try go_wp2_with fail)
    all_goals
      go_meet
      exact ⟨rfl, rfl, (by with_reducible repeat (first | exact Below.refl _ _ | refine bl_d ?_ | refine bl_n ?_ _ | refine bl_a ?_ _))⟩
  case rest =>
    obtain ⟨rfl, rfl, hB⟩ := hcut
    have hA3 := bl_t hA2 hB
    obtain ⟨ka3, kb3, za3, zb3⟩ := keep2 hA3
    clear ka2 kb2 za2 zb2
    go_wp2
    go_ret2
    exact ⟨rfl, bl_t (bl_a (bl_a (Below.refl _ _) _) _) hA3⟩

set_option maxRecDepth 100000 in
set_option maxHeartbeats 1600000 in
theorem rcmp_gt (n m : Bool) (s t : ByteArray) (e f x y : Int) (w : World) (h1 : ∀ w, Calls Tryz.prog 14 #[.agg #[.bool n, .string s, .int .i64 e]] w fun r w' => r = .returned (.int .i64 0) ∧ Below w.heap.size w w') (h2 : ∀ w, Calls Tryz.prog 14 #[.agg #[.bool m, .string t, .int .i64 f]] w fun r w' => r = .returned (.int .i64 0) ∧ Below w.heap.size w w')
    (g1 : ∀ w, Calls Tryz.prog 36 #[.agg #[.bool n, .string s, .int .i64 e]] w fun r w' => r = .returned (.int .i64 x) ∧ w' = w.alloc (.cells #[.bool n, .string s, .int .i64 e] 23)) (g2 : ∀ w, Calls Tryz.prog 36 #[.agg #[.bool m, .string t, .int .i64 f]] w fun r w' => r = .returned (.int .i64 y) ∧ w' = w.alloc (.cells #[.bool m, .string t, .int .i64 f] 23))
    (hg : y < x) :
    Calls Tryz.prog 19 #[.agg #[.bool n, .string s, .int .i64 e], .agg #[.bool m, .string t, .int .i64 f]] w fun r w' => r = .returned (.tuple #[.int .i64 1, .int .i64 0]) ∧ Below w.heap.size w w' := by
  go_enter Tryz.func19, Tryz.ntmps19
  go_wp2_with fail
  refine (h1 _).mono ?_
  rintro r w1 ⟨rfl, hb1⟩
  obtain ⟨ka1, kb1, za1, zb1⟩ := keep2 hb1
  go_wp2_with fail
  refine (h2 _).mono ?_
  rintro r w2 ⟨rfl, hb2⟩
  have hA2 := bl_t hb1 hb2
  obtain ⟨ka2, kb2, za2, zb2⟩ := keep2 hA2
  clear ka1 kb1 za1 zb1
  go_upto_region 3 with fail
  go_cut [6, 7] (fun s6 s7 wx => s6 = .int .i64 x ∧ s7 = .int .i64 y ∧ Below w2.heap.size w2 wx)
  case first =>
    go_region_with (first | (go_at_call 36; with_reducible refine (g1 _).mono ?_; rintro r w' ⟨rfl, rfl⟩) | (go_at_call 36; with_reducible refine (g2 _).mono ?_; rintro r w' ⟨rfl, rfl⟩))
    all_goals (try go_wp2_with fail)
    all_goals
      go_meet
      exact ⟨rfl, rfl, (by with_reducible repeat (first | exact Below.refl _ _ | refine bl_d ?_ | refine bl_n ?_ _ | refine bl_a ?_ _))⟩
  case rest =>
    obtain ⟨rfl, rfl, hB⟩ := hcut
    have hA3 := bl_t hA2 hB
    obtain ⟨ka3, kb3, za3, zb3⟩ := keep2 hA3
    clear ka2 kb2 za2 zb2
    go_wp2
    go_ret2
    exact ⟨rfl, bl_t (bl_a (bl_a (Below.refl _ _) _) _) hA3⟩

set_option maxRecDepth 100000 in
set_option maxHeartbeats 1600000 in
theorem rcmp_zero (n m : Bool) (s t : ByteArray) (e f x y : Int) (w : World) (h1 : ∀ w, Calls Tryz.prog 14 #[.agg #[.bool n, .string s, .int .i64 e]] w fun r w' => r = .returned (.int .i64 0) ∧ Below w.heap.size w w') (h2 : ∀ w, Calls Tryz.prog 14 #[.agg #[.bool m, .string t, .int .i64 f]] w fun r w' => r = .returned (.int .i64 0) ∧ Below w.heap.size w w')
    (g1 : ∀ w, Calls Tryz.prog 36 #[.agg #[.bool n, .string s, .int .i64 e]] w fun r w' => r = .returned (.int .i64 x) ∧ w' = w.alloc (.cells #[.bool n, .string s, .int .i64 e] 23)) (g2 : ∀ w, Calls Tryz.prog 36 #[.agg #[.bool m, .string t, .int .i64 f]] w fun r w' => r = .returned (.int .i64 y) ∧ w' = w.alloc (.cells #[.bool m, .string t, .int .i64 f] 23))
    (hl : ¬ x < y) (hg : ¬ y < x) (hz : (x == 0) = true) :
    Calls Tryz.prog 19 #[.agg #[.bool n, .string s, .int .i64 e], .agg #[.bool m, .string t, .int .i64 f]] w fun r w' => r = .returned (.tuple #[.int .i64 0, .int .i64 0]) ∧ Below w.heap.size w w' := by
  go_enter Tryz.func19, Tryz.ntmps19
  go_wp2_with fail
  refine (h1 _).mono ?_
  rintro r w1 ⟨rfl, hb1⟩
  obtain ⟨ka1, kb1, za1, zb1⟩ := keep2 hb1
  go_wp2_with fail
  refine (h2 _).mono ?_
  rintro r w2 ⟨rfl, hb2⟩
  have hA2 := bl_t hb1 hb2
  obtain ⟨ka2, kb2, za2, zb2⟩ := keep2 hA2
  clear ka1 kb1 za1 zb1
  go_upto_region 3 with fail
  go_cut [6, 7] (fun s6 s7 wx => s6 = .int .i64 x ∧ s7 = .int .i64 y ∧ Below w2.heap.size w2 wx)
  case first =>
    go_region_with (first | (go_at_call 36; with_reducible refine (g1 _).mono ?_; rintro r w' ⟨rfl, rfl⟩) | (go_at_call 36; with_reducible refine (g2 _).mono ?_; rintro r w' ⟨rfl, rfl⟩))
    all_goals (try go_wp2_with fail)
    all_goals
      go_meet
      exact ⟨rfl, rfl, (by with_reducible repeat (first | exact Below.refl _ _ | refine bl_d ?_ | refine bl_n ?_ _ | refine bl_a ?_ _))⟩
  case rest =>
    obtain ⟨rfl, rfl, hB⟩ := hcut
    have hA3 := bl_t hA2 hB
    obtain ⟨ka3, kb3, za3, zb3⟩ := keep2 hA3
    clear ka2 kb2 za2 zb2
    go_wp2
    go_ret2
    exact ⟨rfl, bl_t (bl_a (bl_a (Below.refl _ _) _) _) hA3⟩

set_option maxRecDepth 100000 in
set_option maxHeartbeats 1600000 in
theorem rcmp_size (n m : Bool) (s t : ByteArray) (e f x y z : Int) (w : World) (h1 : ∀ w, Calls Tryz.prog 14 #[.agg #[.bool n, .string s, .int .i64 e]] w fun r w' => r = .returned (.int .i64 0) ∧ Below w.heap.size w w') (h2 : ∀ w, Calls Tryz.prog 14 #[.agg #[.bool m, .string t, .int .i64 f]] w fun r w' => r = .returned (.int .i64 0) ∧ Below w.heap.size w w')
    (g1 : ∀ w, Calls Tryz.prog 36 #[.agg #[.bool n, .string s, .int .i64 e]] w fun r w' => r = .returned (.int .i64 x) ∧ w' = w.alloc (.cells #[.bool n, .string s, .int .i64 e] 23)) (g2 : ∀ w, Calls Tryz.prog 36 #[.agg #[.bool m, .string t, .int .i64 f]] w fun r w' => r = .returned (.int .i64 y) ∧ w' = w.alloc (.cells #[.bool m, .string t, .int .i64 f] 23))
    (h3 : ∀ w, Calls Tryz.prog 37 #[.agg #[.bool n, .string s, .int .i64 e], .agg #[.bool m, .string t, .int .i64 f]] w fun r w' => r = .returned (.int .i64 z) ∧ Below w.heap.size w w') (hl : ¬ x < y) (hg : ¬ y < x) (hz : (x == 0) = false) (p0 : -1 ≤ x * z) (p1 : x * z ≤ 1) :
    Calls Tryz.prog 19 #[.agg #[.bool n, .string s, .int .i64 e], .agg #[.bool m, .string t, .int .i64 f]] w fun r w' => r = .returned (.tuple #[.int .i64 (x * z), .int .i64 0]) ∧ Below w.heap.size w w' := by
  go_enter Tryz.func19, Tryz.ntmps19
  go_wp2_with fail
  refine (h1 _).mono ?_
  rintro r w1 ⟨rfl, hb1⟩
  obtain ⟨ka1, kb1, za1, zb1⟩ := keep2 hb1
  go_wp2_with fail
  refine (h2 _).mono ?_
  rintro r w2 ⟨rfl, hb2⟩
  have hA2 := bl_t hb1 hb2
  obtain ⟨ka2, kb2, za2, zb2⟩ := keep2 hA2
  clear ka1 kb1 za1 zb1
  go_upto_region 3 with fail
  go_cut [6, 7] (fun s6 s7 wx => s6 = .int .i64 x ∧ s7 = .int .i64 y ∧ Below w2.heap.size w2 wx)
  case first =>
    go_region_with (first | (go_at_call 36; with_reducible refine (g1 _).mono ?_; rintro r w' ⟨rfl, rfl⟩) | (go_at_call 36; with_reducible refine (g2 _).mono ?_; rintro r w' ⟨rfl, rfl⟩))
    all_goals (try go_wp2_with fail)
    all_goals
      go_meet
      exact ⟨rfl, rfl, (by with_reducible repeat (first | exact Below.refl _ _ | refine bl_d ?_ | refine bl_n ?_ _ | refine bl_a ?_ _))⟩
  case rest =>
    obtain ⟨rfl, rfl, hB⟩ := hcut
    have hA3 := bl_t hA2 hB
    obtain ⟨ka3, kb3, za3, zb3⟩ := keep2 hA3
    clear ka2 kb2 za2 zb2
    go_wp2_with (go_at_call 37; refine (h3 _).mono ?_; rintro r w4 ⟨rfl, hb4⟩)
    go_ret2
    exact ⟨rfl, bl_t (bl_a (bl_a (Below.refl _ _) _) _) (bl_t hA3 hb4)⟩

end Go.Proofs.YtpeoepcfiejpmabGreatDoor
