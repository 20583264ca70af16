/-
  What dec.sign and dec.height answer. Conditions: bounds that numbers which may be keep.
  What dec.orderOfSizes answers. Conditions: bounds that numbers which may be keep.
  What dec.checked, dec.order and dec.Compare answer. No condition.
  What dec.order and dec.Compare answer: how numbers stand. No condition.
  What dec.order and dec.Compare answer: how numbers stand, by their values. No condition.
-/
import Derived.Test.YtjdboekanmfgpaaGreatDoorJoined22
import Derived.Deep.DeepCutAuto
namespace Go.Proofs.YtjdboekanmfgpaaGreatDoor
open Go.RowKit
attribute [local go_sem] setCell_drewN alloc_drewN

theorem height_any (n : Bool) (s : ByteArray) (e : Int) (w : World) (hs : s.size ≤ 65536) (e0 : -1000000 ≤ e) (e1 : e ≤ 1000000) :
  Calls Tryz.prog 124 #[.agg #[.bool n, .string s, .int .i64 e]] w fun r w' => r = .returned (.int .i64 ((s.size : Int) + e)) ∧ w' = w.alloc (.cells #[.bool n, .string s, .int .i64 e] 24) := by
 have hs' : (s.size : Int) ≤ 65536 := by omega
 go_enter Tryz.func124, Tryz.ntmps124
 go_wp2
 go_ret
 exact ⟨rfl, rfl⟩
def sgnD (n : Bool) (s : ByteArray) : Int := if s.size = 0 then 0 else if n = true then -1 else 1

set_option maxHeartbeats 400000 in
theorem sign_exp (n : Bool) (s : ByteArray) (e : Int) (w : World) (hg : goodB n s e = true) :
  Calls Tryz.prog 101 #[.agg #[.bool n, .string s, .int .i64 e]] w fun r w' => r = .returned (.int .i64 (sgnD n s)) ∧ ∃ q, w' = ((w.alloc (.cells #[.bool n, .string s, .int .i64 e] 24)).alloc (.cells #[.bool false, .string ⟨#[]⟩, .int .i64 0] 24)).drewN q := by
 have hq := eqIn_dec n s e false ⟨#[]⟩ 0
 cases hz : eqD n s e false ⟨#[]⟩ 0
 ·rw [hz] at hq
  have h0 : s.size ≠ 0 := by
   intro h0
   have hg := of_decide_eq_true hg
   rcases hg with ⟨_, g2, g3⟩ | g
   ·exact absurd ⟨g2, size_zero h0, g3⟩ (of_decide_eq_false hz)
   ·exact g.1.1 ((nil_size s).2 h0)
  have HS : Hid (sgnD n s = if n = true then -1 else 1) := if_neg h0
  clear hz hg
  cases n
  ·go_enter Tryz.func101, Tryz.ntmps101
   go_wp2_with fail
   go_region_with (go_at_call 118; refine (nought_any _).mono ?_; rintro r w' ⟨rfl, rfl⟩)
   all_goals (try go_wp2)
   all_goals go_ret
   all_goals exact ⟨r3_int HS.out.symm, by first | exact ⟨1, rfl⟩ | exact ⟨2, rfl⟩ | exact ⟨3, rfl⟩ | exact ⟨0, rfl⟩⟩
  ·go_enter Tryz.func101, Tryz.ntmps101
   go_wp2_with fail
   go_region_with (go_at_call 118; refine (nought_any _).mono ?_; rintro r w' ⟨rfl, rfl⟩)
   all_goals (try go_wp2)
   all_goals go_ret
   all_goals exact ⟨r3_int HS.out.symm, by first | exact ⟨1, rfl⟩ | exact ⟨2, rfl⟩ | exact ⟨3, rfl⟩ | exact ⟨0, rfl⟩⟩
 ·rw [hz] at hq
  have HS : Hid (sgnD n s = 0) := by
   obtain ⟨rfl, rfl, rfl⟩ := of_decide_eq_true hz
   rfl
  clear hz hg
  go_enter Tryz.func101, Tryz.ntmps101
  go_wp2_with fail
  go_region_with (go_at_call 118; refine (nought_any _).mono ?_; rintro r w' ⟨rfl, rfl⟩)
  all_goals (try go_wp2)
  all_goals go_ret
  all_goals exact ⟨r3_int HS.out.symm, by first | exact ⟨1, rfl⟩ | exact ⟨2, rfl⟩ | exact ⟨3, rfl⟩ | exact ⟨0, rfl⟩⟩
theorem sign_dec (n : Bool) (s : ByteArray) (e : Int) (w : World) (hg : goodB n s e = true) :
  Calls Tryz.prog 101 #[.agg #[.bool n, .string s, .int .i64 e]] w fun r w' => r = .returned (.int .i64 (sgnD n s)) ∧ Below w.heap.size w w' := by
 refine (sign_exp n s e w hg).mono ?_
 rintro r w' ⟨rfl, q, rfl⟩
 exact ⟨rfl, bl_n (bl_a (bl_a (Below.refl _ _) _) _) q⟩

theorem compare_str (a b : ByteArray) (w : World) : Calls Tryz.prog 72 #[.string a, .string b] w fun e w' => e = .returned (.int .i64 (Lib.compareBytes a.data.toList b.data.toList)) ∧ w = w' := by
 refine (Tryz.strings_Compare a b w).mono ?_
 rintro e w' ⟨rfl, rfl⟩
 exact ⟨rfl, rfl⟩

theorem compare_int (x y : Int) (w : World) : Calls Tryz.prog 73 #[.int .i64 x, .int .i64 y] w fun e w' => e = .returned (.int .i64 (sg x y)) ∧ w = w' := by
 refine (Tryz.cmp_Compare_int x y w).mono ?_
 rintro e w' ⟨rfl, rfl⟩
 refine ⟨r3_int ?_, rfl⟩
 unfold Lib.compareInt sg
 rfl

end Go.Proofs.YtjdboekanmfgpaaGreatDoor

namespace Go.Proofs.YtjdboekanmfgpaaGreatDoor
open Go.RowKit
attribute [local go_sem] setCell_drewN alloc_drewN

set_option maxRecDepth 100000 in
set_option maxHeartbeats 1600000 in
theorem sizes_far (n m : Bool) (s t : ByteArray) (e f x y : Int) (w : World) (h1 : ∀ w, Calls Tryz.prog 124 #[.agg #[.bool n, .string s, .int .i64 e]] w fun r w' => r = .returned (.int .i64 x) ∧ w' = w.alloc (.cells #[.bool n, .string s, .int .i64 e] 24)) (h2 : ∀ w, Calls Tryz.prog 124 #[.agg #[.bool m, .string t, .int .i64 f]] w fun r w' => r = .returned (.int .i64 y) ∧ w' = w.alloc (.cells #[.bool m, .string t, .int .i64 f] 24)) (hne2 : (x != y) = true) :
  Calls Tryz.prog 102 #[.agg #[.bool n, .string s, .int .i64 e], .agg #[.bool m, .string t, .int .i64 f]] w fun r w' => r = .returned (.int .i64 (sg x y)) ∧ Below w.heap.size w w' := by
 go_enter Tryz.func102, Tryz.ntmps102
 go_upto_region 1 with fail
 go_cut [9] (fun s9 wx => s9 = .bool true ∧ Below ((w.alloc (.cells #[.bool n, .string s, .int .i64 e] 24)).alloc (.cells #[.bool m, .string t, .int .i64 f] 24)).heap.size ((w.alloc (.cells #[.bool n, .string s, .int .i64 e] 24)).alloc (.cells #[.bool m, .string t, .int .i64 f] 24)) wx)
 case first =>
  go_region_with (first | (go_at_call 124; with_reducible refine (h1 _).mono ?_; rintro r w' ⟨rfl, rfl⟩) | (go_at_call 124; with_reducible refine (h2 _).mono ?_; rintro r w' ⟨rfl, rfl⟩))
  all_goals (try go_wp2_with fail)
  all_goals
   go_meet
   exact ⟨rfl, (by with_reducible repeat (first | exact Below.refl _ _ | refine bl_d ?_ | refine bl_n ?_ _ | refine bl_a ?_ _))⟩
 case rest =>
  obtain rfl := hcut.1
  have hB := hcut.2
  have ka : ∀ o, wc.cell? ⟨w.heap.size, o, none⟩ = #[Value.bool n, .string s, .int .i64 e][o]? := fun o => by rw [hB.cell (p := ⟨w.heap.size, o, none⟩) (by simp <;> omega)]; simp [go_sem]
  have kb : ∀ o, wc.cell? ⟨w.heap.size + 1, o, none⟩ = #[Value.bool m, .string t, .int .i64 f][o]? := fun o => by rw [hB.cell (p := ⟨w.heap.size + 1, o, none⟩) (by simp <;> omega)]; simp [go_sem]
  have za : w.heap.size < wc.heap.size := by have := hB.size; simp at this; omega
  have zb : w.heap.size + 1 < wc.heap.size := by have := hB.size; simp at this; omega
  have hW : Below w.heap.size w wc := bl_t (bl_a (bl_a (Below.refl _ _) _) _) hB
  clear hcut hB
  go_wp2_with fail
  go_region_with (first | (go_at_call 124; with_reducible refine (h1 _).mono ?_; rintro r w' ⟨rfl, rfl⟩) | (go_at_call 124; with_reducible refine (h2 _).mono ?_; rintro r w' ⟨rfl, rfl⟩) | (go_at_call 73; refine (compare_int _ _ _).mono ?_; rintro r w' ⟨rfl, rfl⟩))
  all_goals (try go_wp2)
  all_goals go_ret
  all_goals exact ⟨rfl, bl_t hW (by with_reducible repeat (first | exact Below.refl _ _ | refine bl_d ?_ | refine bl_n ?_ _ | refine bl_a ?_ _))⟩
set_option maxRecDepth 100000 in
set_option maxHeartbeats 1600000 in
theorem sizes_near (n m : Bool) (s t : ByteArray) (e f x : Int) (w : World) (h1 : ∀ w, Calls Tryz.prog 124 #[.agg #[.bool n, .string s, .int .i64 e]] w fun r w' => r = .returned (.int .i64 x) ∧ w' = w.alloc (.cells #[.bool n, .string s, .int .i64 e] 24)) (h2 : ∀ w, Calls Tryz.prog 124 #[.agg #[.bool m, .string t, .int .i64 f]] w fun r w' => r = .returned (.int .i64 x) ∧ w' = w.alloc (.cells #[.bool m, .string t, .int .i64 f] 24)) :
  Calls Tryz.prog 102 #[.agg #[.bool n, .string s, .int .i64 e], .agg #[.bool m, .string t, .int .i64 f]] w fun r w' => r = .returned (.int .i64 (Lib.compareBytes s.data.toList t.data.toList)) ∧ Below w.heap.size w w' := by
 go_enter Tryz.func102, Tryz.ntmps102
 go_wp2_with fail
 go_region_with (first | (go_at_call 124; with_reducible refine (h1 _).mono ?_; rintro r w' ⟨rfl, rfl⟩) | (go_at_call 124; with_reducible refine (h2 _).mono ?_; rintro r w' ⟨rfl, rfl⟩))
 all_goals (try go_wp2_with (go_at_call 72; refine (compare_str _ _ _).mono ?_; rintro r w' ⟨rfl, rfl⟩))
 all_goals go_ret
 all_goals exact ⟨rfl, (by with_reducible repeat (first | exact Below.refl _ _ | refine bl_d ?_ | refine bl_n ?_ _ | refine bl_a ?_ _ | refine bl_s ?_ (by omega) _))⟩
theorem sizes_any (n m : Bool) (s t : ByteArray) (e f : Int) (w : World) (hs : s.size ≤ 65536) (e0 : -1000000 ≤ e) (e1 : e ≤ 1000000) (ht : t.size ≤ 65536) (f0 : -1000000 ≤ f) (f1 : f ≤ 1000000) :
  Calls Tryz.prog 102 #[.agg #[.bool n, .string s, .int .i64 e], .agg #[.bool m, .string t, .int .i64 f]] w fun r w' => r = .returned (.int .i64 (sizes3 ⟨n, s.data.toList, e⟩ ⟨m, t.data.toList, f⟩)) ∧ Below w.heap.size w w' := by
 have h1 := fun w => height_any n s e w hs e0 e1
 have h2 := fun w => height_any m t f w ht f0 f1
 have hX : sizes3 ⟨n, s.data.toList, e⟩ ⟨m, t.data.toList, f⟩ = if (s.size : Int) + e = (t.size : Int) + f then Lib.compareBytes s.data.toList t.data.toList else sg ((s.size : Int) + e) ((t.size : Int) + f) := by
  unfold sizes3 height3
  simp only [len_of]
 rw [hX]
 by_cases hxy : (s.size : Int) + e = (t.size : Int) + f
 ·rw [if_pos hxy]
  rw [hxy] at h1
  exact sizes_near n m s t e f _ w h1 h2
 ·rw [if_neg hxy]
  have hne : ((s.size : Int) + e == (t.size : Int) + f) = false := beq_eq_false_iff_ne.2 hxy
  exact sizes_far n m s t e f _ _ w h1 h2 (by simp only [bne, hne]; rfl)
end Go.Proofs.YtjdboekanmfgpaaGreatDoor

namespace Go.Proofs.YtjdboekanmfgpaaGreatDoor
open Go.RowKit
attribute [local go_sem] setCell_drewN alloc_drewN

set_option maxRecDepth 100000 in
set_option maxHeartbeats 1600000 in
theorem checked_two (n m : Bool) (s t : ByteArray) (e f : Int) (b : Nat) (w : World) (hs : s.size ≤ maxLen) (ht : t.size ≤ maxLen) (hbl : b < w.heap.size)
  (c0 : w.cell? ⟨b, 0, none⟩ = some (.bool n)) (c1 : w.cell? ⟨b, 1, none⟩ = some (.string s)) (c2 : w.cell? ⟨b, 2, none⟩ = some (.int .i64 e))
  (c3 : w.cell? ⟨b, 3, none⟩ = some (.bool m)) (c4 : w.cell? ⟨b, 4, none⟩ = some (.string t)) (c5 : w.cell? ⟨b, 5, none⟩ = some (.int .i64 f)) :
  Calls Tryz.prog 70 #[.slice (some ⟨b, 0, none⟩) 2 2] w fun r w' => r = .returned (.int .i64 (errB (goodB n s e && goodB m t f))) ∧ Below w.heap.size w w' := by
 have h1 := fun w => check_any n s e w hs
 have h2 := fun w => check_any m t f w ht
 clear hs ht
 cases g1 : goodB n s e
 ·rw [g1] at h1
  simp only [errB, Bool.false_eq_true, if_false, Bool.false_and] at h1 ⊢
  clear h2 g1 c3 c4 c5
  go_enter Tryz.func70, Tryz.ntmps70
  go_wp2
  refine wp_loop_rounds 1 ?_
  rw [rounds_succ]
  go_wp2_with (go_at_call 90; refine (h1 _).mono ?_; rintro r w1 ⟨rfl, hb1⟩)
  go_ret
  exact ⟨rfl, (by with_reducible repeat (first | exact Below.refl _ _ | refine bl_t ?_ hb1 | refine bl_d ?_ | refine bl_n ?_ _ | refine bl_a ?_ _ | refine bl_s ?_ (by omega) _))⟩
 ·rw [g1] at h1
  simp only [errB, if_true] at h1
  cases g2 : goodB m t f
  ·rw [g2] at h2
   simp only [errB, Bool.false_eq_true, if_false, Bool.true_and] at h2 ⊢
   clear g1 g2
   go_enter Tryz.func70, Tryz.ntmps70
   go_wp2
   refine wp_loop_rounds 2 ?_
   rw [rounds_succ]
   go_wp2_with (go_at_call 90; refine (h1 _).mono ?_; rintro r w1 ⟨rfl, hb1⟩)
   have k3 : w1.cell? ⟨b, 3, none⟩ = some (.bool m) := by rw [hb1.cell (p := ⟨b, 3, none⟩) (by simp only [World.size_alloc]; omega), World.cell?_alloc_lt _ _ ⟨b, 3, none⟩ hbl]; exact c3
   have k4 : w1.cell? ⟨b, 4, none⟩ = some (.string t) := by rw [hb1.cell (p := ⟨b, 4, none⟩) (by simp only [World.size_alloc]; omega), World.cell?_alloc_lt _ _ ⟨b, 4, none⟩ hbl]; exact c4
   have k5 : w1.cell? ⟨b, 5, none⟩ = some (.int .i64 f) := by rw [hb1.cell (p := ⟨b, 5, none⟩) (by simp only [World.size_alloc]; omega), World.cell?_alloc_lt _ _ ⟨b, 5, none⟩ hbl]; exact c5
   rw [rounds_succ]
   go_wp2_with (go_at_call 90; refine (h2 _).mono ?_; rintro r w2 ⟨rfl, hb2⟩)
   go_ret
   exact ⟨rfl, (by with_reducible repeat (first | exact Below.refl _ _ | refine bl_t ?_ hb2 | refine bl_t ?_ hb1 | refine bl_d ?_ | refine bl_n ?_ _ | refine bl_a ?_ _ | refine bl_s ?_ (by omega) _))⟩
  ·rw [g2] at h2
   simp only [errB, if_true, Bool.true_and] at h2 ⊢
   clear g1 g2
   go_enter Tryz.func70, Tryz.ntmps70
   go_wp2
   refine wp_loop_rounds 3 ?_
   rw [rounds_succ]
   go_wp2_with (go_at_call 90; refine (h1 _).mono ?_; rintro r w1 ⟨rfl, hb1⟩)
   have k3 : w1.cell? ⟨b, 3, none⟩ = some (.bool m) := by rw [hb1.cell (p := ⟨b, 3, none⟩) (by simp only [World.size_alloc]; omega), World.cell?_alloc_lt _ _ ⟨b, 3, none⟩ hbl]; exact c3
   have k4 : w1.cell? ⟨b, 4, none⟩ = some (.string t) := by rw [hb1.cell (p := ⟨b, 4, none⟩) (by simp only [World.size_alloc]; omega), World.cell?_alloc_lt _ _ ⟨b, 4, none⟩ hbl]; exact c4
   have k5 : w1.cell? ⟨b, 5, none⟩ = some (.int .i64 f) := by rw [hb1.cell (p := ⟨b, 5, none⟩) (by simp only [World.size_alloc]; omega), World.cell?_alloc_lt _ _ ⟨b, 5, none⟩ hbl]; exact c5
   rw [rounds_succ]
   go_wp2_with (go_at_call 90; refine (h2 _).mono ?_; rintro r w2 ⟨rfl, hb2⟩)
   rw [rounds_succ]
   go_wp2
   go_ret
   exact ⟨rfl, (by with_reducible repeat (first | exact Below.refl _ _ | refine bl_t ?_ hb2 | refine bl_t ?_ hb1 | refine bl_d ?_ | refine bl_n ?_ _ | refine bl_a ?_ _ | refine bl_s ?_ (by omega) _))⟩
end Go.Proofs.YtjdboekanmfgpaaGreatDoor

namespace Go.Proofs.YtjdboekanmfgpaaGreatDoor
open Go.RowKit
attribute [local go_sem] setCell_drewN alloc_drewN

set_option maxHeartbeats 400000 in
theorem order_same (n m : Bool) (s t : ByteArray) (e f : Int) (w : World) (hz : eqD n s e m t f = true) :
  Calls Tryz.prog 71 #[.agg #[.bool n, .string s, .int .i64 e], .agg #[.bool m, .string t, .int .i64 f]] w fun r w' => r = .returned (.int .i64 0) ∧ Below w.heap.size w w' := by
 have hq := eqIn_dec n s e m t f
 rw [hz] at hq
 clear hz
 go_enter Tryz.func71, Tryz.ntmps71
 go_wp2
 go_ret
 exact ⟨rfl, (by with_reducible repeat (first | exact Below.refl _ _ | refine bl_d ?_ | refine bl_n ?_ _ | refine bl_a ?_ _))⟩

set_option maxRecDepth 100000 in
set_option maxHeartbeats 1600000 in
theorem order_signs (n m : Bool) (s t : ByteArray) (e f x y : Int) (w : World) (hz : eqD n s e m t f = false) (h1 : (∀ w, Calls Tryz.prog 101 #[.agg #[.bool n, .string s, .int .i64 e]] w fun r w' => r = .returned (.int .i64 x) ∧ ∃ q, w' = ((w.alloc (.cells #[.bool n, .string s, .int .i64 e] 24)).alloc (.cells #[.bool false, .string ⟨#[]⟩, .int .i64 0] 24)).drewN q)) (h2 : (∀ w, Calls Tryz.prog 101 #[.agg #[.bool m, .string t, .int .i64 f]] w fun r w' => r = .returned (.int .i64 y) ∧ ∃ q, w' = ((w.alloc (.cells #[.bool m, .string t, .int .i64 f] 24)).alloc (.cells #[.bool false, .string ⟨#[]⟩, .int .i64 0] 24)).drewN q)) (hne2 : (x != y) = true) :
  Calls Tryz.prog 71 #[.agg #[.bool n, .string s, .int .i64 e], .agg #[.bool m, .string t, .int .i64 f]] w fun r w' => r = .returned (.int .i64 (sg x y)) ∧ Below w.heap.size w w' := by
 have hq := eqIn_dec n s e m t f
 rw [hz] at hq
 clear hz
 go_enter Tryz.func71, Tryz.ntmps71
 go_upto_region 3 with fail
 go_cut [9] (fun s9 wx => s9 = .bool true ∧ Below ((w.alloc (.cells #[.bool n, .string s, .int .i64 e] 24)).alloc (.cells #[.bool m, .string t, .int .i64 f] 24)).heap.size ((w.alloc (.cells #[.bool n, .string s, .int .i64 e] 24)).alloc (.cells #[.bool m, .string t, .int .i64 f] 24)) wx)
 case first =>
  go_region_with (first | (go_at_call 101; with_reducible refine (h1 _).mono ?_; rintro r w' ⟨rfl, q, rfl⟩) | (go_at_call 101; with_reducible refine (h2 _).mono ?_; rintro r w' ⟨rfl, q, rfl⟩))
  all_goals (try go_wp2_with fail)
  all_goals
   go_meet
   exact ⟨rfl, (by with_reducible repeat (first | exact Below.refl _ _ | refine bl_d ?_ | refine bl_n ?_ _ | refine bl_a ?_ _))⟩
 case rest =>
  obtain rfl := hcut.1
  have hB := hcut.2
  have ka : ∀ o, wc.cell? ⟨w.heap.size, o, none⟩ = #[Value.bool n, .string s, .int .i64 e][o]? := fun o => by rw [hB.cell (p := ⟨w.heap.size, o, none⟩) (by simp <;> omega)]; simp [go_sem]
  have kb : ∀ o, wc.cell? ⟨w.heap.size + 1, o, none⟩ = #[Value.bool m, .string t, .int .i64 f][o]? := fun o => by rw [hB.cell (p := ⟨w.heap.size + 1, o, none⟩) (by simp <;> omega)]; simp [go_sem]
  have za : w.heap.size < wc.heap.size := by have := hB.size; simp at this; omega
  have zb : w.heap.size + 1 < wc.heap.size := by have := hB.size; simp at this; omega
  have hW : Below w.heap.size w wc := bl_t (bl_a (bl_a (Below.refl _ _) _) _) hB
  clear hcut hB
  go_wp2_with fail
  go_region_with (first | (go_at_call 101; with_reducible refine (h1 _).mono ?_; rintro r w' ⟨rfl, q, rfl⟩) | (go_at_call 101; with_reducible refine (h2 _).mono ?_; rintro r w' ⟨rfl, q, rfl⟩) | (go_at_call 73; refine (compare_int _ _ _).mono ?_; rintro r w' ⟨rfl, rfl⟩))
  all_goals (try go_wp2)
  all_goals go_ret
  all_goals exact ⟨rfl, bl_t hW (by with_reducible repeat (first | exact Below.refl _ _ | refine bl_d ?_ | refine bl_n ?_ _ | refine bl_a ?_ _))⟩

set_option maxRecDepth 100000 in
set_option maxHeartbeats 1600000 in
theorem order_below (m : Bool) (s t : ByteArray) (e f x z : Int) (w : World) (hz : eqD true s e m t f = false) (h1 : (∀ w, Calls Tryz.prog 101 #[.agg #[.bool true, .string s, .int .i64 e]] w fun r w' => r = .returned (.int .i64 x) ∧ ∃ q, w' = ((w.alloc (.cells #[.bool true, .string s, .int .i64 e] 24)).alloc (.cells #[.bool false, .string ⟨#[]⟩, .int .i64 0] 24)).drewN q)) (h2 : (∀ w, Calls Tryz.prog 101 #[.agg #[.bool m, .string t, .int .i64 f]] w fun r w' => r = .returned (.int .i64 x) ∧ ∃ q, w' = ((w.alloc (.cells #[.bool m, .string t, .int .i64 f] 24)).alloc (.cells #[.bool false, .string ⟨#[]⟩, .int .i64 0] 24)).drewN q)) (h3 : ∀ w, Calls Tryz.prog 102 #[.agg #[.bool m, .string t, .int .i64 f], .agg #[.bool true, .string s, .int .i64 e]] w fun r w' => r = .returned (.int .i64 z) ∧ Below w.heap.size w w') :
  Calls Tryz.prog 71 #[.agg #[.bool true, .string s, .int .i64 e], .agg #[.bool m, .string t, .int .i64 f]] w fun r w' => r = .returned (.int .i64 z) ∧ Below w.heap.size w w' := by
 have hq := eqIn_dec true s e m t f
 rw [hz] at hq
 clear hz
 go_enter Tryz.func71, Tryz.ntmps71
 go_upto_region 3 with fail
 go_cut [9] (fun s9 wx => s9 = .bool false ∧ Below ((w.alloc (.cells #[.bool true, .string s, .int .i64 e] 24)).alloc (.cells #[.bool m, .string t, .int .i64 f] 24)).heap.size ((w.alloc (.cells #[.bool true, .string s, .int .i64 e] 24)).alloc (.cells #[.bool m, .string t, .int .i64 f] 24)) wx)
 case first =>
  go_region_with (first | (go_at_call 101; with_reducible refine (h1 _).mono ?_; rintro r w' ⟨rfl, q, rfl⟩) | (go_at_call 101; with_reducible refine (h2 _).mono ?_; rintro r w' ⟨rfl, q, rfl⟩))
  all_goals (try go_wp2_with fail)
  all_goals
   go_meet
   exact ⟨rfl, (by with_reducible repeat (first | exact Below.refl _ _ | refine bl_d ?_ | refine bl_n ?_ _ | refine bl_a ?_ _))⟩
 case rest =>
  obtain rfl := hcut.1
  have hB := hcut.2
  have ka : ∀ o, wc.cell? ⟨w.heap.size, o, none⟩ = #[Value.bool true, .string s, .int .i64 e][o]? := fun o => by rw [hB.cell (p := ⟨w.heap.size, o, none⟩) (by simp <;> omega)]; simp [go_sem]
  have kb : ∀ o, wc.cell? ⟨w.heap.size + 1, o, none⟩ = #[Value.bool m, .string t, .int .i64 f][o]? := fun o => by rw [hB.cell (p := ⟨w.heap.size + 1, o, none⟩) (by simp <;> omega)]; simp [go_sem]
  have za : w.heap.size < wc.heap.size := by have := hB.size; simp at this; omega
  have zb : w.heap.size + 1 < wc.heap.size := by have := hB.size; simp at this; omega
  have hW : Below w.heap.size w wc := bl_t (bl_a (bl_a (Below.refl _ _) _) _) hB
  clear hcut hB
  go_wp2_with (go_at_call 102; refine (h3 _).mono ?_; rintro r w2 ⟨rfl, hb2⟩)
  go_ret
  exact ⟨rfl, bl_t hW hb2⟩

set_option maxRecDepth 100000 in
set_option maxHeartbeats 1600000 in
theorem order_above (m : Bool) (s t : ByteArray) (e f x z : Int) (w : World) (hz : eqD false s e m t f = false) (h1 : (∀ w, Calls Tryz.prog 101 #[.agg #[.bool false, .string s, .int .i64 e]] w fun r w' => r = .returned (.int .i64 x) ∧ ∃ q, w' = ((w.alloc (.cells #[.bool false, .string s, .int .i64 e] 24)).alloc (.cells #[.bool false, .string ⟨#[]⟩, .int .i64 0] 24)).drewN q)) (h2 : (∀ w, Calls Tryz.prog 101 #[.agg #[.bool m, .string t, .int .i64 f]] w fun r w' => r = .returned (.int .i64 x) ∧ ∃ q, w' = ((w.alloc (.cells #[.bool m, .string t, .int .i64 f] 24)).alloc (.cells #[.bool false, .string ⟨#[]⟩, .int .i64 0] 24)).drewN q)) (h3 : ∀ w, Calls Tryz.prog 102 #[.agg #[.bool false, .string s, .int .i64 e], .agg #[.bool m, .string t, .int .i64 f]] w fun r w' => r = .returned (.int .i64 z) ∧ Below w.heap.size w w') :
  Calls Tryz.prog 71 #[.agg #[.bool false, .string s, .int .i64 e], .agg #[.bool m, .string t, .int .i64 f]] w fun r w' => r = .returned (.int .i64 z) ∧ Below w.heap.size w w' := by
 have hq := eqIn_dec false s e m t f
 rw [hz] at hq
 clear hz
 go_enter Tryz.func71, Tryz.ntmps71
 go_upto_region 3 with fail
 go_cut [9] (fun s9 wx => s9 = .bool false ∧ Below ((w.alloc (.cells #[.bool false, .string s, .int .i64 e] 24)).alloc (.cells #[.bool m, .string t, .int .i64 f] 24)).heap.size ((w.alloc (.cells #[.bool false, .string s, .int .i64 e] 24)).alloc (.cells #[.bool m, .string t, .int .i64 f] 24)) wx)
 case first =>
  go_region_with (first | (go_at_call 101; with_reducible refine (h1 _).mono ?_; rintro r w' ⟨rfl, q, rfl⟩) | (go_at_call 101; with_reducible refine (h2 _).mono ?_; rintro r w' ⟨rfl, q, rfl⟩))
  all_goals (try go_wp2_with fail)
  all_goals
   go_meet
   exact ⟨rfl, (by with_reducible repeat (first | exact Below.refl _ _ | refine bl_d ?_ | refine bl_n ?_ _ | refine bl_a ?_ _))⟩
 case rest =>
  obtain rfl := hcut.1
  have hB := hcut.2
  have ka : ∀ o, wc.cell? ⟨w.heap.size, o, none⟩ = #[Value.bool false, .string s, .int .i64 e][o]? := fun o => by rw [hB.cell (p := ⟨w.heap.size, o, none⟩) (by simp <;> omega)]; simp [go_sem]
  have kb : ∀ o, wc.cell? ⟨w.heap.size + 1, o, none⟩ = #[Value.bool m, .string t, .int .i64 f][o]? := fun o => by rw [hB.cell (p := ⟨w.heap.size + 1, o, none⟩) (by simp <;> omega)]; simp [go_sem]
  have za : w.heap.size < wc.heap.size := by have := hB.size; simp at this; omega
  have zb : w.heap.size + 1 < wc.heap.size := by have := hB.size; simp at this; omega
  have hW : Below w.heap.size w wc := bl_t (bl_a (bl_a (Below.refl _ _) _) _) hB
  clear hcut hB
  go_wp2_with (go_at_call 102; refine (h3 _).mono ?_; rintro r w2 ⟨rfl, hb2⟩)
  go_ret
  exact ⟨rfl, bl_t hW hb2⟩

end Go.Proofs.YtjdboekanmfgpaaGreatDoor

namespace Go.Proofs.YtjdboekanmfgpaaGreatDoor
open Go.RowKit
attribute [local go_sem] setCell_drewN alloc_drewN

theorem sgnD_eq (n : Bool) (s : ByteArray) (e : Int) : sgnD n s = sign3 ⟨n, s.data.toList, e⟩ := by
 unfold sgnD sign3
 simp only [nil_size]
theorem good_bounds {n : Bool} {s : ByteArray} {e : Int} (h : goodB n s e = true) (h0 : s.size ≠ 0) : s.size ≤ 65536 ∧ -1000000 ≤ e ∧ e ≤ 1000000 := by
 rcases of_decide_eq_true h with g | g
 ·exact absurd ((nil_size s).1 g.1) h0
 ·have := g.1.2.1
  rw [len_of] at this
  exact ⟨this, g.2⟩
theorem order_any (n m : Bool) (s t : ByteArray) (e f : Int) (w : World) (gA : goodB n s e = true) (gB : goodB m t f = true) :
  Calls Tryz.prog 71 #[.agg #[.bool n, .string s, .int .i64 e], .agg #[.bool m, .string t, .int .i64 f]] w fun r w' => r = .returned (.int .i64 (sg (V ⟨n, s.data.toList, e⟩) (V ⟨m, t.data.toList, f⟩))) ∧ Below w.heap.size w w' := by
 cases hz : eqD n s e m t f
 ·have h1 := fun w => sign_exp n s e w gA
  have h2 := fun w => sign_exp m t f w gB
  rw [order_V (of_decide_eq_true gA) (of_decide_eq_true gB), ← sgnD_eq n s e, ← sgnD_eq m t f]
  by_cases hs : sgnD n s = sgnD m t
  ·rw [if_pos hs]
   have hs0 : s.size ≠ 0 := by
    intro h0
    have ht0 : t.size = 0 := by
     by_cases h : t.size = 0
     ·exact h
     ·unfold sgnD at hs
      rw [if_pos h0, if_neg h] at hs
      cases m <;> simp at hs
    rcases of_decide_eq_true gA with ⟨a1, a2, a3⟩ | g
    ·rcases of_decide_eq_true gB with ⟨b1, b2, b3⟩ | g
     ·refine absurd ?_ (of_decide_eq_false hz)
      simp only at a2 a3 b2 b3
      exact ⟨by rw [a2, b2], by rw [size_zero h0, size_zero ht0], by rw [a3, b3]⟩
     ·exact g.1.1 ((nil_size t).2 ht0)
    ·exact g.1.1 ((nil_size s).2 h0)
   have ht0 : t.size ≠ 0 := by
    intro h0
    unfold sgnD at hs
    rw [if_neg hs0, if_pos h0] at hs
    cases n <;> simp at hs
   obtain ⟨s1, s2, s3⟩ := good_bounds gA hs0
   obtain ⟨t1, t2, t3⟩ := good_bounds gB ht0
   have hl : ¬ s.data.toList = [] := fun h => hs0 ((nil_size s).1 h)
   rw [← hs] at h2
   cases n
   ·simp only [Bool.false_eq_true, if_false, if_neg hl]
    exact order_above m s t e f _ _ w hz h1 h2 (fun w => sizes_any false m s t e f w s1 s2 s3 t1 t2 t3)
   ·simp only [if_true]
    exact order_below m s t e f _ _ w hz h1 h2 (fun w => sizes_any m true t s f e w t1 t2 t3 s1 s2 s3)
  ·rw [if_neg hs]
   have hne : (sgnD n s == sgnD m t) = false := beq_eq_false_iff_ne.2 hs
   exact order_signs n m s t e f _ _ w hz h1 h2 (by simp only [bne, hne]; rfl)
 ·have h := order_same n m s t e f w hz
  obtain ⟨rfl, rfl, rfl⟩ := of_decide_eq_true hz
  simpa [sg] using h

set_option maxRecDepth 100000 in
set_option maxHeartbeats 1600000 in
theorem compare_any (n m : Bool) (s t : ByteArray) (e f : Int) (w : World) (hs : s.size ≤ maxLen) (ht : t.size ≤ maxLen) :
  Calls Tryz.prog 39 #[.agg #[.bool n, .string s, .int .i64 e], .agg #[.bool m, .string t, .int .i64 f]] w fun r w' => r = .returned (.tuple #[.int .i64 (if (goodB n s e && goodB m t f) = true then sg (V ⟨n, s.data.toList, e⟩) (V ⟨m, t.data.toList, f⟩) else 0), .int .i64 (errB (goodB n s e && goodB m t f))]) ∧ Below w.heap.size w w' := by
 have h1 := fun b w k => checked_two n m s t e f b w hs ht k
 cases hg : (goodB n s e && goodB m t f)
 ·rw [hg] at h1
  simp only [errB, Bool.false_eq_true, if_false] at h1 ⊢
  clear hs ht hg
  go_enter Tryz.func39, Tryz.ntmps39
  go_wp2_with fail
  refine (h1 _ _ (by simp) ?_ ?_ ?_ ?_ ?_ ?_).mono ?_
  iterate 6 (simp [go_sem])
  rintro r w1 ⟨rfl, hb1⟩
  go_wp2
  go_ret2
  exact ⟨rfl, (by with_reducible repeat (first | exact Below.refl _ _ | refine bl_t ?_ hb1 |  refine bl_d ?_ | refine bl_n ?_ _ | refine bl_a ?_ _ | refine bl_s ?_ (by omega) _))⟩
 ·rw [hg] at h1
  have hg2 : goodB n s e = true ∧ goodB m t f = true := by simpa using hg
  have h2 := fun w => order_any n m s t e f w hg2.1 hg2.2
  simp only [errB, if_true] at h1 ⊢
  clear hs ht hg hg2
  generalize sg (V ⟨n, s.data.toList, e⟩) (V ⟨m, t.data.toList, f⟩) = x at *
  go_enter Tryz.func39, Tryz.ntmps39
  go_wp2_with fail
  refine (h1 _ _ (by simp) ?_ ?_ ?_ ?_ ?_ ?_).mono ?_
  iterate 6 (simp [go_sem])
  rintro r w1 ⟨rfl, hb1⟩
  have ka : ∀ o, w1.cell? ⟨w.heap.size, o, none⟩ = #[Value.bool n, .string s, .int .i64 e][o]? := fun o => by rw [hb1.cell (p := ⟨w.heap.size, o, none⟩) (by simp <;> omega)]; simp [go_sem]
  have kb : ∀ o, w1.cell? ⟨w.heap.size + 1, o, none⟩ = #[Value.bool m, .string t, .int .i64 f][o]? := fun o => by rw [hb1.cell (p := ⟨w.heap.size + 1, o, none⟩) (by simp <;> omega)]; simp [go_sem]
  go_wp2_with (go_at_call 71; refine (h2 _).mono ?_; rintro r w2 ⟨rfl, hb2⟩)
  go_ret2
  exact ⟨rfl, (by with_reducible repeat (first | exact Below.refl _ _ | refine bl_t ?_ hb2 | refine bl_t ?_ hb1 |  refine bl_d ?_ | refine bl_n ?_ _ | refine bl_a ?_ _ | refine bl_s ?_ (by omega) _))⟩
end Go.Proofs.YtjdboekanmfgpaaGreatDoor
