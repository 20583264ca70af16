/-
  What dec.order and dec.Compare answer: how numbers stand, by their values. No condition.
-/
import Derived.Test.YtpeoepcfiejpmabGreatDoorS19
namespace Go.Proofs.YtpeoepcfiejpmabGreatDoor
open Go.RowKit
attribute [local go_sem] setCell_drewN alloc_drewN

theorem sgnD_eq (n : Bool) (s : ByteArray) (e : Int) : sgnD n s = sign3 ⟨n, s.data.toList, e⟩ := by
  unfold sgnD sign3
  simp only [nil_size]
theorem good_bounds {n : Bool} {s : ByteArray} {e : Int} (h : goodB n s e = true) (h0 : s.size ≠ 0) : s.size ≤ 65536 ∧ -1000000 ≤ e ∧ e ≤ 1000000 := by
  rcases of_decide_eq_true h with g | g
  · exact absurd ((nil_size s).1 g.1) h0
  · have := g.1.2.1
    rw [len_of] at this
    exact ⟨this, g.2⟩
theorem order_any (n m : Bool) (s t : ByteArray) (e f : Int) (w : World) (gA : goodB n s e = true) (gB : goodB m t f = true) :
    Calls Tryz.prog 35 #[.agg #[.bool n, .string s, .int .i64 e], .agg #[.bool m, .string t, .int .i64 f]] w fun r w' => r = .returned (.int .i64 (sg (V ⟨n, s.data.toList, e⟩) (V ⟨m, t.data.toList, f⟩))) ∧ Below w.heap.size w w' := by
  cases hz : eqD n s e m t f
  · have h1 := fun w => sign_exp n s e w gA
    have h2 := fun w => sign_exp m t f w gB
    rw [order_V (of_decide_eq_true gA) (of_decide_eq_true gB), ← sgnD_eq n s e, ← sgnD_eq m t f]
    by_cases hs : sgnD n s = sgnD m t
    · rw [if_pos hs]
      have hs0 : s.size ≠ 0 := by
        intro h0
        have ht0 : t.size = 0 := by
          by_cases h : t.size = 0
          · exact h
          · unfold sgnD at hs
            rw [if_pos h0, if_neg h] at hs
            cases m <;> simp at hs
        rcases of_decide_eq_true gA with ⟨a1, a2, a3⟩ | g
        · rcases of_decide_eq_true gB with ⟨b1, b2, b3⟩ | g
          · refine absurd ?_ (of_decide_eq_false hz)
            simp only at a2 a3 b2 b3
            exact ⟨by rw [a2, b2], by rw [size_zero h0, size_zero ht0], by rw [a3, b3]⟩
          · exact g.1.1 ((nil_size t).2 ht0)
        · exact g.1.1 ((nil_size s).2 h0)
      have ht0 : t.size ≠ 0 := by
        intro h0
        unfold sgnD at hs
        rw [if_neg hs0, if_pos h0] at hs
        cases n <;> simp at hs
      obtain ⟨s1, s2, s3⟩ := good_bounds gA hs0
      obtain ⟨t1, t2, t3⟩ := good_bounds gB ht0
      have hl : ¬ s.data.toList = [] := fun h => hs0 ((nil_size s).1 h)
      rw [← hs] at h2
      cases n
      · simp only [Bool.false_eq_true, if_false, if_neg hl]
        exact order_above m s t e f _ _ w hz h1 h2 (fun w => sizes_any false m s t e f w s1 s2 s3 t1 t2 t3)
      · simp only [if_true]
        exact order_below m s t e f _ _ w hz h1 h2 (fun w => sizes_any m true t s f e w t1 t2 t3 s1 s2 s3)
    · rw [if_neg hs]
      have hne : (sgnD n s == sgnD m t) = false := beq_eq_false_iff_ne.2 hs
      exact order_signs n m s t e f _ _ w hz h1 h2 (by simp only [bne, hne]; rfl)
  · have h := order_same n m s t e f w hz
    obtain ⟨rfl, rfl, rfl⟩ := of_decide_eq_true hz
    simpa [sg] using h

set_option maxRecDepth 100000 in
set_option maxHeartbeats 1600000 in
theorem compare_any (n m : Bool) (s t : ByteArray) (e f : Int) (w : World) (hs : s.size ≤ maxLen) (ht : t.size ≤ maxLen) :
    Calls Tryz.prog 18 #[.agg #[.bool n, .string s, .int .i64 e], .agg #[.bool m, .string t, .int .i64 f]] w fun r w' => r = .returned (.tuple #[.int .i64 (if (goodB n s e && goodB m t f) = true then sg (V ⟨n, s.data.toList, e⟩) (V ⟨m, t.data.toList, f⟩) else 0), .int .i64 (errB (goodB n s e && goodB m t f))]) ∧ Below w.heap.size w w' := by
  have h1 := fun b w k => checked_two n m s t e f b w hs ht k
  cases hg : (goodB n s e && goodB m t f)
  · rw [hg] at h1
    simp only [errB, Bool.false_eq_true, if_false] at h1 ⊢
    clear hs ht hg
    go_enter Tryz.func18, Tryz.ntmps18
    go_wp2_with fail
    refine (h1 _ _ (by simp) ?_ ?_ ?_ ?_ ?_ ?_).mono ?_
    iterate 6 (simp [go_sem])
    rintro r w1 ⟨rfl, hb1⟩
    go_wp2
    go_ret2
    exact ⟨rfl, (by with_reducible repeat (first | exact Below.refl _ _ | refine bl_t ?_ hb1 |  refine bl_d ?_ | refine bl_n ?_ _ | refine bl_a ?_ _ | refine bl_s ?_ (by omega) _))⟩
  · rw [hg] at h1
    have hg2 : goodB n s e = true ∧ goodB m t f = true := by simpa using hg
    have h2 := fun w => order_any n m s t e f w hg2.1 hg2.2
    simp only [errB, if_true] at h1 ⊢
    clear hs ht hg hg2
    generalize sg (V ⟨n, s.data.toList, e⟩) (V ⟨m, t.data.toList, f⟩) = x at *
    go_enter Tryz.func18, Tryz.ntmps18
    go_wp2_with fail
    refine (h1 _ _ (by simp) ?_ ?_ ?_ ?_ ?_ ?_).mono ?_
    iterate 6 (simp [go_sem])
    rintro r w1 ⟨rfl, hb1⟩
    have ka : ∀ o, w1.cell? ⟨w.heap.size, o, none⟩ = #[Value.bool n, .string s, .int .i64 e][o]? := fun o => by rw [hb1.cell (p := ⟨w.heap.size, o, none⟩) (by simp <;> omega)]; simp [go_sem]
    have kb : ∀ o, w1.cell? ⟨w.heap.size + 1, o, none⟩ = #[Value.bool m, .string t, .int .i64 f][o]? := fun o => by rw [hb1.cell (p := ⟨w.heap.size + 1, o, none⟩) (by simp <;> omega)]; simp [go_sem]
    go_wp2_with (go_at_call 35; refine (h2 _).mono ?_; rintro r w2 ⟨rfl, hb2⟩)
    go_ret2
    exact ⟨rfl, (by with_reducible repeat (first | exact Below.refl _ _ | refine bl_t ?_ hb2 | refine bl_t ?_ hb1 |  refine bl_d ?_ | refine bl_n ?_ _ | refine bl_a ?_ _ | refine bl_s ?_ (by omega) _))⟩
end Go.Proofs.YtpeoepcfiejpmabGreatDoor
