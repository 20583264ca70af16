/-
  What dec.Text answers: a number's text, or an error. Conditions: the library's table of powers of ten as the program lays it.
-/
import Derived.Test.YtfhapeinfhjihaaGreatDoorS12
namespace Go.Proofs.YtfhapeinfhjihaaGreatDoor
open Go.RowKit

theorem written_any (n : Bool) (s : ByteArray) (e : Int) (w : World) (hg : goodB n s e = true) (ht : Lib.TabIs Tryz.prog w "internal/strconv.uint64pow10" .u64 Lib.pow10Tab) :
    Calls Tryz.prog 28 #[.agg #[.bool n, .string s, .int .i64 e]] w fun r w' => r = .returned (.string (bs (textL ⟨n, s.data.toList, e⟩))) ∧ Below w.heap.size w w' := by
  cases hz : eqD n s e false ⟨#[]⟩ 0
  · have hg2 := good_not hz
    rw [hg] at hg2
    have hg3 : digB s = true ∧ decide (-1000000 ≤ e ∧ e ≤ 1000000) = true := by simpa using hg2.symm
    obtain ⟨d1, d2, d3, d4, d5⟩ := of_decide_eq_true hg3.1
    obtain ⟨e0, e1⟩ := of_decide_eq_true hg3.2
    rw [len_of] at d2
    unfold textL sufL
    simp only [if_neg d1]
    cases n
    · by_cases z : e = 0
      · rw [if_pos z]; simpa using written_00 s e w hz d2 z
      · rw [if_neg z]; simpa using written_01 s e w hz d2 (beq_eq_false_iff_ne.2 z) e0 e1 ht
    · by_cases z : e = 0
      · rw [if_pos z]; simpa using written_10 s e w hz d2 z
      · rw [if_neg z]; simpa using written_11 s e w hz d2 (beq_eq_false_iff_ne.2 z) e0 e1 ht
  · have h := written_zero n s e w hz
    obtain ⟨rfl, rfl, rfl⟩ := of_decide_eq_true hz
    exact h

set_option maxHeartbeats 400000 in
theorem text_any (n : Bool) (s : ByteArray) (e : Int) (w : World) (hs : s.size ≤ maxLen) (ht : Lib.TabIs Tryz.prog w "internal/strconv.uint64pow10" .u64 Lib.pow10Tab) :
    Calls Tryz.prog 8 #[.agg #[.bool n, .string s, .int .i64 e]] w fun r w' => r = .returned (.tuple #[.string (bs (if goodB n s e = true then textL ⟨n, s.data.toList, e⟩ else [])), .int .i64 (errB (goodB n s e))]) ∧ Below w.heap.size w w' := by
  have h1 := fun w => check_any n s e w hs
  cases hg : goodB n s e
  · rw [hg] at h1
    simp only [errB, Bool.false_eq_true, if_false] at h1 ⊢
    clear ht hs hg
    go_enter Tryz.func8, Tryz.ntmps8
    go_wp2_with (go_at_call 12; refine (h1 _).mono ?_; rintro r w' ⟨rfl, hb⟩)
    go_ret2
    exact ⟨rfl, (by with_reducible repeat (first | exact Below.refl _ _ | refine bl_t ?_ hb | refine bl_d ?_ | refine bl_n ?_ _ | refine bl_a ?_ _ | refine bl_s ?_ (by omega) _))⟩
  · rw [hg] at h1
    have h2 := fun w ht => written_any n s e w hg ht
    simp only [errB, if_true] at h1 ⊢
    clear hs hg
    generalize textL ⟨n, s.data.toList, e⟩ = t at *
    go_enter Tryz.func8, Tryz.ntmps8
    go_wp2_with (first | (go_at_call 12; refine (h1 _).mono ?_; rintro r w' ⟨rfl, hb⟩; have hk := fun o => hb.cell (p := ⟨w.heap.size, o, none⟩) (by simp)) | (go_at_call 28; refine (h2 _ (tab_below ht (bl_t (bl_a (Below.refl _ _) _) hb))).mono ?_; rintro r w2 ⟨rfl, hb2⟩))
    go_ret2
    exact ⟨rfl, (by with_reducible repeat (first | exact Below.refl _ _ | refine bl_t ?_ hb2 | refine bl_t ?_ hb | refine bl_d ?_ | refine bl_n ?_ _ | refine bl_a ?_ _ | refine bl_s ?_ (by omega) _))⟩
end Go.Proofs.YtfhapeinfhjihaaGreatDoor
