/-
  What (parts).number answers of digits in range. Conditions: the parts are digits.
-/
import Derived.Test.YtfhapeinfhjihaaGreatDoorS8
namespace Go.Proofs.YtfhapeinfhjihaaGreatDoor
open Go.RowKit
attribute [local go_sem] setCell_drewN alloc_drewN

set_option maxRecDepth 100000 in
set_option maxHeartbeats 1600000 in
theorem number_ok (p : P3) (w : World) (h : (allOf p).length ≤ 65536) (hz : dgOf p ≠ []) (hd : p.exp.all isD = true) (hx : p.exp.length ≤ maxLen) (r1 : ¬ exOf 1131072 p < -1000000) (r2 : ¬ 1000000 < exOf 1131072 p) :
    Calls Tryz.prog 50 #[pv p] w fun e w' => e = .returned (.tuple #[.agg #[.bool p.neg, .string (bs (dgOf p)), .int .i64 (exOf 1131072 p)], .nilIface]) ∧ Below w.heap.size w w' := by
  have hl : ¬ (65536 : Int) < ((bs p.int).size : Int) + ((bs p.frac).size : Int) := by unfold allOf at h; rw [List.length_append] at h; rw [bs_size, bs_size]; omega
  have h1 := fun w => trimR (bs (allOf p)) w (by rw [bs_size]; omega)
  have h2 := fun w => trimL (bs (upOf p)) w
  rw [bs_list] at h1 h2
  rw [show Lib.trimRightB (allOf p) 48 = upOf p from rfl] at h1
  rw [show Lib.trimLeftB (upOf p) 48 = dgOf p from rfl] at h2
  have h3 := fun w => shift_any p.neg (bs p.int) (bs p.frac) p.minus (bs p.exp) w (by rw [bs_size]; exact hx) (by rw [bs_list]; exact hd)
  rw [capN_all] at h3
  have ha : bs p.int ++ bs p.frac = bs (allOf p) := bs_append _ _
  have he : (bs (dgOf p)).toList.isEmpty = false := by rw [toList_bs]; cases hq : dgOf p with
    | nil => exact absurd hq hz
    | cons c t => rfl
  obtain ⟨e1, e2⟩ := expOf_bd p hd
  have lu : ((bs (upOf p)).size : Int) ≤ 65536 := by have : (upOf p).length ≤ (allOf p).length := trimRight_le _ _; rw [bs_size]; omega
  have la : ((bs (allOf p)).size : Int) ≤ 65536 := by rw [bs_size]; omega
  have lb : ((bs p.frac).size : Int) ≤ 65536 := by unfold allOf at h; rw [List.length_append] at h; rw [bs_size]; omega
  have hX : expOf 1131072 p - ((bs p.frac).size : Int) + ((bs (allOf p)).size : Int) - ((bs (upOf p)).size : Int) = exOf 1131072 p := by unfold exOf; rw [bs_size, bs_size, bs_size]
  have ld : (dgOf p).length ≤ (allOf p).length := Nat.le_trans (List.dropWhile_suffix _).length_le (trimRight_le _ _)
  have h4 := fun w => clone_any (bs (dgOf p)) w (by rw [bs_size]; omega)
  clear h hz hd hx ld
  unfold pv
  generalize bs (upOf p) = U at *
  generalize bs (allOf p) = A at *
  generalize bs (dgOf p) = D at *
  generalize bs p.int = a at *
  generalize bs p.frac = b at *
  generalize bs p.exp = x at *
  generalize expOf 1131072 p = E at *
  generalize exOf 1131072 p = X at *
  go_enter Tryz.func50, Tryz.ntmps50
  go_wp2_with (first | (go_at_call 77; refine (h1 _).mono ?_; rintro e w' ⟨rfl, rfl⟩) | (go_at_call 78; refine (h2 _).mono ?_; rintro e w' ⟨rfl, rfl⟩))
  go_region_with (go_at_call 79; refine (h3 _).mono ?_; rintro r w' ⟨rfl, rfl⟩)
  all_goals (try go_wp2_with fail)
  all_goals go_region_with (go_at_call 80; refine (h4 _).mono ?_; rintro r w' ⟨rfl, hb⟩; obtain ⟨hc, hf⟩ := bcell hb; have hz := hb.size; simp at hz)
  all_goals (try go_wp2)
  all_goals (refine bodyPost_ret (v := .tuple #[.agg #[.bool p.neg, .string D, .int .i64 X], .nilIface]) ?_ rfl ?_)
  all_goals first | (exact ⟨rfl, (by with_reducible repeat (first | exact Below.refl _ _ | refine bl_t ?_ hb | refine bl_d ?_ | refine bl_n ?_ _ | refine bl_a ?_ _ | refine bl_s ?_ (by omega) _))⟩) | (simp [results, Tryz.results50, go_sem, hc])
end Go.Proofs.YtfhapeinfhjihaaGreatDoor
