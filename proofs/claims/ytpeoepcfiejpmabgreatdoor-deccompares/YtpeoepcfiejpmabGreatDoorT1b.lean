/-
  What ref3.size and ref3.Compare answer; DecCompares answers true for every two numbers. Conditions: the package's sentinel, and the library's variables, as the program lays them.
-/
import Derived.Test.YtpeoepcfiejpmabGreatDoorT1
import Derived.Test.YtpeoepcfiejpmabGreatDoorS21
namespace Go.Proofs.YtpeoepcfiejpmabGreatDoor
open Go.RowKit
attribute [local go_sem] setCell_drewN alloc_drewN

set_option maxRecDepth 100000 in
set_option maxHeartbeats 1600000 in
theorem size_far (n m : Bool) (s t : ByteArray) (e f x y : Int) (w : World) (hs : s.size ≤ 65536) (ht : t.size ≤ 65536) (e0 : -1000000 ≤ e) (e1 : e ≤ 1000000) (f0 : -1000000 ≤ f) (f1 : f ≤ 1000000) (hx : (s.size : Int) + e = x) (hy : (t.size : Int) + f = y) (hne : (x == y) = false) :
    Calls Tryz.prog 37 #[.agg #[.bool n, .string s, .int .i64 e], .agg #[.bool m, .string t, .int .i64 f]] w fun r w' => r = .returned (.int .i64 (sg x y)) ∧ Below w.heap.size w w' := by
  have hne2 : (x != y) = true := by simp only [bne, hne]; rfl
  have hs' : (s.size : Int) ≤ 65536 := by omega
  have ht' : (t.size : Int) ≤ 65536 := by omega
  by_cases l : x < y
  · have HR : Hid (sg x y = -1) := by show _ = _; simp [sg, l]
    go_enter Tryz.func37, Tryz.ntmps37
    go_wp2_with fail
    go_quiet (fail)
    go_wp2
    go_ret
    exact ⟨r3_int HR.out.symm, (by with_reducible repeat (first | exact Below.refl _ _ | refine bl_d ?_ | refine bl_n ?_ _ | refine bl_a ?_ _ | refine bl_s ?_ (by omega) _))⟩
  · have hxy : x ≠ y := beq_eq_false_iff_ne.1 hne
    have HR : Hid (sg x y = 1) := by show _ = _; simp [sg, l, show y < x by omega]
    have ld : decide (x < y) = false := decide_eq_false l
    clear hxy
    go_enter Tryz.func37, Tryz.ntmps37
    go_wp2_with fail
    go_quiet (fail)
    go_wp2
    go_ret
    exact ⟨r3_int HR.out.symm, (by with_reducible repeat (first | exact Below.refl _ _ | refine bl_d ?_ | refine bl_n ?_ _ | refine bl_a ?_ _ | refine bl_s ?_ (by omega) _))⟩
theorem dig_ok {n : Bool} {s : ByteArray} {e : Int} (h : goodB n s e = true) (h0 : s.size ≠ 0) : DigOK s.data.toList ∧ (∀ j, j < s.size → 48 ≤ cx s j ∧ cx s j ≤ 57) := by
  rcases of_decide_eq_true h with g | g
  · exact absurd ((nil_size s).1 g.1) h0
  · exact ⟨g.1, ((digB_iff s h0).1 (decide_eq_true g.1)).2.1⟩
theorem size_any (n m : Bool) (s t : ByteArray) (e f : Int) (w : World) (gA : goodB n s e = true) (gB : goodB m t f = true) (hs : s.size ≠ 0) (ht : t.size ≠ 0) :
    Calls Tryz.prog 37 #[.agg #[.bool n, .string s, .int .i64 e], .agg #[.bool m, .string t, .int .i64 f]] w fun r w' => r = .returned (.int .i64 (sizes3 ⟨n, s.data.toList, e⟩ ⟨m, t.data.toList, f⟩)) ∧ Below w.heap.size w w' := by
  obtain ⟨s1, s2, s3⟩ := good_bounds gA hs
  obtain ⟨t1, t2, t3⟩ := good_bounds gB ht
  obtain ⟨sk, sd⟩ := dig_ok gA hs
  obtain ⟨tk, td⟩ := dig_ok gB ht
  unfold sizes3 height3
  simp only [len_of]
  by_cases hxy : (s.size : Int) + e = (t.size : Int) + f
  · rw [if_pos hxy]
    have h := size_near n m s t e f _ w s1 t1 s2 s3 hxy rfl sd td
    rw [pad_sg s t _ (by omega) (by omega)] at h
    rw [compareB_num s.data.toList t.data.toList (max s.size t.size) sk.2.2.1 tk.2.2.1 sk.end_ tk.end_ (by rw [len_of]; omega) (by rw [len_of]; omega), len_of, len_of]
    exact h
  · rw [if_neg hxy]
    exact size_far n m s t e f _ _ w s1 t1 s2 s3 t2 t3 rfl rfl (beq_eq_false_iff_ne.2 hxy)
end Go.Proofs.YtpeoepcfiejpmabGreatDoor
