/-
  DecOrder of numbers that may not be; what is known of three numbers' order. Conditions: the package's sentinel, and the library's variables, as the program lays them.
-/
import Derived.Test.YtpeoepcfiejpmabGreatDoorS18
import Derived.Deep.DeepCutAuto
namespace Go.Proofs.YtpeoepcfiejpmabGreatDoor
open Go.RowKit
attribute [local go_sem] setCell_drewN alloc_drewN

theorem keep3 {w w' : World} {c1 c2 c3 : Array Value} {t : TypeId} (h : Below (((w.alloc (.cells c1 t)).alloc (.cells c2 t)).alloc (.cells c3 t)).heap.size (((w.alloc (.cells c1 t)).alloc (.cells c2 t)).alloc (.cells c3 t)) w') :
    (∀ o, w'.cell? ⟨w.heap.size, o, none⟩ = c1[o]?) ∧ (∀ o, w'.cell? ⟨w.heap.size + 1, o, none⟩ = c2[o]?) ∧ (∀ o, w'.cell? ⟨w.heap.size + 1 + 1, o, none⟩ = c3[o]?) ∧ w.heap.size < w'.heap.size ∧ w.heap.size + 1 < w'.heap.size := by
  have z := h.size
  simp only [World.size_alloc] at z
  refine ⟨fun o => ?_, fun o => ?_, fun o => ?_, by omega, by omega⟩
  · rw [h.cell (p := ⟨w.heap.size, o, none⟩) (by simp only [World.size_alloc]; omega)]
    simp [go_sem]
  · rw [h.cell (p := ⟨w.heap.size + 1, o, none⟩) (by simp only [World.size_alloc]; omega)]
    simp [go_sem]
  · rw [h.cell (p := ⟨w.heap.size + 1 + 1, o, none⟩) (by simp only [World.size_alloc]; omega)]
    simp [go_sem]
/-- A number's sign, turned. -/
def turnB (n : Bool) (s : ByteArray) : Bool := if s.size = 0 then n else !n
theorem turn_good {n : Bool} {s : ByteArray} {e : Int} (h : goodB n s e = true) : goodB (turnB n s) s e = true := by
  unfold turnB
  by_cases z : s.size = 0
  · rw [if_pos z]; exact h
  · rw [if_neg z]
    rcases of_decide_eq_true h with g | g
    · exact absurd ((nil_size s).1 g.1) z
    · exact decide_eq_true (.inr g)
theorem turn_V (n : Bool) (s : ByteArray) (e : Int) : V ⟨turnB n s, s.data.toList, e⟩ = - V ⟨n, s.data.toList, e⟩ := by
  unfold turnB
  by_cases z : s.size = 0
  · rw [if_pos z, V_zero ((nil_size s).2 z)]; rfl
  · rw [if_neg z]
    unfold V
    cases n
    · simp only [Bool.not_false, if_true, Bool.false_eq_true, if_false]; rfl
    · simp only [Bool.not_true, Bool.false_eq_true, if_false, if_true, Int.neg_neg]; rfl
/-- What is known of how three numbers stand. -/
theorem sg_facts (a b c : Int) : (sg a b ≤ 0 → sg b c ≤ 0 → ¬ 0 < sg a c) ∧ (sg a b < 0 → sg b c < 0 → ¬ 0 ≤ sg a c) ∧ (-1 ≤ sg a b ∧ sg a b ≤ 1) ∧ (-1 ≤ sg b c ∧ sg b c ≤ 1) ∧ (-1 ≤ sg a c ∧ sg a c ≤ 1) := by
  unfold sg
  refine ⟨?_, ?_, ?_, ?_, ?_⟩
  · split <;> split <;> (try split) <;> (try split) <;> omega
  · split <;> split <;> (try split) <;> (try split) <;> omega
  · split <;> (try split) <;> omega
  · split <;> (try split) <;> omega
  · split <;> (try split) <;> omega

set_option maxRecDepth 100000 in
set_option maxHeartbeats 1600000 in
theorem ord_bad1 (n1 n2 n3 : Bool) (s1 s2 s3 : ByteArray) (e1 e2 e3 : Int) (a : Addr) (w : World) (hE : Env w a) (b1 : s1.size ≤ maxLen) (g1 : goodB n1 s1 e1 = false) :
    Calls Tryz.prog 6 #[.agg #[.bool n1, .string s1, .int .i64 e1], .agg #[.bool n2, .string s2, .int .i64 e2], .agg #[.bool n3, .string s3, .int .i64 e3]] w fun r w' => r = .returned (.bool true) ∧ Below w.heap.size w w' := by
  have h7 := fun w hE => heads3_any a w hE
  have h1 := fun w => check_any n1 s1 e1 w b1
  rw [g1] at h1
  simp only [errB, Bool.false_eq_true, if_false] at h1
  clear b1 g1
  go_enter Tryz.func6, Tryz.ntmps6
  go_wp2_with fail
  refine (h1 _).mono ?_
  rintro r w1 ⟨rfl, hb1⟩
  have hA1 : Below (((w.alloc (.cells #[.bool n1, .string s1, .int .i64 e1] 23)).alloc (.cells #[.bool n2, .string s2, .int .i64 e2] 23)).alloc (.cells #[.bool n3, .string s3, .int .i64 e3] 23)).heap.size (((w.alloc (.cells #[.bool n1, .string s1, .int .i64 e1] 23)).alloc (.cells #[.bool n2, .string s2, .int .i64 e2] 23)).alloc (.cells #[.bool n3, .string s3, .int .i64 e3] 23)) w1 := bl_t (Below.refl _ _) hb1
  obtain ⟨ka1, kb1, kc1, za1, zb1⟩ := keep3 hA1
  go_wp2_with fail
  refine (h7 _ ((((hE.alloc _).alloc _).alloc _).below hA1)).mono ?_
  rintro r w9 ⟨rfl, hb9⟩
  go_wp2
  go_ret
  exact ⟨rfl, bl_t (bl_a (bl_a (bl_a (Below.refl _ _) _) _) _) (bl_t hA1 hb9)⟩

set_option maxRecDepth 100000 in
set_option maxHeartbeats 1600000 in
theorem ord_bad2 (n1 n2 n3 : Bool) (s1 s2 s3 : ByteArray) (e1 e2 e3 : Int) (a : Addr) (w : World) (hE : Env w a) (b1 : s1.size ≤ maxLen) (b2 : s2.size ≤ maxLen) (g1 : goodB n1 s1 e1 = true) (g2 : goodB n2 s2 e2 = false) :
    Calls Tryz.prog 6 #[.agg #[.bool n1, .string s1, .int .i64 e1], .agg #[.bool n2, .string s2, .int .i64 e2], .agg #[.bool n3, .string s3, .int .i64 e3]] w fun r w' => r = .returned (.bool true) ∧ Below w.heap.size w w' := by
  have h7 := fun w hE => heads3_any a w hE
  have h1 := fun w => check_any n1 s1 e1 w b1
  rw [g1] at h1
  simp only [errB, if_true] at h1
  have h2 := fun w => check_any n2 s2 e2 w b2
  rw [g2] at h2
  simp only [errB, Bool.false_eq_true, if_false] at h2
  clear b1 g1 b2 g2
  go_enter Tryz.func6, Tryz.ntmps6
  go_wp2_with fail
  refine (h1 _).mono ?_
  rintro r w1 ⟨rfl, hb1⟩
  have hA1 : Below (((w.alloc (.cells #[.bool n1, .string s1, .int .i64 e1] 23)).alloc (.cells #[.bool n2, .string s2, .int .i64 e2] 23)).alloc (.cells #[.bool n3, .string s3, .int .i64 e3] 23)).heap.size (((w.alloc (.cells #[.bool n1, .string s1, .int .i64 e1] 23)).alloc (.cells #[.bool n2, .string s2, .int .i64 e2] 23)).alloc (.cells #[.bool n3, .string s3, .int .i64 e3] 23)) w1 := bl_t (Below.refl _ _) hb1
  obtain ⟨ka1, kb1, kc1, za1, zb1⟩ := keep3 hA1
  go_wp2_with fail
  refine (h2 _).mono ?_
  rintro r w2 ⟨rfl, hb2⟩
  have hA2 : Below (((w.alloc (.cells #[.bool n1, .string s1, .int .i64 e1] 23)).alloc (.cells #[.bool n2, .string s2, .int .i64 e2] 23)).alloc (.cells #[.bool n3, .string s3, .int .i64 e3] 23)).heap.size (((w.alloc (.cells #[.bool n1, .string s1, .int .i64 e1] 23)).alloc (.cells #[.bool n2, .string s2, .int .i64 e2] 23)).alloc (.cells #[.bool n3, .string s3, .int .i64 e3] 23)) w2 := bl_t hA1 hb2
  obtain ⟨ka2, kb2, kc2, za2, zb2⟩ := keep3 hA2
  go_wp2_with fail
  refine (h7 _ ((((hE.alloc _).alloc _).alloc _).below hA2)).mono ?_
  rintro r w9 ⟨rfl, hb9⟩
  go_wp2
  go_ret
  exact ⟨rfl, bl_t (bl_a (bl_a (bl_a (Below.refl _ _) _) _) _) (bl_t hA2 hb9)⟩

set_option maxRecDepth 100000 in
set_option maxHeartbeats 1600000 in
theorem ord_bad3 (n1 n2 n3 : Bool) (s1 s2 s3 : ByteArray) (e1 e2 e3 : Int) (a : Addr) (w : World) (hE : Env w a) (b1 : s1.size ≤ maxLen) (b2 : s2.size ≤ maxLen) (b3 : s3.size ≤ maxLen) (g1 : goodB n1 s1 e1 = true) (g2 : goodB n2 s2 e2 = true) (g3 : goodB n3 s3 e3 = false) :
    Calls Tryz.prog 6 #[.agg #[.bool n1, .string s1, .int .i64 e1], .agg #[.bool n2, .string s2, .int .i64 e2], .agg #[.bool n3, .string s3, .int .i64 e3]] w fun r w' => r = .returned (.bool true) ∧ Below w.heap.size w w' := by
  have h7 := fun w hE => heads3_any a w hE
  have h1 := fun w => check_any n1 s1 e1 w b1
  rw [g1] at h1
  simp only [errB, if_true] at h1
  have h2 := fun w => check_any n2 s2 e2 w b2
  rw [g2] at h2
  simp only [errB, if_true] at h2
  have h3 := fun w => check_any n3 s3 e3 w b3
  rw [g3] at h3
  simp only [errB, Bool.false_eq_true, if_false] at h3
  clear b1 g1 b2 g2 b3 g3
  go_enter Tryz.func6, Tryz.ntmps6
  go_wp2_with fail
  refine (h1 _).mono ?_
  rintro r w1 ⟨rfl, hb1⟩
  have hA1 : Below (((w.alloc (.cells #[.bool n1, .string s1, .int .i64 e1] 23)).alloc (.cells #[.bool n2, .string s2, .int .i64 e2] 23)).alloc (.cells #[.bool n3, .string s3, .int .i64 e3] 23)).heap.size (((w.alloc (.cells #[.bool n1, .string s1, .int .i64 e1] 23)).alloc (.cells #[.bool n2, .string s2, .int .i64 e2] 23)).alloc (.cells #[.bool n3, .string s3, .int .i64 e3] 23)) w1 := bl_t (Below.refl _ _) hb1
  obtain ⟨ka1, kb1, kc1, za1, zb1⟩ := keep3 hA1
  go_wp2_with fail
  refine (h2 _).mono ?_
  rintro r w2 ⟨rfl, hb2⟩
  have hA2 : Below (((w.alloc (.cells #[.bool n1, .string s1, .int .i64 e1] 23)).alloc (.cells #[.bool n2, .string s2, .int .i64 e2] 23)).alloc (.cells #[.bool n3, .string s3, .int .i64 e3] 23)).heap.size (((w.alloc (.cells #[.bool n1, .string s1, .int .i64 e1] 23)).alloc (.cells #[.bool n2, .string s2, .int .i64 e2] 23)).alloc (.cells #[.bool n3, .string s3, .int .i64 e3] 23)) w2 := bl_t hA1 hb2
  obtain ⟨ka2, kb2, kc2, za2, zb2⟩ := keep3 hA2
  go_wp2_with fail
  refine (h3 _).mono ?_
  rintro r w3 ⟨rfl, hb3⟩
  have hA3 : Below (((w.alloc (.cells #[.bool n1, .string s1, .int .i64 e1] 23)).alloc (.cells #[.bool n2, .string s2, .int .i64 e2] 23)).alloc (.cells #[.bool n3, .string s3, .int .i64 e3] 23)).heap.size (((w.alloc (.cells #[.bool n1, .string s1, .int .i64 e1] 23)).alloc (.cells #[.bool n2, .string s2, .int .i64 e2] 23)).alloc (.cells #[.bool n3, .string s3, .int .i64 e3] 23)) w3 := bl_t hA2 hb3
  obtain ⟨ka3, kb3, kc3, za3, zb3⟩ := keep3 hA3
  go_wp2_with fail
  refine (h7 _ ((((hE.alloc _).alloc _).alloc _).below hA3)).mono ?_
  rintro r w9 ⟨rfl, hb9⟩
  go_wp2
  go_ret
  exact ⟨rfl, bl_t (bl_a (bl_a (bl_a (Below.refl _ _) _) _) _) (bl_t hA3 hb9)⟩

end Go.Proofs.YtpeoepcfiejpmabGreatDoor
