/-
  What ref3.Compare answers, and DecCompares: it answers true for every two numbers, and leaves memory that was there as it was. Conditions: the package's sentinel, and the library's variables, as the program lays them.
-/
import Derived.Test.YtpeoepcfiejpmabGreatDoorT1c
import Derived.Test.YtpeoepcfiejpmabGreatDoorS18
namespace Go.Proofs.YtpeoepcfiejpmabGreatDoor
open Go.RowKit
attribute [local go_sem] setCell_drewN alloc_drewN

theorem sgnD_cases (n : Bool) (s : ByteArray) : (s.size = 0 ∧ sgnD n s = 0) ∨ (s.size ≠ 0 ∧ n = true ∧ sgnD n s = -1) ∨ (s.size ≠ 0 ∧ n = false ∧ sgnD n s = 1) := by
  unfold sgnD
  by_cases h : s.size = 0
  · exact .inl ⟨h, if_pos h⟩
  · rw [if_neg h]
    cases n
    · exact .inr (.inr ⟨h, rfl, rfl⟩)
    · exact .inr (.inl ⟨h, rfl, rfl⟩)
theorem sg_bd (a b : Int) : -1 ≤ sg a b ∧ sg a b ≤ 1 := by
  unfold sg
  split <;> (try split) <;> omega
theorem rcompare_any (n m : Bool) (s t : ByteArray) (e f : Int) (w : World) (hs : s.size ≤ maxLen) (ht : t.size ≤ maxLen) :
    Calls Tryz.prog 19 #[.agg #[.bool n, .string s, .int .i64 e], .agg #[.bool m, .string t, .int .i64 f]] w fun r w' => r = .returned (.tuple #[.int .i64 (if (goodB n s e && goodB m t f) = true then sg (V ⟨n, s.data.toList, e⟩) (V ⟨m, t.data.toList, f⟩) else 0), .int .i64 (errB (goodB n s e && goodB m t f))]) ∧ Below w.heap.size w w' := by
  have h1 := fun w => rcheck_any n s e w hs
  have h2 := fun w => rcheck_any m t f w ht
  cases gA : goodB n s e
  · rw [gA] at h1
    exact rcmp_bad1 n m s t e f w h1
  · rw [gA] at h1
    cases gB : goodB m t f
    · rw [gB] at h2
      exact rcmp_bad2 n m s t e f w h1 h2
    · rw [gB] at h2
      have g1 := fun w => rsign_any n s e w
      have g2 := fun w => rsign_any m t f w
      simp only [Bool.and_self, if_true, errB]
      rw [order_V (of_decide_eq_true gA) (of_decide_eq_true gB), ← sgnD_eq n s e, ← sgnD_eq m t f]
      by_cases hs : sgnD n s = sgnD m t
      · rw [if_pos hs]
        have nl : ¬ sgnD n s < sgnD m t := by omega
        have ng : ¬ sgnD m t < sgnD n s := by omega
        rcases sgnD_cases n s with ⟨z, q⟩ | ⟨z, rfl, q⟩ | ⟨z, rfl, q⟩
        · have hn : n = false := by
            rcases of_decide_eq_true gA with g | g
            · exact g.2.1
            · exact absurd ((nil_size s).2 z) g.1.1
          subst hn
          have hl : s.data.toList = [] := (nil_size s).2 z
          simp only [Bool.false_eq_true, if_false, if_pos hl]
          exact rcmp_zero false m s t e f _ _ w h1 h2 g1 g2 nl ng (by rw [q]; rfl)
        · have z2 : t.size ≠ 0 := by
            rcases sgnD_cases m t with ⟨_, q2⟩ | ⟨z2, _⟩ | ⟨z2, _⟩
            · omega
            · exact z2
            · exact z2
          have h3 := fun w => size_any true m s t e f w gA gB z z2
          obtain ⟨sk, _⟩ := dig_ok gA z
          obtain ⟨tk, _⟩ := dig_ok gB z2
          obtain ⟨_, s2, _⟩ := good_bounds gA z
          obtain ⟨_, t2, _⟩ := good_bounds gB z2
          rw [sizes_eq (a := ⟨true, s.data.toList, e⟩) (b := ⟨m, t.data.toList, f⟩) sk tk s2 t2] at h3
          rw [q] at g1
          rw [← hs, q] at g2
          have zb := sg_bd (size3 ⟨true, s.data.toList, e⟩) (size3 ⟨m, t.data.toList, f⟩)
          have k := rcmp_size true m s t e f (-1) (-1) _ w h1 h2 g1 g2 h3 (by omega) (by omega) rfl (by omega) (by omega)
          simp only [if_true]
          rw [sizes_eq (a := ⟨m, t.data.toList, f⟩) (b := ⟨true, s.data.toList, e⟩) tk sk t2 s2, sg_swap, ← Int.neg_one_mul]
          exact k
        · have z2 : t.size ≠ 0 := by
            rcases sgnD_cases m t with ⟨_, q2⟩ | ⟨z2, _⟩ | ⟨z2, _⟩
            · omega
            · exact z2
            · exact z2
          have h3 := fun w => size_any false m s t e f w gA gB z z2
          obtain ⟨sk, _⟩ := dig_ok gA z
          obtain ⟨tk, _⟩ := dig_ok gB z2
          obtain ⟨_, s2, _⟩ := good_bounds gA z
          obtain ⟨_, t2, _⟩ := good_bounds gB z2
          rw [sizes_eq (a := ⟨false, s.data.toList, e⟩) (b := ⟨m, t.data.toList, f⟩) sk tk s2 t2] at h3
          rw [q] at g1
          rw [← hs, q] at g2
          have zb := sg_bd (size3 ⟨false, s.data.toList, e⟩) (size3 ⟨m, t.data.toList, f⟩)
          have k := rcmp_size false m s t e f 1 1 _ w h1 h2 g1 g2 h3 (by omega) (by omega) rfl (by omega) (by omega)
          have hl : ¬ s.data.toList = [] := fun h => z ((nil_size s).1 h)
          simp only [Bool.false_eq_true, if_false, if_neg hl]
          rw [Int.one_mul] at k
          rw [sizes_eq (a := ⟨false, s.data.toList, e⟩) (b := ⟨m, t.data.toList, f⟩) sk tk s2 t2]
          exact k
      · rw [if_neg hs]
        by_cases l : sgnD n s < sgnD m t
        · rw [show sg (sgnD n s) (sgnD m t) = -1 by simp [sg, l]]
          exact rcmp_lt n m s t e f _ _ w h1 h2 g1 g2 l
        · have g : sgnD m t < sgnD n s := by omega
          rw [show sg (sgnD n s) (sgnD m t) = 1 by simp [sg, l, g]]
          exact rcmp_gt n m s t e f _ _ w h1 h2 g1 g2 g

set_option maxRecDepth 100000 in
set_option maxHeartbeats 1600000 in
theorem compares_main (n m : Bool) (s t : ByteArray) (e f x y : Int) (a : Addr) (w : World) (hE : Env w a)
    (c1 : ∀ w, Calls Tryz.prog 18 #[.agg #[.bool n, .string s, .int .i64 e], .agg #[.bool m, .string t, .int .i64 f]] w fun r w' => r = .returned (.tuple #[.int .i64 x, .int .i64 y]) ∧ Below w.heap.size w w')
    (c2 : ∀ w, Calls Tryz.prog 19 #[.agg #[.bool n, .string s, .int .i64 e], .agg #[.bool m, .string t, .int .i64 f]] w fun r w' => r = .returned (.tuple #[.int .i64 x, .int .i64 y]) ∧ Below w.heap.size w w') :
    Calls Tryz.prog 4 #[.agg #[.bool n, .string s, .int .i64 e], .agg #[.bool m, .string t, .int .i64 f]] w fun r w' => r = .returned (.bool true) ∧ Below w.heap.size w w' := by
  have h7 := fun w hE => heads3_any a w hE
  go_enter Tryz.func4, Tryz.ntmps4
  go_wp2_with fail
  refine (c1 _).mono ?_
  rintro r w1 ⟨rfl, hb1⟩
  obtain ⟨ka1, kb1, za1, zb1⟩ := keep2 hb1
  go_wp2_with fail
  refine (c2 _).mono ?_
  rintro r w2 ⟨rfl, hb2⟩
  have hA2 := bl_t hb1 hb2
  clear ka1 kb1 za1 zb1
  go_wp2_with fail
  refine (h7 _ (((hE.alloc _).alloc _).below hA2)).mono ?_
  rintro r w9 ⟨rfl, hb9⟩
  go_wp2
  go_ret
  exact ⟨rfl, bl_t (bl_a (bl_a (Below.refl _ _) _) _) (bl_t hA2 hb9)⟩
theorem compares_walk (n m : Bool) (s t : ByteArray) (e f : Int) (a : Addr) (w : World) (hE : Env w a) (hs : s.size ≤ maxLen) (ht : t.size ≤ maxLen) :
    Calls Tryz.prog 4 #[.agg #[.bool n, .string s, .int .i64 e], .agg #[.bool m, .string t, .int .i64 f]] w fun r w' => r = .returned (.bool true) ∧ Below w.heap.size w w' :=
  compares_main n m s t e f _ _ a w hE (fun w => compare_any n m s t e f w hs ht) (fun w => rcompare_any n m s t e f w hs ht)
end Go.Proofs.YtpeoepcfiejpmabGreatDoor
