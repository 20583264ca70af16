/-
  DecMultiples answers true for every two numbers, and leaves memory that was there as it was. Conditions: the package's sentinel, and the library's variables, as the program lays them.
-/
import Derived.Test.YtfhapeinfhjihaaGreatDoorS24
namespace Go.Proofs.YtfhapeinfhjihaaGreatDoor
open Go.RowKit
attribute [local go_sem] setCell_drewN alloc_drewN

theorem keep2m {w w' : World} {c1 c2 : Array Value} {t : TypeId} (h : Below ((w.alloc (.cells c1 t)).alloc (.cells c2 t)).heap.size ((w.alloc (.cells c1 t)).alloc (.cells c2 t)) w') :
    (∀ o, w'.cell? ⟨w.heap.size, o, none⟩ = c1[o]?) ∧ (∀ o, w'.cell? ⟨w.heap.size + 1, o, none⟩ = c2[o]?) ∧ w.heap.size < w'.heap.size ∧ w.heap.size + 1 < w'.heap.size := by
  have z := h.size
  simp only [World.size_alloc] at z
  refine ⟨fun o => ?_, fun o => ?_, by omega, by omega⟩
  · rw [h.cell (p := ⟨w.heap.size, o, none⟩) (by simp only [World.size_alloc]; omega)]
    simp [go_sem]
  · rw [h.cell (p := ⟨w.heap.size + 1, o, none⟩) (by simp only [World.size_alloc]; omega)]
    simp [go_sem]
theorem good_parts {n : Bool} {s : ByteArray} {e : Int} (h : goodB n s e = true) (h0 : s.size ≠ 0) : (-1000000 ≤ e ∧ e ≤ 1000000) ∧ Digits s ∧ cx s (s.size - 1) ≠ 48 := by
  rcases of_decide_eq_true h with g | g
  · exact absurd ((nil_size s).1 g.1) h0
  · have d := (digB_iff s h0).1 (decide_eq_true g.1)
    exact ⟨g.2, fun i hi => d.2.1 i hi, d.2.2.2⟩
theorem eq_none {n : Bool} {s : ByteArray} {e : Int} (h0 : s.size ≠ 0) : eqD n s e false ⟨#[]⟩ 0 = false := decide_eq_false (fun h => h0 (by rw [h.2.1]; rfl))
theorem size_nil {s : ByteArray} (h : s.size = 0) : s = ⟨#[]⟩ := by
  obtain ⟨d⟩ := s
  have : d = #[] := Array.eq_empty_of_size_eq_zero h
  rw [this]
theorem eq_nought {n : Bool} {s : ByteArray} {e : Int} (h : goodB n s e = true) (h0 : s.size = 0) : eqD n s e false ⟨#[]⟩ 0 = true ∧ e = 0 := by
  rw [good_empty h0] at h
  obtain ⟨a, b⟩ := of_decide_eq_true h
  exact ⟨decide_eq_true ⟨a, size_nil h0, b⟩, b⟩
/-- What dec.Multiple answers. -/
def mulR (n m : Bool) (s t : ByteArray) (e f : Int) : Bool × Int :=
  if (goodB n s e && goodB m t f) = false then (false, 2) else if sgnD m t ≤ 0 then (false, 20) else
  if s.size = 0 then (true, 0) else if e < f then (false, 0) else (multB (dec (dig s) s.size) (dec (dig t) t.size) (e - f).toNat, 0)
theorem mult_dec (n m : Bool) (s t : ByteArray) (e f : Int) (hs : s.size ≤ 400) (ht : t.size ≤ 400) (w : World) :
    Calls Tryz.prog 17 #[.agg #[.bool n, .string s, .int .i64 e], .agg #[.bool m, .string t, .int .i64 f]] w fun r w' => r = .returned (.tuple #[.bool (mulR n m s t e f).1, .int .i64 (mulR n m s t e f).2]) ∧ Below w.heap.size w w' := by
  have hs' : s.size ≤ maxLen := by unfold maxLen; omega
  have ht' : t.size ≤ maxLen := by unfold maxLen; omega
  unfold mulR
  cases hg : (goodB n s e && goodB m t f)
  · rw [if_pos rfl]
    exact multiple_bad n m s t e f w hs' ht' hg
  · rw [if_neg (by simp)]
    obtain ⟨gA, gB⟩ : goodB n s e = true ∧ goodB m t f = true := by simpa using hg
    by_cases hsg : sgnD m t ≤ 0
    · rw [if_pos hsg]
      exact multiple_sign n m s t e f w hs' ht' gA gB hsg
    · rw [if_neg hsg]
      have t0 : t.size ≠ 0 := fun h => hsg (by unfold sgnD; rw [if_pos h]; decide)
      have hs1 : sgnD m t = 1 := by
        unfold sgnD at hsg ⊢
        rw [if_neg t0] at hsg ⊢
        cases m
        · rfl
        · exact absurd (by decide : (-1 : Int) ≤ 0) hsg
      obtain ⟨⟨f0, f1⟩, td, tl⟩ := good_parts gB t0
      have p1000 : pw 45 ≤ pw 1000 := pw_mono (by omega)
      have hBl := dec_lt45 t ht td
      by_cases s0 : s.size = 0
      · rw [if_pos s0]
        obtain ⟨hz, rfl⟩ := eq_nought gA s0
        exact multiple_by n m s t 0 f true w hs' ht' gA gB hs1 (fun w => divides_zero m n t s f 0 w hz f0 f1 (by decide) (by decide))
      · rw [if_neg s0]
        obtain ⟨⟨e0, e1⟩, sd, sl⟩ := good_parts gA s0
        have hAl := dec_lt45 s hs sd
        by_cases hlt : e < f
        · rw [if_pos hlt]
          exact multiple_by n m s t e f false w hs' ht' gA gB hs1 (fun w => divides_lower m n t s f e w (eq_none s0) f0 f1 e0 e1 (by omega))
        · rw [if_neg hlt]
          exact multiple_by n m s t e f _ w hs' ht' gA gB hs1 (fun w => divides_some m n t s f e (e - f).toNat w (eq_none s0) f0 f1 e0 e1 (by omega) (by omega) (by omega) td (by omega) (by omega) sd tl (by omega) (by omega))
theorem dec_pos (s : ByteArray) (h1 : 1 ≤ s.size) (hd : Digits s) (hl : cx s (s.size - 1) ≠ 48) : 0 < dec (dig s) s.size := by
  have a := dec_last s h1
  have b := dec_nonneg s hd (s.size - 1) (by omega)
  have c := hd (s.size - 1) (by omega)
  rw [show chr s (s.size - 1) = cx s (s.size - 1) from rfl] at c
  omega
theorem mult_ref3 (n m : Bool) (s t : ByteArray) (e f : Int) (hs : s.size ≤ 400) (ht : t.size ≤ 400) (w : World) :
    Calls Tryz.prog 18 #[.agg #[.bool n, .string s, .int .i64 e], .agg #[.bool m, .string t, .int .i64 f]] w fun r w' => r = .returned (.tuple #[.bool (mulR n m s t e f).1, .int .i64 (mulR n m s t e f).2]) ∧ Below w.heap.size w w' := by
  have hs' : s.size ≤ maxLen := by unfold maxLen; omega
  have ht' : t.size ≤ maxLen := by unfold maxLen; omega
  unfold mulR
  cases gA : goodB n s e
  · rw [Bool.false_and, if_pos rfl]
    exact rmult_bad1 n m s t e f w hs' gA
  cases gB : goodB m t f
  · rw [Bool.and_false, if_pos rfl]
    exact rmult_bad2 n m s t e f w hs' ht' gA gB
  rw [if_neg (by simp)]
  by_cases hsg : sgnD m t ≤ 0
  · rw [if_pos hsg]
    exact rmult_sign n m s t e f w hs' ht' gA gB hsg
  · rw [if_neg hsg]
    have t0 : t.size ≠ 0 := fun h => hsg (by unfold sgnD; rw [if_pos h]; decide)
    have hs1 : sgnD m t = 1 := by
      unfold sgnD at hsg ⊢
      rw [if_neg t0] at hsg ⊢
      cases m
      · rfl
      · exact absurd (by decide : (-1 : Int) ≤ 0) hsg
    obtain ⟨⟨f0, f1⟩, td, tl⟩ := good_parts gB t0
    by_cases s0 : s.size = 0
    · rw [if_pos s0]
      exact rmult_zero n m s t e f w hs' ht' gA gB hs1 s0
    · rw [if_neg s0]
      obtain ⟨⟨e0, e1⟩, sd, sl⟩ := good_parts gA s0
      by_cases hlt : e < f
      · rw [if_pos hlt]
        exact rmult_lower n m s t e f w hs' ht' gA gB hs1 s0 hlt
      · rw [if_neg hlt]
        exact rmult_main n m s t e f w hs' ht' gA gB hs1 (by omega) hs sd (by omega) ht td (dec_pos t (by omega) td tl) (e - f).toNat (by omega) (by omega)

set_option maxRecDepth 100000 in
set_option maxHeartbeats 1600000 in
theorem multiples_main (n m : Bool) (s t : ByteArray) (e f : Int) (x : Bool) (y : Int) (a : Addr) (w : World) (hE : Env w a) (hs : s.size ≤ 400) (ht : t.size ≤ 400)
    (c1 : ∀ w, Calls Tryz.prog 17 #[.agg #[.bool n, .string s, .int .i64 e], .agg #[.bool m, .string t, .int .i64 f]] w fun r w' => r = .returned (.tuple #[.bool x, .int .i64 y]) ∧ Below w.heap.size w w')
    (c2 : ∀ w, Calls Tryz.prog 18 #[.agg #[.bool n, .string s, .int .i64 e], .agg #[.bool m, .string t, .int .i64 f]] w fun r w' => r = .returned (.tuple #[.bool x, .int .i64 y]) ∧ Below w.heap.size w w') :
    Calls Tryz.prog 4 #[.agg #[.bool n, .string s, .int .i64 e], .agg #[.bool m, .string t, .int .i64 f]] w fun r w' => r = .returned (.bool true) ∧ Below w.heap.size w w' := by
  have h7 := fun w hE => heads3_any a w hE
  have hsI : ¬ (400 : Int) < (s.size : Int) := by omega
  have htI : ¬ (400 : Int) < (t.size : Int) := by omega
  clear hs ht
  go_enter Tryz.func4, Tryz.ntmps4
  go_wp2_with fail
  refine (c1 _).mono ?_
  rintro r w1 ⟨rfl, hb1⟩
  obtain ⟨ka1, kb1, za1, zb1⟩ := keep2m hb1
  go_wp2_with fail
  refine (c2 _).mono ?_
  rintro r w2 ⟨rfl, hb2⟩
  have hA2 := bl_t hb1 hb2
  clear ka1 kb1 za1 zb1
  cases x
  all_goals
    go_wp2_with fail
    refine (h7 _ (((hE.alloc _).alloc _).below hA2)).mono ?_
    rintro r w9 ⟨rfl, hb9⟩
    go_wp2
    go_ret
    exact ⟨rfl, bl_t (bl_a (bl_a (Below.refl _ _) _) _) (bl_t hA2 hb9)⟩

set_option maxRecDepth 100000 in
set_option maxHeartbeats 1600000 in
theorem multiples_long (n m : Bool) (s t : ByteArray) (e f : Int) (a : Addr) (w : World) (hE : Env w a) (hs : s.size ≤ maxLen) (ht : t.size ≤ maxLen) (h : ¬ (s.size ≤ 400 ∧ t.size ≤ 400)) :
    Calls Tryz.prog 4 #[.agg #[.bool n, .string s, .int .i64 e], .agg #[.bool m, .string t, .int .i64 f]] w fun r w' => r = .returned (.bool true) ∧ Below w.heap.size w w' := by
  have h7 := fun w hE => heads3_any a w hE
  unfold maxLen at hs ht
  by_cases hl : s.size ≤ 400
  · have hsI : ¬ (400 : Int) < (s.size : Int) := by omega
    have htI : (400 : Int) < (t.size : Int) := by omega
    clear h hl
    go_enter Tryz.func4, Tryz.ntmps4
    go_wp2_with fail
    refine (h7 _ ((hE.alloc _).alloc _)).mono ?_
    rintro r w9 ⟨rfl, hb9⟩
    go_wp2
    go_ret
    exact ⟨rfl, bl_t (bl_a (bl_a (Below.refl _ _) _) _) hb9⟩
  · have hsI : (400 : Int) < (s.size : Int) := by omega
    clear h hl
    go_enter Tryz.func4, Tryz.ntmps4
    go_wp2_with fail
    refine (h7 _ ((hE.alloc _).alloc _)).mono ?_
    rintro r w9 ⟨rfl, hb9⟩
    go_wp2
    go_ret
    exact ⟨rfl, bl_t (bl_a (bl_a (Below.refl _ _) _) _) hb9⟩
theorem multiples_walk (n m : Bool) (s t : ByteArray) (e f : Int) (a : Addr) (w : World) (hE : Env w a) (hs : s.size ≤ maxLen) (ht : t.size ≤ maxLen) :
    Calls Tryz.prog 4 #[.agg #[.bool n, .string s, .int .i64 e], .agg #[.bool m, .string t, .int .i64 f]] w fun r w' => r = .returned (.bool true) ∧ Below w.heap.size w w' := by
  by_cases h : s.size ≤ 400 ∧ t.size ≤ 400
  · exact multiples_main n m s t e f _ _ a w hE h.1 h.2 (fun w => mult_dec n m s t e f h.1 h.2 w) (fun w => mult_ref3 n m s t e f h.1 h.2 w)
  · exact multiples_long n m s t e f a w hE hs ht h
end Go.Proofs.YtfhapeinfhjihaaGreatDoor
