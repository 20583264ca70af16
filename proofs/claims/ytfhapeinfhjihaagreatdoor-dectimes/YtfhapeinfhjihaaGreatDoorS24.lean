/-
  What dec.Multiple and ref3.Multiple answer: the same. Conditions: at most 400 digits.
-/
import Derived.Test.YtfhapeinfhjihaaGreatDoorS18
import Derived.Test.YtfhapeinfhjihaaGreatDoorSM
import Derived.Test.YtfhapeinfhjihaaGreatDoorRR
import Derived.Test.YtfhapeinfhjihaaGreatDoorO2r
namespace Go.Proofs.YtfhapeinfhjihaaGreatDoor
open Go.RowKit
attribute [local go_sem] setCell_drewN alloc_drewN

theorem rsign_b (n : Bool) (s : ByteArray) (e : Int) (w : World) :
    Calls Tryz.prog 38 #[.agg #[.bool n, .string s, .int .i64 e]] w fun r w' => r = .returned (.int .i64 (sgnD n s)) ∧ Below w.heap.size w w' := by
  by_cases h0 : s.size = 0
  · have hn : s.toList = [] := by rw [ByteArray.toList_eq]; exact (nil_size s).2 h0
    have HS : Hid (sgnD n s = 0) := if_pos h0
    clear h0
    go_enter Tryz.func38, Tryz.ntmps38
    go_wp2
    go_ret
    exact ⟨r3_int HS.out.symm, bl_a (Below.refl _ _) _⟩
  · have hn := toList_ne (s := s) (by omega)
    have HS : Hid (sgnD n s = if n = true then -1 else 1) := if_neg h0
    clear h0
    cases n
    · go_enter Tryz.func38, Tryz.ntmps38
      go_wp2
      go_ret
      exact ⟨r3_int HS.out.symm, bl_a (Below.refl _ _) _⟩
    · go_enter Tryz.func38, Tryz.ntmps38
      go_wp2
      go_ret
      exact ⟨r3_int HS.out.symm, bl_a (Below.refl _ _) _⟩

theorem rpower_n (v0 v1 : Value) (A M nn : Int) (w : World) (h0 : Num w v0 A) (h1 : Num w v1 M) (hA : A < pw 400) (hM : M < pw 400) (hM0 : 0 < M) (n0 : 0 ≤ nn) (n1 : nn < 9223372036854775808) :
    Calls Tryz.prog 40 #[v0, .int .i64 nn, v1] w fun e w' => ∃ r, e = .returned (.tuple #[r, .int .i64 0]) ∧ Num w' r (A ^ nn.toNat % M) ∧ Below w.heap.size w w' := by
  obtain ⟨n, f, r0, c0, e0⟩ := h0
  obtain ⟨m, g, r1, c1, e1⟩ := h1
  exact rpower_ok v0 v1 A M n m f g nn w r0 r1 c0 c1 e0 e1 hA hM hM0 n0 n1
theorem rmul_n (v0 v1 : Value) (A B : Int) (w : World) (h0 : Num w v0 A) (h1 : Num w v1 B) (hA : A < pw 400) (hB : B < pw 400) :
    Calls Tryz.prog 41 #[v0, v1] w fun e w' => ∃ r, e = .returned (.tuple #[r, .int .i64 0]) ∧ Num w' r (A * B) ∧ Below w.heap.size w w' := by
  obtain ⟨n, f, r0, c0, e0⟩ := h0
  obtain ⟨m, g, r1, c1, e1⟩ := h1
  exact rmul_ok v0 v1 A B n m f g w r0 r1 c0 c1 e0 e1 hA hB
theorem rdiv_n (v0 v1 : Value) (A B : Int) (w : World) (h0 : Num w v0 A) (h1 : Num w v1 B) (hA : A < pw 400) (hB : B < pw 400) (hB0 : 0 < B) :
    Calls Tryz.prog 42 #[v0, v1] w fun e w' => ∃ rq, ∃ rr, e = .returned (.tuple #[rq, rr, .int .i64 0]) ∧ Divides w' rq rr A B ∧ Below w.heap.size w w' := by
  obtain ⟨n, f, r0, c0, e0⟩ := h0
  obtain ⟨m, g, r1, c1, e1⟩ := h1
  exact rdiv_ok v0 v1 A B n m f g w r0 r1 c0 c1 e0 e1 hA hB hB0
theorem ten400 : (10 : Int) ^ 400 ≤ pw 45 := by unfold pw; decide +kernel
theorem ten_pw400 : (10 : Int) < pw 400 := by
  have h1 : pw 2 ≤ pw 400 := pw_mono (by omega)
  have h2 : pw 2 = 1000000000000000000 := by unfold pw; decide +kernel
  omega
theorem dec_lt45 (s : ByteArray) (hs : s.size ≤ 400) (hd : Digits s) : dec (dig s) s.size < pw 45 := by
  have h1 := (dec_bd (dig s) s.size (fun i hi => by have := hd i hi; unfold dig; omega)).2
  have h2 := pow_mono10 hs
  have := ten400
  omega

set_option maxRecDepth 100000 in
set_option maxHeartbeats 1600000 in
theorem multiple_bad (n m : Bool) (s t : ByteArray) (e f : Int) (w : World) (hs : s.size ≤ maxLen) (ht : t.size ≤ maxLen) (hg : (goodB n s e && goodB m t f) = false) :
    Calls Tryz.prog 17 #[.agg #[.bool n, .string s, .int .i64 e], .agg #[.bool m, .string t, .int .i64 f]] w fun r w' => r = .returned (.tuple #[.bool false, .int .i64 2]) ∧ Below w.heap.size w w' := by
  have h1 := fun b w k => checked_two n m s t e f b w hs ht k
  rw [hg] at h1
  simp only [errB, Bool.false_eq_true, if_false] at h1
  clear hs ht hg
  go_enter Tryz.func17, Tryz.ntmps17
  go_wp2_with fail
  refine (h1 _ _ (by simp) ?_ ?_ ?_ ?_ ?_ ?_).mono ?_
  iterate 6 (simp [go_sem])
  rintro r w1 ⟨rfl, hb1⟩
  go_wp2
  go_ret2
  exact ⟨rfl, (by with_reducible repeat (first | exact Below.refl _ _ | refine bl_t ?_ hb9 | refine bl_t ?_ hb8 | refine bl_t ?_ hb7 | refine bl_t ?_ hb6 | refine bl_t ?_ hb5 | refine bl_t ?_ hb4 | refine bl_t ?_ hb3 | refine bl_t ?_ hb2 | refine bl_t ?_ hb1 | refine bl_d ?_ | refine bl_n ?_ _ | refine bl_a ?_ _ | refine bl_s ?_ (by omega) _))⟩

set_option maxRecDepth 100000 in
set_option maxHeartbeats 1600000 in
theorem multiple_sign (n m : Bool) (s t : ByteArray) (e f : Int) (w : World) (hs : s.size ≤ maxLen) (ht : t.size ≤ maxLen) (gA : goodB n s e = true) (gB : goodB m t f = true) (hsg : sgnD m t ≤ 0) :
    Calls Tryz.prog 17 #[.agg #[.bool n, .string s, .int .i64 e], .agg #[.bool m, .string t, .int .i64 f]] w fun r w' => r = .returned (.tuple #[.bool false, .int .i64 20]) ∧ Below w.heap.size w w' := by
  have h1 := fun b w k => checked_two n m s t e f b w hs ht k
  have h2 := fun w => sign_dec m t f w gB
  rw [gA, gB] at h1
  simp only [errB, Bool.and_self, if_true] at h1
  clear hs ht gA gB
  generalize sgnD m t = g at *
  go_enter Tryz.func17, Tryz.ntmps17
  go_wp2_with fail
  refine (h1 _ _ (by simp) ?_ ?_ ?_ ?_ ?_ ?_).mono ?_
  iterate 6 (simp [go_sem])
  rintro r w1 ⟨rfl, hb1⟩
  have ka1 : ∀ o, w1.cell? ⟨w.heap.size, o, none⟩ = #[Value.bool n, .string s, .int .i64 e][o]? := fun o => by rw [hb1.cell (p := ⟨w.heap.size, o, none⟩) (by simp <;> omega)]; simp [go_sem]
  have kb1 : ∀ o, w1.cell? ⟨w.heap.size + 1, o, none⟩ = #[Value.bool m, .string t, .int .i64 f][o]? := fun o => by rw [hb1.cell (p := ⟨w.heap.size + 1, o, none⟩) (by simp <;> omega)]; simp [go_sem]
  have hz1 : w.heap.size + 1 < w1.heap.size := by have := hb1.size; simp at this; omega
  go_wp2_with fail
  refine (h2 _).mono ?_
  rintro r w2 ⟨rfl, hb2⟩
  go_wp2
  go_ret2
  exact ⟨rfl, (by with_reducible repeat (first | exact Below.refl _ _ | refine bl_t ?_ hb9 | refine bl_t ?_ hb8 | refine bl_t ?_ hb7 | refine bl_t ?_ hb6 | refine bl_t ?_ hb5 | refine bl_t ?_ hb4 | refine bl_t ?_ hb3 | refine bl_t ?_ hb2 | refine bl_t ?_ hb1 | refine bl_d ?_ | refine bl_n ?_ _ | refine bl_a ?_ _ | refine bl_s ?_ (by omega) _))⟩

set_option maxRecDepth 100000 in
set_option maxHeartbeats 1600000 in
theorem rmult_bad1 (n m : Bool) (s t : ByteArray) (e f : Int) (w : World) (hs : s.size ≤ maxLen) (gA : goodB n s e = false) :
    Calls Tryz.prog 18 #[.agg #[.bool n, .string s, .int .i64 e], .agg #[.bool m, .string t, .int .i64 f]] w fun r w' => r = .returned (.tuple #[.bool false, .int .i64 2]) ∧ Below w.heap.size w w' := by
  have c1 := fun w => rcheck_any n s e w hs
  rw [gA] at c1
  simp only [errB, Bool.false_eq_true, if_false] at c1
  clear hs gA
  go_enter Tryz.func18, Tryz.ntmps18
  go_wp2_with fail
  refine (c1 _).mono ?_
  rintro r w1 ⟨rfl, hb1⟩
  go_wp2
  go_ret2
  exact ⟨rfl, (by with_reducible repeat (first | exact Below.refl _ _ | refine bl_t ?_ hb9 | refine bl_t ?_ hb8 | refine bl_t ?_ hb7 | refine bl_t ?_ hb6 | refine bl_t ?_ hb5 | refine bl_t ?_ hb4 | refine bl_t ?_ hb3 | refine bl_t ?_ hb2 | refine bl_t ?_ hb1 | refine bl_d ?_ | refine bl_n ?_ _ | refine bl_a ?_ _ | refine bl_s ?_ (by omega) _))⟩

set_option maxRecDepth 100000 in
set_option maxHeartbeats 1600000 in
theorem rmult_bad2 (n m : Bool) (s t : ByteArray) (e f : Int) (w : World) (hs : s.size ≤ maxLen) (ht : t.size ≤ maxLen) (gA : goodB n s e = true) (gB : goodB m t f = false) :
    Calls Tryz.prog 18 #[.agg #[.bool n, .string s, .int .i64 e], .agg #[.bool m, .string t, .int .i64 f]] w fun r w' => r = .returned (.tuple #[.bool false, .int .i64 2]) ∧ Below w.heap.size w w' := by
  have c1 := fun w => rcheck_any n s e w hs
  have c2 := fun w => rcheck_any m t f w ht
  rw [gA] at c1
  rw [gB] at c2
  simp only [errB, Bool.false_eq_true, if_false, if_true] at c1 c2
  clear hs ht gA gB
  go_enter Tryz.func18, Tryz.ntmps18
  go_wp2_with fail
  refine (c1 _).mono ?_
  rintro r w1 ⟨rfl, hb1⟩
  have ka1 : ∀ o, w1.cell? ⟨w.heap.size, o, none⟩ = #[Value.bool n, .string s, .int .i64 e][o]? := fun o => by rw [hb1.cell (p := ⟨w.heap.size, o, none⟩) (by simp <;> omega)]; simp [go_sem]
  have kb1 : ∀ o, w1.cell? ⟨w.heap.size + 1, o, none⟩ = #[Value.bool m, .string t, .int .i64 f][o]? := fun o => by rw [hb1.cell (p := ⟨w.heap.size + 1, o, none⟩) (by simp <;> omega)]; simp [go_sem]
  have hz1 : w.heap.size + 1 < w1.heap.size := by have := hb1.size; simp at this; omega
  go_wp2_with fail
  refine (c2 _).mono ?_
  rintro r w2 ⟨rfl, hb2⟩
  go_wp2
  go_ret2
  exact ⟨rfl, (by with_reducible repeat (first | exact Below.refl _ _ | refine bl_t ?_ hb9 | refine bl_t ?_ hb8 | refine bl_t ?_ hb7 | refine bl_t ?_ hb6 | refine bl_t ?_ hb5 | refine bl_t ?_ hb4 | refine bl_t ?_ hb3 | refine bl_t ?_ hb2 | refine bl_t ?_ hb1 | refine bl_d ?_ | refine bl_n ?_ _ | refine bl_a ?_ _ | refine bl_s ?_ (by omega) _))⟩

set_option maxRecDepth 100000 in
set_option maxHeartbeats 1600000 in
theorem rmult_sign (n m : Bool) (s t : ByteArray) (e f : Int) (w : World) (hs : s.size ≤ maxLen) (ht : t.size ≤ maxLen) (gA : goodB n s e = true) (gB : goodB m t f = true) (hsg : sgnD m t ≤ 0) :
    Calls Tryz.prog 18 #[.agg #[.bool n, .string s, .int .i64 e], .agg #[.bool m, .string t, .int .i64 f]] w fun r w' => r = .returned (.tuple #[.bool false, .int .i64 20]) ∧ Below w.heap.size w w' := by
  have c1 := fun w => rcheck_any n s e w hs
  have c2 := fun w => rcheck_any m t f w ht
  have c3 := fun w => rsign_b m t f w
  rw [gA] at c1
  rw [gB] at c2
  simp only [errB, if_true] at c1 c2
  clear hs ht gA gB
  generalize sgnD m t = g at *
  go_enter Tryz.func18, Tryz.ntmps18
  go_wp2_with fail
  refine (c1 _).mono ?_
  rintro r w1 ⟨rfl, hb1⟩
  have ka1 : ∀ o, w1.cell? ⟨w.heap.size, o, none⟩ = #[Value.bool n, .string s, .int .i64 e][o]? := fun o => by rw [hb1.cell (p := ⟨w.heap.size, o, none⟩) (by simp <;> omega)]; simp [go_sem]
  have kb1 : ∀ o, w1.cell? ⟨w.heap.size + 1, o, none⟩ = #[Value.bool m, .string t, .int .i64 f][o]? := fun o => by rw [hb1.cell (p := ⟨w.heap.size + 1, o, none⟩) (by simp <;> omega)]; simp [go_sem]
  have hz1 : w.heap.size + 1 < w1.heap.size := by have := hb1.size; simp at this; omega
  go_wp2_with fail
  refine (c2 _).mono ?_
  rintro r w2 ⟨rfl, hb2⟩
  have ka2 : ∀ o, w2.cell? ⟨w.heap.size, o, none⟩ = #[Value.bool n, .string s, .int .i64 e][o]? := fun o => by rw [hb2.cell (p := ⟨w.heap.size, o, none⟩) (by show w.heap.size < _; omega)]; exact ka1 o
  have kb2 : ∀ o, w2.cell? ⟨w.heap.size + 1, o, none⟩ = #[Value.bool m, .string t, .int .i64 f][o]? := fun o => by rw [hb2.cell (p := ⟨w.heap.size + 1, o, none⟩) (by show w.heap.size + 1 < _; omega)]; exact kb1 o
  have hz2 : w.heap.size + 1 < w2.heap.size := Nat.lt_of_lt_of_le hz1 hb2.size
  clear ka1 kb1
  go_wp2_with fail
  refine (c3 _).mono ?_
  rintro r w3 ⟨rfl, hb3⟩
  go_wp2
  go_ret2
  exact ⟨rfl, (by with_reducible repeat (first | exact Below.refl _ _ | refine bl_t ?_ hb9 | refine bl_t ?_ hb8 | refine bl_t ?_ hb7 | refine bl_t ?_ hb6 | refine bl_t ?_ hb5 | refine bl_t ?_ hb4 | refine bl_t ?_ hb3 | refine bl_t ?_ hb2 | refine bl_t ?_ hb1 | refine bl_d ?_ | refine bl_n ?_ _ | refine bl_a ?_ _ | refine bl_s ?_ (by omega) _))⟩

set_option maxRecDepth 100000 in
set_option maxHeartbeats 1600000 in
theorem rmult_zero (n m : Bool) (s t : ByteArray) (e f : Int) (w : World) (hs : s.size ≤ maxLen) (ht : t.size ≤ maxLen) (gA : goodB n s e = true) (gB : goodB m t f = true) (hsg : sgnD m t = 1) (hz : s.size = 0) :
    Calls Tryz.prog 18 #[.agg #[.bool n, .string s, .int .i64 e], .agg #[.bool m, .string t, .int .i64 f]] w fun r w' => r = .returned (.tuple #[.bool true, .int .i64 0]) ∧ Below w.heap.size w w' := by
  have c1 := fun w => rcheck_any n s e w hs
  have c2 := fun w => rcheck_any m t f w ht
  have c3 := fun w => rsign_b m t f w
  rw [gA] at c1
  rw [gB] at c2
  simp only [errB, if_true] at c1 c2
  clear hs ht gA gB
  rw [hsg] at c3
  have hn : s.toList = [] := by rw [ByteArray.toList_eq]; exact (nil_size s).2 hz
  clear hsg hz
  go_enter Tryz.func18, Tryz.ntmps18
  go_wp2_with fail
  refine (c1 _).mono ?_
  rintro r w1 ⟨rfl, hb1⟩
  have ka1 : ∀ o, w1.cell? ⟨w.heap.size, o, none⟩ = #[Value.bool n, .string s, .int .i64 e][o]? := fun o => by rw [hb1.cell (p := ⟨w.heap.size, o, none⟩) (by simp <;> omega)]; simp [go_sem]
  have kb1 : ∀ o, w1.cell? ⟨w.heap.size + 1, o, none⟩ = #[Value.bool m, .string t, .int .i64 f][o]? := fun o => by rw [hb1.cell (p := ⟨w.heap.size + 1, o, none⟩) (by simp <;> omega)]; simp [go_sem]
  have hz1 : w.heap.size + 1 < w1.heap.size := by have := hb1.size; simp at this; omega
  go_wp2_with fail
  refine (c2 _).mono ?_
  rintro r w2 ⟨rfl, hb2⟩
  have ka2 : ∀ o, w2.cell? ⟨w.heap.size, o, none⟩ = #[Value.bool n, .string s, .int .i64 e][o]? := fun o => by rw [hb2.cell (p := ⟨w.heap.size, o, none⟩) (by show w.heap.size < _; omega)]; exact ka1 o
  have kb2 : ∀ o, w2.cell? ⟨w.heap.size + 1, o, none⟩ = #[Value.bool m, .string t, .int .i64 f][o]? := fun o => by rw [hb2.cell (p := ⟨w.heap.size + 1, o, none⟩) (by show w.heap.size + 1 < _; omega)]; exact kb1 o
  have hz2 : w.heap.size + 1 < w2.heap.size := Nat.lt_of_lt_of_le hz1 hb2.size
  clear ka1 kb1
  go_wp2_with fail
  refine (c3 _).mono ?_
  rintro r w3 ⟨rfl, hb3⟩
  have ka3 : ∀ o, w3.cell? ⟨w.heap.size, o, none⟩ = #[Value.bool n, .string s, .int .i64 e][o]? := fun o => by rw [hb3.cell (p := ⟨w.heap.size, o, none⟩) (by show w.heap.size < _; omega)]; exact ka2 o
  have kb3 : ∀ o, w3.cell? ⟨w.heap.size + 1, o, none⟩ = #[Value.bool m, .string t, .int .i64 f][o]? := fun o => by rw [hb3.cell (p := ⟨w.heap.size + 1, o, none⟩) (by show w.heap.size + 1 < _; omega)]; exact kb2 o
  have hz3 : w.heap.size + 1 < w3.heap.size := Nat.lt_of_lt_of_le hz2 hb3.size
  clear ka2 kb2
  go_wp2
  go_ret2
  exact ⟨rfl, (by with_reducible repeat (first | exact Below.refl _ _ | refine bl_t ?_ hb9 | refine bl_t ?_ hb8 | refine bl_t ?_ hb7 | refine bl_t ?_ hb6 | refine bl_t ?_ hb5 | refine bl_t ?_ hb4 | refine bl_t ?_ hb3 | refine bl_t ?_ hb2 | refine bl_t ?_ hb1 | refine bl_d ?_ | refine bl_n ?_ _ | refine bl_a ?_ _ | refine bl_s ?_ (by omega) _))⟩

set_option maxRecDepth 100000 in
set_option maxHeartbeats 1600000 in
theorem rmult_lower (n m : Bool) (s t : ByteArray) (e f : Int) (w : World) (hs : s.size ≤ maxLen) (ht : t.size ≤ maxLen) (gA : goodB n s e = true) (gB : goodB m t f = true) (hsg : sgnD m t = 1) (hz : s.size ≠ 0) (hlt : e < f) :
    Calls Tryz.prog 18 #[.agg #[.bool n, .string s, .int .i64 e], .agg #[.bool m, .string t, .int .i64 f]] w fun r w' => r = .returned (.tuple #[.bool false, .int .i64 0]) ∧ Below w.heap.size w w' := by
  have c1 := fun w => rcheck_any n s e w hs
  have c2 := fun w => rcheck_any m t f w ht
  have c3 := fun w => rsign_b m t f w
  rw [gA] at c1
  rw [gB] at c2
  simp only [errB, if_true] at c1 c2
  clear hs ht gA gB
  rw [hsg] at c3
  have hn := toList_ne (s := s) (by omega)
  clear hsg hz
  go_enter Tryz.func18, Tryz.ntmps18
  go_wp2_with fail
  refine (c1 _).mono ?_
  rintro r w1 ⟨rfl, hb1⟩
  have ka1 : ∀ o, w1.cell? ⟨w.heap.size, o, none⟩ = #[Value.bool n, .string s, .int .i64 e][o]? := fun o => by rw [hb1.cell (p := ⟨w.heap.size, o, none⟩) (by simp <;> omega)]; simp [go_sem]
  have kb1 : ∀ o, w1.cell? ⟨w.heap.size + 1, o, none⟩ = #[Value.bool m, .string t, .int .i64 f][o]? := fun o => by rw [hb1.cell (p := ⟨w.heap.size + 1, o, none⟩) (by simp <;> omega)]; simp [go_sem]
  have hz1 : w.heap.size + 1 < w1.heap.size := by have := hb1.size; simp at this; omega
  go_wp2_with fail
  refine (c2 _).mono ?_
  rintro r w2 ⟨rfl, hb2⟩
  have ka2 : ∀ o, w2.cell? ⟨w.heap.size, o, none⟩ = #[Value.bool n, .string s, .int .i64 e][o]? := fun o => by rw [hb2.cell (p := ⟨w.heap.size, o, none⟩) (by show w.heap.size < _; omega)]; exact ka1 o
  have kb2 : ∀ o, w2.cell? ⟨w.heap.size + 1, o, none⟩ = #[Value.bool m, .string t, .int .i64 f][o]? := fun o => by rw [hb2.cell (p := ⟨w.heap.size + 1, o, none⟩) (by show w.heap.size + 1 < _; omega)]; exact kb1 o
  have hz2 : w.heap.size + 1 < w2.heap.size := Nat.lt_of_lt_of_le hz1 hb2.size
  clear ka1 kb1
  go_wp2_with fail
  refine (c3 _).mono ?_
  rintro r w3 ⟨rfl, hb3⟩
  have ka3 : ∀ o, w3.cell? ⟨w.heap.size, o, none⟩ = #[Value.bool n, .string s, .int .i64 e][o]? := fun o => by rw [hb3.cell (p := ⟨w.heap.size, o, none⟩) (by show w.heap.size < _; omega)]; exact ka2 o
  have kb3 : ∀ o, w3.cell? ⟨w.heap.size + 1, o, none⟩ = #[Value.bool m, .string t, .int .i64 f][o]? := fun o => by rw [hb3.cell (p := ⟨w.heap.size + 1, o, none⟩) (by show w.heap.size + 1 < _; omega)]; exact kb2 o
  have hz3 : w.heap.size + 1 < w3.heap.size := Nat.lt_of_lt_of_le hz2 hb3.size
  clear ka2 kb2
  go_wp2
  go_ret2
  exact ⟨rfl, (by with_reducible repeat (first | exact Below.refl _ _ | refine bl_t ?_ hb9 | refine bl_t ?_ hb8 | refine bl_t ?_ hb7 | refine bl_t ?_ hb6 | refine bl_t ?_ hb5 | refine bl_t ?_ hb4 | refine bl_t ?_ hb3 | refine bl_t ?_ hb2 | refine bl_t ?_ hb1 | refine bl_d ?_ | refine bl_n ?_ _ | refine bl_a ?_ _ | refine bl_s ?_ (by omega) _))⟩

set_option maxRecDepth 100000 in
set_option maxHeartbeats 1600000 in
theorem rmult_main (n m : Bool) (s t : ByteArray) (e f : Int) (w : World) (hs : s.size ≤ maxLen) (ht : t.size ≤ maxLen) (gA : goodB n s e = true) (gB : goodB m t f = true) (hsg : sgnD m t = 1) (s1 : 1 ≤ s.size) (s2 : s.size ≤ 400) (sd : Digits s) (t1 : 1 ≤ t.size) (t2 : t.size ≤ 400) (td : Digits t) (hB0 : 0 < dec (dig t) t.size) (q : Nat) (hq : q ≤ 2000000) (hef : e - f = (q : Int)) :
    Calls Tryz.prog 18 #[.agg #[.bool n, .string s, .int .i64 e], .agg #[.bool m, .string t, .int .i64 f]] w fun r w' => r = .returned (.tuple #[.bool (multB (dec (dig s) s.size) (dec (dig t) t.size) q), .int .i64 0]) ∧ Below w.heap.size w w' := by
  have hlt : ¬ e < f := by omega
  have c1 := fun w => rcheck_any n s e w hs
  have c2 := fun w => rcheck_any m t f w ht
  have c3 := fun w => rsign_b m t f w
  rw [gA] at c1
  rw [gB] at c2
  simp only [errB, if_true] at c1 c2
  clear hs ht gA gB
  rw [hsg] at c3
  have hn := toList_ne (s := s) (by omega)
  have c4 := fun w => rof_ok s w s1 (by omega) sd
  have c5 := fun w => rof_ok t w t1 (by omega) td
  have hA45 := dec_lt45 s s2 sd
  have hB45 := dec_lt45 t t2 td
  have hA0 := dec_nonneg s sd s.size (Nat.le_refl _)
  clear hsg sd td s1 s2 t1 t2
  obtain ⟨res, hres⟩ : ∃ res, multB (dec (dig s) s.size) (dec (dig t) t.size) q = res := ⟨_, rfl⟩
  rw [hres]
  generalize dec (dig s) s.size = A at *
  generalize dec (dig t) t.size = B at *
  have p45 : pw 45 ≤ pw 400 := pw_mono (by omega)
  have c6 := fun v1 w h1 => rpower_n (.slice (some ⟨w.heap.size, 0, none⟩) 1 1) v1 10 B (q : Int) (w.alloc (.cells #[.int .u32 10] 76)) (num_lit1 w 10 (by omega) (by omega)) h1 ten_pw400 (by omega) hB0 (by omega) (by omega)
  simp only [Int.toNat_natCast] at c6
  have hP0 : 0 ≤ (10 : Int) ^ q % B := Int.emod_nonneg _ (by omega)
  have hP1 : (10 : Int) ^ q % B < B := Int.emod_lt_of_pos _ hB0
  obtain ⟨P, HP⟩ : ∃ P, Hid ((10 : Int) ^ q % B = P) := ⟨_, rfl⟩
  rw [HP.out] at c6 hP0 hP1
  have hres2 : Hid (∀ R, R = A * P % B → decide (R = 0) = res) := fun R hR => by rw [← hres]; exact mult_ref HP.out.symm hR
  clear hres
  have c7 := fun v0 v1 w h0 h1 => rmul_n v0 v1 A P w h0 h1 (by omega) (by omega)
  have hAP : A * P < pw 400 := by
    have h1 := mul_pw (a := 45) (b := 45) hA0 hA45 (show P < pw 45 by omega)
    have h2 : pw (45 + 45) ≤ pw 400 := pw_mono (by omega)
    omega
  have c8 := fun v0 v1 w h0 h1 => rdiv_n v0 v1 (A * P) B w h0 h1 hAP (by omega) hB0
  clear hA45 hB45 hA0 p45 hP0 hP1 hAP HP hB0
  generalize A * P = AP at *
  go_enter Tryz.func18, Tryz.ntmps18
  go_wp2_with fail
  refine (c1 _).mono ?_
  rintro r w1 ⟨rfl, hb1⟩
  have ka1 : ∀ o, w1.cell? ⟨w.heap.size, o, none⟩ = #[Value.bool n, .string s, .int .i64 e][o]? := fun o => by rw [hb1.cell (p := ⟨w.heap.size, o, none⟩) (by simp <;> omega)]; simp [go_sem]
  have kb1 : ∀ o, w1.cell? ⟨w.heap.size + 1, o, none⟩ = #[Value.bool m, .string t, .int .i64 f][o]? := fun o => by rw [hb1.cell (p := ⟨w.heap.size + 1, o, none⟩) (by simp <;> omega)]; simp [go_sem]
  have hz1 : w.heap.size + 1 < w1.heap.size := by have := hb1.size; simp at this; omega
  go_wp2_with fail
  refine (c2 _).mono ?_
  rintro r w2 ⟨rfl, hb2⟩
  have ka2 : ∀ o, w2.cell? ⟨w.heap.size, o, none⟩ = #[Value.bool n, .string s, .int .i64 e][o]? := fun o => by rw [hb2.cell (p := ⟨w.heap.size, o, none⟩) (by show w.heap.size < _; omega)]; exact ka1 o
  have kb2 : ∀ o, w2.cell? ⟨w.heap.size + 1, o, none⟩ = #[Value.bool m, .string t, .int .i64 f][o]? := fun o => by rw [hb2.cell (p := ⟨w.heap.size + 1, o, none⟩) (by show w.heap.size + 1 < _; omega)]; exact kb1 o
  have hz2 : w.heap.size + 1 < w2.heap.size := Nat.lt_of_lt_of_le hz1 hb2.size
  clear ka1 kb1
  go_wp2_with fail
  refine (c3 _).mono ?_
  rintro r w3 ⟨rfl, hb3⟩
  have ka3 : ∀ o, w3.cell? ⟨w.heap.size, o, none⟩ = #[Value.bool n, .string s, .int .i64 e][o]? := fun o => by rw [hb3.cell (p := ⟨w.heap.size, o, none⟩) (by show w.heap.size < _; omega)]; exact ka2 o
  have kb3 : ∀ o, w3.cell? ⟨w.heap.size + 1, o, none⟩ = #[Value.bool m, .string t, .int .i64 f][o]? := fun o => by rw [hb3.cell (p := ⟨w.heap.size + 1, o, none⟩) (by show w.heap.size + 1 < _; omega)]; exact kb2 o
  have hz3 : w.heap.size + 1 < w3.heap.size := Nat.lt_of_lt_of_le hz2 hb3.size
  clear ka2 kb2
  go_wp2_with fail
  refine (c4 _).mono ?_
  rintro r w4 ⟨rx, rfl, hNx, hb4⟩
  have ka4 : ∀ o, w4.cell? ⟨w.heap.size, o, none⟩ = #[Value.bool n, .string s, .int .i64 e][o]? := fun o => by rw [hb4.cell (p := ⟨w.heap.size, o, none⟩) (by show w.heap.size < _; omega)]; exact ka3 o
  have kb4 : ∀ o, w4.cell? ⟨w.heap.size + 1, o, none⟩ = #[Value.bool m, .string t, .int .i64 f][o]? := fun o => by rw [hb4.cell (p := ⟨w.heap.size + 1, o, none⟩) (by show w.heap.size + 1 < _; omega)]; exact kb3 o
  have hz4 : w.heap.size + 1 < w4.heap.size := Nat.lt_of_lt_of_le hz3 hb4.size
  clear ka3 kb3
  go_wp2_with fail
  refine (c5 _).mono ?_
  rintro r w5 ⟨ry, rfl, hNy, hb5⟩
  have ka5 : ∀ o, w5.cell? ⟨w.heap.size, o, none⟩ = #[Value.bool n, .string s, .int .i64 e][o]? := fun o => by rw [hb5.cell (p := ⟨w.heap.size, o, none⟩) (by show w.heap.size < _; omega)]; exact ka4 o
  have kb5 : ∀ o, w5.cell? ⟨w.heap.size + 1, o, none⟩ = #[Value.bool m, .string t, .int .i64 f][o]? := fun o => by rw [hb5.cell (p := ⟨w.heap.size + 1, o, none⟩) (by show w.heap.size + 1 < _; omega)]; exact kb4 o
  have hz5 : w.heap.size + 1 < w5.heap.size := Nat.lt_of_lt_of_le hz4 hb5.size
  clear ka4 kb4
  have hy5 : w.heap.size < w5.heap.size := by omega
  have hNx5 := hNx.below hb5
  clear hNx
  go_wp2_with fail
  refine (c6 _ _ (hNy.below (one_below _ _))).mono ?_
  rintro r w6 ⟨rp, rfl, hNp, hb6⟩
  have hNx6 := (hNx5.below (one_below _ _)).below hb6
  have hNy6 := (hNy.below (one_below _ _)).below hb6
  clear hNx5 hNy ka5 kb5
  go_wp2_with fail
  refine (c7 _ _ _ hNx6 hNp).mono ?_
  rintro r w7 ⟨rm, rfl, hNm, hb7⟩
  have hNy7 := hNy6.below hb7
  clear hNy6 hNx6 hNp
  go_wp2_with fail
  refine (c8 _ _ _ hNm hNy7).mono ?_
  rintro r w8 ⟨rq, rr, rfl, ⟨Q, R, _, hR, hE⟩, hb8⟩
  obtain ⟨a, k, cap, rfl, hlen⟩ := hR.len
  have hd := hres2.out R (divides_eq hE.1 hE.2.1 hE.2.2).2
  rw [hd] at hlen
  clear hd hE hNm hNy7 hR
  go_wp2
  go_ret2
  exact ⟨rfl, (by with_reducible repeat (first | exact Below.refl _ _ | refine bl_t ?_ hb9 | refine bl_t ?_ hb8 | refine bl_t ?_ hb7 | refine bl_t ?_ hb6 | refine bl_t ?_ hb5 | refine bl_t ?_ hb4 | refine bl_t ?_ hb3 | refine bl_t ?_ hb2 | refine bl_t ?_ hb1 | refine bl_d ?_ | refine bl_n ?_ _ | refine bl_a ?_ _ | refine bl_s ?_ (by omega) _))⟩
end Go.Proofs.YtfhapeinfhjihaaGreatDoor
