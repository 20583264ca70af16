/-
  What dec.written and dec.Text answer: a number's text. Conditions: the library's table of powers of ten as the program lays it.
-/
import Derived.Test.YtfhapeinfhjihaaGreatDoorS11
import Derived.Test.YtfhapeinfhjihaaGreatDoorBB1
namespace Go.Proofs.YtfhapeinfhjihaaGreatDoor
open Go.RowKit
attribute [local go_sem] setCell_drewN alloc_drewN

theorem str_eq {a b : List UInt8} (h : a = b) : Ending.returned (.string (bs a)) = .returned (.string (bs b)) := by rw [h]
set_option maxHeartbeats 400000 in
theorem written_zero (n : Bool) (s : ByteArray) (e : Int) (w : World) (hz : eqD n s e false ⟨#[]⟩ 0 = true) :
    Calls Tryz.prog 28 #[.agg #[.bool n, .string s, .int .i64 e]] w fun r w' => r = .returned (.string (bs [48])) ∧ Below w.heap.size w w' := by
  have hq := eqIn_dec n s e false ⟨#[]⟩ 0
  rw [hz] at hq
  clear hz
  go_enter Tryz.func28, Tryz.ntmps28
  go_wp2_with fail
  go_region_with (go_at_call 32; refine (nought_any _).mono ?_; rintro r w' ⟨rfl, rfl⟩)
  all_goals (try go_wp2)
  all_goals go_ret
  all_goals exact ⟨rfl, (by with_reducible repeat (first | exact Below.refl _ _ | refine bl_d ?_ | refine bl_n ?_ _ | refine bl_a ?_ _ | refine bl_s ?_ (by omega) _))⟩

theorem decDigits_len (k : Nat) : ∀ n, n < 10 ^ k → (Lib.decDigits n).length ≤ k + 1 := by
  induction k with
  | zero => intro n hn; rw [Lib.decDigits, dif_pos (by simp at hn; omega)]; simp
  | succ k ih =>
    intro n hn
    rw [Lib.decDigits]
    split
    · simp
    · have := ih (n / 10) (by rw [Nat.pow_succ] at hn; omega)
      simp; omega
theorem itoa_len (e : Int) (e0 : -1000000 ≤ e) (e1 : e ≤ 1000000) : (Lib.itoa e).length ≤ 100 := by
  unfold Lib.itoa
  split
  · have := decDigits_len 7 e.natAbs (by omega)
    simp; omega
  · have := decDigits_len 7 e.toNat (by omega)
    omega

set_option maxRecDepth 100000 in
set_option maxHeartbeats 1600000 in
theorem written_00 (s : ByteArray) (e : Int) (w : World) (hz : eqD false s e false ⟨#[]⟩ 0 = false) (hs : s.size ≤ 65536) (he : e = 0) :
    Calls Tryz.prog 28 #[.agg #[.bool false, .string s, .int .i64 e]] w fun r w' => r = .returned (.string (bs (s.data.toList))) ∧ Below w.heap.size w w' := by
  have hq := eqIn_dec false s e false ⟨#[]⟩ 0
  rw [hz] at hq
  subst he
  clear hz
  have hB0 : BB (w.heap.size + 1 + 1) [] (((w.alloc (.cells #[.bool false, .string s, .int .i64 0] 23)).alloc (.cells #[.bool false, .string ⟨#[]⟩, .int .i64 0] 23)).alloc (.cells #[.pointer none, .slice none 0 0] 108)) := by have := bb_fresh ((w.alloc (.cells #[.bool false, .string s, .int .i64 0] 23)).alloc (.cells #[.bool false, .string ⟨#[]⟩, .int .i64 0] 23)); simpa using this
  go_enter Tryz.func28, Tryz.ntmps28
  go_wp2_with fail
  go_region_with (go_at_call 32; refine (nought_any _).mono ?_; rintro r w' ⟨rfl, rfl⟩)
  all_goals (try go_wp2_with fail)
  all_goals
    refine (wstr _ _ s _ (hB0.below (by with_reducible repeat (first | exact Below.refl _ _ | refine bl_d ?_ | refine bl_n ?_ _ | refine bl_a ?_ _ | refine bl_s ?_ (by omega) _))) (by simp <;> omega)).mono ?_
    rintro r w1 ⟨rfl, hB1, hb1⟩
    have hA1 : Below (w.alloc (.cells #[.bool false, .string s, .int .i64 0] 23)).heap.size (w.alloc (.cells #[.bool false, .string s, .int .i64 0] 23)) w1 := Below.trans (by with_reducible repeat (first | exact Below.refl _ _ | refine bl_d ?_ | refine bl_n ?_ _ | refine bl_a ?_ _ | refine bl_s ?_ (by omega) _)) (hb1.mono (by simp only [World.size_alloc]; omega))
    have hk1 := fun o => hA1.cell (p := ⟨w.heap.size, o, none⟩) (by simp)
    go_wp2_with fail
    refine (bstr _ _ _ hB1).mono ?_
    rintro r w2 ⟨rfl, hb2⟩
    have hA2 : Below (w.alloc (.cells #[.bool false, .string s, .int .i64 0] 23)).heap.size (w.alloc (.cells #[.bool false, .string s, .int .i64 0] 23)) w2 := Below.trans hA1 (hb2.mono (by simp only [World.size_alloc]; omega))
    have hk2 := fun o => hA2.cell (p := ⟨w.heap.size, o, none⟩) (by simp)
    go_wp2
    go_ret
    exact ⟨str_eq (by simp), bl_t (bl_a (Below.refl _ _) _) hA2⟩

set_option maxRecDepth 100000 in
set_option maxHeartbeats 1600000 in
theorem written_01 (s : ByteArray) (e : Int) (w : World) (hz : eqD false s e false ⟨#[]⟩ 0 = false) (hs : s.size ≤ 65536) (he : (e == 0) = false) (e0 : -1000000 ≤ e) (e1 : e ≤ 1000000) (ht : Lib.TabIs Tryz.prog w "internal/strconv.uint64pow10" .u64 Lib.pow10Tab) :
    Calls Tryz.prog 28 #[.agg #[.bool false, .string s, .int .i64 e]] w fun r w' => r = .returned (.string (bs (s.data.toList ++ [101] ++ Lib.itoa e))) ∧ Below w.heap.size w w' := by
  have hq := eqIn_dec false s e false ⟨#[]⟩ 0
  rw [hz] at hq
  have hi : (Lib.itoa e).length ≤ 100 := itoa_len e e0 e1
  have hne : (e != 0) = true := by simp only [bne, he]; rfl
  clear hz
  have hB0 : BB (w.heap.size + 1 + 1) [] (((w.alloc (.cells #[.bool false, .string s, .int .i64 e] 23)).alloc (.cells #[.bool false, .string ⟨#[]⟩, .int .i64 0] 23)).alloc (.cells #[.pointer none, .slice none 0 0] 108)) := by have := bb_fresh ((w.alloc (.cells #[.bool false, .string s, .int .i64 e] 23)).alloc (.cells #[.bool false, .string ⟨#[]⟩, .int .i64 0] 23)); simpa using this
  go_enter Tryz.func28, Tryz.ntmps28
  go_wp2_with fail
  go_region_with (go_at_call 32; refine (nought_any _).mono ?_; rintro r w' ⟨rfl, rfl⟩)
  all_goals (try go_wp2_with fail)
  all_goals
    refine (wstr _ _ s _ (hB0.below (by with_reducible repeat (first | exact Below.refl _ _ | refine bl_d ?_ | refine bl_n ?_ _ | refine bl_a ?_ _ | refine bl_s ?_ (by omega) _))) (by simp <;> omega)).mono ?_
    rintro r w1 ⟨rfl, hB1, hb1⟩
    have hA1 : Below (w.alloc (.cells #[.bool false, .string s, .int .i64 e] 23)).heap.size (w.alloc (.cells #[.bool false, .string s, .int .i64 e] 23)) w1 := Below.trans (by with_reducible repeat (first | exact Below.refl _ _ | refine bl_d ?_ | refine bl_n ?_ _ | refine bl_a ?_ _ | refine bl_s ?_ (by omega) _)) (hb1.mono (by simp only [World.size_alloc]; omega))
    have hk1 := fun o => hA1.cell (p := ⟨w.heap.size, o, none⟩) (by simp)
    go_wp2_with fail
    refine (wbyte _ _ 101 _ _ rfl hB1 (by simp <;> omega)).mono ?_
    rintro r w2 ⟨rfl, hB2, hb2⟩
    have hA2 : Below (w.alloc (.cells #[.bool false, .string s, .int .i64 e] 23)).heap.size (w.alloc (.cells #[.bool false, .string s, .int .i64 e] 23)) w2 := Below.trans hA1 (hb2.mono (by simp only [World.size_alloc]; omega))
    have hk2 := fun o => hA2.cell (p := ⟨w.heap.size, o, none⟩) (by simp)
    go_wp2_with fail
    refine (itoa_any e _ (by omega) (by omega) (tab_below ht (bl_t (bl_a (Below.refl _ _) _) hA2))).mono ?_
    rintro r w3 ⟨rfl, hb3⟩
    have hB3 := hB2.below hb3
    have hA3 : Below (w.alloc (.cells #[.bool false, .string s, .int .i64 e] 23)).heap.size (w.alloc (.cells #[.bool false, .string s, .int .i64 e] 23)) w3 := hA2.trans (hb3.mono hA2.size)
    have hk3 := fun o => hA3.cell (p := ⟨w.heap.size, o, none⟩) (by simp)
    go_wp2_with fail
    refine (wstr _ _ (bs (Lib.itoa e)) _ hB3 (by simp [bs_size] <;> omega)).mono ?_
    rintro r w4 ⟨rfl, hB4, hb4⟩
    have hA4 : Below (w.alloc (.cells #[.bool false, .string s, .int .i64 e] 23)).heap.size (w.alloc (.cells #[.bool false, .string s, .int .i64 e] 23)) w4 := Below.trans hA3 (hb4.mono (by simp only [World.size_alloc]; omega))
    have hk4 := fun o => hA4.cell (p := ⟨w.heap.size, o, none⟩) (by simp)
    go_wp2_with fail
    refine (bstr _ _ _ hB4).mono ?_
    rintro r w5 ⟨rfl, hb5⟩
    have hA5 : Below (w.alloc (.cells #[.bool false, .string s, .int .i64 e] 23)).heap.size (w.alloc (.cells #[.bool false, .string s, .int .i64 e] 23)) w5 := Below.trans hA4 (hb5.mono (by simp only [World.size_alloc]; omega))
    have hk5 := fun o => hA5.cell (p := ⟨w.heap.size, o, none⟩) (by simp)
    go_wp2
    go_ret
    exact ⟨str_eq (by simp [bs_list]), bl_t (bl_a (Below.refl _ _) _) hA5⟩

set_option maxRecDepth 100000 in
set_option maxHeartbeats 1600000 in
theorem written_10 (s : ByteArray) (e : Int) (w : World) (hz : eqD true s e false ⟨#[]⟩ 0 = false) (hs : s.size ≤ 65536) (he : e = 0) :
    Calls Tryz.prog 28 #[.agg #[.bool true, .string s, .int .i64 e]] w fun r w' => r = .returned (.string (bs ([45] ++ s.data.toList))) ∧ Below w.heap.size w w' := by
  have hq := eqIn_dec true s e false ⟨#[]⟩ 0
  rw [hz] at hq
  subst he
  clear hz
  have hB0 : BB (w.heap.size + 1 + 1) [] (((w.alloc (.cells #[.bool true, .string s, .int .i64 0] 23)).alloc (.cells #[.bool false, .string ⟨#[]⟩, .int .i64 0] 23)).alloc (.cells #[.pointer none, .slice none 0 0] 108)) := by have := bb_fresh ((w.alloc (.cells #[.bool true, .string s, .int .i64 0] 23)).alloc (.cells #[.bool false, .string ⟨#[]⟩, .int .i64 0] 23)); simpa using this
  go_enter Tryz.func28, Tryz.ntmps28
  go_wp2_with fail
  go_region_with (go_at_call 32; refine (nought_any _).mono ?_; rintro r w' ⟨rfl, rfl⟩)
  all_goals (try go_wp2_with fail)
  all_goals
    refine (wbyte _ _ 45 _ _ rfl (hB0.below (by with_reducible repeat (first | exact Below.refl _ _ | refine bl_d ?_ | refine bl_n ?_ _ | refine bl_a ?_ _ | refine bl_s ?_ (by omega) _))) (by simp <;> omega)).mono ?_
    rintro r w1 ⟨rfl, hB1, hb1⟩
    have hA1 : Below (w.alloc (.cells #[.bool true, .string s, .int .i64 0] 23)).heap.size (w.alloc (.cells #[.bool true, .string s, .int .i64 0] 23)) w1 := Below.trans (by with_reducible repeat (first | exact Below.refl _ _ | refine bl_d ?_ | refine bl_n ?_ _ | refine bl_a ?_ _ | refine bl_s ?_ (by omega) _)) (hb1.mono (by simp only [World.size_alloc]; omega))
    have hk1 := fun o => hA1.cell (p := ⟨w.heap.size, o, none⟩) (by simp)
    go_wp2_with fail
    refine (wstr _ _ s _ hB1 (by simp <;> omega)).mono ?_
    rintro r w2 ⟨rfl, hB2, hb2⟩
    have hA2 : Below (w.alloc (.cells #[.bool true, .string s, .int .i64 0] 23)).heap.size (w.alloc (.cells #[.bool true, .string s, .int .i64 0] 23)) w2 := Below.trans hA1 (hb2.mono (by simp only [World.size_alloc]; omega))
    have hk2 := fun o => hA2.cell (p := ⟨w.heap.size, o, none⟩) (by simp)
    go_wp2_with fail
    refine (bstr _ _ _ hB2).mono ?_
    rintro r w3 ⟨rfl, hb3⟩
    have hA3 : Below (w.alloc (.cells #[.bool true, .string s, .int .i64 0] 23)).heap.size (w.alloc (.cells #[.bool true, .string s, .int .i64 0] 23)) w3 := Below.trans hA2 (hb3.mono (by simp only [World.size_alloc]; omega))
    have hk3 := fun o => hA3.cell (p := ⟨w.heap.size, o, none⟩) (by simp)
    go_wp2
    go_ret
    exact ⟨str_eq (by simp), bl_t (bl_a (Below.refl _ _) _) hA3⟩

set_option maxRecDepth 100000 in
set_option maxHeartbeats 1600000 in
theorem written_11 (s : ByteArray) (e : Int) (w : World) (hz : eqD true s e false ⟨#[]⟩ 0 = false) (hs : s.size ≤ 65536) (he : (e == 0) = false) (e0 : -1000000 ≤ e) (e1 : e ≤ 1000000) (ht : Lib.TabIs Tryz.prog w "internal/strconv.uint64pow10" .u64 Lib.pow10Tab) :
    Calls Tryz.prog 28 #[.agg #[.bool true, .string s, .int .i64 e]] w fun r w' => r = .returned (.string (bs ([45] ++ s.data.toList ++ [101] ++ Lib.itoa e))) ∧ Below w.heap.size w w' := by
  have hq := eqIn_dec true s e false ⟨#[]⟩ 0
  rw [hz] at hq
  have hi : (Lib.itoa e).length ≤ 100 := itoa_len e e0 e1
  have hne : (e != 0) = true := by simp only [bne, he]; rfl
  clear hz
  have hB0 : BB (w.heap.size + 1 + 1) [] (((w.alloc (.cells #[.bool true, .string s, .int .i64 e] 23)).alloc (.cells #[.bool false, .string ⟨#[]⟩, .int .i64 0] 23)).alloc (.cells #[.pointer none, .slice none 0 0] 108)) := by have := bb_fresh ((w.alloc (.cells #[.bool true, .string s, .int .i64 e] 23)).alloc (.cells #[.bool false, .string ⟨#[]⟩, .int .i64 0] 23)); simpa using this
  go_enter Tryz.func28, Tryz.ntmps28
  go_wp2_with fail
  go_region_with (go_at_call 32; refine (nought_any _).mono ?_; rintro r w' ⟨rfl, rfl⟩)
  all_goals (try go_wp2_with fail)
  all_goals
    refine (wbyte _ _ 45 _ _ rfl (hB0.below (by with_reducible repeat (first | exact Below.refl _ _ | refine bl_d ?_ | refine bl_n ?_ _ | refine bl_a ?_ _ | refine bl_s ?_ (by omega) _))) (by simp <;> omega)).mono ?_
    rintro r w1 ⟨rfl, hB1, hb1⟩
    have hA1 : Below (w.alloc (.cells #[.bool true, .string s, .int .i64 e] 23)).heap.size (w.alloc (.cells #[.bool true, .string s, .int .i64 e] 23)) w1 := Below.trans (by with_reducible repeat (first | exact Below.refl _ _ | refine bl_d ?_ | refine bl_n ?_ _ | refine bl_a ?_ _ | refine bl_s ?_ (by omega) _)) (hb1.mono (by simp only [World.size_alloc]; omega))
    have hk1 := fun o => hA1.cell (p := ⟨w.heap.size, o, none⟩) (by simp)
    go_wp2_with fail
    refine (wstr _ _ s _ hB1 (by simp <;> omega)).mono ?_
    rintro r w2 ⟨rfl, hB2, hb2⟩
    have hA2 : Below (w.alloc (.cells #[.bool true, .string s, .int .i64 e] 23)).heap.size (w.alloc (.cells #[.bool true, .string s, .int .i64 e] 23)) w2 := Below.trans hA1 (hb2.mono (by simp only [World.size_alloc]; omega))
    have hk2 := fun o => hA2.cell (p := ⟨w.heap.size, o, none⟩) (by simp)
    go_wp2_with fail
    refine (wbyte _ _ 101 _ _ rfl hB2 (by simp <;> omega)).mono ?_
    rintro r w3 ⟨rfl, hB3, hb3⟩
    have hA3 : Below (w.alloc (.cells #[.bool true, .string s, .int .i64 e] 23)).heap.size (w.alloc (.cells #[.bool true, .string s, .int .i64 e] 23)) w3 := Below.trans hA2 (hb3.mono (by simp only [World.size_alloc]; omega))
    have hk3 := fun o => hA3.cell (p := ⟨w.heap.size, o, none⟩) (by simp)
    go_wp2_with fail
    refine (itoa_any e _ (by omega) (by omega) (tab_below ht (bl_t (bl_a (Below.refl _ _) _) hA3))).mono ?_
    rintro r w4 ⟨rfl, hb4⟩
    have hB4 := hB3.below hb4
    have hA4 : Below (w.alloc (.cells #[.bool true, .string s, .int .i64 e] 23)).heap.size (w.alloc (.cells #[.bool true, .string s, .int .i64 e] 23)) w4 := hA3.trans (hb4.mono hA3.size)
    have hk4 := fun o => hA4.cell (p := ⟨w.heap.size, o, none⟩) (by simp)
    go_wp2_with fail
    refine (wstr _ _ (bs (Lib.itoa e)) _ hB4 (by simp [bs_size] <;> omega)).mono ?_
    rintro r w5 ⟨rfl, hB5, hb5⟩
    have hA5 : Below (w.alloc (.cells #[.bool true, .string s, .int .i64 e] 23)).heap.size (w.alloc (.cells #[.bool true, .string s, .int .i64 e] 23)) w5 := Below.trans hA4 (hb5.mono (by simp only [World.size_alloc]; omega))
    have hk5 := fun o => hA5.cell (p := ⟨w.heap.size, o, none⟩) (by simp)
    go_wp2_with fail
    refine (bstr _ _ _ hB5).mono ?_
    rintro r w6 ⟨rfl, hb6⟩
    have hA6 : Below (w.alloc (.cells #[.bool true, .string s, .int .i64 e] 23)).heap.size (w.alloc (.cells #[.bool true, .string s, .int .i64 e] 23)) w6 := Below.trans hA5 (hb6.mono (by simp only [World.size_alloc]; omega))
    have hk6 := fun o => hA6.cell (p := ⟨w.heap.size, o, none⟩) (by simp)
    go_wp2
    go_ret
    exact ⟨str_eq (by simp [bs_list]), bl_t (bl_a (Below.refl _ _) _) hA6⟩

end Go.Proofs.YtfhapeinfhjihaaGreatDoor
