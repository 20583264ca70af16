/-
  What the test of lex.unit answers, and lex.taken with it. No condition but that the cells are there.
  What lex.taken answers with the test of lex.unit, and lex.unit: the number that four digits of 16 make. Conditions: the bytes lie in memory, at most 2^48 of them.
-/
import Derived.Test.YtjdboekanmfgpaaGreatDoorJoined10
namespace Go.Proofs.YtjdboekanmfgpaaGreatDoor.Lx
open Go.RowKit
attribute [local go_sem] setCell_drewN alloc_drewN

set_option maxHeartbeats 800000 in
theorem unit1_l12 (c : Int) (a b d val : Nat) (w : World) (h0 : 0 ≤ c) (h1 : c < 256) (hv : val < 4096) (ha : w.cell? ⟨a, 0, none⟩ = some (.int .i64 val)) (hfa : w.frozen? ⟨a, 0, none⟩ = false) (hb : w.cell? ⟨b, 0, none⟩ = some (.int .i64 12)) (hd : w.cell? ⟨d, 0, none⟩ = some (.func (.func 234) #[] #[])) (hab : a ≠ b) (had : a ≠ d) :
  Calls Tryz.prog 232 #[.int .u8 c, .pointer (some ⟨a, 0, none⟩), .pointer (some ⟨b, 0, none⟩), .pointer (some ⟨d, 0, none⟩)] w fun r w' => r = .returned (.bool (hexB c && lowB (((val : Int) * 16 + hexV c) * 4096) (((val : Int) * 16 + hexV c) * 4096 + 4095))) ∧ ∃ n, w' = (w.setCell ⟨a, 0, none⟩ (.int .i64 ((val : Int) * 16 + hexV c))).drewN n := by
 have g1 := hex_any c w h0 h1
 have hbd := hexV_bd c
 have hvI : (val : Int) < 4096 := by omega
 obtain ⟨x, hx⟩ := Int.eq_ofNat_of_zero_le hbd.1
 have hor := or_i64 (val * 16) x 4 ((val : Int) * 16) (hexV c) (by omega) hx (by omega) (by omega) (by omega)
 have hor2 := or_i64 ((val * 16 + x) * 4096) 4095 12 (((val : Int) * 16 + hexV c) * 4096) 4095 (by omega) (by omega) (by omega) (by omega) (by omega)
 have g2 := fun w => low_any (((val : Int) * 16 + hexV c) * 4096) (((val : Int) * 16 + hexV c) * 4096 + 4095) w
 have c1 : (w.setCell ⟨a, 0, none⟩ (.int .i64 ((val : Int) * 16 + hexV c))).cell? ⟨a, 0, none⟩ = some (.int .i64 ((val : Int) * 16 + hexV c)) := World.cell?_setCell_same _ _ _ ha
 have c2 : (w.setCell ⟨a, 0, none⟩ (.int .i64 ((val : Int) * 16 + hexV c))).cell? ⟨b, 0, none⟩ = some (.int .i64 12) := (World.cell?_setCell_other _ _ _ _ (by simp <;> omega)).trans hb
 have c3 : (w.setCell ⟨a, 0, none⟩ (.int .i64 ((val : Int) * 16 + hexV c))).cell? ⟨d, 0, none⟩ = some (.func (.func 234) #[] #[]) := (World.cell?_setCell_other _ _ _ _ (by simp <;> omega)).trans hd
 clear hx
 cases hh : hexB c
 ·rw [hh] at g1
  clear hh g2
  generalize hexV c = y at *
  go_enter Tryz.func232, Tryz.ntmps232
  go_wp2_with (go_at_call 233; refine g1.mono ?_; rintro r w' ⟨rfl, rfl⟩)
  go_quiet (fail)
  go_wp2
  go_ret
  exact ⟨rfl, _, rfl⟩
 ·rw [hh] at g1
  clear hh
  generalize lowB (((val : Int) * 16 + hexV c) * 4096) (((val : Int) * 16 + hexV c) * 4096 + 4095) = z at *
  generalize hexV c = y at *
  go_enter Tryz.func232, Tryz.ntmps232
  go_wp2_with (go_at_call 233; refine g1.mono ?_; rintro r w' ⟨rfl, rfl⟩)
  go_quiet ((go_at_call 234; exact Calls.quiet_of_same (g2 _)))
  go_wp2
  go_ret
  exact ⟨rfl, _, rfl⟩

set_option maxHeartbeats 800000 in
theorem unit1_l8 (c : Int) (a b d val : Nat) (w : World) (h0 : 0 ≤ c) (h1 : c < 256) (hv : val < 4096) (ha : w.cell? ⟨a, 0, none⟩ = some (.int .i64 val)) (hfa : w.frozen? ⟨a, 0, none⟩ = false) (hb : w.cell? ⟨b, 0, none⟩ = some (.int .i64 8)) (hd : w.cell? ⟨d, 0, none⟩ = some (.func (.func 234) #[] #[])) (hab : a ≠ b) (had : a ≠ d) :
  Calls Tryz.prog 232 #[.int .u8 c, .pointer (some ⟨a, 0, none⟩), .pointer (some ⟨b, 0, none⟩), .pointer (some ⟨d, 0, none⟩)] w fun r w' => r = .returned (.bool (hexB c && lowB (((val : Int) * 16 + hexV c) * 256) (((val : Int) * 16 + hexV c) * 256 + 255))) ∧ ∃ n, w' = (w.setCell ⟨a, 0, none⟩ (.int .i64 ((val : Int) * 16 + hexV c))).drewN n := by
 have g1 := hex_any c w h0 h1
 have hbd := hexV_bd c
 have hvI : (val : Int) < 4096 := by omega
 obtain ⟨x, hx⟩ := Int.eq_ofNat_of_zero_le hbd.1
 have hor := or_i64 (val * 16) x 4 ((val : Int) * 16) (hexV c) (by omega) hx (by omega) (by omega) (by omega)
 have hor2 := or_i64 ((val * 16 + x) * 256) 255 8 (((val : Int) * 16 + hexV c) * 256) 255 (by omega) (by omega) (by omega) (by omega) (by omega)
 have g2 := fun w => low_any (((val : Int) * 16 + hexV c) * 256) (((val : Int) * 16 + hexV c) * 256 + 255) w
 have c1 : (w.setCell ⟨a, 0, none⟩ (.int .i64 ((val : Int) * 16 + hexV c))).cell? ⟨a, 0, none⟩ = some (.int .i64 ((val : Int) * 16 + hexV c)) := World.cell?_setCell_same _ _ _ ha
 have c2 : (w.setCell ⟨a, 0, none⟩ (.int .i64 ((val : Int) * 16 + hexV c))).cell? ⟨b, 0, none⟩ = some (.int .i64 8) := (World.cell?_setCell_other _ _ _ _ (by simp <;> omega)).trans hb
 have c3 : (w.setCell ⟨a, 0, none⟩ (.int .i64 ((val : Int) * 16 + hexV c))).cell? ⟨d, 0, none⟩ = some (.func (.func 234) #[] #[]) := (World.cell?_setCell_other _ _ _ _ (by simp <;> omega)).trans hd
 clear hx
 cases hh : hexB c
 ·rw [hh] at g1
  clear hh g2
  generalize hexV c = y at *
  go_enter Tryz.func232, Tryz.ntmps232
  go_wp2_with (go_at_call 233; refine g1.mono ?_; rintro r w' ⟨rfl, rfl⟩)
  go_quiet (fail)
  go_wp2
  go_ret
  exact ⟨rfl, _, rfl⟩
 ·rw [hh] at g1
  clear hh
  generalize lowB (((val : Int) * 16 + hexV c) * 256) (((val : Int) * 16 + hexV c) * 256 + 255) = z at *
  generalize hexV c = y at *
  go_enter Tryz.func232, Tryz.ntmps232
  go_wp2_with (go_at_call 233; refine g1.mono ?_; rintro r w' ⟨rfl, rfl⟩)
  go_quiet ((go_at_call 234; exact Calls.quiet_of_same (g2 _)))
  go_wp2
  go_ret
  exact ⟨rfl, _, rfl⟩

set_option maxHeartbeats 800000 in
theorem unit1_l4 (c : Int) (a b d val : Nat) (w : World) (h0 : 0 ≤ c) (h1 : c < 256) (hv : val < 4096) (ha : w.cell? ⟨a, 0, none⟩ = some (.int .i64 val)) (hfa : w.frozen? ⟨a, 0, none⟩ = false) (hb : w.cell? ⟨b, 0, none⟩ = some (.int .i64 4)) (hd : w.cell? ⟨d, 0, none⟩ = some (.func (.func 234) #[] #[])) (hab : a ≠ b) (had : a ≠ d) :
  Calls Tryz.prog 232 #[.int .u8 c, .pointer (some ⟨a, 0, none⟩), .pointer (some ⟨b, 0, none⟩), .pointer (some ⟨d, 0, none⟩)] w fun r w' => r = .returned (.bool (hexB c && lowB (((val : Int) * 16 + hexV c) * 16) (((val : Int) * 16 + hexV c) * 16 + 15))) ∧ ∃ n, w' = (w.setCell ⟨a, 0, none⟩ (.int .i64 ((val : Int) * 16 + hexV c))).drewN n := by
 have g1 := hex_any c w h0 h1
 have hbd := hexV_bd c
 have hvI : (val : Int) < 4096 := by omega
 obtain ⟨x, hx⟩ := Int.eq_ofNat_of_zero_le hbd.1
 have hor := or_i64 (val * 16) x 4 ((val : Int) * 16) (hexV c) (by omega) hx (by omega) (by omega) (by omega)
 have hor2 := or_i64 ((val * 16 + x) * 16) 15 4 (((val : Int) * 16 + hexV c) * 16) 15 (by omega) (by omega) (by omega) (by omega) (by omega)
 have g2 := fun w => low_any (((val : Int) * 16 + hexV c) * 16) (((val : Int) * 16 + hexV c) * 16 + 15) w
 have c1 : (w.setCell ⟨a, 0, none⟩ (.int .i64 ((val : Int) * 16 + hexV c))).cell? ⟨a, 0, none⟩ = some (.int .i64 ((val : Int) * 16 + hexV c)) := World.cell?_setCell_same _ _ _ ha
 have c2 : (w.setCell ⟨a, 0, none⟩ (.int .i64 ((val : Int) * 16 + hexV c))).cell? ⟨b, 0, none⟩ = some (.int .i64 4) := (World.cell?_setCell_other _ _ _ _ (by simp <;> omega)).trans hb
 have c3 : (w.setCell ⟨a, 0, none⟩ (.int .i64 ((val : Int) * 16 + hexV c))).cell? ⟨d, 0, none⟩ = some (.func (.func 234) #[] #[]) := (World.cell?_setCell_other _ _ _ _ (by simp <;> omega)).trans hd
 clear hx
 cases hh : hexB c
 ·rw [hh] at g1
  clear hh g2
  generalize hexV c = y at *
  go_enter Tryz.func232, Tryz.ntmps232
  go_wp2_with (go_at_call 233; refine g1.mono ?_; rintro r w' ⟨rfl, rfl⟩)
  go_quiet (fail)
  go_wp2
  go_ret
  exact ⟨rfl, _, rfl⟩
 ·rw [hh] at g1
  clear hh
  generalize lowB (((val : Int) * 16 + hexV c) * 16) (((val : Int) * 16 + hexV c) * 16 + 15) = z at *
  generalize hexV c = y at *
  go_enter Tryz.func232, Tryz.ntmps232
  go_wp2_with (go_at_call 233; refine g1.mono ?_; rintro r w' ⟨rfl, rfl⟩)
  go_quiet ((go_at_call 234; exact Calls.quiet_of_same (g2 _)))
  go_wp2
  go_ret
  exact ⟨rfl, _, rfl⟩

set_option maxHeartbeats 800000 in
theorem unit1_l0 (c : Int) (a b d val : Nat) (w : World) (h0 : 0 ≤ c) (h1 : c < 256) (hv : val < 4096) (ha : w.cell? ⟨a, 0, none⟩ = some (.int .i64 val)) (hfa : w.frozen? ⟨a, 0, none⟩ = false) (hb : w.cell? ⟨b, 0, none⟩ = some (.int .i64 0)) (hd : w.cell? ⟨d, 0, none⟩ = some (.func (.func 234) #[] #[])) (hab : a ≠ b) (had : a ≠ d) :
  Calls Tryz.prog 232 #[.int .u8 c, .pointer (some ⟨a, 0, none⟩), .pointer (some ⟨b, 0, none⟩), .pointer (some ⟨d, 0, none⟩)] w fun r w' => r = .returned (.bool (hexB c && lowB ((val : Int) * 16 + hexV c) ((val : Int) * 16 + hexV c))) ∧ ∃ n, w' = (w.setCell ⟨a, 0, none⟩ (.int .i64 ((val : Int) * 16 + hexV c))).drewN n := by
 have g1 := hex_any c w h0 h1
 have hbd := hexV_bd c
 have hvI : (val : Int) < 4096 := by omega
 obtain ⟨x, hx⟩ := Int.eq_ofNat_of_zero_le hbd.1
 have hor := or_i64 (val * 16) x 4 ((val : Int) * 16) (hexV c) (by omega) hx (by omega) (by omega) (by omega)
 have hor2 := or_i64 (val * 16 + x) 0 0 ((val : Int) * 16 + hexV c) 0 (by omega) (by omega) (by omega) (by omega) (by omega)
 rw [Int.add_zero] at hor2
 have g2 := fun w => low_any ((val : Int) * 16 + hexV c) ((val : Int) * 16 + hexV c) w
 have c1 : (w.setCell ⟨a, 0, none⟩ (.int .i64 ((val : Int) * 16 + hexV c))).cell? ⟨a, 0, none⟩ = some (.int .i64 ((val : Int) * 16 + hexV c)) := World.cell?_setCell_same _ _ _ ha
 have c2 : (w.setCell ⟨a, 0, none⟩ (.int .i64 ((val : Int) * 16 + hexV c))).cell? ⟨b, 0, none⟩ = some (.int .i64 0) := (World.cell?_setCell_other _ _ _ _ (by simp <;> omega)).trans hb
 have c3 : (w.setCell ⟨a, 0, none⟩ (.int .i64 ((val : Int) * 16 + hexV c))).cell? ⟨d, 0, none⟩ = some (.func (.func 234) #[] #[]) := (World.cell?_setCell_other _ _ _ _ (by simp <;> omega)).trans hd
 clear hx
 cases hh : hexB c
 ·rw [hh] at g1
  clear hh g2
  generalize hexV c = y at *
  go_enter Tryz.func232, Tryz.ntmps232
  go_wp2_with (go_at_call 233; refine g1.mono ?_; rintro r w' ⟨rfl, rfl⟩)
  go_quiet (fail)
  go_wp2
  go_ret
  exact ⟨rfl, _, rfl⟩
 ·rw [hh] at g1
  clear hh
  generalize lowB ((val : Int) * 16 + hexV c) ((val : Int) * 16 + hexV c) = z at *
  generalize hexV c = y at *
  go_enter Tryz.func232, Tryz.ntmps232
  go_wp2_with (go_at_call 233; refine g1.mono ?_; rintro r w' ⟨rfl, rfl⟩)
  go_quiet ((go_at_call 234; exact Calls.quiet_of_same (g2 _)))
  go_wp2
  go_ret
  exact ⟨rfl, _, rfl⟩

set_option maxHeartbeats 800000 in
theorem unit1_n12 (c : Int) (a b d val : Nat) (w : World) (h0 : 0 ≤ c) (h1 : c < 256) (hv : val < 4096) (ha : w.cell? ⟨a, 0, none⟩ = some (.int .i64 val)) (hfa : w.frozen? ⟨a, 0, none⟩ = false) (hb : w.cell? ⟨b, 0, none⟩ = some (.int .i64 12)) (hd : w.cell? ⟨d, 0, none⟩ = some (.func (.func 220) #[] #[])) (hab : a ≠ b) (had : a ≠ d) :
  Calls Tryz.prog 232 #[.int .u8 c, .pointer (some ⟨a, 0, none⟩), .pointer (some ⟨b, 0, none⟩), .pointer (some ⟨d, 0, none⟩)] w fun r w' => r = .returned (.bool (hexB c && notLowB (((val : Int) * 16 + hexV c) * 4096) (((val : Int) * 16 + hexV c) * 4096 + 4095))) ∧ ∃ n, w' = (w.setCell ⟨a, 0, none⟩ (.int .i64 ((val : Int) * 16 + hexV c))).drewN n := by
 have g1 := hex_any c w h0 h1
 have hbd := hexV_bd c
 have hvI : (val : Int) < 4096 := by omega
 obtain ⟨x, hx⟩ := Int.eq_ofNat_of_zero_le hbd.1
 have hor := or_i64 (val * 16) x 4 ((val : Int) * 16) (hexV c) (by omega) hx (by omega) (by omega) (by omega)
 have hor2 := or_i64 ((val * 16 + x) * 4096) 4095 12 (((val : Int) * 16 + hexV c) * 4096) 4095 (by omega) (by omega) (by omega) (by omega) (by omega)
 have g2 := fun w => notLow_any (((val : Int) * 16 + hexV c) * 4096) (((val : Int) * 16 + hexV c) * 4096 + 4095) w
 have c1 : (w.setCell ⟨a, 0, none⟩ (.int .i64 ((val : Int) * 16 + hexV c))).cell? ⟨a, 0, none⟩ = some (.int .i64 ((val : Int) * 16 + hexV c)) := World.cell?_setCell_same _ _ _ ha
 have c2 : (w.setCell ⟨a, 0, none⟩ (.int .i64 ((val : Int) * 16 + hexV c))).cell? ⟨b, 0, none⟩ = some (.int .i64 12) := (World.cell?_setCell_other _ _ _ _ (by simp <;> omega)).trans hb
 have c3 : (w.setCell ⟨a, 0, none⟩ (.int .i64 ((val : Int) * 16 + hexV c))).cell? ⟨d, 0, none⟩ = some (.func (.func 220) #[] #[]) := (World.cell?_setCell_other _ _ _ _ (by simp <;> omega)).trans hd
 clear hx
 cases hh : hexB c
 ·rw [hh] at g1
  clear hh g2
  generalize hexV c = y at *
  go_enter Tryz.func232, Tryz.ntmps232
  go_wp2_with (go_at_call 233; refine g1.mono ?_; rintro r w' ⟨rfl, rfl⟩)
  go_quiet (fail)
  go_wp2
  go_ret
  exact ⟨rfl, _, rfl⟩
 ·rw [hh] at g1
  clear hh
  generalize notLowB (((val : Int) * 16 + hexV c) * 4096) (((val : Int) * 16 + hexV c) * 4096 + 4095) = z at *
  generalize hexV c = y at *
  go_enter Tryz.func232, Tryz.ntmps232
  go_wp2_with (go_at_call 233; refine g1.mono ?_; rintro r w' ⟨rfl, rfl⟩)
  go_quiet ((go_at_call 220; exact Calls.quiet_of_same (g2 _)))
  go_wp2
  go_ret
  exact ⟨rfl, _, rfl⟩

set_option maxHeartbeats 800000 in
theorem unit1_n8 (c : Int) (a b d val : Nat) (w : World) (h0 : 0 ≤ c) (h1 : c < 256) (hv : val < 4096) (ha : w.cell? ⟨a, 0, none⟩ = some (.int .i64 val)) (hfa : w.frozen? ⟨a, 0, none⟩ = false) (hb : w.cell? ⟨b, 0, none⟩ = some (.int .i64 8)) (hd : w.cell? ⟨d, 0, none⟩ = some (.func (.func 220) #[] #[])) (hab : a ≠ b) (had : a ≠ d) :
  Calls Tryz.prog 232 #[.int .u8 c, .pointer (some ⟨a, 0, none⟩), .pointer (some ⟨b, 0, none⟩), .pointer (some ⟨d, 0, none⟩)] w fun r w' => r = .returned (.bool (hexB c && notLowB (((val : Int) * 16 + hexV c) * 256) (((val : Int) * 16 + hexV c) * 256 + 255))) ∧ ∃ n, w' = (w.setCell ⟨a, 0, none⟩ (.int .i64 ((val : Int) * 16 + hexV c))).drewN n := by
 have g1 := hex_any c w h0 h1
 have hbd := hexV_bd c
 have hvI : (val : Int) < 4096 := by omega
 obtain ⟨x, hx⟩ := Int.eq_ofNat_of_zero_le hbd.1
 have hor := or_i64 (val * 16) x 4 ((val : Int) * 16) (hexV c) (by omega) hx (by omega) (by omega) (by omega)
 have hor2 := or_i64 ((val * 16 + x) * 256) 255 8 (((val : Int) * 16 + hexV c) * 256) 255 (by omega) (by omega) (by omega) (by omega) (by omega)
 have g2 := fun w => notLow_any (((val : Int) * 16 + hexV c) * 256) (((val : Int) * 16 + hexV c) * 256 + 255) w
 have c1 : (w.setCell ⟨a, 0, none⟩ (.int .i64 ((val : Int) * 16 + hexV c))).cell? ⟨a, 0, none⟩ = some (.int .i64 ((val : Int) * 16 + hexV c)) := World.cell?_setCell_same _ _ _ ha
 have c2 : (w.setCell ⟨a, 0, none⟩ (.int .i64 ((val : Int) * 16 + hexV c))).cell? ⟨b, 0, none⟩ = some (.int .i64 8) := (World.cell?_setCell_other _ _ _ _ (by simp <;> omega)).trans hb
 have c3 : (w.setCell ⟨a, 0, none⟩ (.int .i64 ((val : Int) * 16 + hexV c))).cell? ⟨d, 0, none⟩ = some (.func (.func 220) #[] #[]) := (World.cell?_setCell_other _ _ _ _ (by simp <;> omega)).trans hd
 clear hx
 cases hh : hexB c
 ·rw [hh] at g1
  clear hh g2
  generalize hexV c = y at *
  go_enter Tryz.func232, Tryz.ntmps232
  go_wp2_with (go_at_call 233; refine g1.mono ?_; rintro r w' ⟨rfl, rfl⟩)
  go_quiet (fail)
  go_wp2
  go_ret
  exact ⟨rfl, _, rfl⟩
 ·rw [hh] at g1
  clear hh
  generalize notLowB (((val : Int) * 16 + hexV c) * 256) (((val : Int) * 16 + hexV c) * 256 + 255) = z at *
  generalize hexV c = y at *
  go_enter Tryz.func232, Tryz.ntmps232
  go_wp2_with (go_at_call 233; refine g1.mono ?_; rintro r w' ⟨rfl, rfl⟩)
  go_quiet ((go_at_call 220; exact Calls.quiet_of_same (g2 _)))
  go_wp2
  go_ret
  exact ⟨rfl, _, rfl⟩

set_option maxHeartbeats 800000 in
theorem unit1_n4 (c : Int) (a b d val : Nat) (w : World) (h0 : 0 ≤ c) (h1 : c < 256) (hv : val < 4096) (ha : w.cell? ⟨a, 0, none⟩ = some (.int .i64 val)) (hfa : w.frozen? ⟨a, 0, none⟩ = false) (hb : w.cell? ⟨b, 0, none⟩ = some (.int .i64 4)) (hd : w.cell? ⟨d, 0, none⟩ = some (.func (.func 220) #[] #[])) (hab : a ≠ b) (had : a ≠ d) :
  Calls Tryz.prog 232 #[.int .u8 c, .pointer (some ⟨a, 0, none⟩), .pointer (some ⟨b, 0, none⟩), .pointer (some ⟨d, 0, none⟩)] w fun r w' => r = .returned (.bool (hexB c && notLowB (((val : Int) * 16 + hexV c) * 16) (((val : Int) * 16 + hexV c) * 16 + 15))) ∧ ∃ n, w' = (w.setCell ⟨a, 0, none⟩ (.int .i64 ((val : Int) * 16 + hexV c))).drewN n := by
 have g1 := hex_any c w h0 h1
 have hbd := hexV_bd c
 have hvI : (val : Int) < 4096 := by omega
 obtain ⟨x, hx⟩ := Int.eq_ofNat_of_zero_le hbd.1
 have hor := or_i64 (val * 16) x 4 ((val : Int) * 16) (hexV c) (by omega) hx (by omega) (by omega) (by omega)
 have hor2 := or_i64 ((val * 16 + x) * 16) 15 4 (((val : Int) * 16 + hexV c) * 16) 15 (by omega) (by omega) (by omega) (by omega) (by omega)
 have g2 := fun w => notLow_any (((val : Int) * 16 + hexV c) * 16) (((val : Int) * 16 + hexV c) * 16 + 15) w
 have c1 : (w.setCell ⟨a, 0, none⟩ (.int .i64 ((val : Int) * 16 + hexV c))).cell? ⟨a, 0, none⟩ = some (.int .i64 ((val : Int) * 16 + hexV c)) := World.cell?_setCell_same _ _ _ ha
 have c2 : (w.setCell ⟨a, 0, none⟩ (.int .i64 ((val : Int) * 16 + hexV c))).cell? ⟨b, 0, none⟩ = some (.int .i64 4) := (World.cell?_setCell_other _ _ _ _ (by simp <;> omega)).trans hb
 have c3 : (w.setCell ⟨a, 0, none⟩ (.int .i64 ((val : Int) * 16 + hexV c))).cell? ⟨d, 0, none⟩ = some (.func (.func 220) #[] #[]) := (World.cell?_setCell_other _ _ _ _ (by simp <;> omega)).trans hd
 clear hx
 cases hh : hexB c
 ·rw [hh] at g1
  clear hh g2
  generalize hexV c = y at *
  go_enter Tryz.func232, Tryz.ntmps232
  go_wp2_with (go_at_call 233; refine g1.mono ?_; rintro r w' ⟨rfl, rfl⟩)
  go_quiet (fail)
  go_wp2
  go_ret
  exact ⟨rfl, _, rfl⟩
 ·rw [hh] at g1
  clear hh
  generalize notLowB (((val : Int) * 16 + hexV c) * 16) (((val : Int) * 16 + hexV c) * 16 + 15) = z at *
  generalize hexV c = y at *
  go_enter Tryz.func232, Tryz.ntmps232
  go_wp2_with (go_at_call 233; refine g1.mono ?_; rintro r w' ⟨rfl, rfl⟩)
  go_quiet ((go_at_call 220; exact Calls.quiet_of_same (g2 _)))
  go_wp2
  go_ret
  exact ⟨rfl, _, rfl⟩

set_option maxHeartbeats 800000 in
theorem unit1_n0 (c : Int) (a b d val : Nat) (w : World) (h0 : 0 ≤ c) (h1 : c < 256) (hv : val < 4096) (ha : w.cell? ⟨a, 0, none⟩ = some (.int .i64 val)) (hfa : w.frozen? ⟨a, 0, none⟩ = false) (hb : w.cell? ⟨b, 0, none⟩ = some (.int .i64 0)) (hd : w.cell? ⟨d, 0, none⟩ = some (.func (.func 220) #[] #[])) (hab : a ≠ b) (had : a ≠ d) :
  Calls Tryz.prog 232 #[.int .u8 c, .pointer (some ⟨a, 0, none⟩), .pointer (some ⟨b, 0, none⟩), .pointer (some ⟨d, 0, none⟩)] w fun r w' => r = .returned (.bool (hexB c && notLowB ((val : Int) * 16 + hexV c) ((val : Int) * 16 + hexV c))) ∧ ∃ n, w' = (w.setCell ⟨a, 0, none⟩ (.int .i64 ((val : Int) * 16 + hexV c))).drewN n := by
 have g1 := hex_any c w h0 h1
 have hbd := hexV_bd c
 have hvI : (val : Int) < 4096 := by omega
 obtain ⟨x, hx⟩ := Int.eq_ofNat_of_zero_le hbd.1
 have hor := or_i64 (val * 16) x 4 ((val : Int) * 16) (hexV c) (by omega) hx (by omega) (by omega) (by omega)
 have hor2 := or_i64 (val * 16 + x) 0 0 ((val : Int) * 16 + hexV c) 0 (by omega) (by omega) (by omega) (by omega) (by omega)
 rw [Int.add_zero] at hor2
 have g2 := fun w => notLow_any ((val : Int) * 16 + hexV c) ((val : Int) * 16 + hexV c) w
 have c1 : (w.setCell ⟨a, 0, none⟩ (.int .i64 ((val : Int) * 16 + hexV c))).cell? ⟨a, 0, none⟩ = some (.int .i64 ((val : Int) * 16 + hexV c)) := World.cell?_setCell_same _ _ _ ha
 have c2 : (w.setCell ⟨a, 0, none⟩ (.int .i64 ((val : Int) * 16 + hexV c))).cell? ⟨b, 0, none⟩ = some (.int .i64 0) := (World.cell?_setCell_other _ _ _ _ (by simp <;> omega)).trans hb
 have c3 : (w.setCell ⟨a, 0, none⟩ (.int .i64 ((val : Int) * 16 + hexV c))).cell? ⟨d, 0, none⟩ = some (.func (.func 220) #[] #[]) := (World.cell?_setCell_other _ _ _ _ (by simp <;> omega)).trans hd
 clear hx
 cases hh : hexB c
 ·rw [hh] at g1
  clear hh g2
  generalize hexV c = y at *
  go_enter Tryz.func232, Tryz.ntmps232
  go_wp2_with (go_at_call 233; refine g1.mono ?_; rintro r w' ⟨rfl, rfl⟩)
  go_quiet (fail)
  go_wp2
  go_ret
  exact ⟨rfl, _, rfl⟩
 ·rw [hh] at g1
  clear hh
  generalize notLowB ((val : Int) * 16 + hexV c) ((val : Int) * 16 + hexV c) = z at *
  generalize hexV c = y at *
  go_enter Tryz.func232, Tryz.ntmps232
  go_wp2_with (go_at_call 233; refine g1.mono ?_; rintro r w' ⟨rfl, rfl⟩)
  go_quiet ((go_at_call 220; exact Calls.quiet_of_same (g2 _)))
  go_wp2
  go_ret
  exact ⟨rfl, _, rfl⟩
end Go.Proofs.YtjdboekanmfgpaaGreatDoor.Lx

namespace Go.Proofs.YtjdboekanmfgpaaGreatDoor.Lx
open Go.RowKit
attribute [local go_sem] setCell_drewN alloc_drewN

/-- The digit's step: the number so far, and whether one that is wanted can still come. -/
def wantB (low : Bool) (a b : Int) : Bool := if low = true then lowB a b else notLowB a b
def stepU (low : Bool) (val : Nat) (sh : Nat) (c : Int) : Bool := hexB c && wantB low (((val : Int) * 16 + hexV c) * 2 ^ sh) (((val : Int) * 16 + hexV c) * 2 ^ sh + (2 ^ sh - 1))
def valU (val : Nat) (c : Int) : Nat := val * 16 + (hexV c).toNat
theorem valU_int (val : Nat) (c : Int) : (valU val c : Int) = (val : Int) * 16 + hexV c := by
 have := hexV_bd c
 unfold valU; omega
/-- k digits from a place on. -/
def unitF (l : List UInt8) (low : Bool) : Nat → Nat → Nat → Except Nat (Nat × Nat)
 | 0, i, val => .ok (val, i)
 | k + 1, i, val => if hasAt l i (stepU low val (4 * k)) = true then unitF l low k (i + 1) (valU val (bx l i)) else .error (i + 1)
def unitL (l : List UInt8) (low : Bool) (i : Nat) : Except Nat (Nat × Nat) := unitF l low 4 i 0
theorem unitF_le {l : List UInt8} {low : Bool} (k : Nat) : ∀ {i val : Nat} {r : Nat × Nat}, unitF l low k i val = .ok r → r.2 = i + k ∧ (i ≤ l.length → r.2 ≤ l.length) := by
 induction k with
 | zero => intro i val r h; simp [unitF] at h; subst h; exact ⟨rfl, id⟩
 | succ k ih =>
  intro i val r h
  simp only [unitF] at h
  split at h
  ·rename_i g
   have g1 := hasAt_lt g
   have := ih h
   exact ⟨by omega, fun _ => this.2 (by omega)⟩
  ·cases h
theorem valU_lt {val : Nat} {c : Int} {m : Nat} (h : val < m) : valU val c < m * 16 := by
 have := hexV_bd c
 unfold valU; omega
theorem unitF_lt {l : List UInt8} {low : Bool} (k : Nat) : ∀ {i val m : Nat} {r : Nat × Nat}, val < m → unitF l low k i val = .ok r → r.1 < m * 16 ^ k := by
 induction k with
 | zero => intro i val m r hv h; simp [unitF] at h; subst h; simpa using hv
 | succ k ih =>
  intro i val m r hv h
  simp only [unitF] at h
  split at h
  ·have := ih (valU_lt (c := bx l i) hv) h
   rw [Nat.pow_succ, Nat.mul_comm (16 ^ k) 16, ← Nat.mul_assoc]; exact this
  ·cases h

theorem unit1_any (low : Bool) (k : Nat) (hk : k < 4) (c : Int) (a b d val : Nat) (w : World) (h0 : 0 ≤ c) (h1 : c < 256) (hv : val < 4096) (ha : w.cell? ⟨a, 0, none⟩ = some (.int .i64 val)) (hfa : w.frozen? ⟨a, 0, none⟩ = false) (hb : w.cell? ⟨b, 0, none⟩ = some (.int .i64 (4 * k : Nat)))
  (hd : w.cell? ⟨d, 0, none⟩ = some (.func (.func (if low = true then 234 else 220)) #[] #[])) (hab : a ≠ b) (had : a ≠ d) :
  Calls Tryz.prog 232 #[.int .u8 c, .pointer (some ⟨a, 0, none⟩), .pointer (some ⟨b, 0, none⟩), .pointer (some ⟨d, 0, none⟩)] w fun r w' => r = .returned (.bool (stepU low val (4 * k) c)) ∧ ∃ n, w' = (w.setCell ⟨a, 0, none⟩ (.int .i64 (valU val c : Nat))).drewN n := by
 rw [valU_int]
 unfold stepU wantB
 have e : k = 0 ∨ k = 1 ∨ k = 2 ∨ k = 3 := by omega
 cases low
 ·rcases e with rfl | rfl | rfl | rfl
  ·have g := unit1_n0 c a b d val w h0 h1 hv ha hfa hb hd hab had
   simpa using g
  ·exact unit1_n4 c a b d val w h0 h1 hv ha hfa hb hd hab had
  ·exact unit1_n8 c a b d val w h0 h1 hv ha hfa hb hd hab had
  ·exact unit1_n12 c a b d val w h0 h1 hv ha hfa hb hd hab had
 ·rcases e with rfl | rfl | rfl | rfl
  ·have g := unit1_l0 c a b d val w h0 h1 hv ha hfa hb hd hab had
   simpa using g
  ·exact unit1_l4 c a b d val w h0 h1 hv ha hfa hb hd hab had
  ·exact unit1_l8 c a b d val w h0 h1 hv ha hfa hb hd hab had
  ·exact unit1_l12 c a b d val w h0 h1 hv ha hfa hb hd hab had

set_option maxHeartbeats 400000 in
theorem taken_unit (a b d : Nat) (g : Int → Int) (l : List UInt8) (i : Nat) (v : Value) (p : Int → Bool) (w : World) (hB : Byt w v l) (hi : i ≤ l.length) (hm : l.length ≤ 281474976710656)
  (hf : ∀ c, 0 ≤ c → c < 256 → Calls Tryz.prog 232 #[.int .u8 c, .pointer (some ⟨a, 0, none⟩), .pointer (some ⟨b, 0, none⟩), .pointer (some ⟨d, 0, none⟩)] w fun r w' => r = .returned (.bool (p c)) ∧ ∃ n, w' = (w.setCell ⟨a, 0, none⟩ (.int .i64 (g c))).drewN n) :
  Calls Tryz.prog 207 #[v, .int .i64 i, .func (.func 232) #[] #[.pointer (some ⟨a, 0, none⟩), .pointer (some ⟨b, 0, none⟩), .pointer (some ⟨d, 0, none⟩)]] w fun r w' => r = .returned (plV (takenL l i p)) ∧ ((i < l.length ∧ ∃ n, w' = (w.setCell ⟨a, 0, none⟩ (.int .i64 (g (bx l i)))).drewN n) ∨ (¬ i < l.length ∧ w' = w)) := by
 have hmI : (l.length : Int) ≤ 281474976710656 := by omega
 have g1 := fun w => badAt_any i w (by omega)
 by_cases hlt : i < l.length
 ·rcases hB with ⟨h0, _⟩ | ⟨bb, off, cap, rfl, hc, hm', hL⟩
  ·omega
  ·have hcell := hL.cell i hlt
   have hI : (i : Int) < (l.length : Int) := by omega
   have h1 := hf (bx l i) (bx_lo l i) (bx_hi l i)
   have HG : Hid (i < l.length) := hlt
   obtain ⟨y, hy⟩ : ∃ y, g (bx l i) = y := ⟨_, rfl⟩
   rw [hy] at h1 ⊢
   clear hy
   cases hp : p (bx l i)
   ·rw [hp] at h1
    have HR : Hid (takenL l i p = .error (i + 1)) := by show _ = _; simp [takenL, hasAt_in p hlt, hp]
    clear hp hL hf hc hm'
    generalize bx l i = c at *
    go_enter Tryz.func207, Tryz.ntmps207
    go_wp2_with (first | (go_at_call 232; refine h1.mono ?_; rintro r w2 ⟨rfl, q, rfl⟩) | (go_at_call 180; refine (g1 _).mono ?_; rintro r w3 ⟨rfl, rfl⟩))
    go_ret2
    exact ⟨r_pl (by rw [HR.out]; rfl), .inl ⟨HG.out, _, rfl⟩⟩
   ·rw [hp] at h1
    have HR : Hid (takenL l i p = .ok (i + 1)) := by show _ = _; simp [takenL, hasAt_in p hlt, hp]
    clear hp hL hf hc hm' g1
    generalize bx l i = c at *
    go_enter Tryz.func207, Tryz.ntmps207
    go_wp2_with (go_at_call 232; refine h1.mono ?_; rintro r w2 ⟨rfl, q, rfl⟩)
    go_ret2
    exact ⟨r_pl (by rw [HR.out]; simp [plV]), .inl ⟨HG.out, _, rfl⟩⟩
 ·have hI : ¬ (i : Int) < (l.length : Int) := by omega
  have HR : Hid (takenL l i p = .error (i + 1)) := by show _ = _; simp [takenL, hasAt_out p hlt]
  have HL : Hid (¬ i < l.length) := hlt
  obtain ⟨ad, cap, rfl, _⟩ := hB.shape
  clear hB hf
  go_enter Tryz.func207, Tryz.ntmps207
  go_wp2_with (go_at_call 180; refine (g1 _).mono ?_; rintro r w3 ⟨rfl, rfl⟩)
  go_ret2
  exact ⟨r_pl (by rw [HR.out]; rfl), .inr ⟨HL.out, rfl⟩⟩
end Go.Proofs.YtjdboekanmfgpaaGreatDoor.Lx
