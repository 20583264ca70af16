/-
  What the test of lex.unit answers, and lex.taken with it. No condition but that the cells are there.
-/
import Derived.Test.YtjakgdaodlgeaaaGreatDoorJoined8
namespace Go.Proofs.YtjakgdaodlgeaaaGreatDoor.Lx
open Go.RowKit
attribute [local go_sem] setCell_drewN alloc_drewN

set_option maxHeartbeats 800000 in
theorem unit1_l12 (c : Int) (a b d val : Nat) (w : World) (h0 : 0 ≤ c) (h1 : c < 256) (hv : val < 4096) (ha : w.cell? ⟨a, 0, none⟩ = some (.int .i64 val)) (hfa : w.frozen? ⟨a, 0, none⟩ = false) (hb : w.cell? ⟨b, 0, none⟩ = some (.int .i64 12)) (hd : w.cell? ⟨d, 0, none⟩ = some (.func (.func 125) #[] #[])) (hab : a ≠ b) (had : a ≠ d) :
  Calls Tryz.prog 123 #[.int .u8 c, .pointer (some ⟨a, 0, none⟩), .pointer (some ⟨b, 0, none⟩), .pointer (some ⟨d, 0, none⟩)] w fun r w' => r = .returned (.bool (hexB c && lowB (((val : Int) * 16 + hexV c) * 4096) (((val : Int) * 16 + hexV c) * 4096 + 4095))) ∧ ∃ n, w' = (w.setCell ⟨a, 0, none⟩ (.int .i64 ((val : Int) * 16 + hexV c))).drewN n := by
 have g1 := hex_any c w h0 h1
 have hbd := hexV_bd c
 have hvI : (val : Int) < 4096 := by omega
 obtain ⟨x, hx⟩ := Int.eq_ofNat_of_zero_le hbd.1
 have hor := or_i64 (val * 16) x 4 ((val : Int) * 16) (hexV c) (by omega) hx (by omega) (by omega) (by omega)
 have hor2 := or_i64 ((val * 16 + x) * 4096) 4095 12 (((val : Int) * 16 + hexV c) * 4096) 4095 (by omega) (by omega) (by omega) (by omega) (by omega)
 have g2 := fun w => low_any (((val : Int) * 16 + hexV c) * 4096) (((val : Int) * 16 + hexV c) * 4096 + 4095) w
 have c1 : (w.setCell ⟨a, 0, none⟩ (.int .i64 ((val : Int) * 16 + hexV c))).cell? ⟨a, 0, none⟩ = some (.int .i64 ((val : Int) * 16 + hexV c)) := World.cell?_setCell_same _ _ _ ha
 have c2 : (w.setCell ⟨a, 0, none⟩ (.int .i64 ((val : Int) * 16 + hexV c))).cell? ⟨b, 0, none⟩ = some (.int .i64 12) := (World.cell?_setCell_other _ _ _ _ (by simp <;> omega)).trans hb
 have c3 : (w.setCell ⟨a, 0, none⟩ (.int .i64 ((val : Int) * 16 + hexV c))).cell? ⟨d, 0, none⟩ = some (.func (.func 125) #[] #[]) := (World.cell?_setCell_other _ _ _ _ (by simp <;> omega)).trans hd
 clear hx
 cases hh : hexB c
 ·rw [hh] at g1
  clear hh g2
  generalize hexV c = y at *
  go_enter Tryz.func123, Tryz.ntmps123
  go_wp2_with (go_at_call 124; refine g1.mono ?_; rintro r w' ⟨rfl, rfl⟩)
  go_quiet (fail)
  go_wp2
  go_ret
  exact ⟨rfl, _, rfl⟩
 ·rw [hh] at g1
  clear hh
  generalize lowB (((val : Int) * 16 + hexV c) * 4096) (((val : Int) * 16 + hexV c) * 4096 + 4095) = z at *
  generalize hexV c = y at *
  go_enter Tryz.func123, Tryz.ntmps123
  go_wp2_with (go_at_call 124; refine g1.mono ?_; rintro r w' ⟨rfl, rfl⟩)
  go_quiet ((go_at_call 125; exact Calls.quiet_of_same (g2 _)))
  go_wp2
  go_ret
  exact ⟨rfl, _, rfl⟩
set_option maxHeartbeats 800000 in
theorem unit1_l8 (c : Int) (a b d val : Nat) (w : World) (h0 : 0 ≤ c) (h1 : c < 256) (hv : val < 4096) (ha : w.cell? ⟨a, 0, none⟩ = some (.int .i64 val)) (hfa : w.frozen? ⟨a, 0, none⟩ = false) (hb : w.cell? ⟨b, 0, none⟩ = some (.int .i64 8)) (hd : w.cell? ⟨d, 0, none⟩ = some (.func (.func 125) #[] #[])) (hab : a ≠ b) (had : a ≠ d) :
  Calls Tryz.prog 123 #[.int .u8 c, .pointer (some ⟨a, 0, none⟩), .pointer (some ⟨b, 0, none⟩), .pointer (some ⟨d, 0, none⟩)] w fun r w' => r = .returned (.bool (hexB c && lowB (((val : Int) * 16 + hexV c) * 256) (((val : Int) * 16 + hexV c) * 256 + 255))) ∧ ∃ n, w' = (w.setCell ⟨a, 0, none⟩ (.int .i64 ((val : Int) * 16 + hexV c))).drewN n := by
 have g1 := hex_any c w h0 h1
 have hbd := hexV_bd c
 have hvI : (val : Int) < 4096 := by omega
 obtain ⟨x, hx⟩ := Int.eq_ofNat_of_zero_le hbd.1
 have hor := or_i64 (val * 16) x 4 ((val : Int) * 16) (hexV c) (by omega) hx (by omega) (by omega) (by omega)
 have hor2 := or_i64 ((val * 16 + x) * 256) 255 8 (((val : Int) * 16 + hexV c) * 256) 255 (by omega) (by omega) (by omega) (by omega) (by omega)
 have g2 := fun w => low_any (((val : Int) * 16 + hexV c) * 256) (((val : Int) * 16 + hexV c) * 256 + 255) w
 have c1 : (w.setCell ⟨a, 0, none⟩ (.int .i64 ((val : Int) * 16 + hexV c))).cell? ⟨a, 0, none⟩ = some (.int .i64 ((val : Int) * 16 + hexV c)) := World.cell?_setCell_same _ _ _ ha
 have c2 : (w.setCell ⟨a, 0, none⟩ (.int .i64 ((val : Int) * 16 + hexV c))).cell? ⟨b, 0, none⟩ = some (.int .i64 8) := (World.cell?_setCell_other _ _ _ _ (by simp <;> omega)).trans hb
 have c3 : (w.setCell ⟨a, 0, none⟩ (.int .i64 ((val : Int) * 16 + hexV c))).cell? ⟨d, 0, none⟩ = some (.func (.func 125) #[] #[]) := (World.cell?_setCell_other _ _ _ _ (by simp <;> omega)).trans hd
 clear hx
 cases hh : hexB c
 ·rw [hh] at g1
  clear hh g2
  generalize hexV c = y at *
  go_enter Tryz.func123, Tryz.ntmps123
  go_wp2_with (go_at_call 124; refine g1.mono ?_; rintro r w' ⟨rfl, rfl⟩)
  go_quiet (fail)
  go_wp2
  go_ret
  exact ⟨rfl, _, rfl⟩
 ·rw [hh] at g1
  clear hh
  generalize lowB (((val : Int) * 16 + hexV c) * 256) (((val : Int) * 16 + hexV c) * 256 + 255) = z at *
  generalize hexV c = y at *
  go_enter Tryz.func123, Tryz.ntmps123
  go_wp2_with (go_at_call 124; refine g1.mono ?_; rintro r w' ⟨rfl, rfl⟩)
  go_quiet ((go_at_call 125; exact Calls.quiet_of_same (g2 _)))
  go_wp2
  go_ret
  exact ⟨rfl, _, rfl⟩
set_option maxHeartbeats 800000 in
theorem unit1_l4 (c : Int) (a b d val : Nat) (w : World) (h0 : 0 ≤ c) (h1 : c < 256) (hv : val < 4096) (ha : w.cell? ⟨a, 0, none⟩ = some (.int .i64 val)) (hfa : w.frozen? ⟨a, 0, none⟩ = false) (hb : w.cell? ⟨b, 0, none⟩ = some (.int .i64 4)) (hd : w.cell? ⟨d, 0, none⟩ = some (.func (.func 125) #[] #[])) (hab : a ≠ b) (had : a ≠ d) :
  Calls Tryz.prog 123 #[.int .u8 c, .pointer (some ⟨a, 0, none⟩), .pointer (some ⟨b, 0, none⟩), .pointer (some ⟨d, 0, none⟩)] w fun r w' => r = .returned (.bool (hexB c && lowB (((val : Int) * 16 + hexV c) * 16) (((val : Int) * 16 + hexV c) * 16 + 15))) ∧ ∃ n, w' = (w.setCell ⟨a, 0, none⟩ (.int .i64 ((val : Int) * 16 + hexV c))).drewN n := by
 have g1 := hex_any c w h0 h1
 have hbd := hexV_bd c
 have hvI : (val : Int) < 4096 := by omega
 obtain ⟨x, hx⟩ := Int.eq_ofNat_of_zero_le hbd.1
 have hor := or_i64 (val * 16) x 4 ((val : Int) * 16) (hexV c) (by omega) hx (by omega) (by omega) (by omega)
 have hor2 := or_i64 ((val * 16 + x) * 16) 15 4 (((val : Int) * 16 + hexV c) * 16) 15 (by omega) (by omega) (by omega) (by omega) (by omega)
 have g2 := fun w => low_any (((val : Int) * 16 + hexV c) * 16) (((val : Int) * 16 + hexV c) * 16 + 15) w
 have c1 : (w.setCell ⟨a, 0, none⟩ (.int .i64 ((val : Int) * 16 + hexV c))).cell? ⟨a, 0, none⟩ = some (.int .i64 ((val : Int) * 16 + hexV c)) := World.cell?_setCell_same _ _ _ ha
 have c2 : (w.setCell ⟨a, 0, none⟩ (.int .i64 ((val : Int) * 16 + hexV c))).cell? ⟨b, 0, none⟩ = some (.int .i64 4) := (World.cell?_setCell_other _ _ _ _ (by simp <;> omega)).trans hb
 have c3 : (w.setCell ⟨a, 0, none⟩ (.int .i64 ((val : Int) * 16 + hexV c))).cell? ⟨d, 0, none⟩ = some (.func (.func 125) #[] #[]) := (World.cell?_setCell_other _ _ _ _ (by simp <;> omega)).trans hd
 clear hx
 cases hh : hexB c
 ·rw [hh] at g1
  clear hh g2
  generalize hexV c = y at *
  go_enter Tryz.func123, Tryz.ntmps123
  go_wp2_with (go_at_call 124; refine g1.mono ?_; rintro r w' ⟨rfl, rfl⟩)
  go_quiet (fail)
  go_wp2
  go_ret
  exact ⟨rfl, _, rfl⟩
 ·rw [hh] at g1
  clear hh
  generalize lowB (((val : Int) * 16 + hexV c) * 16) (((val : Int) * 16 + hexV c) * 16 + 15) = z at *
  generalize hexV c = y at *
  go_enter Tryz.func123, Tryz.ntmps123
  go_wp2_with (go_at_call 124; refine g1.mono ?_; rintro r w' ⟨rfl, rfl⟩)
  go_quiet ((go_at_call 125; exact Calls.quiet_of_same (g2 _)))
  go_wp2
  go_ret
  exact ⟨rfl, _, rfl⟩
set_option maxHeartbeats 800000 in
theorem unit1_l0 (c : Int) (a b d val : Nat) (w : World) (h0 : 0 ≤ c) (h1 : c < 256) (hv : val < 4096) (ha : w.cell? ⟨a, 0, none⟩ = some (.int .i64 val)) (hfa : w.frozen? ⟨a, 0, none⟩ = false) (hb : w.cell? ⟨b, 0, none⟩ = some (.int .i64 0)) (hd : w.cell? ⟨d, 0, none⟩ = some (.func (.func 125) #[] #[])) (hab : a ≠ b) (had : a ≠ d) :
  Calls Tryz.prog 123 #[.int .u8 c, .pointer (some ⟨a, 0, none⟩), .pointer (some ⟨b, 0, none⟩), .pointer (some ⟨d, 0, none⟩)] w fun r w' => r = .returned (.bool (hexB c && lowB ((val : Int) * 16 + hexV c) ((val : Int) * 16 + hexV c))) ∧ ∃ n, w' = (w.setCell ⟨a, 0, none⟩ (.int .i64 ((val : Int) * 16 + hexV c))).drewN n := by
 have g1 := hex_any c w h0 h1
 have hbd := hexV_bd c
 have hvI : (val : Int) < 4096 := by omega
 obtain ⟨x, hx⟩ := Int.eq_ofNat_of_zero_le hbd.1
 have hor := or_i64 (val * 16) x 4 ((val : Int) * 16) (hexV c) (by omega) hx (by omega) (by omega) (by omega)
 have hor2 := or_i64 (val * 16 + x) 0 0 ((val : Int) * 16 + hexV c) 0 (by omega) (by omega) (by omega) (by omega) (by omega)
 rw [Int.add_zero] at hor2
 have g2 := fun w => low_any ((val : Int) * 16 + hexV c) ((val : Int) * 16 + hexV c) w
 have c1 : (w.setCell ⟨a, 0, none⟩ (.int .i64 ((val : Int) * 16 + hexV c))).cell? ⟨a, 0, none⟩ = some (.int .i64 ((val : Int) * 16 + hexV c)) := World.cell?_setCell_same _ _ _ ha
 have c2 : (w.setCell ⟨a, 0, none⟩ (.int .i64 ((val : Int) * 16 + hexV c))).cell? ⟨b, 0, none⟩ = some (.int .i64 0) := (World.cell?_setCell_other _ _ _ _ (by simp <;> omega)).trans hb
 have c3 : (w.setCell ⟨a, 0, none⟩ (.int .i64 ((val : Int) * 16 + hexV c))).cell? ⟨d, 0, none⟩ = some (.func (.func 125) #[] #[]) := (World.cell?_setCell_other _ _ _ _ (by simp <;> omega)).trans hd
 clear hx
 cases hh : hexB c
 ·rw [hh] at g1
  clear hh g2
  generalize hexV c = y at *
  go_enter Tryz.func123, Tryz.ntmps123
  go_wp2_with (go_at_call 124; refine g1.mono ?_; rintro r w' ⟨rfl, rfl⟩)
  go_quiet (fail)
  go_wp2
  go_ret
  exact ⟨rfl, _, rfl⟩
 ·rw [hh] at g1
  clear hh
  generalize lowB ((val : Int) * 16 + hexV c) ((val : Int) * 16 + hexV c) = z at *
  generalize hexV c = y at *
  go_enter Tryz.func123, Tryz.ntmps123
  go_wp2_with (go_at_call 124; refine g1.mono ?_; rintro r w' ⟨rfl, rfl⟩)
  go_quiet ((go_at_call 125; exact Calls.quiet_of_same (g2 _)))
  go_wp2
  go_ret
  exact ⟨rfl, _, rfl⟩
set_option maxHeartbeats 800000 in
theorem unit1_n12 (c : Int) (a b d val : Nat) (w : World) (h0 : 0 ≤ c) (h1 : c < 256) (hv : val < 4096) (ha : w.cell? ⟨a, 0, none⟩ = some (.int .i64 val)) (hfa : w.frozen? ⟨a, 0, none⟩ = false) (hb : w.cell? ⟨b, 0, none⟩ = some (.int .i64 12)) (hd : w.cell? ⟨d, 0, none⟩ = some (.func (.func 115) #[] #[])) (hab : a ≠ b) (had : a ≠ d) :
  Calls Tryz.prog 123 #[.int .u8 c, .pointer (some ⟨a, 0, none⟩), .pointer (some ⟨b, 0, none⟩), .pointer (some ⟨d, 0, none⟩)] w fun r w' => r = .returned (.bool (hexB c && notLowB (((val : Int) * 16 + hexV c) * 4096) (((val : Int) * 16 + hexV c) * 4096 + 4095))) ∧ ∃ n, w' = (w.setCell ⟨a, 0, none⟩ (.int .i64 ((val : Int) * 16 + hexV c))).drewN n := by
 have g1 := hex_any c w h0 h1
 have hbd := hexV_bd c
 have hvI : (val : Int) < 4096 := by omega
 obtain ⟨x, hx⟩ := Int.eq_ofNat_of_zero_le hbd.1
 have hor := or_i64 (val * 16) x 4 ((val : Int) * 16) (hexV c) (by omega) hx (by omega) (by omega) (by omega)
 have hor2 := or_i64 ((val * 16 + x) * 4096) 4095 12 (((val : Int) * 16 + hexV c) * 4096) 4095 (by omega) (by omega) (by omega) (by omega) (by omega)
 have g2 := fun w => notLow_any (((val : Int) * 16 + hexV c) * 4096) (((val : Int) * 16 + hexV c) * 4096 + 4095) w
 have c1 : (w.setCell ⟨a, 0, none⟩ (.int .i64 ((val : Int) * 16 + hexV c))).cell? ⟨a, 0, none⟩ = some (.int .i64 ((val : Int) * 16 + hexV c)) := World.cell?_setCell_same _ _ _ ha
 have c2 : (w.setCell ⟨a, 0, none⟩ (.int .i64 ((val : Int) * 16 + hexV c))).cell? ⟨b, 0, none⟩ = some (.int .i64 12) := (World.cell?_setCell_other _ _ _ _ (by simp <;> omega)).trans hb
 have c3 : (w.setCell ⟨a, 0, none⟩ (.int .i64 ((val : Int) * 16 + hexV c))).cell? ⟨d, 0, none⟩ = some (.func (.func 115) #[] #[]) := (World.cell?_setCell_other _ _ _ _ (by simp <;> omega)).trans hd
 clear hx
 cases hh : hexB c
 ·rw [hh] at g1
  clear hh g2
  generalize hexV c = y at *
  go_enter Tryz.func123, Tryz.ntmps123
  go_wp2_with (go_at_call 124; refine g1.mono ?_; rintro r w' ⟨rfl, rfl⟩)
  go_quiet (fail)
  go_wp2
  go_ret
  exact ⟨rfl, _, rfl⟩
 ·rw [hh] at g1
  clear hh
  generalize notLowB (((val : Int) * 16 + hexV c) * 4096) (((val : Int) * 16 + hexV c) * 4096 + 4095) = z at *
  generalize hexV c = y at *
  go_enter Tryz.func123, Tryz.ntmps123
  go_wp2_with (go_at_call 124; refine g1.mono ?_; rintro r w' ⟨rfl, rfl⟩)
  go_quiet ((go_at_call 115; exact Calls.quiet_of_same (g2 _)))
  go_wp2
  go_ret
  exact ⟨rfl, _, rfl⟩
set_option maxHeartbeats 800000 in
theorem unit1_n8 (c : Int) (a b d val : Nat) (w : World) (h0 : 0 ≤ c) (h1 : c < 256) (hv : val < 4096) (ha : w.cell? ⟨a, 0, none⟩ = some (.int .i64 val)) (hfa : w.frozen? ⟨a, 0, none⟩ = false) (hb : w.cell? ⟨b, 0, none⟩ = some (.int .i64 8)) (hd : w.cell? ⟨d, 0, none⟩ = some (.func (.func 115) #[] #[])) (hab : a ≠ b) (had : a ≠ d) :
  Calls Tryz.prog 123 #[.int .u8 c, .pointer (some ⟨a, 0, none⟩), .pointer (some ⟨b, 0, none⟩), .pointer (some ⟨d, 0, none⟩)] w fun r w' => r = .returned (.bool (hexB c && notLowB (((val : Int) * 16 + hexV c) * 256) (((val : Int) * 16 + hexV c) * 256 + 255))) ∧ ∃ n, w' = (w.setCell ⟨a, 0, none⟩ (.int .i64 ((val : Int) * 16 + hexV c))).drewN n := by
 have g1 := hex_any c w h0 h1
 have hbd := hexV_bd c
 have hvI : (val : Int) < 4096 := by omega
 obtain ⟨x, hx⟩ := Int.eq_ofNat_of_zero_le hbd.1
 have hor := or_i64 (val * 16) x 4 ((val : Int) * 16) (hexV c) (by omega) hx (by omega) (by omega) (by omega)
 have hor2 := or_i64 ((val * 16 + x) * 256) 255 8 (((val : Int) * 16 + hexV c) * 256) 255 (by omega) (by omega) (by omega) (by omega) (by omega)
 have g2 := fun w => notLow_any (((val : Int) * 16 + hexV c) * 256) (((val : Int) * 16 + hexV c) * 256 + 255) w
 have c1 : (w.setCell ⟨a, 0, none⟩ (.int .i64 ((val : Int) * 16 + hexV c))).cell? ⟨a, 0, none⟩ = some (.int .i64 ((val : Int) * 16 + hexV c)) := World.cell?_setCell_same _ _ _ ha
 have c2 : (w.setCell ⟨a, 0, none⟩ (.int .i64 ((val : Int) * 16 + hexV c))).cell? ⟨b, 0, none⟩ = some (.int .i64 8) := (World.cell?_setCell_other _ _ _ _ (by simp <;> omega)).trans hb
 have c3 : (w.setCell ⟨a, 0, none⟩ (.int .i64 ((val : Int) * 16 + hexV c))).cell? ⟨d, 0, none⟩ = some (.func (.func 115) #[] #[]) := (World.cell?_setCell_other _ _ _ _ (by simp <;> omega)).trans hd
 clear hx
 cases hh : hexB c
 ·rw [hh] at g1
  clear hh g2
  generalize hexV c = y at *
  go_enter Tryz.func123, Tryz.ntmps123
  go_wp2_with (go_at_call 124; refine g1.mono ?_; rintro r w' ⟨rfl, rfl⟩)
  go_quiet (fail)
  go_wp2
  go_ret
  exact ⟨rfl, _, rfl⟩
 ·rw [hh] at g1
  clear hh
  generalize notLowB (((val : Int) * 16 + hexV c) * 256) (((val : Int) * 16 + hexV c) * 256 + 255) = z at *
  generalize hexV c = y at *
  go_enter Tryz.func123, Tryz.ntmps123
  go_wp2_with (go_at_call 124; refine g1.mono ?_; rintro r w' ⟨rfl, rfl⟩)
  go_quiet ((go_at_call 115; exact Calls.quiet_of_same (g2 _)))
  go_wp2
  go_ret
  exact ⟨rfl, _, rfl⟩
set_option maxHeartbeats 800000 in
theorem unit1_n4 (c : Int) (a b d val : Nat) (w : World) (h0 : 0 ≤ c) (h1 : c < 256) (hv : val < 4096) (ha : w.cell? ⟨a, 0, none⟩ = some (.int .i64 val)) (hfa : w.frozen? ⟨a, 0, none⟩ = false) (hb : w.cell? ⟨b, 0, none⟩ = some (.int .i64 4)) (hd : w.cell? ⟨d, 0, none⟩ = some (.func (.func 115) #[] #[])) (hab : a ≠ b) (had : a ≠ d) :
  Calls Tryz.prog 123 #[.int .u8 c, .pointer (some ⟨a, 0, none⟩), .pointer (some ⟨b, 0, none⟩), .pointer (some ⟨d, 0, none⟩)] w fun r w' => r = .returned (.bool (hexB c && notLowB (((val : Int) * 16 + hexV c) * 16) (((val : Int) * 16 + hexV c) * 16 + 15))) ∧ ∃ n, w' = (w.setCell ⟨a, 0, none⟩ (.int .i64 ((val : Int) * 16 + hexV c))).drewN n := by
 have g1 := hex_any c w h0 h1
 have hbd := hexV_bd c
 have hvI : (val : Int) < 4096 := by omega
 obtain ⟨x, hx⟩ := Int.eq_ofNat_of_zero_le hbd.1
 have hor := or_i64 (val * 16) x 4 ((val : Int) * 16) (hexV c) (by omega) hx (by omega) (by omega) (by omega)
 have hor2 := or_i64 ((val * 16 + x) * 16) 15 4 (((val : Int) * 16 + hexV c) * 16) 15 (by omega) (by omega) (by omega) (by omega) (by omega)
 have g2 := fun w => notLow_any (((val : Int) * 16 + hexV c) * 16) (((val : Int) * 16 + hexV c) * 16 + 15) w
 have c1 : (w.setCell ⟨a, 0, none⟩ (.int .i64 ((val : Int) * 16 + hexV c))).cell? ⟨a, 0, none⟩ = some (.int .i64 ((val : Int) * 16 + hexV c)) := World.cell?_setCell_same _ _ _ ha
 have c2 : (w.setCell ⟨a, 0, none⟩ (.int .i64 ((val : Int) * 16 + hexV c))).cell? ⟨b, 0, none⟩ = some (.int .i64 4) := (World.cell?_setCell_other _ _ _ _ (by simp <;> omega)).trans hb
 have c3 : (w.setCell ⟨a, 0, none⟩ (.int .i64 ((val : Int) * 16 + hexV c))).cell? ⟨d, 0, none⟩ = some (.func (.func 115) #[] #[]) := (World.cell?_setCell_other _ _ _ _ (by simp <;> omega)).trans hd
 clear hx
 cases hh : hexB c
 ·rw [hh] at g1
  clear hh g2
  generalize hexV c = y at *
  go_enter Tryz.func123, Tryz.ntmps123
  go_wp2_with (go_at_call 124; refine g1.mono ?_; rintro r w' ⟨rfl, rfl⟩)
  go_quiet (fail)
  go_wp2
  go_ret
  exact ⟨rfl, _, rfl⟩
 ·rw [hh] at g1
  clear hh
  generalize notLowB (((val : Int) * 16 + hexV c) * 16) (((val : Int) * 16 + hexV c) * 16 + 15) = z at *
  generalize hexV c = y at *
  go_enter Tryz.func123, Tryz.ntmps123
  go_wp2_with (go_at_call 124; refine g1.mono ?_; rintro r w' ⟨rfl, rfl⟩)
  go_quiet ((go_at_call 115; exact Calls.quiet_of_same (g2 _)))
  go_wp2
  go_ret
  exact ⟨rfl, _, rfl⟩
set_option maxHeartbeats 800000 in
theorem unit1_n0 (c : Int) (a b d val : Nat) (w : World) (h0 : 0 ≤ c) (h1 : c < 256) (hv : val < 4096) (ha : w.cell? ⟨a, 0, none⟩ = some (.int .i64 val)) (hfa : w.frozen? ⟨a, 0, none⟩ = false) (hb : w.cell? ⟨b, 0, none⟩ = some (.int .i64 0)) (hd : w.cell? ⟨d, 0, none⟩ = some (.func (.func 115) #[] #[])) (hab : a ≠ b) (had : a ≠ d) :
  Calls Tryz.prog 123 #[.int .u8 c, .pointer (some ⟨a, 0, none⟩), .pointer (some ⟨b, 0, none⟩), .pointer (some ⟨d, 0, none⟩)] w fun r w' => r = .returned (.bool (hexB c && notLowB ((val : Int) * 16 + hexV c) ((val : Int) * 16 + hexV c))) ∧ ∃ n, w' = (w.setCell ⟨a, 0, none⟩ (.int .i64 ((val : Int) * 16 + hexV c))).drewN n := by
 have g1 := hex_any c w h0 h1
 have hbd := hexV_bd c
 have hvI : (val : Int) < 4096 := by omega
 obtain ⟨x, hx⟩ := Int.eq_ofNat_of_zero_le hbd.1
 have hor := or_i64 (val * 16) x 4 ((val : Int) * 16) (hexV c) (by omega) hx (by omega) (by omega) (by omega)
 have hor2 := or_i64 (val * 16 + x) 0 0 ((val : Int) * 16 + hexV c) 0 (by omega) (by omega) (by omega) (by omega) (by omega)
 rw [Int.add_zero] at hor2
 have g2 := fun w => notLow_any ((val : Int) * 16 + hexV c) ((val : Int) * 16 + hexV c) w
 have c1 : (w.setCell ⟨a, 0, none⟩ (.int .i64 ((val : Int) * 16 + hexV c))).cell? ⟨a, 0, none⟩ = some (.int .i64 ((val : Int) * 16 + hexV c)) := World.cell?_setCell_same _ _ _ ha
 have c2 : (w.setCell ⟨a, 0, none⟩ (.int .i64 ((val : Int) * 16 + hexV c))).cell? ⟨b, 0, none⟩ = some (.int .i64 0) := (World.cell?_setCell_other _ _ _ _ (by simp <;> omega)).trans hb
 have c3 : (w.setCell ⟨a, 0, none⟩ (.int .i64 ((val : Int) * 16 + hexV c))).cell? ⟨d, 0, none⟩ = some (.func (.func 115) #[] #[]) := (World.cell?_setCell_other _ _ _ _ (by simp <;> omega)).trans hd
 clear hx
 cases hh : hexB c
 ·rw [hh] at g1
  clear hh g2
  generalize hexV c = y at *
  go_enter Tryz.func123, Tryz.ntmps123
  go_wp2_with (go_at_call 124; refine g1.mono ?_; rintro r w' ⟨rfl, rfl⟩)
  go_quiet (fail)
  go_wp2
  go_ret
  exact ⟨rfl, _, rfl⟩
 ·rw [hh] at g1
  clear hh
  generalize notLowB ((val : Int) * 16 + hexV c) ((val : Int) * 16 + hexV c) = z at *
  generalize hexV c = y at *
  go_enter Tryz.func123, Tryz.ntmps123
  go_wp2_with (go_at_call 124; refine g1.mono ?_; rintro r w' ⟨rfl, rfl⟩)
  go_quiet ((go_at_call 115; exact Calls.quiet_of_same (g2 _)))
  go_wp2
  go_ret
  exact ⟨rfl, _, rfl⟩
end Go.Proofs.YtjakgdaodlgeaaaGreatDoor.Lx
