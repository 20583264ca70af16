/-
  What ref4.four answers: the number of four digits of 16, or where it is bad: the same as lex.unit. Conditions: the bytes lie in memory, at most 2^48 of them.
  What ref4.escape answers: the code point behind a backslash, or the bad length: the same as lex.escape. Conditions: the bytes lie in memory, at most 2^48 of them.
-/
import Derived.Test.YtfoehebnmommfaaGreatDoorJoined24
import Derived.Test.YtfoehebnmommfaaGreatDoorJoined7
import Derived.Test.YtfoehebnmommfaaGreatDoorJoined5
import Derived.Test.YtfoehebnmommfaaGreatDoorJoined8
namespace Go.Proofs.YtfoehebnmommfaaGreatDoor.Lx
open Go.RowKit
attribute [local go_sem] setCell_drewN alloc_drewN

def runV : Except Nat (Nat × Nat) → Value
 | .ok r => .tuple #[.int .i64 r.1, .int .i64 r.2, .int .i64 0]
 | .error n => .tuple #[.int .i64 0, .int .i64 0, .int .i64 n]
def inv4 (low : Bool) (k val : Nat) : Prop :=
 if low = true then (k = 1 → val = 13) ∧ (k = 2 → 220 ≤ val ∧ val ≤ 223) ∧ (k = 3 → 3520 ≤ val ∧ val ≤ 3583) else (k = 2 → val < 220 ∨ 223 < val) ∧ (k = 3 → val < 3520 ∨ 3583 < val)
theorem unitF_step {l : List UInt8} {low : Bool} {j p val : Nat} (h : hasAt l p (stepU low val (4 * j)) = true) : unitF l low (j + 1) p val = unitF l low j (p + 1) (valU val (bx l p)) := by
 conv => lhs; rw [unitF]
 rw [if_pos h]
theorem unitF_stop {l : List UInt8} {low : Bool} {j p val : Nat} (h : hasAt l p (stepU low val (4 * j)) = false) : unitF l low (j + 1) p val = .error (p + 1) := by
 conv => lhs; rw [unitF]
 rw [if_neg (by rw [h]; simp)]
set_option maxRecDepth 100000 in
set_option maxHeartbeats 12800000 in
theorem four_true (l : List UInt8) (i : Nat) (v : Value) (w : World) (hB : Byt w v l) (h0 : 0 < l.length) (hi : i ≤ l.length) (hm : l.length ≤ 281474976710656) :
  Calls Tryz.prog 85 #[v, .int .i64 i, .bool true] w fun r w' => r = .returned (runV (unitL l true i)) ∧ ∃ n, w' = w.drewN n := by
 have hiI : (i : Int) ≤ 281474976710656 := by omega
 have hlI : (l.length : Int) ≤ 281474976710656 := by omega
 rcases hB with ⟨h, _⟩ | ⟨b, off, cap, rfl, hc, hm', hL⟩
 ·omega
 clear hc hm' h0
 go_enter Tryz.func85, Tryz.ntmps85
 go_wp2
 go_loopw [9, 10] (fun u t wr => ∃ j k val : Nat, j + k = 4 ∧ t = .int .i64 (k : Int) ∧ u = .int .i64 (val : Int) ∧ i + k ≤ l.length ∧ Hid (val * 16 ^ j < 65536 ∧ inv4 true k val) ∧ Hid (unitF l true j (i + k) val = unitL l true i) ∧ ∃ q, wr = w.drewN q) (fun _ t _ => 4 - (intOf t).toNat)
 case atStart => exact ⟨4, 0, 0, rfl, rfl, rfl, by omega, ⟨by decide, by simp [inv4]⟩, rfl, 0, rfl⟩
 case round =>
  obtain ⟨j, k, val, hjk, rfl, rfl, hil, HI, HP, q, rfl⟩ := hrel
  have ek : k = 0 ∨ k = 1 ∨ k = 2 ∨ k = 3 ∨ k = 4 := by omega
  rcases ek with rfl | rfl | rfl | rfl | rfl
  ·obtain rfl : j = 3 + 1 := by omega
   have HP : Hid (unitF l true (3 + 1) i val = unitL l true i) := HP.out
   have hvl := HI.out.1
   have hiv := HI.out.2
   unfold inv4 at hiv
   simp only [if_true] at hiv
   by_cases hin : i < l.length
   ·have hcell := hL.cell i hin
    have hne : ((i : Int) == (l.length : Int)) = false := beq_eq_false_iff_ne.2 (by omega)
    have hinI : (i : Int) < (l.length : Int) := by omega
    have hnat : ((i : Int)).toNat = i := by omega
    have hx := fun w => rhex_any (bx l i) w (bx_lo _ _) (bx_hi _ _)
    have hbd := hexV_bd (bx l i)
    cases hh : hexB (bx l i)
    ·have e1 : hexI (bx l i) = -1 := by simp [hexI, hh]
     have HR : Hid (unitL l true i = .error (i + 1)) := by
      show _ = _
      rw [← HP.out, unitF_stop (j := 3) (by rw [hasAt_in _ hin]; simp [stepU, hh])]
     rw [e1] at hx
     clear HP HI hh hiv hvl hbd hL e1
     generalize bx l i = c at *
     go_wp2_with (go_at_call 108; refine (hx _).mono ?_; rintro r w' ⟨rfl, rfl⟩)
     go_ret3
     exact ⟨r_pl (by rw [HR.out]; simp [runV]), _, rfl⟩
    ·have e1 : hexI (bx l i) = hexV (bx l i) := by simp [hexI, hh]
     rw [e1] at hx
     have ev := valU_int val (bx l i)
     have hvI : (val : Int) < 4096 := by have := pow16 (j := 3) (by omega) hvl; omega
     by_cases ht : 16 * (val : Int) + hexV (bx l i) = 13
     ·have HR : Hid (unitF l true 3 (i + 1) (valU val (bx l i)) = unitL l true i) := by
       show _ = _
       rw [← HP.out, unitF_step (j := 3) (p := i) (by rw [hasAt_in _ hin]; simp [stepU, hh, wantB, lowB]; omega)]
       try rfl
      have HI2 : Hid (valU val (bx l i) * 16 ^ 3 < 65536 ∧ inv4 true (0 + 1) (valU val (bx l i))) := ⟨pow16' (by omega) hvl, by (unfold inv4; simp <;> omega)⟩
      have HV : Hid ((valU val (bx l i) : Int) = 16 * (val : Int) + hexV (bx l i)) := by show _ = _; omega
      clear HP HI hh hiv hvl hL e1 ev
      generalize valU val (bx l i) = val2 at *
      generalize hexV (bx l i) = y at *
      generalize bx l i = c at *
      go_wp2_with (go_at_call 108; refine (hx _).mono ?_; rintro r w' ⟨rfl, rfl⟩)
      all_goals
       go_roundw
       case rel => exact ⟨3, 1, val2, rfl, by go_num, by (have := HV.out; exact congrArg (Value.int .i64) (by omega)), by omega, HI2, HR, _, rfl⟩
       case measure => simp [intOf]
     ·have HR : Hid (unitL l true i = .error (i + 1)) := by
       show _ = _
       rw [← HP.out, unitF_stop (j := 3) (by rw [hasAt_in _ hin]; simp [stepU, hh, wantB, lowB]; omega)]
      clear HP HI hh hiv hvl hL e1 ev
      generalize hexV (bx l i) = y at *
      generalize bx l i = c at *
      go_wp2_with (go_at_call 108; refine (hx _).mono ?_; rintro r w' ⟨rfl, rfl⟩)
      go_ret3
      exact ⟨r_pl (by rw [HR.out]; simp [runV]), _, rfl⟩
   ·have HR : Hid (unitL l true i = .error (i + 1)) := by
     show _ = _
     rw [← HP.out, unitF_stop (j := 3) (hasAt_out _ hin)]
    have heq : ((i : Int) == (l.length : Int)) = true := by
     have : (i : Int) = (l.length : Int) := by omega
     rw [this]; simp
    clear HP HI hiv hvl hL hin
    go_wp2
    go_ret3
    exact ⟨r_pl (by rw [HR.out]; simp [runV]), _, rfl⟩
  ·obtain rfl : j = 2 + 1 := by omega
   have hvl := HI.out.1
   have hiv := HI.out.2
   unfold inv4 at hiv
   simp only [if_true] at hiv
   by_cases hin : i + 1 < l.length
   ·have hcell := hL.cell (i + 1) hin
    have hne : ((i : Int) + 1 == (l.length : Int)) = false := beq_eq_false_iff_ne.2 (by omega)
    have hinI : (i : Int) + 1 < (l.length : Int) := by omega
    have hnat : ((i : Int) + 1).toNat = i + 1 := by omega
    have hx := fun w => rhex_any (bx l (i + 1)) w (bx_lo _ _) (bx_hi _ _)
    have hbd := hexV_bd (bx l (i + 1))
    cases hh : hexB (bx l (i + 1))
    ·have e1 : hexI (bx l (i + 1)) = -1 := by simp [hexI, hh]
     have HR : Hid (unitL l true i = .error (i + 1 + 1)) := by
      show _ = _
      rw [← HP.out, unitF_stop (j := 2) (by rw [hasAt_in _ hin]; simp [stepU, hh])]
     rw [e1] at hx
     clear HP HI hh hiv hvl hbd hL e1
     generalize bx l (i + 1) = c at *
     go_wp2_with (go_at_call 108; refine (hx _).mono ?_; rintro r w' ⟨rfl, rfl⟩)
     go_ret3
     exact ⟨r_pl (by rw [HR.out]; simp [runV]), _, rfl⟩
    ·have e1 : hexI (bx l (i + 1)) = hexV (bx l (i + 1)) := by simp [hexI, hh]
     rw [e1] at hx
     have ev := valU_int val (bx l (i + 1))
     have hz : val = 13 := hiv.1 (by trivial)
     have hvI : (val : Int) < 4096 := by have := pow16 (j := 2) (by omega) hvl; omega
     by_cases ht : 220 ≤ 16 * (val : Int) + hexV (bx l (i + 1))
     ·have HR : Hid (unitF l true 2 (i + (1 + 1)) (valU val (bx l (i + 1))) = unitL l true i) := by
       show _ = _
       rw [← HP.out, unitF_step (j := 2) (p := i + 1) (by rw [hasAt_in _ hin]; simp [stepU, hh, wantB, lowB]; omega)]
       try rfl
      have HI2 : Hid (valU val (bx l (i + 1)) * 16 ^ 2 < 65536 ∧ inv4 true (1 + 1) (valU val (bx l (i + 1)))) := ⟨pow16' (by omega) hvl, by (unfold inv4; simp <;> omega)⟩
      have HV : Hid ((valU val (bx l (i + 1)) : Int) = 16 * (val : Int) + hexV (bx l (i + 1))) := by show _ = _; omega
      clear HP HI hh hiv hvl hL e1 ev hz
      generalize valU val (bx l (i + 1)) = val2 at *
      generalize hexV (bx l (i + 1)) = y at *
      generalize bx l (i + 1) = c at *
      go_wp2_with (go_at_call 108; refine (hx _).mono ?_; rintro r w' ⟨rfl, rfl⟩)
      all_goals
       go_roundw
       case rel => exact ⟨2, 1 + 1, val2, rfl, by go_num, by (have := HV.out; exact congrArg (Value.int .i64) (by omega)), by omega, HI2, HR, _, rfl⟩
       case measure => simp [intOf]
     ·have HR : Hid (unitL l true i = .error (i + 1 + 1)) := by
       show _ = _
       rw [← HP.out, unitF_stop (j := 2) (by rw [hasAt_in _ hin]; simp [stepU, hh, wantB, lowB]; omega)]
      clear HP HI hh hiv hvl hL e1 ev hz
      generalize hexV (bx l (i + 1)) = y at *
      generalize bx l (i + 1) = c at *
      go_wp2_with (go_at_call 108; refine (hx _).mono ?_; rintro r w' ⟨rfl, rfl⟩)
      go_ret3
      exact ⟨r_pl (by rw [HR.out]; simp [runV]), _, rfl⟩
   ·have HR : Hid (unitL l true i = .error (i + 1 + 1)) := by
     show _ = _
     rw [← HP.out, unitF_stop (j := 2) (hasAt_out _ hin)]
    have heq : ((i : Int) + 1 == (l.length : Int)) = true := by
     have : (i : Int) + 1 = (l.length : Int) := by omega
     rw [this]; simp
    clear HP HI hiv hvl hL hin
    go_wp2
    go_ret3
    exact ⟨r_pl (by rw [HR.out]; simp [runV]), _, rfl⟩
  ·obtain rfl : j = 1 + 1 := by omega
   have hvl := HI.out.1
   have hiv := HI.out.2
   unfold inv4 at hiv
   simp only [if_true] at hiv
   by_cases hin : i + 2 < l.length
   ·have hcell := hL.cell (i + 2) hin
    have hne : ((i : Int) + 2 == (l.length : Int)) = false := beq_eq_false_iff_ne.2 (by omega)
    have hinI : (i : Int) + 2 < (l.length : Int) := by omega
    have hnat : ((i : Int) + 2).toNat = i + 2 := by omega
    have hx := fun w => rhex_any (bx l (i + 2)) w (bx_lo _ _) (bx_hi _ _)
    have hbd := hexV_bd (bx l (i + 2))
    cases hh : hexB (bx l (i + 2))
    ·have e1 : hexI (bx l (i + 2)) = -1 := by simp [hexI, hh]
     have HR : Hid (unitL l true i = .error (i + 2 + 1)) := by
      show _ = _
      rw [← HP.out, unitF_stop (j := 1) (by rw [hasAt_in _ hin]; simp [stepU, hh])]
     rw [e1] at hx
     clear HP HI hh hiv hvl hbd hL e1
     generalize bx l (i + 2) = c at *
     go_wp2_with (go_at_call 108; refine (hx _).mono ?_; rintro r w' ⟨rfl, rfl⟩)
     go_ret3
     exact ⟨r_pl (by rw [HR.out]; simp [runV]), _, rfl⟩
    ·have e1 : hexI (bx l (i + 2)) = hexV (bx l (i + 2)) := by simp [hexI, hh]
     rw [e1] at hx
     have ev := valU_int val (bx l (i + 2))
     have hz : 220 ≤ val ∧ val ≤ 223 := hiv.2.1 (by trivial)
     have hvI : (val : Int) < 4096 := by have := pow16 (j := 1) (by omega) hvl; omega
     have HR : Hid (unitF l true 1 (i + (2 + 1)) (valU val (bx l (i + 2))) = unitL l true i) := by
      show _ = _
      rw [← HP.out, unitF_step (j := 1) (p := i + 2) (by rw [hasAt_in _ hin]; simp [stepU, hh, wantB, lowB]; omega)]
      try rfl
     have HI2 : Hid (valU val (bx l (i + 2)) * 16 ^ 1 < 65536 ∧ inv4 true (2 + 1) (valU val (bx l (i + 2)))) := ⟨pow16' (by omega) hvl, by (unfold inv4; simp <;> omega)⟩
     have HV : Hid ((valU val (bx l (i + 2)) : Int) = 16 * (val : Int) + hexV (bx l (i + 2))) := by show _ = _; omega
     clear HP HI hh hiv hvl hL e1 ev hz
     generalize valU val (bx l (i + 2)) = val2 at *
     generalize hexV (bx l (i + 2)) = y at *
     generalize bx l (i + 2) = c at *
     go_wp2_with (go_at_call 108; refine (hx _).mono ?_; rintro r w' ⟨rfl, rfl⟩)
     all_goals
      go_roundw
      case rel => exact ⟨1, 2 + 1, val2, rfl, by go_num, by (have := HV.out; exact congrArg (Value.int .i64) (by omega)), by omega, HI2, HR, _, rfl⟩
      case measure => simp [intOf]
   ·have HR : Hid (unitL l true i = .error (i + 2 + 1)) := by
     show _ = _
     rw [← HP.out, unitF_stop (j := 1) (hasAt_out _ hin)]
    have heq : ((i : Int) + 2 == (l.length : Int)) = true := by
     have : (i : Int) + 2 = (l.length : Int) := by omega
     rw [this]; simp
    clear HP HI hiv hvl hL hin
    go_wp2
    go_ret3
    exact ⟨r_pl (by rw [HR.out]; simp [runV]), _, rfl⟩
  ·obtain rfl : j = 0 + 1 := by omega
   have hvl := HI.out.1
   have hiv := HI.out.2
   unfold inv4 at hiv
   simp only [if_true] at hiv
   by_cases hin : i + 3 < l.length
   ·have hcell := hL.cell (i + 3) hin
    have hne : ((i : Int) + 3 == (l.length : Int)) = false := beq_eq_false_iff_ne.2 (by omega)
    have hinI : (i : Int) + 3 < (l.length : Int) := by omega
    have hnat : ((i : Int) + 3).toNat = i + 3 := by omega
    have hx := fun w => rhex_any (bx l (i + 3)) w (bx_lo _ _) (bx_hi _ _)
    have hbd := hexV_bd (bx l (i + 3))
    cases hh : hexB (bx l (i + 3))
    ·have e1 : hexI (bx l (i + 3)) = -1 := by simp [hexI, hh]
     have HR : Hid (unitL l true i = .error (i + 3 + 1)) := by
      show _ = _
      rw [← HP.out, unitF_stop (j := 0) (by rw [hasAt_in _ hin]; simp [stepU, hh])]
     rw [e1] at hx
     clear HP HI hh hiv hvl hbd hL e1
     generalize bx l (i + 3) = c at *
     go_wp2_with (go_at_call 108; refine (hx _).mono ?_; rintro r w' ⟨rfl, rfl⟩)
     go_ret3
     exact ⟨r_pl (by rw [HR.out]; simp [runV]), _, rfl⟩
    ·have e1 : hexI (bx l (i + 3)) = hexV (bx l (i + 3)) := by simp [hexI, hh]
     rw [e1] at hx
     have ev := valU_int val (bx l (i + 3))
     have hz : 3520 ≤ val ∧ val ≤ 3583 := hiv.2.2 (by trivial)
     have hvI : (val : Int) < 4096 := by have := pow16 (j := 0) (by omega) hvl; omega
     have HR : Hid (unitF l true 0 (i + (3 + 1)) (valU val (bx l (i + 3))) = unitL l true i) := by
      show _ = _
      rw [← HP.out, unitF_step (j := 0) (p := i + 3) (by rw [hasAt_in _ hin]; simp [stepU, hh, wantB, lowB]; omega)]
      try rfl
     have HI2 : Hid (valU val (bx l (i + 3)) * 16 ^ 0 < 65536 ∧ inv4 true (3 + 1) (valU val (bx l (i + 3)))) := ⟨pow16' (by omega) hvl, by (unfold inv4; simp <;> omega)⟩
     have HV : Hid ((valU val (bx l (i + 3)) : Int) = 16 * (val : Int) + hexV (bx l (i + 3))) := by show _ = _; omega
     clear HP HI hh hiv hvl hL e1 ev hz
     generalize valU val (bx l (i + 3)) = val2 at *
     generalize hexV (bx l (i + 3)) = y at *
     generalize bx l (i + 3) = c at *
     go_wp2_with (go_at_call 108; refine (hx _).mono ?_; rintro r w' ⟨rfl, rfl⟩)
     all_goals
      go_roundw
      case rel => exact ⟨0, 3 + 1, val2, rfl, by go_num, by (have := HV.out; exact congrArg (Value.int .i64) (by omega)), by omega, HI2, HR, _, rfl⟩
      case measure => simp [intOf]
   ·have HR : Hid (unitL l true i = .error (i + 3 + 1)) := by
     show _ = _
     rw [← HP.out, unitF_stop (j := 0) (hasAt_out _ hin)]
    have heq : ((i : Int) + 3 == (l.length : Int)) = true := by
     have : (i : Int) + 3 = (l.length : Int) := by omega
     rw [this]; simp
    clear HP HI hiv hvl hL hin
    go_wp2
    go_ret3
    exact ⟨r_pl (by rw [HR.out]; simp [runV]), _, rfl⟩
  ·obtain rfl : j = 0 := by omega
   have HR : Hid (unitL l true i = .ok (val, i + 4)) := by show _ = _; rw [← HP.out]; rfl
   clear HP HI hL
   go_wp2
   go_ret3
   exact ⟨r_pl (by rw [HR.out]; simp [runV]), _, rfl⟩
set_option maxRecDepth 100000 in
set_option maxHeartbeats 12800000 in
theorem four_false (l : List UInt8) (i : Nat) (v : Value) (w : World) (hB : Byt w v l) (h0 : 0 < l.length) (hi : i ≤ l.length) (hm : l.length ≤ 281474976710656) :
  Calls Tryz.prog 85 #[v, .int .i64 i, .bool false] w fun r w' => r = .returned (runV (unitL l false i)) ∧ ∃ n, w' = w.drewN n := by
 have hiI : (i : Int) ≤ 281474976710656 := by omega
 have hlI : (l.length : Int) ≤ 281474976710656 := by omega
 rcases hB with ⟨h, _⟩ | ⟨b, off, cap, rfl, hc, hm', hL⟩
 ·omega
 clear hc hm' h0
 go_enter Tryz.func85, Tryz.ntmps85
 go_wp2
 go_loopw [9, 10] (fun u t wr => ∃ j k val : Nat, j + k = 4 ∧ t = .int .i64 (k : Int) ∧ u = .int .i64 (val : Int) ∧ i + k ≤ l.length ∧ Hid (val * 16 ^ j < 65536 ∧ inv4 false k val) ∧ Hid (unitF l false j (i + k) val = unitL l false i) ∧ ∃ q, wr = w.drewN q) (fun _ t _ => 4 - (intOf t).toNat)
 case atStart => exact ⟨4, 0, 0, rfl, rfl, rfl, by omega, ⟨by decide, by simp [inv4]⟩, rfl, 0, rfl⟩
 case round =>
  obtain ⟨j, k, val, hjk, rfl, rfl, hil, HI, HP, q, rfl⟩ := hrel
  have ek : k = 0 ∨ k = 1 ∨ k = 2 ∨ k = 3 ∨ k = 4 := by omega
  rcases ek with rfl | rfl | rfl | rfl | rfl
  ·obtain rfl : j = 3 + 1 := by omega
   have HP : Hid (unitF l false (3 + 1) i val = unitL l false i) := HP.out
   have hvl := HI.out.1
   have hiv := HI.out.2
   unfold inv4 at hiv
   simp only [Bool.false_eq_true, if_false] at hiv
   by_cases hin : i < l.length
   ·have hcell := hL.cell i hin
    have hne : ((i : Int) == (l.length : Int)) = false := beq_eq_false_iff_ne.2 (by omega)
    have hinI : (i : Int) < (l.length : Int) := by omega
    have hnat : ((i : Int)).toNat = i := by omega
    have hx := fun w => rhex_any (bx l i) w (bx_lo _ _) (bx_hi _ _)
    have hbd := hexV_bd (bx l i)
    cases hh : hexB (bx l i)
    ·have e1 : hexI (bx l i) = -1 := by simp [hexI, hh]
     have HR : Hid (unitL l false i = .error (i + 1)) := by
      show _ = _
      rw [← HP.out, unitF_stop (j := 3) (by rw [hasAt_in _ hin]; simp [stepU, hh])]
     rw [e1] at hx
     clear HP HI hh hiv hvl hbd hL e1
     generalize bx l i = c at *
     go_wp2_with (go_at_call 108; refine (hx _).mono ?_; rintro r w' ⟨rfl, rfl⟩)
     go_ret3
     exact ⟨r_pl (by rw [HR.out]; simp [runV]), _, rfl⟩
    ·have e1 : hexI (bx l i) = hexV (bx l i) := by simp [hexI, hh]
     rw [e1] at hx
     have ev := valU_int val (bx l i)
     have hvI : (val : Int) < 4096 := by have := pow16 (j := 3) (by omega) hvl; omega
     have HR : Hid (unitF l false 3 (i + 1) (valU val (bx l i)) = unitL l false i) := by
      show _ = _
      rw [← HP.out, unitF_step (j := 3) (p := i) (by rw [hasAt_in _ hin]; simp [stepU, hh, wantB, notLowB]; omega)]
      try rfl
     have HI2 : Hid (valU val (bx l i) * 16 ^ 3 < 65536 ∧ inv4 false (0 + 1) (valU val (bx l i))) := ⟨pow16' (by omega) hvl, by (unfold inv4; simp <;> omega)⟩
     have HV : Hid ((valU val (bx l i) : Int) = 16 * (val : Int) + hexV (bx l i)) := by show _ = _; omega
     clear HP HI hh hiv hvl hL e1 ev
     generalize valU val (bx l i) = val2 at *
     generalize hexV (bx l i) = y at *
     generalize bx l i = c at *
     go_wp2_with (go_at_call 108; refine (hx _).mono ?_; rintro r w' ⟨rfl, rfl⟩)
     all_goals
      go_roundw
      case rel => exact ⟨3, 1, val2, rfl, by go_num, by (have := HV.out; exact congrArg (Value.int .i64) (by omega)), by omega, HI2, HR, _, rfl⟩
      case measure => simp [intOf]
   ·have HR : Hid (unitL l false i = .error (i + 1)) := by
     show _ = _
     rw [← HP.out, unitF_stop (j := 3) (hasAt_out _ hin)]
    have heq : ((i : Int) == (l.length : Int)) = true := by
     have : (i : Int) = (l.length : Int) := by omega
     rw [this]; simp
    clear HP HI hiv hvl hL hin
    go_wp2
    go_ret3
    exact ⟨r_pl (by rw [HR.out]; simp [runV]), _, rfl⟩
  ·obtain rfl : j = 2 + 1 := by omega
   have hvl := HI.out.1
   have hiv := HI.out.2
   unfold inv4 at hiv
   simp only [Bool.false_eq_true, if_false] at hiv
   by_cases hin : i + 1 < l.length
   ·have hcell := hL.cell (i + 1) hin
    have hne : ((i : Int) + 1 == (l.length : Int)) = false := beq_eq_false_iff_ne.2 (by omega)
    have hinI : (i : Int) + 1 < (l.length : Int) := by omega
    have hnat : ((i : Int) + 1).toNat = i + 1 := by omega
    have hx := fun w => rhex_any (bx l (i + 1)) w (bx_lo _ _) (bx_hi _ _)
    have hbd := hexV_bd (bx l (i + 1))
    cases hh : hexB (bx l (i + 1))
    ·have e1 : hexI (bx l (i + 1)) = -1 := by simp [hexI, hh]
     have HR : Hid (unitL l false i = .error (i + 1 + 1)) := by
      show _ = _
      rw [← HP.out, unitF_stop (j := 2) (by rw [hasAt_in _ hin]; simp [stepU, hh])]
     rw [e1] at hx
     clear HP HI hh hiv hvl hbd hL e1
     generalize bx l (i + 1) = c at *
     go_wp2_with (go_at_call 108; refine (hx _).mono ?_; rintro r w' ⟨rfl, rfl⟩)
     go_ret3
     exact ⟨r_pl (by rw [HR.out]; simp [runV]), _, rfl⟩
    ·have e1 : hexI (bx l (i + 1)) = hexV (bx l (i + 1)) := by simp [hexI, hh]
     rw [e1] at hx
     have ev := valU_int val (bx l (i + 1))
     have hvI : (val : Int) < 4096 := by have := pow16 (j := 2) (by omega) hvl; omega
     by_cases ht : 16 * (val : Int) + hexV (bx l (i + 1)) < 220 ∨ 223 < 16 * (val : Int) + hexV (bx l (i + 1))
     ·have HR : Hid (unitF l false 2 (i + (1 + 1)) (valU val (bx l (i + 1))) = unitL l false i) := by
       show _ = _
       rw [← HP.out, unitF_step (j := 2) (p := i + 1) (by rw [hasAt_in _ hin]; simp [stepU, hh, wantB, notLowB]; omega)]
       try rfl
      have HI2 : Hid (valU val (bx l (i + 1)) * 16 ^ 2 < 65536 ∧ inv4 false (1 + 1) (valU val (bx l (i + 1)))) := ⟨pow16' (by omega) hvl, by (unfold inv4; simp <;> omega)⟩
      have HV : Hid ((valU val (bx l (i + 1)) : Int) = 16 * (val : Int) + hexV (bx l (i + 1))) := by show _ = _; omega
      clear HP HI hh hiv hvl hL e1 ev
      generalize valU val (bx l (i + 1)) = val2 at *
      generalize hexV (bx l (i + 1)) = y at *
      generalize bx l (i + 1) = c at *
      go_wp2_with (go_at_call 108; refine (hx _).mono ?_; rintro r w' ⟨rfl, rfl⟩)
      all_goals
       go_roundw
       case rel => exact ⟨2, 1 + 1, val2, rfl, by go_num, by (have := HV.out; exact congrArg (Value.int .i64) (by omega)), by omega, HI2, HR, _, rfl⟩
       case measure => simp [intOf]
     ·have HR : Hid (unitL l false i = .error (i + 1 + 1)) := by
       show _ = _
       rw [← HP.out, unitF_stop (j := 2) (by rw [hasAt_in _ hin]; simp [stepU, hh, wantB, notLowB]; omega)]
      clear HP HI hh hiv hvl hL e1 ev
      generalize hexV (bx l (i + 1)) = y at *
      generalize bx l (i + 1) = c at *
      go_wp2_with (go_at_call 108; refine (hx _).mono ?_; rintro r w' ⟨rfl, rfl⟩)
      go_ret3
      exact ⟨r_pl (by rw [HR.out]; simp [runV]), _, rfl⟩
   ·have HR : Hid (unitL l false i = .error (i + 1 + 1)) := by
     show _ = _
     rw [← HP.out, unitF_stop (j := 2) (hasAt_out _ hin)]
    have heq : ((i : Int) + 1 == (l.length : Int)) = true := by
     have : (i : Int) + 1 = (l.length : Int) := by omega
     rw [this]; simp
    clear HP HI hiv hvl hL hin
    go_wp2
    go_ret3
    exact ⟨r_pl (by rw [HR.out]; simp [runV]), _, rfl⟩
  ·obtain rfl : j = 1 + 1 := by omega
   have hvl := HI.out.1
   have hiv := HI.out.2
   unfold inv4 at hiv
   simp only [Bool.false_eq_true, if_false] at hiv
   by_cases hin : i + 2 < l.length
   ·have hcell := hL.cell (i + 2) hin
    have hne : ((i : Int) + 2 == (l.length : Int)) = false := beq_eq_false_iff_ne.2 (by omega)
    have hinI : (i : Int) + 2 < (l.length : Int) := by omega
    have hnat : ((i : Int) + 2).toNat = i + 2 := by omega
    have hx := fun w => rhex_any (bx l (i + 2)) w (bx_lo _ _) (bx_hi _ _)
    have hbd := hexV_bd (bx l (i + 2))
    cases hh : hexB (bx l (i + 2))
    ·have e1 : hexI (bx l (i + 2)) = -1 := by simp [hexI, hh]
     have HR : Hid (unitL l false i = .error (i + 2 + 1)) := by
      show _ = _
      rw [← HP.out, unitF_stop (j := 1) (by rw [hasAt_in _ hin]; simp [stepU, hh])]
     rw [e1] at hx
     clear HP HI hh hiv hvl hbd hL e1
     generalize bx l (i + 2) = c at *
     go_wp2_with (go_at_call 108; refine (hx _).mono ?_; rintro r w' ⟨rfl, rfl⟩)
     go_ret3
     exact ⟨r_pl (by rw [HR.out]; simp [runV]), _, rfl⟩
    ·have e1 : hexI (bx l (i + 2)) = hexV (bx l (i + 2)) := by simp [hexI, hh]
     rw [e1] at hx
     have ev := valU_int val (bx l (i + 2))
     have hz : val < 220 ∨ 223 < val := hiv.1 (by trivial)
     have hvI : (val : Int) < 4096 := by have := pow16 (j := 1) (by omega) hvl; omega
     have HR : Hid (unitF l false 1 (i + (2 + 1)) (valU val (bx l (i + 2))) = unitL l false i) := by
      show _ = _
      rw [← HP.out, unitF_step (j := 1) (p := i + 2) (by rw [hasAt_in _ hin]; simp [stepU, hh, wantB, notLowB]; omega)]
      try rfl
     have HI2 : Hid (valU val (bx l (i + 2)) * 16 ^ 1 < 65536 ∧ inv4 false (2 + 1) (valU val (bx l (i + 2)))) := ⟨pow16' (by omega) hvl, by (unfold inv4; simp <;> omega)⟩
     have HV : Hid ((valU val (bx l (i + 2)) : Int) = 16 * (val : Int) + hexV (bx l (i + 2))) := by show _ = _; omega
     clear HP HI hh hiv hvl hL e1 ev hz
     generalize valU val (bx l (i + 2)) = val2 at *
     generalize hexV (bx l (i + 2)) = y at *
     generalize bx l (i + 2) = c at *
     go_wp2_with (go_at_call 108; refine (hx _).mono ?_; rintro r w' ⟨rfl, rfl⟩)
     all_goals
      go_roundw
      case rel => exact ⟨1, 2 + 1, val2, rfl, by go_num, by (have := HV.out; exact congrArg (Value.int .i64) (by omega)), by omega, HI2, HR, _, rfl⟩
      case measure => simp [intOf]
   ·have HR : Hid (unitL l false i = .error (i + 2 + 1)) := by
     show _ = _
     rw [← HP.out, unitF_stop (j := 1) (hasAt_out _ hin)]
    have heq : ((i : Int) + 2 == (l.length : Int)) = true := by
     have : (i : Int) + 2 = (l.length : Int) := by omega
     rw [this]; simp
    clear HP HI hiv hvl hL hin
    go_wp2
    go_ret3
    exact ⟨r_pl (by rw [HR.out]; simp [runV]), _, rfl⟩
  ·obtain rfl : j = 0 + 1 := by omega
   have hvl := HI.out.1
   have hiv := HI.out.2
   unfold inv4 at hiv
   simp only [Bool.false_eq_true, if_false] at hiv
   by_cases hin : i + 3 < l.length
   ·have hcell := hL.cell (i + 3) hin
    have hne : ((i : Int) + 3 == (l.length : Int)) = false := beq_eq_false_iff_ne.2 (by omega)
    have hinI : (i : Int) + 3 < (l.length : Int) := by omega
    have hnat : ((i : Int) + 3).toNat = i + 3 := by omega
    have hx := fun w => rhex_any (bx l (i + 3)) w (bx_lo _ _) (bx_hi _ _)
    have hbd := hexV_bd (bx l (i + 3))
    cases hh : hexB (bx l (i + 3))
    ·have e1 : hexI (bx l (i + 3)) = -1 := by simp [hexI, hh]
     have HR : Hid (unitL l false i = .error (i + 3 + 1)) := by
      show _ = _
      rw [← HP.out, unitF_stop (j := 0) (by rw [hasAt_in _ hin]; simp [stepU, hh])]
     rw [e1] at hx
     clear HP HI hh hiv hvl hbd hL e1
     generalize bx l (i + 3) = c at *
     go_wp2_with (go_at_call 108; refine (hx _).mono ?_; rintro r w' ⟨rfl, rfl⟩)
     go_ret3
     exact ⟨r_pl (by rw [HR.out]; simp [runV]), _, rfl⟩
    ·have e1 : hexI (bx l (i + 3)) = hexV (bx l (i + 3)) := by simp [hexI, hh]
     rw [e1] at hx
     have ev := valU_int val (bx l (i + 3))
     have hz : val < 3520 ∨ 3583 < val := hiv.2 (by trivial)
     have hvI : (val : Int) < 4096 := by have := pow16 (j := 0) (by omega) hvl; omega
     have HR : Hid (unitF l false 0 (i + (3 + 1)) (valU val (bx l (i + 3))) = unitL l false i) := by
      show _ = _
      rw [← HP.out, unitF_step (j := 0) (p := i + 3) (by rw [hasAt_in _ hin]; simp [stepU, hh, wantB, notLowB]; omega)]
      try rfl
     have HI2 : Hid (valU val (bx l (i + 3)) * 16 ^ 0 < 65536 ∧ inv4 false (3 + 1) (valU val (bx l (i + 3)))) := ⟨pow16' (by omega) hvl, by (unfold inv4; simp <;> omega)⟩
     have HV : Hid ((valU val (bx l (i + 3)) : Int) = 16 * (val : Int) + hexV (bx l (i + 3))) := by show _ = _; omega
     clear HP HI hh hiv hvl hL e1 ev hz
     generalize valU val (bx l (i + 3)) = val2 at *
     generalize hexV (bx l (i + 3)) = y at *
     generalize bx l (i + 3) = c at *
     go_wp2_with (go_at_call 108; refine (hx _).mono ?_; rintro r w' ⟨rfl, rfl⟩)
     all_goals
      go_roundw
      case rel => exact ⟨0, 3 + 1, val2, rfl, by go_num, by (have := HV.out; exact congrArg (Value.int .i64) (by omega)), by omega, HI2, HR, _, rfl⟩
      case measure => simp [intOf]
   ·have HR : Hid (unitL l false i = .error (i + 3 + 1)) := by
     show _ = _
     rw [← HP.out, unitF_stop (j := 0) (hasAt_out _ hin)]
    have heq : ((i : Int) + 3 == (l.length : Int)) = true := by
     have : (i : Int) + 3 = (l.length : Int) := by omega
     rw [this]; simp
    clear HP HI hiv hvl hL hin
    go_wp2
    go_ret3
    exact ⟨r_pl (by rw [HR.out]; simp [runV]), _, rfl⟩
  ·obtain rfl : j = 0 := by omega
   have HR : Hid (unitL l false i = .ok (val, i + 4)) := by show _ = _; rw [← HP.out]; rfl
   clear HP HI hL
   go_wp2
   go_ret3
   exact ⟨r_pl (by rw [HR.out]; simp [runV]), _, rfl⟩
end Go.Proofs.YtfoehebnmommfaaGreatDoor.Lx

namespace Go.Proofs.YtfoehebnmommfaaGreatDoor.Lx
open Go.RowKit
attribute [local go_sem] setCell_drewN alloc_drewN

def afterU (l : List UInt8) : Except Nat (Nat × Nat) → Except Nat (Nat × Nat)
 | .error n => .error n
 | .ok r => if 55296 ≤ r.1 ∧ r.1 ≤ 56319 then pairL l r.2 r.1 else .ok r
def escL (l : List UInt8) (i : Nat) : Except Nat (Nat × Nat) :=
 if hasAt l i meanB = true then .ok ((meanV (bx l i)).toNat, i + 1)
 else if hasAt l i (· == 117) = true then afterU l (unitL l false (i + 1))
 else .error (i + 1)
def fromS : ByteArray := ⟨#[34, 92, 47, 98, 102, 110, 114, 116]⟩
def toS : ByteArray := ⟨#[34, 92, 47, 8, 12, 10, 13, 9]⟩
theorem cx_bd (s : ByteArray) (k : Nat) : 0 ≤ cx s k ∧ cx s k < 256 := by
 unfold cx
 split
 ·rename_i h
  have := UInt8.toNat_lt (s[k]'h)
  exact ⟨by omega, by omega⟩
 ·omega
theorem mean_hit {c : Int} {k : Nat} (hk : k < 8) (h : c = cx fromS k) : meanB c = true ∧ meanV c = cx toS k := by
 have : k = 0 ∨ k = 1 ∨ k = 2 ∨ k = 3 ∨ k = 4 ∨ k = 5 ∨ k = 6 ∨ k = 7 := by omega
 subst h
 rcases this with rfl | rfl | rfl | rfl | rfl | rfl | rfl | rfl <;> decide
theorem mean_miss {c : Int} (h : ∀ j, j < 8 → c ≠ cx fromS j) : meanB c = false := by
 have h0 := h 0 (by omega)
 have h1 := h 1 (by omega)
 have h2 := h 2 (by omega)
 have h3 := h 3 (by omega)
 have h4 := h 4 (by omega)
 have h5 := h 5 (by omega)
 have h6 := h 6 (by omega)
 have h7 := h 7 (by omega)
 have e0 : cx fromS 0 = 34 := by decide
 have e1 : cx fromS 1 = 92 := by decide
 have e2 : cx fromS 2 = 47 := by decide
 have e3 : cx fromS 3 = 98 := by decide
 have e4 : cx fromS 4 = 102 := by decide
 have e5 : cx fromS 5 = 110 := by decide
 have e6 : cx fromS 6 = 114 := by decide
 have e7 : cx fromS 7 = 116 := by decide
 rw [e0] at h0; rw [e1] at h1; rw [e2] at h2; rw [e3] at h3; rw [e4] at h4; rw [e5] at h5; rw [e6] at h6; rw [e7] at h7
 simp [meanB, h0, h1, h2, h3, h4, h5, h6, h7]
theorem unitF_error {l : List UInt8} {low : Bool} (k : Nat) : ∀ {i val n : Nat}, unitF l low k i val = .error n → 0 < n := by
 induction k with
 | zero => intro i val n h; simp [unitF] at h
 | succ k ih =>
  intro i val n h
  simp only [unitF] at h
  split at h
  ·exact ih h
  ·have := Except.error.inj h; omega
theorem unitL_error {l : List UInt8} {low : Bool} {i n : Nat} (h : unitL l low i = .error n) : 0 < n := unitF_error 4 h
theorem escape_of {l : List UInt8} {i : Nat} (h : hasAt l i (· == 92) = true) : escapeL l i = match escL l (i + 1) with
  | .error n => .error n
  | .ok r => .ok (encL r.1, r.2) := by
 unfold escapeL escL
 rw [if_pos h]
 by_cases hu : hasAt l (i + 1) (· == 117) = true
 ·have hin := hasAt_lt hu
  have hb : bx l (i + 1) = 117 := by rw [hasAt_in _ hin] at hu; simpa using hu
  rw [if_pos hu, if_neg (by rw [hasAt_in _ hin, hb]; decide), if_pos hu]
  unfold pointL afterU
  cases unitL l false (i + 1 + 1) with
  | error n => rfl
  | ok r =>
   simp only
   split
   ·cases pairL l r.2 r.1 with
    | error n => rfl
    | ok q => rfl
   ·rfl
 ·rw [if_neg hu]
  by_cases hm : hasAt l (i + 1) meanB = true
  ·rw [if_pos hm, if_pos hm]
   have hin := hasAt_lt hm
   rw [hasAt_in _ hin] at hm
   have hv : meanV (bx l (i + 1)) < 128 ∧ 0 ≤ meanV (bx l (i + 1)) := by
    unfold meanV
    repeat' split
    all_goals omega
   generalize meanV (bx l (i + 1)) = x at *
   simp only [Except.ok.injEq, Prod.mk.injEq, and_true]
   unfold encL
   have e1 : encN ((x.toNat : Nat) : Int) = 1 := if_pos (by omega)
   rw [e1]
   simp only [List.range_one, List.map_cons, List.map_nil, List.cons.injEq, and_true]
   have e2 : encF ((x.toNat : Nat) : Int) 0 = x := by unfold encF; simp; omega
   rw [e2]
  ·rw [if_neg hm, if_neg hm, if_neg hu]
end Go.Proofs.YtfoehebnmommfaaGreatDoor.Lx
