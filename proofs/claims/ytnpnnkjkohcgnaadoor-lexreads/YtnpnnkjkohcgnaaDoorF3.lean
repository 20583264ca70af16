/-
  What ref4.four answers: the number of four digits of 16, or where it is bad: the same as lex.unit. Conditions: the bytes lie in memory, at most 2^48 of them.
-/
import Derived.Test.YtnpnnkjkohcgnaaDoorF2
import Derived.Test.YtnpnnkjkohcgnaaDoorV11
namespace Go.Proofs.YtnpnnkjkohcgnaaDoor
open Go.RowKit
attribute [local go_sem] setCell_drewN alloc_drewN

/-- A number and a place, or the bad length, as the document's answer returns them. -/
def runV : Except Nat (Nat × Nat) → Value
  | .ok r => .tuple #[.int .i64 r.1, .int .i64 r.2, .int .i64 0]
  | .error n => .tuple #[.int .i64 0, .int .i64 0, .int .i64 n]
/-- What is known of the number so far. -/
def inv4 (low : Bool) (k val : Nat) : Prop :=
  if low = true then (k = 1 → val = 13) ∧ (k = 2 → 220 ≤ val ∧ val ≤ 223) ∧ (k = 3 → 3520 ≤ val ∧ val ≤ 3583) else (k = 2 → val < 220 ∨ 223 < val) ∧ (k = 3 → val < 3520 ∨ 3583 < val)
theorem unitF_step {l : List UInt8} {low : Bool} {j p val : Nat} (h : hasAt l p (stepU low val (4 * j)) = true) : unitF l low (j + 1) p val = unitF l low j (p + 1) (valU val (bx l p)) := by
  conv => lhs; rw [unitF]
  rw [if_pos h]
theorem unitF_stop {l : List UInt8} {low : Bool} {j p val : Nat} (h : hasAt l p (stepU low val (4 * j)) = false) : unitF l low (j + 1) p val = .error (p + 1) := by
  conv => lhs; rw [unitF]
  rw [if_neg (by rw [h]; simp)]

set_option maxRecDepth 100000 in
set_option maxHeartbeats 12800000 in
theorem four_true (l : List UInt8) (i : Nat) (v : Value) (w : World) (hB : Byt w v l) (h0 : 0 < l.length) (hi : i ≤ l.length) (hm : l.length ≤ 281474976710656) :
    Calls Tryd.prog 42 #[v, .int .i64 i, .bool true] w fun r w' => r = .returned (runV (unitL l true i)) ∧ ∃ n, w' = w.drewN n := by
  have hiI : (i : Int) ≤ 281474976710656 := by omega
  have hlI : (l.length : Int) ≤ 281474976710656 := by omega
  rcases hB with ⟨h, _⟩ | ⟨b, off, cap, rfl, hc, hm', hL⟩
  · omega
  clear hc hm' h0
  go_enter Tryd.func42, Tryd.ntmps42
  go_wp2
  go_loopw [9, 10] (fun u t wr => ∃ j k val : Nat, j + k = 4 ∧ t = .int .i64 (k : Int) ∧ u = .int .i64 (val : Int) ∧ i + k ≤ l.length ∧ Hid (val * 16 ^ j < 65536 ∧ inv4 true k val) ∧ Hid (unitF l true j (i + k) val = unitL l true i) ∧ ∃ q, wr = w.drewN q) (fun _ t _ => 4 - (intOf t).toNat)
  case atStart => exact ⟨4, 0, 0, rfl, rfl, rfl, by omega, ⟨by decide, by simp [inv4]⟩, rfl, 0, rfl⟩
  case round =>
    obtain ⟨j, k, val, hjk, rfl, rfl, hil, HI, HP, q, rfl⟩ := hrel
    have ek : k = 0 ∨ k = 1 ∨ k = 2 ∨ k = 3 ∨ k = 4 := by omega
    rcases ek with rfl | rfl | rfl | rfl | rfl
    · obtain rfl : j = 3 + 1 := by omega
      have HP : Hid (unitF l true (3 + 1) i val = unitL l true i) := HP.out
      have hvl := HI.out.1
      have hiv := HI.out.2
      unfold inv4 at hiv
      simp only [if_true] at hiv
      by_cases hin : i < l.length
      · have hcell := hL.cell i hin
        have hne : ((i : Int) == (l.length : Int)) = false := beq_eq_false_iff_ne.2 (by omega)
        have hinI : (i : Int) < (l.length : Int) := by omega
        have hnat : ((i : Int)).toNat = i := by omega
        have hx := fun w => rhex_any (bx l i) w (bx_lo _ _) (bx_hi _ _)
        have hbd := hexV_bd (bx l i)
        cases hh : hexB (bx l i)
        · have e1 : hexI (bx l i) = -1 := by simp [hexI, hh]
          have HR : Hid (unitL l true i = .error (i + 1)) := by
            show _ = _
            rw [← HP.out, unitF_stop (j := 3) (by rw [hasAt_in _ hin]; simp [stepU, hh])]
          rw [e1] at hx
          clear HP HI hh hiv hvl hbd hL e1
          generalize bx l i = c at *
          go_wp2_with (go_at_call 59; refine (hx _).mono ?_; rintro r w' ⟨rfl, rfl⟩)
          go_ret3
          exact ⟨r_pl (by rw [HR.out]; simp [runV]), _, rfl⟩
        · have e1 : hexI (bx l i) = hexV (bx l i) := by simp [hexI, hh]
          rw [e1] at hx
          have ev := valU_int val (bx l i)
          have hvI : (val : Int) < 4096 := by have := pow16 (j := 3) (by omega) hvl; omega
          by_cases ht : 16 * (val : Int) + hexV (bx l i) = 13
          · have HR : Hid (unitF l true 3 (i + 1) (valU val (bx l i)) = unitL l true i) := by
              show _ = _
              rw [← HP.out, unitF_step (j := 3) (p := i) (by rw [hasAt_in _ hin]; simp [stepU, hh, wantB, lowB]; omega)]
              try rfl
            have HI2 : Hid (valU val (bx l i) * 16 ^ 3 < 65536 ∧ inv4 true (0 + 1) (valU val (bx l i))) := ⟨pow16' (by omega) hvl, by (unfold inv4; simp <;> omega)⟩
            have HV : Hid ((valU val (bx l i) : Int) = 16 * (val : Int) + hexV (bx l i)) := by show _ = _; omega
            clear HP HI hh hiv hvl hL e1 ev
            generalize valU val (bx l i) = val2 at *
            generalize hexV (bx l i) = y at *
            generalize bx l i = c at *
            go_wp2_with (go_at_call 59; refine (hx _).mono ?_; rintro r w' ⟨rfl, rfl⟩)
            all_goals
              go_roundw
              case rel => exact ⟨3, 1, val2, rfl, by go_num, by (have := HV.out; exact congrArg (Value.int .i64) (by omega)), by omega, HI2, HR, _, rfl⟩
              case measure => simp [intOf]
          · have HR : Hid (unitL l true i = .error (i + 1)) := by
              show _ = _
              rw [← HP.out, unitF_stop (j := 3) (by rw [hasAt_in _ hin]; simp [stepU, hh, wantB, lowB]; omega)]
            clear HP HI hh hiv hvl hL e1 ev
            generalize hexV (bx l i) = y at *
            generalize bx l i = c at *
            go_wp2_with (go_at_call 59; refine (hx _).mono ?_; rintro r w' ⟨rfl, rfl⟩)
            go_ret3
            exact ⟨r_pl (by rw [HR.out]; simp [runV]), _, rfl⟩
      · have HR : Hid (unitL l true i = .error (i + 1)) := by
          show _ = _
          rw [← HP.out, unitF_stop (j := 3) (hasAt_out _ hin)]
        have heq : ((i : Int) == (l.length : Int)) = true := by
          have : (i : Int) = (l.length : Int) := by omega
          rw [this]; simp
        clear HP HI hiv hvl hL hin
        go_wp2
        go_ret3
        exact ⟨r_pl (by rw [HR.out]; simp [runV]), _, rfl⟩
    · obtain rfl : j = 2 + 1 := by omega
      have hvl := HI.out.1
      have hiv := HI.out.2
      unfold inv4 at hiv
      simp only [if_true] at hiv
      by_cases hin : i + 1 < l.length
      · have hcell := hL.cell (i + 1) hin
        have hne : ((i : Int) + 1 == (l.length : Int)) = false := beq_eq_false_iff_ne.2 (by omega)
        have hinI : (i : Int) + 1 < (l.length : Int) := by omega
        have hnat : ((i : Int) + 1).toNat = i + 1 := by omega
        have hx := fun w => rhex_any (bx l (i + 1)) w (bx_lo _ _) (bx_hi _ _)
        have hbd := hexV_bd (bx l (i + 1))
        cases hh : hexB (bx l (i + 1))
        · have e1 : hexI (bx l (i + 1)) = -1 := by simp [hexI, hh]
          have HR : Hid (unitL l true i = .error (i + 1 + 1)) := by
            show _ = _
            rw [← HP.out, unitF_stop (j := 2) (by rw [hasAt_in _ hin]; simp [stepU, hh])]
          rw [e1] at hx
          clear HP HI hh hiv hvl hbd hL e1
          generalize bx l (i + 1) = c at *
          go_wp2_with (go_at_call 59; refine (hx _).mono ?_; rintro r w' ⟨rfl, rfl⟩)
          go_ret3
          exact ⟨r_pl (by rw [HR.out]; simp [runV]), _, rfl⟩
        · have e1 : hexI (bx l (i + 1)) = hexV (bx l (i + 1)) := by simp [hexI, hh]
          rw [e1] at hx
          have ev := valU_int val (bx l (i + 1))
          have hz : val = 13 := hiv.1 (by trivial)
          have hvI : (val : Int) < 4096 := by have := pow16 (j := 2) (by omega) hvl; omega
          by_cases ht : 220 ≤ 16 * (val : Int) + hexV (bx l (i + 1))
          · have HR : Hid (unitF l true 2 (i + (1 + 1)) (valU val (bx l (i + 1))) = unitL l true i) := by
              show _ = _
              rw [← HP.out, unitF_step (j := 2) (p := i + 1) (by rw [hasAt_in _ hin]; simp [stepU, hh, wantB, lowB]; omega)]
              try rfl
            have HI2 : Hid (valU val (bx l (i + 1)) * 16 ^ 2 < 65536 ∧ inv4 true (1 + 1) (valU val (bx l (i + 1)))) := ⟨pow16' (by omega) hvl, by (unfold inv4; simp <;> omega)⟩
            have HV : Hid ((valU val (bx l (i + 1)) : Int) = 16 * (val : Int) + hexV (bx l (i + 1))) := by show _ = _; omega
            clear HP HI hh hiv hvl hL e1 ev hz
            generalize valU val (bx l (i + 1)) = val2 at *
            generalize hexV (bx l (i + 1)) = y at *
            generalize bx l (i + 1) = c at *
            go_wp2_with (go_at_call 59; refine (hx _).mono ?_; rintro r w' ⟨rfl, rfl⟩)
            all_goals
              go_roundw
              case rel => exact ⟨2, 1 + 1, val2, rfl, by go_num, by (have := HV.out; exact congrArg (Value.int .i64) (by omega)), by omega, HI2, HR, _, rfl⟩
              case measure => simp [intOf]
          · have HR : Hid (unitL l true i = .error (i + 1 + 1)) := by
              show _ = _
              rw [← HP.out, unitF_stop (j := 2) (by rw [hasAt_in _ hin]; simp [stepU, hh, wantB, lowB]; omega)]
            clear HP HI hh hiv hvl hL e1 ev hz
            generalize hexV (bx l (i + 1)) = y at *
            generalize bx l (i + 1) = c at *
            go_wp2_with (go_at_call 59; refine (hx _).mono ?_; rintro r w' ⟨rfl, rfl⟩)
            go_ret3
            exact ⟨r_pl (by rw [HR.out]; simp [runV]), _, rfl⟩
      · have HR : Hid (unitL l true i = .error (i + 1 + 1)) := by
          show _ = _
          rw [← HP.out, unitF_stop (j := 2) (hasAt_out _ hin)]
        have heq : ((i : Int) + 1 == (l.length : Int)) = true := by
          have : (i : Int) + 1 = (l.length : Int) := by omega
          rw [this]; simp
        clear HP HI hiv hvl hL hin
        go_wp2
        go_ret3
        exact ⟨r_pl (by rw [HR.out]; simp [runV]), _, rfl⟩
    · obtain rfl : j = 1 + 1 := by omega
      have hvl := HI.out.1
      have hiv := HI.out.2
      unfold inv4 at hiv
      simp only [if_true] at hiv
      by_cases hin : i + 2 < l.length
      · have hcell := hL.cell (i + 2) hin
        have hne : ((i : Int) + 2 == (l.length : Int)) = false := beq_eq_false_iff_ne.2 (by omega)
        have hinI : (i : Int) + 2 < (l.length : Int) := by omega
        have hnat : ((i : Int) + 2).toNat = i + 2 := by omega
        have hx := fun w => rhex_any (bx l (i + 2)) w (bx_lo _ _) (bx_hi _ _)
        have hbd := hexV_bd (bx l (i + 2))
        cases hh : hexB (bx l (i + 2))
        · have e1 : hexI (bx l (i + 2)) = -1 := by simp [hexI, hh]
          have HR : Hid (unitL l true i = .error (i + 2 + 1)) := by
            show _ = _
            rw [← HP.out, unitF_stop (j := 1) (by rw [hasAt_in _ hin]; simp [stepU, hh])]
          rw [e1] at hx
          clear HP HI hh hiv hvl hbd hL e1
          generalize bx l (i + 2) = c at *
          go_wp2_with (go_at_call 59; refine (hx _).mono ?_; rintro r w' ⟨rfl, rfl⟩)
          go_ret3
          exact ⟨r_pl (by rw [HR.out]; simp [runV]), _, rfl⟩
        · have e1 : hexI (bx l (i + 2)) = hexV (bx l (i + 2)) := by simp [hexI, hh]
          rw [e1] at hx
          have ev := valU_int val (bx l (i + 2))
          have hz : 220 ≤ val ∧ val ≤ 223 := hiv.2.1 (by trivial)
          have hvI : (val : Int) < 4096 := by have := pow16 (j := 1) (by omega) hvl; omega
          have HR : Hid (unitF l true 1 (i + (2 + 1)) (valU val (bx l (i + 2))) = unitL l true i) := by
            show _ = _
            rw [← HP.out, unitF_step (j := 1) (p := i + 2) (by rw [hasAt_in _ hin]; simp [stepU, hh, wantB, lowB]; omega)]
            try rfl
          have HI2 : Hid (valU val (bx l (i + 2)) * 16 ^ 1 < 65536 ∧ inv4 true (2 + 1) (valU val (bx l (i + 2)))) := ⟨pow16' (by omega) hvl, by (unfold inv4; simp <;> omega)⟩
          have HV : Hid ((valU val (bx l (i + 2)) : Int) = 16 * (val : Int) + hexV (bx l (i + 2))) := by show _ = _; omega
          clear HP HI hh hiv hvl hL e1 ev hz
          generalize valU val (bx l (i + 2)) = val2 at *
          generalize hexV (bx l (i + 2)) = y at *
          generalize bx l (i + 2) = c at *
          go_wp2_with (go_at_call 59; refine (hx _).mono ?_; rintro r w' ⟨rfl, rfl⟩)
          all_goals
            go_roundw
            case rel => exact ⟨1, 2 + 1, val2, rfl, by go_num, by (have := HV.out; exact congrArg (Value.int .i64) (by omega)), by omega, HI2, HR, _, rfl⟩
            case measure => simp [intOf]
      · have HR : Hid (unitL l true i = .error (i + 2 + 1)) := by
          show _ = _
          rw [← HP.out, unitF_stop (j := 1) (hasAt_out _ hin)]
        have heq : ((i : Int) + 2 == (l.length : Int)) = true := by
          have : (i : Int) + 2 = (l.length : Int) := by omega
          rw [this]; simp
        clear HP HI hiv hvl hL hin
        go_wp2
        go_ret3
        exact ⟨r_pl (by rw [HR.out]; simp [runV]), _, rfl⟩
    · obtain rfl : j = 0 + 1 := by omega
      have hvl := HI.out.1
      have hiv := HI.out.2
      unfold inv4 at hiv
      simp only [if_true] at hiv
      by_cases hin : i + 3 < l.length
      · have hcell := hL.cell (i + 3) hin
        have hne : ((i : Int) + 3 == (l.length : Int)) = false := beq_eq_false_iff_ne.2 (by omega)
        have hinI : (i : Int) + 3 < (l.length : Int) := by omega
        have hnat : ((i : Int) + 3).toNat = i + 3 := by omega
        have hx := fun w => rhex_any (bx l (i + 3)) w (bx_lo _ _) (bx_hi _ _)
        have hbd := hexV_bd (bx l (i + 3))
        cases hh : hexB (bx l (i + 3))
        · have e1 : hexI (bx l (i + 3)) = -1 := by simp [hexI, hh]
          have HR : Hid (unitL l true i = .error (i + 3 + 1)) := by
            show _ = _
            rw [← HP.out, unitF_stop (j := 0) (by rw [hasAt_in _ hin]; simp [stepU, hh])]
          rw [e1] at hx
          clear HP HI hh hiv hvl hbd hL e1
          generalize bx l (i + 3) = c at *
          go_wp2_with (go_at_call 59; refine (hx _).mono ?_; rintro r w' ⟨rfl, rfl⟩)
          go_ret3
          exact ⟨r_pl (by rw [HR.out]; simp [runV]), _, rfl⟩
        · have e1 : hexI (bx l (i + 3)) = hexV (bx l (i + 3)) := by simp [hexI, hh]
          rw [e1] at hx
          have ev := valU_int val (bx l (i + 3))
          have hz : 3520 ≤ val ∧ val ≤ 3583 := hiv.2.2 (by trivial)
          have hvI : (val : Int) < 4096 := by have := pow16 (j := 0) (by omega) hvl; omega
          have HR : Hid (unitF l true 0 (i + (3 + 1)) (valU val (bx l (i + 3))) = unitL l true i) := by
            show _ = _
            rw [← HP.out, unitF_step (j := 0) (p := i + 3) (by rw [hasAt_in _ hin]; simp [stepU, hh, wantB, lowB]; omega)]
            try rfl
          have HI2 : Hid (valU val (bx l (i + 3)) * 16 ^ 0 < 65536 ∧ inv4 true (3 + 1) (valU val (bx l (i + 3)))) := ⟨pow16' (by omega) hvl, by (unfold inv4; simp <;> omega)⟩
          have HV : Hid ((valU val (bx l (i + 3)) : Int) = 16 * (val : Int) + hexV (bx l (i + 3))) := by show _ = _; omega
          clear HP HI hh hiv hvl hL e1 ev hz
          generalize valU val (bx l (i + 3)) = val2 at *
          generalize hexV (bx l (i + 3)) = y at *
          generalize bx l (i + 3) = c at *
          go_wp2_with (go_at_call 59; refine (hx _).mono ?_; rintro r w' ⟨rfl, rfl⟩)
          all_goals
            go_roundw
            case rel => exact ⟨0, 3 + 1, val2, rfl, by go_num, by (have := HV.out; exact congrArg (Value.int .i64) (by omega)), by omega, HI2, HR, _, rfl⟩
            case measure => simp [intOf]
      · have HR : Hid (unitL l true i = .error (i + 3 + 1)) := by
          show _ = _
          rw [← HP.out, unitF_stop (j := 0) (hasAt_out _ hin)]
        have heq : ((i : Int) + 3 == (l.length : Int)) = true := by
          have : (i : Int) + 3 = (l.length : Int) := by omega
          rw [this]; simp
        clear HP HI hiv hvl hL hin
        go_wp2
        go_ret3
        exact ⟨r_pl (by rw [HR.out]; simp [runV]), _, rfl⟩
    · obtain rfl : j = 0 := by omega
      have HR : Hid (unitL l true i = .ok (val, i + 4)) := by show _ = _; rw [← HP.out]; rfl
      clear HP HI hL
      go_wp2
      go_ret3
      exact ⟨r_pl (by rw [HR.out]; simp [runV]), _, rfl⟩

set_option maxRecDepth 100000 in
set_option maxHeartbeats 12800000 in
theorem four_false (l : List UInt8) (i : Nat) (v : Value) (w : World) (hB : Byt w v l) (h0 : 0 < l.length) (hi : i ≤ l.length) (hm : l.length ≤ 281474976710656) :
    Calls Tryd.prog 42 #[v, .int .i64 i, .bool false] w fun r w' => r = .returned (runV (unitL l false i)) ∧ ∃ n, w' = w.drewN n := by
  have hiI : (i : Int) ≤ 281474976710656 := by omega
  have hlI : (l.length : Int) ≤ 281474976710656 := by omega
  rcases hB with ⟨h, _⟩ | ⟨b, off, cap, rfl, hc, hm', hL⟩
  · omega
  clear hc hm' h0
  go_enter Tryd.func42, Tryd.ntmps42
  go_wp2
  go_loopw [9, 10] (fun u t wr => ∃ j k val : Nat, j + k = 4 ∧ t = .int .i64 (k : Int) ∧ u = .int .i64 (val : Int) ∧ i + k ≤ l.length ∧ Hid (val * 16 ^ j < 65536 ∧ inv4 false k val) ∧ Hid (unitF l false j (i + k) val = unitL l false i) ∧ ∃ q, wr = w.drewN q) (fun _ t _ => 4 - (intOf t).toNat)
  case atStart => exact ⟨4, 0, 0, rfl, rfl, rfl, by omega, ⟨by decide, by simp [inv4]⟩, rfl, 0, rfl⟩
  case round =>
    obtain ⟨j, k, val, hjk, rfl, rfl, hil, HI, HP, q, rfl⟩ := hrel
    have ek : k = 0 ∨ k = 1 ∨ k = 2 ∨ k = 3 ∨ k = 4 := by omega
    rcases ek with rfl | rfl | rfl | rfl | rfl
    · obtain rfl : j = 3 + 1 := by omega
      have HP : Hid (unitF l false (3 + 1) i val = unitL l false i) := HP.out
      have hvl := HI.out.1
      have hiv := HI.out.2
      unfold inv4 at hiv
      simp only [Bool.false_eq_true, if_false] at hiv
      by_cases hin : i < l.length
      · have hcell := hL.cell i hin
        have hne : ((i : Int) == (l.length : Int)) = false := beq_eq_false_iff_ne.2 (by omega)
        have hinI : (i : Int) < (l.length : Int) := by omega
        have hnat : ((i : Int)).toNat = i := by omega
        have hx := fun w => rhex_any (bx l i) w (bx_lo _ _) (bx_hi _ _)
        have hbd := hexV_bd (bx l i)
        cases hh : hexB (bx l i)
        · have e1 : hexI (bx l i) = -1 := by simp [hexI, hh]
          have HR : Hid (unitL l false i = .error (i + 1)) := by
            show _ = _
            rw [← HP.out, unitF_stop (j := 3) (by rw [hasAt_in _ hin]; simp [stepU, hh])]
          rw [e1] at hx
          clear HP HI hh hiv hvl hbd hL e1
          generalize bx l i = c at *
          go_wp2_with (go_at_call 59; refine (hx _).mono ?_; rintro r w' ⟨rfl, rfl⟩)
          go_ret3
          exact ⟨r_pl (by rw [HR.out]; simp [runV]), _, rfl⟩
        · have e1 : hexI (bx l i) = hexV (bx l i) := by simp [hexI, hh]
          rw [e1] at hx
          have ev := valU_int val (bx l i)
          have hvI : (val : Int) < 4096 := by have := pow16 (j := 3) (by omega) hvl; omega
          have HR : Hid (unitF l false 3 (i + 1) (valU val (bx l i)) = unitL l false i) := by
            show _ = _
            rw [← HP.out, unitF_step (j := 3) (p := i) (by rw [hasAt_in _ hin]; simp [stepU, hh, wantB, notLowB]; omega)]
            try rfl
          have HI2 : Hid (valU val (bx l i) * 16 ^ 3 < 65536 ∧ inv4 false (0 + 1) (valU val (bx l i))) := ⟨pow16' (by omega) hvl, by (unfold inv4; simp <;> omega)⟩
          have HV : Hid ((valU val (bx l i) : Int) = 16 * (val : Int) + hexV (bx l i)) := by show _ = _; omega
          clear HP HI hh hiv hvl hL e1 ev
          generalize valU val (bx l i) = val2 at *
          generalize hexV (bx l i) = y at *
          generalize bx l i = c at *
          go_wp2_with (go_at_call 59; refine (hx _).mono ?_; rintro r w' ⟨rfl, rfl⟩)
          all_goals
            go_roundw
            case rel => exact ⟨3, 1, val2, rfl, by go_num, by (have := HV.out; exact congrArg (Value.int .i64) (by omega)), by omega, HI2, HR, _, rfl⟩
            case measure => simp [intOf]
      · have HR : Hid (unitL l false i = .error (i + 1)) := by
          show _ = _
          rw [← HP.out, unitF_stop (j := 3) (hasAt_out _ hin)]
        have heq : ((i : Int) == (l.length : Int)) = true := by
          have : (i : Int) = (l.length : Int) := by omega
          rw [this]; simp
        clear HP HI hiv hvl hL hin
        go_wp2
        go_ret3
        exact ⟨r_pl (by rw [HR.out]; simp [runV]), _, rfl⟩
    · obtain rfl : j = 2 + 1 := by omega
      have hvl := HI.out.1
      have hiv := HI.out.2
      unfold inv4 at hiv
      simp only [Bool.false_eq_true, if_false] at hiv
      by_cases hin : i + 1 < l.length
      · have hcell := hL.cell (i + 1) hin
        have hne : ((i : Int) + 1 == (l.length : Int)) = false := beq_eq_false_iff_ne.2 (by omega)
        have hinI : (i : Int) + 1 < (l.length : Int) := by omega
        have hnat : ((i : Int) + 1).toNat = i + 1 := by omega
        have hx := fun w => rhex_any (bx l (i + 1)) w (bx_lo _ _) (bx_hi _ _)
        have hbd := hexV_bd (bx l (i + 1))
        cases hh : hexB (bx l (i + 1))
        · have e1 : hexI (bx l (i + 1)) = -1 := by simp [hexI, hh]
          have HR : Hid (unitL l false i = .error (i + 1 + 1)) := by
            show _ = _
            rw [← HP.out, unitF_stop (j := 2) (by rw [hasAt_in _ hin]; simp [stepU, hh])]
          rw [e1] at hx
          clear HP HI hh hiv hvl hbd hL e1
          generalize bx l (i + 1) = c at *
          go_wp2_with (go_at_call 59; refine (hx _).mono ?_; rintro r w' ⟨rfl, rfl⟩)
          go_ret3
          exact ⟨r_pl (by rw [HR.out]; simp [runV]), _, rfl⟩
        · have e1 : hexI (bx l (i + 1)) = hexV (bx l (i + 1)) := by simp [hexI, hh]
          rw [e1] at hx
          have ev := valU_int val (bx l (i + 1))
          have hvI : (val : Int) < 4096 := by have := pow16 (j := 2) (by omega) hvl; omega
          by_cases ht : 16 * (val : Int) + hexV (bx l (i + 1)) < 220 ∨ 223 < 16 * (val : Int) + hexV (bx l (i + 1))
          · have HR : Hid (unitF l false 2 (i + (1 + 1)) (valU val (bx l (i + 1))) = unitL l false i) := by
              show _ = _
              rw [← HP.out, unitF_step (j := 2) (p := i + 1) (by rw [hasAt_in _ hin]; simp [stepU, hh, wantB, notLowB]; omega)]
              try rfl
            have HI2 : Hid (valU val (bx l (i + 1)) * 16 ^ 2 < 65536 ∧ inv4 false (1 + 1) (valU val (bx l (i + 1)))) := ⟨pow16' (by omega) hvl, by (unfold inv4; simp <;> omega)⟩
            have HV : Hid ((valU val (bx l (i + 1)) : Int) = 16 * (val : Int) + hexV (bx l (i + 1))) := by show _ = _; omega
            clear HP HI hh hiv hvl hL e1 ev
            generalize valU val (bx l (i + 1)) = val2 at *
            generalize hexV (bx l (i + 1)) = y at *
            generalize bx l (i + 1) = c at *
            go_wp2_with (go_at_call 59; refine (hx _).mono ?_; rintro r w' ⟨rfl, rfl⟩)
            all_goals
              go_roundw
              case rel => exact ⟨2, 1 + 1, val2, rfl, by go_num, by (have := HV.out; exact congrArg (Value.int .i64) (by omega)), by omega, HI2, HR, _, rfl⟩
              case measure => simp [intOf]
          · have HR : Hid (unitL l false i = .error (i + 1 + 1)) := by
              show _ = _
              rw [← HP.out, unitF_stop (j := 2) (by rw [hasAt_in _ hin]; simp [stepU, hh, wantB, notLowB]; omega)]
            clear HP HI hh hiv hvl hL e1 ev
            generalize hexV (bx l (i + 1)) = y at *
            generalize bx l (i + 1) = c at *
            go_wp2_with (go_at_call 59; refine (hx _).mono ?_; rintro r w' ⟨rfl, rfl⟩)
            go_ret3
            exact ⟨r_pl (by rw [HR.out]; simp [runV]), _, rfl⟩
      · have HR : Hid (unitL l false i = .error (i + 1 + 1)) := by
          show _ = _
          rw [← HP.out, unitF_stop (j := 2) (hasAt_out _ hin)]
        have heq : ((i : Int) + 1 == (l.length : Int)) = true := by
          have : (i : Int) + 1 = (l.length : Int) := by omega
          rw [this]; simp
        clear HP HI hiv hvl hL hin
        go_wp2
        go_ret3
        exact ⟨r_pl (by rw [HR.out]; simp [runV]), _, rfl⟩
    · obtain rfl : j = 1 + 1 := by omega
      have hvl := HI.out.1
      have hiv := HI.out.2
      unfold inv4 at hiv
      simp only [Bool.false_eq_true, if_false] at hiv
      by_cases hin : i + 2 < l.length
      · have hcell := hL.cell (i + 2) hin
        have hne : ((i : Int) + 2 == (l.length : Int)) = false := beq_eq_false_iff_ne.2 (by omega)
        have hinI : (i : Int) + 2 < (l.length : Int) := by omega
        have hnat : ((i : Int) + 2).toNat = i + 2 := by omega
        have hx := fun w => rhex_any (bx l (i + 2)) w (bx_lo _ _) (bx_hi _ _)
        have hbd := hexV_bd (bx l (i + 2))
        cases hh : hexB (bx l (i + 2))
        · have e1 : hexI (bx l (i + 2)) = -1 := by simp [hexI, hh]
          have HR : Hid (unitL l false i = .error (i + 2 + 1)) := by
            show _ = _
            rw [← HP.out, unitF_stop (j := 1) (by rw [hasAt_in _ hin]; simp [stepU, hh])]
          rw [e1] at hx
          clear HP HI hh hiv hvl hbd hL e1
          generalize bx l (i + 2) = c at *
          go_wp2_with (go_at_call 59; refine (hx _).mono ?_; rintro r w' ⟨rfl, rfl⟩)
          go_ret3
          exact ⟨r_pl (by rw [HR.out]; simp [runV]), _, rfl⟩
        · have e1 : hexI (bx l (i + 2)) = hexV (bx l (i + 2)) := by simp [hexI, hh]
          rw [e1] at hx
          have ev := valU_int val (bx l (i + 2))
          have hz : val < 220 ∨ 223 < val := hiv.1 (by trivial)
          have hvI : (val : Int) < 4096 := by have := pow16 (j := 1) (by omega) hvl; omega
          have HR : Hid (unitF l false 1 (i + (2 + 1)) (valU val (bx l (i + 2))) = unitL l false i) := by
            show _ = _
            rw [← HP.out, unitF_step (j := 1) (p := i + 2) (by rw [hasAt_in _ hin]; simp [stepU, hh, wantB, notLowB]; omega)]
            try rfl
          have HI2 : Hid (valU val (bx l (i + 2)) * 16 ^ 1 < 65536 ∧ inv4 false (2 + 1) (valU val (bx l (i + 2)))) := ⟨pow16' (by omega) hvl, by (unfold inv4; simp <;> omega)⟩
          have HV : Hid ((valU val (bx l (i + 2)) : Int) = 16 * (val : Int) + hexV (bx l (i + 2))) := by show _ = _; omega
          clear HP HI hh hiv hvl hL e1 ev hz
          generalize valU val (bx l (i + 2)) = val2 at *
          generalize hexV (bx l (i + 2)) = y at *
          generalize bx l (i + 2) = c at *
          go_wp2_with (go_at_call 59; refine (hx _).mono ?_; rintro r w' ⟨rfl, rfl⟩)
          all_goals
            go_roundw
            case rel => exact ⟨1, 2 + 1, val2, rfl, by go_num, by (have := HV.out; exact congrArg (Value.int .i64) (by omega)), by omega, HI2, HR, _, rfl⟩
            case measure => simp [intOf]
      · have HR : Hid (unitL l false i = .error (i + 2 + 1)) := by
          show _ = _
          rw [← HP.out, unitF_stop (j := 1) (hasAt_out _ hin)]
        have heq : ((i : Int) + 2 == (l.length : Int)) = true := by
          have : (i : Int) + 2 = (l.length : Int) := by omega
          rw [this]; simp
        clear HP HI hiv hvl hL hin
        go_wp2
        go_ret3
        exact ⟨r_pl (by rw [HR.out]; simp [runV]), _, rfl⟩
    · obtain rfl : j = 0 + 1 := by omega
      have hvl := HI.out.1
      have hiv := HI.out.2
      unfold inv4 at hiv
      simp only [Bool.false_eq_true, if_false] at hiv
      by_cases hin : i + 3 < l.length
      · have hcell := hL.cell (i + 3) hin
        have hne : ((i : Int) + 3 == (l.length : Int)) = false := beq_eq_false_iff_ne.2 (by omega)
        have hinI : (i : Int) + 3 < (l.length : Int) := by omega
        have hnat : ((i : Int) + 3).toNat = i + 3 := by omega
        have hx := fun w => rhex_any (bx l (i + 3)) w (bx_lo _ _) (bx_hi _ _)
        have hbd := hexV_bd (bx l (i + 3))
        cases hh : hexB (bx l (i + 3))
        · have e1 : hexI (bx l (i + 3)) = -1 := by simp [hexI, hh]
          have HR : Hid (unitL l false i = .error (i + 3 + 1)) := by
            show _ = _
            rw [← HP.out, unitF_stop (j := 0) (by rw [hasAt_in _ hin]; simp [stepU, hh])]
          rw [e1] at hx
          clear HP HI hh hiv hvl hbd hL e1
          generalize bx l (i + 3) = c at *
          go_wp2_with (go_at_call 59; refine (hx _).mono ?_; rintro r w' ⟨rfl, rfl⟩)
          go_ret3
          exact ⟨r_pl (by rw [HR.out]; simp [runV]), _, rfl⟩
        · have e1 : hexI (bx l (i + 3)) = hexV (bx l (i + 3)) := by simp [hexI, hh]
          rw [e1] at hx
          have ev := valU_int val (bx l (i + 3))
          have hz : val < 3520 ∨ 3583 < val := hiv.2 (by trivial)
          have hvI : (val : Int) < 4096 := by have := pow16 (j := 0) (by omega) hvl; omega
          have HR : Hid (unitF l false 0 (i + (3 + 1)) (valU val (bx l (i + 3))) = unitL l false i) := by
            show _ = _
            rw [← HP.out, unitF_step (j := 0) (p := i + 3) (by rw [hasAt_in _ hin]; simp [stepU, hh, wantB, notLowB]; omega)]
            try rfl
          have HI2 : Hid (valU val (bx l (i + 3)) * 16 ^ 0 < 65536 ∧ inv4 false (3 + 1) (valU val (bx l (i + 3)))) := ⟨pow16' (by omega) hvl, by (unfold inv4; simp <;> omega)⟩
          have HV : Hid ((valU val (bx l (i + 3)) : Int) = 16 * (val : Int) + hexV (bx l (i + 3))) := by show _ = _; omega
          clear HP HI hh hiv hvl hL e1 ev hz
          generalize valU val (bx l (i + 3)) = val2 at *
          generalize hexV (bx l (i + 3)) = y at *
          generalize bx l (i + 3) = c at *
          go_wp2_with (go_at_call 59; refine (hx _).mono ?_; rintro r w' ⟨rfl, rfl⟩)
          all_goals
            go_roundw
            case rel => exact ⟨0, 3 + 1, val2, rfl, by go_num, by (have := HV.out; exact congrArg (Value.int .i64) (by omega)), by omega, HI2, HR, _, rfl⟩
            case measure => simp [intOf]
      · have HR : Hid (unitL l false i = .error (i + 3 + 1)) := by
          show _ = _
          rw [← HP.out, unitF_stop (j := 0) (hasAt_out _ hin)]
        have heq : ((i : Int) + 3 == (l.length : Int)) = true := by
          have : (i : Int) + 3 = (l.length : Int) := by omega
          rw [this]; simp
        clear HP HI hiv hvl hL hin
        go_wp2
        go_ret3
        exact ⟨r_pl (by rw [HR.out]; simp [runV]), _, rfl⟩
    · obtain rfl : j = 0 := by omega
      have HR : Hid (unitL l false i = .ok (val, i + 4)) := by show _ = _; rw [← HP.out]; rfl
      clear HP HI hL
      go_wp2
      go_ret3
      exact ⟨r_pl (by rw [HR.out]; simp [runV]), _, rfl⟩
end Go.Proofs.YtnpnnkjkohcgnaaDoor
