/-
  What ref4.digit, ref4.some and ref4.word answer: the same as lex.digits and lex.spelled. Conditions: the bytes lie in memory, at most 2^48 of them.
  What ref4.Hex answers: a digit of 16. No condition but that a byte is below 256.
  What ref4.four answers: the number of four digits of 16, or where it is bad: the same as lex.unit. Conditions: the bytes lie in memory, at most 2^48 of them.
  What ref4.escape answers: the code point behind a backslash, or the bad length: the same as lex.escape. Conditions: the bytes lie in memory, at most 2^48 of them.
  What ref1.Put and ref1.Pair answer. Conditions: what stands ahead of a code point is at most 2^47 - 4096 bytes long.
  What ref4.escape answers: the code point behind a backslash, or the bad length: the same as lex.escape. Conditions: the bytes lie in memory, at most 2^48 of them.
  Plain mathematics: a string that is read step by step is the string that is read run by run. No condition.
  What ref.length, ref.second, ref.step and ref.Good answer: the same step, and the same good beginning. No condition.
  What ref.Good and ref.Points answer: the same good beginning, and the same code points. Conditions: the text is at most 2^44 bytes long.
  What ref4.text answers: the string behind a quote, or the bad length: the same as lex.text. Conditions: the bytes lie in memory, at most 2^47 - 4096 of them.
  What ref4.number answers: the same as lex.number. Conditions: the bytes lie in memory, at most 2^48 of them.
  What ref4.Blank answers, and plain facts on what is read at a place. No condition.
  What is bad depends on nothing behind it: plain mathematics of what lex.Next answers. No condition.
  What is bad becomes good by another end: plain mathematics of what lex.Next answers. No condition.
  What is bad becomes good by another end: escapes. Plain mathematics. No condition.
  What is bad becomes good by another end: strings, and all. Plain mathematics. No condition.
  What is read of bytes that are cut off, or that others stand behind: plain mathematics of what lex.Next answers. No condition.
-/
import Derived.Test.YtlahlnocjfphjaaGreatDoorJoined11
import Derived.Test.YtlahlnocjfphjaaGreatDoorJoined12
import Derived.Test.YtlahlnocjfphjaaGreatDoorJoined15
import Derived.Test.YtlahlnocjfphjaaGreatDoorJoined16
import Derived.Deep.DeepCutAuto
import Derived.Test.YtlahlnocjfphjaaGreatDoorJoined35
import Derived.Test.YtlahlnocjfphjaaGreatDoorJoined6
import Derived.Test.YtlahlnocjfphjaaGreatDoorJoined17
import Derived.Deep.LoopGhost
import Derived.Deep.CutBlock
import Derived.Test.YtlahlnocjfphjaaGreatDoorJoined21
import Derived.Test.YtlahlnocjfphjaaGreatDoorJoined34
namespace Go.Proofs.YtlahlnocjfphjaaGreatDoor.Lx
open Go.RowKit
attribute [local go_sem] setCell_drewN alloc_drewN

/-- A place, or the bad length, as the document's answer returns them. -/
def rpV : Pl → Value
  | .ok k => .tuple #[.int .i64 k, .int .i64 0]
  | .error n => .tuple #[.int .i64 0, .int .i64 n]

theorem rdigit_any (c : Int) (w : World) : Calls Tryz.prog 36 #[.int .u8 c] w fun r w' => r = .returned (.bool (digitB c)) ∧ w' = w := by
  by_cases h : 48 ≤ c
  · have HR : Hid (digitB c = decide (c ≤ 57)) := by show _ = _; simp [digitB, h]
    go_enter Tryz.func36, Tryz.ntmps36
    go_wp2
    go_ret
    exact ⟨r_bool HR.out.symm, rfl⟩
  · have HR : Hid (digitB c = false) := by show _ = _; simp [digitB, h]
    have hd : decide (48 ≤ c) = false := decide_eq_false h
    go_enter Tryz.func36, Tryz.ntmps36
    go_wp2
    go_ret
    exact ⟨r_bool HR.out.symm, rfl⟩

set_option maxHeartbeats 800000 in
theorem rsome_any (l : List UInt8) (i : Nat) (v : Value) (w : World) (hB : Byt w v l) (hi : i ≤ l.length) (hm : l.length ≤ 281474976710656) :
    Calls Tryz.prog 58 #[v, .int .i64 i] w fun r w' => r = .returned (rpV (digitsL l i)) ∧ w' = w := by
  have hmI : (l.length : Int) ≤ 281474976710656 := by omega
  by_cases hlt : i < l.length
  · rcases hB with ⟨h0, _⟩ | ⟨b, off, cap, rfl, hc, hm', hL⟩
    · omega
    · have hcell := hL.cell i hlt
      have hI : (i : Int) < (l.length : Int) := by omega
      have hne : ((i : Int) == (l.length : Int)) = false := beq_eq_false_iff_ne.2 (by omega)
      have h1 := fun w => rdigit_any (bx l i) w
      cases hd : digitB (bx l i)
      · rw [hd] at h1
        have HR : Hid (digitsL l i = .error (i + 1)) := by show _ = _; simp [digitsL, hasAt_in _ hlt, hd]
        generalize bx l i = c at *
        clear hd hL hc hm' hlt
        go_enter Tryz.func58, Tryz.ntmps58
        go_wp2_with (go_at_call 36; refine (h1 _).mono ?_; rintro r w' ⟨rfl, rfl⟩)
        go_ret2
        exact ⟨r_pl (by rw [HR.out]; simp [rpV]), rfl⟩
      · rw [hd] at h1
        have HR : Hid (digitsL l i = .ok (pass l digitB i)) := by
          show _ = _
          rw [pass_go (by rw [hasAt_in _ hlt]; exact hd)]
          simp [digitsL, hasAt_in _ hlt, hd]
        clear hc hm'
        go_enter Tryz.func58, Tryz.ntmps58
        go_wp2_with (go_at_call 36; refine (h1 _).mono ?_; rintro r w' ⟨rfl, rfl⟩)
        clear hd h1 hcell hne hI hlt
        go_loop [1] (fun t => ∃ k : Nat, k ≤ l.length ∧ t = .int .i64 k ∧ Hid (pass l digitB k = pass l digitB i)) (fun t => l.length - (intOf t).toNat)
        case atStart => exact ⟨i, hi, rfl, rfl⟩
        case round =>
          obtain ⟨k, hk, rfl, HP⟩ := hrel
          by_cases hkl : k < l.length
          · have hcell := hL.cell k hkl
            have hI : (k : Int) < (l.length : Int) := by omega
            have h2 := fun w => rdigit_any (bx l k) w
            have hq := hasAt_in (l := l) digitB hkl
            cases hp : digitB (bx l k)
            · rw [hp] at h2 hq
              have HF : Hid (pass l digitB i = k) := by show _ = _; rw [← HP.out, pass_stop hq]
              clear HP hq hp
              generalize bx l k = c at *
              go_wp2_with (go_at_call 36; refine (h2 _).mono ?_; rintro r w' ⟨rfl, rfl⟩)
              go_ret2
              exact ⟨r_pl (by rw [HR.out, HF.out]; simp [rpV]), rfl⟩
            · rw [hp] at h2 hq
              have HF : Hid (pass l digitB (k + 1) = pass l digitB i) := by show _ = _; rw [← HP.out, pass_go hq]
              clear HP hq hp
              generalize bx l k = c at *
              go_wp2_with (go_at_call 36; refine (h2 _).mono ?_; rintro r w' ⟨rfl, rfl⟩)
              go_round
              case rel => exact ⟨k + 1, by omega, by go_num, HF⟩
              case measure => simp [intOf]; omega
          · have hI : ¬ (k : Int) < (l.length : Int) := by omega
            have HF : Hid (pass l digitB i = k) := by show _ = _; rw [← HP.out, pass_stop (hasAt_out _ hkl)]
            clear HP
            go_wp2
            go_ret2
            exact ⟨r_pl (by rw [HR.out, HF.out]; simp [rpV]), rfl⟩
  · have he : ((i : Int) == (l.length : Int)) = true := by
      have : (i : Int) = (l.length : Int) := by omega
      rw [this]; simp
    have HR : Hid (digitsL l i = .error (i + 1)) := by show _ = _; simp [digitsL, hasAt_out _ hlt]
    obtain ⟨a, cap, rfl, _⟩ := hB.shape
    clear hB hlt
    go_enter Tryz.func58, Tryz.ntmps58
    go_wp2
    go_ret2
    exact ⟨r_pl (by rw [HR.out]; simp [rpV]), rfl⟩

set_option maxRecDepth 100000 in
set_option maxHeartbeats 1600000 in
theorem rword_any (l : List UInt8) (i : Nat) (v : Value) (s : ByteArray) (w : World) (hB : Byt w v l) (hi : i < l.length) (hm : l.length ≤ 281474976710656) (hs : s.size ≤ 1000) :
    Calls Tryz.prog 35 #[v, .int .i64 i, .string s] w fun r w' => r = .returned (rpV (spelledL l i s.data.toList)) ∧ ∃ n, w' = w.drewN n := by
  have hiI : (i : Int) ≤ 281474976710656 := by omega
  have hsI : (s.size : Int) ≤ 1000 := by omega
  rcases hB with ⟨h0, _⟩ | ⟨b, off, cap, rfl, hc, hm', hL⟩
  · omega
  clear hc hm'
  have hlI : (l.length : Int) ≤ 281474976710656 := by omega
  go_enter Tryz.func35, Tryz.ntmps35
  go_wp2
  go_loopw [8] (fun t wr => ∃ k : Nat, k ≤ s.size ∧ t = .int .i64 (k : Int) ∧ i + k ≤ l.length ∧ Hid (spelledL l (i + k) (s.data.toList.drop k) = spelledL l i s.data.toList) ∧ ∃ q, wr = w.drewN q) (fun t _ => s.size - (intOf t).toNat)
  case atStart => exact ⟨0, Nat.zero_le _, rfl, by omega, rfl, 0, rfl⟩
  case round =>
    obtain ⟨k, hk, rfl, hil, HP, q, rfl⟩ := hrel
    by_cases hks : k < s.size
    · have hI : (k : Int) < (s.size : Int) := by omega
      obtain ⟨c, ec, ecx⟩ := cx_list s k hks
      have hx := cx_at s k hks
      by_cases hin : i + k < l.length
      · have hcell := hL.cell (i + k) hin
        have hne : ((i : Int) + (k : Int) == (l.length : Int)) = false := beq_eq_false_iff_ne.2 (by omega)
        have hinI : (i : Int) + (k : Int) < (l.length : Int) := by omega
        have hin0 : (0 : Int) ≤ (i : Int) + (k : Int) := by omega
        have hnat : ((i : Int) + (k : Int)).toNat = i + k := by omega
        by_cases he : bx l (i + k) = cx s k
        · have HR : Hid (spelledL l (i + (k + 1)) (s.data.toList.drop (k + 1)) = spelledL l i s.data.toList) := by
            show _ = _
            rw [← HP.out, ec, spelledL, ecx, hasAt_in _ hin, he]; simp; rfl
          have heq : (bx l (i + k) != cx s k) = false := by rw [he]; simp
          clear HP ec ecx he
          generalize bx l (i + k) = y at *
          generalize cx s k = x at *
          go_wp2_with fail
          go_quiet (fail)
          go_wp2
          go_roundw
          case rel => exact ⟨k + 1, by omega, by go_num, by omega, HR, _, rfl⟩
          case measure => simp [intOf]; omega
        · have HR : Hid (spelledL l i s.data.toList = .error (i + k + 1)) := by
            show _ = _
            rw [← HP.out, ec, spelledL, ecx, hasAt_in _ hin, beq_eq_false_iff_ne.2 he]; rfl
          have heq : (bx l (i + k) != cx s k) = true := by simp only [bne, beq_eq_false_iff_ne.2 he]; rfl
          clear HP ec ecx he
          generalize bx l (i + k) = y at *
          generalize cx s k = x at *
          go_wp2_with fail
          go_quiet (fail)
          go_wp2
          go_ret2
          exact ⟨r_pl (by rw [HR.out]; simp [rpV]), _, rfl⟩
      · have HR : Hid (spelledL l i s.data.toList = .error (i + k + 1)) := by
          show _ = _
          rw [← HP.out, ec, spelledL, ecx, hasAt_out _ hin]; rfl
        have heq : ((i : Int) + (k : Int) == (l.length : Int)) = true := by
          have : (i : Int) + (k : Int) = (l.length : Int) := by omega
          rw [this]; simp
        clear HP ec ecx hL hx hin
        go_wp2_with fail
        go_quiet (fail)
        go_wp2
        go_ret2
        exact ⟨r_pl (by rw [HR.out]; simp [rpV]), _, rfl⟩
    · have hI : ¬ (k : Int) < (s.size : Int) := by omega
      have ek : k = s.size := by omega
      have HR : Hid (spelledL l i s.data.toList = .ok (i + s.size)) := by
        show _ = _
        rw [← HP.out, List.drop_eq_nil_of_le (by rw [Array.length_toList]; exact Nat.le_of_eq ek.symm), ek]; rfl
      clear HP ek hL
      go_wp2
      go_ret2
      exact ⟨r_pl (by rw [HR.out]; simp [rpV]), _, rfl⟩
end Go.Proofs.YtlahlnocjfphjaaGreatDoor.Lx

namespace Go.Proofs.YtlahlnocjfphjaaGreatDoor.Lx
open Go.RowKit
attribute [local go_sem] setCell_drewN alloc_drewN

def hexI (c : Int) : Int := if hexB c = true then hexV c else -1

set_option maxHeartbeats 800000 in
theorem rhex_any (c : Int) (w : World) (h0 : 0 ≤ c) (h1 : c < 256) :
    Calls Tryz.prog 108 #[.int .u8 c] w fun r w' => r = .returned (.int .i64 (hexI c)) ∧ w' = w := by
  have d1 := rdigit_any c w
  by_cases a : 48 ≤ c ∧ c ≤ 57
  · have e : digitB c = true := by simp [digitB, a]
    have HR : Hid (hexI c = c - 48) := by show _ = _; simp [hexI, hexV, hexB, e]
    rw [e] at d1
    clear e
    obtain ⟨a1, a2⟩ := a
    go_enter Tryz.func108, Tryz.ntmps108
    go_wp2_with (go_at_call 36; refine d1.mono ?_; rintro r w' ⟨rfl, rfl⟩)
    go_ret
    exact ⟨ret_int HR.out.symm, rfl⟩
  · have e : digitB c = false := by simp [digitB]; omega
    rw [e] at d1
    by_cases b : 97 ≤ c ∧ c ≤ 102
    · have HR : Hid (hexI c = c - 97 + 10) := by show _ = _; simp [hexI, hexV, hexB, e, b]; omega
      clear e a
      obtain ⟨a1, a2⟩ := b
      go_enter Tryz.func108, Tryz.ntmps108
      go_wp2_with (go_at_call 36; refine d1.mono ?_; rintro r w' ⟨rfl, rfl⟩)
      go_ret
      exact ⟨ret_int HR.out.symm, rfl⟩
    · by_cases g : 65 ≤ c ∧ c ≤ 70
      · have HR : Hid (hexI c = c - 65 + 10) := by show _ = _; simp [hexI, hexV, hexB, e, b, g]; omega
        have n1 : decide (97 ≤ c) = false := decide_eq_false (by omega)
        clear e a b
        obtain ⟨a1, a2⟩ := g
        go_enter Tryz.func108, Tryz.ntmps108
        go_wp2_with (go_at_call 36; refine d1.mono ?_; rintro r w' ⟨rfl, rfl⟩)
        go_ret
        exact ⟨ret_int HR.out.symm, rfl⟩
      · have HR : Hid (hexI c = -1) := by
          show _ = _
          have e2 : (decide (97 ≤ c) && decide (c ≤ 102)) = false := by simp; omega
          have e3 : (decide (65 ≤ c) && decide (c ≤ 70)) = false := by simp; omega
          simp [hexI, hexB, e, e2, e3]
        by_cases u : 97 ≤ c
        · have v1 : decide (c ≤ 102) = false := decide_eq_false (by omega)
          have v2 : decide (c ≤ 70) = false := decide_eq_false (by omega)
          have v3 : (65 : Int) ≤ c := by omega
          clear e a b g
          go_enter Tryz.func108, Tryz.ntmps108
          go_wp2_with (go_at_call 36; refine d1.mono ?_; rintro r w' ⟨rfl, rfl⟩)
          go_ret
          exact ⟨ret_int HR.out.symm, rfl⟩
        · have n1 : decide (97 ≤ c) = false := decide_eq_false u
          by_cases u2 : 65 ≤ c
          · have v2 : decide (c ≤ 70) = false := decide_eq_false (by omega)
            clear e a b g u
            go_enter Tryz.func108, Tryz.ntmps108
            go_wp2_with (go_at_call 36; refine d1.mono ?_; rintro r w' ⟨rfl, rfl⟩)
            go_ret
            exact ⟨ret_int HR.out.symm, rfl⟩
          · have n2 : decide (65 ≤ c) = false := decide_eq_false u2
            clear e a b g u u2
            go_enter Tryz.func108, Tryz.ntmps108
            go_wp2_with (go_at_call 36; refine d1.mono ?_; rintro r w' ⟨rfl, rfl⟩)
            go_ret
            exact ⟨ret_int HR.out.symm, rfl⟩
end Go.Proofs.YtlahlnocjfphjaaGreatDoor.Lx

namespace Go.Proofs.YtlahlnocjfphjaaGreatDoor.Lx
open Go.RowKit
attribute [local go_sem] setCell_drewN alloc_drewN

/-- A number and a place, or the bad length, as the document's answer returns them. -/
def runV : Except Nat (Nat × Nat) → Value
  | .ok r => .tuple #[.int .i64 r.1, .int .i64 r.2, .int .i64 0]
  | .error n => .tuple #[.int .i64 0, .int .i64 0, .int .i64 n]
/-- What is known of the number so far. -/
def inv4 (low : Bool) (k val : Nat) : Prop :=
  if low = true then (k = 1 → val = 13) ∧ (k = 2 → 220 ≤ val ∧ val ≤ 223) ∧ (k = 3 → 3520 ≤ val ∧ val ≤ 3583) else (k = 2 → val < 220 ∨ 223 < val) ∧ (k = 3 → val < 3520 ∨ 3583 < val)
theorem unitF_step {l : List UInt8} {low : Bool} {j p val : Nat} (h : hasAt l p (stepU low val (4 * j)) = true) : unitF l low (j + 1) p val = unitF l low j (p + 1) (valU val (bx l p)) := by
  conv => lhs; rw [unitF]
  rw [if_pos h]
theorem unitF_stop {l : List UInt8} {low : Bool} {j p val : Nat} (h : hasAt l p (stepU low val (4 * j)) = false) : unitF l low (j + 1) p val = .error (p + 1) := by
  conv => lhs; rw [unitF]
  rw [if_neg (by rw [h]; simp)]

set_option maxRecDepth 100000 in
set_option maxHeartbeats 12800000 in
theorem four_true (l : List UInt8) (i : Nat) (v : Value) (w : World) (hB : Byt w v l) (h0 : 0 < l.length) (hi : i ≤ l.length) (hm : l.length ≤ 281474976710656) :
    Calls Tryz.prog 85 #[v, .int .i64 i, .bool true] w fun r w' => r = .returned (runV (unitL l true i)) ∧ ∃ n, w' = w.drewN n := by
  have hiI : (i : Int) ≤ 281474976710656 := by omega
  have hlI : (l.length : Int) ≤ 281474976710656 := by omega
  rcases hB with ⟨h, _⟩ | ⟨b, off, cap, rfl, hc, hm', hL⟩
  · omega
  clear hc hm' h0
  go_enter Tryz.func85, Tryz.ntmps85
  go_wp2
  go_loopw [9, 10] (fun u t wr => ∃ j k val : Nat, j + k = 4 ∧ t = .int .i64 (k : Int) ∧ u = .int .i64 (val : Int) ∧ i + k ≤ l.length ∧ Hid (val * 16 ^ j < 65536 ∧ inv4 true k val) ∧ Hid (unitF l true j (i + k) val = unitL l true i) ∧ ∃ q, wr = w.drewN q) (fun _ t _ => 4 - (intOf t).toNat)
  case atStart => exact ⟨4, 0, 0, rfl, rfl, rfl, by omega, ⟨by decide, by simp [inv4]⟩, rfl, 0, rfl⟩
  case round =>
    obtain ⟨j, k, val, hjk, rfl, rfl, hil, HI, HP, q, rfl⟩ := hrel
    have ek : k = 0 ∨ k = 1 ∨ k = 2 ∨ k = 3 ∨ k = 4 := by omega
    rcases ek with rfl | rfl | rfl | rfl | rfl
    · obtain rfl : j = 3 + 1 := by omega
      have HP : Hid (unitF l true (3 + 1) i val = unitL l true i) := HP.out
      have hvl := HI.out.1
      have hiv := HI.out.2
      unfold inv4 at hiv
      simp only [if_true] at hiv
      by_cases hin : i < l.length
      · have hcell := hL.cell i hin
        have hne : ((i : Int) == (l.length : Int)) = false := beq_eq_false_iff_ne.2 (by omega)
        have hinI : (i : Int) < (l.length : Int) := by omega
        have hnat : ((i : Int)).toNat = i := by omega
        have hx := fun w => rhex_any (bx l i) w (bx_lo _ _) (bx_hi _ _)
        have hbd := hexV_bd (bx l i)
        cases hh : hexB (bx l i)
        · have e1 : hexI (bx l i) = -1 := by simp [hexI, hh]
          have HR : Hid (unitL l true i = .error (i + 1)) := by
            show _ = _
            rw [← HP.out, unitF_stop (j := 3) (by rw [hasAt_in _ hin]; simp [stepU, hh])]
          rw [e1] at hx
          clear HP HI hh hiv hvl hbd hL e1
          generalize bx l i = c at *
          go_wp2_with (go_at_call 108; refine (hx _).mono ?_; rintro r w' ⟨rfl, rfl⟩)
          go_ret3
          exact ⟨r_pl (by rw [HR.out]; simp [runV]), _, rfl⟩
        · have e1 : hexI (bx l i) = hexV (bx l i) := by simp [hexI, hh]
          rw [e1] at hx
          have ev := valU_int val (bx l i)
          have hvI : (val : Int) < 4096 := by have := pow16 (j := 3) (by omega) hvl; omega
          by_cases ht : 16 * (val : Int) + hexV (bx l i) = 13
          · have HR : Hid (unitF l true 3 (i + 1) (valU val (bx l i)) = unitL l true i) := by
              show _ = _
              rw [← HP.out, unitF_step (j := 3) (p := i) (by rw [hasAt_in _ hin]; simp [stepU, hh, wantB, lowB]; omega)]
              try rfl
            have HI2 : Hid (valU val (bx l i) * 16 ^ 3 < 65536 ∧ inv4 true (0 + 1) (valU val (bx l i))) := ⟨pow16' (by omega) hvl, by (unfold inv4; simp <;> omega)⟩
            have HV : Hid ((valU val (bx l i) : Int) = 16 * (val : Int) + hexV (bx l i)) := by show _ = _; omega
            clear HP HI hh hiv hvl hL e1 ev
            generalize valU val (bx l i) = val2 at *
            generalize hexV (bx l i) = y at *
            generalize bx l i = c at *
            go_wp2_with (go_at_call 108; refine (hx _).mono ?_; rintro r w' ⟨rfl, rfl⟩)
            all_goals
              go_roundw
              case rel => exact ⟨3, 1, val2, rfl, by go_num, by (have := HV.out; exact congrArg (Value.int .i64) (by omega)), by omega, HI2, HR, _, rfl⟩
              case measure => simp [intOf]
          · have HR : Hid (unitL l true i = .error (i + 1)) := by
              show _ = _
              rw [← HP.out, unitF_stop (j := 3) (by rw [hasAt_in _ hin]; simp [stepU, hh, wantB, lowB]; omega)]
            clear HP HI hh hiv hvl hL e1 ev
            generalize hexV (bx l i) = y at *
            generalize bx l i = c at *
            go_wp2_with (go_at_call 108; refine (hx _).mono ?_; rintro r w' ⟨rfl, rfl⟩)
            go_ret3
            exact ⟨r_pl (by rw [HR.out]; simp [runV]), _, rfl⟩
      · have HR : Hid (unitL l true i = .error (i + 1)) := by
          show _ = _
          rw [← HP.out, unitF_stop (j := 3) (hasAt_out _ hin)]
        have heq : ((i : Int) == (l.length : Int)) = true := by
          have : (i : Int) = (l.length : Int) := by omega
          rw [this]; simp
        clear HP HI hiv hvl hL hin
        go_wp2
        go_ret3
        exact ⟨r_pl (by rw [HR.out]; simp [runV]), _, rfl⟩
    · obtain rfl : j = 2 + 1 := by omega
      have hvl := HI.out.1
      have hiv := HI.out.2
      unfold inv4 at hiv
      simp only [if_true] at hiv
      by_cases hin : i + 1 < l.length
      · have hcell := hL.cell (i + 1) hin
        have hne : ((i : Int) + 1 == (l.length : Int)) = false := beq_eq_false_iff_ne.2 (by omega)
        have hinI : (i : Int) + 1 < (l.length : Int) := by omega
        have hnat : ((i : Int) + 1).toNat = i + 1 := by omega
        have hx := fun w => rhex_any (bx l (i + 1)) w (bx_lo _ _) (bx_hi _ _)
        have hbd := hexV_bd (bx l (i + 1))
        cases hh : hexB (bx l (i + 1))
        · have e1 : hexI (bx l (i + 1)) = -1 := by simp [hexI, hh]
          have HR : Hid (unitL l true i = .error (i + 1 + 1)) := by
            show _ = _
            rw [← HP.out, unitF_stop (j := 2) (by rw [hasAt_in _ hin]; simp [stepU, hh])]
          rw [e1] at hx
          clear HP HI hh hiv hvl hbd hL e1
          generalize bx l (i + 1) = c at *
          go_wp2_with (go_at_call 108; refine (hx _).mono ?_; rintro r w' ⟨rfl, rfl⟩)
          go_ret3
          exact ⟨r_pl (by rw [HR.out]; simp [runV]), _, rfl⟩
        · have e1 : hexI (bx l (i + 1)) = hexV (bx l (i + 1)) := by simp [hexI, hh]
          rw [e1] at hx
          have ev := valU_int val (bx l (i + 1))
          have hz : val = 13 := hiv.1 (by trivial)
          have hvI : (val : Int) < 4096 := by have := pow16 (j := 2) (by omega) hvl; omega
          by_cases ht : 220 ≤ 16 * (val : Int) + hexV (bx l (i + 1))
          · have HR : Hid (unitF l true 2 (i + (1 + 1)) (valU val (bx l (i + 1))) = unitL l true i) := by
              show _ = _
              rw [← HP.out, unitF_step (j := 2) (p := i + 1) (by rw [hasAt_in _ hin]; simp [stepU, hh, wantB, lowB]; omega)]
              try rfl
            have HI2 : Hid (valU val (bx l (i + 1)) * 16 ^ 2 < 65536 ∧ inv4 true (1 + 1) (valU val (bx l (i + 1)))) := ⟨pow16' (by omega) hvl, by (unfold inv4; simp <;> omega)⟩
            have HV : Hid ((valU val (bx l (i + 1)) : Int) = 16 * (val : Int) + hexV (bx l (i + 1))) := by show _ = _; omega
            clear HP HI hh hiv hvl hL e1 ev hz
            generalize valU val (bx l (i + 1)) = val2 at *
            generalize hexV (bx l (i + 1)) = y at *
            generalize bx l (i + 1) = c at *
            go_wp2_with (go_at_call 108; refine (hx _).mono ?_; rintro r w' ⟨rfl, rfl⟩)
            all_goals
              go_roundw
              case rel => exact ⟨2, 1 + 1, val2, rfl, by go_num, by (have := HV.out; exact congrArg (Value.int .i64) (by omega)), by omega, HI2, HR, _, rfl⟩
              case measure => simp [intOf]
          · have HR : Hid (unitL l true i = .error (i + 1 + 1)) := by
              show _ = _
              rw [← HP.out, unitF_stop (j := 2) (by rw [hasAt_in _ hin]; simp [stepU, hh, wantB, lowB]; omega)]
            clear HP HI hh hiv hvl hL e1 ev hz
            generalize hexV (bx l (i + 1)) = y at *
            generalize bx l (i + 1) = c at *
            go_wp2_with (go_at_call 108; refine (hx _).mono ?_; rintro r w' ⟨rfl, rfl⟩)
            go_ret3
            exact ⟨r_pl (by rw [HR.out]; simp [runV]), _, rfl⟩
      · have HR : Hid (unitL l true i = .error (i + 1 + 1)) := by
          show _ = _
          rw [← HP.out, unitF_stop (j := 2) (hasAt_out _ hin)]
        have heq : ((i : Int) + 1 == (l.length : Int)) = true := by
          have : (i : Int) + 1 = (l.length : Int) := by omega
          rw [this]; simp
        clear HP HI hiv hvl hL hin
        go_wp2
        go_ret3
        exact ⟨r_pl (by rw [HR.out]; simp [runV]), _, rfl⟩
    · obtain rfl : j = 1 + 1 := by omega
      have hvl := HI.out.1
      have hiv := HI.out.2
      unfold inv4 at hiv
      simp only [if_true] at hiv
      by_cases hin : i + 2 < l.length
      · have hcell := hL.cell (i + 2) hin
        have hne : ((i : Int) + 2 == (l.length : Int)) = false := beq_eq_false_iff_ne.2 (by omega)
        have hinI : (i : Int) + 2 < (l.length : Int) := by omega
        have hnat : ((i : Int) + 2).toNat = i + 2 := by omega
        have hx := fun w => rhex_any (bx l (i + 2)) w (bx_lo _ _) (bx_hi _ _)
        have hbd := hexV_bd (bx l (i + 2))
        cases hh : hexB (bx l (i + 2))
        · have e1 : hexI (bx l (i + 2)) = -1 := by simp [hexI, hh]
          have HR : Hid (unitL l true i = .error (i + 2 + 1)) := by
            show _ = _
            rw [← HP.out, unitF_stop (j := 1) (by rw [hasAt_in _ hin]; simp [stepU, hh])]
          rw [e1] at hx
          clear HP HI hh hiv hvl hbd hL e1
          generalize bx l (i + 2) = c at *
          go_wp2_with (go_at_call 108; refine (hx _).mono ?_; rintro r w' ⟨rfl, rfl⟩)
          go_ret3
          exact ⟨r_pl (by rw [HR.out]; simp [runV]), _, rfl⟩
        · have e1 : hexI (bx l (i + 2)) = hexV (bx l (i + 2)) := by simp [hexI, hh]
          rw [e1] at hx
          have ev := valU_int val (bx l (i + 2))
          have hz : 220 ≤ val ∧ val ≤ 223 := hiv.2.1 (by trivial)
          have hvI : (val : Int) < 4096 := by have := pow16 (j := 1) (by omega) hvl; omega
          have HR : Hid (unitF l true 1 (i + (2 + 1)) (valU val (bx l (i + 2))) = unitL l true i) := by
            show _ = _
            rw [← HP.out, unitF_step (j := 1) (p := i + 2) (by rw [hasAt_in _ hin]; simp [stepU, hh, wantB, lowB]; omega)]
            try rfl
          have HI2 : Hid (valU val (bx l (i + 2)) * 16 ^ 1 < 65536 ∧ inv4 true (2 + 1) (valU val (bx l (i + 2)))) := ⟨pow16' (by omega) hvl, by (unfold inv4; simp <;> omega)⟩
          have HV : Hid ((valU val (bx l (i + 2)) : Int) = 16 * (val : Int) + hexV (bx l (i + 2))) := by show _ = _; omega
          clear HP HI hh hiv hvl hL e1 ev hz
          generalize valU val (bx l (i + 2)) = val2 at *
          generalize hexV (bx l (i + 2)) = y at *
          generalize bx l (i + 2) = c at *
          go_wp2_with (go_at_call 108; refine (hx _).mono ?_; rintro r w' ⟨rfl, rfl⟩)
          all_goals
            go_roundw
            case rel => exact ⟨1, 2 + 1, val2, rfl, by go_num, by (have := HV.out; exact congrArg (Value.int .i64) (by omega)), by omega, HI2, HR, _, rfl⟩
            case measure => simp [intOf]
      · have HR : Hid (unitL l true i = .error (i + 2 + 1)) := by
          show _ = _
          rw [← HP.out, unitF_stop (j := 1) (hasAt_out _ hin)]
        have heq : ((i : Int) + 2 == (l.length : Int)) = true := by
          have : (i : Int) + 2 = (l.length : Int) := by omega
          rw [this]; simp
        clear HP HI hiv hvl hL hin
        go_wp2
        go_ret3
        exact ⟨r_pl (by rw [HR.out]; simp [runV]), _, rfl⟩
    · obtain rfl : j = 0 + 1 := by omega
      have hvl := HI.out.1
      have hiv := HI.out.2
      unfold inv4 at hiv
      simp only [if_true] at hiv
      by_cases hin : i + 3 < l.length
      · have hcell := hL.cell (i + 3) hin
        have hne : ((i : Int) + 3 == (l.length : Int)) = false := beq_eq_false_iff_ne.2 (by omega)
        have hinI : (i : Int) + 3 < (l.length : Int) := by omega
        have hnat : ((i : Int) + 3).toNat = i + 3 := by omega
        have hx := fun w => rhex_any (bx l (i + 3)) w (bx_lo _ _) (bx_hi _ _)
        have hbd := hexV_bd (bx l (i + 3))
        cases hh : hexB (bx l (i + 3))
        · have e1 : hexI (bx l (i + 3)) = -1 := by simp [hexI, hh]
          have HR : Hid (unitL l true i = .error (i + 3 + 1)) := by
            show _ = _
            rw [← HP.out, unitF_stop (j := 0) (by rw [hasAt_in _ hin]; simp [stepU, hh])]
          rw [e1] at hx
          clear HP HI hh hiv hvl hbd hL e1
          generalize bx l (i + 3) = c at *
          go_wp2_with (go_at_call 108; refine (hx _).mono ?_; rintro r w' ⟨rfl, rfl⟩)
          go_ret3
          exact ⟨r_pl (by rw [HR.out]; simp [runV]), _, rfl⟩
        · have e1 : hexI (bx l (i + 3)) = hexV (bx l (i + 3)) := by simp [hexI, hh]
          rw [e1] at hx
          have ev := valU_int val (bx l (i + 3))
          have hz : 3520 ≤ val ∧ val ≤ 3583 := hiv.2.2 (by trivial)
          have hvI : (val : Int) < 4096 := by have := pow16 (j := 0) (by omega) hvl; omega
          have HR : Hid (unitF l true 0 (i + (3 + 1)) (valU val (bx l (i + 3))) = unitL l true i) := by
            show _ = _
            rw [← HP.out, unitF_step (j := 0) (p := i + 3) (by rw [hasAt_in _ hin]; simp [stepU, hh, wantB, lowB]; omega)]
            try rfl
          have HI2 : Hid (valU val (bx l (i + 3)) * 16 ^ 0 < 65536 ∧ inv4 true (3 + 1) (valU val (bx l (i + 3)))) := ⟨pow16' (by omega) hvl, by (unfold inv4; simp <;> omega)⟩
          have HV : Hid ((valU val (bx l (i + 3)) : Int) = 16 * (val : Int) + hexV (bx l (i + 3))) := by show _ = _; omega
          clear HP HI hh hiv hvl hL e1 ev hz
          generalize valU val (bx l (i + 3)) = val2 at *
          generalize hexV (bx l (i + 3)) = y at *
          generalize bx l (i + 3) = c at *
          go_wp2_with (go_at_call 108; refine (hx _).mono ?_; rintro r w' ⟨rfl, rfl⟩)
          all_goals
            go_roundw
            case rel => exact ⟨0, 3 + 1, val2, rfl, by go_num, by (have := HV.out; exact congrArg (Value.int .i64) (by omega)), by omega, HI2, HR, _, rfl⟩
            case measure => simp [intOf]
      · have HR : Hid (unitL l true i = .error (i + 3 + 1)) := by
          show _ = _
          rw [← HP.out, unitF_stop (j := 0) (hasAt_out _ hin)]
        have heq : ((i : Int) + 3 == (l.length : Int)) = true := by
          have : (i : Int) + 3 = (l.length : Int) := by omega
          rw [this]; simp
        clear HP HI hiv hvl hL hin
        go_wp2
        go_ret3
        exact ⟨r_pl (by rw [HR.out]; simp [runV]), _, rfl⟩
    · obtain rfl : j = 0 := by omega
      have HR : Hid (unitL l true i = .ok (val, i + 4)) := by show _ = _; rw [← HP.out]; rfl
      clear HP HI hL
      go_wp2
      go_ret3
      exact ⟨r_pl (by rw [HR.out]; simp [runV]), _, rfl⟩

set_option maxRecDepth 100000 in
set_option maxHeartbeats 12800000 in
theorem four_false (l : List UInt8) (i : Nat) (v : Value) (w : World) (hB : Byt w v l) (h0 : 0 < l.length) (hi : i ≤ l.length) (hm : l.length ≤ 281474976710656) :
    Calls Tryz.prog 85 #[v, .int .i64 i, .bool false] w fun r w' => r = .returned (runV (unitL l false i)) ∧ ∃ n, w' = w.drewN n := by
  have hiI : (i : Int) ≤ 281474976710656 := by omega
  have hlI : (l.length : Int) ≤ 281474976710656 := by omega
  rcases hB with ⟨h, _⟩ | ⟨b, off, cap, rfl, hc, hm', hL⟩
  · omega
  clear hc hm' h0
  go_enter Tryz.func85, Tryz.ntmps85
  go_wp2
  go_loopw [9, 10] (fun u t wr => ∃ j k val : Nat, j + k = 4 ∧ t = .int .i64 (k : Int) ∧ u = .int .i64 (val : Int) ∧ i + k ≤ l.length ∧ Hid (val * 16 ^ j < 65536 ∧ inv4 false k val) ∧ Hid (unitF l false j (i + k) val = unitL l false i) ∧ ∃ q, wr = w.drewN q) (fun _ t _ => 4 - (intOf t).toNat)
  case atStart => exact ⟨4, 0, 0, rfl, rfl, rfl, by omega, ⟨by decide, by simp [inv4]⟩, rfl, 0, rfl⟩
  case round =>
    obtain ⟨j, k, val, hjk, rfl, rfl, hil, HI, HP, q, rfl⟩ := hrel
    have ek : k = 0 ∨ k = 1 ∨ k = 2 ∨ k = 3 ∨ k = 4 := by omega
    rcases ek with rfl | rfl | rfl | rfl | rfl
    · obtain rfl : j = 3 + 1 := by omega
      have HP : Hid (unitF l false (3 + 1) i val = unitL l false i) := HP.out
      have hvl := HI.out.1
      have hiv := HI.out.2
      unfold inv4 at hiv
      simp only [Bool.false_eq_true, if_false] at hiv
      by_cases hin : i < l.length
      · have hcell := hL.cell i hin
        have hne : ((i : Int) == (l.length : Int)) = false := beq_eq_false_iff_ne.2 (by omega)
        have hinI : (i : Int) < (l.length : Int) := by omega
        have hnat : ((i : Int)).toNat = i := by omega
        have hx := fun w => rhex_any (bx l i) w (bx_lo _ _) (bx_hi _ _)
        have hbd := hexV_bd (bx l i)
        cases hh : hexB (bx l i)
        · have e1 : hexI (bx l i) = -1 := by simp [hexI, hh]
          have HR : Hid (unitL l false i = .error (i + 1)) := by
            show _ = _
            rw [← HP.out, unitF_stop (j := 3) (by rw [hasAt_in _ hin]; simp [stepU, hh])]
          rw [e1] at hx
          clear HP HI hh hiv hvl hbd hL e1
          generalize bx l i = c at *
          go_wp2_with (go_at_call 108; refine (hx _).mono ?_; rintro r w' ⟨rfl, rfl⟩)
          go_ret3
          exact ⟨r_pl (by rw [HR.out]; simp [runV]), _, rfl⟩
        · have e1 : hexI (bx l i) = hexV (bx l i) := by simp [hexI, hh]
          rw [e1] at hx
          have ev := valU_int val (bx l i)
          have hvI : (val : Int) < 4096 := by have := pow16 (j := 3) (by omega) hvl; omega
          have HR : Hid (unitF l false 3 (i + 1) (valU val (bx l i)) = unitL l false i) := by
            show _ = _
            rw [← HP.out, unitF_step (j := 3) (p := i) (by rw [hasAt_in _ hin]; simp [stepU, hh, wantB, notLowB]; omega)]
            try rfl
          have HI2 : Hid (valU val (bx l i) * 16 ^ 3 < 65536 ∧ inv4 false (0 + 1) (valU val (bx l i))) := ⟨pow16' (by omega) hvl, by (unfold inv4; simp <;> omega)⟩
          have HV : Hid ((valU val (bx l i) : Int) = 16 * (val : Int) + hexV (bx l i)) := by show _ = _; omega
          clear HP HI hh hiv hvl hL e1 ev
          generalize valU val (bx l i) = val2 at *
          generalize hexV (bx l i) = y at *
          generalize bx l i = c at *
          go_wp2_with (go_at_call 108; refine (hx _).mono ?_; rintro r w' ⟨rfl, rfl⟩)
          all_goals
            go_roundw
            case rel => exact ⟨3, 1, val2, rfl, by go_num, by (have := HV.out; exact congrArg (Value.int .i64) (by omega)), by omega, HI2, HR, _, rfl⟩
            case measure => simp [intOf]
      · have HR : Hid (unitL l false i = .error (i + 1)) := by
          show _ = _
          rw [← HP.out, unitF_stop (j := 3) (hasAt_out _ hin)]
        have heq : ((i : Int) == (l.length : Int)) = true := by
          have : (i : Int) = (l.length : Int) := by omega
          rw [this]; simp
        clear HP HI hiv hvl hL hin
        go_wp2
        go_ret3
        exact ⟨r_pl (by rw [HR.out]; simp [runV]), _, rfl⟩
    · obtain rfl : j = 2 + 1 := by omega
      have hvl := HI.out.1
      have hiv := HI.out.2
      unfold inv4 at hiv
      simp only [Bool.false_eq_true, if_false] at hiv
      by_cases hin : i + 1 < l.length
      · have hcell := hL.cell (i + 1) hin
        have hne : ((i : Int) + 1 == (l.length : Int)) = false := beq_eq_false_iff_ne.2 (by omega)
        have hinI : (i : Int) + 1 < (l.length : Int) := by omega
        have hnat : ((i : Int) + 1).toNat = i + 1 := by omega
        have hx := fun w => rhex_any (bx l (i + 1)) w (bx_lo _ _) (bx_hi _ _)
        have hbd := hexV_bd (bx l (i + 1))
        cases hh : hexB (bx l (i + 1))
        · have e1 : hexI (bx l (i + 1)) = -1 := by simp [hexI, hh]
          have HR : Hid (unitL l false i = .error (i + 1 + 1)) := by
            show _ = _
            rw [← HP.out, unitF_stop (j := 2) (by rw [hasAt_in _ hin]; simp [stepU, hh])]
          rw [e1] at hx
          clear HP HI hh hiv hvl hbd hL e1
          generalize bx l (i + 1) = c at *
          go_wp2_with (go_at_call 108; refine (hx _).mono ?_; rintro r w' ⟨rfl, rfl⟩)
          go_ret3
          exact ⟨r_pl (by rw [HR.out]; simp [runV]), _, rfl⟩
        · have e1 : hexI (bx l (i + 1)) = hexV (bx l (i + 1)) := by simp [hexI, hh]
          rw [e1] at hx
          have ev := valU_int val (bx l (i + 1))
          have hvI : (val : Int) < 4096 := by have := pow16 (j := 2) (by omega) hvl; omega
          by_cases ht : 16 * (val : Int) + hexV (bx l (i + 1)) < 220 ∨ 223 < 16 * (val : Int) + hexV (bx l (i + 1))
          · have HR : Hid (unitF l false 2 (i + (1 + 1)) (valU val (bx l (i + 1))) = unitL l false i) := by
              show _ = _
              rw [← HP.out, unitF_step (j := 2) (p := i + 1) (by rw [hasAt_in _ hin]; simp [stepU, hh, wantB, notLowB]; omega)]
              try rfl
            have HI2 : Hid (valU val (bx l (i + 1)) * 16 ^ 2 < 65536 ∧ inv4 false (1 + 1) (valU val (bx l (i + 1)))) := ⟨pow16' (by omega) hvl, by (unfold inv4; simp <;> omega)⟩
            have HV : Hid ((valU val (bx l (i + 1)) : Int) = 16 * (val : Int) + hexV (bx l (i + 1))) := by show _ = _; omega
            clear HP HI hh hiv hvl hL e1 ev
            generalize valU val (bx l (i + 1)) = val2 at *
            generalize hexV (bx l (i + 1)) = y at *
            generalize bx l (i + 1) = c at *
            go_wp2_with (go_at_call 108; refine (hx _).mono ?_; rintro r w' ⟨rfl, rfl⟩)
            all_goals
              go_roundw
              case rel => exact ⟨2, 1 + 1, val2, rfl, by go_num, by (have := HV.out; exact congrArg (Value.int .i64) (by omega)), by omega, HI2, HR, _, rfl⟩
              case measure => simp [intOf]
          · have HR : Hid (unitL l false i = .error (i + 1 + 1)) := by
              show _ = _
              rw [← HP.out, unitF_stop (j := 2) (by rw [hasAt_in _ hin]; simp [stepU, hh, wantB, notLowB]; omega)]
            clear HP HI hh hiv hvl hL e1 ev
            generalize hexV (bx l (i + 1)) = y at *
            generalize bx l (i + 1) = c at *
            go_wp2_with (go_at_call 108; refine (hx _).mono ?_; rintro r w' ⟨rfl, rfl⟩)
            go_ret3
            exact ⟨r_pl (by rw [HR.out]; simp [runV]), _, rfl⟩
      · have HR : Hid (unitL l false i = .error (i + 1 + 1)) := by
          show _ = _
          rw [← HP.out, unitF_stop (j := 2) (hasAt_out _ hin)]
        have heq : ((i : Int) + 1 == (l.length : Int)) = true := by
          have : (i : Int) + 1 = (l.length : Int) := by omega
          rw [this]; simp
        clear HP HI hiv hvl hL hin
        go_wp2
        go_ret3
        exact ⟨r_pl (by rw [HR.out]; simp [runV]), _, rfl⟩
    · obtain rfl : j = 1 + 1 := by omega
      have hvl := HI.out.1
      have hiv := HI.out.2
      unfold inv4 at hiv
      simp only [Bool.false_eq_true, if_false] at hiv
      by_cases hin : i + 2 < l.length
      · have hcell := hL.cell (i + 2) hin
        have hne : ((i : Int) + 2 == (l.length : Int)) = false := beq_eq_false_iff_ne.2 (by omega)
        have hinI : (i : Int) + 2 < (l.length : Int) := by omega
        have hnat : ((i : Int) + 2).toNat = i + 2 := by omega
        have hx := fun w => rhex_any (bx l (i + 2)) w (bx_lo _ _) (bx_hi _ _)
        have hbd := hexV_bd (bx l (i + 2))
        cases hh : hexB (bx l (i + 2))
        · have e1 : hexI (bx l (i + 2)) = -1 := by simp [hexI, hh]
          have HR : Hid (unitL l false i = .error (i + 2 + 1)) := by
            show _ = _
            rw [← HP.out, unitF_stop (j := 1) (by rw [hasAt_in _ hin]; simp [stepU, hh])]
          rw [e1] at hx
          clear HP HI hh hiv hvl hbd hL e1
          generalize bx l (i + 2) = c at *
          go_wp2_with (go_at_call 108; refine (hx _).mono ?_; rintro r w' ⟨rfl, rfl⟩)
          go_ret3
          exact ⟨r_pl (by rw [HR.out]; simp [runV]), _, rfl⟩
        · have e1 : hexI (bx l (i + 2)) = hexV (bx l (i + 2)) := by simp [hexI, hh]
          rw [e1] at hx
          have ev := valU_int val (bx l (i + 2))
          have hz : val < 220 ∨ 223 < val := hiv.1 (by trivial)
          have hvI : (val : Int) < 4096 := by have := pow16 (j := 1) (by omega) hvl; omega
          have HR : Hid (unitF l false 1 (i + (2 + 1)) (valU val (bx l (i + 2))) = unitL l false i) := by
            show _ = _
            rw [← HP.out, unitF_step (j := 1) (p := i + 2) (by rw [hasAt_in _ hin]; simp [stepU, hh, wantB, notLowB]; omega)]
            try rfl
          have HI2 : Hid (valU val (bx l (i + 2)) * 16 ^ 1 < 65536 ∧ inv4 false (2 + 1) (valU val (bx l (i + 2)))) := ⟨pow16' (by omega) hvl, by (unfold inv4; simp <;> omega)⟩
          have HV : Hid ((valU val (bx l (i + 2)) : Int) = 16 * (val : Int) + hexV (bx l (i + 2))) := by show _ = _; omega
          clear HP HI hh hiv hvl hL e1 ev hz
          generalize valU val (bx l (i + 2)) = val2 at *
          generalize hexV (bx l (i + 2)) = y at *
          generalize bx l (i + 2) = c at *
          go_wp2_with (go_at_call 108; refine (hx _).mono ?_; rintro r w' ⟨rfl, rfl⟩)
          all_goals
            go_roundw
            case rel => exact ⟨1, 2 + 1, val2, rfl, by go_num, by (have := HV.out; exact congrArg (Value.int .i64) (by omega)), by omega, HI2, HR, _, rfl⟩
            case measure => simp [intOf]
      · have HR : Hid (unitL l false i = .error (i + 2 + 1)) := by
          show _ = _
          rw [← HP.out, unitF_stop (j := 1) (hasAt_out _ hin)]
        have heq : ((i : Int) + 2 == (l.length : Int)) = true := by
          have : (i : Int) + 2 = (l.length : Int) := by omega
          rw [this]; simp
        clear HP HI hiv hvl hL hin
        go_wp2
        go_ret3
        exact ⟨r_pl (by rw [HR.out]; simp [runV]), _, rfl⟩
    · obtain rfl : j = 0 + 1 := by omega
      have hvl := HI.out.1
      have hiv := HI.out.2
      unfold inv4 at hiv
      simp only [Bool.false_eq_true, if_false] at hiv
      by_cases hin : i + 3 < l.length
      · have hcell := hL.cell (i + 3) hin
        have hne : ((i : Int) + 3 == (l.length : Int)) = false := beq_eq_false_iff_ne.2 (by omega)
        have hinI : (i : Int) + 3 < (l.length : Int) := by omega
        have hnat : ((i : Int) + 3).toNat = i + 3 := by omega
        have hx := fun w => rhex_any (bx l (i + 3)) w (bx_lo _ _) (bx_hi _ _)
        have hbd := hexV_bd (bx l (i + 3))
        cases hh : hexB (bx l (i + 3))
        · have e1 : hexI (bx l (i + 3)) = -1 := by simp [hexI, hh]
          have HR : Hid (unitL l false i = .error (i + 3 + 1)) := by
            show _ = _
            rw [← HP.out, unitF_stop (j := 0) (by rw [hasAt_in _ hin]; simp [stepU, hh])]
          rw [e1] at hx
          clear HP HI hh hiv hvl hbd hL e1
          generalize bx l (i + 3) = c at *
          go_wp2_with (go_at_call 108; refine (hx _).mono ?_; rintro r w' ⟨rfl, rfl⟩)
          go_ret3
          exact ⟨r_pl (by rw [HR.out]; simp [runV]), _, rfl⟩
        · have e1 : hexI (bx l (i + 3)) = hexV (bx l (i + 3)) := by simp [hexI, hh]
          rw [e1] at hx
          have ev := valU_int val (bx l (i + 3))
          have hz : val < 3520 ∨ 3583 < val := hiv.2 (by trivial)
          have hvI : (val : Int) < 4096 := by have := pow16 (j := 0) (by omega) hvl; omega
          have HR : Hid (unitF l false 0 (i + (3 + 1)) (valU val (bx l (i + 3))) = unitL l false i) := by
            show _ = _
            rw [← HP.out, unitF_step (j := 0) (p := i + 3) (by rw [hasAt_in _ hin]; simp [stepU, hh, wantB, notLowB]; omega)]
            try rfl
          have HI2 : Hid (valU val (bx l (i + 3)) * 16 ^ 0 < 65536 ∧ inv4 false (3 + 1) (valU val (bx l (i + 3)))) := ⟨pow16' (by omega) hvl, by (unfold inv4; simp <;> omega)⟩
          have HV : Hid ((valU val (bx l (i + 3)) : Int) = 16 * (val : Int) + hexV (bx l (i + 3))) := by show _ = _; omega
          clear HP HI hh hiv hvl hL e1 ev hz
          generalize valU val (bx l (i + 3)) = val2 at *
          generalize hexV (bx l (i + 3)) = y at *
          generalize bx l (i + 3) = c at *
          go_wp2_with (go_at_call 108; refine (hx _).mono ?_; rintro r w' ⟨rfl, rfl⟩)
          all_goals
            go_roundw
            case rel => exact ⟨0, 3 + 1, val2, rfl, by go_num, by (have := HV.out; exact congrArg (Value.int .i64) (by omega)), by omega, HI2, HR, _, rfl⟩
            case measure => simp [intOf]
      · have HR : Hid (unitL l false i = .error (i + 3 + 1)) := by
          show _ = _
          rw [← HP.out, unitF_stop (j := 0) (hasAt_out _ hin)]
        have heq : ((i : Int) + 3 == (l.length : Int)) = true := by
          have : (i : Int) + 3 = (l.length : Int) := by omega
          rw [this]; simp
        clear HP HI hiv hvl hL hin
        go_wp2
        go_ret3
        exact ⟨r_pl (by rw [HR.out]; simp [runV]), _, rfl⟩
    · obtain rfl : j = 0 := by omega
      have HR : Hid (unitL l false i = .ok (val, i + 4)) := by show _ = _; rw [← HP.out]; rfl
      clear HP HI hL
      go_wp2
      go_ret3
      exact ⟨r_pl (by rw [HR.out]; simp [runV]), _, rfl⟩
end Go.Proofs.YtlahlnocjfphjaaGreatDoor.Lx

namespace Go.Proofs.YtlahlnocjfphjaaGreatDoor.Lx
open Go.RowKit
attribute [local go_sem] setCell_drewN alloc_drewN

/-- Behind four digits: a second four, where the first are a high surrogate's. -/
def afterU (l : List UInt8) : Except Nat (Nat × Nat) → Except Nat (Nat × Nat)
  | .error n => .error n
  | .ok r => if 55296 ≤ r.1 ∧ r.1 ≤ 56319 then pairL l r.2 r.1 else .ok r
/-- What stands behind a backslash: the code point, where it ends. -/
def escL (l : List UInt8) (i : Nat) : Except Nat (Nat × Nat) :=
  if hasAt l i meanB = true then .ok ((meanV (bx l i)).toNat, i + 1)
  else if hasAt l i (· == 117) = true then afterU l (unitL l false (i + 1))
  else .error (i + 1)

def fromS : ByteArray := ⟨#[34, 92, 47, 98, 102, 110, 114, 116]⟩
def toS : ByteArray := ⟨#[34, 92, 47, 8, 12, 10, 13, 9]⟩
theorem cx_bd (s : ByteArray) (k : Nat) : 0 ≤ cx s k ∧ cx s k < 256 := by
  unfold cx
  split
  · rename_i h
    have := UInt8.toNat_lt (s[k]'h)
    exact ⟨by omega, by omega⟩
  · omega
theorem mean_hit {c : Int} {k : Nat} (hk : k < 8) (h : c = cx fromS k) : meanB c = true ∧ meanV c = cx toS k := by
  have : k = 0 ∨ k = 1 ∨ k = 2 ∨ k = 3 ∨ k = 4 ∨ k = 5 ∨ k = 6 ∨ k = 7 := by omega
  subst h
  rcases this with rfl | rfl | rfl | rfl | rfl | rfl | rfl | rfl <;> decide
theorem mean_miss {c : Int} (h : ∀ j, j < 8 → c ≠ cx fromS j) : meanB c = false := by
  have h0 := h 0 (by omega)
  have h1 := h 1 (by omega)
  have h2 := h 2 (by omega)
  have h3 := h 3 (by omega)
  have h4 := h 4 (by omega)
  have h5 := h 5 (by omega)
  have h6 := h 6 (by omega)
  have h7 := h 7 (by omega)
  have e0 : cx fromS 0 = 34 := by decide
  have e1 : cx fromS 1 = 92 := by decide
  have e2 : cx fromS 2 = 47 := by decide
  have e3 : cx fromS 3 = 98 := by decide
  have e4 : cx fromS 4 = 102 := by decide
  have e5 : cx fromS 5 = 110 := by decide
  have e6 : cx fromS 6 = 114 := by decide
  have e7 : cx fromS 7 = 116 := by decide
  rw [e0] at h0; rw [e1] at h1; rw [e2] at h2; rw [e3] at h3; rw [e4] at h4; rw [e5] at h5; rw [e6] at h6; rw [e7] at h7
  simp [meanB, h0, h1, h2, h3, h4, h5, h6, h7]

theorem unitF_error {l : List UInt8} {low : Bool} (k : Nat) : ∀ {i val n : Nat}, unitF l low k i val = .error n → 0 < n := by
  induction k with
  | zero => intro i val n h; simp [unitF] at h
  | succ k ih =>
    intro i val n h
    simp only [unitF] at h
    split at h
    · exact ih h
    · have := Except.error.inj h; omega
theorem unitL_error {l : List UInt8} {low : Bool} {i n : Nat} (h : unitL l low i = .error n) : 0 < n := unitF_error 4 h

theorem escape_of {l : List UInt8} {i : Nat} (h : hasAt l i (· == 92) = true) : escapeL l i = match escL l (i + 1) with
    | .error n => .error n
    | .ok r => .ok (encL r.1, r.2) := by
  unfold escapeL escL
  rw [if_pos h]
  by_cases hu : hasAt l (i + 1) (· == 117) = true
  · have hin := hasAt_lt hu
    have hb : bx l (i + 1) = 117 := by rw [hasAt_in _ hin] at hu; simpa using hu
    rw [if_pos hu, if_neg (by rw [hasAt_in _ hin, hb]; decide), if_pos hu]
    unfold pointL afterU
    cases unitL l false (i + 1 + 1) with
    | error n => rfl
    | ok r =>
      simp only
      split
      · cases pairL l r.2 r.1 with
        | error n => rfl
        | ok q => rfl
      · rfl
  · rw [if_neg hu]
    by_cases hm : hasAt l (i + 1) meanB = true
    · rw [if_pos hm, if_pos hm]
      have hin := hasAt_lt hm
      rw [hasAt_in _ hin] at hm
      have hv : meanV (bx l (i + 1)) < 128 ∧ 0 ≤ meanV (bx l (i + 1)) := by
        unfold meanV
        repeat' split
        all_goals omega
      generalize meanV (bx l (i + 1)) = x at *
      simp only [Except.ok.injEq, Prod.mk.injEq, and_true]
      unfold encL
      have e1 : encN ((x.toNat : Nat) : Int) = 1 := if_pos (by omega)
      rw [e1]
      simp only [List.range_one, List.map_cons, List.map_nil, List.cons.injEq, and_true]
      have e2 : encF ((x.toNat : Nat) : Int) 0 = x := by unfold encF; simp; omega
      rw [e2]
    · rw [if_neg hm, if_neg hm, if_neg hu]
end Go.Proofs.YtlahlnocjfphjaaGreatDoor.Lx

namespace Go.Proofs.YtlahlnocjfphjaaGreatDoor.Lx
open Go.RowKit

set_option maxHeartbeats 400000 in
theorem bytes_ok (p : Int) (w : World) (hp : ptB p = true) :
    Calls Tryz.prog 89 #[.int .i64 p] w fun e w' => ∃ v, e = .returned v ∧ Row w' v (encN p) (encF p) ∧ Below w.heap.size w w' := by
  obtain ⟨q0, q1, q2⟩ := (ptB_iff p).1 hp
  clear hp
  by_cases h1 : p < 128
  · have e : encN p = 1 := by simp [encN, h1]
    rw [e]
    have hr := enc_row1 w p q0 h1
    clear e
    go_enter Tryz.func89, Tryz.ntmps89
    go_wp2
    go_ret
    exact ⟨_, rfl, hr, (Below.refl _ _).alloc (Nat.le_refl _) _⟩
  · by_cases h2 : p < 2048
    · have e : encN p = 2 := by simp [encN, h1, h2]
      rw [e]
      have hr := enc_row2 w p (by omega) h2
      have e1 := or192 (p / 64) (by omega) (by omega)
      have e2 := i64_and63 p q0 (by omega)
      have e3 := or128 (p % 64) (by omega) (by omega)
      clear e
      go_enter Tryz.func89, Tryz.ntmps89
      go_wp2
      go_ret
      exact ⟨_, rfl, hr, (Below.refl _ _).alloc (Nat.le_refl _) _⟩
    · by_cases h3 : p < 65536
      · have e : encN p = 3 := by simp [encN, h1, h2, h3]
        rw [e]
        have hr := enc_row3 w p (by omega) h3
        have e1 := or224 (p / 4096) (by omega) (by omega)
        have e2 := i64_and63 p q0 (by omega)
        have e3 := or128 (p % 64) (by omega) (by omega)
        have e4 := i64_and63 (p / 64) (by omega) (by omega)
        have e5 := or128 (p / 64 % 64) (by omega) (by omega)
        clear e
        go_enter Tryz.func89, Tryz.ntmps89
        go_wp2
        go_ret
        exact ⟨_, rfl, hr, (Below.refl _ _).alloc (Nat.le_refl _) _⟩
      · have e : encN p = 4 := by simp [encN, h1, h2, h3]
        rw [e]
        have hr := enc_row4 w p (by omega) q1
        have e1 := or240 (p / 262144) (by omega) (by omega)
        have e2 := i64_and63 p q0 (by omega)
        have e3 := or128 (p % 64) (by omega) (by omega)
        have e4 := i64_and63 (p / 64) (by omega) (by omega)
        have e5 := or128 (p / 64 % 64) (by omega) (by omega)
        have e6 := i64_and63 (p / 4096) (by omega) (by omega)
        have e7 := or128 (p / 4096 % 64) (by omega) (by omega)
        clear e
        go_enter Tryz.func89, Tryz.ntmps89
        go_wp2
        go_ret
        exact ⟨_, rfl, hr, (Below.refl _ _).alloc (Nat.le_refl _) _⟩

set_option maxHeartbeats 400000 in
theorem rput_bad (v0 : Value) (p : Int) (w : World) (hp : ptB p = false) :
    Calls Tryz.prog 60 #[v0, .int .i64 p] w fun e w' => e = .returned (.tuple #[.slice none 0 0, .int .i64 2]) ∧ w = w' := by
  have h := scalar_any p w
  rw [hp] at h
  go_enter Tryz.func60, Tryz.ntmps60
  go_wp2_with (go_at_call 87; refine h.mono ?_; rintro e w' ⟨rfl, rfl⟩)
  go_ret2
  exact ⟨rfl, rfl⟩

set_option maxHeartbeats 400000 in
theorem rput_ok (v0 : Value) (n : Nat) (f : Nat → Int) (p : Int) (w : World) (hp : ptB p = true) (hR : Row w v0 n f) (hb : n + 4 ≤ 140737488355328) :
    Calls Tryz.prog 60 #[v0, .int .i64 p] w fun e w' => ∃ r, e = .returned (.tuple #[r, .int .i64 0]) ∧ w'.ownsRow w.heap.size 5 1 r (n + encN p) (vals (n + encN p) (catF n f (encF p))) ∧ Below w.heap.size w w' := by
  have h := scalar_any p w
  rw [hp] at h
  have hc := copy_any v0 n f w hR (by omega)
  have hbs := fun w => bytes_ok p w hp
  have hn4 : encN p ≤ 4 := by unfold encN; repeat' split
                              all_goals omega
  clear hp hR
  go_enter Tryz.func60, Tryz.ntmps60
  go_wp2_with (first | (go_at_call 87; refine h.mono ?_; rintro e w' ⟨rfl, rfl⟩) | (go_at_call 88; fail))
  refine hc.mono ?_
  rintro e w1 ⟨r, rfl, ho, hb1⟩
  have hz1 := hb1.size
  clear hc h
  go_wp2_with fail
  refine (hbs w1).mono ?_
  rintro e w2 ⟨v, rfl, hv, hb2⟩
  have ho2 := own_below ho hb2
  have hb3 : Below w.heap.size w w2 := hb1.trans (hb2.mono hz1)
  have hz2 := hb3.size
  clear hbs ho hb1 hb2 hz1
  go_wp2_with (at_builtin; refine wpList_append_row rfl (.tmp 10) (.tmp 12) rfl w.heap.size _ _ _ rfl ho2 _ _ _ rfl hv ?_ ?_ ?_)
  · omega
  · exact hz2
  · intro v' w3 ho3 hg3
    have hb4 : Below w.heap.size w w3 := hb3.grown hg3 hz2 (fun j hj => (ho2.lt j hj).1)
    rw [vals_cat] at ho3
    clear ho2 hg3 hv
    go_wp2
    go_ret2
    exact ⟨_, rfl, ho3, hb4⟩

set_option maxHeartbeats 400000 in
theorem rpair_ok (h l : Int) (w : World) (h1 : 55296 ≤ h) (h2 : h ≤ 56319) (h3 : 56320 ≤ l) (h4 : l ≤ 57343) :
    Calls Tryz.prog 86 #[.int .i64 h, .int .i64 l] w fun e w' => e = .returned (.tuple #[.int .i64 (65536 + (h - 55296) * 1024 + (l - 56320)), .int .i64 0]) ∧ w = w' := by
  go_enter Tryz.func86, Tryz.ntmps86
  go_wp2
  go_ret2
  exact ⟨ret2_int rfl rfl, rfl⟩
end Go.Proofs.YtlahlnocjfphjaaGreatDoor.Lx

namespace Go.Proofs.YtlahlnocjfphjaaGreatDoor.Lx
open Go.RowKit
attribute [local go_sem] setCell_drewN alloc_drewN

def markS : ByteArray := ⟨#[92, 117]⟩
theorem spelledL_error {l : List UInt8} (cs : List UInt8) : ∀ {i n : Nat}, spelledL l i cs = .error n → 0 < n := by
  induction cs with
  | nil => intro i n h; simp [spelledL] at h
  | cons c cs ih =>
    intro i n h
    simp only [spelledL] at h
    split at h
    · exact ih h
    · have := Except.error.inj h; omega

set_option maxRecDepth 100000 in
set_option maxHeartbeats 12800000 in
theorem rescape_any (l : List UInt8) (i : Nat) (v : Value) (w : World) (hB : Byt w v l) (h0 : 0 < l.length) (hi : i ≤ l.length) (hm : l.length ≤ 281474976710656) :
    Calls Tryz.prog 59 #[v, .int .i64 i] w fun r w' => r = .returned (runV (escL l i)) ∧ ∃ n, w' = w.drewN n := by
  have hlI : (l.length : Int) ≤ 281474976710656 := by omega
  by_cases hin : i < l.length
  · have hf := fun q => four_false l (i + 1) v (w.drewN q) (hB.below (bl_n (Below.refl _ _) q)) h0 (by omega) hm
    have ht := fun q k (hk : k ≤ l.length) => four_true l k v (w.drewN q) (hB.below (bl_n (Below.refl _ _) q)) h0 hk hm
    rcases hB with ⟨h, _⟩ | ⟨b, off, cap, rfl, hc, hm', hL⟩
    · omega
    clear hc hm' h0
    have hcell := hL.cell i hin
    have hne : ((i : Int) == (l.length : Int)) = false := beq_eq_false_iff_ne.2 (by omega)
    have hiI : (i : Int) < (l.length : Int) := by omega
    have e1 : ((i + 1 : Nat) : Int) = (i : Int) + 1 := by omega
    rw [e1] at hf
    clear e1
    have HH : Hid (∀ k, k < 8 → bx l i = cx fromS k → escL l i = .ok ((cx toS k).toNat, i + 1)) := fun k hk he => by
      have a := mean_hit hk he
      unfold escL
      rw [if_pos (by rw [hasAt_in _ hin]; exact a.1), a.2]
    have HX : Hid ((∀ j, j < 8 → bx l i ≠ cx fromS j) → escL l i = if bx l i = 117 then afterU l (unitL l false (i + 1)) else .error (i + 1)) := fun hj => by
      have a := mean_miss hj
      unfold escL
      rw [if_neg (by rw [hasAt_in _ hin, a]; simp), hasAt_in _ hin]
      simp only [beq_iff_eq]
    have HS : Hid (fromS.size = 8 ∧ toS.size = 8) := ⟨rfl, rfl⟩
    go_enter Tryz.func59, Tryz.ntmps59
    go_upto_region 3 with fail
    go_cut [7, 8] (fun s7 s8 wx => s7 = .string fromS ∧ s8 = .string toS ∧ w = wx)
    case first =>
      clear hf ht
      go_wp2_with fail
      go_meet
      exact ⟨rfl, rfl, rfl⟩
    case rest =>
      obtain ⟨rfl, rfl, rfl⟩ := hcut
      generalize fromS = s at *
      generalize toS = t at *
      go_wp2_with fail
      go_loopw [9] (fun u wr => ∃ k : Nat, k ≤ 8 ∧ u = .int .i64 (k : Int) ∧ Hid (∀ j, j < k → bx l i ≠ cx s j) ∧ ∃ q, wr = w.drewN q) (fun u _ => 8 - (intOf u).toNat)
      case atStart => exact ⟨0, Nat.zero_le _, rfl, fun j hj => by omega, 0, rfl⟩
      case round =>
        obtain ⟨k, hk, rfl, HP, q, rfl⟩ := hrel
        by_cases hks : k < 8
        · have hks1 : k < s.size := by rw [HS.out.1]; exact hks
          have hks2 : k < t.size := by rw [HS.out.2]; exact hks
          have hI : (k : Int) < (s.size : Int) := by omega
          have hI2 : (k : Int) < (t.size : Int) := by omega
          have hx := cx_at s k hks1
          have hy := cx_at t k hks2
          have hbd := cx_bd t k
          clear hf ht HX
          by_cases he : bx l i = cx s k
          · have HR : Hid (escL l i = .ok ((cx t k).toNat, i + 1)) := HH.out k hks he
            have heq : (bx l i == cx s k) = true := by rw [he]; simp
            obtain ⟨b0, b1⟩ := hbd
            clear HP HH he
            generalize bx l i = c at *
            generalize cx s k = x at *
            generalize cx t k = y at *
            go_wp2_with fail
            go_quiet (fail)
            go_wp2
            go_ret3
            exact ⟨r_pl (by rw [HR.out]; simp [runV]; omega), _, rfl⟩
          · have heq : (bx l i == cx s k) = false := beq_eq_false_iff_ne.2 he
            have HP2 : Hid (∀ j, j < k + 1 → bx l i ≠ cx s j) := fun j hj => by
              by_cases e : j = k
              · subst e; exact he
              · exact HP.out j (by omega)
            clear HP HH he hbd hy
            generalize hcc : bx l i = c at *
            generalize hxx : cx s k = x at *
            go_wp2_with fail
            go_quiet (fail)
            go_wp2
            go_roundw
            case rel => exact ⟨k + 1, by omega, by go_num, HP2, _, rfl⟩
            case measure => simp [intOf]; omega
        · obtain rfl : k = 8 := by omega
          have hI : ¬ ((8 : Nat) : Int) < (s.size : Int) := by rw [HS.out.1]; omega
          have HX2 := HX.out HP.out
          clear HP HH HS HX
          by_cases hu : bx l i = 117
          · rw [if_pos hu] at HX2
            have hub : (bx l i != 117) = false := by rw [hu]; rfl
            clear hu
            generalize bx l i = c at *
            have h1 := hf q
            clear hf
            cases hd : unitL l false (i + 1) with
            | error n =>
              rw [hd] at h1 HX2
              simp only [runV] at h1
              have HR : Hid (escL l i = .error n) := HX2
              have hn0 : (0 : Int) < (n : Int) := by have := unitL_error hd; omega
              clear hd HX2 ht hL
              go_wp2_with (go_at_call 85; refine h1.mono ?_; rintro r w' ⟨rfl, q2, rfl⟩)
              go_ret3
              exact ⟨r_pl (by rw [HR.out]; simp [runV]), _, rfl⟩
            | ok r =>
              obtain ⟨x, e⟩ := r
              have hle := unitL_le hd
              have hnl := unitL_not hd
              rw [hd] at h1 HX2
              simp only [runV] at h1
              have hA : escL l i = if 55296 ≤ x ∧ x ≤ 56319 then pairL l e x else .ok (x, e) := HX2
              simp only at hle hnl
              clear HX2
              have hel := hle.2 (by omega)
              obtain ⟨X, hX⟩ : ∃ X : Int, (x : Int) = X := ⟨_, rfl⟩
              have HXe : Hid ((x : Int) = X) := hX
              rw [hX] at h1
              clear hd hle
              by_cases hx1 : x < 55296
              · rw [if_neg (by omega)] at hA
                have HR : Hid (escL l i = .ok (x, e)) := hA
                have hx1I : X < 55296 := by omega
                clear hA ht hL hnl hx1 hX
                go_wp2_with (go_at_call 85; refine h1.mono ?_; rintro r w' ⟨rfl, q2, rfl⟩)
                go_ret3
                exact ⟨r_pl (by rw [HR.out, ← HXe.out]; simp [runV]), _, rfl⟩
              · have hx1I : decide (X < 55296) = false := decide_eq_false (by omega)
                by_cases hx2 : 56319 < x
                · rw [if_neg (by omega)] at hA
                  have HR : Hid (escL l i = .ok (x, e)) := hA
                  have hx2I : 56319 < X := by omega
                  clear hA ht hL hnl hx1 hx2 hX
                  go_wp2_with (go_at_call 85; refine h1.mono ?_; rintro r w' ⟨rfl, q2, rfl⟩)
                  go_ret3
                  exact ⟨r_pl (by rw [HR.out, ← HXe.out]; simp [runV]), _, rfl⟩
                · rw [if_pos (by omega)] at hA
                  have HR : Hid (escL l i = pairL l e x) := hA
                  have hx2I : decide (56319 < X) = false := decide_eq_false (by omega)
                  have hxa : (55296 : Int) ≤ X := by omega
                  have hxb : X ≤ 56319 := by omega
                  clear hA hnl hx1 hx2 hX
                  have heI : (e : Int) ≤ 281474976710656 := by omega
                  go_upto_region 14 with (go_at_call 85; refine h1.mono ?_; rintro r w' ⟨rfl, q2, rfl⟩)
                  go_cut [13] (fun s13 wx => s13 = .string markS ∧ ∃ q, wx = w.drewN q)
                  case first =>
                    clear ht
                    go_wp2_with fail
                    go_meet
                    exact ⟨rfl, _, rfl⟩
                  case rest =>
                    obtain ⟨rfl, q3, rfl⟩ := hcut
                    have HM : Hid (markS.size = 2 ∧ markS.data.toList = [92, 117]) := ⟨rfl, rfl⟩
                    clear hcell hne hub h1 hI
                    generalize markS = m at *
                    go_wp2_with fail
                    go_loopw [14] (fun u wr => ∃ k : Nat, k ≤ 2 ∧ u = .int .i64 (k : Int) ∧ e + k ≤ l.length ∧ Hid (spelledL l (e + k) (m.data.toList.drop k) = spelledL l e m.data.toList) ∧ ∃ q, wr = w.drewN q) (fun u _ => 2 - (intOf u).toNat)
                    case atStart => exact ⟨0, Nat.zero_le _, rfl, by omega, rfl, _, rfl⟩
                    case round =>
                      obtain ⟨k, hk, rfl, hil, HP, q4, rfl⟩ := hrel
                      by_cases hks : k < 2
                      · have hksz : k < m.size := by rw [HM.out.1]; exact hks
                        have hI : (k : Int) < 2 := by omega
                        have hIm : (k : Int) < (m.size : Int) := by omega
                        obtain ⟨c, ec, ecx⟩ := cx_list m k hksz
                        have hx := cx_at m k hksz
                        by_cases hin2 : e + k < l.length
                        · have hcell := hL.cell (e + k) hin2
                          have hne : ((e : Int) + (k : Int) == (l.length : Int)) = false := beq_eq_false_iff_ne.2 (by omega)
                          have hinI : (e : Int) + (k : Int) < (l.length : Int) := by omega
                          have hin0 : (0 : Int) ≤ (e : Int) + (k : Int) := by omega
                          have hnat : ((e : Int) + (k : Int)).toNat = e + k := by omega
                          by_cases he : bx l (e + k) = cx m k
                          · have HR2 : Hid (spelledL l (e + (k + 1)) (m.data.toList.drop (k + 1)) = spelledL l e m.data.toList) := by
                              show _ = _
                              rw [← HP.out, ec, spelledL, ecx, hasAt_in _ hin2, he]; simp; rfl
                            have heq : (bx l (e + k) != cx m k) = false := by rw [he]; simp
                            clear HP ec ecx he ht HR HM
                            generalize bx l (e + k) = y at *
                            generalize cx m k = x2 at *
                            go_wp2_with fail
                            go_quiet (fail)
                            go_wp2
                            go_roundw
                            case rel => exact ⟨k + 1, by omega, by go_num, by omega, HR2, _, rfl⟩
                            case measure => simp [intOf]; omega
                          · have HR2 : Hid (escL l i = .error (e + k + 1)) := by
                              show _ = _
                              rw [HR.out, pairL, ← HM.out.2, ← HP.out, ec, spelledL, ecx, hasAt_in _ hin2, beq_eq_false_iff_ne.2 he]; rfl
                            have heq : (bx l (e + k) != cx m k) = true := by simp only [bne, beq_eq_false_iff_ne.2 he]; rfl
                            clear HP ec ecx he ht HR HM
                            generalize bx l (e + k) = y at *
                            generalize cx m k = x2 at *
                            go_wp2_with fail
                            go_quiet (fail)
                            go_wp2
                            go_ret3
                            exact ⟨r_pl (by rw [HR2.out]; simp [runV]), _, rfl⟩
                        · have HR2 : Hid (escL l i = .error (e + k + 1)) := by
                            show _ = _
                            rw [HR.out, pairL, ← HM.out.2, ← HP.out, ec, spelledL, ecx, hasAt_out _ hin2]; rfl
                          have heq : ((e : Int) + (k : Int) == (l.length : Int)) = true := by
                            have : (e : Int) + (k : Int) = (l.length : Int) := by omega
                            rw [this]; simp
                          clear HP ec ecx hL hx hin2 ht HR HM
                          go_wp2_with fail
                          go_quiet (fail)
                          go_wp2
                          go_ret3
                          exact ⟨r_pl (by rw [HR2.out]; simp [runV]), _, rfl⟩
                      · obtain rfl : k = 2 := by omega
                        have hI : ¬ ((2 : Nat) : Int) < 2 := by omega
                        have HR3 : Hid (escL l i = match unitL l true (e + 2) with
                            | .error n => .error n
                            | .ok r => .ok (65536 + (x - 55296) * 1024 + (r.1 - 56320), r.2)) := by
                          show _ = _
                          have hz : m.data.toList.drop 2 = [] := by rw [HM.out.2]; rfl
                          have hsp : spelledL l e [92, 117] = .ok (e + 2) := by rw [← HM.out.2, ← HP.out, hz]; rfl
                          rw [HR.out, pairL, hsp]
                          show (match unitL l true (e + 2) with | .error n => _ | .ok r => _) = _
                          cases unitL l true (e + 2) <;> rfl
                        have h2 := ht q4 (e + 2) hil
                        have e2 : ((e + 2 : Nat) : Int) = (e : Int) + 2 := by omega
                        rw [e2] at h2
                        clear HP HR HM ht hL e2
                        cases hd : unitL l true (e + 2) with
                        | error n =>
                          rw [hd] at h2 HR3
                          simp only [runV] at h2
                          have hn0 : (0 : Int) < (n : Int) := by have := unitL_error hd; omega
                          clear hd
                          go_wp2_with (go_at_call 85; refine h2.mono ?_; rintro r w' ⟨rfl, q2, rfl⟩)
                          go_ret3
                          exact ⟨r_pl (by rw [HR3.out]; simp [runV]), _, rfl⟩
                        | ok r =>
                          obtain ⟨y, e3⟩ := r
                          have hlo := unitL_low hd
                          rw [hd] at h2 HR3
                          simp only [runV] at h2
                          simp only at HR3 hlo
                          have h3 := fun w => rpair_ok X (y : Int) w hxa hxb (by omega) (by omega)
                          have HV : Hid ((65536 : Int) + (X - 55296) * 1024 + ((y : Int) - 56320) = ((65536 + (x - 55296) * 1024 + (y - 56320) : Nat) : Int)) := by have := HXe.out; show _ = _; omega
                          have HV2 : Hid (escL l i = .ok (65536 + (x - 55296) * 1024 + (y - 56320), e3)) := HR3.out
                          have hbig : (0 : Int) ≤ (65536 : Int) + (X - 55296) * 1024 + ((y : Int) - 56320) ∧ (65536 : Int) + (X - 55296) * 1024 + ((y : Int) - 56320) ≤ 2000000 := by omega
                          clear hd hlo HR3 hxa hxb hx1I hx2I
                          generalize (65536 : Int) + (X - 55296) * 1024 + ((y : Int) - 56320) = z at *
                          generalize 65536 + (x - 55296) * 1024 + (y - 56320) = zn at *
                          go_wp2_with (first | (go_at_call 85; refine h2.mono ?_; rintro r w' ⟨rfl, q2, rfl⟩) | (go_at_call 86; refine (h3 _).mono ?_; rintro r w' ⟨rfl, rfl⟩))
                          go_ret3
                          exact ⟨r_pl (by rw [HV2.out, HV.out]; simp [runV]), _, rfl⟩
          · rw [if_neg hu] at HX2
            have HR : Hid (escL l i = .error (i + 1)) := HX2
            have hub : (bx l i != 117) = true := by simp only [bne, beq_eq_false_iff_ne.2 hu]; rfl
            clear hu HX2 hf ht
            generalize bx l i = c at *
            go_wp2
            go_ret3
            exact ⟨r_pl (by rw [HR.out]; simp [runV]), _, rfl⟩
  · have heq : ((i : Int) == (l.length : Int)) = true := by
      have : (i : Int) = (l.length : Int) := by omega
      rw [this]; simp
    have HR : Hid (escL l i = .error (i + 1)) := by show _ = _; simp [escL, hasAt_out _ hin]
    obtain ⟨a, cap, rfl, _⟩ := hB.shape
    clear hB hin
    go_enter Tryz.func59, Tryz.ntmps59
    go_wp2
    go_ret3
    exact ⟨r_pl (by rw [HR.out]; simp [runV]), 0, rfl⟩
end Go.Proofs.YtlahlnocjfphjaaGreatDoor.Lx

namespace Go.Proofs.YtlahlnocjfphjaaGreatDoor.Lx
open Go.RowKit

theorem goodF_shift2 (len : Nat) (f : Nat → Int) (p : Nat) (hp : p ≤ len) (k : Nat) : ∀ q, goodF len f k (p + q) = (p + (goodF (len - p) (fun i => f (p + i)) k q).1, (goodF (len - p) (fun i => f (p + i)) k q).2) := by
  induction k with
  | zero => intro q; rfl
  | succ k ih =>
    intro q
    simp only [goodF]
    rw [show len - (p + q) = len - p - q by omega]
    have e : (fun i => f (p + q + i)) = fun i => f (p + (q + i)) := by funext i; rw [Nat.add_assoc]
    rw [e]
    by_cases g : len ≤ p + q
    · rw [if_pos g, if_pos (show len - p ≤ q by omega)]
    · rw [if_neg g, if_neg (show ¬ len - p ≤ q by omega)]
      by_cases g2 : (stepF (len - p - q) fun i => f (p + (q + i))).2 = true
      · rw [if_pos g2, if_pos g2, Nat.add_assoc]
        exact ih _
      · rw [if_neg g2, if_neg g2, Nat.add_assoc]
/-- The good beginning of bytes: the first step's, and that of what follows. -/
theorem good_step {t : List UInt8} (h0 : t ≠ []) : goodL t = if (stepF t.length (bx t)).2 = true then ((stepF t.length (bx t)).1 + (goodL (t.drop (stepF t.length (bx t)).1)).1, (goodL (t.drop (stepF t.length (bx t)).1)).2) else ((stepF t.length (bx t)).1, false) := by
  have hl : 0 < t.length := List.length_pos_iff.2 h0
  obtain ⟨k, hk⟩ : ∃ k, t.length = k + 1 := ⟨t.length - 1, by omega⟩
  unfold goodL good
  have e0 : (fun i => bx t (0 + i)) = bx t := by funext i; rw [Nat.zero_add]
  have key : ∀ n, 1 ≤ n → n ≤ t.length → goodF t.length (bx t) k n = (n + (goodF (t.drop n).length (bx (t.drop n)) (t.drop n).length 0).1, (goodF (t.drop n).length (bx (t.drop n)) (t.drop n).length 0).2) := fun n h1 hn => by
    rw [goodF_fuel t.length (bx t) k (t.length - n) n (by omega) (by omega)]
    have := goodF_shift2 t.length (bx t) n hn (t.length - n) 0
    rw [Nat.add_zero] at this
    rw [this, bx_drop, List.length_drop]
  have hs := stepF_le t.length (bx t) hl
  rw [show goodF t.length (bx t) t.length 0 = goodF t.length (bx t) (k + 1) 0 by rw [← hk]]
  simp only [goodF]
  rw [if_neg (by omega), Nat.sub_zero, e0, Nat.zero_add]
  by_cases g : (stepF t.length (bx t)).2 = true
  · rw [if_pos g, if_pos g, key _ (stepF_pos _ _ g) hs]
  · rw [if_neg g, if_neg g]

/-- A step that stands still for others' bytes too, where they agree. -/
theorem step_cut (r r' : Nat) (F G : Nat → Int) (a : Nat) (l : 0 ≤ G 0) (u : G 0 < 256) (h : stepF r F = (a, false)) (h0 : G 0 = F 0) (he : ∀ i, i < a → G i = F i) (har' : a ≤ r')
    (hb : r' ≤ a ∨ folB (G a) = false ∨ (a < r ∧ G a = F a)) : stepF r' G = (a, false) := by
  rcases stepF_false r F a h with ⟨rfl, z⟩ | ⟨a1, a3, ah, s2, s3, hz⟩
  · exact stepF_none r' G (by rw [h0]; exact z)
  · have hp : passed r' G a := by
      refine ⟨fun h2 => ⟨by omega, ?_⟩, fun h3 => ⟨by omega, ?_⟩, fun h4 => by omega⟩
      · rw [h0, he 1 (by omega)]; exact s2 h2
      · rw [he 2 (by omega)]; exact s3 h3
    have hb' : r' ≤ a ∨ folB (G a) = false ∨ okAt G a = false := by
      rcases hb with z | z | ⟨z, z2⟩
      · exact .inl z
      · exact .inr (.inl z)
      · rcases hz with y | ⟨rfl, y⟩ | ⟨rfl, y⟩ | ⟨rfl, y⟩
        · omega
        · exact .inr (.inr (by simp [okAt, h0, z2, y]))
        · exact .inr (.inl (by rw [z2]; exact y))
        · exact .inr (.inl (by rw [z2]; exact y))
    exact stepF_part r' G l u a a1 (by rw [h0]; exact ah) hp hb'

theorem textF_fuel (l : List UInt8) (fr : Nat) (f : Nat) : ∀ (f' i : Nat) (out : List UInt8), i ≤ l.length → l.length + 1 ≤ i + f → l.length + 1 ≤ i + f' → textF l fr f i out = textF l fr f' i out := by
  induction f with
  | zero => intro f' i out h1 h2; omega
  | succ f ih =>
    intro f' i out hi h1 h2
    cases f' with
    | zero => omega
    | succ f' =>
      simp only [textF]
      cases hp : plainL l i with
      | error n => rfl
      | ok e =>
        simp only
        split
        · rfl
        · cases he : escapeL l e with
          | error n => rfl
          | ok r =>
            obtain ⟨t, k⟩ := r
            have a := plainL_le hp
            have b := escapeL_le he
            exact ih f' k _ b.2.1 (by omega) (by omega)

/-- A string from a place within it on, with what stands ahead. -/
def textT (l : List UInt8) (fr i : Nat) (out : List UInt8) : Tk := textF l fr (l.length + 1) i out
theorem sub_self (l : List UInt8) (i : Nat) : sub l i i = [] := by simp [sub]
theorem sub_cat {l : List UInt8} {i m e : Nat} (h : i + m ≤ e) : sub l i (i + m) ++ sub l (i + m) e = sub l i e := by
  unfold sub
  rw [show i + m - i = m by omega, ← List.drop_drop, show e - i = m + (e - (i + m)) by omega, List.take_add]
theorem sub_drop {l : List UInt8} {i m e : Nat} : (sub l i e).drop m = sub l (i + m) e := by
  unfold sub
  rw [List.drop_take, List.drop_drop, show e - i - m = e - (i + m) by omega]
theorem plainL_none {l : List UInt8} {i : Nat} (h : hasAt l i plainB = false) : plainL l i = .ok i := by
  unfold plainL
  rw [pass_stop h, sub_self]
  rfl
theorem textT_stop {l : List UInt8} {fr i : Nat} {out : List UInt8} (h : hasAt l i plainB = false) : textT l fr i out = if hasAt l i (· == 34) = true then .ok ⟨1, out, fr, i + 1⟩ else match escapeL l i with
    | .error n => .error n
    | .ok r => textT l fr r.2 (out ++ r.1) := by
  unfold textT
  conv => lhs; rw [textF]
  rw [plainL_none h]
  simp only [sub_self, List.append_nil]
  split
  · rfl
  · cases he : escapeL l i with
    | error n => rfl
    | ok r =>
      obtain ⟨t, k⟩ := r
      have b := escapeL_le he
      exact textF_fuel l fr _ _ _ _ b.2.1 (by omega) (by omega)
theorem textT_end (l : List UInt8) (fr : Nat) (out : List UInt8) : textT l fr l.length out = .error (l.length + 1) := by
  rw [textT_stop (hasAt_out _ (by omega)), hasAt_out _ (by omega)]
  simp [escapeL, hasAt_out]
theorem textT_quote {l : List UInt8} {fr i : Nat} {out : List UInt8} (hi : i < l.length) (h : bx l i = 34) : textT l fr i out = .ok ⟨1, out, fr, i + 1⟩ := by
  rw [textT_stop (by rw [hasAt_in _ hi, h]; rfl), hasAt_in _ hi, h]
  rfl
theorem textT_low {l : List UInt8} {fr i : Nat} {out : List UInt8} (hi : i < l.length) (h : bx l i < 32) : textT l fr i out = .error (i + 1) := by
  rw [textT_stop (by rw [hasAt_in _ hi]; simp [plainB]; omega), hasAt_in _ hi]
  have a : ¬ bx l i = 34 := by omega
  have b : ¬ bx l i = 92 := by omega
  simp [escapeL, hasAt_in _ hi, a, b]
theorem textT_back {l : List UInt8} {fr i : Nat} {out : List UInt8} (hi : i < l.length) (h : bx l i = 92) : textT l fr i out = match escapeL l i with
    | .error n => .error n
    | .ok r => textT l fr r.2 (out ++ r.1) := by
  rw [textT_stop (by rw [hasAt_in _ hi, h]; rfl), hasAt_in _ hi, h]
  rfl
theorem pass_far {l : List UInt8} {p : Int → Bool} {i : Nat} (m : Nat) (h : i + m ≤ pass l p i) (hl : pass l p i ≤ l.length) : pass l p (i + m) = pass l p i := by
  induction m with
  | zero => rfl
  | succ m ih =>
    have e := ih (by omega)
    have : hasAt l (i + m) p = true := by
      rw [hasAt_in _ (by omega)]
      exact pass_all (i := i) (by omega) (by omega)
    rw [← e, pass_go this]
    rfl
/-- The step that begins at a place. -/
def stepL (l : List UInt8) (i : Nat) : Nat × Bool := stepF (l.length - i) fun j => bx l (i + j)
theorem textT_step {l : List UInt8} {fr i : Nat} {out : List UInt8} (hi : i < l.length) (h : plainB (bx l i) = true) : textT l fr i out = if (stepL l i).2 = true then textT l fr (i + (stepL l i).1) (out ++ sub l i (i + (stepL l i).1)) else .error (i + (stepL l i).1 + 1) := by
  have hg : hasAt l i plainB = true := by rw [hasAt_in _ hi]; exact h
  have he1 : i + 1 ≤ pass l plainB i := by rw [pass_go hg]; exact pass_ge _ _ _
  have hel : pass l plainB i ≤ l.length := pass_le (by omega)
  have hend := pass_end l plainB i
  have hfar := fun m hm => pass_far (l := l) (p := plainB) (i := i) m hm hel
  have hpl : plainL l i = if (goodL (sub l i (pass l plainB i))).2 = true then .ok (pass l plainB i) else .error (i + (goodL (sub l i (pass l plainB i))).1 + 1) := rfl
  have hpf : ∀ m, plainL l (i + m) = if (goodL (sub l (i + m) (pass l plainB (i + m)))).2 = true then .ok (pass l plainB (i + m)) else .error (i + m + (goodL (sub l (i + m) (pass l plainB (i + m)))).1 + 1) := fun m => rfl
  generalize pass l plainB i = e at *
  have hlen := sub_length (l := l) (a := i) (e := e) (by omega) hel
  have hne : sub l i e ≠ [] := by intro h; rw [h] at hlen; simp at hlen; omega
  have hgs := good_step hne
  have hbx : ∀ j, j < e - i → bx (sub l i e) j = bx l (i + j) := fun j hj => bx_sub hj
  rw [hlen] at hgs
  have hsle := stepF_le (e - i) (bx (sub l i e)) (by omega)
  unfold stepL
  cases hst : stepF (e - i) (bx (sub l i e)) with
  | mk m ok =>
    rw [hst] at hgs hsle
    simp only at hgs hsle
    cases ok
    · rw [if_neg (by simp)] at hgs
      rw [hgs, if_neg (by simp)] at hpl
      have hs : stepF (l.length - i) (fun j => bx l (i + j)) = (m, false) := by
        refine step_cut (e - i) (l.length - i) (bx (sub l i e)) _ m (bx_lo _ _) (bx_hi _ _) hst (hbx 0 (by omega)).symm (fun j hj => (hbx j (by omega)).symm) (by omega) ?_
        by_cases hme : m < e - i
        · exact .inr (.inr ⟨hme, (hbx m hme).symm⟩)
        · by_cases hll : e < l.length
          · refine .inr (.inl ?_)
            rw [hasAt_in _ hll] at hend
            show folB (bx l (i + m)) = false
            rw [show i + m = e by omega]
            simp [plainB] at hend
            simp [folB]
            omega
          · exact .inl (by omega)
      rw [hs]
      unfold textT
      conv => lhs; rw [textF]
      rw [hpl]
      rfl
    · rw [if_pos rfl, sub_drop] at hgs
      have hs : stepF (l.length - i) (fun j => bx l (i + j)) = (m, true) :=
        step_good (e - i) (l.length - i) (bx (sub l i e)) _ m (fun _ => bx_lo _ _) (fun _ => bx_hi _ _) hst (by omega) (fun j hj => (hbx j (by omega)).symm)
      rw [hs]
      have hf := hfar m (by omega)
      have hpm := hpf m
      rw [hf] at hpm
      rw [hgs] at hpl
      simp only at hpl
      unfold textT
      rw [if_pos rfl]
      conv => lhs; rw [textF]
      conv => rhs; rw [textF]
      rw [hpl, hpm]
      by_cases g : (goodL (sub l (i + m) e)).2 = true
      · rw [if_pos g, if_pos g]
        simp only
        rw [List.append_assoc out, sub_cat (by omega)]
      · rw [if_neg g, if_neg g]
        simp only
        rw [Nat.add_assoc i m]

/-- Ever longer beginnings of what begins at a place. -/
theorem good_one (k : Nat) (f : Nat → Int) (n : Nat) (h : stepF k f = (n, false)) (hk : 1 ≤ k) : good k f = (n, false) := by
  obtain ⟨j, rfl⟩ : ∃ j, k = j + 1 := ⟨k - 1, by omega⟩
  unfold good
  simp only [goodF]
  rw [if_neg (by omega), Nat.sub_zero]
  have e0 : (fun i => f (0 + i)) = f := by funext i; rw [Nat.zero_add]
  rw [e0, h, if_neg (by simp), Nat.zero_add]
theorem good_all (k : Nat) (f : Nat → Int) (h : stepF k f = (k, true)) (hk : 1 ≤ k) : good k f = (k, true) := by
  obtain ⟨j, rfl⟩ : ∃ j, k = j + 1 := ⟨k - 1, by omega⟩
  unfold good
  simp only [goodF]
  rw [if_neg (by omega), Nat.sub_zero]
  have e0 : (fun i => f (0 + i)) = f := by funext i; rw [Nat.zero_add]
  rw [e0, h, if_pos rfl, Nat.zero_add]
  simp only
  cases j with
  | zero => rfl
  | succ j => simp only [goodF]; rw [if_pos (by omega)]
/-- What the bytes ahead of a step's end are. -/
theorem step_ahead (r : Nat) (f : Nat → Int) (m : Nat) (ok : Bool) (h : stepF r f = (m, ok)) (h0 : 0 ≤ f 0) (h1 : f 0 < 256) (hr : 0 < r) : m ≤ 4 ∧ m ≤ r ∧ ∀ j, 1 ≤ j → j < m → folB (f j) = true ∧ 192 ≤ f 0 := by
  have a := stepF_le4 r f
  have b := stepF_le r f hr
  rw [h] at a b
  refine ⟨a, b, ?_⟩
  cases ok
  · rcases stepF_false r f m h with ⟨rfl, _⟩ | ⟨a1, a3, ah, s2, s3, _⟩
    · intro j hj hj2; omega
    · intro j hj hj2
      have hc : 192 ≤ f 0 := by
        unfold stN at ah; repeat' split at ah
        all_goals omega
      have : j = 1 ∨ j = 2 := by omega
      rcases this with rfl | rfl
      · exact ⟨secB_fol _ _ (s2 (by omega)), hc⟩
      · exact ⟨s3 (by omega), hc⟩
  · rcases step_bytes r f m h with ⟨rfl, _⟩ | ⟨rfl, _, c1, _, d1, d2⟩ | ⟨rfl, _, c1, _, d1, d2, _, _, e1, e2⟩ | ⟨rfl, _, c1, _, d1, d2, _, _, e1, e2, g1, g2⟩
    · intro j hj hj2; omega
    · intro j hj hj2
      obtain rfl : j = 1 := by omega
      exact ⟨(folB_iff _).2 ⟨d1, d2⟩, by omega⟩
    · intro j hj hj2
      have : j = 1 ∨ j = 2 := by omega
      rcases this with rfl | rfl
      · exact ⟨(folB_iff _).2 ⟨d1, d2⟩, by omega⟩
      · exact ⟨(folB_iff _).2 ⟨e1, e2⟩, by omega⟩
    · intro j hj hj2
      have : j = 1 ∨ j = 2 ∨ j = 3 := by omega
      rcases this with rfl | rfl | rfl
      · exact ⟨(folB_iff _).2 ⟨d1, d2⟩, by omega⟩
      · exact ⟨(folB_iff _).2 ⟨e1, e2⟩, by omega⟩
      · exact ⟨(folB_iff _).2 ⟨g1, g2⟩, by omega⟩
theorem try_lt (r : Nat) (f : Nat → Int) (m k : Nat) (h : stepF r f = (m, true)) (h0 : 0 ≤ f 0) (h1 : f 0 < 256) (hk : 1 ≤ k) (hm : k < m) : good k f = (k, false) := by
  refine good_one k f k ?_ hk
  rcases stepF_true r f m h with ⟨rfl, _⟩ | ⟨rfl, z, _, s⟩ | ⟨rfl, z, _, s, t⟩ | ⟨rfl, z0, z1, z2, z3, _, s, t, v⟩
  · omega
  · exact stepF_part k f h0 h1 k hk (by omega) ⟨by omega, by omega, by omega⟩ (.inl (Nat.le_refl _))
  · exact stepF_part k f h0 h1 k hk (by omega) ⟨fun _ => ⟨by omega, s⟩, by omega, by omega⟩ (.inl (Nat.le_refl _))
  · have := stN_range (f 0)
    exact stepF_part k f h0 h1 k hk (by omega) ⟨fun _ => ⟨by omega, s⟩, fun _ => ⟨by omega, t⟩, by omega⟩ (.inl (Nat.le_refl _))
theorem try_eq (r : Nat) (f : Nat → Int) (m : Nat) (h : stepF r f = (m, true)) (l : ∀ i, 0 ≤ f i) (u : ∀ i, f i < 256) : good m f = (m, true) := by
  have hp := stepF_pos r f (by rw [h])
  rw [h] at hp
  exact good_all m f (step_good r m f f m l u h (Nat.le_refl _) (fun _ _ => rfl)) hp
theorem try_bad (r : Nat) (f : Nat → Int) (m k : Nat) (h : stepF r f = (m, false)) (h0 : 0 ≤ f 0) (h1 : f 0 < 256) (hk : 1 ≤ k) (hr : k ≤ r) : good k f = (min k m, false) := by
  refine good_one k f _ ?_ hk
  by_cases hm : k ≤ m
  · rw [Nat.min_eq_left hm]
    rcases stepF_false r f m h with ⟨rfl, _⟩ | ⟨a1, a3, ah, s2, s3, _⟩
    · omega
    · exact stepF_part k f h0 h1 k hk (by omega) ⟨fun _ => ⟨by omega, s2 (by omega)⟩, fun _ => ⟨by omega, s3 (by omega)⟩, by omega⟩ (.inl (Nat.le_refl _))
  · rw [Nat.min_eq_right (by omega)]
    exact step_cut r k f f m h0 h1 h rfl (fun _ _ => rfl) (by omega) (.inr (.inr ⟨by omega, rfl⟩))
end Go.Proofs.YtlahlnocjfphjaaGreatDoor.Lx

namespace Go.Proofs.YtlahlnocjfphjaaGreatDoor.Lx
open Go.RowKit

set_option maxHeartbeats 400000 in
theorem rlength_any (c : Int) (w : World) :
    Calls Tryz.prog 109 #[.int .u8 c] w fun e w' => e = .returned (.int .i64 (stN c)) ∧ w = w' := by
  go_enter Tryz.func109, Tryz.ntmps109
  go_wp2
  all_goals go_ret
  all_goals refine ⟨ret_int ?_, rfl⟩
  all_goals unfold stN
  all_goals repeat' split
  all_goals omega

theorem secB_mk (c d : Int) (x : Bool) (lo hi : Int) (h1 : (if c = 224 then (160 : Int) else if c = 240 then 144 else 128) = lo) (h2 : (if c = 237 then (159 : Int) else if c = 244 then 143 else 191) = hi)
    (h : x = true ↔ (lo ≤ d ∧ d ≤ hi)) : x = secB c d := by
  rw [Bool.eq_iff_iff, h, secB_iff, h1, h2]

set_option maxHeartbeats 400000 in
theorem second_any (c d : Int) (w : World) :
    Calls Tryz.prog 110 #[.int .u8 c, .int .u8 d] w fun e w' => e = .returned (.bool (secB c d)) ∧ w = w' := by
  by_cases h1 : c = 224
  · subst h1
    go_enter Tryz.func110, Tryz.ntmps110
    go_wp2
    all_goals go_ret
    all_goals refine ⟨ret_bool (secB_mk 224 d _ 160 191 rfl rfl ?_), rfl⟩
    all_goals (try simp only [decide_eq_true_iff, Bool.false_eq_true, false_iff])
    all_goals omega
  · by_cases h2 : c = 237
    · subst h2
      go_enter Tryz.func110, Tryz.ntmps110
      go_wp2
      all_goals go_ret
      all_goals refine ⟨ret_bool (secB_mk 237 d _ 128 159 rfl rfl ?_), rfl⟩
      all_goals (try simp only [decide_eq_true_iff, Bool.false_eq_true, false_iff])
      all_goals omega
    · by_cases h3 : c = 240
      · subst h3
        go_enter Tryz.func110, Tryz.ntmps110
        go_wp2
        all_goals go_ret
        all_goals refine ⟨ret_bool (secB_mk 240 d _ 144 191 rfl rfl ?_), rfl⟩
        all_goals (try simp only [decide_eq_true_iff, Bool.false_eq_true, false_iff])
        all_goals omega
      · by_cases h4 : c = 244
        · subst h4
          go_enter Tryz.func110, Tryz.ntmps110
          go_wp2
          all_goals go_ret
          all_goals refine ⟨ret_bool (secB_mk 244 d _ 128 143 rfl rfl ?_), rfl⟩
          all_goals (try simp only [decide_eq_true_iff, Bool.false_eq_true, false_iff])
          all_goals omega
        · have k1 : (c == 224) = false := by simpa using h1
          have k2 : (c == 237) = false := by simpa using h2
          have k3 : (c == 240) = false := by simpa using h3
          have k4 : (c == 244) = false := by simpa using h4
          have HM : Hid (∀ x : Bool, (x = true ↔ (128 ≤ d ∧ d ≤ 191)) → x = secB c d) := fun x h => secB_mk c d x 128 191 (by rw [if_neg h1, if_neg h3]) (by rw [if_neg h2, if_neg h4]) h
          clear h1 h2 h3 h4
          go_enter Tryz.func110, Tryz.ntmps110
          go_wp2
          all_goals go_ret
          all_goals refine ⟨ret_bool (HM.out _ ?_), rfl⟩
          all_goals (try simp only [decide_eq_true_iff, Bool.false_eq_true, false_iff])
          all_goals omega

set_option maxHeartbeats 1000000 in
theorem rstep_any (b off len cap p : Nat) (f : Nat → Int) (w : World) (hL : Lies w b off len f) (hp : p < len) (hm : len ≤ maxLen) :
    Calls Tryz.prog 90 #[.slice (some ⟨b, off, none⟩) len cap, .int .i64 (p : Int)] w fun e w' => e = .returned (.tuple #[.int .i64 ((stepF (len - p) fun i => f (p + i)).1 : Nat), .bool (stepF (len - p) fun i => f (p + i)).2]) ∧ w = w' := by
  unfold maxLen at hm
  have c0 : w.cell? ⟨b, off + p, none⟩ = some (.int .u8 (f p)) := hL.cell p hp
  have hpI : (p : Int) < (len : Int) := by omega
  have hl := fun w => rlength_any (f p) w
  by_cases hz : stN (f p) = 0
  · have hs := stepF_none (len - p) (fun i => f (p + i)) hz
    rw [hs]
    rw [hz] at hl
    clear hs hz
    go_enter Tryz.func90, Tryz.ntmps90
    go_wp2_with (go_at_call 109; refine (hl _).mono ?_; rintro e w' ⟨rfl, rfl⟩)
    go_ret2
    exact ⟨rfl, rfl⟩
  · have b0 := hL.lo p
    have b1 := hL.hi p
    obtain ⟨z1, n1, n4, z2⟩ := first_good (f p) b0 b1 hz
    clear z1 z2
    obtain ⟨n, hn⟩ : ∃ n : Nat, (n : Int) = stN (f p) := ⟨(stN (f p)).toNat, by omega⟩
    rw [← hn] at hl n1 n4
    have HN : Hid ((n : Int) = stN ((fun i => f (p + i)) 0)) := hn
    have HZ : Hid (stN ((fun i => f (p + i)) 0) ≠ 0) := hz
    have HP := stepF_part (len - p) (fun i => f (p + i)) b0 b1
    have HW := stepF_whole (len - p) (fun i => f (p + i)) b0 b1 HZ.out
    have hne : ((n : Int) == 0) = false := by simp; omega
    have hsec := fun d w => second_any (f p) d w
    have HPN := passed_next (len - p) (fun i => f (p + i))
    clear hn hz
    generalize hS : stepF (len - p) (fun i => f (p + i)) = S at *
    go_enter Tryz.func90, Tryz.ntmps90
    go_wp2_with (go_at_call 109; refine (hl _).mono ?_; rintro e w' ⟨rfl, rfl⟩)
    go_loop [7] (fun i => ∃ j : Nat, 1 ≤ j ∧ j ≤ n ∧ i = .int .i64 j ∧ Hid (passed (len - p) (fun i => f (p + i)) j)) (fun i => n - (intOf i).toNat)
    case atStart => exact ⟨1, by omega, by omega, rfl, passed_one _ _⟩
    case round =>
      obtain ⟨j, hj1, hjn, rfl, HJ⟩ := hrel
      by_cases hlt : j < n
      · have hjs : (j : Int) < stN ((fun i => f (p + i)) 0) := by rw [← HN.out]; omega
        by_cases hle : p + j < len
        · have cj : w.cell? ⟨b, off + (p + j), none⟩ = some (.int .u8 (f (p + j))) := hL.cell (p + j) hle
          have hle' : (p : Int) + (j : Int) < (len : Int) := by omega
          have hne' : ((p : Int) + (j : Int) == (len : Int)) = false := by simp; omega
          by_cases hj : j = 1
          · subst hj
            have ga : (p : Int) + 1 < (len : Int) := by omega
            have gb : ((p : Int) + 1 == (len : Int)) = false := by simp; omega
            have gc : (1 : Int) < (n : Int) := by omega
            clear hle' hne'
            cases hs : secB (f p) (f (p + 1))
            · have HF : Hid (S = (1, false)) := by
                show S = _
                rw [HP 1 (by omega) hjs HJ.out (.inr (.inr (by simpa [okAt] using hs)))]
              have h2 := hsec (f (p + 1))
              rw [hs] at h2
              clear hs HP HW HPN hjs
              go_wp2_with (go_at_call 110; refine (h2 _).mono ?_; rintro e w' ⟨rfl, rfl⟩)
              go_ret2
              exact ⟨ret_ib (by rw [HF.out]; rfl) (by rw [HF.out]), rfl⟩
            · have HF : Hid (passed (len - p) (fun i => f (p + i)) 2) := HPN 1 (by omega) (by omega) (secB_fol _ _ hs) (by simpa [okAt] using hs) HJ.out
              have h2 := hsec (f (p + 1))
              rw [hs] at h2
              clear hs HP HW HPN hjs
              go_wp2_with (go_at_call 110; refine (h2 _).mono ?_; rintro e w' ⟨rfl, rfl⟩)
              go_round
              case rel => exact ⟨2, by omega, by omega, rfl, HF⟩
              case measure => simp [intOf]; omega
          · have hj2 : (1 : Int) < (j : Int) := by omega
            have hjE : ((j : Int) == 1) = false := by simp; omega
            have hok : okAt (fun i => f (p + i)) j = true := by simp [okAt, hj]
            by_cases k1 : f (p + j) < 128
            · have HF : Hid (S = (j, false)) := by
                show S = _
                rw [HP j hj1 hjs HJ.out (.inr (.inl (by rw [← Bool.not_eq_true, folB_iff]; omega)))]
              clear HP HW HPN hjs hok
              go_wp2
              go_ret2
              exact ⟨ret_ib (by rw [HF.out]) (by rw [HF.out]), rfl⟩
            · by_cases k2 : 191 < f (p + j)
              · have HF : Hid (S = (j, false)) := by
                  show S = _
                  rw [HP j hj1 hjs HJ.out (.inr (.inl (by rw [← Bool.not_eq_true, folB_iff]; omega)))]
                clear HP HW HPN hjs hok
                go_wp2
                go_ret2
                exact ⟨ret_ib (by rw [HF.out]) (by rw [HF.out]), rfl⟩
              · have HF : Hid (passed (len - p) (fun i => f (p + i)) (j + 1)) := HPN j hj1 (by omega) (by rw [folB_iff]; omega) hok HJ.out
                clear HP HW HPN hjs hok
                go_wp2
                go_round
                case rel => exact ⟨j + 1, by omega, by omega, by go_num, HF⟩
                case measure => simp [intOf]; omega
        · have HF : Hid (S = (j, false)) := by
            show S = _
            rw [HP j hj1 hjs HJ.out (.inl (by omega))]
          have hjl : ((p : Int) + (j : Int) == (len : Int)) = true := by
            obtain ⟨q2, q3, q4⟩ := HJ.out
            simp; omega
          have hub : p + j ≤ len := by
            obtain ⟨q2, q3, q4⟩ := HJ.out
            omega
          clear HP HW HPN hjs
          go_wp2
          go_ret2
          exact ⟨ret_ib (by rw [HF.out]) (by rw [HF.out]), rfl⟩
      · have e : j = n := by omega
        subst e
        have HF : Hid (S = (j, true)) := by
          show S = _
          rw [HW j HN.out HJ.out]
        clear HP HW HPN
        go_wp2
        go_ret2
        exact ⟨ret_ib (by rw [HF.out]) (by rw [HF.out]), rfl⟩
end Go.Proofs.YtlahlnocjfphjaaGreatDoor.Lx

namespace Go.Proofs.YtlahlnocjfphjaaGreatDoor.Lx
open Go.RowKit

set_option maxHeartbeats 400000 in
theorem rgood_some (b off len cap : Nat) (f : Nat → Int) (w : World) (hL : Lies w b off len f) (hc : len ≤ cap) (hm : cap ≤ maxLen) :
    Calls Tryz.prog 61 #[.slice (some ⟨b, off, none⟩) len cap] w fun e w' => e = .returned (.tuple #[.int .i64 ((good len f).1 : Nat), .bool (good len f).2]) ∧ w = w' := by
  unfold maxLen at hm
  go_enter Tryz.func61, Tryz.ntmps61
  go_wp2
  go_loop [4] (fun t => ∃ p k : Nat, p ≤ len ∧ t = .int .i64 p ∧ len ≤ p + k ∧ Hid (goodF len f k p = good len f)) (fun t => len - (intOf t).toNat)
  case atStart => exact ⟨0, len, by omega, rfl, by omega, (rfl : goodF len f len 0 = good len f)⟩
  case round =>
    obtain ⟨p, k, hp, rfl, hk, HG⟩ := hrel
    by_cases hlt : p < len
    · obtain ⟨k', rfl⟩ : ∃ k', k = k' + 1 := ⟨k - 1, by omega⟩
      have hb := rstep_any b off len cap p f w hL hlt (by unfold maxLen; omega)
      have s1 := stepF_le (len - p) (fun i => f (p + i)) (by omega)
      have hG := HG.out
      clear HG
      unfold goodF at hG
      rw [if_neg (by omega)] at hG
      have s2 := stepF_pos (len - p) (fun i => f (p + i))
      generalize stepF (len - p) (fun i => f (p + i)) = s at *
      obtain ⟨a, t⟩ := s
      cases t
      · have hF : (p + a, false) = good len f := by simpa using hG
        have HF : Hid ((p + a, false) = good len f) := hF
        clear hF hG s2
        go_wp2_with (go_at_call 90; refine hb.mono ?_; rintro e w' ⟨rfl, rfl⟩)
        go_ret2
        exact ⟨ret_ib (by rw [← HF.out]; rfl) (by rw [← HF.out]), rfl⟩
      · have hF : goodF len f k' (p + a) = good len f := by simpa using hG
        have HF : Hid (goodF len f k' (p + a) = good len f) := hF
        have s3 : 1 ≤ a := s2 rfl
        have s4 : a ≤ len - p := s1
        clear hF hG s2 s1
        go_wp2_with (go_at_call 90; refine hb.mono ?_; rintro e w' ⟨rfl, rfl⟩)
        go_round
        case rel => exact ⟨p + a, k', by omega, by go_num, by omega, HF⟩
        case measure => simp [intOf]; omega
    · have e : p = len := by omega
      subst e
      have HF : Hid ((p, true) = good p f) := by
        have := HG.out
        cases k
        · exact this
        · unfold goodF at this; rw [if_pos (by omega)] at this; exact this
      clear HG
      go_wp2
      go_ret2
      exact ⟨ret_ib (by rw [← HF.out]) (by rw [← HF.out]), rfl⟩

set_option maxHeartbeats 400000 in
theorem rgood_any (v : Value) (len : Nat) (f : Nat → Int) (w : World) (hR : Row w v len f) :
    Calls Tryz.prog 61 #[v] w fun e w' => e = .returned (.tuple #[.int .i64 ((good len f).1 : Nat), .bool (good len f).2]) ∧ w = w' := by
  rcases hR with ⟨rfl, a, cap, rfl, _⟩ | ⟨b, off, cap, rfl, hc, hm, hL⟩
  · go_enter Tryz.func61, Tryz.ntmps61
    go_wp2
    refine wp_loop_rounds 1 ?_
    rw [rounds_succ]
    go_wp2
    go_ret2
    exact ⟨rfl, rfl⟩
  · exact rgood_some b off len cap f w hL hc hm

theorem i64_or_add (X Y : Int) (i : Nat) (h0 : 0 ≤ X) (h1 : 0 ≤ Y) (hx : X.toNat % 2 ^ i = 0) (hy : Y.toNat < 2 ^ i) (hs : X + Y < 4611686018427387904) : bits .or .i64 X Y = X + Y := by
  obtain ⟨a, rfl⟩ := Int.eq_ofNat_of_zero_le h0
  obtain ⟨b, rfl⟩ := Int.eq_ofNat_of_zero_le h1
  have := i64_or_nat a b i (by simpa using hx) (by simpa using hy) (by omega)
  simpa using this
theorem i64_and31 (x : Int) (h0 : 0 ≤ x) (h : x < 4611686018427387904) : bits .and .i64 x 31 = x % 32 := by
  obtain ⟨a, rfl⟩ := Int.eq_ofNat_of_zero_le h0
  show IntKind.i64.wrap ((BitVec.ofInt 64 (a : Int) &&& BitVec.ofInt 64 ((31 : Nat) : Int)).toNat : Int) = _
  rw [BitVec.toNat_and, ofInt_u64 a (by omega), ofInt_u64 31 (by omega), nat_mask5]
  rw [Lib.wrap_i64_small _ (by omega)]
  omega
theorem i64_and15 (x : Int) (h0 : 0 ≤ x) (h : x < 4611686018427387904) : bits .and .i64 x 15 = x % 16 := by
  obtain ⟨a, rfl⟩ := Int.eq_ofNat_of_zero_le h0
  show IntKind.i64.wrap ((BitVec.ofInt 64 (a : Int) &&& BitVec.ofInt 64 ((15 : Nat) : Int)).toNat : Int) = _
  rw [BitVec.toNat_and, ofInt_u64 a (by omega), ofInt_u64 15 (by omega), nat_mask4]
  rw [Lib.wrap_i64_small _ (by omega)]
  omega
theorem i64_and7 (x : Int) (h0 : 0 ≤ x) (h : x < 4611686018427387904) : bits .and .i64 x 7 = x % 8 := by
  obtain ⟨a, rfl⟩ := Int.eq_ofNat_of_zero_le h0
  show IntKind.i64.wrap ((BitVec.ofInt 64 (a : Int) &&& BitVec.ofInt 64 ((7 : Nat) : Int)).toNat : Int) = _
  rw [BitVec.toNat_and, ofInt_u64 a (by omega), ofInt_u64 7 (by omega), nat_mask3]
  rw [Lib.wrap_i64_small _ (by omega)]
  omega
end Go.Proofs.YtlahlnocjfphjaaGreatDoor.Lx

namespace Go.Proofs.YtlahlnocjfphjaaGreatDoor.Lx
open Go.RowKit
attribute [local go_sem] setCell_drewN alloc_drewN

/-- A string and a place, or the bad length, as the document's answer returns them. -/
def rtxV : Tk → Value
  | .ok t => .tuple #[.string ⟨t.text.toArray⟩, .int .i64 t.to, .int .i64 0]
  | .error n => .tuple #[.string ⟨#[]⟩, .int .i64 0, .int .i64 n]

theorem escL_pt {l : List UInt8} {i p k : Nat} (h : escL l i = .ok (p, k)) : ptB (p : Int) = true ∧ p ≤ 1114111 := by
  unfold escL at h
  split at h
  · have e := (Prod.mk.inj (Except.ok.inj h)).1
    have hv : meanV (bx l i) < 128 ∧ 0 ≤ meanV (bx l i) := by
      unfold meanV
      repeat' split
      all_goals omega
    exact ⟨(ptB_iff _).2 (by omega), by omega⟩
  · split at h
    · cases hu : unitL l false (i + 1) with
      | error n => rw [hu] at h; cases h
      | ok r =>
        rw [hu] at h
        simp only [afterU] at h
        have a := unitL_not hu
        split at h
        · rename_i g
          have b := pairL_le h g.1 g.2
          simp only at b
          exact ⟨(ptB_iff _).2 (by omega), b.2.1⟩
        · have e := Except.ok.inj h
          rw [e] at a
          rename_i g
          rw [e] at g
          simp only at a g
          exact ⟨(ptB_iff _).2 (by omega), by omega⟩
    · cases h
theorem pairL_error {l : List UInt8} {i high n : Nat} (h : pairL l i high = .error n) : 0 < n := by
  unfold pairL at h
  cases hs : spelledL l i [92, 117] with
  | error m => rw [hs] at h; exact Except.error.inj h ▸ spelledL_error _ hs
  | ok j =>
    rw [hs] at h
    simp only at h
    cases hu : unitL l true j with
    | error m => rw [hu] at h; exact Except.error.inj h ▸ unitL_error hu
    | ok r => rw [hu] at h; cases h
theorem escL_error {l : List UInt8} {i n : Nat} (h : escL l i = .error n) : 0 < n := by
  unfold escL at h
  split at h
  · cases h
  · split at h
    · cases hu : unitL l false (i + 1) with
      | error m => rw [hu] at h; exact Except.error.inj h ▸ unitL_error hu
      | ok r =>
        rw [hu] at h
        simp only [afterU] at h
        split at h
        · exact pairL_error h
        · cases h
    · have := Except.error.inj h; omega
theorem own_put {w : World} {base : Nat} {v : Value} {out : List UInt8} {p : Nat} (hp : p ≤ 1114111) (h : w.ownsRow base 5 1 v (out.length + encN p) (vals (out.length + encN p) (catF out.length (bx out) (encF p)))) : w.ownsRow base 5 1 v (out ++ encL p).length (cellsL (out ++ encL p)) := by
  refine own_cat (n := out.length) (m := encN p) rfl (encL_length p).symm ?_
  have e : vals (encN p) (encF p) = vals (encN p) (bx (encL p)) := by
    unfold vals
    apply List.map_congr_left
    intro i hi
    rw [bx_enc p hp i (List.mem_range.1 hi)]
  rw [← vals_cat, vals_bx, e] at h
  exact h
theorem byt_lies {w : World} {b off cap : Nat} {l : List UInt8} (h : Byt w (.slice (some ⟨b, off, none⟩) l.length cap) l) (h0 : 0 < l.length) : Lies w b off l.length (bx l) ∧ l.length ≤ cap ∧ cap ≤ maxLen := by
  rcases h with ⟨h, _⟩ | ⟨b2, off2, cap2, e, hc, hm, hL⟩
  · omega
  · simp only [Value.slice.injEq, Option.some.injEq, Addr.mk.injEq, and_true, true_and] at e
    obtain ⟨⟨rfl, rfl⟩, rfl⟩ := e
    exact ⟨hL, hc, hm⟩
/-- What the tries of ever longer beginnings have come to. -/
def tried (m : Nat) (ok : Bool) (k x : Nat) (o : Bool) : Prop :=
  (ok = false → o = false ∧ x = min (k - 1) m) ∧ (ok = true → (k ≤ m ∧ o = false ∧ x = k - 1) ∨ (k = m + 1 ∧ o = true ∧ x = m))
theorem tried_end {m n k x : Nat} {ok o : Bool} (h : tried m ok k x o) (hmn : m ≤ n) (hk : k = n + 1 ∨ o = true) : x = m ∧ o = ok := by
  cases ok
  · have a := h.1 rfl
    rcases hk with hk | hk
    · exact ⟨by omega, a.1⟩
    · rw [a.1] at hk; cases hk
  · rcases h.2 rfl with ⟨a, b, c⟩ | ⟨a, b, c⟩
    · rcases hk with hk | hk
      · omega
      · rw [b] at hk; cases hk
    · exact ⟨c, b⟩
theorem tried_next {r m n k x : Nat} {ok : Bool} {f : Nat → Int} (h : tried m ok k x false) (hs : stepF r f = (m, ok)) (l : ∀ i, 0 ≤ f i) (u : ∀ i, f i < 256) (hk : 1 ≤ k) (hkn : k ≤ n) (hn : n ≤ r) : ∃ x2 o2, good k f = (x2, o2) ∧ tried m ok (k + 1) x2 o2 := by
  cases ok
  · exact ⟨_, _, try_bad r f m k hs (l 0) (u 0) hk (by omega), ⟨fun _ => ⟨rfl, by omega⟩, fun h => by cases h⟩⟩
  · rcases h.2 rfl with ⟨a, _, _⟩ | ⟨_, b, _⟩
    · by_cases e : k = m
      · subst e
        exact ⟨_, _, try_eq r f k hs l u, ⟨fun h => (by cases h), fun _ => .inr ⟨rfl, rfl, rfl⟩⟩⟩
      · exact ⟨_, _, try_lt r f m k hs (l 0) (u 0) hk (by omega), ⟨fun h => (by cases h), fun _ => .inl ⟨by omega, rfl, by omega⟩⟩⟩
    · cases b

set_option maxRecDepth 100000 in
set_option maxHeartbeats 12800000 in
theorem rtext_any (l : List UInt8) (i : Nat) (v : Value) (w : World) (hB : Byt w v l) (hi : i < l.length) (hm : l.length ≤ 140737488351232) :
    Calls Tryz.prog 38 #[v, .int .i64 ((i : Int) + 1)] w fun r w' => r = .returned (rtxV (textL l i)) ∧ Below w.heap.size w w' := by
  have h0 : 0 < l.length := by omega
  obtain ⟨b, off, cap, ev, hc, hm'⟩ : ∃ b off cap, v = .slice (some ⟨b, off, none⟩) l.length cap ∧ l.length ≤ cap ∧ cap ≤ maxLen := by
    rcases hB with ⟨h, _⟩ | ⟨b, off, cap, e, hc, hm', _⟩
    · omega
    · exact ⟨b, off, cap, e, hc, hm'⟩
  subst ev
  have hcI : (cap : Int) ≤ 9223372036854775807 := by unfold maxLen at hm'; omega
  have hcI2 : (l.length : Int) ≤ (cap : Int) := by omega
  have hlI : (l.length : Int) ≤ 140737488351232 := by omega
  go_enter Tryz.func38, Tryz.ntmps38
  go_wp2_with fail
  go_loopg [1, 7] (l.length - (i + 1)) (fun g t u wr => ∃ (at_ : Nat) (out : List UInt8), t = .int .i64 (at_ : Int) ∧ at_ ≤ l.length ∧ g = l.length - at_ ∧ out.length ≤ at_ ∧ wr.ownsRow w.heap.size 5 1 u out.length (cellsL out) ∧ Hid (textT l i at_ out = textL l i) ∧ Below w.heap.size w wr)
  case atStart => exact ⟨i + 1, [], by go_num, by omega, rfl, by simp, World.ownsRow_nil _ _ _ _, rfl, Below.refl _ _⟩
  case round =>
    obtain ⟨at_, out, rfl, hal, rfl, ho, hown, HP, hbel⟩ := hrel
    have hBr := hB.below hbel
    have hLr := (byt_lies hBr h0).1
    by_cases hlt : at_ < l.length
    · have hcell := hLr.cell at_ hlt
      have hI : (at_ : Int) < (l.length : Int) := by omega
      by_cases c34 : bx l at_ = 34
      · have HR : Hid (textL l i = .ok ⟨1, out, i, at_ + 1⟩) := by show _ = _; rw [← HP.out, textT_quote hlt c34]
        have hconv := conv_list wr _ out (own_byt hown)
        rw [c34] at hcell
        clear c34 HP hLr hBr
        go_wp2
        go_ret3
        exact ⟨r_pl (by rw [HR.out]; simp [rtxV]), hbel⟩
      · have n34 : (bx l at_ == 34) = false := beq_eq_false_iff_ne.2 c34
        by_cases c32 : bx l at_ < 32
        · have HR : Hid (textL l i = .error (at_ + 1)) := by show _ = _; rw [← HP.out, textT_low hlt c32]
          clear c34 HP hLr hBr
          generalize bx l at_ = c at *
          go_wp2
          go_ret3
          exact ⟨r_pl (by rw [HR.out]; simp [rtxV]), hbel⟩
        · have n32 : decide (bx l at_ < 32) = false := decide_eq_false c32
          by_cases c92 : bx l at_ = 92
          · have hT := textT_back (fr := i) (out := out) hlt c92
            rw [escape_of (by rw [hasAt_in _ hlt, c92]; rfl)] at hT
            have h1 := rescape_any l (at_ + 1) _ wr hBr h0 (by omega) (by omega)
            have e1 : ((at_ + 1 : Nat) : Int) = (at_ : Int) + 1 := by omega
            rw [e1] at h1
            rw [c92] at hcell
            have hea := fun t k => escapeL_le (l := l) (i := at_) (t := t) (k := k)
            rw [escape_of (by rw [hasAt_in _ hlt, c92]; rfl)] at hea
            clear c34 n34 c32 n32 c92 e1
            cases hx : escL l (at_ + 1) with
            | error n =>
              rw [hx] at hT h1
              simp only [runV] at h1
              have hn0 : (0 : Int) < (n : Int) := by have := escL_error hx; omega
              have HR : Hid (textL l i = .error n) := by show _ = _; rw [← HP.out, hT]
              clear hx hT HP hea hLr hBr
              go_wp2_with (go_at_call 59; refine h1.mono ?_; rintro r w' ⟨rfl, q, rfl⟩)
              go_ret3
              exact ⟨r_pl (by rw [HR.out]; simp [rtxV]), bl_n hbel _⟩
            | ok r =>
              obtain ⟨p, k⟩ := r
              have hpt := escL_pt hx
              rw [hx] at hT h1 hea
              simp only [runV] at h1
              simp only at hT
              have hek := hea _ _ rfl
              rw [encL_length] at hek
              have HR : Hid (textT l i k (out ++ encL p) = textL l i) := by show _ = _; rw [← HP.out, hT]
              have h2 := fun q => rput_ok _ out.length (bx out) (p : Int) (wr.drewN q) hpt.1 (Row.below (own_byt hown) (bl_n (Below.refl _ _) q)) (by omega)
              have hpl := hpt.2
              clear hx hT HP hea hLr hBr hpt hown
              go_wp2_with (first | (go_at_call 59; refine h1.mono ?_; rintro r w' ⟨rfl, q, rfl⟩) | (go_at_call 60; refine (h2 _).mono ?_; rintro r w' ⟨u2, rfl, hown2, hb2⟩))
              go_roundg (l.length - k)
              case measure => omega
              case rel => exact ⟨k, out ++ encL p, rfl, hek.2.1, rfl, by rw [List.length_append, encL_length]; omega, own_put hpl (own_mono hown2 (by have := hbel.size; simpa using this)), HR, bl_t (bl_n hbel q) hb2⟩
          · have n92 : (bx l at_ == 92) = false := beq_eq_false_iff_ne.2 c92
            have hplain : plainB (bx l at_) = true := by
              unfold plainB
              rw [n34, n92]
              simp
              omega
            have HT := textT_step (fr := i) (out := out) hlt hplain
            obtain ⟨m, ok, hst⟩ : ∃ m ok, stepL l at_ = (m, ok) := ⟨_, _, rfl⟩
            rw [hst, HP.out] at HT
            simp only at HT
            unfold stepL at hst
            obtain ⟨m4, mr, mah⟩ := step_ahead (l.length - at_) (fun j => bx l (at_ + j)) m ok hst (bx_lo _ _) (bx_hi _ _) (by omega)
            simp only [Nat.add_zero] at mah
            have HM : Hid (∀ j, 1 ≤ j → j < m → folB (bx l (at_ + j)) = true ∧ 192 ≤ bx l at_) := mah
            have HS : Hid (stepF (l.length - at_) (fun j => bx l (at_ + j)) = (m, ok)) := hst
            have HPOS : Hid (ok = true → 1 ≤ m) := fun e => by
              have := stepF_pos (l.length - at_) (fun j => bx l (at_ + j)) (by rw [hst]; exact e)
              rw [hst] at this
              exact this
            have HT2 : Hid (textL l i = if ok = true then textT l i (at_ + m) (out ++ sub l at_ (at_ + m)) else .error (at_ + m + 1)) := HT
            clear HT mah hst HP c34 c32 c92 hplain
            have hacI : (at_ : Int) < (cap : Int) := by omega
            go_upto_block 3 with fail
            go_cut [12] (fun s12 wx => ∃ n : Nat, 1 ≤ n ∧ n ≤ 4 ∧ m ≤ n ∧ at_ + n ≤ l.length ∧ s12 = .int .i64 (n : Int) ∧ wr = wx)
            case first =>
              go_wp2_with fail
              go_loopg [12] 3 (fun g s12 wx => ∃ n : Nat, 1 ≤ n ∧ n ≤ 4 ∧ g = 4 - n ∧ at_ + n ≤ l.length ∧ s12 = .int .i64 (n : Int) ∧ wr = wx)
              case atStart => exact ⟨1, by omega, by omega, rfl, by omega, rfl, rfl⟩
              case round =>
                obtain ⟨n, hn1, hn4, rfl, hnl, rfl, rfl⟩ := hrel
                by_cases h4 : n < 4
                · have h4I : (n : Int) < 4 := by omega
                  by_cases hin2 : at_ + n < l.length
                  · have hcell2 := hLr.cell (at_ + n) hin2
                    have hinI : (at_ : Int) + (n : Int) < (l.length : Int) := by omega
                    have hin0 : (0 : Int) ≤ (at_ : Int) + (n : Int) := by omega
                    have hnat : ((at_ : Int) + (n : Int)).toNat = at_ + n := by omega
                    by_cases a1 : 128 ≤ bx l (at_ + n)
                    · by_cases a2 : bx l (at_ + n) ≤ 191
                      · by_cases a3 : 192 ≤ bx l at_
                        · clear HM HS HPOS HT2 hown hbel ho
                          generalize bx l (at_ + n) = y at *
                          generalize bx l at_ = c at *
                          go_wp2
                          go_roundg (4 - (n + 1))
                          case measure => omega
                          case rel => exact ⟨n + 1, by omega, by omega, rfl, by omega, by go_num, rfl⟩
                        · have d : decide (192 ≤ bx l at_) = false := decide_eq_false a3
                          have hmn : m ≤ n := Nat.le_of_not_lt fun h => a3 (HM.out n hn1 h).2
                          clear HM HS HPOS HT2 hown hbel ho a3
                          generalize bx l (at_ + n) = y at *
                          generalize bx l at_ = c at *
                          go_wp2
                          go_meet
                          exact ⟨n, hn1, hn4, hmn, hnl, rfl, rfl⟩
                      · have d : decide (bx l (at_ + n) ≤ 191) = false := decide_eq_false a2
                        have hmn : m ≤ n := Nat.le_of_not_lt fun h => a2 ((folB_iff _).1 (HM.out n hn1 h).1).2
                        clear HM HS HPOS HT2 hown hbel ho a2
                        generalize bx l (at_ + n) = y at *
                        go_wp2
                        go_meet
                        exact ⟨n, hn1, hn4, hmn, hnl, rfl, rfl⟩
                    · have d : decide (128 ≤ bx l (at_ + n)) = false := decide_eq_false a1
                      have hmn : m ≤ n := Nat.le_of_not_lt fun h => a1 ((folB_iff _).1 (HM.out n hn1 h).1).1
                      clear HM HS HPOS HT2 hown hbel ho a1
                      generalize bx l (at_ + n) = y at *
                      go_wp2
                      go_meet
                      exact ⟨n, hn1, hn4, hmn, hnl, rfl, rfl⟩
                  · have d : decide ((at_ : Int) + (n : Int) < (l.length : Int)) = false := decide_eq_false (by omega)
                    have hmn : m ≤ n := by omega
                    clear HM HS HPOS HT2 hown hbel ho hin2
                    go_wp2
                    go_meet
                    exact ⟨n, hn1, hn4, hmn, hnl, rfl, rfl⟩
                · have d : decide ((n : Int) < 4) = false := decide_eq_false (by omega)
                  have hmn : m ≤ n := by omega
                  clear HM HS HPOS HT2 hown hbel ho h4
                  go_wp2
                  go_meet
                  exact ⟨n, hn1, hn4, hmn, hnl, rfl, rfl⟩
            case rest =>
              obtain ⟨n, hn1, hn4, hmn, hnl, rfl, rfl⟩ := hcut
              go_upto_block 5 with fail
              go_cut [13, 14, 15] (fun s13 s14 _ wx => s13 = .int .i64 (m : Int) ∧ s14 = .bool ok ∧ wr = wx)
              case first =>
                go_wp2_with fail
                go_loopg [13, 14, 15] n (fun g s13 s14 s15 wx => ∃ (k x : Nat) (o : Bool), 1 ≤ k ∧ k ≤ n + 1 ∧ g = n + 1 - k ∧ s15 = .int .i64 (k : Int) ∧ s13 = .int .i64 (x : Int) ∧ s14 = .bool o ∧ Hid (tried m ok k x o) ∧ wr = wx)
                case atStart => exact ⟨1, 0, false, by omega, by omega, by omega, rfl, rfl, rfl, ⟨fun _ => ⟨rfl, by simp⟩, fun e => .inl ⟨HPOS.out e, rfl, rfl⟩⟩, rfl⟩
                case round =>
                  obtain ⟨k, x, o, hk1, hkn1, rfl, rfl, rfl, rfl, HJ, rfl⟩ := hrel
                  by_cases hkn : k ≤ n
                  · have hknI : (k : Int) ≤ (n : Int) := by omega
                    cases o
                    · obtain ⟨x2, o2, hgd, hj2⟩ := tried_next HJ.out HS.out (fun _ => bx_lo _ _) (fun _ => bx_hi _ _) hk1 hkn (show n ≤ l.length - at_ by omega)
                      have HJ2 : Hid (tried m ok (k + 1) x2 o2) := hj2
                      have hRk : Row wr (.slice (some ⟨b, off + at_, none⟩) k (cap - at_)) k (fun j => bx l (at_ + j)) := .inr ⟨b, off + at_, cap - at_, rfl, by omega, by omega, ⟨fun j hj => by rw [Nat.add_assoc]; exact hLr.cell (at_ + j) (by omega), fun _ => bx_lo _ _, fun _ => bx_hi _ _⟩⟩
                      have h1 := rgood_any _ _ _ wr hRk
                      rw [hgd] at h1
                      simp only at h1
                      have hakI : (at_ : Int) + (k : Int) ≤ (cap : Int) := by omega
                      have hak0 : (at_ : Int) ≤ (at_ : Int) + (k : Int) := by omega
                      have hnat : ((at_ : Int) + (k : Int)).toNat = at_ + k := by omega
                      have hkb : (k : Int) ≤ 5 := by omega
                      clear HJ hj2 hgd HS HPOS HT2 HM hown hbel ho hRk
                      go_wp2_with (go_at_call 61; refine h1.mono ?_; rintro r w' ⟨rfl, rfl⟩)
                      go_roundg (n + 1 - (k + 1))
                      case measure => omega
                      case rel => exact ⟨k + 1, x2, o2, by omega, by omega, rfl, by go_num, rfl, rfl, HJ2, rfl⟩
                    · obtain ⟨rfl, rfl⟩ := tried_end HJ.out hmn (.inr rfl)
                      clear HJ HS HPOS HT2 HM hown hbel ho
                      go_wp2
                      go_meet
                      exact ⟨rfl, rfl, rfl⟩
                  · have d : decide ((k : Int) ≤ (n : Int)) = false := decide_eq_false (by omega)
                    have dI : ¬ (k : Int) ≤ (n : Int) := by omega
                    obtain ⟨e1, e2⟩ := tried_end HJ.out hmn (.inl (by omega))
                    subst e1
                    subst e2
                    clear HJ HS HPOS HT2 HM hown hbel ho
                    go_wp2
                    go_meet
                    exact ⟨rfl, rfl, rfl⟩
              case rest =>
                obtain ⟨rfl, rfl, rfl⟩ := hcut
                clear HS
                cases ok
                · have HR : Hid (textL l i = .error (at_ + m + 1)) := HT2.out
                  have hmI : (m : Int) ≤ 4 := by omega
                  clear HT2 HM HPOS hLr hBr hown
                  go_wp2
                  go_ret3
                  exact ⟨r_pl (by rw [HR.out]; simp [rtxV]), hbel⟩
                · have HR : Hid (textT l i (at_ + m) (out ++ sub l at_ (at_ + m)) = textL l i) := HT2.out.symm
                  have hm1 : 1 ≤ m := HPOS.out rfl
                  have hae : at_ ≤ at_ + m := by omega
                  have hel : at_ + m ≤ l.length := by omega
                  have hsl : (sub l at_ (at_ + m)).length = m := by rw [sub_length hae hel]; omega
                  have hRk : Row wr (.slice (some ⟨b, off + at_, none⟩) m (cap - at_)) m (bx (sub l at_ (at_ + m))) := .inr ⟨b, off + at_, cap - at_, rfl, by omega, by omega, ⟨fun j hj => by rw [bx_sub (by omega), Nat.add_assoc]; exact hLr.cell (at_ + j) (by omega), fun _ => bx_lo _ _, fun _ => bx_hi _ _⟩⟩
                  have hakI : (at_ : Int) + (m : Int) ≤ (cap : Int) := by omega
                  have hak0 : (at_ : Int) ≤ (at_ : Int) + (m : Int) := by omega
                  have hnat : ((at_ : Int) + (m : Int)).toNat = at_ + m := by omega
                  have hmI : (m : Int) ≤ 4 := by omega
                  clear HT2 HM HPOS hLr hBr hae
                  go_wp2_with (at_builtin; refine wpList_append_row rfl (.tmp 83) (.tmp 89) rfl _ _ _ _ rfl hown _ m (bx (sub l at_ (at_ + m))) rfl hRk ?_ ?_ ?_)
                  · omega
                  · exact hbel.size
                  · intro v3 w3 hown3 hgrow3
                    have hb3 := hbel.grown hgrow3 hbel.size (fun j hj => (hown.lt j hj).1)
                    have own3 := own_cat rfl hsl.symm hown3
                    clear hown hgrow3 hown3 hRk
                    go_wp2
                    go_roundg (l.length - (at_ + m))
                    case measure => omega
                    case rel => exact ⟨at_ + m, out ++ sub l at_ (at_ + m), by go_num, hel, rfl, by rw [List.length_append, hsl]; omega, own3, HR, hb3⟩
    · obtain rfl : at_ = l.length := by omega
      have HR : Hid (textL l i = .error (l.length + 1)) := by show _ = _; rw [← HP.out, textT_end]
      have hI : ¬ (l.length : Int) < (l.length : Int) := by omega
      clear HP hLr hBr hown
      go_wp2
      go_ret3
      exact ⟨r_pl (by rw [HR.out]; simp [rtxV]), hbel⟩
end Go.Proofs.YtlahlnocjfphjaaGreatDoor.Lx

namespace Go.Proofs.YtlahlnocjfphjaaGreatDoor.Lx
open Go.RowKit
attribute [local go_sem] setCell_drewN alloc_drewN

theorem digitsL_error {l : List UInt8} {i n : Nat} (h : digitsL l i = .error n) : n = i + 1 := by
  unfold digitsL at h
  split at h
  · cases h
  · exact (Except.error.inj h).symm
theorem digitsL_ok {l : List UInt8} {i k : Nat} (h : digitsL l i = .ok k) : k ≤ l.length := (digitsL_le h).2

set_option maxRecDepth 100000 in
set_option maxHeartbeats 6400000 in
theorem rnumber_any (l : List UInt8) (i : Nat) (v : Value) (w : World) (hB : Byt w v l) (hi : i < l.length) (hm : l.length ≤ 281474976710656) :
    Calls Tryz.prog 37 #[v, .int .i64 i] w fun r w' => r = .returned (rpV (numberL l i)) ∧ w = w' := by
  have hlI : (l.length : Int) ≤ 281474976710656 := by omega
  have hs := fun k (hk : k ≤ l.length) => (rsome_any l k v w hB hk hm).mono fun r w' h => (show r = .returned (rpV (digitsL l k)) ∧ w = w' from ⟨h.1, h.2.symm⟩)
  rcases hB with ⟨h0, _⟩ | ⟨b, off, cap, rfl, hc, hm', hL⟩
  · omega
  clear hc hm'
  have hc0 := hL.cell i hi
  have hiI : (i : Int) < (l.length : Int) := by omega
  have hal : aft l i (· == 45) ≤ l.length := (aft_le l i (· == 45)).2.2 (by omega)
  have HN : Hid (numberL l i = expPart l (fracPart l (if hasAt l (aft l i (· == 45)) (· == 48) = true then .ok (aft l i (· == 45) + 1) else digitsL l (aft l i (· == 45))))) := rfl
  go_enter Tryz.func37, Tryz.ntmps37
  go_upto_if 11 with fail
  go_cut [1] (fun s1 wx => s1 = .int .i64 ((aft l i (· == 45) : Nat) : Int) ∧ w = wx)
  case first =>
    by_cases e : bx l i = 45
    · have HA : Hid (aft l i (· == 45) = i + 1) := by show _ = _; simp [aft, hasAt_in _ hi, e]
      have hbt : (bx l i == 45) = true := by rw [e]; rfl
      clear e HN hal hs
      generalize bx l i = c at *
      go_wp2_with fail
      go_meet
      exact ⟨by rw [HA.out]; go_num, rfl⟩
    · have HA : Hid (aft l i (· == 45) = i) := by show _ = _; simp [aft, hasAt_in _ hi, e]
      have hne : (bx l i == 45) = false := beq_eq_false_iff_ne.2 e
      clear e HN hal hs
      generalize bx l i = c at *
      go_wp2_with fail
      go_meet
      exact ⟨by rw [HA.out], rfl⟩
  case rest =>
    obtain ⟨rfl, rfl⟩ := hcut
    clear hc0 hiI hi
    generalize aft l i (· == 45) = a at *
    have haI : (a : Int) ≤ 281474976710656 := by omega
    go_upto_region 4 with fail
    go_cut [24] (fun s wx => s = .bool (hasAt l a (· == 48)) ∧ w = wx)
    case first =>
      by_cases hin : a < l.length
      · have hcell := hL.cell a hin
        have hI : (a : Int) < (l.length : Int) := by omega
        have HQ : Hid (hasAt l a (· == 48) = (bx l a == 48)) := hasAt_in _ hin
        clear hs hin HN hal
        by_cases e0 : bx l a = 48
        · rw [e0] at hcell
          go_wp2_with fail
          go_meet
          exact ⟨by rw [HQ.out, e0]; rfl, rfl⟩
        · have hne0 : (bx l a == 48) = false := beq_eq_false_iff_ne.2 e0
          have HQ2 : Hid (hasAt l a (· == 48) = false) := by show _ = _; rw [HQ.out, hne0]; try rfl
          clear e0 HQ
          generalize bx l a = c at *
          go_wp2_with fail
          go_meet
          exact ⟨by rw [HQ2.out], rfl⟩
      · have hI : ¬ (a : Int) < (l.length : Int) := by omega
        have HQ2 : Hid (hasAt l a (· == 48) = false) := hasAt_out _ hin
        clear hs hin hL HN hal
        go_wp2_with fail
        go_meet
        exact ⟨by rw [HQ2.out], rfl⟩
    case rest =>
      obtain ⟨rfl, rfl⟩ := hcut
      go_upto_if 24 with fail
      go_cut [1, 6] (fun s1 s6 wx => ∃ k : Nat, k ≤ l.length ∧ Hid (numberL l i = expPart l (fracPart l (.ok k))) ∧ s1 = .int .i64 (k : Int) ∧ s6 = .int .i64 0 ∧ w = wx)
      case first =>
        cases hq : hasAt l a (· == 48)
        · have HN2 : Hid (numberL l i = expPart l (fracPart l (digitsL l a))) := by show _ = _; rw [HN.out, if_neg (by rw [hq]; simp)]
          have h1 := hs a hal
          clear HN hs
          cases hd : digitsL l a with
          | error n =>
            have hn := digitsL_error hd
            rw [hd] at h1 HN2
            simp only [rpV] at h1
            have hn0 : (0 : Int) < (n : Int) := by omega
            clear hn hd
            go_wp2_with (go_at_call 58; refine h1.mono ?_; rintro r w' ⟨rfl, rfl⟩)
            go_ret2
            exact ⟨r_pl (by rw [HN2.out]; simp [rpV, expPart, fracPart]), rfl⟩
          | ok m =>
            have hm2 := digitsL_ok hd
            rw [hd] at h1 HN2
            simp only [rpV] at h1
            clear hd
            go_wp2_with (go_at_call 58; refine h1.mono ?_; rintro r w' ⟨rfl, rfl⟩)
            go_meet
            exact ⟨m, hm2, HN2, rfl, rfl, rfl⟩
        · have HA : Hid (numberL l i = expPart l (fracPart l (.ok (a + 1)))) := by show _ = _; rw [HN.out, if_pos hq]
          have hlt := hasAt_lt hq
          clear HN hs
          go_wp2_with fail
          go_meet
          exact ⟨a + 1, by omega, HA, by go_num, rfl, rfl⟩
      case rest =>
        obtain ⟨k, hk, HK, rfl, rfl, rfl⟩ := hcut
        clear HN hal haI
        have hkI : (k : Int) ≤ 281474976710656 := by omega
        go_upto_region 9 with fail
        go_cut [46] (fun s wx => s = .bool (hasAt l k (· == 46)) ∧ w = wx)
        case first =>
          by_cases hin : k < l.length
          · have hcell := hL.cell k hin
            have hI : (k : Int) < (l.length : Int) := by omega
            have HQ : Hid (hasAt l k (· == 46) = (bx l k == 46)) := hasAt_in _ hin
            clear hs hin HK hk
            by_cases e0 : bx l k = 46
            · rw [e0] at hcell
              go_wp2_with fail
              go_meet
              exact ⟨by rw [HQ.out, e0]; rfl, rfl⟩
            · have hne0 : (bx l k == 46) = false := beq_eq_false_iff_ne.2 e0
              have HQ2 : Hid (hasAt l k (· == 46) = false) := by show _ = _; rw [HQ.out, hne0]; try rfl
              clear e0 HQ
              generalize bx l k = c at *
              go_wp2_with fail
              go_meet
              exact ⟨by rw [HQ2.out], rfl⟩
          · have hI : ¬ (k : Int) < (l.length : Int) := by omega
            have HQ2 : Hid (hasAt l k (· == 46) = false) := hasAt_out _ hin
            clear hs hin hL HK hk
            go_wp2_with fail
            go_meet
            exact ⟨by rw [HQ2.out], rfl⟩
        case rest =>
          obtain ⟨rfl, rfl⟩ := hcut
          go_upto_if 46 with fail
          go_cut [1, 6] (fun s1 s6 wx => ∃ k : Nat, k ≤ l.length ∧ Hid (numberL l i = expPart l (.ok k)) ∧ s1 = .int .i64 (k : Int) ∧ s6 = .int .i64 0 ∧ w = wx)
          case first =>
            cases hq : hasAt l k (· == 46)
            · have HN2 : Hid (numberL l i = expPart l (.ok k)) := by show _ = _; rw [HK.out]; simp only [fracPart]; rw [if_neg (by rw [hq]; simp)]
              clear HK hs
              go_wp2_with fail
              go_meet
              exact ⟨k, hk, HN2, rfl, rfl, rfl⟩
            · have HN2 : Hid (numberL l i = expPart l (digitsL l (k + 1))) := by show _ = _; rw [HK.out]; simp only [fracPart]; rw [if_pos hq]
              have hlt := hasAt_lt hq
              have h1 := hs (k + 1) (by omega)
              have e1 : ((k + 1 : Nat) : Int) = (k : Int) + 1 := by omega
              rw [e1] at h1
              clear HK hs e1
              cases hd : digitsL l (k + 1) with
              | error n =>
                have hn := digitsL_error hd
                rw [hd] at h1 HN2
                simp only [rpV] at h1
                have hn0 : (0 : Int) < (n : Int) := by omega
                clear hn hd
                go_wp2_with (go_at_call 58; refine h1.mono ?_; rintro r w' ⟨rfl, rfl⟩)
                go_ret2
                exact ⟨r_pl (by rw [HN2.out]; simp [rpV, expPart]), rfl⟩
              | ok m =>
                have hm2 := digitsL_ok hd
                rw [hd] at h1 HN2
                simp only [rpV] at h1
                clear hd
                go_wp2_with (go_at_call 58; refine h1.mono ?_; rintro r w' ⟨rfl, rfl⟩)
                go_meet
                exact ⟨m, hm2, HN2, rfl, rfl, rfl⟩
          case rest =>
            obtain ⟨p, hp, HP, rfl, rfl, rfl⟩ := hcut
            clear HK hk hkI
            have hpI : (p : Int) ≤ 281474976710656 := by omega
            go_upto_region 13 with fail
            go_cut [74] (fun s wx => s = .bool (hasAt l p (fun c => c == 101 || c == 69)) ∧ w = wx)
            case first =>
              by_cases hin : p < l.length
              · have hcell := hL.cell p hin
                have hI : (p : Int) < (l.length : Int) := by omega
                have HQ : Hid (hasAt l p (fun c => c == 101 || c == 69) = (bx l p == 101 || bx l p == 69)) := hasAt_in _ hin
                clear hs hin HP hp
                by_cases e0 : bx l p = 101
                · rw [e0] at hcell
                  go_wp2_with fail
                  go_meet
                  exact ⟨by rw [HQ.out, e0]; rfl, rfl⟩
                · have hne0 : (bx l p == 101) = false := beq_eq_false_iff_ne.2 e0
                  by_cases e1 : bx l p = 69
                  · rw [e1] at hcell
                    clear e0 hne0
                    go_wp2_with fail
                    go_meet
                    exact ⟨by rw [HQ.out, e1]; rfl, rfl⟩
                  · have hne1 : (bx l p == 69) = false := beq_eq_false_iff_ne.2 e1
                    have HQ2 : Hid (hasAt l p (fun c => c == 101 || c == 69) = false) := by show _ = _; rw [HQ.out, hne0, hne1]; try rfl
                    clear e0 e1 HQ
                    generalize bx l p = c at *
                    go_wp2_with fail
                    go_meet
                    exact ⟨by rw [HQ2.out], rfl⟩
              · have hI : ¬ (p : Int) < (l.length : Int) := by omega
                have HQ2 : Hid (hasAt l p (fun c => c == 101 || c == 69) = false) := hasAt_out _ hin
                clear hs hin hL HP hp
                go_wp2_with fail
                go_meet
                exact ⟨by rw [HQ2.out], rfl⟩
            case rest =>
              obtain ⟨rfl, rfl⟩ := hcut
              cases hq : hasAt l p (fun c => c == 101 || c == 69)
              · have HF : Hid (numberL l i = .ok p) := by show _ = _; rw [HP.out]; simp only [expPart]; rw [if_neg (by rw [hq]; simp)]
                clear HP hs hL
                go_wp2
                go_ret2
                exact ⟨r_pl (by rw [HF.out]; simp [rpV]), rfl⟩
              · have hp2 := hasAt_lt hq
                have HF : Hid (numberL l i = digitsL l (aft l (p + 1) (fun c => c == 43 || c == 45))) := by show _ = _; rw [HP.out]; simp only [expPart]; rw [if_pos hq]; rfl
                have hal : aft l (p + 1) (fun c => c == 43 || c == 45) ≤ l.length := (aft_le l (p + 1) (fun c => c == 43 || c == 45)).2.2 (by omega)
                have hpl : p + 1 ≤ l.length := by omega
                clear HP
                go_upto_region 14 with fail
                go_cut [1] (fun s1 wx => s1 = .int .i64 ((p + 1 : Nat) : Int) ∧ w = wx)
                case first =>
                  clear hs HF
                  go_wp2_with fail
                  go_meet
                  exact ⟨by go_num, rfl⟩
                case rest =>
                  obtain ⟨rfl, rfl⟩ := hcut
                  clear hq hp2 hp hpI
                  generalize p + 1 = q at *
                  have hqI : (q : Int) ≤ 281474976710656 := by omega
                  go_upto_region 15 with fail
                  go_cut [94] (fun s wx => s = .bool (hasAt l q (fun c => c == 43 || c == 45)) ∧ w = wx)
                  case first =>
                    by_cases hin : q < l.length
                    · have hcell := hL.cell q hin
                      have hI : (q : Int) < (l.length : Int) := by omega
                      have HQ : Hid (hasAt l q (fun c => c == 43 || c == 45) = (bx l q == 43 || bx l q == 45)) := hasAt_in _ hin
                      clear hs hin HF hal
                      by_cases e0 : bx l q = 43
                      · rw [e0] at hcell
                        go_wp2_with fail
                        go_meet
                        exact ⟨by rw [HQ.out, e0]; rfl, rfl⟩
                      · have hne0 : (bx l q == 43) = false := beq_eq_false_iff_ne.2 e0
                        by_cases e1 : bx l q = 45
                        · rw [e1] at hcell
                          clear e0 hne0
                          go_wp2_with fail
                          go_meet
                          exact ⟨by rw [HQ.out, e1]; rfl, rfl⟩
                        · have hne1 : (bx l q == 45) = false := beq_eq_false_iff_ne.2 e1
                          have HQ2 : Hid (hasAt l q (fun c => c == 43 || c == 45) = false) := by show _ = _; rw [HQ.out, hne0, hne1]; try rfl
                          clear e0 e1 HQ
                          generalize bx l q = c at *
                          go_wp2_with fail
                          go_meet
                          exact ⟨by rw [HQ2.out], rfl⟩
                    · have hI : ¬ (q : Int) < (l.length : Int) := by omega
                      have HQ2 : Hid (hasAt l q (fun c => c == 43 || c == 45) = false) := hasAt_out _ hin
                      clear hs hin hL HF hal
                      go_wp2_with fail
                      go_meet
                      exact ⟨by rw [HQ2.out], rfl⟩
                  case rest =>
                    obtain ⟨rfl, rfl⟩ := hcut
                    go_upto_if 94 with fail
                    go_cut [1] (fun s1 wx => s1 = .int .i64 ((aft l q (fun c => c == 43 || c == 45) : Nat) : Int) ∧ w = wx)
                    case first =>
                      cases hq : hasAt l q (fun c => c == 43 || c == 45)
                      · have HA : Hid (aft l q (fun c => c == 43 || c == 45) = q) := by show _ = _; simp [aft, hq]
                        clear HF hs hal
                        go_wp2_with fail
                        go_meet
                        exact ⟨by rw [HA.out], rfl⟩
                      · have HA : Hid (aft l q (fun c => c == 43 || c == 45) = q + 1) := by show _ = _; simp [aft, hq]
                        clear HF hs hal
                        go_wp2_with fail
                        go_meet
                        exact ⟨by rw [HA.out]; go_num, rfl⟩
                    case rest =>
                      obtain ⟨rfl, rfl⟩ := hcut
                      have h1 := hs _ hal
                      clear hs
                      generalize aft l q (fun c => c == 43 || c == 45) = a at *
                      cases hd : digitsL l a with
                      | error n =>
                        have hn := digitsL_error hd
                        rw [hd] at h1 HF
                        simp only [rpV] at h1
                        have hn0 : (0 : Int) < (n : Int) := by omega
                        clear hn hd
                        go_wp2_with (go_at_call 58; refine h1.mono ?_; rintro r w' ⟨rfl, rfl⟩)
                        go_ret2
                        exact ⟨r_pl (by rw [HF.out]; simp [rpV]), rfl⟩
                      | ok m =>
                        have hm2 := digitsL_ok hd
                        rw [hd] at h1 HF
                        simp only [rpV] at h1
                        clear hd
                        go_wp2_with (go_at_call 58; refine h1.mono ?_; rintro r w' ⟨rfl, rfl⟩)
                        go_ret2
                        exact ⟨r_pl (by rw [HF.out]; simp [rpV]), rfl⟩
end Go.Proofs.YtlahlnocjfphjaaGreatDoor.Lx

namespace Go.Proofs.YtlahlnocjfphjaaGreatDoor.Lx
open Go.RowKit
attribute [local go_sem] setCell_drewN alloc_drewN

theorem rblank_any (c : Int) (w : World) : Calls Tryz.prog 34 #[.int .u8 c] w fun r w' => r = .returned (.bool (blankB c)) ∧ w' = w := by
  by_cases h1 : c = 9
  · subst h1
    go_enter Tryz.func34, Tryz.ntmps34
    go_wp2
    go_ret
    exact ⟨rfl, rfl⟩
  · by_cases h2 : c = 10
    · subst h2
      go_enter Tryz.func34, Tryz.ntmps34
      go_wp2
      go_ret
      exact ⟨rfl, rfl⟩
    · by_cases h3 : c = 13
      · subst h3
        go_enter Tryz.func34, Tryz.ntmps34
        go_wp2
        go_ret
        exact ⟨rfl, rfl⟩
      · have e1 : (c == 9) = false := beq_eq_false_iff_ne.2 h1
        have e2 : (c == 10) = false := beq_eq_false_iff_ne.2 h2
        have e3 : (c == 13) = false := beq_eq_false_iff_ne.2 h3
        have HR : Hid (blankB c = (c == 32)) := by show _ = _; unfold blankB; rw [e1, e2, e3]; simp
        clear h1 h2 h3
        go_enter Tryz.func34, Tryz.ntmps34
        go_wp2
        go_ret
        exact ⟨r_bool HR.out.symm, rfl⟩

theorem spelled_sub {l : List UInt8} (cs : List UInt8) : ∀ {i k : Nat}, spelledL l i cs = .ok k → sub l i k = cs := by
  induction cs with
  | nil => intro i k h; simp [spelledL] at h; subst h; exact sub_self _ _
  | cons c cs ih =>
    intro i k h
    simp only [spelledL] at h
    split at h
    · rename_i g
      have hl := hasAt_lt g
      have e := ih h
      have hk := (spelledL_le cs h).1
      rw [hasAt_in _ hl] at g
      have g2 : bx l i = (c.toNat : Int) := by simpa using g
      rw [← bx_at hl] at g2
      have g3 : l[i] = c := UInt8.toNat.inj (by omega)
      rw [← sub_cat (m := 1) (by omega), e]
      simp [sub, List.drop_eq_getElem_cons hl, g3]
    · cases h
theorem readL_word {l : List UInt8} {p : Nat} (hp : p < l.length) (hs : signB (bx l p) = false) :
    (bx l p = 110 → readL l p = stands 3 l p (spelledL l p [110, 117, 108, 108])) ∧ (bx l p = 116 → readL l p = stands 3 l p (spelledL l p [116, 114, 117, 101])) ∧ (bx l p = 102 → readL l p = stands 3 l p (spelledL l p [102, 97, 108, 115, 101])) ∧
    (bx l p = 45 → readL l p = stands 2 l p (numberL l p)) ∧ (digitB (bx l p) = true → readL l p = stands 2 l p (numberL l p)) ∧ (bx l p = 34 → readL l p = textL l p) := by
  have h0 : ¬ p = l.length := by omega
  unfold readL
  rw [if_neg h0, if_neg (by rw [hs]; simp)]
  refine ⟨fun h => ?_, fun h => ?_, fun h => ?_, fun h => ?_, fun h => ?_, fun h => ?_⟩
  · rw [if_pos h]
  · rw [if_neg (by omega), if_pos h]
  · rw [if_neg (by omega), if_neg (by omega), if_pos h]
  · rw [if_neg (by omega), if_neg (by omega), if_neg (by omega), if_pos (.inl h)]
  · have g : 48 ≤ bx l p ∧ bx l p ≤ 57 := by simpa [digitB] using h
    rw [if_neg (by omega), if_neg (by omega), if_neg (by omega), if_pos (.inr h)]
  · rw [if_neg (by omega), if_neg (by omega), if_neg (by omega), if_neg (by rw [h]; decide), if_pos h]
theorem readL_none {l : List UInt8} {p : Nat} (hp : p < l.length) (hs : signB (bx l p) = false) (n1 : bx l p ≠ 110) (n2 : bx l p ≠ 116) (n3 : bx l p ≠ 102) (n4 : bx l p ≠ 45) (n5 : digitB (bx l p) = false) (n6 : bx l p ≠ 34) : readL l p = .error (p + 1) := by
  unfold readL
  rw [if_neg (by omega), if_neg (by rw [hs]; simp), if_neg n1, if_neg n2, if_neg n3, if_neg (by rw [n5]; simp [n4]), if_neg n6]
theorem readL_sign {l : List UInt8} {p : Nat} (hp : p < l.length) (hs : signB (bx l p) = true) : readL l p = .ok ⟨4, sub l p (p + 1), p, p + 1⟩ := by
  unfold readL
  rw [if_neg (by omega), if_pos hs]
theorem numberL_error {l : List UInt8} {i n : Nat} (h : numberL l i = .error n) : 0 < n := by
  unfold numberL at h
  cases hw : wholeL l i with
  | error a =>
    rw [hw] at h
    have e : a = n := Except.error.inj h
    unfold wholeL at hw
    split at hw
    · cases hw
    · have := digitsL_error hw; omega
  | ok a =>
    rw [hw] at h
    cases hf : fracPart l (.ok a) with
    | error b =>
      rw [hf] at h
      have e : b = n := Except.error.inj h
      simp only [fracPart] at hf
      split at hf
      · have := digitsL_error hf; omega
      · cases hf
    | ok b =>
      rw [hf] at h
      simp only [expPart] at h
      split at h
      · have := digitsL_error h; omega
      · cases h
theorem textF_error {l : List UInt8} {fr : Nat} (f : Nat) : ∀ {i n : Nat} {out : List UInt8}, textF l fr f i out = .error n → 0 < n := by
  induction f with
  | zero => intro i n out h; simp only [textF] at h; have := Except.error.inj h; omega
  | succ f ih =>
    intro i n out h
    simp only [textF] at h
    cases hp : plainL l i with
    | error m =>
      rw [hp] at h
      have e : m = n := Except.error.inj h
      unfold plainL at hp
      split at hp
      · cases hp
      · have := Except.error.inj hp; omega
    | ok e =>
      rw [hp] at h
      simp only at h
      split at h
      · cases h
      · cases hx : escapeL l e with
        | error m =>
          rw [hx] at h
          have e2 : m = n := Except.error.inj h
          by_cases hb : hasAt l e (· == 92) = true
          · rw [escape_of hb] at hx
            cases hy : escL l (e + 1) with
            | error q => rw [hy] at hx; have := escL_error hy; have := Except.error.inj hx; omega
            | ok r => rw [hy] at hx; cases hx
          · unfold escapeL at hx
            rw [if_neg hb] at hx
            have := Except.error.inj hx
            omega
        | ok r => rw [hx] at h; exact ih h
theorem textL_error {l : List UInt8} {i n : Nat} (h : textL l i = .error n) : 0 < n := textF_error _ h
theorem textF_ok {l : List UInt8} {fr : Nat} (f : Nat) : ∀ {i : Nat} {out : List UInt8} {t : Tok}, textF l fr f i out = .ok t → t.kind = 1 ∧ t.fr = fr := by
  induction f with
  | zero => intro i out t h; simp [textF] at h
  | succ f ih =>
    intro i out t h
    simp only [textF] at h
    cases hp : plainL l i with
    | error m => rw [hp] at h; cases h
    | ok e =>
      rw [hp] at h
      simp only at h
      split at h
      · have := Except.ok.inj h; subst this; exact ⟨rfl, rfl⟩
      · cases hx : escapeL l e with
        | error m => rw [hx] at h; cases h
        | ok r => rw [hx] at h; exact ih h
theorem keep2 {w w' : World} {a b c d : Value} {a' b' c' d' : Value} {ty : TypeId} (h : Below ((w.alloc (.cells #[a, b, c, d] ty)).alloc (.cells #[a', b', c', d'] ty)).heap.size ((w.alloc (.cells #[a, b, c, d] ty)).alloc (.cells #[a', b', c', d'] ty)) w') :
    (∀ o, w'.cell? ⟨w.heap.size, o, none⟩ = #[a, b, c, d][o]?) ∧ (∀ o, w'.frozen? ⟨w.heap.size, o, none⟩ = false) ∧ (∀ o, w'.cell? ⟨w.heap.size + 1, o, none⟩ = #[a', b', c', d'][o]?) ∧ (∀ o, w'.frozen? ⟨w.heap.size + 1, o, none⟩ = false) ∧ w.heap.size + 1 < w'.heap.size := by
  have z := h.size
  simp only [World.size_alloc] at z
  refine ⟨fun o => ?_, fun o => ?_, fun o => ?_, fun o => ?_, by omega⟩
  · rw [h.cell (p := ⟨w.heap.size, o, none⟩) (by simp only [World.size_alloc]; omega)]
    simp [go_sem]
  · rw [h.frozen (p := ⟨w.heap.size, o, none⟩) (by simp only [World.size_alloc]; omega)]
    simp [go_sem]
  · rw [h.cell (p := ⟨w.heap.size + 1, o, none⟩) (by simp only [World.size_alloc]; omega)]
    simp [go_sem]
  · rw [h.frozen (p := ⟨w.heap.size + 1, o, none⟩) (by simp only [World.size_alloc]; omega)]
    simp [go_sem]
end Go.Proofs.YtlahlnocjfphjaaGreatDoor.Lx

namespace Go.Proofs.YtlahlnocjfphjaaGreatDoor.Lx
open Go.RowKit

theorem spelled_gt {l : List UInt8} (cs : List UInt8) : ∀ {i n : Nat}, spelledL l i cs = .error n → i < n ∧ n ≤ i + cs.length := by
  induction cs with
  | nil => intro i n h; simp [spelledL] at h
  | cons c cs ih =>
    intro i n h
    simp only [spelledL] at h
    rw [List.length_cons]
    split at h
    · have := ih h; omega
    · have := Except.error.inj h; omega
theorem unitF_gt {l : List UInt8} {low : Bool} (k : Nat) : ∀ {i val n : Nat}, unitF l low k i val = .error n → i < n ∧ n ≤ i + k := by
  induction k with
  | zero => intro i val n h; simp [unitF] at h
  | succ k ih =>
    intro i val n h
    simp only [unitF] at h
    split at h
    · have := ih h; omega
    · have := Except.error.inj h; omega
theorem pair_gt {l : List UInt8} {i high n : Nat} (h : pairL l i high = .error n) : i < n := by
  unfold pairL at h
  cases hs : spelledL l i [92, 117] with
  | error m => rw [hs] at h; have := spelled_gt _ hs; have := Except.error.inj h; omega
  | ok j =>
    rw [hs] at h
    simp only at h
    have hj := (spelledL_le _ hs).1
    cases hu : unitL l true j with
    | error m => rw [hu] at h; have := unitF_gt 4 hu; have := Except.error.inj h; omega
    | ok r => rw [hu] at h; cases h
theorem escL_gt {l : List UInt8} {i n : Nat} (h : escL l i = .error n) : i < n := by
  unfold escL at h
  split at h
  · cases h
  · split at h
    · cases hu : unitL l false (i + 1) with
      | error m => rw [hu] at h; have := unitF_gt 4 hu; have := Except.error.inj h; omega
      | ok r =>
        rw [hu] at h
        simp only [afterU] at h
        have hr := (unitL_le hu).1
        split at h
        · have := pair_gt h; omega
        · cases h
    · have := Except.error.inj h; omega
theorem escL_ok_gt {l : List UInt8} {i p k : Nat} (h : hasAt l i (· == 92) = true) (hx : escL l (i + 1) = .ok (p, k)) : i + 2 ≤ k ∧ k ≤ l.length := by
  have e := escape_of h
  rw [hx] at e
  have := escapeL_le e
  exact ⟨this.1, this.2.1⟩
/-- The rest of a string, by its first byte. -/
theorem textT_err {l : List UInt8} {fr : Nat} {P : Nat → List UInt8 → Prop} {n : Nat}
    (hend : ∀ out, n = l.length + 1 → P l.length out)
    (hlow : ∀ i out, i < l.length → bx l i < 32 → n = i + 1 → P i out)
    (hbad : ∀ i out, i < l.length → bx l i = 92 → escL l (i + 1) = .error n → P i out)
    (hesc : ∀ i out p k, i < l.length → bx l i = 92 → escL l (i + 1) = .ok (p, k) → k < n → P k (out ++ encL p) → P i out)
    (hstop : ∀ i out m, i < l.length → plainB (bx l i) = true → stepL l i = (m, false) → n = i + m + 1 → P i out)
    (hstep : ∀ i out m, i < l.length → plainB (bx l i) = true → stepL l i = (m, true) → i + m < n → P (i + m) (out ++ sub l i (i + m)) → P i out) :
    ∀ (f i : Nat) (out : List UInt8), l.length ≤ i + f → i ≤ l.length → textT l fr i out = .error n → i < n ∧ P i out := by
  intro f
  induction f with
  | zero =>
    intro i out hf hi h
    obtain rfl : i = l.length := by omega
    rw [textT_end] at h
    have := Except.error.inj h
    exact ⟨by omega, hend out this.symm⟩
  | succ f ih =>
    intro i out hf hi h
    by_cases hlt : i < l.length
    · by_cases c34 : bx l i = 34
      · rw [textT_quote hlt c34] at h; cases h
      · by_cases c32 : bx l i < 32
        · rw [textT_low hlt c32] at h
          have := Except.error.inj h
          exact ⟨by omega, hlow i out hlt c32 this.symm⟩
        · by_cases c92 : bx l i = 92
          · have hb : hasAt l i (· == 92) = true := by rw [hasAt_in _ hlt, c92]; rfl
            rw [textT_back hlt c92, escape_of hb] at h
            cases hx : escL l (i + 1) with
            | error m =>
              rw [hx] at h
              have e : m = n := Except.error.inj h
              subst e
              have := escL_gt hx
              exact ⟨by omega, hbad i out hlt c92 hx⟩
            | ok r =>
              obtain ⟨p, k⟩ := r
              rw [hx] at h
              simp only at h
              have hk := escL_ok_gt hb hx
              have r := ih k _ (by omega) hk.2 h
              exact ⟨by omega, hesc i out p k hlt c92 hx r.1 r.2⟩
          · have hp : plainB (bx l i) = true := by
              unfold plainB
              rw [beq_eq_false_iff_ne.2 c34, beq_eq_false_iff_ne.2 c92]
              simp
              omega
            rw [textT_step hlt hp] at h
            cases hst : stepL l i with
            | mk m ok =>
              rw [hst] at h
              simp only at h
              cases ok
              · have := Except.error.inj h
                exact ⟨by omega, hstop i out m hlt hp hst (by omega)⟩
              · rw [if_pos rfl] at h
                have h1 := stepF_pos (l.length - i) (fun j => bx l (i + j)) (by unfold stepL at hst; rw [hst])
                have h2 := stepF_le (l.length - i) (fun j => bx l (i + j)) (by omega)
                unfold stepL at hst
                rw [hst] at h1 h2
                simp only at h1 h2
                have r := ih (i + m) _ (by omega) (by omega) h
                exact ⟨by omega, hstep i out m hlt hp hst r.1 r.2⟩
    · obtain rfl : i = l.length := by omega
      rw [textT_end] at h
      have := Except.error.inj h
      exact ⟨by omega, hend out this.symm⟩
theorem textL_gt {l : List UInt8} {i n : Nat} (hi : i < l.length) (h : textL l i = .error n) : i + 1 < n :=
  (textT_err (P := fun _ _ => True) (fun _ _ => trivial) (fun _ _ _ _ _ => trivial) (fun _ _ _ _ _ => trivial) (fun _ _ _ _ _ _ _ _ _ => trivial) (fun _ _ _ _ _ _ _ => trivial) (fun _ _ _ _ _ _ _ _ => trivial) l.length (i + 1) [] (by omega) (by omega) h).1

theorem spelled_err {l l' : List UInt8} {n : Nat} (h : Agree l l' n) (cs : List UInt8) : ∀ {i : Nat}, spelledL l i cs = .error n → spelledL l' i cs = .error n := by
  induction cs with
  | nil => intro i hk; simp [spelledL] at hk
  | cons c cs ih =>
    intro i hk
    have hl := (spelled_gt (c :: cs) hk).1
    simp only [spelledL] at hk ⊢
    rw [h.has hl]
    split at hk
    · rename_i g
      rw [if_pos g]
      exact ih hk
    · rename_i g
      rw [if_neg g]
      exact hk
theorem unit_err {l l' : List UInt8} {n : Nat} (h : Agree l l' n) (low : Bool) (k : Nat) : ∀ {i val : Nat}, unitF l low k i val = .error n → unitF l' low k i val = .error n := by
  induction k with
  | zero => intro i val hr; exact hr
  | succ k ih =>
    intro i val hr
    have hl := (unitF_gt (k + 1) hr).1
    simp only [unitF] at hr ⊢
    rw [h.has hl, h.bx hl]
    split at hr
    · rename_i g
      rw [if_pos g]
      exact ih hr
    · rename_i g
      rw [if_neg g]
      exact hr
theorem pair_err {l l' : List UInt8} {n : Nat} (h : Agree l l' n) {i high : Nat} (hr : pairL l i high = .error n) : pairL l' i high = .error n := by
  unfold pairL at hr ⊢
  cases hs : spelledL l i [92, 117] with
  | error m =>
    rw [hs] at hr
    have e : m = n := Except.error.inj hr
    subst e
    rw [spelled_err h _ hs]
  | ok j =>
    rw [hs] at hr
    simp only at hr
    cases hu : unitL l true j with
    | error m =>
      rw [hu] at hr
      have e : m = n := Except.error.inj hr
      subst e
      have := (unitF_gt 4 hu).1
      rw [spelled_agree h _ hs (by omega)]
      simp only
      rw [show unitL l' true j = .error m from unit_err h true 4 hu]
    | ok q => rw [hu] at hr; cases hr
theorem escL_err {l l' : List UInt8} {n : Nat} (h : Agree l l' n) {i : Nat} (hr : escL l i = .error n) : escL l' i = .error n := by
  have hi := escL_gt hr
  unfold escL at hr ⊢
  rw [h.has hi, h.has hi, h.bx hi]
  split at hr
  · cases hr
  · rename_i g
    rw [if_neg g]
    split at hr
    · rename_i g2
      rw [if_pos g2]
      cases hu : unitL l false (i + 1) with
      | error m =>
        rw [hu] at hr
        have e : m = n := Except.error.inj hr
        subst e
        rw [show unitL l' false (i + 1) = .error m from unit_err h false 4 hu]
        rfl
      | ok r =>
        rw [hu] at hr
        simp only [afterU] at hr
        split at hr
        · rename_i g3
          have := pair_gt hr
          rw [show unitL l' false (i + 1) = .ok r from unit_agree h false 4 hu (by omega)]
          simp only [afterU]
          rw [if_pos g3]
          exact pair_err h hr
        · cases hr
    · rename_i g2
      rw [if_neg g2]
      exact hr
theorem escL_agree {l l' : List UInt8} {n : Nat} (h : Agree l l' n) {i p k : Nat} (hb : hasAt l i (· == 92) = true) (hr : escL l (i + 1) = .ok (p, k)) (hk : k ≤ n) : escapeL l' i = .ok (encL p, k) := by
  have e := escape_of hb
  rw [hr] at e
  exact escape_agree h e hk

theorem digits_err {l l' : List UInt8} {n : Nat} (h : Agree l l' n) {i : Nat} (hr : digitsL l i = .error n) : digitsL l' i = .error n := by
  have e := digitsL_error hr
  unfold digitsL at hr ⊢
  rw [h.has (by omega)]
  split at hr
  · cases hr
  · rename_i g
    rw [if_neg g]
    exact hr
theorem digits_ok {l l' : List UInt8} {n : Nat} (h : Agree l l' n) {i k : Nat} (hr : digitsL l i = .ok k) (hk : k < n) : digitsL l' i = .ok k := by
  have e := digitsL_le hr
  unfold digitsL at hr ⊢
  rw [h.has (by omega)]
  split at hr
  · rename_i g
    have e2 := Except.ok.inj hr
    rw [if_pos g, pass_agree h digitB (by omega), e2]
  · cases hr
theorem aft_agree {l l' : List UInt8} {n : Nat} (h : Agree l l' n) {i : Nat} (hi : i < n) (p : Int → Bool) : aft l' i p = aft l i p := by
  unfold aft
  rw [h.has hi]
theorem whole_ok {l l' : List UInt8} {n : Nat} (h : Agree l l' n) {i k : Nat} (hr : wholeL l i = .ok k) (hk : k < n) : wholeL l' i = .ok k := by
  have e := wholeL_le hr
  unfold wholeL at hr ⊢
  rw [aft_agree h (by omega)]
  have ha := aft_le l i (· == 45)
  split at hr
  · rename_i g
    have e2 := Except.ok.inj hr
    rw [h.has (by omega), if_pos g, e2]
  · rename_i g
    have e2 := digitsL_le hr
    rw [h.has (by omega), if_neg g]
    exact digits_ok h hr hk
theorem whole_err {l l' : List UInt8} {n : Nat} (h : Agree l l' n) {i : Nat} (hr : wholeL l i = .error n) : wholeL l' i = .error n ∧ i < n := by
  unfold wholeL at hr ⊢
  have ha := aft_le l i (· == 45)
  split at hr
  · cases hr
  · rename_i g
    have e2 := digitsL_error hr
    rw [aft_agree h (by omega), h.has (by omega), if_neg g]
    exact ⟨digits_err h hr, by omega⟩
theorem frac_ok {l l' : List UInt8} {n : Nat} (h : Agree l l' n) {i k : Nat} (hi : i ≤ l.length) (hr : fracPart l (.ok i) = .ok k) (hk : k < n) : fracPart l' (.ok i) = .ok k := by
  have e := fracPart_le hi hr
  simp only [fracPart] at hr ⊢
  rw [h.has (by omega)]
  split at hr
  · rename_i g
    rw [if_pos g]
    exact digits_ok h hr hk
  · rename_i g
    rw [if_neg g]
    exact hr
theorem number_err {l l' : List UInt8} {n : Nat} (h : Agree l l' n) {i : Nat} (hr : numberL l i = .error n) : numberL l' i = .error n ∧ i < n := by
  unfold numberL at hr ⊢
  cases hw : wholeL l i with
  | error a =>
    rw [hw] at hr
    have e : a = n := Except.error.inj hr
    subst e
    have := whole_err h hw
    rw [this.1]
    exact ⟨rfl, this.2⟩
  | ok a =>
    rw [hw] at hr
    have hwl := wholeL_le hw
    cases hf : fracPart l (.ok a) with
    | error b =>
      rw [hf] at hr
      have e : b = n := Except.error.inj hr
      subst e
      simp only [fracPart] at hf
      split at hf
      · rename_i g
        have e2 := digitsL_error hf
        rw [whole_ok h hw (by omega)]
        simp only [fracPart]
        rw [h.has (by omega), if_pos g, digits_err h hf]
        exact ⟨rfl, by omega⟩
      · cases hf
    | ok b =>
      rw [hf] at hr
      have hfl := fracPart_le hwl.2 hf
      simp only [expPart] at hr
      split at hr
      · rename_i g
        have ha := aft_le l (b + 1) (fun c => c == 43 || c == 45)
        have e2 := digitsL_error hr
        rw [whole_ok h hw (by omega), frac_ok h hwl.2 hf (by omega)]
        simp only [expPart]
        rw [h.has (by omega), if_pos g]
        unfold exponentL at hr ⊢
        rw [aft_agree h (by omega)]
        exact ⟨digits_err h hr, by omega⟩
      · cases hr
theorem stepL_good {l l' : List UInt8} {n : Nat} (h : Agree l l' n) {i m : Nat} (hs : stepL l i = (m, true)) (hm : i + m ≤ n) : stepL l' i = (m, true) := by
  unfold stepL at hs ⊢
  have := h.le'
  exact step_good _ _ _ _ m (fun _ => bx_lo _ _) (fun _ => bx_hi _ _) hs (by omega) (fun j hj => h.bx (by omega))
theorem text_err {l l' : List UInt8} {n : Nat} (h : Agree l l' n) {i : Nat} (hi : i < l.length) (hr : textL l i = .error n) : textL l' i = .error n := by
  have hn := h.le
  have hn' := h.le'
  refine (textT_err (l := l) (fr := i) (n := n) (P := fun j out => textT l' i j out = .error n) ?_ ?_ ?_ ?_ ?_ ?_ l.length (i + 1) [] (by omega) (by omega) hr).2
  · intro out e; omega
  · intro j out hj c e
    have hjn : j < n := by omega
    rw [textT_low (by omega) (by rw [h.bx hjn]; exact c), e]
  · intro j out hj c e
    have hg := escL_gt e
    have hjn : j < n := by omega
    have hc' : bx l' j = 92 := by rw [h.bx hjn]; exact c
    rw [textT_back (by omega) hc', escape_of (by rw [hasAt_in _ (by omega), hc']; rfl), escL_err h e]
  · intro j out p k hj c e hk hP
    have hb : hasAt l j (· == 92) = true := by rw [hasAt_in _ hj, c]; rfl
    have hg := escL_ok_gt hb e
    have hjn : j < n := by omega
    have hc' : bx l' j = 92 := by rw [h.bx hjn]; exact c
    show textT l' i j out = .error n
    have hP' : textT l' i k (out ++ encL p) = .error n := hP
    rw [textT_back (by omega) hc', escL_agree h hb e (by omega)]
    simp only
    exact hP'
  · intro j out m hj c e en
    have hjn : j < n := by omega
    have e' : stepL l' j = (m, false) := by
      unfold stepL at e ⊢
      refine step_cut (l.length - j) (l'.length - j) (fun q => bx l (j + q)) (fun q => bx l' (j + q)) m (bx_lo _ _) (bx_hi _ _) e (h.bx (j := j + 0) (by omega)) (fun q hq => h.bx (j := j + q) (by omega)) (by omega) (.inr (.inr ⟨by omega, h.bx (j := j + m) (by omega)⟩))
    show textT l' i j out = .error n
    rw [textT_step (by omega) (by rw [h.bx hjn]; exact c), e']
    simp only [Bool.false_eq_true, if_false]
    rw [en]
  · intro j out m hj c e hk hP
    have hjn : j < n := by omega
    show textT l' i j out = .error n
    rw [textT_step (by omega) (by rw [h.bx hjn]; exact c), stepL_good h e (by omega)]
    simp only [if_true]
    rw [h.sub (by omega)]
    exact hP
theorem stands_err {k : Nat} {l : List UInt8} {i n : Nat} {p : Pl} (h : stands k l i p = .error n) : p = .error n := by
  cases p with
  | error m =>
    have h' : (Except.error m : Tk) = .error n := h
    rw [Except.error.inj h']
  | ok e => cases h
/-- The ways in which what is read at a place is bad. -/
theorem readL_bad {l : List UInt8} {p n : Nat} (hp : p ≤ l.length) (h : readL l p = .error n) : p < l.length ∧ signB (bx l p) = false ∧
    ((bx l p = 110 ∧ spelledL l p [110, 117, 108, 108] = .error n) ∨ (bx l p = 116 ∧ spelledL l p [116, 114, 117, 101] = .error n) ∨ (bx l p = 102 ∧ spelledL l p [102, 97, 108, 115, 101] = .error n) ∨
     ((bx l p = 45 ∨ digitB (bx l p) = true) ∧ numberL l p = .error n) ∨ (bx l p = 34 ∧ textL l p = .error n) ∨
     (bx l p ≠ 110 ∧ bx l p ≠ 116 ∧ bx l p ≠ 102 ∧ bx l p ≠ 45 ∧ digitB (bx l p) = false ∧ bx l p ≠ 34 ∧ n = p + 1)) := by
  unfold readL at h
  split at h
  · cases h
  · rename_i h0
    split at h
    · cases h
    · rename_i hs
      refine ⟨by omega, by simpa using hs, ?_⟩
      split at h
      · rename_i c; exact .inl ⟨c, stands_err h⟩
      · rename_i n1
        split at h
        · rename_i c; exact .inr (.inl ⟨c, stands_err h⟩)
        · rename_i n2
          split at h
          · rename_i c; exact .inr (.inr (.inl ⟨c, stands_err h⟩))
          · rename_i n3
            split at h
            · rename_i c; exact .inr (.inr (.inr (.inl ⟨c, stands_err h⟩)))
            · rename_i n4
              split at h
              · rename_i c; exact .inr (.inr (.inr (.inr (.inl ⟨c, h⟩))))
              · rename_i n5
                have e := Except.error.inj h
                have n6 : ¬ bx l p = 45 := fun c => n4 (.inl c)
                have n7 : digitB (bx l p) = false := by
                  cases hd : digitB (bx l p)
                  · rfl
                  · exact absurd (.inr hd) n4
                exact .inr (.inr (.inr (.inr (.inr ⟨n1, n2, n3, n6, n7, n5, e.symm⟩))))
theorem readL_err {l l' : List UInt8} {n : Nat} (h : Agree l l' n) {p : Nat} (hp : p ≤ l.length) (hr : readL l p = .error n) : readL l' p = .error n ∧ p < n := by
  have hn' := h.le'
  obtain ⟨hlt, hs, hw⟩ := readL_bad hp hr
  have hpn : p < n := by
    rcases hw with ⟨_, w⟩ | ⟨_, w⟩ | ⟨_, w⟩ | ⟨_, w⟩ | ⟨_, w⟩ | w
    · exact (spelled_gt _ w).1
    · exact (spelled_gt _ w).1
    · exact (spelled_gt _ w).1
    · exact (number_err h w).2
    · have := textL_gt hlt w; omega
    · omega
  have hb := h.bx hpn
  have hlt' : p < l'.length := by omega
  have RW := readL_word (l := l') hlt' (by rw [hb]; exact hs)
  rw [hb] at RW
  refine ⟨?_, hpn⟩
  rcases hw with ⟨c, w⟩ | ⟨c, w⟩ | ⟨c, w⟩ | ⟨c, w⟩ | ⟨c, w⟩ | ⟨n1, n2, n3, n4, n5, n6, e⟩
  · rw [RW.1 c, spelled_err h _ w]; rfl
  · rw [RW.2.1 c, spelled_err h _ w]; rfl
  · rw [RW.2.2.1 c, spelled_err h _ w]; rfl
  · rcases c with c | c
    · rw [RW.2.2.2.1 c, (number_err h w).1]; rfl
    · rw [RW.2.2.2.2.1 c, (number_err h w).1]; rfl
  · rw [RW.2.2.2.2.2 c, text_err h hlt w]
  · rw [readL_none hlt' (by rw [hb]; exact hs) (by rw [hb]; exact n1) (by rw [hb]; exact n2) (by rw [hb]; exact n3) (by rw [hb]; exact n4) (by rw [hb]; exact n5) (by rw [hb]; exact n6), e]
/-- What is bad stays so, whatever stands behind the bad beginning. -/
theorem next_err {l : List UInt8} {n : Nat} (hr : nextL l 0 = .error n) (hn : n ≤ l.length) (more : List UInt8) : nextL (l.take n ++ more) 0 = .error n := by
  have h := agree_take l more n hn
  have a := readL_err h (pass_le (Nat.zero_le _)) hr
  unfold nextL
  rw [pass_agree h blankB a.2]
  exact a.1
end Go.Proofs.YtlahlnocjfphjaaGreatDoor.Lx

namespace Go.Proofs.YtlahlnocjfphjaaGreatDoor.Lx
open Go.RowKit

/-- The ends that are tried. -/
def endsL : List (List UInt8) := [[], [48], [34], [117, 108, 108], [108, 108], [108], [114, 117, 101], [117, 101], [101], [97, 108, 115, 101], [108, 115, 101], [115, 101], [117, 48, 48, 48, 48, 34], [48, 48, 48, 48, 34], [48, 48, 48, 34], [48, 48, 34], [48, 34],
  [92, 117, 100, 99, 48, 48, 34], [117, 100, 99, 48, 48, 34], [100, 99, 48, 48, 34], [99, 48, 48, 34], [128, 34], [160, 128, 34], [128, 128, 34], [144, 128, 128, 34], [128, 128, 128, 34], [34, 34], [56, 48, 48, 34], [48, 48, 92, 117, 100, 99, 48, 48, 34], [48, 92, 117, 100, 99, 48, 48, 34]]

theorem take_len {l : List UInt8} {N : Nat} (h : N ≤ l.length) : (l.take N).length = N := by simp; omega
theorem bx_end {l e : List UInt8} {N : Nat} (h : N ≤ l.length) (q : Nat) : bx (l.take N ++ e) (N + q) = bx e q := by
  unfold bx
  rw [List.getElem?_append_right (by rw [take_len h]; omega), take_len h, show N + q - N = q by omega]
theorem end_len {l e : List UInt8} {N : Nat} (h : N ≤ l.length) : (l.take N ++ e).length = N + e.length := by rw [List.length_append, take_len h]
theorem has_end {l e : List UInt8} {N : Nat} (h : N ≤ l.length) {q : Nat} (hq : q < e.length) (p : Int → Bool) : hasAt (l.take N ++ e) (N + q) p = p (bx e q) := by
  rw [hasAt_in _ (by rw [end_len h]; omega), bx_end h]

theorem spelled_at (cs : List UInt8) : ∀ {l : List UInt8} {i : Nat}, i + cs.length ≤ l.length → (∀ q, q < cs.length → bx l (i + q) = bx cs q) → spelledL l i cs = .ok (i + cs.length) := by
  induction cs with
  | nil => intro l i _ _; rfl
  | cons c cs ih =>
    intro l i hl h
    rw [List.length_cons] at hl h
    have h0 := h 0 (by omega)
    have hc : hasAt l i (· == (c.toNat : Int)) = true := by
      rw [hasAt_in _ (by omega)]
      have : bx l i = (c.toNat : Int) := by rw [Nat.add_zero] at h0; rw [h0]; simp [bx]
      simp [this]
    simp only [spelledL]
    rw [if_pos hc, ih (by omega) (fun q hq => by
      have := h (q + 1) (by omega)
      rw [show i + 1 + q = i + (q + 1) by omega, this]
      simp [bx]), List.length_cons]
    congr 1
    omega
theorem spelled_fill {l : List UInt8} (cs : List UInt8) : ∀ {i n : Nat}, i ≤ l.length → spelledL l i cs = .error n → n - 1 ≤ l.length ∧ ∀ y, spelledL (l.take (n - 1) ++ (cs.drop (n - 1 - i) ++ y)) i cs = .ok (i + cs.length) := by
  induction cs with
  | nil => intro i n _ h; simp [spelledL] at h
  | cons c cs ih =>
    intro i n hi h
    have hg := spelled_gt (c :: cs) h
    simp only [spelledL] at h
    split at h
    · rename_i g
      have hlt := hasAt_lt g
      have hg2 := (spelled_gt cs h).1
      have r := ih (by omega) h
      refine ⟨r.1, fun y => ?_⟩
      have e : n - 1 - i = (n - 1 - (i + 1)) + 1 := by omega
      rw [e, List.drop_succ_cons]
      have ha := agree_take l (cs.drop (n - 1 - (i + 1)) ++ y) (n - 1) r.1
      simp only [spelledL]
      rw [ha.has (by omega), if_pos g, r.2 y, List.length_cons]
      congr 1
      omega
    · have e := Except.error.inj h
      have e1 : n - 1 = i := by omega
      rw [e1]
      refine ⟨hi, fun y => ?_⟩
      rw [show i - i = 0 by omega, List.drop_zero]
      refine spelled_at (c :: cs) (by rw [end_len hi, List.length_append]; omega) (fun q hq => ?_)
      rw [bx_end hi]
      unfold bx
      rw [List.getElem?_append_left hq]

theorem digits_end {l : List UInt8} {N : Nat} (h : N ≤ l.length) : digitsL (l.take N ++ [48]) N = .ok (N + 1) := by
  have hh := has_end (e := [48]) h (q := 0) (by simp) digitB
  rw [Nat.add_zero] at hh
  unfold digitsL
  rw [hh, if_pos (by decide), pass_stop (hasAt_out _ (by rw [end_len h]; simp))]
theorem number_fill {l : List UInt8} {p n : Nat} (hp : p < l.length) (hc : bx l p = 45 ∨ digitB (bx l p) = true) (h : numberL l p = .error n) : n - 1 ≤ l.length ∧ p < n - 1 ∧ numberL (l.take (n - 1) ++ [48]) p = .ok n := by
  have last : ∀ {N : Nat}, N ≤ l.length → expPart (l.take N ++ [48]) (.ok (N + 1)) = .ok (N + 1) := fun {N} hN => by
    simp only [expPart]
    rw [hasAt_out _ (by rw [end_len hN]; simp), if_neg (by simp)]
  have last2 : ∀ {N : Nat}, N ≤ l.length → fracPart (l.take N ++ [48]) (.ok (N + 1)) = .ok (N + 1) := fun {N} hN => by
    simp only [fracPart]
    rw [hasAt_out _ (by rw [end_len hN]; simp), if_neg (by simp)]
  unfold numberL at h ⊢
  cases hw : wholeL l p with
  | error a =>
    rw [hw] at h
    have e : a = n := Except.error.inj h
    subst e
    unfold wholeL at hw
    have ha := aft_le l p (· == 45)
    split at hw
    · cases hw
    · rename_i g
      have e2 := digitsL_error hw
      have hap : aft l p (· == 45) = p + 1 := by
        unfold aft
        rcases hc with c | c
        · rw [if_pos (by rw [hasAt_in _ hp, c]; rfl)]
        · exfalso
          have c45 : ¬ bx l p = 45 := by simp [digitB] at c; omega
          have : aft l p (· == 45) = p := by unfold aft; rw [if_neg (by rw [hasAt_in _ hp]; simpa using c45)]
          rw [this] at hw
          unfold digitsL at hw
          rw [hasAt_in _ hp, if_pos c] at hw
          cases hw
      rw [hap] at e2 ha
      have hN : p + 1 ≤ l.length := by omega
      rw [show a - 1 = p + 1 by omega]
      have hA := agree_take l [48] (p + 1) hN
      refine ⟨hN, by omega, ?_⟩
      have hw' : wholeL (l.take (p + 1) ++ [48]) p = .ok (p + 1 + 1) := by
        unfold wholeL
        rw [aft_agree hA (by omega), hap]
        have hh := has_end (e := [48]) hN (q := 0) (by simp) (· == 48)
        rw [Nat.add_zero] at hh
        rw [hh, if_pos (by decide)]
      rw [hw', last2 hN, last hN, show p + 1 + 1 = a by omega]
  | ok a =>
    rw [hw] at h
    have hwl := wholeL_le hw
    cases hf : fracPart l (.ok a) with
    | error b =>
      rw [hf] at h
      have e : b = n := Except.error.inj h
      subst e
      simp only [fracPart] at hf
      split at hf
      · rename_i g
        have e2 := digitsL_error hf
        have g1 := hasAt_lt g
        have hN : a + 1 ≤ l.length := by omega
        rw [show b - 1 = a + 1 by omega]
        have hA := agree_take l [48] (a + 1) hN
        refine ⟨hN, by omega, ?_⟩
        rw [whole_ok hA hw (by omega)]
        have hf' : fracPart (l.take (a + 1) ++ [48]) (.ok a) = .ok (a + 1 + 1) := by
          simp only [fracPart]
          rw [hA.has (by omega), if_pos g, digits_end hN]
        rw [hf', last hN, show a + 1 + 1 = b by omega]
      · cases hf
    | ok b =>
      rw [hf] at h
      have hfl := fracPart_le hwl.2 hf
      simp only [expPart] at h
      split at h
      · rename_i g
        have g1 := hasAt_lt g
        have ha := aft_le l (b + 1) (fun c => c == 43 || c == 45)
        unfold exponentL at h
        have e2 := digitsL_error h
        have hN : aft l (b + 1) (fun c => c == 43 || c == 45) ≤ l.length := by omega
        obtain ⟨N, hNe⟩ : ∃ N, aft l (b + 1) (fun c => c == 43 || c == 45) = N := ⟨_, rfl⟩
        rw [hNe] at ha e2 hN
        rw [show n - 1 = N by omega]
        have hA := agree_take l [48] N hN
        refine ⟨hN, by omega, ?_⟩
        rw [whole_ok hA hw (by omega), frac_ok hA hwl.2 hf (by omega)]
        simp only [expPart]
        rw [hA.has (by omega), if_pos g]
        unfold exponentL
        have hs : aft (l.take N ++ [48]) (b + 1) (fun c => c == 43 || c == 45) = N := by
          by_cases hb : b + 1 < N
          · rw [aft_agree hA hb, hNe]
          · have hb2 : b + 1 = N := by omega
            unfold aft
            have hh := has_end (e := [48]) hN (q := 0) (by simp) (fun c => c == 43 || c == 45)
            rw [Nat.add_zero] at hh
            rw [hb2, hh, if_neg (by decide)]
        rw [hs, digits_end hN, show N + 1 = n by omega]
      · cases h

/-- Digits of 16 that are put behind a number. -/
def foldV (v : Nat) (ds : List UInt8) : Nat := ds.foldl (fun v c => valU v (c.toNat : Int)) v
theorem valU_bd (v : Nat) (c : Int) : v * 16 ≤ valU v c ∧ valU v c < (v + 1) * 16 := by
  have := hexV_bd c
  unfold valU
  omega
theorem foldV_bd (ds : List UInt8) : ∀ v, v * 16 ^ ds.length ≤ foldV v ds ∧ foldV v ds < (v + 1) * 16 ^ ds.length := by
  induction ds with
  | nil => intro v; simp [foldV]
  | cons c ds ih =>
    intro v
    have a := ih (valU v (c.toNat : Int))
    have b := valU_bd v (c.toNat : Int)
    have e : foldV v (c :: ds) = foldV (valU v (c.toNat : Int)) ds := rfl
    rw [e, List.length_cons, Nat.pow_succ]
    have hp : 0 < 16 ^ ds.length := Nat.pow_pos (by omega)
    constructor
    · refine Nat.le_trans ?_ a.1
      rw [Nat.mul_comm (16 ^ ds.length) 16, ← Nat.mul_assoc]
      exact Nat.mul_le_mul_right _ b.1
    · refine Nat.lt_of_lt_of_le a.2 ?_
      rw [Nat.mul_comm (16 ^ ds.length) 16, ← Nat.mul_assoc]
      exact Nat.mul_le_mul_right _ (by omega)
/-- What is asked of the number in the end. -/
def wantN (low : Bool) (F : Nat) : Prop := if low = true then 56320 ≤ F ∧ F ≤ 57343 else ¬ (56320 ≤ F ∧ F ≤ 57343)
theorem want_in {low : Bool} {F : Nat} {a b : Int} (h : wantN low F) (h1 : a ≤ (F : Int)) (h2 : (F : Int) ≤ b) : wantB low a b = true := by
  unfold wantN at h
  unfold wantB
  cases low
  · simp only [Bool.false_eq_true, if_false] at h ⊢
    simp [notLowB]
    omega
  · simp only [if_true] at h ⊢
    simp [lowB]
    omega
theorem pow2 (k : Nat) : (2 : Int) ^ (4 * k) = ((16 ^ k : Nat) : Int) := by
  rw [Int.pow_mul]
  simp
theorem unit_fill {l : List UInt8} {low : Bool} (ds : List UInt8) : ∀ {p val F : Nat}, p + ds.length ≤ l.length → (∀ q, q < ds.length → bx l (p + q) = bx ds q ∧ hexB (bx ds q) = true) → foldV val ds = F → wantN low F → unitF l low ds.length p val = .ok (F, p + ds.length) := by
  induction ds with
  | nil => intro p val F _ _ hF _; simp only [foldV, List.foldl_nil] at hF; subst hF; rfl
  | cons c ds ih =>
    intro p val F hl h hF hw
    rw [List.length_cons] at hl h ⊢
    have h0 := h 0 (by omega)
    rw [Nat.add_zero] at h0
    have hb0 : bx (c :: ds) 0 = (c.toNat : Int) := by simp [bx]
    rw [hb0] at h0
    have eF : foldV (valU val (c.toNat : Int)) ds = F := hF
    have bd := foldV_bd ds (valU val (c.toNat : Int))
    rw [eF] at bd
    have hst : hasAt l p (stepU low val (4 * ds.length)) = true := by
      rw [hasAt_in _ (by omega), h0.1]
      unfold stepU
      rw [h0.2, Bool.true_and, pow2]
      have hv := valU_int val (c.toNat : Int)
      rw [← hv]
      refine want_in hw ?_ ?_
      · have := bd.1; rw [← Int.natCast_mul]; omega
      · have h2 := bd.2
        rw [Nat.add_mul, Nat.one_mul] at h2
        rw [← Int.natCast_mul]
        omega
    rw [unitF_step hst, h0.1, ih (by omega) (fun q hq => by
      have := h (q + 1) (by omega)
      rw [show p + 1 + q = p + (q + 1) by omega]
      have e : bx (c :: ds) (q + 1) = bx ds q := by simp [bx]
      rw [e] at this
      exact this) eF hw]
    rw [show p + 1 + ds.length = p + (ds.length + 1) by omega]
end Go.Proofs.YtlahlnocjfphjaaGreatDoor.Lx

namespace Go.Proofs.YtlahlnocjfphjaaGreatDoor.Lx
open Go.RowKit

/-- What is known of the digits so far, with so many left. -/
def INV (low : Bool) (k v : Nat) : Prop :=
  (k = 4 → v = 0) ∧ (k = 3 → v < 16) ∧ (k = 2 → v < 256) ∧ (k = 1 → v < 4096) ∧ (k < 4 → wantB low ((v : Int) * 2 ^ (4 * k)) ((v : Int) * 2 ^ (4 * k) + (2 ^ (4 * k) - 1)) = true)
theorem unit_end {l : List UInt8} {low : Bool} (k : Nat) : ∀ {i val n : Nat}, k ≤ 4 → i ≤ l.length → INV low k val → unitF l low k i val = .error n →
    ∃ k' v, 1 ≤ k' ∧ k' ≤ k ∧ n - 1 = i + (k - k') ∧ n - 1 ≤ l.length ∧ INV low k' v ∧ ∀ l', Agree l l' (n - 1) → unitF l' low k i val = unitF l' low k' (n - 1) v := by
  induction k with
  | zero => intro i val n _ _ _ h; simp [unitF] at h
  | succ k ih =>
    intro i val n hk hi hinv h
    cases hg : hasAt l i (stepU low val (4 * k))
    · rw [unitF_stop hg] at h
      have e := Except.error.inj h
      have e1 : n - 1 = i := by omega
      rw [e1]
      exact ⟨k + 1, val, by omega, Nat.le_refl _, by omega, hi, hinv, fun l' _ => rfl⟩
    · rw [unitF_step hg] at h
      have hlt := hasAt_lt hg
      have hst := hg
      rw [hasAt_in _ hlt] at hst
      unfold stepU at hst
      rw [Bool.and_eq_true] at hst
      have hv := valU_int val (bx l i)
      have hb := valU_bd val (bx l i)
      have hinv2 : INV low k (valU val (bx l i)) := by
        obtain ⟨i4, i3, i2, i1, _⟩ := hinv
        refine ⟨fun e => by omega, fun e => ?_, fun e => ?_, fun e => ?_, fun _ => ?_⟩
        · have := i4 (by omega); omega
        · have := i3 (by omega); omega
        · have := i2 (by omega); omega
        · rw [hv]; exact hst.2
      obtain ⟨k', v, a, b, c, d, e, f⟩ := ih (by omega) (by omega) hinv2 h
      refine ⟨k', v, a, by omega, by omega, d, e, fun l' hA => ?_⟩
      rw [unitF_step (l := l') (by rw [hA.has (by omega)]; exact hg), hA.bx (by omega)]
      exact f l' hA
theorem invA (low : Bool) : INV low 4 0 := ⟨fun _ => rfl, by omega, by omega, by omega, by omega⟩

theorem esc_u {l l' : List UInt8} {q N : Nat} (hA : Agree l l' N) (hq : q < N) (h1 : ¬ hasAt l q meanB = true) (h2 : hasAt l q (· == 117) = true) : escL l' q = afterU l' (unitL l' false (q + 1)) := by
  unfold escL
  rw [hA.has hq, hA.has hq, if_neg h1, if_pos h2]

theorem unit_put {l : List UInt8} {low : Bool} {N v F : Nat} (ds y : List UInt8) (hN : N ≤ l.length) (hx : ∀ q, q < ds.length → hexB (bx ds q) = true) (hF : foldV v ds = F) (hw : wantN low F) :
    unitF (l.take N ++ (ds ++ y)) low ds.length N v = .ok (F, N + ds.length) := by
  refine unit_fill ds (by rw [end_len hN, List.length_append]; omega) (fun q hq => ⟨?_, hx q hq⟩) hF hw
  rw [bx_end hN]
  unfold bx
  rw [List.getElem?_append_left hq]
theorem hex4 : ∀ q, q < 4 → hexB (bx [100, 99, 48, 48] q) = true := by decide
theorem low4 : foldV 0 [100, 99, 48, 48] = 56320 := by decide
theorem wlow : wantN true 56320 := by unfold wantN; simp
/-- A low surrogate's escape at a place. -/
theorem pair_put {l x : List UInt8} {e high : Nat} (y : List UInt8) (hx : l = x ++ ([92, 117] ++ ([100, 99, 48, 48] ++ y))) (he : x.length = e) : pairL l e high = .ok (65536 + (high - 55296) * 1024 + (56320 - 56320), e + 6) := by
  have hlen : l.length = e + 6 + y.length := by rw [hx]; simp; omega
  have hb : ∀ j, bx l (e + j) = bx ([92, 117] ++ ([100, 99, 48, 48] ++ y)) j := fun j => by
    rw [hx]
    unfold bx
    rw [List.getElem?_append_right (by omega), show e + j - x.length = j by omega]
  have hs : spelledL l e [92, 117] = .ok (e + 2) := by
    refine spelled_at [92, 117] (by simp; omega) (fun q hq => ?_)
    rw [hb]
    unfold bx
    rw [List.getElem?_append_left hq]
  have hu : unitF l true [100, 99, 48, 48].length (e + 2) 0 = .ok (56320, e + 2 + [100, 99, 48, 48].length) := by
    refine unit_fill [100, 99, 48, 48] (by simp; omega) (fun q hq => ⟨?_, hex4 q hq⟩) low4 wlow
    rw [show e + 2 + q = e + (2 + q) by omega, hb]
    unfold bx
    rw [List.getElem?_append_right (by simp), show 2 + q - [(92 : UInt8), 117].length = q by simp, List.getElem?_append_left hq]
  unfold pairL
  rw [hs]
  simp only
  rw [show unitL l true (e + 2) = .ok (56320, e + 2 + 4) from hu]

theorem zero_hex (k : Nat) : ∀ q, q < (List.replicate k (48 : UInt8)).length → hexB (bx (List.replicate k 48) q) = true := by
  intro q hq
  rw [List.length_replicate] at hq
  have : bx (List.replicate k 48) q = 48 := by unfold bx; rw [List.getElem?_replicate, if_pos hq]; rfl
  rw [this]
  decide
theorem foldV_zero (k : Nat) : ∀ v, foldV v (List.replicate k 48) = v * 16 ^ k := by
  induction k with
  | zero => intro v; simp [foldV]
  | succ k ih =>
    intro v
    rw [List.replicate_succ]
    have e : foldV v (48 :: List.replicate k 48) = foldV (valU v ((48 : UInt8).toNat : Int)) (List.replicate k 48) := rfl
    have e2 : valU v ((48 : UInt8).toNat : Int) = v * 16 := by unfold valU; simp; decide
    rw [e, e2, ih, Nat.pow_succ, Nat.mul_assoc, Nat.mul_comm 16]

set_option maxRecDepth 10000 in
theorem esc_fill {l : List UInt8} {q n : Nat} (hq : q ≤ l.length) (h : escL l q = .error n) : n - 1 ≤ l.length ∧ q ≤ n - 1 ∧ ∃ w p, (w ++ [34]) ∈ endsL ∧ escL (l.take (n - 1) ++ (w ++ [34])) q = .ok (p, n - 1 + w.length) := by
  have h0 := h
  unfold escL at h0
  split at h0
  · cases h0
  · rename_i g1
    split at h0
    · rename_i g2
      have hqlt := hasAt_lt g2
      cases hu : unitL l false (q + 1) with
      | error m =>
        rw [hu] at h0
        have e : m = n := Except.error.inj h0
        subst e
        obtain ⟨k, v, k1, k4, hN, hNl, hinv, hput⟩ := unit_end 4 (Nat.le_refl _) (by omega) (invA false) hu
        have hNq : q < m - 1 := by omega
        generalize m - 1 = N at *
        have key : ∀ w, escL (l.take N ++ (w ++ [34])) q = afterU (l.take N ++ (w ++ [34])) (unitF (l.take N ++ (w ++ [34])) false k N v) := fun w => by
          have hA := agree_take l (w ++ [34]) N hNl
          rw [esc_u hA hNq g1 g2]
          exact congrArg _ (hput _ hA)
        have hF := foldV_zero k v
        obtain ⟨i4, i3, i2, i1, iw⟩ := hinv
        have hw : wantN false (v * 16 ^ k) := by
          unfold wantN
          simp only [Bool.false_eq_true, if_false]
          have ek : k = 1 ∨ k = 2 ∨ k = 3 ∨ k = 4 := by omega
          rcases ek with rfl | rfl | rfl | rfl
          · have := iw (by omega); simp [wantB, notLowB] at this; omega
          · have := iw (by omega); simp [wantB, notLowB] at this; omega
          · have := iw (by omega); simp [wantB, notLowB] at this; omega
          · have := i4 rfl; omega
        by_cases hh : 55296 ≤ v * 16 ^ k ∧ v * 16 ^ k ≤ 56319
        · refine ⟨hNl, by omega, List.replicate k 48 ++ [92, 117, 100, 99, 48, 48], 65536 + (v * 16 ^ k - 55296) * 1024 + (56320 - 56320), ?_, ?_⟩
          · have ek : k = 1 ∨ k = 2 ∨ k = 3 ∨ k = 4 := by omega
            rcases ek with rfl | rfl | rfl | rfl
            · decide
            · decide
            · omega
            · have := i4 rfl; omega
          · rw [key, List.append_assoc]
            have hp := unit_put (low := false) (List.replicate k 48) ([92, 117, 100, 99, 48, 48] ++ [34]) hNl (zero_hex k) hF hw
            rw [List.length_replicate] at hp
            rw [hp]
            simp only [afterU]
            rw [if_pos hh, pair_put (x := l.take N ++ List.replicate k 48) (e := N + k) [34] (by simp) (by simp; omega)]
            simp
            omega
        · refine ⟨hNl, by omega, List.replicate k 48, v * 16 ^ k, ?_, ?_⟩
          · have ek : k = 1 ∨ k = 2 ∨ k = 3 ∨ k = 4 := by omega
            rcases ek with rfl | rfl | rfl | rfl <;> decide
          · rw [key]
            have hp := unit_put (low := false) (List.replicate k 48) [34] hNl (zero_hex k) hF hw
            rw [List.length_replicate] at hp
            rw [hp]
            simp only [afterU]
            rw [if_neg hh, List.length_replicate]
      | ok r =>
        rw [hu] at h0
        simp only [afterU] at h0
        have hr := unitL_le hu
        have hrl := hr.2 (by omega)
        split at h0
        · rename_i g3
          have key : ∀ w N, N ≤ l.length → r.2 ≤ N → escL (l.take N ++ (w ++ [34])) q = pairL (l.take N ++ (w ++ [34])) r.2 r.1 := fun w N hNl hrN => by
            have hA := agree_take l (w ++ [34]) N hNl
            rw [esc_u hA (by omega) g1 g2, show unitL (l.take N ++ (w ++ [34])) false (q + 1) = .ok r from unit_agree hA false 4 hu hrN]
            simp only [afterU]
            rw [if_pos g3]
          have hpg := pair_gt h0
          unfold pairL at h0
          cases hs : spelledL l r.2 [92, 117] with
          | error m =>
            rw [hs] at h0
            have e : m = n := Except.error.inj h0
            subst e
            have hg := spelled_gt _ hs
            have hf := spelled_fill _ hrl hs
            simp only [List.length_cons, List.length_nil] at hg
            by_cases e0 : m - 1 = r.2
            · rw [e0]
              refine ⟨hrl, by omega, [92, 117, 100, 99, 48, 48], 65536 + (r.1 - 55296) * 1024 + (56320 - 56320), by decide, ?_⟩
              rw [key _ _ hrl (Nat.le_refl _), pair_put (x := l.take r.2) (e := r.2) [34] (by simp) (take_len hrl)]
              simp
            · have e1 : m - 1 = r.2 + 1 := by omega
              have hNl : r.2 + 1 ≤ l.length := by have := hf.1; omega
              rw [e1]
              refine ⟨hNl, by omega, [117, 100, 99, 48, 48], 65536 + (r.1 - 55296) * 1024 + (56320 - 56320), by decide, ?_⟩
              rw [key _ _ hNl (by omega)]
              have hsp := hf.2 ([100, 99, 48, 48] ++ [34])
              rw [e1, show r.2 + 1 - r.2 = 1 by omega] at hsp
              have hsp2 : spelledL (l.take (r.2 + 1) ++ ([117, 100, 99, 48, 48] ++ [34])) r.2 [92, 117] = .ok (r.2 + 2) := hsp
              have hup : unitF (l.take (r.2 + 1) ++ ([117, 100, 99, 48, 48] ++ [34])) true [100, 99, 48, 48].length (r.2 + 2) 0 = .ok (56320, r.2 + 2 + [100, 99, 48, 48].length) := by
                refine unit_fill [100, 99, 48, 48] (by rw [end_len hNl]; simp <;> omega) (fun j hj => ⟨?_, hex4 j hj⟩) low4 wlow
                rw [show r.2 + 2 + j = r.2 + 1 + (1 + j) by omega, bx_end hNl]
                have : j = 0 ∨ j = 1 ∨ j = 2 ∨ j = 3 := by simp at hj; omega
                rcases this with rfl | rfl | rfl | rfl <;> decide
              unfold pairL
              rw [hsp2]
              simp only
              rw [show unitL (l.take (r.2 + 1) ++ ([117, 100, 99, 48, 48] ++ [34])) true (r.2 + 2) = .ok (56320, r.2 + 2 + 4) from hup]
              simp
          | ok j =>
            rw [hs] at h0
            simp only at h0
            have hj := spelledL_le _ hs
            have hj2 : j = r.2 + 2 := by simpa using hj.1
            have hjl := hj.2 hrl
            cases hu2 : unitL l true j with
            | ok r2 => rw [hu2] at h0; cases h0
            | error m =>
              rw [hu2] at h0
              have e : m = n := Except.error.inj h0
              subst e
              obtain ⟨k, v, k1, k4, hN, hNl, hinv, hput⟩ := unit_end 4 (Nat.le_refl _) hjl (invA true) hu2
              generalize m - 1 = N at *
              have hds : (([100, 99, 48, 48] : List UInt8).drop (4 - k)).length = k := by simp; omega
              have hF : wantN true (foldV v (([100, 99, 48, 48] : List UInt8).drop (4 - k))) := by
                obtain ⟨i4, i3, i2, i1, iw⟩ := hinv
                unfold wantN
                simp only [if_true]
                have ek : k = 1 ∨ k = 2 ∨ k = 3 ∨ k = 4 := by omega
                rcases ek with rfl | rfl | rfl | rfl
                · have := iw (by omega); simp [wantB, lowB] at this
                  have e : foldV v (([100, 99, 48, 48] : List UInt8).drop (4 - 1)) = v * 16 := by simp [foldV, valU, hexV, digitB]
                  rw [e]; omega
                · have := iw (by omega); simp [wantB, lowB] at this
                  have e : foldV v (([100, 99, 48, 48] : List UInt8).drop (4 - 2)) = v * 16 * 16 := by simp [foldV, valU, hexV, digitB]
                  rw [e]; omega
                · have := iw (by omega); simp [wantB, lowB] at this
                  have e : foldV v (([100, 99, 48, 48] : List UInt8).drop (4 - 3)) = (v * 16 + 12) * 16 * 16 := by simp [foldV, valU, hexV, digitB]
                  rw [e]; omega
                · have := i4 rfl
                  subst this
                  decide
              have hx : ∀ z, z < (([100, 99, 48, 48] : List UInt8).drop (4 - k)).length → hexB (bx (([100, 99, 48, 48] : List UInt8).drop (4 - k)) z) = true := by
                intro z hz
                have ek : k = 1 ∨ k = 2 ∨ k = 3 ∨ k = 4 := by omega
                rw [hds] at hz
                rw [bx_drop]
                exact hex4 _ (by omega)
              refine ⟨hNl, by omega, ([100, 99, 48, 48] : List UInt8).drop (4 - k), 65536 + (r.1 - 55296) * 1024 + (foldV v (([100, 99, 48, 48] : List UInt8).drop (4 - k)) - 56320), ?_, ?_⟩
              · have ek : k = 1 ∨ k = 2 ∨ k = 3 ∨ k = 4 := by omega
                rcases ek with rfl | rfl | rfl | rfl <;> decide
              · have hA := agree_take l (([100, 99, 48, 48] : List UInt8).drop (4 - k) ++ [34]) N hNl
                have hp := unit_put (low := true) (([100, 99, 48, 48] : List UInt8).drop (4 - k)) [34] hNl hx rfl hF
                rw [hds] at hp
                rw [key _ _ hNl (by omega)]
                unfold pairL
                rw [spelled_agree hA _ hs (by omega)]
                simp only
                rw [show unitL (l.take N ++ (([100, 99, 48, 48] : List UInt8).drop (4 - k) ++ [34])) true j = .ok (foldV v (([100, 99, 48, 48] : List UInt8).drop (4 - k)), N + k) from (hput _ hA).trans hp, hds]
        · cases h0
    · rename_i g2
      have e := Except.error.inj h0
      have e1 : n - 1 = q := by omega
      rw [e1]
      refine ⟨hq, Nat.le_refl _, [34], 34, by decide, ?_⟩
      unfold escL
      have hh := has_end (e := [34] ++ [34]) hq (q := 0) (by simp) meanB
      rw [Nat.add_zero] at hh
      have hb := bx_end (e := [34] ++ [34]) hq 0
      rw [Nat.add_zero] at hb
      rw [hh, if_pos (by decide), hb]
      rfl
end Go.Proofs.YtlahlnocjfphjaaGreatDoor.Lx

namespace Go.Proofs.YtlahlnocjfphjaaGreatDoor.Lx
open Go.RowKit

theorem pos3 {c : Int} (h : stN c = 3) : 224 ≤ c ∧ c ≤ 239 := stN_three c h
/-- The bytes that a code point lacks. -/
theorem step_fill {r : Nat} {F : Nat → Int} {m : Nat} (lo : 0 ≤ F 0) (hi : F 0 < 256) (h : stepF r F = (m, false)) (hm : 1 ≤ m) :
    ∃ w : List UInt8, (w ++ [34]) ∈ endsL ∧ ∀ (r' : Nat) (G : Nat → Int), m + w.length ≤ r' → (∀ q, q < m → G q = F q) → (∀ q, q < w.length → G (m + q) = bx w q) → stepF r' G = (m + w.length, true) := by
  rcases stepF_false r F m h with ⟨rfl, _⟩ | ⟨a1, a3, ah, s2, s3, _⟩
  · omega
  have hr := stN_range (F 0)
  have fin : ∀ (w : List UInt8), (w ++ [34]) ∈ endsL → (((m + w.length : Nat) : Int) = stN (F 0)) → (∀ (r' : Nat) (G : Nat → Int), m + w.length ≤ r' → (∀ q, q < m → G q = F q) → (∀ q, q < w.length → G (m + q) = bx w q) → passed r' G (m + w.length)) →
      ∃ w : List UInt8, (w ++ [34]) ∈ endsL ∧ ∀ (r' : Nat) (G : Nat → Int), m + w.length ≤ r' → (∀ q, q < m → G q = F q) → (∀ q, q < w.length → G (m + q) = bx w q) → stepF r' G = (m + w.length, true) := by
    intro w hw hs hp
    refine ⟨w, hw, fun r' G h1 h2 h3 => ?_⟩
    have e0 := h2 0 (by omega)
    exact stepF_whole r' G (by rw [e0]; exact lo) (by rw [e0]; exact hi) (by rw [e0]; omega) _ (by rw [e0]; exact hs) (hp r' G h1 h2 h3)
  have em : m = 1 ∨ m = 2 ∨ m = 3 := by omega
  have c0 : folB 128 = true := by decide
  rcases em with rfl | rfl | rfl
  · rcases hr with e | e | e | e | e
    · omega
    · omega
    · have b := stN_two _ e
      refine fin [128] (by decide) (by rw [e]; rfl) (fun r' G h1 h2 h3 => ⟨fun _ => ⟨by simp at h1; omega, ?_⟩, fun h => by simp at h, fun h => by simp at h⟩)
      have g1 : G 1 = 128 := by have := h3 0 (by simp); simpa [bx] using this
      rw [h2 0 (by omega), g1, secB_iff]
      repeat' split
      all_goals omega
    · have b := stN_three _ e
      by_cases z : F 0 = 224
      · refine fin [160, 128] (by decide) (by rw [e]; rfl) (fun r' G h1 h2 h3 => ⟨fun _ => ⟨by simp at h1; omega, ?_⟩, fun _ => ⟨by simp at h1; omega, ?_⟩, fun h => by simp at h⟩)
        · have g1 : G 1 = 160 := by have := h3 0 (by simp); simpa [bx] using this
          rw [h2 0 (by omega), g1, z]
          decide
        · have g2 : G 2 = 128 := by have := h3 1 (by simp); simpa [bx] using this
          rw [g2]
          exact c0
      · refine fin [128, 128] (by decide) (by rw [e]; rfl) (fun r' G h1 h2 h3 => ⟨fun _ => ⟨by simp at h1; omega, ?_⟩, fun _ => ⟨by simp at h1; omega, ?_⟩, fun h => by simp at h⟩)
        · have g1 : G 1 = 128 := by have := h3 0 (by simp); simpa [bx] using this
          rw [h2 0 (by omega), g1, secB_iff]
          repeat' split
          all_goals omega
        · have g2 : G 2 = 128 := by have := h3 1 (by simp); simpa [bx] using this
          rw [g2]
          exact c0
    · have b := stN_four _ e
      by_cases z : F 0 = 240
      · refine fin [144, 128, 128] (by decide) (by rw [e]; rfl) (fun r' G h1 h2 h3 => ⟨fun _ => ⟨by simp at h1; omega, ?_⟩, fun _ => ⟨by simp at h1; omega, ?_⟩, fun _ => ⟨by simp at h1; omega, ?_⟩⟩)
        · have g1 : G 1 = 144 := by have := h3 0 (by simp); simpa [bx] using this
          rw [h2 0 (by omega), g1, z]
          decide
        · have g2 : G 2 = 128 := by have := h3 1 (by simp); simpa [bx] using this
          rw [g2]
          exact c0
        · have g2 : G 3 = 128 := by have := h3 2 (by simp); simpa [bx] using this
          rw [g2]
          exact c0
      · refine fin [128, 128, 128] (by decide) (by rw [e]; rfl) (fun r' G h1 h2 h3 => ⟨fun _ => ⟨by simp at h1; omega, ?_⟩, fun _ => ⟨by simp at h1; omega, ?_⟩, fun _ => ⟨by simp at h1; omega, ?_⟩⟩)
        · have g1 : G 1 = 128 := by have := h3 0 (by simp); simpa [bx] using this
          rw [h2 0 (by omega), g1, secB_iff]
          repeat' split
          all_goals omega
        · have g2 : G 2 = 128 := by have := h3 1 (by simp); simpa [bx] using this
          rw [g2]
          exact c0
        · have g2 : G 3 = 128 := by have := h3 2 (by simp); simpa [bx] using this
          rw [g2]
          exact c0
  · have sec := s2 (by omega)
    rcases hr with e | e | e | e | e
    · omega
    · omega
    · omega
    · refine fin [128] (by decide) (by rw [e]; rfl) (fun r' G h1 h2 h3 => ⟨fun _ => ⟨by simp at h1; omega, ?_⟩, fun _ => ⟨by simp at h1; omega, ?_⟩, fun h => by simp at h⟩)
      · rw [h2 0 (by omega), h2 1 (by omega)]; exact sec
      · have g2 : G 2 = 128 := by have := h3 0 (by simp); simpa [bx] using this
        rw [g2]
        exact c0
    · refine fin [128, 128] (by decide) (by rw [e]; rfl) (fun r' G h1 h2 h3 => ⟨fun _ => ⟨by simp at h1; omega, ?_⟩, fun _ => ⟨by simp at h1; omega, ?_⟩, fun _ => ⟨by simp at h1; omega, ?_⟩⟩)
      · rw [h2 0 (by omega), h2 1 (by omega)]; exact sec
      · have g2 : G 2 = 128 := by have := h3 0 (by simp); simpa [bx] using this
        rw [g2]
        exact c0
      · have g2 : G 3 = 128 := by have := h3 1 (by simp); simpa [bx] using this
        rw [g2]
        exact c0
  · have sec := s2 (by omega)
    have fol := s3 (by omega)
    have e : stN (F 0) = 4 := by omega
    refine fin [128] (by decide) (by rw [e]; rfl) (fun r' G h1 h2 h3 => ⟨fun _ => ⟨by simp at h1; omega, ?_⟩, fun _ => ⟨by simp at h1; omega, ?_⟩, fun _ => ⟨by simp at h1; omega, ?_⟩⟩)
    · rw [h2 0 (by omega), h2 1 (by omega)]; exact sec
    · rw [h2 2 (by omega)]; exact fol
    · have g2 : G 3 = 128 := by have := h3 0 (by simp); simpa [bx] using this
      rw [g2]
      exact c0

theorem quote_end {l w : List UInt8} {N fr : Nat} (hN : N ≤ l.length) (out : List UInt8) : ∃ t, textT (l.take N ++ (w ++ [34])) fr (N + w.length) out = .ok t := by
  refine ⟨_, textT_quote (by rw [end_len hN]; simp) ?_⟩
  rw [bx_end hN]
  simp [bx]
/-- A string that is bad becomes one by another end. -/
theorem text_fill {l : List UInt8} {p n : Nat} (hp : p < l.length) (h : textL l p = .error n) : n - 1 ≤ l.length ∧ p < n - 1 ∧ ∃ e ∈ endsL, ∃ t, textL (l.take (n - 1) ++ e) p = .ok t := by
  have hgt := textL_gt hp h
  have key := (textT_err (l := l) (fr := p) (n := n) (P := fun j out => n - 1 ≤ l.length ∧ ∃ e ∈ endsL, ∃ t, textT (l.take (n - 1) ++ e) p j out = .ok t) ?_ ?_ ?_ ?_ ?_ ?_ l.length (p + 1) [] (by omega) (by omega) h).2
  · obtain ⟨hN, e, he, t, ht⟩ := key
    refine ⟨hN, by omega, e, he, t, ?_⟩
    exact ht
  · intro out e
    have hN : n - 1 = l.length := by omega
    refine ⟨by omega, [34], by decide, ?_⟩
    rw [hN]
    have := quote_end (l := l) (w := []) (N := l.length) (fr := p) (Nat.le_refl _) out
    simpa using this
  · intro j out hj c e
    have hN : n - 1 = j := by omega
    refine ⟨by omega, [34], by decide, ?_⟩
    rw [hN]
    have := quote_end (l := l) (w := []) (N := j) (fr := p) (by omega) out
    simpa using this
  · intro j out hj c e
    obtain ⟨hN, hq, w, pt, hw, hx⟩ := esc_fill (by omega) e
    refine ⟨hN, w ++ [34], hw, ?_⟩
    have hA := agree_take l (w ++ [34]) (n - 1) hN
    have hc' : bx (l.take (n - 1) ++ (w ++ [34])) j = 92 := by rw [hA.bx (by omega)]; exact c
    have hl' := hA.le'
    obtain ⟨t, ht⟩ := quote_end (l := l) (w := w) (N := n - 1) (fr := p) hN (out ++ encL pt)
    refine ⟨t, ?_⟩
    rw [textT_back (by omega) hc', escape_of (by rw [hasAt_in _ (by omega), hc']; rfl), hx]
    simp only
    exact ht
  · intro j out pt k hj c e hk hP
    obtain ⟨hN, ee, he, t, ht⟩ := hP
    refine ⟨hN, ee, he, t, ?_⟩
    have hb : hasAt l j (· == 92) = true := by rw [hasAt_in _ hj, c]; rfl
    have hg := escL_ok_gt hb e
    have hA := agree_take l ee (n - 1) hN
    have hl' := hA.le'
    have hc' : bx (l.take (n - 1) ++ ee) j = 92 := by rw [hA.bx (by omega)]; exact c
    rw [textT_back (by omega) hc', escL_agree hA hb e (by omega)]
    simp only
    exact ht
  · intro j out m hj c e en
    have hN : n - 1 = j + m := by omega
    unfold stepL at e
    have hle := stepF_le (l.length - j) (fun q => bx l (j + q)) (by omega)
    rw [e] at hle
    simp only at hle
    rw [hN]
    have hNl : j + m ≤ l.length := by omega
    by_cases hm : m = 0
    · subst hm
      refine ⟨hNl, [34], by decide, ?_⟩
      have := quote_end (l := l) (w := []) (N := j) (fr := p) (by omega) out
      simpa using this
    · obtain ⟨w, hw, hs⟩ := step_fill (F := fun q => bx l (j + q)) (bx_lo l (j + 0)) (bx_hi l (j + 0)) e (by omega)
      refine ⟨hNl, w ++ [34], hw, ?_⟩
      have hA := agree_take l (w ++ [34]) (j + m) hNl
      have hlen := end_len (e := w ++ [34]) hNl
      have hst : stepL (l.take (j + m) ++ (w ++ [34])) j = (m + w.length, true) := by
        unfold stepL
        refine hs _ (fun q => bx (l.take (j + m) ++ (w ++ [34])) (j + q)) (by rw [hlen]; simp; omega) (fun q hq => hA.bx (j := j + q) (by omega)) (fun q hq => ?_)
        show bx (l.take (j + m) ++ (w ++ [34])) (j + (m + q)) = bx w q
        rw [← Nat.add_assoc, bx_end hNl]
        unfold bx
        rw [List.getElem?_append_left hq]
      obtain ⟨t, ht⟩ := quote_end (l := l) (w := w) (N := j + m) (fr := p) hNl (out ++ sub (l.take (j + m) ++ (w ++ [34])) j (j + (m + w.length)))
      refine ⟨t, ?_⟩
      rw [textT_step (by rw [hlen]; simp; omega) (by rw [hA.bx (by omega)]; exact c), hst]
      simp only [if_true]
      rw [← Nat.add_assoc] at ht ⊢
      exact ht
  · intro j out m hj c e hk hP
    obtain ⟨hN, ee, he, t, ht⟩ := hP
    refine ⟨hN, ee, he, t, ?_⟩
    have hA := agree_take l ee (n - 1) hN
    have hl' := hA.le'
    have h1 := stepF_pos (l.length - j) (fun q => bx l (j + q)) (by unfold stepL at e; rw [e])
    unfold stepL at e
    rw [e] at h1
    simp only at h1
    rw [textT_step (by omega) (by rw [hA.bx (by omega)]; exact c), stepL_good hA e (by omega)]
    simp only [if_true]
    rw [hA.sub (by omega)]
    exact ht

theorem word_end {l : List UInt8} {p n : Nat} {c : UInt8} {cs : List UInt8} (hp : p < l.length) (hc : bx l p = (c.toNat : Int)) (h : spelledL l p (c :: cs) = .error n) :
    n - 1 ≤ l.length ∧ p < n - 1 ∧ n - 1 - p ≤ cs.length ∧ spelledL (l.take (n - 1) ++ (c :: cs).drop (n - 1 - p)) p (c :: cs) = .ok (p + (c :: cs).length) := by
  have hf := spelled_fill _ (by omega) h
  have hg := spelled_gt _ h
  have hb : hasAt l p (· == (c.toNat : Int)) = true := by rw [hasAt_in _ hp, hc]; simp
  simp only [spelledL] at h
  rw [if_pos hb] at h
  have hg2 := (spelled_gt _ h).1
  rw [List.length_cons] at hg
  refine ⟨hf.1, by omega, by omega, ?_⟩
  have := hf.2 []
  rw [List.append_nil] at this
  exact this
theorem drops4 {c d e f : UInt8} {k : Nat} (h1 : 1 ≤ k) (h3 : k ≤ 3) (m1 : [d, e, f] ∈ endsL) (m2 : [e, f] ∈ endsL) (m3 : [f] ∈ endsL) : [c, d, e, f].drop k ∈ endsL := by
  have : k = 1 ∨ k = 2 ∨ k = 3 := by omega
  rcases this with rfl | rfl | rfl
  · exact m1
  · exact m2
  · exact m3
theorem drops5 {c d e f g : UInt8} {k : Nat} (h1 : 1 ≤ k) (h3 : k ≤ 4) (m1 : [d, e, f, g] ∈ endsL) (m2 : [e, f, g] ∈ endsL) (m3 : [f, g] ∈ endsL) (m4 : [g] ∈ endsL) : [c, d, e, f, g].drop k ∈ endsL := by
  have : k = 1 ∨ k = 2 ∨ k = 3 ∨ k = 4 := by omega
  rcases this with rfl | rfl | rfl | rfl
  · exact m1
  · exact m2
  · exact m3
  · exact m4
/-- What is bad becomes good by one of the ends. -/
theorem some_end {l : List UInt8} {n : Nat} (h : nextL l 0 = .error n) : 1 ≤ n ∧ n - 1 ≤ l.length ∧ ∃ e ∈ endsL, ∃ t, nextL (l.take (n - 1) ++ e) 0 = .ok t := by
  have hpl : pass l blankB 0 ≤ l.length := pass_le (Nat.zero_le _)
  have hpa : ∀ l', Agree l l' (n - 1) → pass l blankB 0 < n - 1 → pass l' blankB 0 = pass l blankB 0 := fun l' hA hlt => pass_agree hA blankB hlt
  have hall : ∀ j, j < pass l blankB 0 → blankB (bx l j) = true := fun j hj => pass_all (i := 0) (Nat.zero_le _) hj
  have hr : readL l (pass l blankB 0) = .error n := h
  obtain ⟨hlt, hs, hw⟩ := readL_bad hpl hr
  unfold nextL
  generalize pass l blankB 0 = p at *
  have same : ∀ e, n - 1 ≤ l.length → p < n - 1 → pass (l.take (n - 1) ++ e) blankB 0 = p ∧ bx (l.take (n - 1) ++ e) p = bx l p ∧ p < (l.take (n - 1) ++ e).length := fun e hN hpN => by
    have hA := agree_take l e (n - 1) hN
    have := hA.le'
    exact ⟨hpa _ hA hpN, hA.bx hpN, by omega⟩
  rcases hw with ⟨c, w⟩ | ⟨c, w⟩ | ⟨c, w⟩ | ⟨c, w⟩ | ⟨c, w⟩ | ⟨n1, n2, n3, n4, n5, n6, e⟩
  · obtain ⟨hN, hpN, hk, hx⟩ := word_end (c := 110) (cs := [117, 108, 108]) hlt c w
    refine ⟨by omega, hN, _, drops4 (c := 110) (d := 117) (e := 108) (f := 108) (k := n - 1 - p) (by omega) hk (by decide) (by decide) (by decide), ?_⟩
    obtain ⟨a, b, d⟩ := same ([110, 117, 108, 108].drop (n - 1 - p)) hN hpN
    have RW := readL_word d (by rw [b]; exact hs)
    rw [b] at RW
    rw [a, RW.1 c, hx]
    exact ⟨_, rfl⟩
  · obtain ⟨hN, hpN, hk, hx⟩ := word_end (c := 116) (cs := [114, 117, 101]) hlt c w
    refine ⟨by omega, hN, _, drops4 (c := 116) (d := 114) (e := 117) (f := 101) (k := n - 1 - p) (by omega) hk (by decide) (by decide) (by decide), ?_⟩
    obtain ⟨a, b, d⟩ := same ([116, 114, 117, 101].drop (n - 1 - p)) hN hpN
    have RW := readL_word d (by rw [b]; exact hs)
    rw [b] at RW
    rw [a, RW.2.1 c, hx]
    exact ⟨_, rfl⟩
  · obtain ⟨hN, hpN, hk, hx⟩ := word_end (c := 102) (cs := [97, 108, 115, 101]) hlt c w
    refine ⟨by omega, hN, _, drops5 (c := 102) (d := 97) (e := 108) (f := 115) (g := 101) (k := n - 1 - p) (by omega) hk (by decide) (by decide) (by decide) (by decide), ?_⟩
    obtain ⟨a, b, d⟩ := same ([102, 97, 108, 115, 101].drop (n - 1 - p)) hN hpN
    have RW := readL_word d (by rw [b]; exact hs)
    rw [b] at RW
    rw [a, RW.2.2.1 c, hx]
    exact ⟨_, rfl⟩
  · obtain ⟨hN, hpN, hx⟩ := number_fill hlt c w
    refine ⟨by omega, hN, [48], by decide, ?_⟩
    obtain ⟨a, b, d⟩ := same [48] hN hpN
    have RW := readL_word d (by rw [b]; exact hs)
    rw [b] at RW
    rcases c with c | c
    · rw [a, RW.2.2.2.1 c, hx]
      exact ⟨_, rfl⟩
    · rw [a, RW.2.2.2.2.1 c, hx]
      exact ⟨_, rfl⟩
  · obtain ⟨hN, hpN, e, he, t, ht⟩ := text_fill hlt w
    refine ⟨by omega, hN, e, he, t, ?_⟩
    obtain ⟨a, b, d⟩ := same e hN hpN
    have RW := readL_word d (by rw [b]; exact hs)
    rw [b] at RW
    rw [a, RW.2.2.2.2.2 c, ht]
  · have hN : n - 1 = p := by omega
    refine ⟨by omega, by omega, [], by decide, ?_⟩
    rw [hN, List.append_nil]
    have hlen := take_len hpl
    have hps : pass (l.take p) blankB 0 = p := by
      have h1 := pass_le (l := l.take p) (p := blankB) (i := 0) (Nat.zero_le _)
      rw [hlen] at h1
      by_cases hlt2 : pass (l.take p) blankB 0 < p
      · exfalso
        have hend := pass_end (l.take p) blankB 0
        rw [hasAt_in _ (by omega)] at hend
        have hA := agree_take l [] p hpl
        rw [List.append_nil] at hA
        rw [hA.bx hlt2, hall _ hlt2] at hend
        cases hend
      · omega
    refine ⟨⟨0, [], p, p⟩, ?_⟩
    rw [hps]
    unfold readL
    rw [if_pos hlen.symm]
end Go.Proofs.YtlahlnocjfphjaaGreatDoor.Lx

namespace Go.Proofs.YtlahlnocjfphjaaGreatDoor.Lx
open Go.RowKit

theorem agree_cut (l : List UInt8) {N : Nat} (h : N ≤ l.length) : Agree l (l.take N) N := by
  have := agree_take l [] N h
  rwa [List.append_nil] at this
theorem Agree.symm {l l' : List UInt8} {n : Nat} (h : Agree l l' n) : Agree l' l n := ⟨h.le', h.le, fun j hj => (h.at_ j hj).symm⟩
theorem cut_has {l : List UInt8} {N j : Nat} (h : N ≤ l.length) (hj : j < N) (p : Int → Bool) : hasAt (l.take N) j p = hasAt l j p := (agree_cut l h).has hj p
theorem cut_out {l : List UInt8} {N j : Nat} (hj : N ≤ j) (p : Int → Bool) : hasAt (l.take N) j p = false := hasAt_out p (by simp; omega)
theorem pass_cut {l : List UInt8} {N : Nat} (h : N ≤ l.length) (p : Int → Bool) (d : Nat) : ∀ i, N - i = d → i ≤ N → pass l p i ≤ N → pass (l.take N) p i = pass l p i := by
  induction d with
  | zero =>
    intro i hd hi hp
    have : i = N := by omega
    subst this
    have := pass_ge l p i
    rw [pass_stop (cut_out (Nat.le_refl _) p)]
    omega
  | succ d ih =>
    intro i hd hi hp
    cases hh : hasAt l i p
    · rw [pass_stop hh, pass_stop (by rw [cut_has h (by omega)]; exact hh)]
    · rw [pass_go hh, pass_go (by rw [cut_has h (by omega)]; exact hh)]
      rw [pass_go hh] at hp
      exact ih (i + 1) (by omega) (by omega) hp
theorem pass_cut_end {l : List UInt8} {N : Nat} (h : N ≤ l.length) (p : Int → Bool) {i : Nat} (hi : i ≤ N) (hp : pass l p i = N) : pass (l.take N) p i = N := by
  rw [pass_cut h p (N - i) i rfl hi (by omega), hp]
theorem digits_cut {l : List UInt8} {N i k : Nat} (h : N ≤ l.length) (hr : digitsL l i = .ok k) (hk : k ≤ N) : digitsL (l.take N) i = .ok k := by
  have e := digitsL_le hr
  unfold digitsL at hr ⊢
  rw [cut_has h (by omega)]
  split at hr
  · rename_i g
    have e2 := Except.ok.inj hr
    rw [if_pos g, pass_cut h digitB _ (i + 1) rfl (by omega) (by omega), e2]
  · cases hr
theorem whole_cut {l : List UInt8} {N i k : Nat} (h : N ≤ l.length) (hr : wholeL l i = .ok k) (hk : k ≤ N) : wholeL (l.take N) i = .ok k := by
  have e := wholeL_le hr
  unfold wholeL at hr ⊢
  have ea : aft (l.take N) i (· == 45) = aft l i (· == 45) := aft_agree (agree_cut l h) (by omega) _
  rw [ea]
  have ha := aft_le l i (· == 45)
  split at hr
  · rename_i g
    have e2 := Except.ok.inj hr
    rw [cut_has h (by omega), if_pos g, e2]
  · rename_i g
    have e2 := digitsL_le hr
    rw [cut_has h (by omega), if_neg g]
    exact digits_cut h hr hk
theorem frac_cut {l : List UInt8} {N i k : Nat} (h : N ≤ l.length) (hr : fracPart l (.ok i) = .ok k) (hk : k ≤ N) : fracPart (l.take N) (.ok i) = .ok k := by
  simp only [fracPart] at hr ⊢
  split at hr
  · rename_i g
    have e2 := digitsL_le hr
    rw [cut_has h (by omega), if_pos g]
    exact digits_cut h hr hk
  · rename_i g
    have e2 := Except.ok.inj hr
    by_cases hi : i < N
    · rw [cut_has h hi, if_neg g, e2]
    · rw [cut_out (by omega), if_neg (by simp), e2]
theorem exp_cut {l : List UInt8} {N i k : Nat} (h : N ≤ l.length) (hr : expPart l (.ok i) = .ok k) (hk : k ≤ N) : expPart (l.take N) (.ok i) = .ok k := by
  simp only [expPart] at hr ⊢
  split at hr
  · rename_i g
    unfold exponentL at hr ⊢
    have e2 := digitsL_le hr
    have ha := aft_le l (i + 1) (fun c => c == 43 || c == 45)
    have ea : aft (l.take N) (i + 1) (fun c => c == 43 || c == 45) = aft l (i + 1) (fun c => c == 43 || c == 45) := aft_agree (agree_cut l h) (by omega) _
    rw [cut_has h (by omega), if_pos g, ea]
    exact digits_cut h hr hk
  · rename_i g
    have e2 := Except.ok.inj hr
    by_cases hi : i < N
    · rw [cut_has h hi, if_neg g, e2]
    · rw [cut_out (by omega), if_neg (by simp), e2]
theorem exp_le {l : List UInt8} {i k : Nat} (h : expPart l (.ok i) = .ok k) : i ≤ k := by
  simp only [expPart] at h
  split at h
  · have := exponentL_le h; omega
  · have := Except.ok.inj h; omega
theorem number_parts {l : List UInt8} {i k : Nat} (h : numberL l i = .ok k) : ∃ a b, wholeL l i = .ok a ∧ fracPart l (.ok a) = .ok b ∧ expPart l (.ok b) = .ok k ∧ a ≤ b ∧ b ≤ k ∧ i < a := by
  unfold numberL at h
  cases hw : wholeL l i with
  | error a => rw [hw] at h; cases h
  | ok a =>
    rw [hw] at h
    have hwl := wholeL_le hw
    cases hf : fracPart l (.ok a) with
    | error b => rw [hf] at h; cases h
    | ok b =>
      rw [hf] at h
      exact ⟨a, b, rfl, hf, h, (fracPart_le hwl.2 hf).1, exp_le h, hwl.1⟩
theorem number_cut {l : List UInt8} {N i k : Nat} (h : N ≤ l.length) (hr : numberL l i = .ok k) (hk : k ≤ N) : numberL (l.take N) i = .ok k := by
  obtain ⟨a, b, h1, h2, h3, h4, h5, _⟩ := number_parts hr
  unfold numberL
  rw [whole_cut h h1 (by omega), frac_cut h h2 (by omega), exp_cut h h3 hk]
theorem number_agree {l l' : List UInt8} {n i k : Nat} (h : Agree l l' n) (hr : numberL l i = .ok k) (hk : k < n) : numberL l' i = .ok k := by
  obtain ⟨a, b, h1, h2, h3, h4, h5, h6⟩ := number_parts hr
  have hwl := wholeL_le h1
  unfold numberL
  rw [whole_ok h h1 (by omega), frac_ok h hwl.2 h2 (by omega)]
  simp only [expPart] at h3 ⊢
  rw [h.has (by omega)]
  split at h3
  · rename_i g
    rw [if_pos g]
    unfold exponentL at h3 ⊢
    have e2 := digitsL_le h3
    have ha := aft_le l (b + 1) (fun c => c == 43 || c == 45)
    rw [aft_agree h (by omega)]
    exact digits_ok h h3 hk
  · rename_i g
    rw [if_neg g]
    exact h3
theorem digits_none {l : List UInt8} {N : Nat} : digitsL (l.take N) N = .error (N + 1) := by
  unfold digitsL
  rw [cut_out (Nat.le_refl _)]
  simp
/-- A number that is bad at a place is bad there where it is cut off ahead of it. -/
theorem number_cut_err {l : List UInt8} {N i : Nat} (h : N ≤ l.length) (hi : i < N) (hr : numberL l i = .error (N + 1)) : numberL (l.take N) i = .error (N + 1) := by
  have hA := agree_cut l h
  unfold numberL at hr ⊢
  cases hw : wholeL l i with
  | error a =>
    rw [hw] at hr
    have e : a = N + 1 := Except.error.inj hr
    subst e
    unfold wholeL at hw ⊢
    have ea : aft (l.take N) i (· == 45) = aft l i (· == 45) := aft_agree hA hi _
    rw [ea]
    split at hw
    · cases hw
    · have e2 := digitsL_error hw
      have e3 : aft l i (· == 45) = N := by omega
      rw [e3, cut_out (Nat.le_refl _), if_neg (by simp), digits_none]
      rfl
  | ok a =>
    rw [hw] at hr
    have hwl := wholeL_le hw
    cases hf : fracPart l (.ok a) with
    | error b =>
      rw [hf] at hr
      have e : b = N + 1 := Except.error.inj hr
      subst e
      simp only [fracPart] at hf
      split at hf
      · rename_i g
        have e2 := digitsL_error hf
        rw [whole_cut h hw (by omega)]
        simp only [fracPart]
        rw [cut_has h (by omega), if_pos g, show a + 1 = N by omega, digits_none]
        rfl
      · cases hf
    | ok b =>
      rw [hf] at hr
      have hfl := fracPart_le hwl.2 hf
      simp only [expPart] at hr
      split at hr
      · rename_i g
        unfold exponentL at hr
        have ha := aft_le l (b + 1) (fun c => c == 43 || c == 45)
        have e2 := digitsL_error hr
        rw [whole_cut h hw (by omega), frac_cut h hf (by omega)]
        simp only [expPart]
        rw [cut_has h (by omega), if_pos g]
        unfold exponentL
        have ea : aft (l.take N) (b + 1) (fun c => c == 43 || c == 45) = N := by
          by_cases hb : b + 1 < N
          · rw [aft_agree hA hb]; omega
          · unfold aft
            rw [cut_out (by omega), if_neg (by simp)]
            omega
        rw [ea, digits_none]
      · cases hr
/-- A bad length is at most one more than there are bytes. -/
theorem read_bad_le {l : List UInt8} {p n : Nat} (hp : p ≤ l.length) (h : readL l p = .error n) : n - 1 ≤ l.length ∧ p < n := by
  obtain ⟨hlt, hs, hw⟩ := readL_bad hp h
  rcases hw with ⟨c, w⟩ | ⟨c, w⟩ | ⟨c, w⟩ | ⟨c, w⟩ | ⟨c, w⟩ | ⟨_, _, _, _, _, _, e⟩
  · exact ⟨(spelled_fill _ (by omega) w).1, (spelled_gt _ w).1⟩
  · exact ⟨(spelled_fill _ (by omega) w).1, (spelled_gt _ w).1⟩
  · exact ⟨(spelled_fill _ (by omega) w).1, (spelled_gt _ w).1⟩
  · have := number_fill hlt c w; exact ⟨this.1, by omega⟩
  · have := text_fill hlt w; exact ⟨this.1, by omega⟩
  · omega
theorem read_kind {l : List UInt8} {p : Nat} {t : Tok} (hlt : p < l.length) (h : readL l p = .ok t) : t.kind ≠ 0 := by
  unfold readL at h
  rw [if_neg (by omega)] at h
  have hst : ∀ (kd : Nat) (y : Pl), kd ≠ 0 → stands kd l p y = .ok t → t.kind ≠ 0 := fun kd y hkd hy => by
    obtain ⟨e, _, ht⟩ := stands_ok hy
    rw [ht]; exact hkd
  split at h
  · injection h with h; rw [← h]; simp
  · split at h
    · exact hst 3 _ (by decide) h
    · split at h
      · exact hst 3 _ (by decide) h
      · split at h
        · exact hst 3 _ (by decide) h
        · split at h
          · exact hst 2 _ (by decide) h
          · split at h
            · have := (textF_gt _ h).2.2.1; omega
            · cases h
theorem read_num {l : List UInt8} {p : Nat} {t : Tok} (hlt : p < l.length) (h : readL l p = .ok t) (h2 : t.kind = 2) : signB (bx l p) = false ∧ (bx l p = 45 ∨ digitB (bx l p) = true) ∧ numberL l p = .ok t.to ∧ t = ⟨2, sub l p t.to, p, t.to⟩ := by
  unfold readL at h
  rw [if_neg (by omega)] at h
  split at h
  · injection h with h; rw [← h] at h2; simp at h2
  · rename_i hs
    refine ⟨by simpa using hs, ?_⟩
    have hst : ∀ (kd : Nat) (y : Pl), kd ≠ 2 → stands kd l p y = .ok t → False := fun kd y hkd hy => by
      obtain ⟨e, _, ht⟩ := stands_ok hy
      rw [ht] at h2; exact hkd h2
    split at h
    · exact (hst 3 _ (by decide) h).elim
    · split at h
      · exact (hst 3 _ (by decide) h).elim
      · split at h
        · exact (hst 3 _ (by decide) h).elim
        · split at h
          · rename_i c
            obtain ⟨e, he, ht⟩ := stands_ok h
            exact ⟨c, by rw [ht]; exact he, by rw [ht]⟩
          · split at h
            · have := (textF_gt _ h).2.2.1; omega
            · cases h
theorem read_of_num {l : List UInt8} {p k : Nat} (hlt : p < l.length) (hs : signB (bx l p) = false) (hc : bx l p = 45 ∨ digitB (bx l p) = true) (h : numberL l p = .ok k) : readL l p = .ok ⟨2, sub l p k, p, k⟩ := by
  have RW := readL_word hlt hs
  rcases hc with c | c
  · rw [RW.2.2.2.1 c, h]; rfl
  · rw [RW.2.2.2.2.1 c, h]; rfl
/-- A token that ends ahead of where two rows part. -/
theorem read_agree2 {l l' : List UInt8} {n p : Nat} {t : Tok} (h : Agree l l' n) (hp : p < l.length) (hr : readL l p = .ok t) (hn : t.to < n) : readL l' p = .ok t := by
  have hle := readL_le (by omega) hr
  have h0 : t.kind ≠ 0 := read_kind hp hr
  by_cases h2 : t.kind = 2
  · have hpt : p < t.to := by rcases hle with ⟨x, _⟩ | ⟨x, _⟩ <;> omega
    obtain ⟨a, b, c, d⟩ := read_num hp hr h2
    have hb := h.bx (j := p) (by omega)
    have := h.le'
    rw [read_of_num (l := l') (p := p) (k := t.to) (by omega) (by rw [hb]; exact a) (by rw [hb]; exact b) (number_agree h c hn), h.sub (by omega), ← d]
  · exact read_agree h (by omega) hr (by omega) h0 h2
/-- A token that ends where the bytes are cut off, or ahead. -/
theorem read_cut {l : List UInt8} {N p : Nat} {t : Tok} (h : N ≤ l.length) (hp : p < l.length) (hr : readL l p = .ok t) (hn : t.to ≤ N) : readL (l.take N) p = .ok t := by
  have hA := agree_cut l h
  have hle := readL_le (by omega) hr
  have h0 : t.kind ≠ 0 := read_kind hp hr
  by_cases h2 : t.kind = 2
  · have hpt : p < t.to := by rcases hle with ⟨x, _⟩ | ⟨x, _⟩ <;> omega
    obtain ⟨a, b, c, d⟩ := read_num hp hr h2
    have hb := hA.bx (j := p) (by omega)
    have := hA.le'
    rw [read_of_num (l := l.take N) (p := p) (k := t.to) (by omega) (by rw [hb]; exact a) (by rw [hb]; exact b) (number_cut h c hn), hA.sub (by omega), ← d]
  · exact read_agree hA (by omega) hr hn h0 h2
/-- What is bad stays so where it is cut off just ahead. -/
theorem read_cut_err {l : List UInt8} {N p : Nat} (h : N ≤ l.length) (hp : p < N) (hr : readL l p = .error (N + 1)) : readL (l.take N) p = .error (N + 1) := by
  have hA := agree_cut l h
  have hlen : (l.take N).length = N := by simp; omega
  cases hx : readL (l.take N) p with
  | error m =>
    have hm := read_bad_le (l := l.take N) (by omega) hx
    by_cases hmN : m ≤ N
    · have := (readL_err (hA.symm.mono hmN) (by omega) hx).1
      rw [this] at hr
      have e := Except.error.inj hr
      rw [e]
    · have : m = N + 1 := by omega
      rw [this]
  | ok t =>
    exfalso
    have hle := readL_le (l := l.take N) (by omega) hx
    have hto : t.to ≤ N := by rcases hle with ⟨_, x⟩ | ⟨_, x⟩ <;> omega
    have h0 : t.kind ≠ 0 := read_kind (l := l.take N) (by omega) hx
    by_cases h2 : t.kind = 2
    · obtain ⟨a, b, c, _⟩ := read_num (l := l.take N) (by omega) hx h2
      have hb := hA.bx (j := p) hp
      rw [hb] at a b
      have RW := readL_word (l := l) (p := p) (by omega) a
      have hne : numberL l p = .error (N + 1) := by
        rcases b with b | b
        · rw [RW.2.2.2.1 b] at hr; exact stands_err hr
        · rw [RW.2.2.2.2.1 b] at hr; exact stands_err hr
      rw [number_cut_err h hp hne] at c
      cases c
    · have := read_agree hA.symm (by omega) hx hto h0 h2
      rw [this] at hr
      cases hr
/-- A string that is cut off ahead of its end. -/
theorem read_cut_text {l : List UInt8} {N p : Nat} {t : Tok} (h : N ≤ l.length) (hp : p < N) (hr : readL l p = .ok t) (hk : t.kind = 1) (ht : t.to = N + 1) : readL (l.take N) p = .error (N + 1) := by
  have hA := agree_cut l h
  have hlen : (l.take N).length = N := by simp; omega
  cases hx : readL (l.take N) p with
  | error m =>
    have hm := read_bad_le (l := l.take N) (by omega) hx
    by_cases hmN : m ≤ N
    · have := (readL_err (hA.symm.mono hmN) (by omega) hx).1
      rw [this] at hr
      cases hr
    · have : m = N + 1 := by omega
      rw [this]
  | ok t' =>
    exfalso
    have hle := readL_le (l := l.take N) (by omega) hx
    have hto : t'.to ≤ N := by rcases hle with ⟨_, x⟩ | ⟨_, x⟩ <;> omega
    have h0 : t'.kind ≠ 0 := read_kind (l := l.take N) (by omega) hx
    by_cases h2 : t'.kind = 2
    · obtain ⟨a, b, c, _⟩ := read_num (l := l.take N) (by omega) hx h2
      have hb := hA.bx (j := p) hp
      rw [hb] at a b
      have RW := readL_word (l := l) (p := p) (by omega) a
      have : readL l p = stands 2 l p (numberL l p) := by
        rcases b with b | b
        · exact RW.2.2.2.1 b
        · exact RW.2.2.2.2.1 b
      rw [this] at hr
      obtain ⟨e, _, hte⟩ := stands_ok hr
      rw [hte] at hk
      simp at hk
    · have := read_agree hA.symm (by omega) hx hto h0 h2
      rw [this] at hr
      have e := Except.ok.inj hr
      rw [e] at hto
      omega
end Go.Proofs.YtlahlnocjfphjaaGreatDoor.Lx
