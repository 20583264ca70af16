/-
  What ref4.digit, ref4.some and ref4.word answer: the same as lex.digits and lex.spelled. Conditions: the bytes lie in memory, at most 2^48 of them.
-/
import Derived.Test.YtnpnnkjkohcgnaaDoorV5
namespace Go.Proofs.YtnpnnkjkohcgnaaDoor
open Go.RowKit
attribute [local go_sem] setCell_drewN alloc_drewN

/-- A place, or the bad length, as the document's answer returns them. -/
def rpV : Pl → Value
  | .ok k => .tuple #[.int .i64 k, .int .i64 0]
  | .error n => .tuple #[.int .i64 0, .int .i64 n]

theorem rdigit_any (c : Int) (w : World) : Calls Tryd.prog 15 #[.int .u8 c] w fun r w' => r = .returned (.bool (digitB c)) ∧ w' = w := by
  by_cases h : 48 ≤ c
  · have HR : Hid (digitB c = decide (c ≤ 57)) := by show _ = _; simp [digitB, h]
    go_enter Tryd.func15, Tryd.ntmps15
    go_wp2
    go_ret
    exact ⟨r_bool HR.out.symm, rfl⟩
  · have HR : Hid (digitB c = false) := by show _ = _; simp [digitB, h]
    have hd : decide (48 ≤ c) = false := decide_eq_false h
    go_enter Tryd.func15, Tryd.ntmps15
    go_wp2
    go_ret
    exact ⟨r_bool HR.out.symm, rfl⟩

set_option maxHeartbeats 800000 in
theorem rsome_any (l : List UInt8) (i : Nat) (v : Value) (w : World) (hB : Byt w v l) (hi : i ≤ l.length) (hm : l.length ≤ 281474976710656) :
    Calls Tryd.prog 26 #[v, .int .i64 i] w fun r w' => r = .returned (rpV (digitsL l i)) ∧ w' = w := by
  have hmI : (l.length : Int) ≤ 281474976710656 := by omega
  by_cases hlt : i < l.length
  · rcases hB with ⟨h0, _⟩ | ⟨b, off, cap, rfl, hc, hm', hL⟩
    · omega
    · have hcell := hL.cell i hlt
      have hI : (i : Int) < (l.length : Int) := by omega
      have hne : ((i : Int) == (l.length : Int)) = false := beq_eq_false_iff_ne.2 (by omega)
      have h1 := fun w => rdigit_any (bx l i) w
      cases hd : digitB (bx l i)
      · rw [hd] at h1
        have HR : Hid (digitsL l i = .error (i + 1)) := by show _ = _; simp [digitsL, hasAt_in _ hlt, hd]
        generalize bx l i = c at *
        clear hd hL hc hm' hlt
        go_enter Tryd.func26, Tryd.ntmps26
        go_wp2_with (go_at_call 15; refine (h1 _).mono ?_; rintro r w' ⟨rfl, rfl⟩)
        go_ret2
        exact ⟨r_pl (by rw [HR.out]; simp [rpV]), rfl⟩
      · rw [hd] at h1
        have HR : Hid (digitsL l i = .ok (pass l digitB i)) := by
          show _ = _
          rw [pass_go (by rw [hasAt_in _ hlt]; exact hd)]
          simp [digitsL, hasAt_in _ hlt, hd]
        clear hc hm'
        go_enter Tryd.func26, Tryd.ntmps26
        go_wp2_with (go_at_call 15; refine (h1 _).mono ?_; rintro r w' ⟨rfl, rfl⟩)
        clear hd h1 hcell hne hI hlt
        go_loop [1] (fun t => ∃ k : Nat, k ≤ l.length ∧ t = .int .i64 k ∧ Hid (pass l digitB k = pass l digitB i)) (fun t => l.length - (intOf t).toNat)
        case atStart => exact ⟨i, hi, rfl, rfl⟩
        case round =>
          obtain ⟨k, hk, rfl, HP⟩ := hrel
          by_cases hkl : k < l.length
          · have hcell := hL.cell k hkl
            have hI : (k : Int) < (l.length : Int) := by omega
            have h2 := fun w => rdigit_any (bx l k) w
            have hq := hasAt_in (l := l) digitB hkl
            cases hp : digitB (bx l k)
            · rw [hp] at h2 hq
              have HF : Hid (pass l digitB i = k) := by show _ = _; rw [← HP.out, pass_stop hq]
              clear HP hq hp
              generalize bx l k = c at *
              go_wp2_with (go_at_call 15; refine (h2 _).mono ?_; rintro r w' ⟨rfl, rfl⟩)
              go_ret2
              exact ⟨r_pl (by rw [HR.out, HF.out]; simp [rpV]), rfl⟩
            · rw [hp] at h2 hq
              have HF : Hid (pass l digitB (k + 1) = pass l digitB i) := by show _ = _; rw [← HP.out, pass_go hq]
              clear HP hq hp
              generalize bx l k = c at *
              go_wp2_with (go_at_call 15; refine (h2 _).mono ?_; rintro r w' ⟨rfl, rfl⟩)
              go_round
              case rel => exact ⟨k + 1, by omega, by go_num, HF⟩
              case measure => simp [intOf]; omega
          · have hI : ¬ (k : Int) < (l.length : Int) := by omega
            have HF : Hid (pass l digitB i = k) := by show _ = _; rw [← HP.out, pass_stop (hasAt_out _ hkl)]
            clear HP
            go_wp2
            go_ret2
            exact ⟨r_pl (by rw [HR.out, HF.out]; simp [rpV]), rfl⟩
  · have he : ((i : Int) == (l.length : Int)) = true := by
      have : (i : Int) = (l.length : Int) := by omega
      rw [this]; simp
    have HR : Hid (digitsL l i = .error (i + 1)) := by show _ = _; simp [digitsL, hasAt_out _ hlt]
    obtain ⟨a, cap, rfl, _⟩ := hB.shape
    clear hB hlt
    go_enter Tryd.func26, Tryd.ntmps26
    go_wp2
    go_ret2
    exact ⟨r_pl (by rw [HR.out]; simp [rpV]), rfl⟩

set_option maxRecDepth 100000 in
set_option maxHeartbeats 1600000 in
theorem rword_any (l : List UInt8) (i : Nat) (v : Value) (s : ByteArray) (w : World) (hB : Byt w v l) (hi : i < l.length) (hm : l.length ≤ 281474976710656) (hs : s.size ≤ 1000) :
    Calls Tryd.prog 14 #[v, .int .i64 i, .string s] w fun r w' => r = .returned (rpV (spelledL l i s.data.toList)) ∧ ∃ n, w' = w.drewN n := by
  have hiI : (i : Int) ≤ 281474976710656 := by omega
  have hsI : (s.size : Int) ≤ 1000 := by omega
  rcases hB with ⟨h0, _⟩ | ⟨b, off, cap, rfl, hc, hm', hL⟩
  · omega
  clear hc hm'
  have hlI : (l.length : Int) ≤ 281474976710656 := by omega
  go_enter Tryd.func14, Tryd.ntmps14
  go_wp2
  go_loopw [8] (fun t wr => ∃ k : Nat, k ≤ s.size ∧ t = .int .i64 (k : Int) ∧ i + k ≤ l.length ∧ Hid (spelledL l (i + k) (s.data.toList.drop k) = spelledL l i s.data.toList) ∧ ∃ q, wr = w.drewN q) (fun t _ => s.size - (intOf t).toNat)
  case atStart => exact ⟨0, Nat.zero_le _, rfl, by omega, rfl, 0, rfl⟩
  case round =>
    obtain ⟨k, hk, rfl, hil, HP, q, rfl⟩ := hrel
    by_cases hks : k < s.size
    · have hI : (k : Int) < (s.size : Int) := by omega
      obtain ⟨c, ec, ecx⟩ := cx_list s k hks
      have hx := cx_at s k hks
      by_cases hin : i + k < l.length
      · have hcell := hL.cell (i + k) hin
        have hne : ((i : Int) + (k : Int) == (l.length : Int)) = false := beq_eq_false_iff_ne.2 (by omega)
        have hinI : (i : Int) + (k : Int) < (l.length : Int) := by omega
        have hin0 : (0 : Int) ≤ (i : Int) + (k : Int) := by omega
        have hnat : ((i : Int) + (k : Int)).toNat = i + k := by omega
        by_cases he : bx l (i + k) = cx s k
        · have HR : Hid (spelledL l (i + (k + 1)) (s.data.toList.drop (k + 1)) = spelledL l i s.data.toList) := by
            show _ = _
            rw [← HP.out, ec, spelledL, ecx, hasAt_in _ hin, he]; simp; rfl
          have heq : (bx l (i + k) != cx s k) = false := by rw [he]; simp
          clear HP ec ecx he
          generalize bx l (i + k) = y at *
          generalize cx s k = x at *
          go_wp2_with fail
          go_quiet (fail)
          go_wp2
          go_roundw
          case rel => exact ⟨k + 1, by omega, by go_num, by omega, HR, _, rfl⟩
          case measure => simp [intOf]; omega
        · have HR : Hid (spelledL l i s.data.toList = .error (i + k + 1)) := by
            show _ = _
            rw [← HP.out, ec, spelledL, ecx, hasAt_in _ hin, beq_eq_false_iff_ne.2 he]; rfl
          have heq : (bx l (i + k) != cx s k) = true := by simp only [bne, beq_eq_false_iff_ne.2 he]; rfl
          clear HP ec ecx he
          generalize bx l (i + k) = y at *
          generalize cx s k = x at *
          go_wp2_with fail
          go_quiet (fail)
          go_wp2
          go_ret2
          exact ⟨r_pl (by rw [HR.out]; simp [rpV]), _, rfl⟩
      · have HR : Hid (spelledL l i s.data.toList = .error (i + k + 1)) := by
          show _ = _
          rw [← HP.out, ec, spelledL, ecx, hasAt_out _ hin]; rfl
        have heq : ((i : Int) + (k : Int) == (l.length : Int)) = true := by
          have : (i : Int) + (k : Int) = (l.length : Int) := by omega
          rw [this]; simp
        clear HP ec ecx hL hx hin
        go_wp2_with fail
        go_quiet (fail)
        go_wp2
        go_ret2
        exact ⟨r_pl (by rw [HR.out]; simp [rpV]), _, rfl⟩
    · have hI : ¬ (k : Int) < (s.size : Int) := by omega
      have ek : k = s.size := by omega
      have HR : Hid (spelledL l i s.data.toList = .ok (i + s.size)) := by
        show _ = _
        rw [← HP.out, List.drop_eq_nil_of_le (by rw [Array.length_toList]; exact Nat.le_of_eq ek.symm), ek]; rfl
      clear HP ek hL
      go_wp2
      go_ret2
      exact ⟨r_pl (by rw [HR.out]; simp [rpV]), _, rfl⟩
end Go.Proofs.YtnpnnkjkohcgnaaDoor
