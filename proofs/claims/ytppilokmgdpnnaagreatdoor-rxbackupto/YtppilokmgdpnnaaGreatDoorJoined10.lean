/-
  Digits, letters, code points by their number: isDigit, isLetter, digitOf, hexDigitOf, nought, control, hex, count, counts. No condition.
-/
import Derived.Test.YtppilokmgdpnnaaGreatDoorJoined9
namespace Go.Proofs.YtppilokmgdpnnaaGreatDoor
open Go.RowKit
attribute [local go_sem] setCell_drewN alloc_drewN

set_option maxHeartbeats 400000 in
theorem isDigit_any (p : Int) (w : World) : Calls Tryz.prog 118 #[.int .i64 p] w fun r w' => r = .returned (.bool (isDig p)) ∧ w = w' := by
  unfold isDig
  cases h1 : decide (48 ≤ p) <;> cases h2 : decide (p ≤ 57) <;> simp only [decide_eq_true_eq, decide_eq_false_iff_not] at h1 h2
  all_goals
    go_enter Tryz.func118, Tryz.ntmps118
    go_wp2_with fail
    all_goals go_ret
    all_goals exact ⟨by first | rfl | (simp [*]; done) | (simp [*]; omega), rfl⟩
set_option maxHeartbeats 400000 in
theorem isLetter_any (p : Int) (w : World) : Calls Tryz.prog 137 #[.int .i64 p] w fun r w' => r = .returned (.bool (isLet p)) ∧ w = w' := by
  unfold isLet
  cases h1 : decide (97 ≤ p) <;> cases h2 : decide (p ≤ 122) <;> cases h3 : decide (65 ≤ p) <;> cases h4 : decide (p ≤ 90) <;> simp only [decide_eq_true_eq, decide_eq_false_iff_not] at h1 h2 h3 h4
  all_goals first
    | (exfalso; omega)
    | (go_enter Tryz.func137, Tryz.ntmps137
       go_wp2_with fail
       all_goals go_ret
       all_goals exact ⟨by first | rfl | (simp [*]; done) | (simp [*]; omega), rfl⟩)

theorem digitOf_ok (p : Int) (w : World) (h : isDig p = true) : Calls Tryz.prog 117 #[.int .i64 p] w fun r w' => r = .returned (.int .i64 (p - 48)) ∧ w = w' := by
  have hd := isDigit_any p w
  rw [h] at hd
  simp only [isDig, Bool.and_eq_true, decide_eq_true_eq] at h
  obtain ⟨h1, h2⟩ := h
  go_enter Tryz.func117, Tryz.ntmps117
  go_wp2_with (go_at_call 118; refine hd.mono ?_; rintro r w1 ⟨rfl, rfl⟩)
  go_ret
  exact ⟨rfl, rfl⟩
theorem digitOf_no (p : Int) (w : World) (h : isDig p = false) : Calls Tryz.prog 117 #[.int .i64 p] w fun r w' => r = stopX ∧ w = w' := by
  have hd := isDigit_any p w
  rw [h] at hd
  clear h
  go_enter Tryz.func117, Tryz.ntmps117
  go_wp2_with (go_at_call 118; refine hd.mono ?_; rintro r w1 ⟨rfl, rfl⟩)
  exact ⟨rfl, rfl, rfl⟩

theorem hexD_bd {c d : Int} (h : hexD c = some d) : 0 ≤ d ∧ d ≤ 15 := by
  unfold hexD dig at h
  repeat' (split at h)
  all_goals first
    | (simp at h; done)
    | (rename_i e; simp only [Option.some.injEq] at h; simp only [isDig, Bool.and_eq_true, decide_eq_true_eq] at e; omega)
    | (simp only [Option.some.injEq] at h; omega)
set_option maxHeartbeats 800000 in
theorem hexDigitOf_ok (p d : Int) (w : World) (h : hexD p = some d) : Calls Tryz.prog 138 #[.int .i64 p] w fun r w' => r = .returned (.int .i64 d) ∧ w = w' := by
  unfold hexD at h
  by_cases h1 : 97 ≤ p ∧ p ≤ 102
  · rw [if_pos h1] at h
    obtain ⟨a, b⟩ := h1
    simp only [Option.some.injEq] at h
    subst h
    go_enter Tryz.func138, Tryz.ntmps138
    go_wp2_with fail
    go_ret
    exact ⟨rfl, rfl⟩
  · rw [if_neg h1] at h
    by_cases h2 : 65 ≤ p ∧ p ≤ 70
    · rw [if_pos h2] at h
      obtain ⟨a, b⟩ := h2
      have h3 : ¬ 97 ≤ p := by omega
      simp only [Option.some.injEq] at h
      subst h
      clear h1
      go_enter Tryz.func138, Tryz.ntmps138
      go_wp2_with fail
      go_ret
      exact ⟨rfl, rfl⟩
    · rw [if_neg h2] at h
      unfold dig at h
      split at h
      · rename_i hd
        simp only [Option.some.injEq] at h
        subst h
        have hc := digitOf_ok p w hd
        simp only [isDig, Bool.and_eq_true, decide_eq_true_eq] at hd
        have h3 : ¬ 97 ≤ p := by omega
        have h4 : ¬ 65 ≤ p := by omega
        clear h1 h2 hd
        go_enter Tryz.func138, Tryz.ntmps138
        go_wp2_with (go_at_call 117; refine hc.mono ?_; rintro r w1 ⟨rfl, rfl⟩)
        go_ret
        exact ⟨rfl, rfl⟩
      · simp at h
set_option maxHeartbeats 800000 in
theorem hexDigitOf_no (p : Int) (w : World) (h : hexD p = none) : Calls Tryz.prog 138 #[.int .i64 p] w fun r w' => r = stopX ∧ w = w' := by
  unfold hexD at h
  by_cases h1 : 97 ≤ p ∧ p ≤ 102
  · rw [if_pos h1] at h; simp at h
  rw [if_neg h1] at h
  by_cases h2 : 65 ≤ p ∧ p ≤ 70
  · rw [if_pos h2] at h; simp at h
  rw [if_neg h2] at h
  unfold dig at h
  split at h
  · simp at h
  · rename_i hd
    have hc := digitOf_no p w (by simpa using hd)
    clear h hd
    by_cases a : 97 ≤ p
    · have a2 : ¬ p ≤ 102 := by omega
      have a3 : 65 ≤ p := by omega
      have a4 : ¬ p ≤ 70 := by omega
      clear h1 h2
      go_enter Tryz.func138, Tryz.ntmps138
      go_wp2_with (go_at_call 117; refine hc.mono ?_; rintro r w1 ⟨rfl, rfl⟩)
      exact ⟨rfl, rfl, rfl⟩
    · by_cases b : 65 ≤ p
      · have b2 : ¬ p ≤ 70 := by omega
        clear h1 h2
        go_enter Tryz.func138, Tryz.ntmps138
        go_wp2_with (go_at_call 117; refine hc.mono ?_; rintro r w1 ⟨rfl, rfl⟩)
        exact ⟨rfl, rfl, rfl⟩
      · clear h1 h2
        go_enter Tryz.func138, Tryz.ntmps138
        go_wp2_with (go_at_call 117; refine hc.mono ?_; rintro r w1 ⟨rfl, rfl⟩)
        exact ⟨rfl, rfl, rfl⟩

/-- A number and what is left, or the panic. -/
def IntR (x : Option (Int × List Int)) (rb : Nat) (g : Int) (w : World) (r : Ending) (w' : World) : Prop :=
  But (· = rb) w w' ∧ match x with
    | none => r = stopX
    | some y => r = .returned (.int .i64 y.1) ∧ RD w' rb y.2 g

set_option maxHeartbeats 800000 in
theorem nought_any (w : World) (rb : Nat) (l : List Int) (g : Int) (h : RD w rb l g) :
    Calls Tryz.prog 121 #[.pointer (some ⟨rb, 0, none⟩)] w (IntR (noughtL l) rb g w) := by
  have hp := peek_any w rb l g 0 (by omega) h
  have hd := fun w => isDigit_any (pk l 0) w
  have HH := hid_intro h
  cases he : isDig (pk l 0)
  · have e : noughtL l = some (0, l) := by unfold noughtL; rw [he]; rfl
    rw [e]
    rw [he] at hd
    clear he h e
    go_enter Tryz.func121, Tryz.ntmps121
    go_wp2_with (first | (go_at_call 49; refine hp.mono ?_; rintro r w1 ⟨rfl, hb1⟩) | (go_at_call 118; refine (hd _).mono ?_; rintro r w2 ⟨rfl, rfl⟩))
    go_ret
    exact ⟨But.ofBelow hb1, rfl, HH.out.below hb1⟩
  · have e : noughtL l = none := by unfold noughtL; rw [he]; rfl
    rw [e]
    rw [he] at hd
    clear he h e
    go_enter Tryz.func121, Tryz.ntmps121
    go_wp2_with (first | (go_at_call 49; refine hp.mono ?_; rintro r w1 ⟨rfl, hb1⟩) | (go_at_call 118; refine (hd _).mono ?_; rintro r w2 ⟨rfl, rfl⟩))
    exact ⟨rfl, But.ofBelow hb1, rfl⟩

set_option maxHeartbeats 800000 in
theorem control_any (w : World) (rb : Nat) (l : List Int) (g : Int) (h : RD w rb l g) :
    Calls Tryz.prog 122 #[.pointer (some ⟨rb, 0, none⟩)] w (IntR (controlL l) rb g w) := by
  cases l with
  | nil =>
    have hn := next_no w rb g h
    show Calls _ _ _ _ (IntR none rb g w)
    clear h
    go_enter Tryz.func122, Tryz.ntmps122
    go_wp2_with (go_at_call 70; refine hn.mono ?_; rintro r w1 ⟨rfl, hb1⟩)
    exact ⟨rfl, hb1, rfl⟩
  | cons c l =>
    have hn := next_ok w rb c l g h
    have hl := fun w => isLetter_any c w
    cases he : isLet c
    · have e : controlL (c :: l) = none := by simp [controlL, he]
      rw [e]
      rw [he] at hl
      clear h he e
      go_enter Tryz.func122, Tryz.ntmps122
      go_wp2_with (first | (go_at_call 70; refine hn.mono ?_; rintro r w1 ⟨rfl, hb1, hr1⟩) | (go_at_call 137; refine (hl _).mono ?_; rintro r w2 ⟨rfl, rfl⟩))
      exact ⟨rfl, hb1, rfl⟩
    · have e : controlL (c :: l) = some (c % 32, l) := by simp [controlL, he]
      rw [e]
      rw [he] at hl
      have h0 : 0 ≤ c := by simp only [isLet, Bool.or_eq_true, Bool.and_eq_true, decide_eq_true_eq] at he; omega
      have hm : c.tmod 32 = c % 32 := Int.tmod_eq_emod_of_nonneg h0
      clear h he e
      go_enter Tryz.func122, Tryz.ntmps122
      go_wp2_with (first | (go_at_call 70; refine hn.mono ?_; rintro r w1 ⟨rfl, hb1, hr1⟩) | (go_at_call 137; refine (hl _).mono ?_; rintro r w2 ⟨rfl, rfl⟩))
      go_ret
      exact ⟨hb1, by first | rfl | (simp [hm]; done) | (rw [← hm]; rfl), hr1⟩

theorem pow16 (k : Nat) (h : k ≤ 3) : (16 : Int) ^ k ≤ 4096 := by
  rcases (by omega : k = 0 ∨ k = 1 ∨ k = 2 ∨ k = 3) with rfl | rfl | rfl | rfl <;> decide
set_option maxRecDepth 100000 in
set_option maxHeartbeats 1600000 in
theorem hex_any (w : World) (rb : Nat) (l : List Int) (g : Int) (n : Nat) (hn : n ≤ 4) (h : RD w rb l g) :
    Calls Tryz.prog 123 #[.pointer (some ⟨rb, 0, none⟩), .int .i64 (n : Int)] w (IntR (hexG n 0 l) rb g w) := by
  obtain ⟨P, hP⟩ : ∃ P, P = IntR (hexG n 0 l) rb g w := ⟨_, rfl⟩
  rw [← hP]
  have HP := hid_intro hP
  clear hP
  go_enter Tryz.func123, Tryz.ntmps123
  go_wp2_with fail
  go_loopg [5, 7] n (fun m s5 s7 wr => ∃ (k : Nat) (acc : Int) (l' : List Int), k ≤ n ∧ m = n - k ∧ s7 = .int .i64 (k : Int) ∧ s5 = .int .i64 acc ∧ Hid (0 ≤ acc ∧ acc < 16 ^ k) ∧ Hid (hexG (n - k) acc l' = hexG n 0 l) ∧ But (· = rb) w wr ∧ RD wr rb l' g)
  case atStart => exact ⟨0, 0, l, Nat.zero_le _, rfl, rfl, rfl, ⟨by omega, by decide⟩, rfl, But.refl _ _, h⟩
  case round =>
    obtain ⟨k, acc, l', hk, rfl, rfl, rfl, HA, HG, hb, hR⟩ := hrel
    clear h
    by_cases hlt : k < n
    · have hI : (k : Int) < (n : Int) := by omega
      obtain ⟨j, hj⟩ : ∃ j, n - k = j + 1 := ⟨n - k - 1, by omega⟩
      have hj2 : n - (k + 1) = j := by omega
      have ha := HA.out
      have hp := pow16 k (by omega)
      have a0 : 0 ≤ acc := ha.1
      have a1 : acc < 4096 := by omega
      have hps : (16 : Int) ^ (k + 1) = 16 ^ k * 16 := Int.pow_succ 16 k
      rw [hj] at HG
      cases l' with
      | nil =>
        have hnx := next_no wr rb g hR
        have HE : Hid (hexG n 0 l = none) := hid_intro (by rw [← HG.out]; rfl)
        clear HG hR HA ha hp hps hlt hk hj hj2
        go_wp2_with (go_at_call 70; refine hnx.mono ?_; rintro r w1 ⟨rfl, hb1⟩)
        refine ⟨rfl, ?_⟩
        rw [HP.out, HE.out]
        exact ⟨hb.trans hb1, rfl⟩
      | cons c l2 =>
        have hnx := next_ok wr rb c l2 g hR
        cases hd : hexD c with
        | none =>
          have hx := fun w => hexDigitOf_no c w hd
          have HE : Hid (hexG n 0 l = none) := hid_intro (by rw [← HG.out]; simp only [hexG, hd])
          clear HG hR HA ha hp hps hlt hk hj hj2 hd
          go_wp2_with (first | (go_at_call 70; refine hnx.mono ?_; rintro r w1 ⟨rfl, hb1, hr1⟩) | (go_at_call 138; refine (hx _).mono ?_; rintro r w2 ⟨rfl, rfl⟩))
          refine ⟨rfl, ?_⟩
          rw [HP.out, HE.out]
          exact ⟨hb.trans hb1, rfl⟩
        | some d =>
          have hx := fun w => hexDigitOf_ok c d w hd
          have hbd := hexD_bd hd
          have HE : Hid (hexG j (acc * 16 + d) l2 = hexG n 0 l) := hid_intro (by rw [← HG.out]; simp only [hexG, hd])
          have HA2 : Hid (0 ≤ acc * 16 + d ∧ acc * 16 + d < 16 ^ (k + 1)) := hid_intro (by rw [hps]; omega)
          obtain ⟨d0, d1⟩ := hbd
          clear HG hR HA ha hp hps hd
          go_wp2_with (first | (go_at_call 70; refine hnx.mono ?_; rintro r w1 ⟨rfl, hb1, hr1⟩) | (go_at_call 138; refine (hx _).mono ?_; rintro r w2 ⟨rfl, rfl⟩))
          go_roundg (n - (k + 1))
          case measure => omega
          case rel => exact ⟨k + 1, acc * 16 + d, l2, by omega, rfl, by simp, rfl, HA2, by rw [hj2]; exact HE, hb.trans hb1, hr1⟩
    · have hI : ¬ ((k : Int) < (n : Int)) := by omega
      have HE : Hid (hexG n 0 l = some (acc, l')) := hid_intro (by rw [← HG.out, show n - k = 0 by omega]; rfl)
      clear HG HA hlt hk hn
      go_wp2_with fail
      rw [HP.out, HE.out]
      exact ⟨hb, rfl, hR⟩

set_option maxRecDepth 100000 in
set_option maxHeartbeats 1600000 in
theorem count_any' (w : World) (rb : Nat) (l : List Int) (g : Int) (h : RD w rb l g) :
    Calls Tryz.prog 95 #[.pointer (some ⟨rb, 0, none⟩)] w (IntR (countL l) rb g w) := by
  obtain ⟨P, hP⟩ : ∃ P, P = IntR (countL l) rb g w := ⟨_, rfl⟩
  rw [← hP]
  have HP := hid_intro hP
  clear hP
  cases l with
  | nil =>
    have hn := next_no w rb g h
    clear h
    go_enter Tryz.func95, Tryz.ntmps95
    go_wp2_with (go_at_call 70; refine hn.mono ?_; rintro r w1 ⟨rfl, hb1⟩)
    refine ⟨rfl, ?_⟩
    rw [HP.out]
    exact ⟨hb1, rfl⟩
  | cons c l =>
    have hn := next_ok w rb c l g h
    cases he : isDig c
    · have hd := fun w => digitOf_no c w he
      have HE : Hid (countL (c :: l) = none) := hid_intro (by simp [countL, he])
      clear h he
      go_enter Tryz.func95, Tryz.ntmps95
      go_wp2_with (first | (go_at_call 70; refine hn.mono ?_; rintro r w1 ⟨rfl, hb1, hr1⟩) | (go_at_call 117; refine (hd _).mono ?_; rintro r w2 ⟨rfl, rfl⟩))
      refine ⟨rfl, ?_⟩
      rw [HP.out, HE.out]
      exact ⟨hb1, rfl⟩
    · have hd := fun w => digitOf_ok c w he
      have HE : Hid (countL (c :: l) = countG (c - 48) l) := hid_intro (by simp [countL, he])
      have hcb : 0 ≤ c - 48 ∧ c - 48 ≤ 1000 := by simp only [isDig, Bool.and_eq_true, decide_eq_true_eq] at he; omega
      clear h he
      go_enter Tryz.func95, Tryz.ntmps95
      go_wp2_with (first | (go_at_call 70; refine hn.mono ?_; rintro r w1 ⟨rfl, hb1, hr1⟩) | (go_at_call 117; refine (hd _).mono ?_; rintro r w2 ⟨rfl, rfl⟩))
      have HB := hid_intro hb1
      have HR := hid_intro hr1
      have HC := hid_intro hcb
      clear hb1 hr1 hcb hn hd
      go_loopg [3] l.length (fun m s3 wr => ∃ (n : Int) (l' : List Int), m = l'.length ∧ s3 = .int .i64 n ∧ Hid (0 ≤ n ∧ n ≤ 1000) ∧ Hid (countG n l' = countL (c :: l)) ∧ But (· = rb) w wr ∧ RD wr rb l' g)
      case atStart => exact ⟨c - 48, l, rfl, rfl, HC, HE.out.symm, HB.out, HR.out⟩
      case round =>
        clear HB HR HC HE
        obtain ⟨n, l', rfl, rfl, HN, HG, hb, hR⟩ := hrel
        have hpk := peek_any wr rb l' g 0 (by omega) hR
        have hdg := fun w => isDigit_any (pk l' 0) w
        cases he2 : isDig (pk l' 0)
        · have HE2 : Hid (countL (c :: l) = some (n, l')) := hid_intro (by
            rw [← HG.out]
            cases l' with
            | nil => rfl
            | cons c2 l2 => have : isDig c2 = false := he2
                            simp [countG, this])
          rw [he2] at hdg
          clear HG he2
          have HR2 := hid_intro hR
          clear hR
          go_wp2_with (first | (go_at_call 49; refine hpk.mono ?_; rintro r w1 ⟨rfl, hb1⟩) | (go_at_call 118; refine (hdg _).mono ?_; rintro r w2 ⟨rfl, rfl⟩))
          rw [HP.out, HE2.out]
          exact ⟨hb.below hb1, rfl, HR2.out.below hb1⟩
        · cases l' with
          | nil => exact absurd he2 (by decide)
          | cons c2 l2 =>
            have hc2 : isDig c2 = true := he2
            have hnx := fun w' (hb' : Below wr.heap.size wr w') => next_ok w' rb c2 l2 g (hR.below hb')
            have hdo := fun w => digitOf_ok c2 w hc2
            have hcb : 0 ≤ c2 - 48 ∧ c2 - 48 ≤ 9 := by simp only [isDig, Bool.and_eq_true, decide_eq_true_eq] at hc2; omega
            obtain ⟨k0, k1⟩ := hcb
            obtain ⟨n0, n1⟩ := HN.out
            rw [he2] at hdg
            by_cases hgt : n * 10 + (c2 - 48) > 1000
            · have HE2 : Hid (countL (c :: l) = none) := hid_intro (by
                rw [← HG.out]
                simp only [countG, hc2, if_true]
                rw [if_pos hgt])
              have hg2 : (1000 : Int) < n * 10 + (c2 - 48) := hgt
              clear HG he2 hc2 hgt hR
              generalize c2 - 48 = dd at *
              go_wp2_with (first | (go_at_call 49; refine hpk.mono ?_; rintro r w1 ⟨rfl, hb1⟩) | (go_at_call 118; refine (hdg _).mono ?_; rintro r w2 ⟨rfl, rfl⟩) | (go_at_call 70; refine (hnx _ hb1).mono ?_; rintro r w3 ⟨rfl, hb3, hr3⟩) | (go_at_call 117; refine (hdo _).mono ?_; rintro r w4 ⟨rfl, rfl⟩))
              refine ⟨rfl, ?_⟩
              rw [HP.out, HE2.out]
              exact ⟨(hb.below hb1).trans hb3, rfl⟩
            · have HE2 : Hid (countG (n * 10 + (c2 - 48)) l2 = countL (c :: l)) := hid_intro (by
                rw [← HG.out]
                simp only [countG, hc2, if_true]
                rw [if_neg hgt])
              have hg2 : ¬ (1000 : Int) < n * 10 + (c2 - 48) := hgt
              have HN2 : Hid (0 ≤ n * 10 + (c2 - 48) ∧ n * 10 + (c2 - 48) ≤ 1000) := hid_intro (by omega)
              clear HG he2 hc2 hgt hR
              generalize c2 - 48 = dd at *
              go_wp2_with (first | (go_at_call 49; refine hpk.mono ?_; rintro r w1 ⟨rfl, hb1⟩) | (go_at_call 118; refine (hdg _).mono ?_; rintro r w2 ⟨rfl, rfl⟩) | (go_at_call 70; refine (hnx _ hb1).mono ?_; rintro r w3 ⟨rfl, hb3, hr3⟩) | (go_at_call 117; refine (hdo _).mono ?_; rintro r w4 ⟨rfl, rfl⟩))
              go_roundg l2.length
              case measure => simp
              case rel => exact ⟨_, l2, rfl, rfl, HN2, HE2, (hb.below hb1).trans hb3, hr3⟩

/-- Two numbers and what is left, or the panic. -/
def IntR2 (x : Option ((Int × Int) × List Int)) (rb : Nat) (g : Int) (w : World) (r : Ending) (w' : World) : Prop :=
  But (· = rb) w w' ∧ match x with
    | none => r = stopX
    | some y => r = .returned (.tuple #[.int .i64 y.1.1, .int .i64 y.1.2]) ∧ RD w' rb y.2 g
theorem i1 (a : UInt8) : ints ⟨#[a]⟩ = [((a.toNat : Nat) : Int)] := rfl
theorem i2 (a b : UInt8) : ints ⟨#[a, b]⟩ = [((a.toNat : Nat) : Int), ((b.toNat : Nat) : Int)] := rfl
theorem i44 : ints ⟨#[44]⟩ = [44] := rfl
theorem i125 : ints ⟨#[125]⟩ = [125] := rfl
theorem i44125 : ints ⟨#[44, 125]⟩ = [44, 125] := rfl

set_option maxRecDepth 100000 in
set_option maxHeartbeats 1600000 in
theorem counts_any (w : World) (rb : Nat) (l : List Int) (g : Int) (h : RD w rb l g) :
    Calls Tryz.prog 69 #[.pointer (some ⟨rb, 0, none⟩)] w (IntR2 (countsL l) rb g w) := by
  obtain ⟨P, hP⟩ : ∃ P, P = IntR2 (countsL l) rb g w := ⟨_, rfl⟩
  rw [← hP]
  have HP := hid_intro hP
  clear hP
  have hc1 := count_any' w rb l g h
  cases e1 : countL l with
  | none =>
    rw [e1] at hc1
    have HE : Hid (countsL l = none) := hid_intro (by unfold countsL; rw [e1])
    clear h e1
    go_enter Tryz.func69, Tryz.ntmps69
    go_wp2_with (go_at_call 95; refine hc1.mono ?_; rintro r w1 ⟨hb1, rfl⟩)
    refine ⟨rfl, ?_⟩
    rw [HP.out, HE.out]
    exact ⟨hb1, rfl⟩
  | some y =>
    obtain ⟨a, l1⟩ := y
    rw [e1] at hc1
    have ht1 := fun w (h : RD w rb l1 g) => take_any w rb l1 g ⟨#[125]⟩ (by decide) h
    have ht2 := fun w (h : RD w rb l1 g) => take_any w rb l1 g ⟨#[44, 125]⟩ (by decide) h
    rw [i125] at ht1
    rw [i44125] at ht2
    cases s1 : startsW [125] l1
    · have r1 : rest [125] l1 = l1 := by unfold rest; rw [s1]; rfl
      rw [s1, r1] at ht1
      cases s2 : startsW [44, 125] l1
      · have r2 : rest [44, 125] l1 = l1 := by unfold rest; rw [s2]; rfl
        rw [s2, r2] at ht2
        cases s3 : startsW [44] l1
        · have hn := fun w (h : RD w rb l1 g) => need_no w rb l1 g ⟨#[44]⟩ (by decide) h (by rw [i44]; exact s3)
          have HE : Hid (countsL l = none) := hid_intro (by unfold countsL; rw [e1]; simp only [s1, s2, s3, Bool.false_eq_true, reduceIte])
          clear h e1 s1 s2 s3 r1 r2
          go_enter Tryz.func69, Tryz.ntmps69
          go_wp2_with fail
          refine hc1.mono ?_; rintro r w1 ⟨hb1, rfl, hr1⟩
          go_wp2_with fail
          refine (ht1 _ hr1).mono ?_; rintro r w2 ⟨rfl, hb2, hr2⟩
          go_wp2_with fail
          refine (ht2 _ hr2).mono ?_; rintro r w3 ⟨rfl, hb3, hr3⟩
          go_wp2_with fail
          refine (hn _ hr3).mono ?_; rintro r w4 ⟨rfl, hb4⟩
          go_wp2_with fail
          refine ⟨rfl, ?_⟩
          rw [HP.out, HE.out]
          exact ⟨((hb1.trans hb2).trans hb3).trans hb4, rfl⟩
        · have hn := fun w (h : RD w rb l1 g) => need_ok w rb l1 g ⟨#[44]⟩ (by decide) h (by rw [i44]; exact s3)
          have hc2 := fun w (h : RD w rb (l1.drop 1) g) => count_any' w rb (l1.drop 1) g h
          cases e2 : countL (l1.drop 1) with
          | none =>
            rw [e2] at hc2
            have HE : Hid (countsL l = none) := hid_intro (by unfold countsL; rw [e1]; simp only [s1, s2, s3, e2, Bool.false_eq_true, reduceIte])
            clear h e1 s1 s2 s3 r1 r2 e2
            go_enter Tryz.func69, Tryz.ntmps69
            go_wp2_with fail
            refine hc1.mono ?_; rintro r w1 ⟨hb1, rfl, hr1⟩
            go_wp2_with fail
            refine (ht1 _ hr1).mono ?_; rintro r w2 ⟨rfl, hb2, hr2⟩
            go_wp2_with fail
            refine (ht2 _ hr2).mono ?_; rintro r w3 ⟨rfl, hb3, hr3⟩
            go_wp2_with fail
            refine (hn _ hr3).mono ?_; rintro r w4 ⟨rfl, hb4, hr4⟩
            go_wp2_with fail
            refine (hc2 _ hr4).mono ?_; rintro r w5 ⟨hb5, rfl⟩
            go_wp2_with fail
            refine ⟨rfl, ?_⟩
            rw [HP.out, HE.out]
            exact ⟨(((hb1.trans hb2).trans hb3).trans hb4).trans hb5, rfl⟩
          | some y2 =>
            obtain ⟨b, l2⟩ := y2
            rw [e2] at hc2
            cases s4 : startsW [125] l2
            · have hn2 := fun w (h : RD w rb l2 g) => need_no w rb l2 g ⟨#[125]⟩ (by decide) h (by rw [i125]; exact s4)
              have HE : Hid (countsL l = none) := hid_intro (by unfold countsL; rw [e1]; simp only [s1, s2, s3, e2, s4, Bool.false_eq_true, reduceIte])
              clear h e1 s1 s2 s3 r1 r2 e2 s4
              go_enter Tryz.func69, Tryz.ntmps69
              go_wp2_with fail
              refine hc1.mono ?_; rintro r w1 ⟨hb1, rfl, hr1⟩
              go_wp2_with fail
              refine (ht1 _ hr1).mono ?_; rintro r w2 ⟨rfl, hb2, hr2⟩
              go_wp2_with fail
              refine (ht2 _ hr2).mono ?_; rintro r w3 ⟨rfl, hb3, hr3⟩
              go_wp2_with fail
              refine (hn _ hr3).mono ?_; rintro r w4 ⟨rfl, hb4, hr4⟩
              go_wp2_with fail
              refine (hc2 _ hr4).mono ?_; rintro r w5 ⟨hb5, rfl, hr5⟩
              go_wp2_with fail
              refine (hn2 _ hr5).mono ?_; rintro r w6 ⟨rfl, hb6⟩
              go_wp2_with fail
              refine ⟨rfl, ?_⟩
              rw [HP.out, HE.out]
              exact ⟨((((hb1.trans hb2).trans hb3).trans hb4).trans hb5).trans hb6, rfl⟩
            · have hn2 := fun w (h : RD w rb l2 g) => need_ok w rb l2 g ⟨#[125]⟩ (by decide) h (by rw [i125]; exact s4)
              by_cases hba : b < a
              · have HE : Hid (countsL l = none) := hid_intro (by unfold countsL; rw [e1]; simp only [s1, s2, s3, e2, s4, hba, Bool.false_eq_true, reduceIte])
                clear h e1 s1 s2 s3 r1 r2 e2 s4
                go_enter Tryz.func69, Tryz.ntmps69
                go_wp2_with fail
                refine hc1.mono ?_; rintro r w1 ⟨hb1, rfl, hr1⟩
                go_wp2_with fail
                refine (ht1 _ hr1).mono ?_; rintro r w2 ⟨rfl, hb2, hr2⟩
                go_wp2_with fail
                refine (ht2 _ hr2).mono ?_; rintro r w3 ⟨rfl, hb3, hr3⟩
                go_wp2_with fail
                refine (hn _ hr3).mono ?_; rintro r w4 ⟨rfl, hb4, hr4⟩
                go_wp2_with fail
                refine (hc2 _ hr4).mono ?_; rintro r w5 ⟨hb5, rfl, hr5⟩
                go_wp2_with fail
                refine (hn2 _ hr5).mono ?_; rintro r w6 ⟨rfl, hb6, hr6⟩
                go_wp2_with fail
                refine ⟨rfl, ?_⟩
                rw [HP.out, HE.out]
                exact ⟨((((hb1.trans hb2).trans hb3).trans hb4).trans hb5).trans hb6, rfl⟩
              · have HE : Hid (countsL l = some ((a, b), l2.drop 1)) := hid_intro (by unfold countsL; rw [e1]; simp only [s1, s2, s3, e2, s4, hba, Bool.false_eq_true, reduceIte])
                clear h e1 s1 s2 s3 r1 r2 e2 s4
                go_enter Tryz.func69, Tryz.ntmps69
                go_wp2_with fail
                refine hc1.mono ?_; rintro r w1 ⟨hb1, rfl, hr1⟩
                go_wp2_with fail
                refine (ht1 _ hr1).mono ?_; rintro r w2 ⟨rfl, hb2, hr2⟩
                go_wp2_with fail
                refine (ht2 _ hr2).mono ?_; rintro r w3 ⟨rfl, hb3, hr3⟩
                go_wp2_with fail
                refine (hn _ hr3).mono ?_; rintro r w4 ⟨rfl, hb4, hr4⟩
                go_wp2_with fail
                refine (hc2 _ hr4).mono ?_; rintro r w5 ⟨hb5, rfl, hr5⟩
                go_wp2_with fail
                refine (hn2 _ hr5).mono ?_; rintro r w6 ⟨rfl, hb6, hr6⟩
                go_wp2_with fail
                rw [HP.out, HE.out]
                exact ⟨((((hb1.trans hb2).trans hb3).trans hb4).trans hb5).trans hb6, rfl, hr6⟩
      · have r2 : rest [44, 125] l1 = l1.drop 2 := by unfold rest; rw [s2]; rfl
        rw [s2, r2] at ht2
        have HE : Hid (countsL l = some ((a, -1), l1.drop 2)) := hid_intro (by unfold countsL; rw [e1]; simp only [s1, s2, Bool.false_eq_true, reduceIte])
        clear h e1 s1 s2 r1 r2
        go_enter Tryz.func69, Tryz.ntmps69
        go_wp2_with fail
        refine hc1.mono ?_; rintro r w1 ⟨hb1, rfl, hr1⟩
        go_wp2_with fail
        refine (ht1 _ hr1).mono ?_; rintro r w2 ⟨rfl, hb2, hr2⟩
        go_wp2_with fail
        refine (ht2 _ hr2).mono ?_; rintro r w3 ⟨rfl, hb3, hr3⟩
        go_wp2_with fail
        rw [HP.out, HE.out]
        exact ⟨(hb1.trans hb2).trans hb3, rfl, hr3⟩
    · have r1 : rest [125] l1 = l1.drop 1 := by unfold rest; rw [s1]; rfl
      rw [s1, r1] at ht1
      have HE : Hid (countsL l = some ((a, a), l1.drop 1)) := hid_intro (by unfold countsL; rw [e1]; simp only [s1, reduceIte])
      clear h e1 s1 r1
      go_enter Tryz.func69, Tryz.ntmps69
      go_wp2_with fail
      refine hc1.mono ?_; rintro r w1 ⟨hb1, rfl, hr1⟩
      go_wp2_with fail
      refine (ht1 _ hr1).mono ?_; rintro r w2 ⟨rfl, hb2, hr2⟩
      go_wp2_with fail
      rw [HP.out, HE.out]
      exact ⟨hb1.trans hb2, rfl, hr2⟩
end Go.Proofs.YtppilokmgdpnnaaGreatDoor
