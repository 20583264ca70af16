/-
  What ref4.number answers: the same as lex.number. Conditions: the bytes lie in memory, at most 2^48 of them.
-/
import Derived.Test.YtnpnnkjkohcgnaaDoorF1
import Derived.Deep.DeepCutAuto
namespace Go.Proofs.YtnpnnkjkohcgnaaDoor
open Go.RowKit
attribute [local go_sem] setCell_drewN alloc_drewN

theorem digitsL_error {l : List UInt8} {i n : Nat} (h : digitsL l i = .error n) : n = i + 1 := by
  unfold digitsL at h
  split at h
  · cases h
  · exact (Except.error.inj h).symm
theorem digitsL_ok {l : List UInt8} {i k : Nat} (h : digitsL l i = .ok k) : k ≤ l.length := (digitsL_le h).2

set_option maxRecDepth 100000 in
set_option maxHeartbeats 6400000 in
theorem rnumber_any (l : List UInt8) (i : Nat) (v : Value) (w : World) (hB : Byt w v l) (hi : i < l.length) (hm : l.length ≤ 281474976710656) :
    Calls Tryd.prog 16 #[v, .int .i64 i] w fun r w' => r = .returned (rpV (numberL l i)) ∧ w = w' := by
  have hlI : (l.length : Int) ≤ 281474976710656 := by omega
  have hs := fun k (hk : k ≤ l.length) => (rsome_any l k v w hB hk hm).mono fun r w' h => (show r = .returned (rpV (digitsL l k)) ∧ w = w' from ⟨h.1, h.2.symm⟩)
  rcases hB with ⟨h0, _⟩ | ⟨b, off, cap, rfl, hc, hm', hL⟩
  · omega
  clear hc hm'
  have hc0 := hL.cell i hi
  have hiI : (i : Int) < (l.length : Int) := by omega
  have hal : aft l i (· == 45) ≤ l.length := (aft_le l i (· == 45)).2.2 (by omega)
  have HN : Hid (numberL l i = expPart l (fracPart l (if hasAt l (aft l i (· == 45)) (· == 48) = true then .ok (aft l i (· == 45) + 1) else digitsL l (aft l i (· == 45))))) := rfl
  go_enter Tryd.func16, Tryd.ntmps16
  go_upto_if 11 with fail
  go_cut [1] (fun s1 wx => s1 = .int .i64 ((aft l i (· == 45) : Nat) : Int) ∧ w = wx)
  case first =>
    by_cases e : bx l i = 45
    · have HA : Hid (aft l i (· == 45) = i + 1) := by show _ = _; simp [aft, hasAt_in _ hi, e]
      have hbt : (bx l i == 45) = true := by rw [e]; rfl
      clear e HN hal hs
      generalize bx l i = c at *
      go_wp2_with fail
      go_meet
      exact ⟨by rw [HA.out]; go_num, rfl⟩
    · have HA : Hid (aft l i (· == 45) = i) := by show _ = _; simp [aft, hasAt_in _ hi, e]
      have hne : (bx l i == 45) = false := beq_eq_false_iff_ne.2 e
      clear e HN hal hs
      generalize bx l i = c at *
      go_wp2_with fail
      go_meet
      exact ⟨by rw [HA.out], rfl⟩
  case rest =>
    obtain ⟨rfl, rfl⟩ := hcut
    clear hc0 hiI hi
    generalize aft l i (· == 45) = a at *
    have haI : (a : Int) ≤ 281474976710656 := by omega
    go_upto_region 4 with fail
    go_cut [24] (fun s wx => s = .bool (hasAt l a (· == 48)) ∧ w = wx)
    case first =>
      by_cases hin : a < l.length
      · have hcell := hL.cell a hin
        have hI : (a : Int) < (l.length : Int) := by omega
        have HQ : Hid (hasAt l a (· == 48) = (bx l a == 48)) := hasAt_in _ hin
        clear hs hin HN hal
        by_cases e0 : bx l a = 48
        · rw [e0] at hcell
          go_wp2_with fail
          go_meet
          exact ⟨by rw [HQ.out, e0]; rfl, rfl⟩
        · have hne0 : (bx l a == 48) = false := beq_eq_false_iff_ne.2 e0
          have HQ2 : Hid (hasAt l a (· == 48) = false) := by show _ = _; rw [HQ.out, hne0]; try rfl
          clear e0 HQ
          generalize bx l a = c at *
          go_wp2_with fail
          go_meet
          exact ⟨by rw [HQ2.out], rfl⟩
      · have hI : ¬ (a : Int) < (l.length : Int) := by omega
        have HQ2 : Hid (hasAt l a (· == 48) = false) := hasAt_out _ hin
        clear hs hin hL HN hal
        go_wp2_with fail
        go_meet
        exact ⟨by rw [HQ2.out], rfl⟩
    case rest =>
      obtain ⟨rfl, rfl⟩ := hcut
      go_upto_if 24 with fail
      go_cut [1, 6] (fun s1 s6 wx => ∃ k : Nat, k ≤ l.length ∧ Hid (numberL l i = expPart l (fracPart l (.ok k))) ∧ s1 = .int .i64 (k : Int) ∧ s6 = .int .i64 0 ∧ w = wx)
      case first =>
        cases hq : hasAt l a (· == 48)
        · have HN2 : Hid (numberL l i = expPart l (fracPart l (digitsL l a))) := by show _ = _; rw [HN.out, if_neg (by rw [hq]; simp)]
          have h1 := hs a hal
          clear HN hs
          cases hd : digitsL l a with
          | error n =>
            have hn := digitsL_error hd
            rw [hd] at h1 HN2
            simp only [rpV] at h1
            have hn0 : (0 : Int) < (n : Int) := by omega
            clear hn hd
            go_wp2_with (go_at_call 26; refine h1.mono ?_; rintro r w' ⟨rfl, rfl⟩)
            go_ret2
            exact ⟨r_pl (by rw [HN2.out]; simp [rpV, expPart, fracPart]), rfl⟩
          | ok m =>
            have hm2 := digitsL_ok hd
            rw [hd] at h1 HN2
            simp only [rpV] at h1
            clear hd
            go_wp2_with (go_at_call 26; refine h1.mono ?_; rintro r w' ⟨rfl, rfl⟩)
            go_meet
            exact ⟨m, hm2, HN2, rfl, rfl, rfl⟩
        · have HA : Hid (numberL l i = expPart l (fracPart l (.ok (a + 1)))) := by show _ = _; rw [HN.out, if_pos hq]
          have hlt := hasAt_lt hq
          clear HN hs
          go_wp2_with fail
          go_meet
          exact ⟨a + 1, by omega, HA, by go_num, rfl, rfl⟩
      case rest =>
        obtain ⟨k, hk, HK, rfl, rfl, rfl⟩ := hcut
        clear HN hal haI
        have hkI : (k : Int) ≤ 281474976710656 := by omega
        go_upto_region 9 with fail
        go_cut [46] (fun s wx => s = .bool (hasAt l k (· == 46)) ∧ w = wx)
        case first =>
          by_cases hin : k < l.length
          · have hcell := hL.cell k hin
            have hI : (k : Int) < (l.length : Int) := by omega
            have HQ : Hid (hasAt l k (· == 46) = (bx l k == 46)) := hasAt_in _ hin
            clear hs hin HK hk
            by_cases e0 : bx l k = 46
            · rw [e0] at hcell
              go_wp2_with fail
              go_meet
              exact ⟨by rw [HQ.out, e0]; rfl, rfl⟩
            · have hne0 : (bx l k == 46) = false := beq_eq_false_iff_ne.2 e0
              have HQ2 : Hid (hasAt l k (· == 46) = false) := by show _ = _; rw [HQ.out, hne0]; try rfl
              clear e0 HQ
              generalize bx l k = c at *
              go_wp2_with fail
              go_meet
              exact ⟨by rw [HQ2.out], rfl⟩
          · have hI : ¬ (k : Int) < (l.length : Int) := by omega
            have HQ2 : Hid (hasAt l k (· == 46) = false) := hasAt_out _ hin
            clear hs hin hL HK hk
            go_wp2_with fail
            go_meet
            exact ⟨by rw [HQ2.out], rfl⟩
        case rest =>
          obtain ⟨rfl, rfl⟩ := hcut
          go_upto_if 46 with fail
          go_cut [1, 6] (fun s1 s6 wx => ∃ k : Nat, k ≤ l.length ∧ Hid (numberL l i = expPart l (.ok k)) ∧ s1 = .int .i64 (k : Int) ∧ s6 = .int .i64 0 ∧ w = wx)
          case first =>
            cases hq : hasAt l k (· == 46)
            · have HN2 : Hid (numberL l i = expPart l (.ok k)) := by show _ = _; rw [HK.out]; simp only [fracPart]; rw [if_neg (by rw [hq]; simp)]
              clear HK hs
              go_wp2_with fail
              go_meet
              exact ⟨k, hk, HN2, rfl, rfl, rfl⟩
            · have HN2 : Hid (numberL l i = expPart l (digitsL l (k + 1))) := by show _ = _; rw [HK.out]; simp only [fracPart]; rw [if_pos hq]
              have hlt := hasAt_lt hq
              have h1 := hs (k + 1) (by omega)
              have e1 : ((k + 1 : Nat) : Int) = (k : Int) + 1 := by omega
              rw [e1] at h1
              clear HK hs e1
              cases hd : digitsL l (k + 1) with
              | error n =>
                have hn := digitsL_error hd
                rw [hd] at h1 HN2
                simp only [rpV] at h1
                have hn0 : (0 : Int) < (n : Int) := by omega
                clear hn hd
                go_wp2_with (go_at_call 26; refine h1.mono ?_; rintro r w' ⟨rfl, rfl⟩)
                go_ret2
                exact ⟨r_pl (by rw [HN2.out]; simp [rpV, expPart]), rfl⟩
              | ok m =>
                have hm2 := digitsL_ok hd
                rw [hd] at h1 HN2
                simp only [rpV] at h1
                clear hd
                go_wp2_with (go_at_call 26; refine h1.mono ?_; rintro r w' ⟨rfl, rfl⟩)
                go_meet
                exact ⟨m, hm2, HN2, rfl, rfl, rfl⟩
          case rest =>
            obtain ⟨p, hp, HP, rfl, rfl, rfl⟩ := hcut
            clear HK hk hkI
            have hpI : (p : Int) ≤ 281474976710656 := by omega
            go_upto_region 13 with fail
            go_cut [74] (fun s wx => s = .bool (hasAt l p (fun c => c == 101 || c == 69)) ∧ w = wx)
            case first =>
              by_cases hin : p < l.length
              · have hcell := hL.cell p hin
                have hI : (p : Int) < (l.length : Int) := by omega
                have HQ : Hid (hasAt l p (fun c => c == 101 || c == 69) = (bx l p == 101 || bx l p == 69)) := hasAt_in _ hin
                clear hs hin HP hp
                by_cases e0 : bx l p = 101
                · rw [e0] at hcell
                  go_wp2_with fail
                  go_meet
                  exact ⟨by rw [HQ.out, e0]; rfl, rfl⟩
                · have hne0 : (bx l p == 101) = false := beq_eq_false_iff_ne.2 e0
                  by_cases e1 : bx l p = 69
                  · rw [e1] at hcell
                    clear e0 hne0
                    go_wp2_with fail
                    go_meet
                    exact ⟨by rw [HQ.out, e1]; rfl, rfl⟩
                  · have hne1 : (bx l p == 69) = false := beq_eq_false_iff_ne.2 e1
                    have HQ2 : Hid (hasAt l p (fun c => c == 101 || c == 69) = false) := by show _ = _; rw [HQ.out, hne0, hne1]; try rfl
                    clear e0 e1 HQ
                    generalize bx l p = c at *
                    go_wp2_with fail
                    go_meet
                    exact ⟨by rw [HQ2.out], rfl⟩
              · have hI : ¬ (p : Int) < (l.length : Int) := by omega
                have HQ2 : Hid (hasAt l p (fun c => c == 101 || c == 69) = false) := hasAt_out _ hin
                clear hs hin hL HP hp
                go_wp2_with fail
                go_meet
                exact ⟨by rw [HQ2.out], rfl⟩
            case rest =>
              obtain ⟨rfl, rfl⟩ := hcut
              cases hq : hasAt l p (fun c => c == 101 || c == 69)
              · have HF : Hid (numberL l i = .ok p) := by show _ = _; rw [HP.out]; simp only [expPart]; rw [if_neg (by rw [hq]; simp)]
                clear HP hs hL
                go_wp2
                go_ret2
                exact ⟨r_pl (by rw [HF.out]; simp [rpV]), rfl⟩
              · have hp2 := hasAt_lt hq
                have HF : Hid (numberL l i = digitsL l (aft l (p + 1) (fun c => c == 43 || c == 45))) := by show _ = _; rw [HP.out]; simp only [expPart]; rw [if_pos hq]; rfl
                have hal : aft l (p + 1) (fun c => c == 43 || c == 45) ≤ l.length := (aft_le l (p + 1) (fun c => c == 43 || c == 45)).2.2 (by omega)
                have hpl : p + 1 ≤ l.length := by omega
                clear HP
                go_upto_region 14 with fail
                go_cut [1] (fun s1 wx => s1 = .int .i64 ((p + 1 : Nat) : Int) ∧ w = wx)
                case first =>
                  clear hs HF
                  go_wp2_with fail
                  go_meet
                  exact ⟨by go_num, rfl⟩
                case rest =>
                  obtain ⟨rfl, rfl⟩ := hcut
                  clear hq hp2 hp hpI
                  generalize p + 1 = q at *
                  have hqI : (q : Int) ≤ 281474976710656 := by omega
                  go_upto_region 15 with fail
                  go_cut [94] (fun s wx => s = .bool (hasAt l q (fun c => c == 43 || c == 45)) ∧ w = wx)
                  case first =>
                    by_cases hin : q < l.length
                    · have hcell := hL.cell q hin
                      have hI : (q : Int) < (l.length : Int) := by omega
                      have HQ : Hid (hasAt l q (fun c => c == 43 || c == 45) = (bx l q == 43 || bx l q == 45)) := hasAt_in _ hin
                      clear hs hin HF hal
                      by_cases e0 : bx l q = 43
                      · rw [e0] at hcell
                        go_wp2_with fail
                        go_meet
                        exact ⟨by rw [HQ.out, e0]; rfl, rfl⟩
                      · have hne0 : (bx l q == 43) = false := beq_eq_false_iff_ne.2 e0
                        by_cases e1 : bx l q = 45
                        · rw [e1] at hcell
                          clear e0 hne0
                          go_wp2_with fail
                          go_meet
                          exact ⟨by rw [HQ.out, e1]; rfl, rfl⟩
                        · have hne1 : (bx l q == 45) = false := beq_eq_false_iff_ne.2 e1
                          have HQ2 : Hid (hasAt l q (fun c => c == 43 || c == 45) = false) := by show _ = _; rw [HQ.out, hne0, hne1]; try rfl
                          clear e0 e1 HQ
                          generalize bx l q = c at *
                          go_wp2_with fail
                          go_meet
                          exact ⟨by rw [HQ2.out], rfl⟩
                    · have hI : ¬ (q : Int) < (l.length : Int) := by omega
                      have HQ2 : Hid (hasAt l q (fun c => c == 43 || c == 45) = false) := hasAt_out _ hin
                      clear hs hin hL HF hal
                      go_wp2_with fail
                      go_meet
                      exact ⟨by rw [HQ2.out], rfl⟩
                  case rest =>
                    obtain ⟨rfl, rfl⟩ := hcut
                    go_upto_if 94 with fail
                    go_cut [1] (fun s1 wx => s1 = .int .i64 ((aft l q (fun c => c == 43 || c == 45) : Nat) : Int) ∧ w = wx)
                    case first =>
                      cases hq : hasAt l q (fun c => c == 43 || c == 45)
                      · have HA : Hid (aft l q (fun c => c == 43 || c == 45) = q) := by show _ = _; simp [aft, hq]
                        clear HF hs hal
                        go_wp2_with fail
                        go_meet
                        exact ⟨by rw [HA.out], rfl⟩
                      · have HA : Hid (aft l q (fun c => c == 43 || c == 45) = q + 1) := by show _ = _; simp [aft, hq]
                        clear HF hs hal
                        go_wp2_with fail
                        go_meet
                        exact ⟨by rw [HA.out]; go_num, rfl⟩
                    case rest =>
                      obtain ⟨rfl, rfl⟩ := hcut
                      have h1 := hs _ hal
                      clear hs
                      generalize aft l q (fun c => c == 43 || c == 45) = a at *
                      cases hd : digitsL l a with
                      | error n =>
                        have hn := digitsL_error hd
                        rw [hd] at h1 HF
                        simp only [rpV] at h1
                        have hn0 : (0 : Int) < (n : Int) := by omega
                        clear hn hd
                        go_wp2_with (go_at_call 26; refine h1.mono ?_; rintro r w' ⟨rfl, rfl⟩)
                        go_ret2
                        exact ⟨r_pl (by rw [HF.out]; simp [rpV]), rfl⟩
                      | ok m =>
                        have hm2 := digitsL_ok hd
                        rw [hd] at h1 HF
                        simp only [rpV] at h1
                        clear hd
                        go_wp2_with (go_at_call 26; refine h1.mono ?_; rintro r w' ⟨rfl, rfl⟩)
                        go_ret2
                        exact ⟨r_pl (by rw [HF.out]; simp [rpV]), rfl⟩
end Go.Proofs.YtnpnnkjkohcgnaaDoor
