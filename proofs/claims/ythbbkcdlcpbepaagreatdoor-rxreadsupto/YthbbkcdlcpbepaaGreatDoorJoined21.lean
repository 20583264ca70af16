/-
  The reference's unicode, whole. No condition.
-/
import Derived.Test.YthbbkcdlcpbepaaGreatDoorJoined16
import Derived.Test.YthbbkcdlcpbepaaGreatDoorJoined20
namespace Go.Proofs.YthbbkcdlcpbepaaGreatDoor
open Go.RowKit
attribute [local go_sem] setCell_drewN alloc_drewN

theorem uni_pl {S : List Int} {a : Nat} (h : pk S a ≠ 123) : unicodeL (S.drop a) = match hexG 4 0 (S.drop a) with
    | none => none
    | some (p, l1) => if isPt p = true then some (p, l1) else
      if startsW [92, 117] l1 = true then
        match hexG 4 0 (l1.drop 2) with
        | none => none
        | some (q, l2) => match pairO p q with
          | none => none
          | some x => some (x, l2)
      else none := by
  unfold unicodeL
  rw [sw1 (by omega), decide_eq_false h]; rfl

set_option maxRecDepth 100000 in
set_option maxHeartbeats 1600000 in
theorem runi_pl (w : World) (pb a : Nat) (S : List Int) (g : Int) (bad : Bool) (ha : a ≤ S.length) (hq : pk S a ≠ 123) (h : RP w pb S a g bad) :
    Calls Tryz.prog 96 #[.pointer (some ⟨pb, 0, none⟩)] w fun r w' => ∃ x a', r = .returned (.int .i64 x) ∧ But (· = pb) w w' ∧ RP w' pb S a' g bad ∧ a' ≤ S.length ∧ HexQ (unicodeL (S.drop a)) S x a' := by
  obtain ⟨U, hU⟩ : ∃ U, unicodeL (S.drop a) = U := ⟨_, rfl⟩
  rw [hU]
  rw [uni_pl hq] at hU
  obtain ⟨P, hP⟩ : ∃ P : Ending → World → Prop, P = fun r w' => ∃ x a', r = .returned (.int .i64 x) ∧ But (· = pb) w w' ∧ RP w' pb S a' g bad ∧ a' ≤ S.length ∧ HexQ U S x a' := ⟨_, rfl⟩
  rw [← hP]
  have HP := hid_intro hP
  have ht := rtake_any w pb a S g 123 bad (by omega) h
  rw [decide_eq_false hq, show tk S a 123 = a by unfold tk; rw [if_neg hq]] at ht
  have HHX := hid_intro (fun w' (h : RP w' pb S a g bad) => rhex_any w' pb a S g bad 4 (by omega) ha h)
  clear hP h ha hq
  cases e1 : hexG 4 0 (S.drop a) with
  | none =>
    rw [e1] at HHX hU
    simp only at hU
    subst hU
    clear e1
    go_enter Tryz.func96, Tryz.ntmps96
    go_wp2_with fail
    refine ht.mono ?_; rintro r w1 ⟨rfl, hb1, hr1⟩
    have HR1 := hid_intro hr1
    have HB1 := hid_intro hb1
    clear ht hb1 hr1
    go_wp2_with fail
    refine (HHX.out w1 HR1.out).mono ?_; rintro r w3 ⟨x3, a3, rfl, hb3, hr3, hl3, hx3⟩
    obtain rfl : x3 = -1 := hx3
    have HF := hid_intro (And.intro (HB1.out.trans hb3) (And.intro hr3 hl3))
    clear hb3 hr3 hl3
    go_wp2_with fail
    rw [HP.out]
    exact ⟨-1, a3, rfl, HF.out.1, HF.out.2.1, HF.out.2.2, rfl⟩
  | some y =>
    obtain ⟨p, l1⟩ := y
    have hpb := hexG_bd 4 0 _ _ e1 (by omega)
    simp only at hpb
    have hp0 : 0 ≤ p := hpb.1
    have hp1 : p < 65536 := by have := hpb.2; omega
    rw [e1] at HHX hU
    simp only at hU
    clear e1 hpb
    by_cases hpt : isPt p = true
    · rw [if_pos hpt] at hU
      subst hU
      have hsr : p < 55296 ∨ 57343 < p := by simp only [isPt, Bool.or_eq_true, Bool.and_eq_true, decide_eq_true_eq] at hpt; omega
      clear hpt hp0 hp1
      by_cases hs1 : p < 55296
      · clear hsr
        go_enter Tryz.func96, Tryz.ntmps96
        go_wp2_with fail
        refine ht.mono ?_; rintro r w1 ⟨rfl, hb1, hr1⟩
        have HR1 := hid_intro hr1
        have HB1 := hid_intro hb1
        clear ht hb1 hr1
        go_wp2_with fail
        refine (HHX.out w1 HR1.out).mono ?_; rintro r w3 ⟨x3, a3, rfl, hb3, hr3, hl3, rfl, hd3, _⟩
        have HF := hid_intro (And.intro (HB1.out.trans hb3) (And.intro hr3 (And.intro hl3 hd3)))
        clear hb3 hr3 hl3 hd3
        go_wp2_with fail
        rw [HP.out]
        exact ⟨x3, a3, rfl, HF.out.1, HF.out.2.1, HF.out.2.2.1, rfl, HF.out.2.2.2, HF.out.2.2.1⟩
      · have hs2 : 57343 < p := by omega
        clear hsr
        go_enter Tryz.func96, Tryz.ntmps96
        go_wp2_with fail
        refine ht.mono ?_; rintro r w1 ⟨rfl, hb1, hr1⟩
        have HR1 := hid_intro hr1
        have HB1 := hid_intro hb1
        clear ht hb1 hr1
        go_wp2_with fail
        refine (HHX.out w1 HR1.out).mono ?_; rintro r w3 ⟨x3, a3, rfl, hb3, hr3, hl3, rfl, hd3, _⟩
        have HF := hid_intro (And.intro (HB1.out.trans hb3) (And.intro hr3 (And.intro hl3 hd3)))
        clear hb3 hr3 hl3 hd3
        go_wp2_with fail
        rw [HP.out]
        exact ⟨x3, a3, rfl, HF.out.1, HF.out.2.1, HF.out.2.2.1, rfl, HF.out.2.2.2, HF.out.2.2.1⟩
    · rw [if_neg hpt] at hU
      have hsr : ¬ p < 55296 ∧ ¬ 57343 < p := by
        simp only [isPt, Bool.or_eq_true, Bool.and_eq_true, decide_eq_true_eq] at hpt; omega
      obtain ⟨hs1, hs2⟩ := hsr
      have HU := hid_intro hU
      clear hpt hp0 hp1 hU
      go_enter Tryz.func96, Tryz.ntmps96
      go_wp2_with fail
      refine ht.mono ?_; rintro r w1 ⟨rfl, hb1, hr1⟩
      have HR1 := hid_intro hr1
      have HB1 := hid_intro hb1
      clear ht hb1 hr1
      go_wp2_with fail
      refine (HHX.out w1 HR1.out).mono ?_; rintro r w3 ⟨x3, a3, rfl, hb3, hr3, hl3, rfl, hd3, _⟩
      rw [hd3, sw2 (by omega) (by omega), List.drop_drop] at HU
      have HR3 := hid_intro hr3
      have HB3 := hid_intro (HB1.out.trans hb3)
      have HL3 := hid_intro hl3
      have ht2 := rtake_any w3 pb a3 S g 92 bad (by omega) hr3
      clear hb3 hr3 hl3 hd3 HHX
      by_cases hq1 : pk S a3 = 92
      · rw [decide_eq_true hq1, show tk S a3 92 = a3 + 1 by unfold tk; rw [if_pos hq1]] at ht2
        rw [decide_eq_true hq1, Bool.true_and] at HU
        have HK1 := hid_intro (pk_lt (S := S) (a := a3) (by omega))
        clear hq1
        go_wp2_with fail
        refine ht2.mono ?_; rintro r w4 ⟨rfl, hb4, hr4⟩
        have HR4 := hid_intro hr4
        have HB4 := hid_intro (HB3.out.trans hb4)
        have ht4 := rtake_any w4 pb (a3 + 1) S g 117 bad (by omega) hr4
        clear hb4 hr4 ht2
        by_cases hq2 : pk S (a3 + 1) = 117
        · rw [decide_eq_true hq2, show tk S (a3 + 1) 117 = a3 + 2 by unfold tk; rw [if_pos hq2]] at ht4
          rw [decide_eq_true hq2, if_pos rfl] at HU
          have HK2 := hid_intro (pk_lt (S := S) (a := a3 + 1) (by omega))
          clear hq2
          have HH2 := hid_intro (fun w' (h : RP w' pb S (a3 + 2) g bad) => rhex_any w' pb (a3 + 2) S g bad 4 (by omega) HK2.out h)
          go_wp2_with fail
          refine ht4.mono ?_; rintro r w5 ⟨rfl, hb5, hr5⟩
          have HR5 := hid_intro hr5
          have HB5 := hid_intro (HB4.out.trans hb5)
          clear hb5 hr5 ht4
          go_wp2_with fail
          refine (HH2.out w5 HR5.out).mono ?_; rintro r w6 ⟨y6, a6, rfl, hb6, hr6, hl6, hx6⟩
          have HF := hid_intro (And.intro (HB5.out.trans hb6) (And.intro hr6 hl6))
          clear hb6 hr6 hl6
          cases e2 : hexG 4 0 (S.drop (a3 + 2)) with
          | none =>
            rw [e2] at hx6 HU
            obtain rfl : y6 = -1 := hx6
            have HU2 : Hid (U = none) := hid_intro HU.out.symm
            have hpr := fun w' => rpair_no x3 (-1) w' (by omega)
            clear e2 HU
            go_wp2_with fail
            refine (hpr _).mono ?_; rintro r w7 ⟨rfl, rfl⟩
            go_wp2_with fail
            rw [HP.out, HU2.out]
            exact ⟨-1, a6, rfl, HF.out.1, HF.out.2.1, HF.out.2.2, rfl⟩
          | some z =>
            obtain ⟨q, l2⟩ := z
            rw [e2] at hx6 HU
            obtain ⟨rfl, hd6, _⟩ := hx6
            simp only [pairO] at HU
            by_cases hpo : (55296 ≤ x3 ∧ x3 ≤ 56319) ∧ 56320 ≤ y6 ∧ y6 ≤ 57343
            · rw [if_pos hpo] at HU
              have HU2 : Hid (U = some (65536 + (x3 - 55296) * 1024 + (y6 - 56320), l2)) := hid_intro HU.out.symm
              have hpr := fun w' => rpair_yes x3 y6 w' hpo.1.1 hpo.1.2 hpo.2.1 hpo.2.2
              have HD6 := hid_intro hd6
              generalize 65536 + (x3 - 55296) * 1024 + (y6 - 56320) = Z at *
              clear e2 HU hpo hd6
              go_wp2_with fail
              refine (hpr _).mono ?_; rintro r w7 ⟨rfl, rfl⟩
              go_wp2_with fail
              rw [HP.out, HU2.out]
              exact ⟨Z, a6, rfl, HF.out.1, HF.out.2.1, HF.out.2.2, rfl, HD6.out, HF.out.2.2⟩
            · rw [if_neg hpo] at HU
              have HU2 : Hid (U = none) := hid_intro HU.out.symm
              have hpr := fun w' => rpair_no x3 y6 w' (by omega)
              clear e2 HU hpo hd6
              go_wp2_with fail
              refine (hpr _).mono ?_; rintro r w7 ⟨rfl, rfl⟩
              go_wp2_with fail
              rw [HP.out, HU2.out]
              exact ⟨-1, a6, rfl, HF.out.1, HF.out.2.1, HF.out.2.2, rfl⟩
        · rw [decide_eq_false hq2, show tk S (a3 + 1) 117 = a3 + 1 by unfold tk; rw [if_neg hq2]] at ht4
          rw [decide_eq_false hq2, if_neg (by simp)] at HU
          have HU2 : Hid (U = none) := hid_intro HU.out.symm
          clear hq2 HU
          go_wp2_with fail
          refine ht4.mono ?_; rintro r w5 ⟨rfl, hb5, hr5⟩
          have HF := hid_intro (And.intro (HB4.out.trans hb5) hr5)
          clear hb5 hr5 ht4
          go_wp2_with fail
          rw [HP.out, HU2.out]
          exact ⟨-1, a3 + 1, rfl, HF.out.1, HF.out.2, HK1.out, rfl⟩
      · rw [decide_eq_false hq1, show tk S a3 92 = a3 by unfold tk; rw [if_neg hq1]] at ht2
        rw [decide_eq_false hq1, Bool.false_and, if_neg (by simp)] at HU
        have HU2 : Hid (U = none) := hid_intro HU.out.symm
        clear hq1 HU
        go_wp2_with fail
        refine ht2.mono ?_; rintro r w4 ⟨rfl, hb4, hr4⟩
        have HF := hid_intro (And.intro (HB3.out.trans hb4) hr4)
        clear hb4 hr4 ht2
        go_wp2_with fail
        rw [HP.out, HU2.out]
        exact ⟨-1, a3, rfl, HF.out.1, HF.out.2, HL3.out, rfl⟩
theorem runi_any (w : World) (pb a : Nat) (S : List Int) (g : Int) (bad : Bool) (ha : a ≤ S.length) (h : RP w pb S a g bad) :
    Calls Tryz.prog 96 #[.pointer (some ⟨pb, 0, none⟩)] w fun r w' => ∃ x a', r = .returned (.int .i64 x) ∧ But (· = pb) w w' ∧ RP w' pb S a' g bad ∧ a' ≤ S.length ∧ HexQ (unicodeL (S.drop a)) S x a' := by
  by_cases hq : pk S a = 123
  · exact runi_br w pb a S g bad hq h
  · exact runi_pl w pb a S g bad ha hq h
end Go.Proofs.YthbbkcdlcpbepaaGreatDoor
