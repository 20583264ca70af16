/-
  The reference's class. No condition.
-/
import Derived.Test.YthbbkcdlcpbepaaGreatDoorJoined27
namespace Go.Proofs.YthbbkcdlcpbepaaGreatDoor
open Go.RowKit
attribute [local go_sem] setCell_drewN alloc_drewN

set_option maxRecDepth 100000 in
set_option maxHeartbeats 6400000 in
theorem rclass_any (w : World) (pb a : Nat) (S : List Int) (g : Int) (ha : a ≤ S.length) (h : RP w pb S a g false) :
    Calls Tryz.prog 74 #[.pointer (some ⟨pb, 0, none⟩)] w (ClsP (classL (S.drop a)) S pb g w) := by
  obtain ⟨P, hP⟩ : ∃ P, P = ClsP (classL (S.drop a)) S pb g w := ⟨_, rfl⟩
  rw [← hP]
  have HP := hid_intro hP
  have ht := rtake_any w pb a S g 94 false (by omega) h
  obtain ⟨tb, htb⟩ : ∃ tb, tb = decide (pk S a = 94) := ⟨_, rfl⟩
  obtain ⟨b, hb⟩ : ∃ b, b = tk S a 94 := ⟨_, rfl⟩
  have HE0 := hid_intro (cls_in hb htb)
  have HBL : Hid (b ≤ S.length ∧ a ≤ b) := hid_intro ⟨by rw [hb]; exact (tk_le (by omega) (by omega)).2 ha, by rw [hb]; unfold tk; split <;> omega⟩
  rw [← htb, ← hb] at ht
  have HLS := hid_intro h.len.1
  have HPB := hid_intro h.lt
  clear hP htb hb h
  obtain ⟨N, hN⟩ : ∃ N, (S.drop a).length + 1 = N := ⟨_, rfl⟩
  rw [hN] at HE0
  have HNN : Hid (S.length - b < N) := hid_intro (by rw [← hN, List.length_drop]; have := HBL.out; omega)
  clear hN
  go_enter Tryz.func74, Tryz.ntmps74
  go_wp2_with fail
  refine ht.mono ?_; rintro r w1 ⟨rfl, hb1, hr1⟩
  have HR1 := hid_intro hr1
  have HB1 := hid_intro hb1
  have HPW : Hid (∀ j, w1.heap.size ≤ j → ¬ j = pb) := hid_intro (fun j hj e => by have := hr1.lt; omega)
  clear ht hb1 hr1
  go_wp2_with fail
  go_loopg [4] (S.length + 1 - b) (fun m s4 wr => ∃ (k : Nat) (acc : List (Int × Int)) (bad : Bool), m = (if bad = true then 0 else S.length + 1 - k) ∧ Hid (ClsI S b N k acc bad ∧ But (· = pb) w wr ∧ w1.heap.size ≤ wr.heap.size ∧ OwnR wr w1.heap.size s4 acc ∧ RP wr pb S k g bad))
  case atStart => exact ⟨b, [], false, rfl, ⟨HBL.out.1, Nat.zero_le _, N, HNN.out, rfl⟩, HB1.out, Nat.le_refl _, OwnR.nil _ _, HR1.out⟩
  case round =>
    obtain ⟨k, acc, bad, rfl, HI⟩ := hrel
    have HAL := hid_intro (HI.out.1.len HLS.out)
    cases bad
    · have HTK := hid_intro (rtake_any wr pb k S g 93 false (by omega) HI.out.2.2.2.2)
      obtain ⟨ao, cap, c0, c1, c2, c3, fr, h1, h2, h3, h4, h5, h6⟩ := HI.out.2.2.2.2
      clear c0 c1 c2 fr h1 h2 h3 h4 h5 h6
      by_cases hq : pk S k = 93
      · have HE := hid_intro (HI.out.1.done hq)
        have HK1 := hid_intro (pk_lt (S := S) (a := k) (by omega))
        rw [hq, show decide ((93 : Int) = 93) = true by decide, show tk S k 93 = k + 1 by unfold tk; rw [if_pos hq]] at HTK
        rw [HE.out] at HE0
        clear hq
        go_wp2_with fail
        refine HTK.out.mono ?_; rintro r w2 ⟨rfl, hb2, hr2⟩
        have HR2 := hid_intro hr2
        have HB2 := hid_intro (HI.out.2.1.trans hb2)
        have HO2 := hid_intro (HI.out.2.2.2.1.but hb2 (fun j hj e => HPW.out j hj e))
        have HS2 := hid_intro (Nat.le_trans HI.out.2.2.1 hb2.size)
        clear hb2 hr2 c3
        cases tb
        · have hmg := refMergeN_any acc _ w2 (fun _ => False) (HO2.out.ri _ (fun _ _ h => h)) (by have := HAL.out; omega)
          go_wp2_with fail
          refine hmg.mono ?_; rintro r w9 ⟨v9, rfl, ho9, hb9⟩
          have HF := hid_intro (And.intro (HB2.out.below hb9) (And.intro (HR2.out.below hb9) (ho9.weak (Y := (· < w.heap.size)) (fun j h => by have := HB2.out.size; have h2 : j < w.heap.size := h; show j < _; omega))))
          clear hb9 ho9 hmg
          go_wp2_with fail
          rw [HP.out, HE0.out]
          exact ⟨_, rfl, HF.out.1, k + 1, _, rfl, HF.out.2.1, HK1.out, rfl, HF.out.2.2⟩
        · have hmg := refTurnN_any acc _ w2 (fun _ => False) (HO2.out.ri _ (fun _ _ h => h)) (by have := HAL.out; omega)
          go_wp2_with fail
          refine hmg.mono ?_; rintro r w9 ⟨v9, rfl, ho9, hb9⟩
          have HF := hid_intro (And.intro (HB2.out.below hb9) (And.intro (HR2.out.below hb9) (ho9.weak (Y := (· < w.heap.size)) (fun j h => by have := HB2.out.size; have h2 : j < w.heap.size := h; show j < _; omega))))
          clear hb9 ho9 hmg
          go_wp2_with fail
          rw [HP.out, HE0.out]
          exact ⟨_, rfl, HF.out.1, k + 1, turnL acc, by simp only [reduceIte, setX]; rw [merge_set (turn_can acc)], HF.out.2.1, HK1.out, rfl, HF.out.2.2⟩
      · rw [decide_eq_false hq, show tk S k 93 = k by unfold tk; rw [if_neg hq]] at HTK
        have HQ := hid_intro hq
        clear hq
        go_wp2_with fail
        refine HTK.out.mono ?_; rintro r w2 ⟨rfl, hb2, hr2⟩
        have HR2 := hid_intro hr2
        have HB2 := hid_intro (HI.out.2.1.trans hb2)
        have HO2 := hid_intro (HI.out.2.2.2.1.but hb2 (fun j hj e => HPW.out j hj e))
        have HS2 := hid_intro (Nat.le_trans HI.out.2.2.1 hb2.size)
        have hmk := rmark_any w2 pb k S g hr2
        clear hb2 hr2 c3 HTK
        cases e1 : markL (S.drop k) with
        | none =>
          rw [e1] at hmk
          have HE := hid_intro (HI.out.1.no HQ.out (item_none e1))
          have HCI : Hid (∀ k' (rl : List (Int × Int)), rl.length ≤ 16 → ClsI S b N k' (acc ++ rl) true) := hid_intro (fun k' rl hrl => ⟨by have h1 := HI.out.1.1; have h2 := HI.out.1.2.1; have := HLS.out; rw [List.length_append]; omega, HE.out⟩)
          clear e1
          go_wp2_with fail
          refine hmk.mono ?_; rintro r w3 ⟨v3, nm3, rfl, hb3, a3, hr3, hv3⟩
          have HR3 := hid_intro hr3
          have HB3 := hid_intro (HB2.out.trans hb3)
          have HO3 := hid_intro (HO2.out.but hb3 (fun j hj e => HPW.out j hj e))
          have HS3 := hid_intro (Nat.le_trans HS2.out hb3.size)
          have HV3 := hid_intro hv3
          obtain ⟨ao, cap, c0, c1, c2, c3, fr, h1, h2, h3, h4, h5, h6⟩ := hr3
          clear hb3 hmk c0 c1 c2 fr h1 h2 h3 h4 h5 h6 hv3
          go_wp2_with fail
          go_quiet (fail)
          have HO4 := hid_intro (HO3.out.below (vb_n (Below.refl _ _) nq))
          rcases HV3.out with hv | ⟨rl, hv1, hv2, hv3⟩
          · subst hv
            go_wp2_with (at_builtin; refine wpList_append_rngn rfl _ _ rfl w1.heap.size _ acc rfl HO4.out rfl ?_)
            go_roundg 0
            case measure => have := HI.out.1.1; simp; omega
            case rel => exact ⟨a3, acc, true, rfl, by have := HCI.out a3 [] (by simp); rwa [List.append_nil] at this, (HB3.out.drewN nq), HS3.out, HO4.out, (HR3.out.dn nq)⟩
          · have HRI := hid_intro (hv1.kept (vb_n (Below.refl _ _) nq))
            have HNE := hid_intro hv2
            have HLL := hid_intro hv3
            clear hv1 hv2 hv3
            go_wp2_with (at_builtin; refine wpList_append_rngs rfl _ _ rfl w1.heap.size _ v3 acc rl rfl HO4.out ?cB ?cS _ HRI.out HNE.out rfl ?_)
            case cB => exact HS3.out
            case cS => have := HLL.out; have := HAL.out; omega
            intro v' w4 ho4 hg4
            have hlt := HO4.out.lt
            have HF := hid_intro (And.intro ((HB3.out.drewN nq).grown hg4 (fun j hj => Or.inr (by have h1 := (hlt j hj).1; have h2 := HB1.out.size; omega))) (And.intro (Nat.le_trans HS3.out hg4.size) (And.intro ho4 ((HR3.out.dn nq).grown hg4 (fun j hj => by have h1 := (hlt j hj).1; have h2 := HR1.out.lt; omega)))))
            clear ho4 hg4 hlt
            go_wp2_with fail
            go_roundg 0
            case measure => have := HI.out.1.1; simp; omega
            case rel => exact ⟨a3, acc ++ rl, true, rfl, HCI.out a3 rl HLL.out, HF.out⟩
        | some y =>
          obtain ⟨m, l1⟩ := y
          rw [e1] at hmk
          have HML := hid_intro (markL_rl e1)
          have HE1 := hid_intro e1
          clear e1
          go_wp2_with fail
          refine hmk.mono ?_; rintro r w3 ⟨v3, nm3, rfl, hb3, k1, hr3, hk1, hl1, rfl, hri3⟩
          rw [hl1] at HE1
          have HR3 := hid_intro hr3
          have HB3 := hid_intro (HB2.out.trans hb3)
          have HO3 := hid_intro (HO2.out.but hb3 (fun j hj e => HPW.out j hj e))
          have HS3 := hid_intro (Nat.le_trans HS2.out hb3.size)
          have HRI := hid_intro hri3
          have HK1 := hid_intro hk1
          have HPK := hid_intro (fun n => rpeek_q (w3.drewN n) pb k1 S g false (hr3.dn n))
          have HCL : Hid (∀ w', Below w3.heap.size w3 w' → RP w' pb S k1 g false) := hid_intro (fun w' hb => hr3.below hb)
          clear hb3 hmk hri3 hl1 hk1 hr3
          by_cases ho : pk S k1 ≠ 45 ∨ pk S (k1 + 1) = 93
          · have HIT := hid_intro (HI.out.1.next HQ.out (item_one HE1.out ho) HK1.out)
            by_cases hq1 : pk S k1 = 45
            · have hq2 : pk S (k1 + 1) = 93 := by
                rcases ho with h | h
                · exact absurd hq1 h
                · exact h
              have hkl : k1 + 1 < S.length := pk_lt (by omega)
              obtain ⟨ao, cap, c0, c1, c2, c3, fr, h1, h2, h3, h4, h5, h6⟩ := HR3.out
              rcases h6 with h6 | ⟨qb, qo, rfl, hne, h7⟩
              · subst h6; simp at hkl
              have hcc := h7 (k1 + 1) hkl
              rw [hq2] at hcc
              have hI : ((k1 : Int) + 1) < (S.length : Int) := by omega
              have hw : wrap64 ((k1 : Int) + 1) = (k1 : Int) + 1 := w64 (by omega) (by omega)
              have hcc2 : w3.cell? ⟨qb, qo + ((k1 : Int) + 1).toNat, none⟩ = some (.int .i64 93) := by rw [show ((k1 : Int) + 1).toNat = k1 + 1 by omega]; exact hcc
              rw [hq1] at HPK
              clear c2 fr h1 h2 h3 h4 h5 h7 hne hq1 hq2 ho hkl
              go_wp2_with fail
              go_quiet ((go_at_call 43; refine Calls.quiet_of (HPK.out _)))
              have HO4 := hid_intro (HO3.out.below (vb_n (Below.refl _ _) nq))
              have HRI4 := hid_intro (HRI.out.kept (vb_n (Below.refl _ _) nq))
              clear HPK HCL
              go_wp2_with (at_builtin; refine wpList_append_rngs rfl _ _ rfl w1.heap.size _ v3 acc m.ranges rfl HO4.out ?cB ?cS _ HRI4.out HML.out.1 rfl ?_)
              case cB => exact HS3.out
              case cS => have := HML.out.2; have := HAL.out; omega
              intro v' w4 ho4 hg4
              have hlt := HO4.out.lt
              have HF := hid_intro (And.intro ((HB3.out.drewN nq).grown hg4 (fun j hj => Or.inr (by have h1 := (hlt j hj).1; have h2 := HB1.out.size; omega))) (And.intro (Nat.le_trans HS3.out hg4.size) (And.intro ho4 ((HR3.out.dn nq).grown hg4 (fun j hj => by have h1 := (hlt j hj).1; have h2 := HR1.out.lt; omega)))))
              clear ho4 hg4 hlt
              go_wp2_with fail
              go_roundg (S.length + 1 - k1)
              case measure => have h1 := HIT.out.1; have h2 := HK1.out; simp; omega
              case rel => exact ⟨k1, acc ++ m.ranges, false, by simp, HIT.out.2, HF.out⟩
            · have hq3 : (pk S k1 != 45) = true := by simpa using hq1
              obtain ⟨ao, cap, c0, c1, c2, c3, fr, h1, h2, h3, h4, h5, h6⟩ := HR3.out
              generalize pk S k1 = q at *
              clear c2 fr h1 h2 h3 h4 h5 h6 ho hq1
              go_wp2_with fail
              go_quiet ((go_at_call 43; refine Calls.quiet_of (HPK.out _)))
              have HO4 := hid_intro (HO3.out.below (vb_n (Below.refl _ _) nq))
              have HRI4 := hid_intro (HRI.out.kept (vb_n (Below.refl _ _) nq))
              clear HPK HCL
              go_wp2_with (at_builtin; refine wpList_append_rngs rfl _ _ rfl w1.heap.size _ v3 acc m.ranges rfl HO4.out ?cB ?cS _ HRI4.out HML.out.1 rfl ?_)
              case cB => exact HS3.out
              case cS => have := HML.out.2; have := HAL.out; omega
              intro v' w4 ho4 hg4
              have hlt := HO4.out.lt
              have HF := hid_intro (And.intro ((HB3.out.drewN nq).grown hg4 (fun j hj => Or.inr (by have h1 := (hlt j hj).1; have h2 := HB1.out.size; omega))) (And.intro (Nat.le_trans HS3.out hg4.size) (And.intro ho4 ((HR3.out.dn nq).grown hg4 (fun j hj => by have h1 := (hlt j hj).1; have h2 := HR1.out.lt; omega)))))
              clear ho4 hg4 hlt
              go_wp2_with fail
              go_roundg (S.length + 1 - k1)
              case measure => have h1 := HIT.out.1; have h2 := HK1.out; simp; omega
              case rel => exact ⟨k1, acc ++ m.ranges, false, by simp, HIT.out.2, HF.out⟩
          · have hq1 : pk S k1 = 45 := by
              by_cases h : pk S k1 = 45
              · exact h
              · exact absurd (Or.inl h) ho
            have hq2 : pk S (k1 + 1) ≠ 93 := fun h => ho (Or.inr h)
            have HIT := hid_intro (item_two HE1.out hq1 hq2)
            have HK1L := hid_intro (pk_lt (S := S) (a := k1) (by omega))
            clear ho
            obtain ⟨ao, cap, c0, c1, c2, c3, fr, h1, h2, h3, h4, h5, h6⟩ := HR3.out
            have ff := fr 1
            have hw : wrap64 ((k1 : Int) + 1) = (k1 : Int) + 1 := w64 (by omega) (by omega)
            by_cases hkl : k1 + 1 < S.length
            · rcases h6 with h6 | ⟨qb, qo, rfl, hne, h7⟩
              · subst h6; simp at hkl
              have hcc := h7 (k1 + 1) hkl
              have hI : ((k1 : Int) + 1) < (S.length : Int) := by omega
              have hcc2 : w3.cell? ⟨qb, qo + ((k1 : Int) + 1).toNat, none⟩ = some (.int .i64 (pk S (k1 + 1))) := by rw [show ((k1 : Int) + 1).toNat = k1 + 1 by omega]; exact hcc
              have hq3 : (pk S (k1 + 1) == 93) = false := by simpa using hq2
              rw [hq1] at HPK
              clear c2 fr h1 h2 h3 h4 h5 h7 hne hq1 hq2 hkl
              generalize pk S (k1 + 1) = q2 at *
              go_wp2_with fail
              go_quiet ((go_at_call 43; refine Calls.quiet_of (HPK.out _)))
              clear hcc hcc2 hq3 hI
              have HR5 : Hid (RP ((w3.setCell ⟨pb, 1, none⟩ (.int .i64 ((k1 : Int) + 1))).drewN nq) pb S (k1 + 1) g false) := hid_intro ((HR3.out.at (k1 + 1) (by have := HK1L.out; omega) _ (by omega)).dn nq)
              have HB5 : Hid (But (· = pb) w ((w3.setCell ⟨pb, 1, none⟩ (.int .i64 ((k1 : Int) + 1))).drewN nq)) := hid_intro ((But.setr HB3.out _).drewN nq)
              have HO5 : Hid (OwnR ((w3.setCell ⟨pb, 1, none⟩ (.int .i64 ((k1 : Int) + 1))).drewN nq) w1.heap.size u4 acc) := hid_intro (HO3.out.but (X := (· = pb)) ((But.setr (But.refl _ _) _).drewN nq) (fun j hj e => HPW.out j hj e))
              have HS5 : Hid (w1.heap.size ≤ ((w3.setCell ⟨pb, 1, none⟩ (.int .i64 ((k1 : Int) + 1))).drewN nq).heap.size) := hid_intro (by have := HS3.out; simpa [World.setCell] using this)
              have HRI5 : Hid (RI ((w3.setCell ⟨pb, 1, none⟩ (.int .i64 ((k1 : Int) + 1))).drewN nq) (· < w2.heap.size) m.ranges v3) := hid_intro ((HRI.out.set (a := ⟨pb, 1, none⟩) (by have := HR2.out.lt; exact this) _).kept (vb_n (Below.refl _ _) nq))
              clear HPK HCL
              go_wp2_with fail
              generalize (w3.setCell ⟨pb, 1, none⟩ (.int .i64 ((k1 : Int) + 1))).drewN nq = W5 at *
              have hmk2 := rmark_any W5 pb (k1 + 1) S g HR5.out
              clear c0 c1 c3 ff hw
              cases e2 : markL (S.drop (k1 + 1)) with
              | none =>
                rw [e2] at hmk2 HIT
                clear e2
                have HNO := hid_intro (HI.out.1.no HQ.out HIT.out)
                rw [HNO.out] at HE0
                refine hmk2.mono ?_; rintro r w6 ⟨v6, nm6, rfl, hb6, a6, hr6, hv6⟩
                have HR6 := hid_intro hr6
                have HB6 := hid_intro (HB5.out.trans hb6)
                obtain ⟨ao, cap, c0, c1, c2, c3, fr, h1, h2, h3, h4, h5, h6⟩ := hr6
                clear hb6 hmk2 c0 c1 c2 fr h1 h2 h3 h4 h5 h6 hv6
                go_wp2_with fail
                go_quiet (fail)
                go_wp2_with fail
                refine (rfail_any _ _ _ _ _ _ (HR6.out.dn nq)).mono ?_; rintro r w9 ⟨rfl, hb9, hr9⟩
                have HF := hid_intro (And.intro ((HB6.out.drewN nq).trans hb9) hr9)
                clear hb9 hr9
                go_wp2_with fail
                rw [HP.out, HE0.out]
                exact ⟨_, rfl, HF.out.1, _, [], HF.out.2, RI.nil _ _⟩
              | some y2 =>
                obtain ⟨m2, l2⟩ := y2
                rw [e2] at hmk2 HIT
                have HML2 := hid_intro (markL_rl e2)
                clear e2
                refine hmk2.mono ?_; rintro r w6 ⟨v6, nm6, rfl, hb6, k2, hr6, hk2, hl2, rfl, hri6⟩
                have HR6 := hid_intro hr6
                have HB6 := hid_intro (HB5.out.trans hb6)
                have HO6 := hid_intro (HO5.out.but hb6 (fun j hj e => HPW.out j hj e))
                have HS6 := hid_intro (Nat.le_trans HS5.out hb6.size)
                have HRA := hid_intro (HRI5.out.but (Y := (· = pb)) hb6 (fun j e => by have := HR2.out.lt; show j < _; omega))
                have HK2 := hid_intro hk2
                obtain ⟨ao, cap, c0, c1, c2, c3, fr, h1, h2, h3, h4, h5, h6⟩ := hr6
                clear hb6 hmk2 c0 c1 c2 fr h1 h2 h3 h4 h5 h6 hk2
                simp only [hl2] at HIT
                clear hl2
                cases m with
                | set ls =>
                  have HIT2 : Hid (itemL (S.drop k) = none) := hid_intro (by rw [HIT.out]; cases m2 <;> rfl)
                  have HNO := hid_intro (HI.out.1.no HQ.out HIT2.out)
                  rw [HNO.out] at HE0
                  have hnm : (Mark.set ls).named = true := rfl
                  rw [hnm]
                  go_wp2_with fail
                  go_quiet (fail)
                  go_wp2_with fail
                  refine (rfail_any _ _ _ _ _ _ (HR6.out.dn nq)).mono ?_; rintro r w9 ⟨rfl, hb9, hr9⟩
                  have HF := hid_intro (And.intro ((HB6.out.drewN nq).trans hb9) hr9)
                  clear hb9 hr9
                  go_wp2_with fail
                  rw [HP.out, HE0.out]
                  exact ⟨_, rfl, HF.out.1, _, [], HF.out.2, RI.nil _ _⟩
                | one p =>
                  have hnm : (Mark.one p).named = false := rfl
                  rw [hnm]
                  cases m2 with
                  | set ls =>
                    have HIT2 : Hid (itemL (S.drop k) = none) := hid_intro (by rw [HIT.out]; rfl)
                    have HNO := hid_intro (HI.out.1.no HQ.out HIT2.out)
                    rw [HNO.out] at HE0
                    have hnm2 : (Mark.set ls).named = true := rfl
                    rw [hnm2]
                    go_wp2_with fail
                    go_quiet (fail)
                    go_wp2_with fail
                    refine (rfail_any _ _ _ _ _ _ (HR6.out.dn nq)).mono ?_; rintro r w9 ⟨rfl, hb9, hr9⟩
                    have HF := hid_intro (And.intro ((HB6.out.drewN nq).trans hb9) hr9)
                    clear hb9 hr9
                    go_wp2_with fail
                    rw [HP.out, HE0.out]
                    exact ⟨_, rfl, HF.out.1, _, [], HF.out.2, RI.nil _ _⟩
                  | one q =>
                    have hnm2 : (Mark.one q).named = false := rfl
                    rw [hnm2]
                    obtain ⟨ba, oa, ca, rfl, f1, _, _⟩ := RI.first (p := p) (q := p) HRA.out
                    obtain ⟨bb, ob, cb, rfl, f2, _, _⟩ := RI.first (p := q) (q := q) hri6
                    have HII : Hid (I64 p ∧ I64 q) := hid_intro (by
                      obtain ⟨_, _, _, _, _, g1, _⟩ := HRA.out
                      obtain ⟨_, _, _, _, _, g2, _⟩ := hri6
                      exact ⟨(g1 (p, p) (by simp [Mark.ranges])).1, (g2 (q, q) (by simp [Mark.ranges])).1⟩)
                    by_cases hpq : q < p
                    · have HIT2 : Hid (itemL (S.drop k) = none) := hid_intro (by rw [HIT.out]; simp only [between]; rw [if_pos (by omega)])
                      have HNO := hid_intro (HI.out.1.no HQ.out HIT2.out)
                      rw [HNO.out] at HE0
                      clear hri6
                      go_wp2_with fail
                      go_quiet (fail)
                      go_wp2_with fail
                      refine (rfail_any _ _ _ _ _ _ (HR6.out.dn nq)).mono ?_; rintro r w9 ⟨rfl, hb9, hr9⟩
                      have HF := hid_intro (And.intro ((HB6.out.drewN nq).trans hb9) hr9)
                      clear hb9 hr9
                      go_wp2_with fail
                      rw [HP.out, HE0.out]
                      exact ⟨_, rfl, HF.out.1, _, [], HF.out.2, RI.nil _ _⟩
                    · have HIT2 : Hid (itemL (S.drop k) = some ([(p, q)], S.drop k2)) := hid_intro (by rw [HIT.out]; simp only [between]; rw [if_neg (by omega)])
                      have HNX := hid_intro (HI.out.1.next HQ.out HIT2.out HK2.out)
                      have hdd : decide (q < p) = false := decide_eq_false hpq
                      clear hri6 hpq
                      go_wp2_with fail
                      go_quiet (fail)
                      have HO7 := hid_intro (HO6.out.below (vb_n (Below.refl _ _) nq))
                      have f3 : (w6.drewN nq).cell? ⟨ba, oa, none⟩ = some (.int .i64 p) := f1
                      have f4 : (w6.drewN nq).cell? ⟨bb, ob, none⟩ = some (.int .i64 q) := f2
                      have HB7 := hid_intro (HB6.out.drewN nq)
                      have HR7 := hid_intro (HR6.out.dn nq)
                      have HS7 : Hid (w1.heap.size ≤ (w6.drewN nq).heap.size) := HS6
                      generalize w6.drewN nq = W7 at *
                      clear f1 f2 HB6 HR6 HS6 HO6 HRA c3
                      go_wp2_with fail
                      go_region_law (refine step_append_rng (by rfl) _ _ (by rfl) w1.heap.size _ acc p q (by rfl) ?_ ?_ ?_ HII.out W7.heap.size (by rfl) ?_ ?_; (focus (refine HO7.out.below ?_; (with_reducible (repeat (first | exact Below.refl _ _ | refine vb_d ?_ | refine vb_a ?_ _))))); (focus (have := HS7.out; simp; omega)); (focus (have := HAL.out; omega)); (focus (with_reducible (repeat (first | exact Bk.new _ _ _ | refine Bk.dw ?_)))); (intro v8 w8 ho8 hg8))
                      all_goals
                        have hlt := HO7.out.lt
                        have HF := hid_intro (And.intro (But.grown (X := (· = pb)) (show But (· = pb) w _ by with_reducible (repeat (first | exact HB7.out | refine But.drew ?_ | refine But.alloc ?_ _))) hg8 (fun j hj => Or.inr (by have h1 := (hlt j hj).1; have h2 := HB1.out.size; omega))) (And.intro (show w1.heap.size ≤ w8.heap.size by have h1 := hg8.size; have h2 := HS7.out; simp at h1; omega) (And.intro ho8 (RP.grown (show RP _ pb S k2 g false from HR7.out.below (by with_reducible (repeat (first | exact Below.refl _ _ | refine vb_d ?_ | refine vb_a ?_ _)))) hg8 (fun j hj => by have h1 := (hlt j hj).1; have h2 := HR1.out.lt; omega)))))
                        clear ho8 hg8 hlt
                        go_wp2_with fail
                        go_roundg (S.length + 1 - k2)
                        case measure => have h1 := HNX.out.1; have h2 := HK2.out; simp; omega
                        case rel => exact ⟨k2, acc ++ [(p, q)], false, by simp, HNX.out.2, HF.out.1, HF.out.2.1, by first | exact HF.out.2.2.1 | exact OwnR.below HF.out.2.2.1 (vb_d (Below.refl _ _)), by first | exact HF.out.2.2.2 | exact HF.out.2.2.2.drew⟩
            · have hd : decide ((k1 : Int) + 1 < (S.length : Int)) = false := decide_eq_false (by omega)
              rw [hq1] at HPK
              clear c2 fr h1 h2 h3 h4 h5 h6 hq1 hq2 hkl
              go_wp2_with fail
              go_quiet ((go_at_call 43; refine Calls.quiet_of (HPK.out _)))
              clear hd
              have HR5 : Hid (RP ((w3.setCell ⟨pb, 1, none⟩ (.int .i64 ((k1 : Int) + 1))).drewN nq) pb S (k1 + 1) g false) := hid_intro ((HR3.out.at (k1 + 1) (by have := HK1L.out; omega) _ (by omega)).dn nq)
              have HB5 : Hid (But (· = pb) w ((w3.setCell ⟨pb, 1, none⟩ (.int .i64 ((k1 : Int) + 1))).drewN nq)) := hid_intro ((But.setr HB3.out _).drewN nq)
              have HO5 : Hid (OwnR ((w3.setCell ⟨pb, 1, none⟩ (.int .i64 ((k1 : Int) + 1))).drewN nq) w1.heap.size u4 acc) := hid_intro (HO3.out.but (X := (· = pb)) ((But.setr (But.refl _ _) _).drewN nq) (fun j hj e => HPW.out j hj e))
              have HS5 : Hid (w1.heap.size ≤ ((w3.setCell ⟨pb, 1, none⟩ (.int .i64 ((k1 : Int) + 1))).drewN nq).heap.size) := hid_intro (by have := HS3.out; simpa [World.setCell] using this)
              have HRI5 : Hid (RI ((w3.setCell ⟨pb, 1, none⟩ (.int .i64 ((k1 : Int) + 1))).drewN nq) (· < w2.heap.size) m.ranges v3) := hid_intro ((HRI.out.set (a := ⟨pb, 1, none⟩) (by have := HR2.out.lt; exact this) _).kept (vb_n (Below.refl _ _) nq))
              clear HPK HCL
              go_wp2_with fail
              generalize (w3.setCell ⟨pb, 1, none⟩ (.int .i64 ((k1 : Int) + 1))).drewN nq = W5 at *
              have hmk2 := rmark_any W5 pb (k1 + 1) S g HR5.out
              clear c0 c1 c3 ff hw
              cases e2 : markL (S.drop (k1 + 1)) with
              | none =>
                rw [e2] at hmk2 HIT
                clear e2
                have HNO := hid_intro (HI.out.1.no HQ.out HIT.out)
                rw [HNO.out] at HE0
                refine hmk2.mono ?_; rintro r w6 ⟨v6, nm6, rfl, hb6, a6, hr6, hv6⟩
                have HR6 := hid_intro hr6
                have HB6 := hid_intro (HB5.out.trans hb6)
                obtain ⟨ao, cap, c0, c1, c2, c3, fr, h1, h2, h3, h4, h5, h6⟩ := hr6
                clear hb6 hmk2 c0 c1 c2 fr h1 h2 h3 h4 h5 h6 hv6
                go_wp2_with fail
                go_quiet (fail)
                go_wp2_with fail
                refine (rfail_any _ _ _ _ _ _ (HR6.out.dn nq)).mono ?_; rintro r w9 ⟨rfl, hb9, hr9⟩
                have HF := hid_intro (And.intro ((HB6.out.drewN nq).trans hb9) hr9)
                clear hb9 hr9
                go_wp2_with fail
                rw [HP.out, HE0.out]
                exact ⟨_, rfl, HF.out.1, _, [], HF.out.2, RI.nil _ _⟩
              | some y2 =>
                obtain ⟨m2, l2⟩ := y2
                rw [e2] at hmk2 HIT
                have HML2 := hid_intro (markL_rl e2)
                clear e2
                refine hmk2.mono ?_; rintro r w6 ⟨v6, nm6, rfl, hb6, k2, hr6, hk2, hl2, rfl, hri6⟩
                have HR6 := hid_intro hr6
                have HB6 := hid_intro (HB5.out.trans hb6)
                have HO6 := hid_intro (HO5.out.but hb6 (fun j hj e => HPW.out j hj e))
                have HS6 := hid_intro (Nat.le_trans HS5.out hb6.size)
                have HRA := hid_intro (HRI5.out.but (Y := (· = pb)) hb6 (fun j e => by have := HR2.out.lt; show j < _; omega))
                have HK2 := hid_intro hk2
                obtain ⟨ao, cap, c0, c1, c2, c3, fr, h1, h2, h3, h4, h5, h6⟩ := hr6
                clear hb6 hmk2 c0 c1 c2 fr h1 h2 h3 h4 h5 h6 hk2
                simp only [hl2] at HIT
                clear hl2
                cases m with
                | set ls =>
                  have HIT2 : Hid (itemL (S.drop k) = none) := hid_intro (by rw [HIT.out]; cases m2 <;> rfl)
                  have HNO := hid_intro (HI.out.1.no HQ.out HIT2.out)
                  rw [HNO.out] at HE0
                  have hnm : (Mark.set ls).named = true := rfl
                  rw [hnm]
                  go_wp2_with fail
                  go_quiet (fail)
                  go_wp2_with fail
                  refine (rfail_any _ _ _ _ _ _ (HR6.out.dn nq)).mono ?_; rintro r w9 ⟨rfl, hb9, hr9⟩
                  have HF := hid_intro (And.intro ((HB6.out.drewN nq).trans hb9) hr9)
                  clear hb9 hr9
                  go_wp2_with fail
                  rw [HP.out, HE0.out]
                  exact ⟨_, rfl, HF.out.1, _, [], HF.out.2, RI.nil _ _⟩
                | one p =>
                  have hnm : (Mark.one p).named = false := rfl
                  rw [hnm]
                  cases m2 with
                  | set ls =>
                    have HIT2 : Hid (itemL (S.drop k) = none) := hid_intro (by rw [HIT.out]; rfl)
                    have HNO := hid_intro (HI.out.1.no HQ.out HIT2.out)
                    rw [HNO.out] at HE0
                    have hnm2 : (Mark.set ls).named = true := rfl
                    rw [hnm2]
                    go_wp2_with fail
                    go_quiet (fail)
                    go_wp2_with fail
                    refine (rfail_any _ _ _ _ _ _ (HR6.out.dn nq)).mono ?_; rintro r w9 ⟨rfl, hb9, hr9⟩
                    have HF := hid_intro (And.intro ((HB6.out.drewN nq).trans hb9) hr9)
                    clear hb9 hr9
                    go_wp2_with fail
                    rw [HP.out, HE0.out]
                    exact ⟨_, rfl, HF.out.1, _, [], HF.out.2, RI.nil _ _⟩
                  | one q =>
                    have hnm2 : (Mark.one q).named = false := rfl
                    rw [hnm2]
                    obtain ⟨ba, oa, ca, rfl, f1, _, _⟩ := RI.first (p := p) (q := p) HRA.out
                    obtain ⟨bb, ob, cb, rfl, f2, _, _⟩ := RI.first (p := q) (q := q) hri6
                    have HII : Hid (I64 p ∧ I64 q) := hid_intro (by
                      obtain ⟨_, _, _, _, _, g1, _⟩ := HRA.out
                      obtain ⟨_, _, _, _, _, g2, _⟩ := hri6
                      exact ⟨(g1 (p, p) (by simp [Mark.ranges])).1, (g2 (q, q) (by simp [Mark.ranges])).1⟩)
                    by_cases hpq : q < p
                    · have HIT2 : Hid (itemL (S.drop k) = none) := hid_intro (by rw [HIT.out]; simp only [between]; rw [if_pos (by omega)])
                      have HNO := hid_intro (HI.out.1.no HQ.out HIT2.out)
                      rw [HNO.out] at HE0
                      clear hri6
                      go_wp2_with fail
                      go_quiet (fail)
                      go_wp2_with fail
                      refine (rfail_any _ _ _ _ _ _ (HR6.out.dn nq)).mono ?_; rintro r w9 ⟨rfl, hb9, hr9⟩
                      have HF := hid_intro (And.intro ((HB6.out.drewN nq).trans hb9) hr9)
                      clear hb9 hr9
                      go_wp2_with fail
                      rw [HP.out, HE0.out]
                      exact ⟨_, rfl, HF.out.1, _, [], HF.out.2, RI.nil _ _⟩
                    · have HIT2 : Hid (itemL (S.drop k) = some ([(p, q)], S.drop k2)) := hid_intro (by rw [HIT.out]; simp only [between]; rw [if_neg (by omega)])
                      have HNX := hid_intro (HI.out.1.next HQ.out HIT2.out HK2.out)
                      have hdd : decide (q < p) = false := decide_eq_false hpq
                      clear hri6 hpq
                      go_wp2_with fail
                      go_quiet (fail)
                      have HO7 := hid_intro (HO6.out.below (vb_n (Below.refl _ _) nq))
                      have f3 : (w6.drewN nq).cell? ⟨ba, oa, none⟩ = some (.int .i64 p) := f1
                      have f4 : (w6.drewN nq).cell? ⟨bb, ob, none⟩ = some (.int .i64 q) := f2
                      have HB7 := hid_intro (HB6.out.drewN nq)
                      have HR7 := hid_intro (HR6.out.dn nq)
                      have HS7 : Hid (w1.heap.size ≤ (w6.drewN nq).heap.size) := HS6
                      generalize w6.drewN nq = W7 at *
                      clear f1 f2 HB6 HR6 HS6 HO6 HRA c3
                      go_wp2_with fail
                      go_region_law (refine step_append_rng (by rfl) _ _ (by rfl) w1.heap.size _ acc p q (by rfl) ?_ ?_ ?_ HII.out W7.heap.size (by rfl) ?_ ?_; (focus (refine HO7.out.below ?_; (with_reducible (repeat (first | exact Below.refl _ _ | refine vb_d ?_ | refine vb_a ?_ _))))); (focus (have := HS7.out; simp; omega)); (focus (have := HAL.out; omega)); (focus (with_reducible (repeat (first | exact Bk.new _ _ _ | refine Bk.dw ?_)))); (intro v8 w8 ho8 hg8))
                      all_goals
                        have hlt := HO7.out.lt
                        have HF := hid_intro (And.intro (But.grown (X := (· = pb)) (show But (· = pb) w _ by with_reducible (repeat (first | exact HB7.out | refine But.drew ?_ | refine But.alloc ?_ _))) hg8 (fun j hj => Or.inr (by have h1 := (hlt j hj).1; have h2 := HB1.out.size; omega))) (And.intro (show w1.heap.size ≤ w8.heap.size by have h1 := hg8.size; have h2 := HS7.out; simp at h1; omega) (And.intro ho8 (RP.grown (show RP _ pb S k2 g false from HR7.out.below (by with_reducible (repeat (first | exact Below.refl _ _ | refine vb_d ?_ | refine vb_a ?_ _)))) hg8 (fun j hj => by have h1 := (hlt j hj).1; have h2 := HR1.out.lt; omega)))))
                        clear ho8 hg8 hlt
                        go_wp2_with fail
                        go_roundg (S.length + 1 - k2)
                        case measure => have h1 := HNX.out.1; have h2 := HK2.out; simp; omega
                        case rel => exact ⟨k2, acc ++ [(p, q)], false, by simp, HNX.out.2, HF.out.1, HF.out.2.1, by first | exact HF.out.2.2.1 | exact OwnR.below HF.out.2.2.1 (vb_d (Below.refl _ _)), by first | exact HF.out.2.2.2 | exact HF.out.2.2.2.drew⟩
    · rw [HI.out.1.2] at HE0
      have HMB := hid_intro (fun (X : Nat → Prop) (hR : RI wr X acc u4) => And.intro (refMergeN_any acc u4 wr X hR (by have := HAL.out; omega)) (refTurnN_any acc u4 wr X hR (by have := HAL.out; omega)))
      obtain ⟨ao, cap, c0, c1, c2, c3, fr, h1, h2, h3, h4, h5, h6⟩ := HI.out.2.2.2.2
      clear c0 c1 c2 fr h1 h2 h3 h4 h5 h6
      cases tb
      · have hmg := (HMB.out (fun _ => False) (HI.out.2.2.2.1.ri _ (fun _ _ h => h))).1
        go_wp2_with fail
        refine hmg.mono ?_; rintro r w9 ⟨v9, rfl, ho9, hb9⟩
        have HF := hid_intro (And.intro (HI.out.2.1.below hb9) (And.intro (HI.out.2.2.2.2.below hb9) (ho9.weak (Y := (· < w.heap.size)) (fun j h => by have := HI.out.2.1.size; have h2 : j < w.heap.size := h; show j < _; omega))))
        clear hb9 ho9 hmg
        go_wp2_with fail
        rw [HP.out, HE0.out]
        exact ⟨_, rfl, HF.out.1, k, _, HF.out.2.1, HF.out.2.2⟩
      · have hmg := (HMB.out (fun _ => False) (HI.out.2.2.2.1.ri _ (fun _ _ h => h))).2
        go_wp2_with fail
        refine hmg.mono ?_; rintro r w9 ⟨v9, rfl, ho9, hb9⟩
        have HF := hid_intro (And.intro (HI.out.2.1.below hb9) (And.intro (HI.out.2.2.2.2.below hb9) (ho9.weak (Y := (· < w.heap.size)) (fun j h => by have := HI.out.2.1.size; have h2 : j < w.heap.size := h; show j < _; omega))))
        clear hb9 ho9 hmg
        go_wp2_with fail
        rw [HP.out, HE0.out]
        exact ⟨_, rfl, HF.out.1, k, _, HF.out.2.1, HF.out.2.2⟩
end Go.Proofs.YthbbkcdlcpbepaaGreatDoor
