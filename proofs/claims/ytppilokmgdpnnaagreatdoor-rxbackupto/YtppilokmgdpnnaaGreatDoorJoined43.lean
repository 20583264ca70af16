/-
  Which trees may be, by the document's answer. Conditions: none.
-/
import Derived.Test.YtppilokmgdpnnaaGreatDoorJoined42
import Derived.Test.YtppilokmgdpnnaaGreatDoorJoined7
namespace Go.Proofs.YtppilokmgdpnnaaGreatDoor
open Go.RowKit
attribute [local go_sem] setCell_drewN alloc_drewN

theorem headB_no {k : Int} {r : List (Int × Int)} {lo hi : Int} {z : Bool} (h : (k ≠ 2 ∧ r.length > 0) ∨ (k ≠ 5 ∧ (lo ≠ 0 ∨ hi ≠ 0 ∨ z = true))) : headB k r lo hi z = false := by
  unfold headB
  rcases h with ⟨h1, h2⟩ | ⟨h1, h2⟩
  · rw [decide_eq_true h1, decide_eq_true h2]; rfl
  · rw [decide_eq_true h1]
    rcases h2 with h2 | h2 | h2
    · rw [decide_eq_true h2]; simp
    · rw [decide_eq_true h2]; simp
    · rw [h2]; simp
theorem headB_yes {k : Int} {r : List (Int × Int)} {lo hi : Int} {z : Bool} (h : (k = 2 ∨ r.length = 0) ∧ (k = 5 ∨ (lo = 0 ∧ hi = 0 ∧ z = false))) : headB k r lo hi z = rgB r := by
  unfold headB
  obtain ⟨h1, h2⟩ := h
  have e1 : (decide (k ≠ 2) && decide (r.length > 0)) = false := by
    rcases h1 with h | h
    · rw [decide_eq_false (by simpa using h)]; rfl
    · rw [decide_eq_false (by omega : ¬ r.length > 0)]; simp
  have e2 : (decide (k ≠ 5) && (decide (lo ≠ 0) || decide (hi ≠ 0) || z)) = false := by
    rcases h2 with h | ⟨h, h', h''⟩
    · rw [decide_eq_false (by simpa using h)]; rfl
    · rw [decide_eq_false (show ¬ lo ≠ 0 by simpa using h), decide_eq_false (show ¬ hi ≠ 0 by simpa using h'), h'']; simp
  rw [e1, e2]; simp
theorem kindB_34 {k : Int} (hk : k = 3 ∨ k = 4) (lo hi : Int) (n : Nat) : kindB k lo hi n = !decide (n < 2) := if_pos hk
theorem kindB_5 (lo hi : Int) (n : Nat) : kindB 5 lo hi n = !(decide (n ≠ 1) || decide (lo < 0) || decide (lo > 1000) || decide (hi < -1) || decide (hi > 1000) || (decide (hi ≥ 0) && decide (hi < lo))) := rfl
theorem kindB_1 {k : Int} (hk : k = 2 ∨ k = 1 ∨ k = 6 ∨ k = 7 ∨ k = 8 ∨ k = 9) (lo hi : Int) (n : Nat) : kindB k lo hi n = !decide (n > 0) := by
  unfold kindB; rw [if_neg (by omega), if_neg (by omega), if_pos hk]
theorem kindB_no {k : Int} (h3 : ¬ (k = 3 ∨ k = 4)) (h5 : ¬ k = 5) (h1 : ¬ (k = 2 ∨ k = 1 ∨ k = 6 ∨ k = 7 ∨ k = 8 ∨ k = 9)) (lo hi : Int) (n : Nat) : kindB k lo hi n = false := by
  unfold kindB; rw [if_neg h3, if_neg h5, if_neg h1]

set_option maxRecDepth 100000 in
set_option maxHeartbeats 6400000 in
theorem right_any : ∀ (d : Nat), d ≤ 1000 → ∀ (t : RX) (f : Nat → Value) (w : World) (X : Nat → Prop), XI w X t f →
    Calls Tryz.prog 16 #[xa f, .int .i64 (d : Int)] w fun r' w' => r' = .returned (.bool (rightB d t)) ∧ Below w.heap.size w w' := by
  intro d
  induction d with
  | zero =>
    intro _ t f w X hv
    cases hv with
    | mk ao cap G f0 f1 f2 f3 f4 f5 hc hw hl hr =>
    rename_i k r lo hi z s
    obtain ⟨a1, c1, e1, _⟩ := f1.shape
    generalize r.length = m at e1
    have exa : xa f = .agg #[.int .i64 k, .slice a1 m c1, .int .i64 lo, .int .i64 hi, .bool z, .slice ao s.length cap] := by unfold xa; rw [f0, e1, f2, f3, f4, f5]
    rw [exa]
    have em : rightB 0 (.mk k r lo hi z s) = false := rfl
    rw [em]
    obtain ⟨P, hP⟩ : ∃ P : Ending → World → Prop, P = fun r' w' => r' = .returned (.bool false) ∧ Below w.heap.size w w' := ⟨_, rfl⟩
    rw [← hP]
    have HP := hid_intro hP
    clear hP hl hr exa em
    go_enter Tryz.func16, Tryz.ntmps16
    go_wp2_with fail
    rw [HP.out]
    exact ⟨rfl, vb_a (Below.refl _ _) _⟩
  | succ d ih =>
    intro hd1 t f w X hv
    obtain ⟨k, r, lo, hi, z, s⟩ := t
    cases hv with
    | mk ao cap G f0 f1 f2 f3 f4 f5 hc hw hl hr =>
    obtain ⟨a1, c1, e1, _⟩ := f1.shape
    have hlI : (s.length : Int) ≤ 9223372036854775807 := by have := hc.1; have := hc.2; unfold maxLen at this; omega
    have hrg0 : ∀ w', Below w.heap.size w w' → Calls Tryz.prog 24 #[.slice a1 r.length c1] w' fun r' w2 => r' = .returned (.bool (rgB r)) ∧ Below w'.heap.size w' w2 := fun w' hb => refRngs_any r _ w' X ((e1 ▸ f1).kept hb)
    have HE : Hid (rightB (d + 1) (.mk k r lo hi z s) = (headB k r lo hi z && kindB k lo hi s.length && s.all (rightB d))) := hid_intro rfl
    have hno : ((k ≠ 2 ∧ r.length > 0) ∨ (k ≠ 5 ∧ (lo ≠ 0 ∨ hi ≠ 0 ∨ z = true))) → rightB (d + 1) (.mk k r lo hi z s) = false := fun h => by rw [HE.out, headB_no h]; rfl
    have hyes : ((k = 2 ∨ r.length = 0) ∧ (k = 5 ∨ (lo = 0 ∧ hi = 0 ∧ z = false))) → rightB (d + 1) (.mk k r lo hi z s) = (rgB r && kindB k lo hi s.length && s.all (rightB d)) := fun h => by rw [HE.out, headB_yes h]
    generalize rightB (d + 1) (.mk k r lo hi z s) = TB at *
    generalize rgB r = gb at *
    generalize r.length = m at *
    have exa : xa f = .agg #[.int .i64 k, .slice a1 m c1, .int .i64 lo, .int .i64 hi, .bool z, .slice ao s.length cap] := by unfold xa; rw [f0, e1, f2, f3, f4, f5]
    rw [exa]
    obtain ⟨P, hP⟩ : ∃ P : Ending → World → Prop, P = fun r' w' => r' = .returned (.bool TB) ∧ Below w.heap.size w w' := ⟨_, rfl⟩
    rw [← hP]
    have HP := hid_intro hP
    clear hP
    obtain ⟨W, hW⟩ : ∃ W, w.alloc (.cells #[.int .i64 k, .slice a1 m c1, .int .i64 lo, .int .i64 hi, .bool z, .slice ao s.length cap] 26) = W := ⟨_, rfl⟩
    have hbW : Below w.heap.size w W := hW ▸ vb_a (Below.refl _ _) _
    have hbW0 : Below w.heap.size w (w.alloc (.cells #[.int .i64 k, .slice a1 m c1, .int .i64 lo, .int .i64 hi, .bool z, .slice ao s.length cap] 26)) := vb_a (Below.refl _ _) _
    have kX : Bk W w.heap.size #[.int .i64 k, .slice a1 m c1, .int .i64 lo, .int .i64 hi, .bool z, .slice ao s.length cap] := hW ▸ Bk.new _ _ _
    have hrg := hrg0 W hbW
    have HL : Hid (∀ w', Below W.heap.size W w' → (s = [] ∨ ∃ b off, ao = some ⟨b, off, none⟩ ∧ ∀ i, i < s.length → ∀ j, j < 6 → w'.cell? ⟨b, off + i * 6 + j, none⟩ = some (G i j))) := hid_intro (fun w' hb => by
      rcases hl with hl | ⟨b, off, h1, _, h3⟩
      · exact .inl hl
      · exact .inr ⟨b, off, h1, fun i hi j hj => by rw [(vb_t hbW hb).cell (p := ⟨b, off + i * 6 + j, none⟩) (World.block_lt_of_cell? w _ (h3 i hi j hj))]; exact h3 i hi j hj⟩)
    have HI : Hid (∀ w' i (h : i < s.length), Below W.heap.size W w' → Calls Tryz.prog 16 #[.agg #[G i 0, G i 1, G i 2, G i 3, G i 4, G i 5], .int .i64 (d : Int)] w' fun r' w2 => r' = .returned (.bool (rightB d s[i])) ∧ Below w'.heap.size w' w2) := hid_intro (fun w' i h hb =>
      ih (by omega) s[i] (G i) w' X ((hr i h).kept (vb_t hbW hb)))
    have HX := hid_intro hbW
    have HW := hid_intro hW
    have HK := hid_intro kX
    have hdI : (d : Int) + 1 ≤ 1000 := by omega
    have hdz : ¬ ((d : Int) + 1 = 0) := by omega
    have ecast : ((d + 1 : Nat) : Int) = (d : Int) + 1 := rfl
    rw [ecast]
    clear hl hr ih hbW kX hW exa f1 ecast hd1 hw hrg0 hc
    by_cases hk2 : k = 2
    · subst hk2
      by_cases hlo : lo = 0
      · subst hlo
        by_cases hhi : hi = 0
        · subst hhi
          cases z
          · have hy := hyes (⟨Or.inl rfl, Or.inr ⟨rfl, rfl, rfl⟩⟩)
            clear hno hyes HE
            go_enter Tryz.func16, Tryz.ntmps16
            go_wp2_with fail
            rw [HW.out]
            refine hrg.mono ?_; rintro r' w1 ⟨rfl, hb1⟩
            have HB1 := hid_intro hb1
            obtain ⟨a0, a1', a2, a3, a4, a5⟩ := (HK.out.bel hb1).c6
            clear hb1 hbW0
            cases gb
            · have HF : Hid (TB = false) := hid_intro hy
              clear hy HL HI hrg
              go_wp2_with fail
              rw [HP.out, HF.out]
              exact ⟨rfl, vb_t HX.out HB1.out⟩
            · by_cases hn : s.length = 0
              · have hnI : (s.length : Int) = 0 := by omega
                have hnP : ¬ (0 : Int) < (s.length : Int) := by omega
                have HE2 : Hid (TB = s.all (rightB d)) := hid_intro (by rw [hy, kindB_1 (Or.inl rfl), decide_eq_false (by omega : ¬ s.length > 0)]; simp)
                clear hy hrg hn
                go_wp2_with fail
                clear a0 a1' a2 a3 a4 a5
                go_loopg [6] s.length (fun me s6 wr => ∃ j : Nat, j ≤ s.length ∧ me = s.length - j ∧ s6 = .int .i64 (j : Int) ∧ Hid (∀ i (h : i < s.length), i < j → rightB d s[i] = true) ∧ Hid (Below W.heap.size W wr))
                case atStart => exact ⟨0, Nat.zero_le _, rfl, rfl, fun i _ h => absurd h (by omega), HB1.out⟩
                case round =>
                  obtain ⟨j, hj, rfl, rfl, HA, HZ⟩ := hrel
                  have a5 := (HK.out.bel HZ.out).c6.2.2.2.2.2
                  by_cases hlt : j < s.length
                  · exact absurd hlt (by omega)
                  · have hJ : ¬ (j : Int) < (s.length : Int) := by omega
                    have HF : Hid (TB = true) := hid_intro (by
                      rw [HE2.out, List.all_eq_true]
                      intro x hx
                      obtain ⟨i, hi, rfl⟩ := List.getElem_of_mem hx
                      exact HA.out i hi (by omega))
                    clear HL HI HA HE2
                    go_wp2_with fail
                    rw [HP.out, HF.out]
                    exact ⟨rfl, vb_t HX.out HZ.out⟩
              · have hnI : (0 : Int) < (s.length : Int) := by omega
                have HF : Hid (TB = false) := hid_intro (by rw [hy, kindB_1 (Or.inl rfl), decide_eq_true (by omega : s.length > 0)]; simp)
                clear hy HL HI hrg hn
                go_wp2_with fail
                rw [HP.out, HF.out]
                exact ⟨rfl, vb_t HX.out HB1.out⟩
          · have HF := hid_intro (hno (Or.inr ⟨by omega, Or.inr (Or.inr rfl)⟩))
            clear hno hyes HL HI hrg HE
            go_enter Tryz.func16, Tryz.ntmps16
            go_wp2_with fail
            rw [HP.out, HF.out]
            exact ⟨rfl, hbW0⟩
        · have HF := hid_intro (hno (Or.inr ⟨by omega, Or.inr (Or.inl hhi)⟩))
          clear hno hyes HL HI hrg HE
          go_enter Tryz.func16, Tryz.ntmps16
          go_wp2_with fail
          rw [HP.out, HF.out]
          exact ⟨rfl, hbW0⟩
      · have HF := hid_intro (hno (Or.inr ⟨by omega, Or.inl hlo⟩))
        clear hno hyes HL HI hrg HE
        go_enter Tryz.func16, Tryz.ntmps16
        go_wp2_with fail
        rw [HP.out, HF.out]
        exact ⟨rfl, hbW0⟩
    · by_cases hk5 : k = 5
      · subst hk5
        by_cases hm : m = 0
        · have hmI : (m : Int) = 0 := by omega
          have hmP : ¬ (0 : Int) < (m : Int) := by omega
          have hy := hyes (⟨Or.inr hm, Or.inl rfl⟩)
          clear hno hyes HE hm
          go_enter Tryz.func16, Tryz.ntmps16
          go_wp2_with fail
          rw [HW.out]
          refine hrg.mono ?_; rintro r' w1 ⟨rfl, hb1⟩
          have HB1 := hid_intro hb1
          obtain ⟨a0, a1', a2, a3, a4, a5⟩ := (HK.out.bel hb1).c6
          clear hb1 hbW0
          cases gb
          · have HF : Hid (TB = false) := hid_intro hy
            clear hy HL HI hrg
            go_wp2_with fail
            rw [HP.out, HF.out]
            exact ⟨rfl, vb_t HX.out HB1.out⟩
          · rw [kindB_5] at hy
            by_cases hn : s.length = 1
            · have hnI : (s.length : Int) = 1 := by omega
              rw [decide_eq_false (by omega : ¬ s.length ≠ 1)] at hy
              clear hn
              by_cases q1 : lo < 0
              · rw [decide_eq_true q1] at hy
                have HF : Hid (TB = false) := hid_intro (by rw [hy]; simp)
                clear hy HL HI hrg
                go_wp2_with fail
                rw [HP.out, HF.out]
                exact ⟨rfl, vb_t HX.out HB1.out⟩
              · rw [decide_eq_false q1] at hy
                by_cases q2 : lo > 1000
                · rw [decide_eq_true q2] at hy
                  have HF : Hid (TB = false) := hid_intro (by rw [hy]; simp)
                  clear hy HL HI hrg
                  go_wp2_with fail
                  rw [HP.out, HF.out]
                  exact ⟨rfl, vb_t HX.out HB1.out⟩
                · rw [decide_eq_false q2] at hy
                  by_cases q3 : hi < -1
                  · rw [decide_eq_true q3] at hy
                    have HF : Hid (TB = false) := hid_intro (by rw [hy]; simp)
                    clear hy HL HI hrg
                    go_wp2_with fail
                    rw [HP.out, HF.out]
                    exact ⟨rfl, vb_t HX.out HB1.out⟩
                  · rw [decide_eq_false q3] at hy
                    by_cases q4 : hi > 1000
                    · rw [decide_eq_true q4] at hy
                      have HF : Hid (TB = false) := hid_intro (by rw [hy]; simp)
                      clear hy HL HI hrg
                      go_wp2_with fail
                      rw [HP.out, HF.out]
                      exact ⟨rfl, vb_t HX.out HB1.out⟩
                    · rw [decide_eq_false q4] at hy
                      by_cases q5 : hi ≥ 0
                      · rw [decide_eq_true q5] at hy
                        by_cases q6 : hi < lo
                        · rw [decide_eq_true q6] at hy
                          have HF : Hid (TB = false) := hid_intro (by rw [hy]; simp)
                          clear hy HL HI hrg
                          go_wp2_with fail
                          rw [HP.out, HF.out]
                          exact ⟨rfl, vb_t HX.out HB1.out⟩
                        · rw [decide_eq_false q6] at hy
                          have HE2 : Hid (TB = s.all (rightB d)) := hid_intro (by rw [hy]; simp)
                          clear hy hrg
                          go_wp2_with fail
                          clear a0 a1' a2 a3 a4 a5
                          go_loopg [6] s.length (fun me s6 wr => ∃ j : Nat, j ≤ s.length ∧ me = s.length - j ∧ s6 = .int .i64 (j : Int) ∧ Hid (∀ i (h : i < s.length), i < j → rightB d s[i] = true) ∧ Hid (Below W.heap.size W wr))
                          case atStart => exact ⟨0, Nat.zero_le _, rfl, rfl, fun i _ h => absurd h (by omega), HB1.out⟩
                          case round =>
                            obtain ⟨j, hj, rfl, rfl, HA, HZ⟩ := hrel
                            have a5 := (HK.out.bel HZ.out).c6.2.2.2.2.2
                            by_cases hlt : j < s.length
                            · have hJ : (j : Int) < (s.length : Int) := by omega
                              obtain ⟨b, off, rfl, h3⟩ := (HL.out wr HZ.out).resolve_left (fun e => by rw [e] at hlt; exact absurd hlt (by simp))
                              have g0 : wr.cell? ⟨b, off + j * 6, none⟩ = some (G j 0) := h3 j hlt 0 (by omega)
                              have g1 := h3 j hlt 1 (by omega)
                              have g2 := h3 j hlt 2 (by omega)
                              have g3 := h3 j hlt 3 (by omega)
                              have g4 := h3 j hlt 4 (by omega)
                              have g5 := h3 j hlt 5 (by omega)
                              have HC : Hid (∀ w', Below wr.heap.size wr w' → Calls Tryz.prog 16 #[.agg #[G j 0, G j 1, G j 2, G j 3, G j 4, G j 5], .int .i64 (d : Int)] w' fun r' w2 => r' = .returned (.bool (rightB d s[j])) ∧ Below w'.heap.size w' w2) := hid_intro (fun w' hb => HI.out w' j hlt (vb_t HZ.out hb))
                              clear HL HI h3
                              cases hmb : rightB d s[j]
                              · have HF : Hid (TB = false) := hid_intro (by
                                  rw [HE2.out, List.all_eq_false]
                                  exact ⟨s[j], List.getElem_mem hlt, by rw [hmb]; decide⟩)
                                rw [hmb] at HC
                                clear hmb HA HE2
                                go_wp2_with fail
                                refine (HC.out _ (Below.refl _ _)).mono ?_; rintro r' w3 ⟨rfl, hb3⟩
                                go_wp2_with fail
                                rw [HP.out, HF.out]
                                exact ⟨rfl, vb_t HX.out (vb_t HZ.out hb3)⟩
                              · have HA2 : Hid (∀ i (h : i < s.length), i < j + 1 → rightB d s[i] = true) := hid_intro (fun i h hi => by
                                  by_cases e : i = j
                                  · subst e; exact hmb
                                  · exact HA.out i h (by omega))
                                rw [hmb] at HC
                                clear hmb HA HE2
                                go_wp2_with fail
                                refine (HC.out _ (Below.refl _ _)).mono ?_; rintro r' w3 ⟨rfl, hb3⟩
                                have HB := hid_intro (vb_t HZ.out hb3)
                                clear hb3
                                go_wp2_with fail
                                go_roundg (s.length - (j + 1))
                                case measure => omega
                                case rel => exact ⟨j + 1, by omega, rfl, by simp, HA2, HB⟩
                            · have hJ : ¬ (j : Int) < (s.length : Int) := by omega
                              have HF : Hid (TB = true) := hid_intro (by
                                rw [HE2.out, List.all_eq_true]
                                intro x hx
                                obtain ⟨i, hi, rfl⟩ := List.getElem_of_mem hx
                                exact HA.out i hi (by omega))
                              clear HL HI HA HE2
                              go_wp2_with fail
                              rw [HP.out, HF.out]
                              exact ⟨rfl, vb_t HX.out HZ.out⟩
                      · rw [decide_eq_false q5] at hy
                        have HE2 : Hid (TB = s.all (rightB d)) := hid_intro (by rw [hy]; simp)
                        clear hy hrg
                        go_wp2_with fail
                        clear a0 a1' a2 a3 a4 a5
                        go_loopg [6] s.length (fun me s6 wr => ∃ j : Nat, j ≤ s.length ∧ me = s.length - j ∧ s6 = .int .i64 (j : Int) ∧ Hid (∀ i (h : i < s.length), i < j → rightB d s[i] = true) ∧ Hid (Below W.heap.size W wr))
                        case atStart => exact ⟨0, Nat.zero_le _, rfl, rfl, fun i _ h => absurd h (by omega), HB1.out⟩
                        case round =>
                          obtain ⟨j, hj, rfl, rfl, HA, HZ⟩ := hrel
                          have a5 := (HK.out.bel HZ.out).c6.2.2.2.2.2
                          by_cases hlt : j < s.length
                          · have hJ : (j : Int) < (s.length : Int) := by omega
                            obtain ⟨b, off, rfl, h3⟩ := (HL.out wr HZ.out).resolve_left (fun e => by rw [e] at hlt; exact absurd hlt (by simp))
                            have g0 : wr.cell? ⟨b, off + j * 6, none⟩ = some (G j 0) := h3 j hlt 0 (by omega)
                            have g1 := h3 j hlt 1 (by omega)
                            have g2 := h3 j hlt 2 (by omega)
                            have g3 := h3 j hlt 3 (by omega)
                            have g4 := h3 j hlt 4 (by omega)
                            have g5 := h3 j hlt 5 (by omega)
                            have HC : Hid (∀ w', Below wr.heap.size wr w' → Calls Tryz.prog 16 #[.agg #[G j 0, G j 1, G j 2, G j 3, G j 4, G j 5], .int .i64 (d : Int)] w' fun r' w2 => r' = .returned (.bool (rightB d s[j])) ∧ Below w'.heap.size w' w2) := hid_intro (fun w' hb => HI.out w' j hlt (vb_t HZ.out hb))
                            clear HL HI h3
                            cases hmb : rightB d s[j]
                            · have HF : Hid (TB = false) := hid_intro (by
                                rw [HE2.out, List.all_eq_false]
                                exact ⟨s[j], List.getElem_mem hlt, by rw [hmb]; decide⟩)
                              rw [hmb] at HC
                              clear hmb HA HE2
                              go_wp2_with fail
                              refine (HC.out _ (Below.refl _ _)).mono ?_; rintro r' w3 ⟨rfl, hb3⟩
                              go_wp2_with fail
                              rw [HP.out, HF.out]
                              exact ⟨rfl, vb_t HX.out (vb_t HZ.out hb3)⟩
                            · have HA2 : Hid (∀ i (h : i < s.length), i < j + 1 → rightB d s[i] = true) := hid_intro (fun i h hi => by
                                by_cases e : i = j
                                · subst e; exact hmb
                                · exact HA.out i h (by omega))
                              rw [hmb] at HC
                              clear hmb HA HE2
                              go_wp2_with fail
                              refine (HC.out _ (Below.refl _ _)).mono ?_; rintro r' w3 ⟨rfl, hb3⟩
                              have HB := hid_intro (vb_t HZ.out hb3)
                              clear hb3
                              go_wp2_with fail
                              go_roundg (s.length - (j + 1))
                              case measure => omega
                              case rel => exact ⟨j + 1, by omega, rfl, by simp, HA2, HB⟩
                          · have hJ : ¬ (j : Int) < (s.length : Int) := by omega
                            have HF : Hid (TB = true) := hid_intro (by
                              rw [HE2.out, List.all_eq_true]
                              intro x hx
                              obtain ⟨i, hi, rfl⟩ := List.getElem_of_mem hx
                              exact HA.out i hi (by omega))
                            clear HL HI HA HE2
                            go_wp2_with fail
                            rw [HP.out, HF.out]
                            exact ⟨rfl, vb_t HX.out HZ.out⟩
            · have hnI : ¬ (s.length : Int) = 1 := by omega
              rw [decide_eq_true hn] at hy
              have HF : Hid (TB = false) := hid_intro (by rw [hy]; simp)
              clear hy HL HI hrg
              go_wp2_with fail
              rw [HP.out, HF.out]
              exact ⟨rfl, vb_t HX.out HB1.out⟩
        · have hmI : (0 : Int) < (m : Int) := by omega
          have HF := hid_intro (hno (Or.inl ⟨by omega, by omega⟩))
          clear hno hyes HL HI hrg HE
          go_enter Tryz.func16, Tryz.ntmps16
          go_wp2_with fail
          rw [HP.out, HF.out]
          exact ⟨rfl, hbW0⟩
      · by_cases hm : m = 0
        · have hmI : (m : Int) = 0 := by omega
          have hmP : ¬ (0 : Int) < (m : Int) := by omega
          by_cases hlo : lo = 0
          · subst hlo
            by_cases hhi : hi = 0
            · subst hhi
              cases z
              · have hy := hyes (⟨Or.inr hm, Or.inr ⟨rfl, rfl, rfl⟩⟩)
                clear hno hyes HE hm
                go_enter Tryz.func16, Tryz.ntmps16
                go_wp2_with fail
                rw [HW.out]
                refine hrg.mono ?_; rintro r' w1 ⟨rfl, hb1⟩
                have HB1 := hid_intro hb1
                obtain ⟨a0, a1', a2, a3, a4, a5⟩ := (HK.out.bel hb1).c6
                clear hb1 hbW0
                cases gb
                · have HF : Hid (TB = false) := hid_intro hy
                  clear hy HL HI hrg
                  go_wp2_with fail
                  rw [HP.out, HF.out]
                  exact ⟨rfl, vb_t HX.out HB1.out⟩
                · by_cases hk3 : k = 3 ∨ k = 4
                  · by_cases hn : s.length < 2
                    · have hnI : (s.length : Int) < 2 := by omega
                      have HF : Hid (TB = false) := hid_intro (by rw [hy, kindB_34 hk3, decide_eq_true hn]; simp)
                      clear hy HL HI hrg
                      rcases hk3 with rfl | rfl
                      all_goals
                        go_wp2_with fail
                        rw [HP.out, HF.out]
                        exact ⟨rfl, vb_t HX.out HB1.out⟩
                    · have hnI : ¬ (s.length : Int) < 2 := by omega
                      have HE2 : Hid (TB = s.all (rightB d)) := hid_intro (by rw [hy, kindB_34 hk3, decide_eq_false hn]; simp)
                      clear hy hrg
                      rcases hk3 with rfl | rfl
                      all_goals
                        go_wp2_with fail
                        clear a0 a1' a2 a3 a4 a5
                        go_loopg [6] s.length (fun me s6 wr => ∃ j : Nat, j ≤ s.length ∧ me = s.length - j ∧ s6 = .int .i64 (j : Int) ∧ Hid (∀ i (h : i < s.length), i < j → rightB d s[i] = true) ∧ Hid (Below W.heap.size W wr))
                        case atStart => exact ⟨0, Nat.zero_le _, rfl, rfl, fun i _ h => absurd h (by omega), HB1.out⟩
                        case round =>
                          obtain ⟨j, hj, rfl, rfl, HA, HZ⟩ := hrel
                          have a5 := (HK.out.bel HZ.out).c6.2.2.2.2.2
                          by_cases hlt : j < s.length
                          · have hJ : (j : Int) < (s.length : Int) := by omega
                            obtain ⟨b, off, rfl, h3⟩ := (HL.out wr HZ.out).resolve_left (fun e => by rw [e] at hlt; exact absurd hlt (by simp))
                            have g0 : wr.cell? ⟨b, off + j * 6, none⟩ = some (G j 0) := h3 j hlt 0 (by omega)
                            have g1 := h3 j hlt 1 (by omega)
                            have g2 := h3 j hlt 2 (by omega)
                            have g3 := h3 j hlt 3 (by omega)
                            have g4 := h3 j hlt 4 (by omega)
                            have g5 := h3 j hlt 5 (by omega)
                            have HC : Hid (∀ w', Below wr.heap.size wr w' → Calls Tryz.prog 16 #[.agg #[G j 0, G j 1, G j 2, G j 3, G j 4, G j 5], .int .i64 (d : Int)] w' fun r' w2 => r' = .returned (.bool (rightB d s[j])) ∧ Below w'.heap.size w' w2) := hid_intro (fun w' hb => HI.out w' j hlt (vb_t HZ.out hb))
                            clear HL HI h3
                            cases hmb : rightB d s[j]
                            · have HF : Hid (TB = false) := hid_intro (by
                                rw [HE2.out, List.all_eq_false]
                                exact ⟨s[j], List.getElem_mem hlt, by rw [hmb]; decide⟩)
                              rw [hmb] at HC
                              clear hmb HA HE2
                              go_wp2_with fail
                              refine (HC.out _ (Below.refl _ _)).mono ?_; rintro r' w3 ⟨rfl, hb3⟩
                              go_wp2_with fail
                              rw [HP.out, HF.out]
                              exact ⟨rfl, vb_t HX.out (vb_t HZ.out hb3)⟩
                            · have HA2 : Hid (∀ i (h : i < s.length), i < j + 1 → rightB d s[i] = true) := hid_intro (fun i h hi => by
                                by_cases e : i = j
                                · subst e; exact hmb
                                · exact HA.out i h (by omega))
                              rw [hmb] at HC
                              clear hmb HA HE2
                              go_wp2_with fail
                              refine (HC.out _ (Below.refl _ _)).mono ?_; rintro r' w3 ⟨rfl, hb3⟩
                              have HB := hid_intro (vb_t HZ.out hb3)
                              clear hb3
                              go_wp2_with fail
                              go_roundg (s.length - (j + 1))
                              case measure => omega
                              case rel => exact ⟨j + 1, by omega, rfl, by simp, HA2, HB⟩
                          · have hJ : ¬ (j : Int) < (s.length : Int) := by omega
                            have HF : Hid (TB = true) := hid_intro (by
                              rw [HE2.out, List.all_eq_true]
                              intro x hx
                              obtain ⟨i, hi, rfl⟩ := List.getElem_of_mem hx
                              exact HA.out i hi (by omega))
                            clear HL HI HA HE2
                            go_wp2_with fail
                            rw [HP.out, HF.out]
                            exact ⟨rfl, vb_t HX.out HZ.out⟩
                  · by_cases hk1 : k = 1 ∨ k = 6 ∨ k = 7 ∨ k = 8 ∨ k = 9
                    · by_cases hn : s.length = 0
                      · have hnI : (s.length : Int) = 0 := by omega
                        have hnP : ¬ (0 : Int) < (s.length : Int) := by omega
                        have HE2 : Hid (TB = s.all (rightB d)) := hid_intro (by rw [hy, kindB_1 (Or.inr hk1), decide_eq_false (by omega : ¬ s.length > 0)]; simp)
                        clear hy hrg hk3 hn
                        rcases hk1 with rfl | rfl | rfl | rfl | rfl
                        all_goals
                          go_wp2_with fail
                          clear a0 a1' a2 a3 a4 a5
                          go_loopg [6] s.length (fun me s6 wr => ∃ j : Nat, j ≤ s.length ∧ me = s.length - j ∧ s6 = .int .i64 (j : Int) ∧ Hid (∀ i (h : i < s.length), i < j → rightB d s[i] = true) ∧ Hid (Below W.heap.size W wr))
                          case atStart => exact ⟨0, Nat.zero_le _, rfl, rfl, fun i _ h => absurd h (by omega), HB1.out⟩
                          case round =>
                            obtain ⟨j, hj, rfl, rfl, HA, HZ⟩ := hrel
                            have a5 := (HK.out.bel HZ.out).c6.2.2.2.2.2
                            by_cases hlt : j < s.length
                            · exact absurd hlt (by omega)
                            · have hJ : ¬ (j : Int) < (s.length : Int) := by omega
                              have HF : Hid (TB = true) := hid_intro (by
                                rw [HE2.out, List.all_eq_true]
                                intro x hx
                                obtain ⟨i, hi, rfl⟩ := List.getElem_of_mem hx
                                exact HA.out i hi (by omega))
                              clear HL HI HA HE2
                              go_wp2_with fail
                              rw [HP.out, HF.out]
                              exact ⟨rfl, vb_t HX.out HZ.out⟩
                      · have hnI : (0 : Int) < (s.length : Int) := by omega
                        have HF : Hid (TB = false) := hid_intro (by rw [hy, kindB_1 (Or.inr hk1), decide_eq_true (by omega : s.length > 0)]; simp)
                        clear hy HL HI hrg hk3
                        rcases hk1 with rfl | rfl | rfl | rfl | rfl
                        all_goals
                          go_wp2_with fail
                          rw [HP.out, HF.out]
                          exact ⟨rfl, vb_t HX.out HB1.out⟩
                    · have HF : Hid (TB = false) := hid_intro (by rw [hy, kindB_no hk3 hk5 (by omega)]; simp)
                      have q1 : ¬ k = 1 := by omega
                      have q6 : ¬ k = 6 := by omega
                      have q7 : ¬ k = 7 := by omega
                      have q8 : ¬ k = 8 := by omega
                      have q9 : ¬ k = 9 := by omega
                      have q3 : ¬ k = 3 := by omega
                      have q4 : ¬ k = 4 := by omega
                      clear hy HL HI hrg hk1 hk3
                      go_wp2_with fail
                      rw [HP.out, HF.out]
                      exact ⟨rfl, vb_t HX.out HB1.out⟩
              · have HF := hid_intro (hno (Or.inr ⟨by omega, Or.inr (Or.inr rfl)⟩))
                clear hno hyes HL HI hrg HE hm
                go_enter Tryz.func16, Tryz.ntmps16
                go_wp2_with fail
                rw [HP.out, HF.out]
                exact ⟨rfl, hbW0⟩
            · have HF := hid_intro (hno (Or.inr ⟨by omega, Or.inr (Or.inl hhi)⟩))
              clear hno hyes HL HI hrg HE hm
              go_enter Tryz.func16, Tryz.ntmps16
              go_wp2_with fail
              rw [HP.out, HF.out]
              exact ⟨rfl, hbW0⟩
          · have HF := hid_intro (hno (Or.inr ⟨by omega, Or.inl hlo⟩))
            clear hno hyes HL HI hrg HE hm
            go_enter Tryz.func16, Tryz.ntmps16
            go_wp2_with fail
            rw [HP.out, HF.out]
            exact ⟨rfl, hbW0⟩
        · have hmI : (0 : Int) < (m : Int) := by omega
          have HF := hid_intro (hno (Or.inl ⟨by omega, by omega⟩))
          clear hno hyes HL HI hrg HE
          go_enter Tryz.func16, Tryz.ntmps16
          go_wp2_with fail
          rw [HP.out, HF.out]
          exact ⟨rfl, hbW0⟩

set_option maxRecDepth 100000 in
set_option maxHeartbeats 800000 in
theorem refCheck_any (t : RX) (f : Nat → Value) (w : World) (X : Nat → Prop) (hv : XI w X t f) :
    Calls Tryz.prog 7 #[xa f] w fun r' w' => r' = .returned (.int .i64 (if rightB 1000 t = true then 0 else 91)) ∧ Below w.heap.size w w' := by
  cases hv with
  | mk ao cap G f0 f1 f2 f3 f4 f5 hc hw hl hr =>
  have hv := XI.mk ao cap G f0 f1 f2 f3 f4 f5 hc hw hl hr
  rename_i k r lo hi z s
  obtain ⟨a1, c1, e1, _⟩ := f1.shape
  have hm := fun m (e1 : f 1 = .slice a1 m c1) => right_any 1000 (by omega) (.mk k r lo hi z s) f _ X (hv.kept (vb_a (Below.refl w.heap.size w) (.cells #[.int .i64 k, .slice a1 m c1, .int .i64 lo, .int .i64 hi, .bool z, .slice ao s.length cap] 26)))
  have hm := hm _ e1
  clear hv hl hr f1
  generalize rightB 1000 (.mk k r lo hi z s) = TB at *
  generalize r.length = m at *
  have exa : xa f = .agg #[.int .i64 k, .slice a1 m c1, .int .i64 lo, .int .i64 hi, .bool z, .slice ao s.length cap] := by unfold xa; rw [f0, e1, f2, f3, f4, f5]
  rw [exa] at hm ⊢
  obtain ⟨P, hP⟩ : ∃ P : Ending → World → Prop, P = fun r' w' => r' = .returned (.int .i64 (if TB = true then 0 else 91)) ∧ Below w.heap.size w w' := ⟨_, rfl⟩
  rw [← hP]
  have HP := hid_intro hP
  clear hP exa
  cases TB
  all_goals
    go_enter Tryz.func7, Tryz.ntmps7
    go_wp2_with fail
    refine hm.mono ?_; rintro r' w1 ⟨rfl, hb1⟩
    have HB := hid_intro (vb_t (vb_a (Below.refl _ _) _) hb1)
    clear hb1
    go_wp2_with fail
    rw [HP.out]
    exact ⟨rfl, HB.out⟩
end Go.Proofs.YtppilokmgdpnnaaGreatDoor
