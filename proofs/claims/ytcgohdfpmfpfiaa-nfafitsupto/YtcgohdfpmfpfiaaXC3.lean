/-
  Which rows of states may be, by the document's answer. Conditions: no row of ranges is longer than 2^30.
-/
import Derived.Test.YtcgohdfpmfpfiaaXC2
import Derived.Test.YtcgohdfpmfpfiaaXT1
namespace Go.Proofs.Ytcgohdfpmfpfiaa
open Go.RowKit
attribute [local go_sem] setCell_drewN alloc_drewN

/-- The document's question of one state. -/
def refQ (n : Int) (k : Int) (m : Nat) (a b : Int) : Prop := 1 ≤ k ∧ k ≤ 7 ∧ 0 ≤ a ∧ a < n ∧ 0 ≤ b ∧ b < n ∧ (k = 7 → a = 0) ∧ (k ≠ 2 → b = 0) ∧ (k ≠ 1 → m = 0)
theorem rg_none {r : List (Int × Int)} (h : r.length = 0) : rgB r = true := by
  obtain rfl : r = [] := List.eq_nil_of_length_eq_zero h
  decide
theorem st_yes {n : Int} {s : ST} (h : refQ n s.k s.r.length s.a s.b) : stB n s = rgB s.r := by
  obtain ⟨k, r, a, b⟩ := s
  obtain ⟨h1, h2, h3, h4, h5, h6, h7, h8, h9⟩ := h
  dsimp only at *
  have ea : inB a n = true := by unfold inB; rw [decide_eq_true h3, decide_eq_true h4]; rfl
  have eb : inB b n = true := by unfold inB; rw [decide_eq_true h5, decide_eq_true h6]; rfl
  unfold stB
  dsimp only
  rw [ea, eb]
  by_cases c1 : k = 1
  · rw [if_pos c1, decide_eq_true (h8 (by omega))]; rfl
  · have hm := h9 c1
    rw [if_neg c1, rg_none hm, decide_eq_true hm]
    by_cases c2 : k = 2
    · rw [if_pos c2]; rfl
    · have hb := h8 c2
      rw [if_neg c2, decide_eq_true hb]
      by_cases c3 : k = 3 ∨ k = 4 ∨ k = 5 ∨ k = 6
      · rw [if_pos c3]; rfl
      · have c7 : k = 7 := by omega
        rw [if_neg c3, if_pos c7, decide_eq_true (h7 c7)]; rfl
theorem st_no {n : Int} (hn : 0 < n) {s : ST} (h : ¬ refQ n s.k s.r.length s.a s.b) : stB n s = false := by
  cases hb : stB n s with
  | false => rfl
  | true =>
    exfalso
    apply h
    obtain ⟨k, r, a, b⟩ := s
    unfold stB inB at hb
    unfold refQ
    dsimp only at *
    by_cases c1 : k = 1
    · rw [if_pos c1] at hb
      simp only [Bool.and_eq_true, decide_eq_true_eq] at hb
      omega
    · rw [if_neg c1] at hb
      by_cases c2 : k = 2
      · rw [if_pos c2] at hb
        simp only [Bool.and_eq_true, decide_eq_true_eq] at hb
        omega
      · rw [if_neg c2] at hb
        by_cases c3 : k = 3 ∨ k = 4 ∨ k = 5 ∨ k = 6
        · rw [if_pos c3] at hb
          simp only [Bool.and_eq_true, decide_eq_true_eq] at hb
          omega
        · rw [if_neg c3] at hb
          by_cases c7 : k = 7
          · rw [if_pos c7] at hb
            simp only [Bool.and_eq_true, decide_eq_true_eq] at hb
            omega
          · rw [if_neg c7] at hb
            cases hb
set_option maxRecDepth 100000 in
set_option maxHeartbeats 6400000 in
theorem refNfa_any (l : List ST) (v : Value) (w : World) (X : Nat → Prop) (hR : SI w X l v) (hl : ∀ s ∈ l, s.r.length ≤ 1073741824) :
    Calls Try.prog 8 #[v] w fun e w' => e = .returned (.int .i64 (if nfaB l = true then 0 else 101)) ∧ Below w.heap.size w w' := by
  have hR0 := hR
  obtain ⟨ao, cap, rfl, hc, hcm, hok, hlie⟩ := hR
  have hlI : (l.length : Int) ≤ 9223372036854775807 := by unfold maxLen at hcm; omega
  obtain ⟨P, hP⟩ : ∃ P : Ending → World → Prop, P = fun e w' => e = .returned (.int .i64 (if nfaB l = true then 0 else 101)) ∧ Below w.heap.size w w' := ⟨_, rfl⟩
  rw [← hP]
  have HP := hid_intro hP
  clear hP
  have HL : Hid (∀ w' i, Below w.heap.size w w' → i < l.length → ∃ b off v2 c2, ao = some ⟨b, off, none⟩ ∧ w'.cell? ⟨b, off + i * 4, none⟩ = some (.int .i64 (sa l i).k) ∧ w'.cell? ⟨b, off + i * 4 + 1, none⟩ = some (.slice v2 (sa l i).r.length c2) ∧ w'.cell? ⟨b, off + i * 4 + 2, none⟩ = some (.int .i64 (sa l i).a) ∧ w'.cell? ⟨b, off + i * 4 + 3, none⟩ = some (.int .i64 (sa l i).b) ∧ RI w' X (sa l i).r (.slice v2 (sa l i).r.length c2)) := hid_intro (fun w' i hb hi => by
    obtain ⟨ao', cap', e, _, _, _, hlie'⟩ := hR0.kept hb
    injection e with e1 _ e3
    rcases hlie' with h | ⟨b, off, G, h1, h2, h3⟩
    · rw [h] at hi; simp at hi
    · obtain ⟨⟨q0, q1, q2, q3⟩, hRi⟩ := h3 i hi
      obtain ⟨v2, c2, e2, _⟩ := hRi.shape
      rw [e2] at q1 hRi
      exact ⟨b, off, v2, c2, e1.trans h1, q0, q1, q2, q3, hRi⟩)
  have HM := hid_intro hl
  clear hlie hR0 hok hl
  go_enter Try.func8, Try.ntmps8
  go_wp2_with fail
  go_loopg [3] l.length (fun m s3 wr => ∃ j : Nat, j ≤ l.length ∧ m = l.length - j ∧ s3 = .int .i64 (j : Int) ∧ Hid (∀ i, i < j → stB (l.length : Int) (sa l i) = true) ∧ Hid (Below w.heap.size w wr))
  case atStart => exact ⟨0, Nat.zero_le _, rfl, rfl, fun i h => absurd h (by omega), Below.refl _ _⟩
  case round =>
    obtain ⟨j, hj, rfl, rfl, HA, HZ⟩ := hrel
    by_cases hlt : j < l.length
    · have hJ : (j : Int) < (l.length : Int) := by omega
      obtain ⟨b, off, v2, c2, rfl, q0, q1, q2, q3, hRi⟩ := HL.out wr j HZ.out hlt
      have hmg : ∀ w', Below wr.heap.size wr w' → Calls Try.prog 17 #[.slice v2 (sa l j).r.length c2] w' fun e w2 => ∃ v', e = .returned v' ∧ RI w2 (fun _ => False) (mergeL (sa l j).r) v' ∧ Below w'.heap.size w' w2 := fun w' hb => refMerge_any _ _ w' X (hRi.kept hb) (HM.out _ (sa_mem hlt))
      have hrg : ∀ w' v', Below wr.heap.size wr w' → RI w' (fun _ => False) (mergeL (sa l j).r) v' → Calls Try.prog 16 #[v', .slice v2 (sa l j).r.length c2] w' fun e w2 => e = .returned (.bool (rgB (sa l j).r)) ∧ Below w'.heap.size w' w2 := fun w' v' hb hr => by
        have := ranges_any _ _ _ _ w' _ _ hr (hRi.kept hb)
        rw [← rg_set] at this
        exact this
      have hno : ¬ refQ (l.length : Int) (sa l j).k (sa l j).r.length (sa l j).a (sa l j).b → nfaB l = false := fun h => by
        unfold nfaB
        rw [decide_eq_true (by omega : l.length ≠ 0), Bool.true_and, List.all_eq_false]
        exact ⟨sa l j, sa_mem hlt, by rw [st_no (by omega) h]; decide⟩
      have hyes : refQ (l.length : Int) (sa l j).k (sa l j).r.length (sa l j).a (sa l j).b → (rgB (sa l j).r = false → nfaB l = false) ∧ (rgB (sa l j).r = true → Hid (∀ i, i < j + 1 → stB (l.length : Int) (sa l i) = true)) := fun h => ⟨fun hg => by
        unfold nfaB
        rw [decide_eq_true (by omega : l.length ≠ 0), Bool.true_and, List.all_eq_false]
        exact ⟨sa l j, sa_mem hlt, by rw [st_yes h, hg]; decide⟩, fun hg => hid_intro (fun i hi => by
          by_cases e : i = j
          · rw [e, st_yes h, hg]
          · exact HA.out i (by omega))⟩
      have HMG := hid_intro hmg
      have HRG := hid_intro hrg
      clear hmg hrg hRi HL HM HA
      generalize mergeL (sa l j).r = mr at *
      generalize rgB (sa l j).r = gb at *
      generalize (sa l j).k = K at *
      generalize (sa l j).r.length = R at *
      generalize (sa l j).a = A at *
      generalize (sa l j).b = B at *
      have hln : ¬ l = [] := fun e => by rw [e] at hlt; simp at hlt
      have HN := hid_intro hno
      have HY := hid_intro hyes
      clear hno hyes
      by_cases t1 : K < 1
      · have HF := hid_intro (HN.out (by unfold refQ; omega))
        clear HN HY HMG HRG
        go_wp2_with fail
        rw [HP.out, HF.out]
        exact ⟨rfl, vb_a HZ.out _⟩
      · by_cases t2 : K > 7
        · have HF := hid_intro (HN.out (by unfold refQ; omega))
          clear HN HY HMG HRG
          go_wp2_with fail
          rw [HP.out, HF.out]
          exact ⟨rfl, vb_a HZ.out _⟩
        · by_cases t3 : A < 0
          · have HF := hid_intro (HN.out (by unfold refQ; omega))
            clear HN HY HMG HRG
            go_wp2_with fail
            rw [HP.out, HF.out]
            exact ⟨rfl, vb_a HZ.out _⟩
          · by_cases t4 : A ≥ (l.length : Int)
            · have HF := hid_intro (HN.out (by unfold refQ; omega))
              clear HN HY HMG HRG
              go_wp2_with fail
              rw [HP.out, HF.out]
              exact ⟨rfl, vb_a HZ.out _⟩
            · by_cases t5 : B < 0
              · have HF := hid_intro (HN.out (by unfold refQ; omega))
                clear HN HY HMG HRG
                go_wp2_with fail
                rw [HP.out, HF.out]
                exact ⟨rfl, vb_a HZ.out _⟩
              · by_cases t6 : B ≥ (l.length : Int)
                · have HF := hid_intro (HN.out (by unfold refQ; omega))
                  clear HN HY HMG HRG
                  go_wp2_with fail
                  rw [HP.out, HF.out]
                  exact ⟨rfl, vb_a HZ.out _⟩
                · by_cases k7 : K = 7
                  · subst k7
                    by_cases hA : A = 0
                    · subst hA
                      by_cases hB : B = 0
                      · subst hB
                        by_cases hm : R = 0
                        · have hmI : ¬ (0 : Int) < (R : Int) := by omega
                          have hmN : ¬ 0 < R := by omega
                          have hy := HY.out (by unfold refQ; omega)
                          obtain ⟨V, hV⟩ : ∃ V, wr.alloc (.cells #[.int .i64 7, .slice v2 R c2, .int .i64 0, .int .i64 0] 40) = V := ⟨_, rfl⟩
                          have hVb : Below wr.heap.size wr V := hV ▸ vb_a (Below.refl _ _) _
                          have kV : Bk V wr.heap.size #[.int .i64 7, .slice v2 R c2, .int .i64 0, .int .i64 0] := hV ▸ Bk.new _ _ _
                          have HS : Hid (∀ w', Below V.heap.size V w' → w'.cell? ⟨wr.heap.size, 1, none⟩ = some (.slice v2 R c2)) := hid_intro (fun w' hb => (kV.bel hb).cell 1)
                          have HMG2 := hid_intro (fun w' (hb : Below V.heap.size V w') => HMG.out w' (vb_t hVb hb))
                          have HRG2 := hid_intro (fun w' v' (hb : Below V.heap.size V w') => HRG.out w' v' (vb_t hVb hb))
                          have HV := hid_intro hV
                          have HVb := hid_intro hVb
                          have HYY := hid_intro hy
                          clear HN HY HMG HRG hV hVb kV hy
                          clear hm
                          go_wp2_with fail
                          rw [HV.out]
                          go_region_held3 (fun w' => w'.cell? ⟨wr.heap.size, 1, none⟩ = some (.slice v2 R c2)) (first | (refine HS.out _ ?_; with_reducible repeat (first | exact Below.refl _ _ | refine vb_d ?_ | refine vb_t ?_ hb5 | refine vb_t ?_ hb4)) | fail) (first | (go_at_call 17; refine (HMG2.out _ ?_).mono ?_; (with_reducible repeat (first | exact Below.refl _ _ | refine vb_d ?_)); rintro e w4 ⟨v4, rfl, hR4, hb4⟩) | (go_at_call 16; refine (HRG2.out _ _ ?_ hR4).mono ?_; (with_reducible repeat (first | exact Below.refl _ _ | refine vb_d ?_ | refine vb_t ?_ hb4)); rintro e w5 ⟨rfl, hb5⟩) | fail)
                          all_goals
                            have HNX : Hid (Below w.heap.size w w5) := hid_intro (vb_t HZ.out (vb_t HVb.out (vb_t (by with_reducible repeat (first | exact Below.refl _ _ | refine vb_d ?_ | refine vb_t ?_ hb4)) hb5)))
                            clear hb4 hb5 hR4 HMG2 HRG2 HS HV HVb
                            cases gb
                            · have HF := hid_intro (HYY.out.1 rfl)
                              clear HYY
                              go_wp2_with fail
                              rw [HP.out, HF.out]
                              exact ⟨rfl, HNX.out⟩
                            · have HA2 := HYY.out.2 rfl
                              clear HYY
                              go_wp2_with fail
                              go_roundg (l.length - (j + 1))
                              case measure => omega
                              case rel => exact ⟨j + 1, by omega, rfl, by simp, HA2, HNX⟩
                        · have hmI : (0 : Int) < (R : Int) := by omega
                          have hmN : 0 < R := by omega
                          have HF := hid_intro (HN.out (by unfold refQ; omega))
                          clear HN HY HMG HRG
                          clear hm
                          go_wp2_with fail
                          rw [HP.out, HF.out]
                          exact ⟨rfl, vb_a HZ.out _⟩
                      · have HF := hid_intro (HN.out (by unfold refQ; omega))
                        clear HN HY HMG HRG
                        go_wp2_with fail
                        rw [HP.out, HF.out]
                        exact ⟨rfl, vb_a HZ.out _⟩
                    · have HF := hid_intro (HN.out (by unfold refQ; omega))
                      clear HN HY HMG HRG
                      go_wp2_with fail
                      rw [HP.out, HF.out]
                      exact ⟨rfl, vb_a HZ.out _⟩
                  · by_cases k2 : K = 2
                    · subst k2
                      by_cases hm : R = 0
                      · have hmI : ¬ (0 : Int) < (R : Int) := by omega
                        have hmN : ¬ 0 < R := by omega
                        have hy := HY.out (by unfold refQ; omega)
                        obtain ⟨V, hV⟩ : ∃ V, wr.alloc (.cells #[.int .i64 2, .slice v2 R c2, .int .i64 A, .int .i64 B] 40) = V := ⟨_, rfl⟩
                        have hVb : Below wr.heap.size wr V := hV ▸ vb_a (Below.refl _ _) _
                        have kV : Bk V wr.heap.size #[.int .i64 2, .slice v2 R c2, .int .i64 A, .int .i64 B] := hV ▸ Bk.new _ _ _
                        have HS : Hid (∀ w', Below V.heap.size V w' → w'.cell? ⟨wr.heap.size, 1, none⟩ = some (.slice v2 R c2)) := hid_intro (fun w' hb => (kV.bel hb).cell 1)
                        have HMG2 := hid_intro (fun w' (hb : Below V.heap.size V w') => HMG.out w' (vb_t hVb hb))
                        have HRG2 := hid_intro (fun w' v' (hb : Below V.heap.size V w') => HRG.out w' v' (vb_t hVb hb))
                        have HV := hid_intro hV
                        have HVb := hid_intro hVb
                        have HYY := hid_intro hy
                        clear HN HY HMG HRG hV hVb kV hy
                        clear hm
                        go_wp2_with fail
                        rw [HV.out]
                        go_region_held3 (fun w' => w'.cell? ⟨wr.heap.size, 1, none⟩ = some (.slice v2 R c2)) (first | (refine HS.out _ ?_; with_reducible repeat (first | exact Below.refl _ _ | refine vb_d ?_ | refine vb_t ?_ hb5 | refine vb_t ?_ hb4)) | fail) (first | (go_at_call 17; refine (HMG2.out _ ?_).mono ?_; (with_reducible repeat (first | exact Below.refl _ _ | refine vb_d ?_)); rintro e w4 ⟨v4, rfl, hR4, hb4⟩) | (go_at_call 16; refine (HRG2.out _ _ ?_ hR4).mono ?_; (with_reducible repeat (first | exact Below.refl _ _ | refine vb_d ?_ | refine vb_t ?_ hb4)); rintro e w5 ⟨rfl, hb5⟩) | fail)
                        all_goals
                          have HNX : Hid (Below w.heap.size w w5) := hid_intro (vb_t HZ.out (vb_t HVb.out (vb_t (by with_reducible repeat (first | exact Below.refl _ _ | refine vb_d ?_ | refine vb_t ?_ hb4)) hb5)))
                          clear hb4 hb5 hR4 HMG2 HRG2 HS HV HVb
                          cases gb
                          · have HF := hid_intro (HYY.out.1 rfl)
                            clear HYY
                            go_wp2_with fail
                            rw [HP.out, HF.out]
                            exact ⟨rfl, HNX.out⟩
                          · have HA2 := HYY.out.2 rfl
                            clear HYY
                            go_wp2_with fail
                            go_roundg (l.length - (j + 1))
                            case measure => omega
                            case rel => exact ⟨j + 1, by omega, rfl, by simp, HA2, HNX⟩
                      · have hmI : (0 : Int) < (R : Int) := by omega
                        have hmN : 0 < R := by omega
                        have HF := hid_intro (HN.out (by unfold refQ; omega))
                        clear HN HY HMG HRG
                        clear hm
                        go_wp2_with fail
                        rw [HP.out, HF.out]
                        exact ⟨rfl, vb_a HZ.out _⟩
                    · by_cases k1 : K = 1
                      · subst k1
                        by_cases hB : B = 0
                        · subst hB
                          have hy := HY.out (by unfold refQ; omega)
                          obtain ⟨V, hV⟩ : ∃ V, wr.alloc (.cells #[.int .i64 1, .slice v2 R c2, .int .i64 A, .int .i64 0] 40) = V := ⟨_, rfl⟩
                          have hVb : Below wr.heap.size wr V := hV ▸ vb_a (Below.refl _ _) _
                          have kV : Bk V wr.heap.size #[.int .i64 1, .slice v2 R c2, .int .i64 A, .int .i64 0] := hV ▸ Bk.new _ _ _
                          have HS : Hid (∀ w', Below V.heap.size V w' → w'.cell? ⟨wr.heap.size, 1, none⟩ = some (.slice v2 R c2)) := hid_intro (fun w' hb => (kV.bel hb).cell 1)
                          have HMG2 := hid_intro (fun w' (hb : Below V.heap.size V w') => HMG.out w' (vb_t hVb hb))
                          have HRG2 := hid_intro (fun w' v' (hb : Below V.heap.size V w') => HRG.out w' v' (vb_t hVb hb))
                          have HV := hid_intro hV
                          have HVb := hid_intro hVb
                          have HYY := hid_intro hy
                          clear HN HY HMG HRG hV hVb kV hy
                          go_wp2_with fail
                          rw [HV.out]
                          go_region_held3 (fun w' => w'.cell? ⟨wr.heap.size, 1, none⟩ = some (.slice v2 R c2)) (first | (refine HS.out _ ?_; with_reducible repeat (first | exact Below.refl _ _ | refine vb_d ?_ | refine vb_t ?_ hb5 | refine vb_t ?_ hb4)) | fail) (first | (go_at_call 17; refine (HMG2.out _ ?_).mono ?_; (with_reducible repeat (first | exact Below.refl _ _ | refine vb_d ?_)); rintro e w4 ⟨v4, rfl, hR4, hb4⟩) | (go_at_call 16; refine (HRG2.out _ _ ?_ hR4).mono ?_; (with_reducible repeat (first | exact Below.refl _ _ | refine vb_d ?_ | refine vb_t ?_ hb4)); rintro e w5 ⟨rfl, hb5⟩) | fail)
                          all_goals
                            have HNX : Hid (Below w.heap.size w w5) := hid_intro (vb_t HZ.out (vb_t HVb.out (vb_t (by with_reducible repeat (first | exact Below.refl _ _ | refine vb_d ?_ | refine vb_t ?_ hb4)) hb5)))
                            clear hb4 hb5 hR4 HMG2 HRG2 HS HV HVb
                            cases gb
                            · have HF := hid_intro (HYY.out.1 rfl)
                              clear HYY
                              go_wp2_with fail
                              rw [HP.out, HF.out]
                              exact ⟨rfl, HNX.out⟩
                            · have HA2 := HYY.out.2 rfl
                              clear HYY
                              go_wp2_with fail
                              go_roundg (l.length - (j + 1))
                              case measure => omega
                              case rel => exact ⟨j + 1, by omega, rfl, by simp, HA2, HNX⟩
                        · have HF := hid_intro (HN.out (by unfold refQ; omega))
                          clear HN HY HMG HRG
                          go_wp2_with fail
                          rw [HP.out, HF.out]
                          exact ⟨rfl, vb_a HZ.out _⟩
                      · have kb7 : (K == 7) = false := by rw [beq_eq_false_iff_ne]; exact k7
                        have kb2 : (K != 2) = true := by rw [bne_iff_ne]; exact k2
                        have kb1 : (K != 1) = true := by rw [bne_iff_ne]; exact k1
                        by_cases hB : B = 0
                        · subst hB
                          by_cases hm : R = 0
                          · have hmI : ¬ (0 : Int) < (R : Int) := by omega
                            have hmN : ¬ 0 < R := by omega
                            have hy := HY.out (by unfold refQ; omega)
                            obtain ⟨V, hV⟩ : ∃ V, wr.alloc (.cells #[.int .i64 K, .slice v2 R c2, .int .i64 A, .int .i64 0] 40) = V := ⟨_, rfl⟩
                            have hVb : Below wr.heap.size wr V := hV ▸ vb_a (Below.refl _ _) _
                            have kV : Bk V wr.heap.size #[.int .i64 K, .slice v2 R c2, .int .i64 A, .int .i64 0] := hV ▸ Bk.new _ _ _
                            have HS : Hid (∀ w', Below V.heap.size V w' → w'.cell? ⟨wr.heap.size, 1, none⟩ = some (.slice v2 R c2)) := hid_intro (fun w' hb => (kV.bel hb).cell 1)
                            have HMG2 := hid_intro (fun w' (hb : Below V.heap.size V w') => HMG.out w' (vb_t hVb hb))
                            have HRG2 := hid_intro (fun w' v' (hb : Below V.heap.size V w') => HRG.out w' v' (vb_t hVb hb))
                            have HV := hid_intro hV
                            have HVb := hid_intro hVb
                            have HYY := hid_intro hy
                            clear HN HY HMG HRG hV hVb kV hy
                            clear hm
                            go_wp2_with fail
                            rw [HV.out]
                            go_region_held3 (fun w' => w'.cell? ⟨wr.heap.size, 1, none⟩ = some (.slice v2 R c2)) (first | (refine HS.out _ ?_; with_reducible repeat (first | exact Below.refl _ _ | refine vb_d ?_ | refine vb_t ?_ hb5 | refine vb_t ?_ hb4)) | fail) (first | (go_at_call 17; refine (HMG2.out _ ?_).mono ?_; (with_reducible repeat (first | exact Below.refl _ _ | refine vb_d ?_)); rintro e w4 ⟨v4, rfl, hR4, hb4⟩) | (go_at_call 16; refine (HRG2.out _ _ ?_ hR4).mono ?_; (with_reducible repeat (first | exact Below.refl _ _ | refine vb_d ?_ | refine vb_t ?_ hb4)); rintro e w5 ⟨rfl, hb5⟩) | fail)
                            all_goals
                              have HNX : Hid (Below w.heap.size w w5) := hid_intro (vb_t HZ.out (vb_t HVb.out (vb_t (by with_reducible repeat (first | exact Below.refl _ _ | refine vb_d ?_ | refine vb_t ?_ hb4)) hb5)))
                              clear hb4 hb5 hR4 HMG2 HRG2 HS HV HVb
                              cases gb
                              · have HF := hid_intro (HYY.out.1 rfl)
                                clear HYY
                                go_wp2_with fail
                                rw [HP.out, HF.out]
                                exact ⟨rfl, HNX.out⟩
                              · have HA2 := HYY.out.2 rfl
                                clear HYY
                                go_wp2_with fail
                                go_roundg (l.length - (j + 1))
                                case measure => omega
                                case rel => exact ⟨j + 1, by omega, rfl, by simp, HA2, HNX⟩
                          · have hmI : (0 : Int) < (R : Int) := by omega
                            have hmN : 0 < R := by omega
                            have HF := hid_intro (HN.out (by unfold refQ; omega))
                            clear HN HY HMG HRG
                            clear hm
                            go_wp2_with fail
                            rw [HP.out, HF.out]
                            exact ⟨rfl, vb_a HZ.out _⟩
                        · have HF := hid_intro (HN.out (by unfold refQ; omega))
                          clear HN HY HMG HRG
                          go_wp2_with fail
                          rw [HP.out, HF.out]
                          exact ⟨rfl, vb_a HZ.out _⟩
    · have hJ : ¬ (j : Int) < (l.length : Int) := by omega
      by_cases h0 : l.length = 0
      · have hI : ((l.length : Int) == 0) = true := by rw [beq_iff_eq]; omega
        have HF : Hid (nfaB l = false) := hid_intro (by unfold nfaB; rw [decide_eq_false (by simpa using h0)]; rfl)
        clear HL HM HA h0
        go_wp2_with fail
        rw [HP.out, HF.out]
        exact ⟨rfl, HZ.out⟩
      · have hI : ((l.length : Int) == 0) = false := by rw [beq_eq_false_iff_ne]; omega
        have HF : Hid (nfaB l = true) := hid_intro (by
          unfold nfaB
          rw [decide_eq_true h0, Bool.true_and, List.all_eq_true]
          intro x hx
          obtain ⟨i, hi, rfl⟩ := List.getElem_of_mem hx
          rw [← sa_get hi]
          exact HA.out i (by omega))
        clear HL HM HA h0
        go_wp2_with fail
        rw [HP.out, HF.out]
        exact ⟨rfl, HZ.out⟩
end Go.Proofs.Ytcgohdfpmfpfiaa
