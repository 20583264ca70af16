/-
  Which rows of states may be, by the document's answer. Conditions: no row of ranges is longer than 2^30.
  What a search says of the states of a tree. Conditions: nothing in the tree is longer than 2^20.
  What ref.length, ref.second, ref.step and ref.Good answer: the same step, and the same good beginning. No condition.
-/
import Derived.Test.YtoinlmfodmgohaaGreatDoorJoined24
import Derived.Test.YtoinlmfodmgohaaGreatDoorJoined41
import Derived.Test.YtoinlmfodmgohaaGreatDoorJoined40
import Derived.Test.YtoinlmfodmgohaaGreatDoorJoined39
import Derived.Test.YtoinlmfodmgohaaGreatDoorJoined3
namespace Go.Proofs.YtoinlmfodmgohaaGreatDoor
open Go.RowKit
attribute [local go_sem] setCell_drewN alloc_drewN

/-- The document's question of one state. -/
def refQ (n : Int) (k : Int) (m : Nat) (a b : Int) : Prop := 1 ≤ k ∧ k ≤ 7 ∧ 0 ≤ a ∧ a < n ∧ 0 ≤ b ∧ b < n ∧ (k = 7 → a = 0) ∧ (k ≠ 2 → b = 0) ∧ (k ≠ 1 → m = 0)
theorem rg_none {r : List (Int × Int)} (h : r.length = 0) : rgB r = true := by
  obtain rfl : r = [] := List.eq_nil_of_length_eq_zero h
  decide
theorem st_yes {n : Int} {s : ST} (h : refQ n s.k s.r.length s.a s.b) : stB n s = rgB s.r := by
  obtain ⟨k, r, a, b⟩ := s
  obtain ⟨h1, h2, h3, h4, h5, h6, h7, h8, h9⟩ := h
  dsimp only at *
  have ea : inB a n = true := by unfold inB; rw [decide_eq_true h3, decide_eq_true h4]; rfl
  have eb : inB b n = true := by unfold inB; rw [decide_eq_true h5, decide_eq_true h6]; rfl
  unfold stB
  dsimp only
  rw [ea, eb]
  by_cases c1 : k = 1
  · rw [if_pos c1, decide_eq_true (h8 (by omega))]; rfl
  · have hm := h9 c1
    rw [if_neg c1, rg_none hm, decide_eq_true hm]
    by_cases c2 : k = 2
    · rw [if_pos c2]; rfl
    · have hb := h8 c2
      rw [if_neg c2, decide_eq_true hb]
      by_cases c3 : k = 3 ∨ k = 4 ∨ k = 5 ∨ k = 6
      · rw [if_pos c3]; rfl
      · have c7 : k = 7 := by omega
        rw [if_neg c3, if_pos c7, decide_eq_true (h7 c7)]; rfl
theorem st_no {n : Int} (hn : 0 < n) {s : ST} (h : ¬ refQ n s.k s.r.length s.a s.b) : stB n s = false := by
  cases hb : stB n s with
  | false => rfl
  | true =>
    exfalso
    apply h
    obtain ⟨k, r, a, b⟩ := s
    unfold stB inB at hb
    unfold refQ
    dsimp only at *
    by_cases c1 : k = 1
    · rw [if_pos c1] at hb
      simp only [Bool.and_eq_true, decide_eq_true_eq] at hb
      omega
    · rw [if_neg c1] at hb
      by_cases c2 : k = 2
      · rw [if_pos c2] at hb
        simp only [Bool.and_eq_true, decide_eq_true_eq] at hb
        omega
      · rw [if_neg c2] at hb
        by_cases c3 : k = 3 ∨ k = 4 ∨ k = 5 ∨ k = 6
        · rw [if_pos c3] at hb
          simp only [Bool.and_eq_true, decide_eq_true_eq] at hb
          omega
        · rw [if_neg c3] at hb
          by_cases c7 : k = 7
          · rw [if_pos c7] at hb
            simp only [Bool.and_eq_true, decide_eq_true_eq] at hb
            omega
          · rw [if_neg c7] at hb
            cases hb
set_option maxRecDepth 100000 in
set_option maxHeartbeats 6400000 in
theorem refNfa_any (l : List ST) (v : Value) (w : World) (X : Nat → Prop) (hR : SI w X l v) (hl : ∀ s ∈ l, s.r.length ≤ 1073741824) :
    Calls Tryz.prog 64 #[v] w fun e w' => e = .returned (.int .i64 (if nfaB l = true then 0 else 101)) ∧ Below w.heap.size w w' := by
  have hR0 := hR
  obtain ⟨ao, cap, rfl, hc, hcm, hok, hlie⟩ := hR
  have hlI : (l.length : Int) ≤ 9223372036854775807 := by unfold maxLen at hcm; omega
  obtain ⟨P, hP⟩ : ∃ P : Ending → World → Prop, P = fun e w' => e = .returned (.int .i64 (if nfaB l = true then 0 else 101)) ∧ Below w.heap.size w w' := ⟨_, rfl⟩
  rw [← hP]
  have HP := hid_intro hP
  clear hP
  have HL : Hid (∀ w' i, Below w.heap.size w w' → i < l.length → ∃ b off v2 c2, ao = some ⟨b, off, none⟩ ∧ w'.cell? ⟨b, off + i * 4, none⟩ = some (.int .i64 (sa l i).k) ∧ w'.cell? ⟨b, off + i * 4 + 1, none⟩ = some (.slice v2 (sa l i).r.length c2) ∧ w'.cell? ⟨b, off + i * 4 + 2, none⟩ = some (.int .i64 (sa l i).a) ∧ w'.cell? ⟨b, off + i * 4 + 3, none⟩ = some (.int .i64 (sa l i).b) ∧ RI w' X (sa l i).r (.slice v2 (sa l i).r.length c2)) := hid_intro (fun w' i hb hi => by
    obtain ⟨ao', cap', e, _, _, _, hlie'⟩ := hR0.kept hb
    injection e with e1 _ e3
    rcases hlie' with h | ⟨b, off, G, h1, h2, h3⟩
    · rw [h] at hi; simp at hi
    · obtain ⟨⟨q0, q1, q2, q3⟩, hRi⟩ := h3 i hi
      obtain ⟨v2, c2, e2, _⟩ := hRi.shape
      rw [e2] at q1 hRi
      exact ⟨b, off, v2, c2, e1.trans h1, q0, q1, q2, q3, hRi⟩)
  have HM := hid_intro hl
  clear hlie hR0 hok hl
  go_enter Tryz.func64, Tryz.ntmps64
  go_wp2_with fail
  go_loopg [3] l.length (fun m s3 wr => ∃ j : Nat, j ≤ l.length ∧ m = l.length - j ∧ s3 = .int .i64 (j : Int) ∧ Hid (∀ i, i < j → stB (l.length : Int) (sa l i) = true) ∧ Hid (Below w.heap.size w wr))
  case atStart => exact ⟨0, Nat.zero_le _, rfl, rfl, fun i h => absurd h (by omega), Below.refl _ _⟩
  case round =>
    obtain ⟨j, hj, rfl, rfl, HA, HZ⟩ := hrel
    by_cases hlt : j < l.length
    · have hJ : (j : Int) < (l.length : Int) := by omega
      obtain ⟨b, off, v2, c2, rfl, q0, q1, q2, q3, hRi⟩ := HL.out wr j HZ.out hlt
      have hmg : ∀ w', Below wr.heap.size wr w' → Calls Tryz.prog 97 #[.slice v2 (sa l j).r.length c2] w' fun e w2 => ∃ v', e = .returned v' ∧ RI w2 (fun _ => False) (mergeL (sa l j).r) v' ∧ Below w'.heap.size w' w2 := fun w' hb => refMerge_any _ _ w' X (hRi.kept hb) (HM.out _ (sa_mem hlt))
      have hrg : ∀ w' v', Below wr.heap.size wr w' → RI w' (fun _ => False) (mergeL (sa l j).r) v' → Calls Tryz.prog 96 #[v', .slice v2 (sa l j).r.length c2] w' fun e w2 => e = .returned (.bool (rgB (sa l j).r)) ∧ Below w'.heap.size w' w2 := fun w' v' hb hr => by
        have := ranges_any _ _ _ _ w' _ _ hr (hRi.kept hb)
        rw [← rg_set] at this
        exact this
      have hno : ¬ refQ (l.length : Int) (sa l j).k (sa l j).r.length (sa l j).a (sa l j).b → nfaB l = false := fun h => by
        unfold nfaB
        rw [decide_eq_true (by omega : l.length ≠ 0), Bool.true_and, List.all_eq_false]
        exact ⟨sa l j, sa_mem hlt, by rw [st_no (by omega) h]; decide⟩
      have hyes : refQ (l.length : Int) (sa l j).k (sa l j).r.length (sa l j).a (sa l j).b → (rgB (sa l j).r = false → nfaB l = false) ∧ (rgB (sa l j).r = true → Hid (∀ i, i < j + 1 → stB (l.length : Int) (sa l i) = true)) := fun h => ⟨fun hg => by
        unfold nfaB
        rw [decide_eq_true (by omega : l.length ≠ 0), Bool.true_and, List.all_eq_false]
        exact ⟨sa l j, sa_mem hlt, by rw [st_yes h, hg]; decide⟩, fun hg => hid_intro (fun i hi => by
          by_cases e : i = j
          · rw [e, st_yes h, hg]
          · exact HA.out i (by omega))⟩
      have HMG := hid_intro hmg
      have HRG := hid_intro hrg
      clear hmg hrg hRi HL HM HA
      generalize mergeL (sa l j).r = mr at *
      generalize rgB (sa l j).r = gb at *
      generalize (sa l j).k = K at *
      generalize (sa l j).r.length = R at *
      generalize (sa l j).a = A at *
      generalize (sa l j).b = B at *
      have hln : ¬ l = [] := fun e => by rw [e] at hlt; simp at hlt
      have HN := hid_intro hno
      have HY := hid_intro hyes
      clear hno hyes
      by_cases t1 : K < 1
      · have HF := hid_intro (HN.out (by unfold refQ; omega))
        clear HN HY HMG HRG
        go_wp2_with fail
        rw [HP.out, HF.out]
        exact ⟨rfl, vb_a HZ.out _⟩
      · by_cases t2 : K > 7
        · have HF := hid_intro (HN.out (by unfold refQ; omega))
          clear HN HY HMG HRG
          go_wp2_with fail
          rw [HP.out, HF.out]
          exact ⟨rfl, vb_a HZ.out _⟩
        · by_cases t3 : A < 0
          · have HF := hid_intro (HN.out (by unfold refQ; omega))
            clear HN HY HMG HRG
            go_wp2_with fail
            rw [HP.out, HF.out]
            exact ⟨rfl, vb_a HZ.out _⟩
          · by_cases t4 : A ≥ (l.length : Int)
            · have HF := hid_intro (HN.out (by unfold refQ; omega))
              clear HN HY HMG HRG
              go_wp2_with fail
              rw [HP.out, HF.out]
              exact ⟨rfl, vb_a HZ.out _⟩
            · by_cases t5 : B < 0
              · have HF := hid_intro (HN.out (by unfold refQ; omega))
                clear HN HY HMG HRG
                go_wp2_with fail
                rw [HP.out, HF.out]
                exact ⟨rfl, vb_a HZ.out _⟩
              · by_cases t6 : B ≥ (l.length : Int)
                · have HF := hid_intro (HN.out (by unfold refQ; omega))
                  clear HN HY HMG HRG
                  go_wp2_with fail
                  rw [HP.out, HF.out]
                  exact ⟨rfl, vb_a HZ.out _⟩
                · by_cases k7 : K = 7
                  · subst k7
                    by_cases hA : A = 0
                    · subst hA
                      by_cases hB : B = 0
                      · subst hB
                        by_cases hm : R = 0
                        · have hmI : ¬ (0 : Int) < (R : Int) := by omega
                          have hmN : ¬ 0 < R := by omega
                          have hy := HY.out (by unfold refQ; omega)
                          obtain ⟨V, hV⟩ : ∃ V, wr.alloc (.cells #[.int .i64 7, .slice v2 R c2, .int .i64 0, .int .i64 0] 94) = V := ⟨_, rfl⟩
                          have hVb : Below wr.heap.size wr V := hV ▸ vb_a (Below.refl _ _) _
                          have kV : Bk V wr.heap.size #[.int .i64 7, .slice v2 R c2, .int .i64 0, .int .i64 0] := hV ▸ Bk.new _ _ _
                          have HS : Hid (∀ w', Below V.heap.size V w' → w'.cell? ⟨wr.heap.size, 1, none⟩ = some (.slice v2 R c2)) := hid_intro (fun w' hb => (kV.bel hb).cell 1)
                          have HMG2 := hid_intro (fun w' (hb : Below V.heap.size V w') => HMG.out w' (vb_t hVb hb))
                          have HRG2 := hid_intro (fun w' v' (hb : Below V.heap.size V w') => HRG.out w' v' (vb_t hVb hb))
                          have HV := hid_intro hV
                          have HVb := hid_intro hVb
                          have HYY := hid_intro hy
                          clear HN HY HMG HRG hV hVb kV hy
                          clear hm
                          go_wp2_with fail
                          rw [HV.out]
                          go_region_held3 (fun w' => w'.cell? ⟨wr.heap.size, 1, none⟩ = some (.slice v2 R c2)) (first | (refine HS.out _ ?_; with_reducible repeat (first | exact Below.refl _ _ | refine vb_d ?_ | refine vb_t ?_ hb5 | refine vb_t ?_ hb4)) | fail) (first | (go_at_call 97; refine (HMG2.out _ ?_).mono ?_; (with_reducible repeat (first | exact Below.refl _ _ | refine vb_d ?_)); rintro e w4 ⟨v4, rfl, hR4, hb4⟩) | (go_at_call 96; refine (HRG2.out _ _ ?_ hR4).mono ?_; (with_reducible repeat (first | exact Below.refl _ _ | refine vb_d ?_ | refine vb_t ?_ hb4)); rintro e w5 ⟨rfl, hb5⟩) | fail)
                          all_goals
                            have HNX : Hid (Below w.heap.size w w5) := hid_intro (vb_t HZ.out (vb_t HVb.out (vb_t (by with_reducible repeat (first | exact Below.refl _ _ | refine vb_d ?_ | refine vb_t ?_ hb4)) hb5)))
                            clear hb4 hb5 hR4 HMG2 HRG2 HS HV HVb
                            cases gb
                            · have HF := hid_intro (HYY.out.1 rfl)
                              clear HYY
                              go_wp2_with fail
                              rw [HP.out, HF.out]
                              exact ⟨rfl, HNX.out⟩
                            · have HA2 := HYY.out.2 rfl
                              clear HYY
                              go_wp2_with fail
                              go_roundg (l.length - (j + 1))
                              case measure => omega
                              case rel => exact ⟨j + 1, by omega, rfl, by simp, HA2, HNX⟩
                        · have hmI : (0 : Int) < (R : Int) := by omega
                          have hmN : 0 < R := by omega
                          have HF := hid_intro (HN.out (by unfold refQ; omega))
                          clear HN HY HMG HRG
                          clear hm
                          go_wp2_with fail
                          rw [HP.out, HF.out]
                          exact ⟨rfl, vb_a HZ.out _⟩
                      · have HF := hid_intro (HN.out (by unfold refQ; omega))
                        clear HN HY HMG HRG
                        go_wp2_with fail
                        rw [HP.out, HF.out]
                        exact ⟨rfl, vb_a HZ.out _⟩
                    · have HF := hid_intro (HN.out (by unfold refQ; omega))
                      clear HN HY HMG HRG
                      go_wp2_with fail
                      rw [HP.out, HF.out]
                      exact ⟨rfl, vb_a HZ.out _⟩
                  · by_cases k2 : K = 2
                    · subst k2
                      by_cases hm : R = 0
                      · have hmI : ¬ (0 : Int) < (R : Int) := by omega
                        have hmN : ¬ 0 < R := by omega
                        have hy := HY.out (by unfold refQ; omega)
                        obtain ⟨V, hV⟩ : ∃ V, wr.alloc (.cells #[.int .i64 2, .slice v2 R c2, .int .i64 A, .int .i64 B] 94) = V := ⟨_, rfl⟩
                        have hVb : Below wr.heap.size wr V := hV ▸ vb_a (Below.refl _ _) _
                        have kV : Bk V wr.heap.size #[.int .i64 2, .slice v2 R c2, .int .i64 A, .int .i64 B] := hV ▸ Bk.new _ _ _
                        have HS : Hid (∀ w', Below V.heap.size V w' → w'.cell? ⟨wr.heap.size, 1, none⟩ = some (.slice v2 R c2)) := hid_intro (fun w' hb => (kV.bel hb).cell 1)
                        have HMG2 := hid_intro (fun w' (hb : Below V.heap.size V w') => HMG.out w' (vb_t hVb hb))
                        have HRG2 := hid_intro (fun w' v' (hb : Below V.heap.size V w') => HRG.out w' v' (vb_t hVb hb))
                        have HV := hid_intro hV
                        have HVb := hid_intro hVb
                        have HYY := hid_intro hy
                        clear HN HY HMG HRG hV hVb kV hy
                        clear hm
                        go_wp2_with fail
                        rw [HV.out]
                        go_region_held3 (fun w' => w'.cell? ⟨wr.heap.size, 1, none⟩ = some (.slice v2 R c2)) (first | (refine HS.out _ ?_; with_reducible repeat (first | exact Below.refl _ _ | refine vb_d ?_ | refine vb_t ?_ hb5 | refine vb_t ?_ hb4)) | fail) (first | (go_at_call 97; refine (HMG2.out _ ?_).mono ?_; (with_reducible repeat (first | exact Below.refl _ _ | refine vb_d ?_)); rintro e w4 ⟨v4, rfl, hR4, hb4⟩) | (go_at_call 96; refine (HRG2.out _ _ ?_ hR4).mono ?_; (with_reducible repeat (first | exact Below.refl _ _ | refine vb_d ?_ | refine vb_t ?_ hb4)); rintro e w5 ⟨rfl, hb5⟩) | fail)
                        all_goals
                          have HNX : Hid (Below w.heap.size w w5) := hid_intro (vb_t HZ.out (vb_t HVb.out (vb_t (by with_reducible repeat (first | exact Below.refl _ _ | refine vb_d ?_ | refine vb_t ?_ hb4)) hb5)))
                          clear hb4 hb5 hR4 HMG2 HRG2 HS HV HVb
                          cases gb
                          · have HF := hid_intro (HYY.out.1 rfl)
                            clear HYY
                            go_wp2_with fail
                            rw [HP.out, HF.out]
                            exact ⟨rfl, HNX.out⟩
                          · have HA2 := HYY.out.2 rfl
                            clear HYY
                            go_wp2_with fail
                            go_roundg (l.length - (j + 1))
                            case measure => omega
                            case rel => exact ⟨j + 1, by omega, rfl, by simp, HA2, HNX⟩
                      · have hmI : (0 : Int) < (R : Int) := by omega
                        have hmN : 0 < R := by omega
                        have HF := hid_intro (HN.out (by unfold refQ; omega))
                        clear HN HY HMG HRG
                        clear hm
                        go_wp2_with fail
                        rw [HP.out, HF.out]
                        exact ⟨rfl, vb_a HZ.out _⟩
                    · by_cases k1 : K = 1
                      · subst k1
                        by_cases hB : B = 0
                        · subst hB
                          have hy := HY.out (by unfold refQ; omega)
                          obtain ⟨V, hV⟩ : ∃ V, wr.alloc (.cells #[.int .i64 1, .slice v2 R c2, .int .i64 A, .int .i64 0] 94) = V := ⟨_, rfl⟩
                          have hVb : Below wr.heap.size wr V := hV ▸ vb_a (Below.refl _ _) _
                          have kV : Bk V wr.heap.size #[.int .i64 1, .slice v2 R c2, .int .i64 A, .int .i64 0] := hV ▸ Bk.new _ _ _
                          have HS : Hid (∀ w', Below V.heap.size V w' → w'.cell? ⟨wr.heap.size, 1, none⟩ = some (.slice v2 R c2)) := hid_intro (fun w' hb => (kV.bel hb).cell 1)
                          have HMG2 := hid_intro (fun w' (hb : Below V.heap.size V w') => HMG.out w' (vb_t hVb hb))
                          have HRG2 := hid_intro (fun w' v' (hb : Below V.heap.size V w') => HRG.out w' v' (vb_t hVb hb))
                          have HV := hid_intro hV
                          have HVb := hid_intro hVb
                          have HYY := hid_intro hy
                          clear HN HY HMG HRG hV hVb kV hy
                          go_wp2_with fail
                          rw [HV.out]
                          go_region_held3 (fun w' => w'.cell? ⟨wr.heap.size, 1, none⟩ = some (.slice v2 R c2)) (first | (refine HS.out _ ?_; with_reducible repeat (first | exact Below.refl _ _ | refine vb_d ?_ | refine vb_t ?_ hb5 | refine vb_t ?_ hb4)) | fail) (first | (go_at_call 97; refine (HMG2.out _ ?_).mono ?_; (with_reducible repeat (first | exact Below.refl _ _ | refine vb_d ?_)); rintro e w4 ⟨v4, rfl, hR4, hb4⟩) | (go_at_call 96; refine (HRG2.out _ _ ?_ hR4).mono ?_; (with_reducible repeat (first | exact Below.refl _ _ | refine vb_d ?_ | refine vb_t ?_ hb4)); rintro e w5 ⟨rfl, hb5⟩) | fail)
                          all_goals
                            have HNX : Hid (Below w.heap.size w w5) := hid_intro (vb_t HZ.out (vb_t HVb.out (vb_t (by with_reducible repeat (first | exact Below.refl _ _ | refine vb_d ?_ | refine vb_t ?_ hb4)) hb5)))
                            clear hb4 hb5 hR4 HMG2 HRG2 HS HV HVb
                            cases gb
                            · have HF := hid_intro (HYY.out.1 rfl)
                              clear HYY
                              go_wp2_with fail
                              rw [HP.out, HF.out]
                              exact ⟨rfl, HNX.out⟩
                            · have HA2 := HYY.out.2 rfl
                              clear HYY
                              go_wp2_with fail
                              go_roundg (l.length - (j + 1))
                              case measure => omega
                              case rel => exact ⟨j + 1, by omega, rfl, by simp, HA2, HNX⟩
                        · have HF := hid_intro (HN.out (by unfold refQ; omega))
                          clear HN HY HMG HRG
                          go_wp2_with fail
                          rw [HP.out, HF.out]
                          exact ⟨rfl, vb_a HZ.out _⟩
                      · have kb7 : (K == 7) = false := by rw [beq_eq_false_iff_ne]; exact k7
                        have kb2 : (K != 2) = true := by rw [bne_iff_ne]; exact k2
                        have kb1 : (K != 1) = true := by rw [bne_iff_ne]; exact k1
                        by_cases hB : B = 0
                        · subst hB
                          by_cases hm : R = 0
                          · have hmI : ¬ (0 : Int) < (R : Int) := by omega
                            have hmN : ¬ 0 < R := by omega
                            have hy := HY.out (by unfold refQ; omega)
                            obtain ⟨V, hV⟩ : ∃ V, wr.alloc (.cells #[.int .i64 K, .slice v2 R c2, .int .i64 A, .int .i64 0] 94) = V := ⟨_, rfl⟩
                            have hVb : Below wr.heap.size wr V := hV ▸ vb_a (Below.refl _ _) _
                            have kV : Bk V wr.heap.size #[.int .i64 K, .slice v2 R c2, .int .i64 A, .int .i64 0] := hV ▸ Bk.new _ _ _
                            have HS : Hid (∀ w', Below V.heap.size V w' → w'.cell? ⟨wr.heap.size, 1, none⟩ = some (.slice v2 R c2)) := hid_intro (fun w' hb => (kV.bel hb).cell 1)
                            have HMG2 := hid_intro (fun w' (hb : Below V.heap.size V w') => HMG.out w' (vb_t hVb hb))
                            have HRG2 := hid_intro (fun w' v' (hb : Below V.heap.size V w') => HRG.out w' v' (vb_t hVb hb))
                            have HV := hid_intro hV
                            have HVb := hid_intro hVb
                            have HYY := hid_intro hy
                            clear HN HY HMG HRG hV hVb kV hy
                            clear hm
                            go_wp2_with fail
                            rw [HV.out]
                            go_region_held3 (fun w' => w'.cell? ⟨wr.heap.size, 1, none⟩ = some (.slice v2 R c2)) (first | (refine HS.out _ ?_; with_reducible repeat (first | exact Below.refl _ _ | refine vb_d ?_ | refine vb_t ?_ hb5 | refine vb_t ?_ hb4)) | fail) (first | (go_at_call 97; refine (HMG2.out _ ?_).mono ?_; (with_reducible repeat (first | exact Below.refl _ _ | refine vb_d ?_)); rintro e w4 ⟨v4, rfl, hR4, hb4⟩) | (go_at_call 96; refine (HRG2.out _ _ ?_ hR4).mono ?_; (with_reducible repeat (first | exact Below.refl _ _ | refine vb_d ?_ | refine vb_t ?_ hb4)); rintro e w5 ⟨rfl, hb5⟩) | fail)
                            all_goals
                              have HNX : Hid (Below w.heap.size w w5) := hid_intro (vb_t HZ.out (vb_t HVb.out (vb_t (by with_reducible repeat (first | exact Below.refl _ _ | refine vb_d ?_ | refine vb_t ?_ hb4)) hb5)))
                              clear hb4 hb5 hR4 HMG2 HRG2 HS HV HVb
                              cases gb
                              · have HF := hid_intro (HYY.out.1 rfl)
                                clear HYY
                                go_wp2_with fail
                                rw [HP.out, HF.out]
                                exact ⟨rfl, HNX.out⟩
                              · have HA2 := HYY.out.2 rfl
                                clear HYY
                                go_wp2_with fail
                                go_roundg (l.length - (j + 1))
                                case measure => omega
                                case rel => exact ⟨j + 1, by omega, rfl, by simp, HA2, HNX⟩
                          · have hmI : (0 : Int) < (R : Int) := by omega
                            have hmN : 0 < R := by omega
                            have HF := hid_intro (HN.out (by unfold refQ; omega))
                            clear HN HY HMG HRG
                            clear hm
                            go_wp2_with fail
                            rw [HP.out, HF.out]
                            exact ⟨rfl, vb_a HZ.out _⟩
                        · have HF := hid_intro (HN.out (by unfold refQ; omega))
                          clear HN HY HMG HRG
                          go_wp2_with fail
                          rw [HP.out, HF.out]
                          exact ⟨rfl, vb_a HZ.out _⟩
    · have hJ : ¬ (j : Int) < (l.length : Int) := by omega
      by_cases h0 : l.length = 0
      · have hI : ((l.length : Int) == 0) = true := by rw [beq_iff_eq]; omega
        have HF : Hid (nfaB l = false) := hid_intro (by unfold nfaB; rw [decide_eq_false (by simpa using h0)]; rfl)
        clear HL HM HA h0
        go_wp2_with fail
        rw [HP.out, HF.out]
        exact ⟨rfl, HZ.out⟩
      · have hI : ((l.length : Int) == 0) = false := by rw [beq_eq_false_iff_ne]; omega
        have HF : Hid (nfaB l = true) := hid_intro (by
          unfold nfaB
          rw [decide_eq_true h0, Bool.true_and, List.all_eq_true]
          intro x hx
          obtain ⟨i, hi, rfl⟩ := List.getElem_of_mem hx
          rw [← sa_get hi]
          exact HA.out i (by omega))
        clear HL HM HA h0
        go_wp2_with fail
        rw [HP.out, HF.out]
        exact ⟨rfl, HZ.out⟩
end Go.Proofs.YtoinlmfodmgohaaGreatDoor

namespace Go.Proofs.YtoinlmfodmgohaaGreatDoor
open Go.RowKit

theorem nfaL_right (t : RX) (hy : YOK t) : nfaB (nfaL t) = true := by
  have hl := nfaL_len t hy.len
  unfold nfaB
  rw [decide_eq_true (by omega : (nfaL t).length ≠ 0), Bool.true_and, List.all_eq_true]
  intro s hs
  rw [hl]
  rcases List.mem_append.1 hs with hs | hs
  · obtain ⟨g1, g2, g3, g4, g5, g6, g7, g8, g9⟩ := hy.good (szX t) 0 (by omega) s hs
    rw [st_yes (s := s) (n := ((szX t + 1 : Nat) : Int)) ⟨g1, by omega, g3, by omega, g5, by omega, fun h => by omega, g7, fun h => by rw [g8 h]; rfl⟩]
    exact g9
  · obtain rfl := List.mem_singleton.1 hs
    rw [st_yes (n := ((szX t + 1 : Nat) : Int)) ⟨by simp, by simp, by simp, by simp, by simp, by simp, fun _ => rfl, fun _ => rfl, fun _ => rfl⟩]
    exact rg_nil
def gE (s : ByteArray) : Int := if goodS s = true then 0 else 10
theorem nfa_find (t : RX) (hr : rightB 1000 t = true) (hb : BdX 1048576 t) (hz : szX t ≤ 2000) (s : ByteArray) (hs : s.size ≤ 1048576) (lv : Value) (w : World) (hT : Tab w) (X : Nat → Prop) (hS : SI w X (nfaL t) lv) :
    Calls Tryz.prog 12 #[lv, .string s] w fun e w' => ∃ b n, e = .returned (.tuple #[.bool b, .int .i64 ((n : Nat) : Int), .int .i64 (gE s)]) ∧ (goodS s = true → SrR (nfaL t) (ptsS s) b n) ∧ Below w.heap.size w w' := by
  have hy := yok_of hr hb
  have hf := nfaL_right t hy
  have hl := nfaL_len t hy.len
  have hrl : ∀ s ∈ nfaL t, s.r.length ≤ 1048576 := fun s hs => by
    rcases List.mem_append.1 hs with hs | hs
    · exact bld_rl 1048576 t hb 0 s hs
    · obtain rfl := List.mem_singleton.1 hs
      exact Nat.zero_le _
  cases hg : goodS s
  · have e : readE (nfaL t) s = 10 := by unfold readE; rw [hf, hg]; rfl
    have h := search_no (nfaL t) (fun s hs => by have := hrl s hs; omega) s (by omega) lv w hT X hS (by rw [e]; decide)
    rw [e] at h
    refine h.mono ?_
    rintro e w' ⟨rfl, hb⟩
    exact ⟨false, 0, by unfold gE; rw [hg]; rfl, fun h => by simp at h, hb⟩
  · refine (search_ok (nfaL t) (by omega) hrl s hs lv w hT X hS hf hg).mono ?_
    rintro e w' ⟨b, n, rfl, h, hb⟩
    exact ⟨b, n, by unfold gE; rw [hg]; rfl, fun _ => h, hb⟩
end Go.Proofs.YtoinlmfodmgohaaGreatDoor

namespace Go.Proofs.YtoinlmfodmgohaaGreatDoor
open Go.RowKit

set_option maxHeartbeats 400000 in
theorem rlength_any (c : Int) (w : World) :
    Calls Tryz.prog 53 #[.int .u8 c] w fun e w' => e = .returned (.int .i64 (stN c)) ∧ w = w' := by
  go_enter Tryz.func53, Tryz.ntmps53
  go_wp2
  all_goals go_ret
  all_goals refine ⟨ret_int ?_, rfl⟩
  all_goals unfold stN
  all_goals repeat' split
  all_goals omega

theorem secB_mk (c d : Int) (x : Bool) (lo hi : Int) (h1 : (if c = 224 then (160 : Int) else if c = 240 then 144 else 128) = lo) (h2 : (if c = 237 then (159 : Int) else if c = 244 then 143 else 191) = hi)
    (h : x = true ↔ (lo ≤ d ∧ d ≤ hi)) : x = secB c d := by
  rw [Bool.eq_iff_iff, h, secB_iff, h1, h2]

set_option maxHeartbeats 400000 in
theorem second_any (c d : Int) (w : World) :
    Calls Tryz.prog 54 #[.int .u8 c, .int .u8 d] w fun e w' => e = .returned (.bool (secB c d)) ∧ w = w' := by
  by_cases h1 : c = 224
  · subst h1
    go_enter Tryz.func54, Tryz.ntmps54
    go_wp2
    all_goals go_ret
    all_goals refine ⟨ret_bool (secB_mk 224 d _ 160 191 rfl rfl ?_), rfl⟩
    all_goals (try simp only [decide_eq_true_iff, Bool.false_eq_true, false_iff])
    all_goals omega
  · by_cases h2 : c = 237
    · subst h2
      go_enter Tryz.func54, Tryz.ntmps54
      go_wp2
      all_goals go_ret
      all_goals refine ⟨ret_bool (secB_mk 237 d _ 128 159 rfl rfl ?_), rfl⟩
      all_goals (try simp only [decide_eq_true_iff, Bool.false_eq_true, false_iff])
      all_goals omega
    · by_cases h3 : c = 240
      · subst h3
        go_enter Tryz.func54, Tryz.ntmps54
        go_wp2
        all_goals go_ret
        all_goals refine ⟨ret_bool (secB_mk 240 d _ 144 191 rfl rfl ?_), rfl⟩
        all_goals (try simp only [decide_eq_true_iff, Bool.false_eq_true, false_iff])
        all_goals omega
      · by_cases h4 : c = 244
        · subst h4
          go_enter Tryz.func54, Tryz.ntmps54
          go_wp2
          all_goals go_ret
          all_goals refine ⟨ret_bool (secB_mk 244 d _ 128 143 rfl rfl ?_), rfl⟩
          all_goals (try simp only [decide_eq_true_iff, Bool.false_eq_true, false_iff])
          all_goals omega
        · have k1 : (c == 224) = false := by simpa using h1
          have k2 : (c == 237) = false := by simpa using h2
          have k3 : (c == 240) = false := by simpa using h3
          have k4 : (c == 244) = false := by simpa using h4
          have HM : Hid (∀ x : Bool, (x = true ↔ (128 ≤ d ∧ d ≤ 191)) → x = secB c d) := fun x h => secB_mk c d x 128 191 (by rw [if_neg h1, if_neg h3]) (by rw [if_neg h2, if_neg h4]) h
          clear h1 h2 h3 h4
          go_enter Tryz.func54, Tryz.ntmps54
          go_wp2
          all_goals go_ret
          all_goals refine ⟨ret_bool (HM.out _ ?_), rfl⟩
          all_goals (try simp only [decide_eq_true_iff, Bool.false_eq_true, false_iff])
          all_goals omega

set_option maxHeartbeats 1000000 in
theorem rstep_any (b off len cap p : Nat) (f : Nat → Int) (w : World) (hL : Lies w b off len f) (hp : p < len) (hm : len ≤ maxLen) :
    Calls Tryz.prog 30 #[.slice (some ⟨b, off, none⟩) len cap, .int .i64 (p : Int)] w fun e w' => e = .returned (.tuple #[.int .i64 ((stepF (len - p) fun i => f (p + i)).1 : Nat), .bool (stepF (len - p) fun i => f (p + i)).2]) ∧ w = w' := by
  unfold maxLen at hm
  have c0 : w.cell? ⟨b, off + p, none⟩ = some (.int .u8 (f p)) := hL.cell p hp
  have hpI : (p : Int) < (len : Int) := by omega
  have hl := fun w => rlength_any (f p) w
  by_cases hz : stN (f p) = 0
  · have hs := stepF_none (len - p) (fun i => f (p + i)) hz
    rw [hs]
    rw [hz] at hl
    clear hs hz
    go_enter Tryz.func30, Tryz.ntmps30
    go_wp2_with (go_at_call 53; refine (hl _).mono ?_; rintro e w' ⟨rfl, rfl⟩)
    go_ret2
    exact ⟨rfl, rfl⟩
  · have b0 := hL.lo p
    have b1 := hL.hi p
    obtain ⟨z1, n1, n4, z2⟩ := first_good (f p) b0 b1 hz
    clear z1 z2
    obtain ⟨n, hn⟩ : ∃ n : Nat, (n : Int) = stN (f p) := ⟨(stN (f p)).toNat, by omega⟩
    rw [← hn] at hl n1 n4
    have HN : Hid ((n : Int) = stN ((fun i => f (p + i)) 0)) := hn
    have HZ : Hid (stN ((fun i => f (p + i)) 0) ≠ 0) := hz
    have HP := stepF_part (len - p) (fun i => f (p + i)) b0 b1
    have HW := stepF_whole (len - p) (fun i => f (p + i)) b0 b1 HZ.out
    have hne : ((n : Int) == 0) = false := by simp; omega
    have hsec := fun d w => second_any (f p) d w
    have HPN := passed_next (len - p) (fun i => f (p + i))
    clear hn hz
    generalize hS : stepF (len - p) (fun i => f (p + i)) = S at *
    go_enter Tryz.func30, Tryz.ntmps30
    go_wp2_with (go_at_call 53; refine (hl _).mono ?_; rintro e w' ⟨rfl, rfl⟩)
    go_loop [7] (fun i => ∃ j : Nat, 1 ≤ j ∧ j ≤ n ∧ i = .int .i64 j ∧ Hid (passed (len - p) (fun i => f (p + i)) j)) (fun i => n - (intOf i).toNat)
    case atStart => exact ⟨1, by omega, by omega, rfl, passed_one _ _⟩
    case round =>
      obtain ⟨j, hj1, hjn, rfl, HJ⟩ := hrel
      by_cases hlt : j < n
      · have hjs : (j : Int) < stN ((fun i => f (p + i)) 0) := by rw [← HN.out]; omega
        by_cases hle : p + j < len
        · have cj : w.cell? ⟨b, off + (p + j), none⟩ = some (.int .u8 (f (p + j))) := hL.cell (p + j) hle
          have hle' : (p : Int) + (j : Int) < (len : Int) := by omega
          have hne' : ((p : Int) + (j : Int) == (len : Int)) = false := by simp; omega
          by_cases hj : j = 1
          · subst hj
            have ga : (p : Int) + 1 < (len : Int) := by omega
            have gb : ((p : Int) + 1 == (len : Int)) = false := by simp; omega
            have gc : (1 : Int) < (n : Int) := by omega
            clear hle' hne'
            cases hs : secB (f p) (f (p + 1))
            · have HF : Hid (S = (1, false)) := by
                show S = _
                rw [HP 1 (by omega) hjs HJ.out (.inr (.inr (by simpa [okAt] using hs)))]
              have h2 := hsec (f (p + 1))
              rw [hs] at h2
              clear hs HP HW HPN hjs
              go_wp2_with (go_at_call 54; refine (h2 _).mono ?_; rintro e w' ⟨rfl, rfl⟩)
              go_ret2
              exact ⟨ret_ib (by rw [HF.out]; rfl) (by rw [HF.out]), rfl⟩
            · have HF : Hid (passed (len - p) (fun i => f (p + i)) 2) := HPN 1 (by omega) (by omega) (secB_fol _ _ hs) (by simpa [okAt] using hs) HJ.out
              have h2 := hsec (f (p + 1))
              rw [hs] at h2
              clear hs HP HW HPN hjs
              go_wp2_with (go_at_call 54; refine (h2 _).mono ?_; rintro e w' ⟨rfl, rfl⟩)
              go_round
              case rel => exact ⟨2, by omega, by omega, rfl, HF⟩
              case measure => simp [intOf]; omega
          · have hj2 : (1 : Int) < (j : Int) := by omega
            have hjE : ((j : Int) == 1) = false := by simp; omega
            have hok : okAt (fun i => f (p + i)) j = true := by simp [okAt, hj]
            by_cases k1 : f (p + j) < 128
            · have HF : Hid (S = (j, false)) := by
                show S = _
                rw [HP j hj1 hjs HJ.out (.inr (.inl (by rw [← Bool.not_eq_true, folB_iff]; omega)))]
              clear HP HW HPN hjs hok
              go_wp2
              go_ret2
              exact ⟨ret_ib (by rw [HF.out]) (by rw [HF.out]), rfl⟩
            · by_cases k2 : 191 < f (p + j)
              · have HF : Hid (S = (j, false)) := by
                  show S = _
                  rw [HP j hj1 hjs HJ.out (.inr (.inl (by rw [← Bool.not_eq_true, folB_iff]; omega)))]
                clear HP HW HPN hjs hok
                go_wp2
                go_ret2
                exact ⟨ret_ib (by rw [HF.out]) (by rw [HF.out]), rfl⟩
              · have HF : Hid (passed (len - p) (fun i => f (p + i)) (j + 1)) := HPN j hj1 (by omega) (by rw [folB_iff]; omega) hok HJ.out
                clear HP HW HPN hjs hok
                go_wp2
                go_round
                case rel => exact ⟨j + 1, by omega, by omega, by go_num, HF⟩
                case measure => simp [intOf]; omega
        · have HF : Hid (S = (j, false)) := by
            show S = _
            rw [HP j hj1 hjs HJ.out (.inl (by omega))]
          have hjl : ((p : Int) + (j : Int) == (len : Int)) = true := by
            obtain ⟨q2, q3, q4⟩ := HJ.out
            simp; omega
          have hub : p + j ≤ len := by
            obtain ⟨q2, q3, q4⟩ := HJ.out
            omega
          clear HP HW HPN hjs
          go_wp2
          go_ret2
          exact ⟨ret_ib (by rw [HF.out]) (by rw [HF.out]), rfl⟩
      · have e : j = n := by omega
        subst e
        have HF : Hid (S = (j, true)) := by
          show S = _
          rw [HW j HN.out HJ.out]
        clear HP HW HPN
        go_wp2
        go_ret2
        exact ⟨ret_ib (by rw [HF.out]) (by rw [HF.out]), rfl⟩
end Go.Proofs.YtoinlmfodmgohaaGreatDoor
