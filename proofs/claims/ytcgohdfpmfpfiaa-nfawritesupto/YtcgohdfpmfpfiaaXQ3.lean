/-
  Whether ranges are a set, by the document's answer. Conditions: none.
-/
import Derived.Test.YtcgohdfpmfpfiaaG15
import Derived.BigQuiet
namespace Go.Proofs.Ytcgohdfpmfpfiaa
open Go.RowKit
attribute [local go_sem] setCell_drewN alloc_drewN

set_option maxRecDepth 100000 in
set_option maxHeartbeats 3200000 in
theorem refRngs_any (l : List (Int × Int)) (v : Value) (w : World) (X : Nat → Prop) (hR : RI w X l v) :
    Calls Try.prog 33 #[v] w fun r w' => r = .returned (.bool (rgB l)) ∧ Below w.heap.size w w' := by
  obtain ⟨ao, cap, rfl, hc, hcm, hwf, hlie⟩ := hR
  have hlI : (l.length : Int) ≤ 9223372036854775807 := by unfold maxLen at hcm; omega
  obtain ⟨P, hP⟩ : ∃ P : Ending → World → Prop, P = fun r w' => r = .returned (.bool (rgB l)) ∧ Below w.heap.size w w' := ⟨_, rfl⟩
  rw [← hP]
  have HP := hid_intro hP
  clear hP
  go_enter Try.func33, Try.ntmps33
  go_wp2_with fail
  go_loopg [3] l.length (fun m s3 wr => ∃ i : Nat, i ≤ l.length ∧ m = l.length - i ∧ s3 = .int .i64 (i : Int) ∧ Hid (∀ j, j < i → rgAt l j) ∧ Below w.heap.size w wr)
  case atStart => exact ⟨0, Nat.zero_le _, rfl, rfl, fun j hj => by omega, Below.refl _ _⟩
  case round =>
    obtain ⟨i, hi, rfl, rfl, HA, hb⟩ := hrel
    by_cases hlt : i < l.length
    · rcases hlie with hlie | ⟨b, off, rfl, _, hcell⟩
      · subst hlie; simp at hlt
      have q0 := (hb.cell (p := ⟨b, off + i * 2, none⟩) (World.block_lt_of_cell? w _ (hcell i hlt).1)).trans (hcell i hlt).1
      have q1 := (hb.cell (p := ⟨b, off + i * 2 + 1, none⟩) (World.block_lt_of_cell? w _ (hcell i hlt).2)).trans (hcell i hlt).2
      have hI : (i : Int) < (l.length : Int) := by omega
      have hno : ¬ rgAt l i → rgB l = false := fun h => by unfold rgB; exact decide_eq_false (fun hh => h (hh i hlt))
      have hyes : rgAt l i → Hid (∀ j, j < i + 1 → rgAt l j) := fun h => hid_intro (fun j hj => by
        by_cases e : j = i
        · rw [e]; exact h
        · exact HA.out j (by omega))
      unfold rgAt at hno hyes
      have HB := hid_intro hb
      cases i with
      | zero =>
        clear hcell hwf
        generalize ra l 0 = rr at *
        obtain ⟨x, y⟩ := rr
        simp only [Nat.zero_mul, Nat.add_zero] at hno hyes q0 q1
        have hI0 : (0 : Int) < (l.length : Int) := by omega
        by_cases c1 : x < 0
        · have hc1a : decide (x < 0) = true := decide_eq_true (by omega)
          have HE := hid_intro (hno (by omega))
          clear hno hyes HA hb
          go_wp2_with fail
          go_quiet (fail)
          all_goals
            go_wp2_with fail
            rw [HP.out, HE.out]
            exact ⟨rfl, by with_reducible repeat (first | exact HB.out | refine vb_d ?_ | refine vb_n ?_ _)⟩
        · by_cases c2 : x > y
          · have hc1a : decide (x < 0) = false := decide_eq_false (by omega)
            have hc2a : decide (x > y) = true := decide_eq_true (by omega)
            have hc2b : decide (y < x) = true := decide_eq_true (by omega)
            have HE := hid_intro (hno (by omega))
            clear hno hyes HA hb
            go_wp2_with fail
            go_quiet (fail)
            all_goals
              go_wp2_with fail
              rw [HP.out, HE.out]
              exact ⟨rfl, by with_reducible repeat (first | exact HB.out | refine vb_d ?_ | refine vb_n ?_ _)⟩
          · by_cases c3 : y > 1114111
            · have hc1a : decide (x < 0) = false := decide_eq_false (by omega)
              have hc2a : decide (x > y) = false := decide_eq_false (by omega)
              have hc2b : decide (y < x) = false := decide_eq_false (by omega)
              have hc3a : decide (y > 1114111) = true := decide_eq_true (by omega)
              have hc3b : decide (1114111 < y) = true := decide_eq_true (by omega)
              have HE := hid_intro (hno (by omega))
              clear hno hyes HA hb
              go_wp2_with fail
              go_quiet (fail)
              all_goals
                go_wp2_with fail
                rw [HP.out, HE.out]
                exact ⟨rfl, by with_reducible repeat (first | exact HB.out | refine vb_d ?_ | refine vb_n ?_ _)⟩
            · have hc1a : decide (x < 0) = false := decide_eq_false (by omega)
              have hc2a : decide (x > y) = false := decide_eq_false (by omega)
              have hc2b : decide (y < x) = false := decide_eq_false (by omega)
              have hc3a : decide (y > 1114111) = false := decide_eq_false (by omega)
              have hc3b : decide (1114111 < y) = false := decide_eq_false (by omega)
              have HA2 := hyes (by refine ⟨by omega, ?_⟩; first | exact Or.inl rfl | trivial | simp)
              clear hno hyes HA hb
              go_wp2_with fail
              go_quiet (fail)
              all_goals
                go_wp2_with fail
                go_roundg (l.length - (0 + 1))
                case measure => omega
                case rel => exact ⟨0 + 1, by omega, rfl, by simp, HA2, by with_reducible repeat (first | exact HB.out | refine vb_d ?_ | refine vb_n ?_ _)⟩
      | succ j =>
        have hj : j < l.length := by omega
        have q2 := (hb.cell (p := ⟨b, off + j * 2 + 1, none⟩) (World.block_lt_of_cell? w _ (hcell j hj).2)).trans (hcell j hj).2
        have hokp := (HA.out j (by omega)).1
        have hI2 : (j : Int) < (l.length : Int) := by omega
        have hI3 : (j : Int) + 1 < (l.length : Int) := by omega
        have hj0 : (0 : Int) ≤ (j : Int) := by omega
        rw [Nat.add_sub_cancel] at hno hyes
        clear hcell hwf
        generalize ra l (j + 1) = rr at *
        generalize ra l j = pp at *
        obtain ⟨x, y⟩ := rr
        obtain ⟨p0, p1⟩ := pp
        simp only at hno hyes q0 q1 q2 hokp
        by_cases c1 : x < 0
        · have hc1a : decide (x < 0) = true := decide_eq_true (by omega)
          have HE := hid_intro (hno (by omega))
          clear hno hyes HA hb
          go_wp2_with fail
          go_quiet (fail)
          all_goals
            go_wp2_with fail
            rw [HP.out, HE.out]
            exact ⟨rfl, by with_reducible repeat (first | exact HB.out | refine vb_d ?_ | refine vb_n ?_ _)⟩
        · by_cases c2 : x > y
          · have hc1a : decide (x < 0) = false := decide_eq_false (by omega)
            have hc2a : decide (x > y) = true := decide_eq_true (by omega)
            have hc2b : decide (y < x) = true := decide_eq_true (by omega)
            have HE := hid_intro (hno (by omega))
            clear hno hyes HA hb
            go_wp2_with fail
            go_quiet (fail)
            all_goals
              go_wp2_with fail
              rw [HP.out, HE.out]
              exact ⟨rfl, by with_reducible repeat (first | exact HB.out | refine vb_d ?_ | refine vb_n ?_ _)⟩
          · by_cases c3 : y > 1114111
            · have hc1a : decide (x < 0) = false := decide_eq_false (by omega)
              have hc2a : decide (x > y) = false := decide_eq_false (by omega)
              have hc2b : decide (y < x) = false := decide_eq_false (by omega)
              have hc3a : decide (y > 1114111) = true := decide_eq_true (by omega)
              have hc3b : decide (1114111 < y) = true := decide_eq_true (by omega)
              have HE := hid_intro (hno (by omega))
              clear hno hyes HA hb
              go_wp2_with fail
              go_quiet (fail)
              all_goals
                go_wp2_with fail
                rw [HP.out, HE.out]
                exact ⟨rfl, by with_reducible repeat (first | exact HB.out | refine vb_d ?_ | refine vb_n ?_ _)⟩
            · by_cases c4 : p1 + 1 ≥ x
              · have hc1a : decide (x < 0) = false := decide_eq_false (by omega)
                have hc2a : decide (x > y) = false := decide_eq_false (by omega)
                have hc2b : decide (y < x) = false := decide_eq_false (by omega)
                have hc3a : decide (y > 1114111) = false := decide_eq_false (by omega)
                have hc3b : decide (1114111 < y) = false := decide_eq_false (by omega)
                have hc4a : decide (p1 + 1 ≥ x) = true := decide_eq_true (by omega)
                have hc4b : decide (x ≤ p1 + 1) = true := decide_eq_true (by omega)
                have HE := hid_intro (hno (by omega))
                clear hno hyes HA hb
                go_wp2_with fail
                go_quiet (fail)
                all_goals
                  go_wp2_with fail
                  rw [HP.out, HE.out]
                  exact ⟨rfl, by with_reducible repeat (first | exact HB.out | refine vb_d ?_ | refine vb_n ?_ _)⟩
              · have hc1a : decide (x < 0) = false := decide_eq_false (by omega)
                have hc2a : decide (x > y) = false := decide_eq_false (by omega)
                have hc2b : decide (y < x) = false := decide_eq_false (by omega)
                have hc3a : decide (y > 1114111) = false := decide_eq_false (by omega)
                have hc3b : decide (1114111 < y) = false := decide_eq_false (by omega)
                have hc4a : decide (p1 + 1 ≥ x) = false := decide_eq_false (by omega)
                have hc4b : decide (x ≤ p1 + 1) = false := decide_eq_false (by omega)
                have HA2 := hyes (by omega)
                clear hno hyes HA hb
                go_wp2_with fail
                go_quiet (fail)
                all_goals
                  go_wp2_with fail
                  go_roundg (l.length - (j + 1 + 1))
                  case measure => omega
                  case rel => exact ⟨j + 1 + 1, by omega, rfl, by simp, HA2, by with_reducible repeat (first | exact HB.out | refine vb_d ?_ | refine vb_n ?_ _)⟩
    · have hI : ¬ ((i : Int) < (l.length : Int)) := by omega
      have HE : Hid (rgB l = true) := hid_intro (by unfold rgB; exact decide_eq_true (fun j hj => HA.out j (by omega)))
      clear HA hlt hi
      go_wp2_with fail
      rw [HP.out, HE.out]
      exact ⟨rfl, hb⟩
end Go.Proofs.Ytcgohdfpmfpfiaa
