/-
  A node's counts; whether ranges are a set, by the document's answer. Conditions: none.
  Has a node what its kind has, and nothing else: as the program asks it. Conditions: at most 2^40 ranges.
-/
import Derived.Test.YtcgohdfpmfpfiaaG15
import Derived.BigQuiet
import Derived.Test.YtcgohdfpmfpfiaaG34
namespace Go.Proofs.Ytcgohdfpmfpfiaa
open Go.RowKit
attribute [local go_sem] setCell_drewN alloc_drewN

set_option maxRecDepth 100000 in
set_option maxHeartbeats 800000 in
theorem noCount_any (k : Int) (a d : Option Addr) (n c m e : Nat) (lo hi : Int) (z : Bool) (w : World) :
    Calls Try.prog 51 #[.agg #[.int .i64 k, .slice a n c, .int .i64 lo, .int .i64 hi, .bool z, .slice d m e]] w fun r w' => r = .returned (.bool (noCnt lo hi z)) ∧ Below w.heap.size w w' := by
  obtain ⟨P, hP⟩ : ∃ P : Ending → World → Prop, P = fun r w' => r = .returned (.bool (noCnt lo hi z)) ∧ Below w.heap.size w w' := ⟨_, rfl⟩
  rw [← hP]
  have HP := hid_intro hP
  clear hP
  go_enter Try.func51, Try.ntmps51
  by_cases h1 : lo = 0
  · subst h1
    by_cases h2 : hi = 0
    · subst h2
      cases z
      · go_wp2_with fail
        rw [HP.out]
        exact ⟨ret_bool (by simp [noCnt]), vb_a (Below.refl _ _) _⟩
      · go_wp2_with fail
        rw [HP.out]
        exact ⟨ret_bool (by simp [noCnt]), vb_a (Below.refl _ _) _⟩
    · go_wp2_with fail
      rw [HP.out]
      exact ⟨ret_bool (by simp [noCnt, h2]), vb_a (Below.refl _ _) _⟩
  · go_wp2_with fail
    rw [HP.out]
    exact ⟨ret_bool (by simp [noCnt, h1]), vb_a (Below.refl _ _) _⟩
set_option maxRecDepth 100000 in
set_option maxHeartbeats 800000 in
theorem hasCount_any (k : Int) (a d : Option Addr) (n c m e : Nat) (lo hi : Int) (z : Bool) (w : World) :
    Calls Try.prog 53 #[.agg #[.int .i64 k, .slice a n c, .int .i64 lo, .int .i64 hi, .bool z, .slice d m e]] w fun r w' => r = .returned (.bool (hasCnt lo hi)) ∧ Below w.heap.size w w' := by
  obtain ⟨P, hP⟩ : ∃ P : Ending → World → Prop, P = fun r w' => r = .returned (.bool (hasCnt lo hi)) ∧ Below w.heap.size w w' := ⟨_, rfl⟩
  rw [← hP]
  have HP := hid_intro hP
  clear hP
  go_enter Try.func53, Try.ntmps53
  by_cases h1 : lo < 0
  · have HE : Hid (hasCnt lo hi = false) := hid_intro (by rw [hasCnt, decide_eq_false (by omega : ¬ 0 ≤ lo)]; simp)
    go_wp2_with fail
    rw [HP.out, HE.out]
    exact ⟨rfl, vb_a (Below.refl _ _) _⟩
  · by_cases h2 : lo > 1000
    · have HE : Hid (hasCnt lo hi = false) := hid_intro (by rw [hasCnt, decide_eq_false (by omega : ¬ lo ≤ 1000)]; simp)
      go_wp2_with fail
      rw [HP.out, HE.out]
      exact ⟨rfl, vb_a (Below.refl _ _) _⟩
    · by_cases h3 : hi = -1
      · have HE : Hid (hasCnt lo hi = true) := hid_intro (by rw [hasCnt, decide_eq_true (by omega : 0 ≤ lo), decide_eq_true (by omega : lo ≤ 1000), decide_eq_true h3]; simp)
        subst h3
        go_wp2_with fail
        rw [HP.out, HE.out]
        exact ⟨rfl, vb_a (Below.refl _ _) _⟩
      · by_cases h4 : lo ≤ hi
        · by_cases h5 : hi ≤ 1000
          · have HE : Hid (hasCnt lo hi = true) := hid_intro (by rw [hasCnt, decide_eq_true (by omega : 0 ≤ lo), decide_eq_true (by omega : lo ≤ 1000), decide_eq_true h4, decide_eq_true h5]; simp)
            go_wp2_with fail
            rw [HP.out, HE.out]
            exact ⟨rfl, vb_a (Below.refl _ _) _⟩
          · have HE : Hid (hasCnt lo hi = false) := hid_intro (by rw [hasCnt, decide_eq_false h5, decide_eq_false h3]; simp)
            go_wp2_with fail
            rw [HP.out, HE.out]
            exact ⟨ret_bool (by simp [h3]), vb_a (Below.refl _ _) _⟩
        · have HE : Hid (hasCnt lo hi = false) := hid_intro (by rw [hasCnt, decide_eq_false h4, decide_eq_false h3]; simp)
          go_wp2_with fail
          rw [HP.out, HE.out]
          exact ⟨ret_bool (by simp [h3]), vb_a (Below.refl _ _) _⟩
end Go.Proofs.Ytcgohdfpmfpfiaa

namespace Go.Proofs.Ytcgohdfpmfpfiaa
open Go.RowKit
attribute [local go_sem] setCell_drewN alloc_drewN

theorem ownB_a {k : Int} (hk : k = 1 ∨ k = 6 ∨ k = 7 ∨ k = 8 ∨ k = 9) (r : List (Int × Int)) (lo hi : Int) (z : Bool) (n : Nat) : ownB k r lo hi z n = (decide (n = 0) && decide (r.length = 0) && noCnt lo hi z) := if_pos hk
theorem ownB_2 (r : List (Int × Int)) (lo hi : Int) (z : Bool) (n : Nat) : ownB 2 r lo hi z n = (decide (n = 0) && decide (mergeL r = r) && noCnt lo hi z) := rfl
theorem ownB_34 {k : Int} (hk : k = 3 ∨ k = 4) (r : List (Int × Int)) (lo hi : Int) (z : Bool) (n : Nat) : ownB k r lo hi z n = (decide (2 ≤ n) && decide (r.length = 0) && noCnt lo hi z) := by
  unfold ownB; rw [if_neg (by omega), if_neg (by omega), if_pos hk]
theorem ownB_5 (r : List (Int × Int)) (lo hi : Int) (z : Bool) (n : Nat) : ownB 5 r lo hi z n = (decide (n = 1) && decide (r.length = 0) && hasCnt lo hi) := rfl
theorem ownB_no {k : Int} (h1 : ¬ (k = 1 ∨ k = 6 ∨ k = 7 ∨ k = 8 ∨ k = 9)) (h2 : ¬ k = 2) (h3 : ¬ (k = 3 ∨ k = 4)) (h5 : ¬ k = 5) (r : List (Int × Int)) (lo hi : Int) (z : Bool) (n : Nat) : ownB k r lo hi z n = false := by
  unfold ownB; rw [if_neg h1, if_neg h2, if_neg h3, if_neg h5]

set_option maxRecDepth 100000 in
set_option maxHeartbeats 3200000 in
theorem own_any (k : Int) (r : List (Int × Int)) (a : Option Addr) (c : Nat) (lo hi : Int) (z : Bool) (d : Option Addr) (n e : Nat) (w : World) (X : Nat → Prop) (hR : RI w X r (.slice a r.length c)) (hl : r.length ≤ 1099511627776) :
    Calls Try.prog 39 #[.agg #[.int .i64 k, .slice a r.length c, .int .i64 lo, .int .i64 hi, .bool z, .slice d n e]] w fun r' w' => r' = .returned (.bool (ownB k r lo hi z n)) ∧ Below w.heap.size w w' := by
  obtain ⟨P, hP⟩ : ∃ P : Ending → World → Prop, P = fun r' w' => r' = .returned (.bool (ownB k r lo hi z n)) ∧ Below w.heap.size w w' := ⟨_, rfl⟩
  rw [← hP]
  have HP := hid_intro hP
  clear hP
  have HNC := hid_intro (fun k w' => noCount_any k a d r.length c n e lo hi z w')
  have HHC := hid_intro (fun k w' => hasCount_any k a d r.length c n e lo hi z w')
  have HIS := hid_intro (fun w' (hb : Below w.heap.size w w') => isSet_any r (.slice a r.length c) w' X (hR.kept hb) hl)
  clear hR hl
  by_cases hk1 : k = 1 ∨ k = 6 ∨ k = 7 ∨ k = 8 ∨ k = 9
  · have hO := ownB_a hk1 r lo hi z n
    clear HHC HIS
    generalize ownB k r lo hi z n = ob at *
    generalize noCnt lo hi z = nb at *
    generalize r.length = m at *
    by_cases hn : n = 0
    · have hnI : (n : Int) = 0 := by omega
      rw [decide_eq_true hn] at hO
      by_cases hm : m = 0
      · have hmI : (m : Int) = 0 := by omega
        rw [decide_eq_true hm] at hO
        have HE : Hid (ob = nb) := hid_intro hO
        clear hO hn hm
        rcases hk1 with rfl | rfl | rfl | rfl | rfl
        all_goals
          go_enter Try.func39, Try.ntmps39
          go_wp2_with fail
          refine (HNC.out _ _).mono ?_; rintro r' w1 ⟨rfl, hb1⟩
          have HB := hid_intro (vb_t (vb_a (Below.refl _ _) _) hb1)
          clear hb1
          go_wp2_with fail
          rw [HP.out, HE.out]
          exact ⟨rfl, HB.out⟩
      · have hmI : ¬ (m : Int) = 0 := by omega
        rw [decide_eq_false hm] at hO
        have HE : Hid (ob = false) := hid_intro hO
        clear hO hn hm
        rcases hk1 with rfl | rfl | rfl | rfl | rfl
        all_goals
          go_enter Try.func39, Try.ntmps39
          go_wp2_with fail
          rw [HP.out, HE.out]
          exact ⟨rfl, vb_a (Below.refl _ _) _⟩
    · have hnI : ¬ (n : Int) = 0 := by omega
      rw [decide_eq_false hn] at hO
      have HE : Hid (ob = false) := hid_intro hO
      clear hO hn
      rcases hk1 with rfl | rfl | rfl | rfl | rfl
      all_goals
        go_enter Try.func39, Try.ntmps39
        go_wp2_with fail
        rw [HP.out, HE.out]
        exact ⟨rfl, vb_a (Below.refl _ _) _⟩
  · by_cases hk2 : k = 2
    · subst hk2
      have hO := ownB_2 r lo hi z n
      clear HHC
      generalize ownB 2 r lo hi z n = ob at *
      generalize noCnt lo hi z = nb at *
      generalize decide (mergeL r = r) = sb at *
      generalize r.length = m at *
      by_cases hn : n = 0
      · have hnI : (n : Int) = 0 := by omega
        rw [decide_eq_true hn] at hO
        cases sb
        · have HE : Hid (ob = false) := hid_intro hO
          clear hO hn
          go_enter Try.func39, Try.ntmps39
          go_wp2_with fail
          refine (HIS.out _ (vb_a (Below.refl _ _) _)).mono ?_; rintro r' w1 ⟨rfl, hb1⟩
          have HB := hid_intro (vb_t (vb_a (Below.refl _ _) _) hb1)
          clear hb1
          go_wp2_with fail
          rw [HP.out, HE.out]
          exact ⟨rfl, HB.out⟩
        · have HE : Hid (ob = nb) := hid_intro hO
          clear hO hn
          go_enter Try.func39, Try.ntmps39
          go_wp2_with fail
          refine (HIS.out _ (vb_a (Below.refl _ _) _)).mono ?_; rintro r' w1 ⟨rfl, hb1⟩
          have kX := (Bk.new w #[.int .i64 2, .slice a m c, .int .i64 lo, .int .i64 hi, .bool z, .slice d n e] 32).bel hb1
          obtain ⟨a0, a1, a2, a3, a4, a5⟩ := kX.c6
          have HB := hid_intro (vb_t (vb_a (Below.refl _ _) _) hb1)
          clear hb1 kX
          go_wp2_with fail
          refine (HNC.out _ _).mono ?_; rintro r' w2 ⟨rfl, hb2⟩
          have HB2 := hid_intro (vb_t HB.out hb2)
          clear hb2 a0 a1 a2 a3 a4 a5
          go_wp2_with fail
          rw [HP.out, HE.out]
          exact ⟨rfl, HB2.out⟩
      · have hnI : ¬ (n : Int) = 0 := by omega
        rw [decide_eq_false hn] at hO
        have HE : Hid (ob = false) := hid_intro hO
        clear hO hn HIS
        go_enter Try.func39, Try.ntmps39
        go_wp2_with fail
        rw [HP.out, HE.out]
        exact ⟨rfl, vb_a (Below.refl _ _) _⟩
    · by_cases hk3 : k = 3 ∨ k = 4
      · have hO := ownB_34 hk3 r lo hi z n
        clear HHC HIS
        generalize ownB k r lo hi z n = ob at *
        generalize noCnt lo hi z = nb at *
        generalize r.length = m at *
        by_cases hn : 2 ≤ n
        · have hnI : (2 : Int) ≤ (n : Int) := by omega
          rw [decide_eq_true hn] at hO
          by_cases hm : m = 0
          · have hmI : (m : Int) = 0 := by omega
            rw [decide_eq_true hm] at hO
            have HE : Hid (ob = nb) := hid_intro hO
            clear hO hn hm hk1 hk2
            rcases hk3 with rfl | rfl
            all_goals
              go_enter Try.func39, Try.ntmps39
              go_wp2_with fail
              refine (HNC.out _ _).mono ?_; rintro r' w1 ⟨rfl, hb1⟩
              have HB := hid_intro (vb_t (vb_a (Below.refl _ _) _) hb1)
              clear hb1
              go_wp2_with fail
              rw [HP.out, HE.out]
              exact ⟨rfl, HB.out⟩
          · have hmI : ¬ (m : Int) = 0 := by omega
            rw [decide_eq_false hm] at hO
            have HE : Hid (ob = false) := hid_intro hO
            clear hO hn hm hk1 hk2
            rcases hk3 with rfl | rfl
            all_goals
              go_enter Try.func39, Try.ntmps39
              go_wp2_with fail
              rw [HP.out, HE.out]
              exact ⟨rfl, vb_a (Below.refl _ _) _⟩
        · have hnI : ¬ (2 : Int) ≤ (n : Int) := by omega
          rw [decide_eq_false hn] at hO
          have HE : Hid (ob = false) := hid_intro hO
          clear hO hn hk1 hk2
          rcases hk3 with rfl | rfl
          all_goals
            go_enter Try.func39, Try.ntmps39
            go_wp2_with fail
            rw [HP.out, HE.out]
            exact ⟨rfl, vb_a (Below.refl _ _) _⟩
      · by_cases hk5 : k = 5
        · subst hk5
          have hO := ownB_5 r lo hi z n
          clear HNC HIS
          generalize ownB 5 r lo hi z n = ob at *
          generalize hasCnt lo hi = nb at *
          generalize r.length = m at *
          by_cases hn : n = 1
          · have hnI : (n : Int) = 1 := by omega
            rw [decide_eq_true hn] at hO
            by_cases hm : m = 0
            · have hmI : (m : Int) = 0 := by omega
              rw [decide_eq_true hm] at hO
              have HE : Hid (ob = nb) := hid_intro hO
              clear hO hn hm
              go_enter Try.func39, Try.ntmps39
              go_wp2_with fail
              refine (HHC.out _ _).mono ?_; rintro r' w1 ⟨rfl, hb1⟩
              have HB := hid_intro (vb_t (vb_a (Below.refl _ _) _) hb1)
              clear hb1
              go_wp2_with fail
              rw [HP.out, HE.out]
              exact ⟨rfl, HB.out⟩
            · have hmI : ¬ (m : Int) = 0 := by omega
              rw [decide_eq_false hm] at hO
              have HE : Hid (ob = false) := hid_intro hO
              clear hO hn hm
              go_enter Try.func39, Try.ntmps39
              go_wp2_with fail
              rw [HP.out, HE.out]
              exact ⟨rfl, vb_a (Below.refl _ _) _⟩
          · have hnI : ¬ (n : Int) = 1 := by omega
            rw [decide_eq_false hn] at hO
            have HE : Hid (ob = false) := hid_intro hO
            clear hO hn
            go_enter Try.func39, Try.ntmps39
            go_wp2_with fail
            rw [HP.out, HE.out]
            exact ⟨rfl, vb_a (Below.refl _ _) _⟩
        · have HE := hid_intro (ownB_no hk1 hk2 hk3 hk5 r lo hi z n)
          have q1 : ¬ k = 1 := by omega
          have q6 : ¬ k = 6 := by omega
          have q7 : ¬ k = 7 := by omega
          have q8 : ¬ k = 8 := by omega
          have q9 : ¬ k = 9 := by omega
          have q3 : ¬ k = 3 := by omega
          have q4 : ¬ k = 4 := by omega
          clear HNC HHC HIS hk1 hk3
          go_enter Try.func39, Try.ntmps39
          go_wp2_with fail
          rw [HP.out, HE.out]
          exact ⟨rfl, vb_a (Below.refl _ _) _⟩
end Go.Proofs.Ytcgohdfpmfpfiaa
