/-
  A node's counts; whether ranges are a set, by the document's answer. Conditions: none.
  Has a node what its kind has, and nothing else: as the program asks it. Conditions: at most 2^40 ranges.
  Which trees may be, as the program asks it. Conditions: no row of ranges is longer than 2^40.
-/
import Derived.Test.YtppilokmgdpnnaaGreatDoorJoined26
import Derived.BigQuiet
import Derived.Test.YtppilokmgdpnnaaGreatDoorJoined28
import Derived.Test.YtppilokmgdpnnaaGreatDoorJoined39
namespace Go.Proofs.YtppilokmgdpnnaaGreatDoor
open Go.RowKit
attribute [local go_sem] setCell_drewN alloc_drewN

set_option maxRecDepth 100000 in
set_option maxHeartbeats 800000 in
theorem noCount_any (k : Int) (a d : Option Addr) (n c m e : Nat) (lo hi : Int) (z : Bool) (w : World) :
    Calls Tryz.prog 36 #[.agg #[.int .i64 k, .slice a n c, .int .i64 lo, .int .i64 hi, .bool z, .slice d m e]] w fun r w' => r = .returned (.bool (noCnt lo hi z)) ∧ Below w.heap.size w w' := by
  obtain ⟨P, hP⟩ : ∃ P : Ending → World → Prop, P = fun r w' => r = .returned (.bool (noCnt lo hi z)) ∧ Below w.heap.size w w' := ⟨_, rfl⟩
  rw [← hP]
  have HP := hid_intro hP
  clear hP
  go_enter Tryz.func36, Tryz.ntmps36
  by_cases h1 : lo = 0
  · subst h1
    by_cases h2 : hi = 0
    · subst h2
      cases z
      · go_wp2_with fail
        rw [HP.out]
        exact ⟨ret_bool (by simp [noCnt]), vb_a (Below.refl _ _) _⟩
      · go_wp2_with fail
        rw [HP.out]
        exact ⟨ret_bool (by simp [noCnt]), vb_a (Below.refl _ _) _⟩
    · go_wp2_with fail
      rw [HP.out]
      exact ⟨ret_bool (by simp [noCnt, h2]), vb_a (Below.refl _ _) _⟩
  · go_wp2_with fail
    rw [HP.out]
    exact ⟨ret_bool (by simp [noCnt, h1]), vb_a (Below.refl _ _) _⟩
set_option maxRecDepth 100000 in
set_option maxHeartbeats 800000 in
theorem hasCount_any (k : Int) (a d : Option Addr) (n c m e : Nat) (lo hi : Int) (z : Bool) (w : World) :
    Calls Tryz.prog 38 #[.agg #[.int .i64 k, .slice a n c, .int .i64 lo, .int .i64 hi, .bool z, .slice d m e]] w fun r w' => r = .returned (.bool (hasCnt lo hi)) ∧ Below w.heap.size w w' := by
  obtain ⟨P, hP⟩ : ∃ P : Ending → World → Prop, P = fun r w' => r = .returned (.bool (hasCnt lo hi)) ∧ Below w.heap.size w w' := ⟨_, rfl⟩
  rw [← hP]
  have HP := hid_intro hP
  clear hP
  go_enter Tryz.func38, Tryz.ntmps38
  by_cases h1 : lo < 0
  · have HE : Hid (hasCnt lo hi = false) := hid_intro (by rw [hasCnt, decide_eq_false (by omega : ¬ 0 ≤ lo)]; simp)
    go_wp2_with fail
    rw [HP.out, HE.out]
    exact ⟨rfl, vb_a (Below.refl _ _) _⟩
  · by_cases h2 : lo > 1000
    · have HE : Hid (hasCnt lo hi = false) := hid_intro (by rw [hasCnt, decide_eq_false (by omega : ¬ lo ≤ 1000)]; simp)
      go_wp2_with fail
      rw [HP.out, HE.out]
      exact ⟨rfl, vb_a (Below.refl _ _) _⟩
    · by_cases h3 : hi = -1
      · have HE : Hid (hasCnt lo hi = true) := hid_intro (by rw [hasCnt, decide_eq_true (by omega : 0 ≤ lo), decide_eq_true (by omega : lo ≤ 1000), decide_eq_true h3]; simp)
        subst h3
        go_wp2_with fail
        rw [HP.out, HE.out]
        exact ⟨rfl, vb_a (Below.refl _ _) _⟩
      · by_cases h4 : lo ≤ hi
        · by_cases h5 : hi ≤ 1000
          · have HE : Hid (hasCnt lo hi = true) := hid_intro (by rw [hasCnt, decide_eq_true (by omega : 0 ≤ lo), decide_eq_true (by omega : lo ≤ 1000), decide_eq_true h4, decide_eq_true h5]; simp)
            go_wp2_with fail
            rw [HP.out, HE.out]
            exact ⟨rfl, vb_a (Below.refl _ _) _⟩
          · have HE : Hid (hasCnt lo hi = false) := hid_intro (by rw [hasCnt, decide_eq_false h5, decide_eq_false h3]; simp)
            go_wp2_with fail
            rw [HP.out, HE.out]
            exact ⟨ret_bool (by simp [h3]), vb_a (Below.refl _ _) _⟩
        · have HE : Hid (hasCnt lo hi = false) := hid_intro (by rw [hasCnt, decide_eq_false h4, decide_eq_false h3]; simp)
          go_wp2_with fail
          rw [HP.out, HE.out]
          exact ⟨ret_bool (by simp [h3]), vb_a (Below.refl _ _) _⟩
end Go.Proofs.YtppilokmgdpnnaaGreatDoor

namespace Go.Proofs.YtppilokmgdpnnaaGreatDoor
open Go.RowKit
attribute [local go_sem] setCell_drewN alloc_drewN

theorem ownB_a {k : Int} (hk : k = 1 ∨ k = 6 ∨ k = 7 ∨ k = 8 ∨ k = 9) (r : List (Int × Int)) (lo hi : Int) (z : Bool) (n : Nat) : ownB k r lo hi z n = (decide (n = 0) && decide (r.length = 0) && noCnt lo hi z) := if_pos hk
theorem ownB_2 (r : List (Int × Int)) (lo hi : Int) (z : Bool) (n : Nat) : ownB 2 r lo hi z n = (decide (n = 0) && decide (mergeL r = r) && noCnt lo hi z) := rfl
theorem ownB_34 {k : Int} (hk : k = 3 ∨ k = 4) (r : List (Int × Int)) (lo hi : Int) (z : Bool) (n : Nat) : ownB k r lo hi z n = (decide (2 ≤ n) && decide (r.length = 0) && noCnt lo hi z) := by
  unfold ownB; rw [if_neg (by omega), if_neg (by omega), if_pos hk]
theorem ownB_5 (r : List (Int × Int)) (lo hi : Int) (z : Bool) (n : Nat) : ownB 5 r lo hi z n = (decide (n = 1) && decide (r.length = 0) && hasCnt lo hi) := rfl
theorem ownB_no {k : Int} (h1 : ¬ (k = 1 ∨ k = 6 ∨ k = 7 ∨ k = 8 ∨ k = 9)) (h2 : ¬ k = 2) (h3 : ¬ (k = 3 ∨ k = 4)) (h5 : ¬ k = 5) (r : List (Int × Int)) (lo hi : Int) (z : Bool) (n : Nat) : ownB k r lo hi z n = false := by
  unfold ownB; rw [if_neg h1, if_neg h2, if_neg h3, if_neg h5]

set_option maxRecDepth 100000 in
set_option maxHeartbeats 3200000 in
theorem own_any (k : Int) (r : List (Int × Int)) (a : Option Addr) (c : Nat) (lo hi : Int) (z : Bool) (d : Option Addr) (n e : Nat) (w : World) (X : Nat → Prop) (hR : RI w X r (.slice a r.length c)) (hl : r.length ≤ 1099511627776) :
    Calls Tryz.prog 23 #[.agg #[.int .i64 k, .slice a r.length c, .int .i64 lo, .int .i64 hi, .bool z, .slice d n e]] w fun r' w' => r' = .returned (.bool (ownB k r lo hi z n)) ∧ Below w.heap.size w w' := by
  obtain ⟨P, hP⟩ : ∃ P : Ending → World → Prop, P = fun r' w' => r' = .returned (.bool (ownB k r lo hi z n)) ∧ Below w.heap.size w w' := ⟨_, rfl⟩
  rw [← hP]
  have HP := hid_intro hP
  clear hP
  have HNC := hid_intro (fun k w' => noCount_any k a d r.length c n e lo hi z w')
  have HHC := hid_intro (fun k w' => hasCount_any k a d r.length c n e lo hi z w')
  have HIS := hid_intro (fun w' (hb : Below w.heap.size w w') => isSet_any r (.slice a r.length c) w' X (hR.kept hb) hl)
  clear hR hl
  by_cases hk1 : k = 1 ∨ k = 6 ∨ k = 7 ∨ k = 8 ∨ k = 9
  · have hO := ownB_a hk1 r lo hi z n
    clear HHC HIS
    generalize ownB k r lo hi z n = ob at *
    generalize noCnt lo hi z = nb at *
    generalize r.length = m at *
    by_cases hn : n = 0
    · have hnI : (n : Int) = 0 := by omega
      rw [decide_eq_true hn] at hO
      by_cases hm : m = 0
      · have hmI : (m : Int) = 0 := by omega
        rw [decide_eq_true hm] at hO
        have HE : Hid (ob = nb) := hid_intro hO
        clear hO hn hm
        rcases hk1 with rfl | rfl | rfl | rfl | rfl
        all_goals
          go_enter Tryz.func23, Tryz.ntmps23
          go_wp2_with fail
          refine (HNC.out _ _).mono ?_; rintro r' w1 ⟨rfl, hb1⟩
          have HB := hid_intro (vb_t (vb_a (Below.refl _ _) _) hb1)
          clear hb1
          go_wp2_with fail
          rw [HP.out, HE.out]
          exact ⟨rfl, HB.out⟩
      · have hmI : ¬ (m : Int) = 0 := by omega
        rw [decide_eq_false hm] at hO
        have HE : Hid (ob = false) := hid_intro hO
        clear hO hn hm
        rcases hk1 with rfl | rfl | rfl | rfl | rfl
        all_goals
          go_enter Tryz.func23, Tryz.ntmps23
          go_wp2_with fail
          rw [HP.out, HE.out]
          exact ⟨rfl, vb_a (Below.refl _ _) _⟩
    · have hnI : ¬ (n : Int) = 0 := by omega
      rw [decide_eq_false hn] at hO
      have HE : Hid (ob = false) := hid_intro hO
      clear hO hn
      rcases hk1 with rfl | rfl | rfl | rfl | rfl
      all_goals
        go_enter Tryz.func23, Tryz.ntmps23
        go_wp2_with fail
        rw [HP.out, HE.out]
        exact ⟨rfl, vb_a (Below.refl _ _) _⟩
  · by_cases hk2 : k = 2
    · subst hk2
      have hO := ownB_2 r lo hi z n
      clear HHC
      generalize ownB 2 r lo hi z n = ob at *
      generalize noCnt lo hi z = nb at *
      generalize decide (mergeL r = r) = sb at *
      generalize r.length = m at *
      by_cases hn : n = 0
      · have hnI : (n : Int) = 0 := by omega
        rw [decide_eq_true hn] at hO
        cases sb
        · have HE : Hid (ob = false) := hid_intro hO
          clear hO hn
          go_enter Tryz.func23, Tryz.ntmps23
          go_wp2_with fail
          refine (HIS.out _ (vb_a (Below.refl _ _) _)).mono ?_; rintro r' w1 ⟨rfl, hb1⟩
          have HB := hid_intro (vb_t (vb_a (Below.refl _ _) _) hb1)
          clear hb1
          go_wp2_with fail
          rw [HP.out, HE.out]
          exact ⟨rfl, HB.out⟩
        · have HE : Hid (ob = nb) := hid_intro hO
          clear hO hn
          go_enter Tryz.func23, Tryz.ntmps23
          go_wp2_with fail
          refine (HIS.out _ (vb_a (Below.refl _ _) _)).mono ?_; rintro r' w1 ⟨rfl, hb1⟩
          have kX := (Bk.new w #[.int .i64 2, .slice a m c, .int .i64 lo, .int .i64 hi, .bool z, .slice d n e] 26).bel hb1
          obtain ⟨a0, a1, a2, a3, a4, a5⟩ := kX.c6
          have HB := hid_intro (vb_t (vb_a (Below.refl _ _) _) hb1)
          clear hb1 kX
          go_wp2_with fail
          refine (HNC.out _ _).mono ?_; rintro r' w2 ⟨rfl, hb2⟩
          have HB2 := hid_intro (vb_t HB.out hb2)
          clear hb2 a0 a1 a2 a3 a4 a5
          go_wp2_with fail
          rw [HP.out, HE.out]
          exact ⟨rfl, HB2.out⟩
      · have hnI : ¬ (n : Int) = 0 := by omega
        rw [decide_eq_false hn] at hO
        have HE : Hid (ob = false) := hid_intro hO
        clear hO hn HIS
        go_enter Tryz.func23, Tryz.ntmps23
        go_wp2_with fail
        rw [HP.out, HE.out]
        exact ⟨rfl, vb_a (Below.refl _ _) _⟩
    · by_cases hk3 : k = 3 ∨ k = 4
      · have hO := ownB_34 hk3 r lo hi z n
        clear HHC HIS
        generalize ownB k r lo hi z n = ob at *
        generalize noCnt lo hi z = nb at *
        generalize r.length = m at *
        by_cases hn : 2 ≤ n
        · have hnI : (2 : Int) ≤ (n : Int) := by omega
          rw [decide_eq_true hn] at hO
          by_cases hm : m = 0
          · have hmI : (m : Int) = 0 := by omega
            rw [decide_eq_true hm] at hO
            have HE : Hid (ob = nb) := hid_intro hO
            clear hO hn hm hk1 hk2
            rcases hk3 with rfl | rfl
            all_goals
              go_enter Tryz.func23, Tryz.ntmps23
              go_wp2_with fail
              refine (HNC.out _ _).mono ?_; rintro r' w1 ⟨rfl, hb1⟩
              have HB := hid_intro (vb_t (vb_a (Below.refl _ _) _) hb1)
              clear hb1
              go_wp2_with fail
              rw [HP.out, HE.out]
              exact ⟨rfl, HB.out⟩
          · have hmI : ¬ (m : Int) = 0 := by omega
            rw [decide_eq_false hm] at hO
            have HE : Hid (ob = false) := hid_intro hO
            clear hO hn hm hk1 hk2
            rcases hk3 with rfl | rfl
            all_goals
              go_enter Tryz.func23, Tryz.ntmps23
              go_wp2_with fail
              rw [HP.out, HE.out]
              exact ⟨rfl, vb_a (Below.refl _ _) _⟩
        · have hnI : ¬ (2 : Int) ≤ (n : Int) := by omega
          rw [decide_eq_false hn] at hO
          have HE : Hid (ob = false) := hid_intro hO
          clear hO hn hk1 hk2
          rcases hk3 with rfl | rfl
          all_goals
            go_enter Tryz.func23, Tryz.ntmps23
            go_wp2_with fail
            rw [HP.out, HE.out]
            exact ⟨rfl, vb_a (Below.refl _ _) _⟩
      · by_cases hk5 : k = 5
        · subst hk5
          have hO := ownB_5 r lo hi z n
          clear HNC HIS
          generalize ownB 5 r lo hi z n = ob at *
          generalize hasCnt lo hi = nb at *
          generalize r.length = m at *
          by_cases hn : n = 1
          · have hnI : (n : Int) = 1 := by omega
            rw [decide_eq_true hn] at hO
            by_cases hm : m = 0
            · have hmI : (m : Int) = 0 := by omega
              rw [decide_eq_true hm] at hO
              have HE : Hid (ob = nb) := hid_intro hO
              clear hO hn hm
              go_enter Tryz.func23, Tryz.ntmps23
              go_wp2_with fail
              refine (HHC.out _ _).mono ?_; rintro r' w1 ⟨rfl, hb1⟩
              have HB := hid_intro (vb_t (vb_a (Below.refl _ _) _) hb1)
              clear hb1
              go_wp2_with fail
              rw [HP.out, HE.out]
              exact ⟨rfl, HB.out⟩
            · have hmI : ¬ (m : Int) = 0 := by omega
              rw [decide_eq_false hm] at hO
              have HE : Hid (ob = false) := hid_intro hO
              clear hO hn hm
              go_enter Tryz.func23, Tryz.ntmps23
              go_wp2_with fail
              rw [HP.out, HE.out]
              exact ⟨rfl, vb_a (Below.refl _ _) _⟩
          · have hnI : ¬ (n : Int) = 1 := by omega
            rw [decide_eq_false hn] at hO
            have HE : Hid (ob = false) := hid_intro hO
            clear hO hn
            go_enter Tryz.func23, Tryz.ntmps23
            go_wp2_with fail
            rw [HP.out, HE.out]
            exact ⟨rfl, vb_a (Below.refl _ _) _⟩
        · have HE := hid_intro (ownB_no hk1 hk2 hk3 hk5 r lo hi z n)
          have q1 : ¬ k = 1 := by omega
          have q6 : ¬ k = 6 := by omega
          have q7 : ¬ k = 7 := by omega
          have q8 : ¬ k = 8 := by omega
          have q9 : ¬ k = 9 := by omega
          have q3 : ¬ k = 3 := by omega
          have q4 : ¬ k = 4 := by omega
          clear HNC HHC HIS hk1 hk3
          go_enter Tryz.func23, Tryz.ntmps23
          go_wp2_with fail
          rw [HP.out, HE.out]
          exact ⟨rfl, vb_a (Below.refl _ _) _⟩
end Go.Proofs.YtppilokmgdpnnaaGreatDoor

namespace Go.Proofs.YtppilokmgdpnnaaGreatDoor
open Go.RowKit
attribute [local go_sem] setCell_drewN alloc_drewN

set_option maxRecDepth 100000 in
set_option maxHeartbeats 3200000 in
theorem may_any : ∀ (d : Nat), d ≤ 1000 → ∀ (t : RX) (f : Nat → Value) (w : World) (X : Nat → Prop), BdX 1099511627776 t → XI w X t f →
    Calls Tryz.prog 15 #[xa f, .int .i64 (d : Int)] w fun r' w' => r' = .returned (.bool (mayB d t)) ∧ Below w.heap.size w w' := by
  intro d
  induction d with
  | zero =>
    intro _ t f w X _ hv
    obtain ⟨k, a, n, c, lo, hi, z, a', n', c', e0, e1, e2, e3, e4, e5⟩ := hv.six
    have exa : xa f = .agg #[.int .i64 k, .slice a n c, .int .i64 lo, .int .i64 hi, .bool z, .slice a' n' c'] := by unfold xa; rw [e0, e1, e2, e3, e4, e5]
    rw [exa]
    have em : mayB 0 t = false := rfl
    rw [em]
    obtain ⟨P, hP⟩ : ∃ P : Ending → World → Prop, P = fun r' w' => r' = .returned (.bool false) ∧ Below w.heap.size w w' := ⟨_, rfl⟩
    rw [← hP]
    have HP := hid_intro hP
    clear hP hv exa em
    go_enter Tryz.func15, Tryz.ntmps15
    go_wp2_with fail
    rw [HP.out]
    exact ⟨rfl, vb_a (Below.refl _ _) _⟩
  | succ d ih =>
    intro hd1 t f w X hbd hv
    obtain ⟨k, r, lo, hi, z, s⟩ := t
    have hbr := hbd.r
    have hbs := hbd.s
    cases hv with
    | mk ao cap G f0 f1 f2 f3 f4 f5 hc hw hl hr =>
    obtain ⟨a1, c1, e1, _⟩ := f1.shape
    have exa : xa f = .agg #[.int .i64 k, .slice a1 r.length c1, .int .i64 lo, .int .i64 hi, .bool z, .slice ao s.length cap] := by unfold xa; rw [f0, e1, f2, f3, f4, f5]
    rw [exa]
    have hlI : (s.length : Int) ≤ 9223372036854775807 := by have := hc.1; have := hc.2; unfold maxLen at this; omega
    obtain ⟨P, hP⟩ : ∃ P : Ending → World → Prop, P = fun r' w' => r' = .returned (.bool (mayB (d + 1) (.mk k r lo hi z s))) ∧ Below w.heap.size w w' := ⟨_, rfl⟩
    rw [← hP]
    have HP := hid_intro hP
    clear hP
    obtain ⟨W, hW⟩ : ∃ W, w.alloc (.cells #[.int .i64 k, .slice a1 r.length c1, .int .i64 lo, .int .i64 hi, .bool z, .slice ao s.length cap] 26) = W := ⟨_, rfl⟩
    have hbW : Below w.heap.size w W := hW ▸ vb_a (Below.refl _ _) _
    have kX : Bk W w.heap.size #[.int .i64 k, .slice a1 r.length c1, .int .i64 lo, .int .i64 hi, .bool z, .slice ao s.length cap] := hW ▸ Bk.new _ _ _
    have hown := own_any k r a1 c1 lo hi z ao s.length cap W X ((e1 ▸ f1).kept hbW) hbr
    have HL : Hid (∀ w', Below W.heap.size W w' → (s = [] ∨ ∃ b off, ao = some ⟨b, off, none⟩ ∧ ∀ i, i < s.length → ∀ j, j < 6 → w'.cell? ⟨b, off + i * 6 + j, none⟩ = some (G i j))) := hid_intro (fun w' hb => by
      rcases hl with hl | ⟨b, off, h1, _, h3⟩
      · exact .inl hl
      · exact .inr ⟨b, off, h1, fun i hi j hj => by rw [(vb_t hbW hb).cell (p := ⟨b, off + i * 6 + j, none⟩) (World.block_lt_of_cell? w _ (h3 i hi j hj))]; exact h3 i hi j hj⟩)
    have HI : Hid (∀ w' i (h : i < s.length), Below W.heap.size W w' → Calls Tryz.prog 15 #[.agg #[G i 0, G i 1, G i 2, G i 3, G i 4, G i 5], .int .i64 (d : Int)] w' fun r' w2 => r' = .returned (.bool (mayB d s[i])) ∧ Below w'.heap.size w' w2) := hid_intro (fun w' i h hb =>
      ih (by omega) s[i] (G i) w' X (hbs _ (List.getElem_mem h)) ((hr i h).kept (vb_t hbW hb)))
    have HSix := hid_intro (fun i h => (hr i h).six)
    have HE : Hid (mayB (d + 1) (.mk k r lo hi z s) = (ownB k r lo hi z s.length && s.all (mayB d))) := hid_intro rfl
    have HX := hid_intro hbW
    have HW := hid_intro hW
    have HK := hid_intro kX
    have hdI : (d : Int) + 1 ≤ 1000 := by omega
    have hdz : ¬ ((d : Int) + 1 = 0) := by omega
    have ecast : ((d + 1 : Nat) : Int) = (d : Int) + 1 := rfl
    rw [ecast]
    clear hl hr ih hbW kX hW exa f1 hbd hbr hbs ecast hd1 hw
    go_enter Tryz.func15, Tryz.ntmps15
    go_wp2_with fail
    rw [HW.out]
    refine hown.mono ?_; rintro r' w1 ⟨rfl, hb1⟩
    obtain ⟨a0, a1', a2, a3, a4, a5⟩ := (HK.out.bel hb1).c6
    cases hob : ownB k r lo hi z s.length
    · have HF : Hid (mayB (d + 1) (.mk k r lo hi z s) = false) := hid_intro (by rw [HE.out, hob]; rfl)
      clear hob HE HL HI HSix
      go_wp2_with fail
      rw [HP.out, HF.out]
      exact ⟨rfl, vb_t HX.out hb1⟩
    · have HE2 : Hid (mayB (d + 1) (.mk k r lo hi z s) = s.all (mayB d)) := hid_intro (by rw [HE.out, hob]; rfl)
      clear hob HE
      go_wp2_with fail
      clear a0 a1' a2 a3 a4 a5
      go_loopg [17] s.length (fun me s17 wr => ∃ j : Nat, j ≤ s.length ∧ me = s.length - j ∧ s17 = .int .i64 (j : Int) ∧ Hid (∀ i (h : i < s.length), i < j → mayB d s[i] = true) ∧ Hid (Below W.heap.size W wr))
      case atStart => exact ⟨0, Nat.zero_le _, rfl, rfl, fun i _ h => absurd h (by omega), hb1⟩
      case round =>
        obtain ⟨j, hj, rfl, rfl, HA, HZ⟩ := hrel
        clear hb1
        by_cases hlt : j < s.length
        · have hJ : (j : Int) < (s.length : Int) := by omega
          obtain ⟨b, off, rfl, h3⟩ := (HL.out wr HZ.out).resolve_left (fun e => by rw [e] at hlt; exact absurd hlt (by simp))
          have g0 : wr.cell? ⟨b, off + j * 6, none⟩ = some (G j 0) := h3 j hlt 0 (by omega)
          have g1 := h3 j hlt 1 (by omega)
          have g2 := h3 j hlt 2 (by omega)
          have g3 := h3 j hlt 3 (by omega)
          have g4 := h3 j hlt 4 (by omega)
          have g5 := h3 j hlt 5 (by omega)
          have HC : Hid (∀ w', Below wr.heap.size wr w' → Calls Tryz.prog 15 #[.agg #[G j 0, G j 1, G j 2, G j 3, G j 4, G j 5], .int .i64 (d : Int)] w' fun r' w2 => r' = .returned (.bool (mayB d s[j])) ∧ Below w'.heap.size w' w2) := hid_intro (fun w' hb => HI.out w' j hlt (vb_t HZ.out hb))
          obtain ⟨x0, x1, x2, x3, x4, x5, x6, x7, x8, x9, e0, e1, e2, e3, e4, e5⟩ := HSix.out j hlt
          rw [e0] at g0 HC
          rw [e1] at g1 HC
          rw [e2] at g2 HC
          rw [e3] at g3 HC
          rw [e4] at g4 HC
          rw [e5] at g5 HC
          clear e0 e1 e2 e3 e4 e5 HSix HL HI h3
          cases hmb : mayB d s[j]
          · have HF : Hid (mayB (d + 1) (.mk k r lo hi z s) = false) := hid_intro (by
              rw [HE2.out, List.all_eq_false]
              exact ⟨s[j], List.getElem_mem hlt, by rw [hmb]; decide⟩)
            rw [hmb] at HC
            clear hmb HA HE2
            go_wp2_with fail
            refine (HC.out _ (vb_a (Below.refl _ _) _)).mono ?_; rintro r' w3 ⟨rfl, hb3⟩
            have HB := hid_intro (vb_t (vb_a (Below.refl _ _) _) hb3)
            clear hb3
            go_wp2_with fail
            rw [HP.out, HF.out]
            exact ⟨rfl, vb_t HX.out (vb_t HZ.out HB.out)⟩
          · have HA2 : Hid (∀ i (h : i < s.length), i < j + 1 → mayB d s[i] = true) := hid_intro (fun i h hi => by
              by_cases e : i = j
              · subst e; exact hmb
              · exact HA.out i h (by omega))
            rw [hmb] at HC
            clear hmb HA HE2
            go_wp2_with fail
            refine (HC.out _ (vb_a (Below.refl _ _) _)).mono ?_; rintro r' w3 ⟨rfl, hb3⟩
            have HB := hid_intro (vb_t HZ.out (vb_t (vb_a (Below.refl _ _) _) hb3))
            clear hb3
            go_wp2_with fail
            go_roundg (s.length - (j + 1))
            case measure => omega
            case rel => exact ⟨j + 1, by omega, rfl, by simp, HA2, HB⟩
        · have hJ : ¬ (j : Int) < (s.length : Int) := by omega
          have HF : Hid (mayB (d + 1) (.mk k r lo hi z s) = true) := hid_intro (by
            rw [HE2.out, List.all_eq_true]
            intro x hx
            obtain ⟨i, hi, rfl⟩ := List.getElem_of_mem hx
            exact HA.out i hi (by omega))
          clear HL HI HA HE2
          go_wp2_with fail
          rw [HP.out, HF.out]
          exact ⟨rfl, vb_t HX.out HZ.out⟩
set_option maxRecDepth 100000 in
set_option maxHeartbeats 800000 in
theorem check_any (t : RX) (f : Nat → Value) (w : World) (X : Nat → Prop) (hbd : BdX 1099511627776 t) (hv : XI w X t f) :
    Calls Tryz.prog 6 #[xa f] w fun r' w' => r' = .returned (.int .i64 (if rightB 1000 t = true then 0 else 91)) ∧ Below w.heap.size w w' := by
  obtain ⟨k, a, n, c, lo, hi, z, a', n', c', e0, e1, e2, e3, e4, e5⟩ := hv.six
  have exa : xa f = .agg #[.int .i64 k, .slice a n c, .int .i64 lo, .int .i64 hi, .bool z, .slice a' n' c'] := by unfold xa; rw [e0, e1, e2, e3, e4, e5]
  have hm := may_any 1000 (by omega) t f _ X hbd (hv.kept (vb_a (Below.refl w.heap.size w) (.cells #[.int .i64 k, .slice a n c, .int .i64 lo, .int .i64 hi, .bool z, .slice a' n' c'] 26)))
  rw [may_right, exa] at hm
  rw [exa]
  obtain ⟨P, hP⟩ : ∃ P : Ending → World → Prop, P = fun r' w' => r' = .returned (.int .i64 (if rightB 1000 t = true then 0 else 91)) ∧ Below w.heap.size w w' := ⟨_, rfl⟩
  rw [← hP]
  have HP := hid_intro hP
  clear hP hv exa e0 e1 e2 e3 e4 e5 hbd
  cases hb : rightB 1000 t
  all_goals
    rw [hb] at hm HP
    clear hb
    go_enter Tryz.func6, Tryz.ntmps6
    go_wp2_with fail
    refine hm.mono ?_; rintro r' w1 ⟨rfl, hb1⟩
    have HB := hid_intro (vb_t (vb_a (Below.refl _ _) _) hb1)
    clear hb1
    go_wp2_with fail
    rw [HP.out]
    exact ⟨rfl, HB.out⟩
end Go.Proofs.YtppilokmgdpnnaaGreatDoor
