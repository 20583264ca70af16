/-
  Whether two rows of ranges are the same (the library's Equal); whether ranges are a set, as the program asks it. Conditions: at most 2^40 ranges.
  A node's counts; whether ranges are a set, by the document's answer. Conditions: none.
  Has a node what its kind has, and nothing else: as the program asks it. Conditions: at most 2^40 ranges.
  How many states a tree has, and counting them up to a limit. No condition.
  The counter's sum and product. Conditions: nothing is below 0.
-/
import Derived.Test.YtoinlmfodmgohaaGreatDoorJoined16
import Derived.Test.YtoinlmfodmgohaaGreatDoorJoined23
import Derived.Test.YtoinlmfodmgohaaGreatDoorJoined9
import Derived.BigQuiet
import Derived.Test.YtoinlmfodmgohaaGreatDoorJoined5
namespace Go.Proofs.YtoinlmfodmgohaaGreatDoor
open Go.RowKit
attribute [local go_sem] setCell_drewN alloc_drewN

set_option maxRecDepth 100000 in
set_option maxHeartbeats 1600000 in
theorem equal_any (l m : List (Int × Int)) (v1 v2 : Value) (w : World) (X Y : Nat → Prop) (h1 : RI w X l v1) (h2 : RI w Y m v2) :
    Calls Tryz.prog 139 #[v1, v2] w fun r w' => r = .returned (.bool (decide (l = m))) ∧ Below w.heap.size w w' := by
  obtain ⟨ao1, cap1, rfl, hc1, hm1, hw1, hl1⟩ := h1
  obtain ⟨ao2, cap2, rfl, hc2, hm2, hw2, hl2⟩ := h2
  by_cases hlen : l.length = m.length
  · have hd : ((l.length : Int) != (m.length : Int)) = false := by simp; omega
    have hlI : (l.length : Int) ≤ 9223372036854775807 := by unfold maxLen at hm1; omega
    obtain ⟨P, hP⟩ : ∃ P : Ending → World → Prop, P = fun r w' => r = .returned (.bool (decide (l = m))) ∧ Below w.heap.size w w' := ⟨_, rfl⟩
    rw [← hP]
    have HP := hid_intro hP
    clear hP
    go_enter Tryz.func139, Tryz.ntmps139
    go_wp2_with fail
    go_loopg [13] l.length (fun me s13 wr => ∃ k : Nat, k ≤ l.length ∧ me = l.length - k ∧ s13 = .int .i64 (k : Int) ∧ Hid (∀ i, i < k → ra l i = ra m i) ∧ Below w.heap.size w wr)
    case atStart => exact ⟨0, Nat.zero_le _, rfl, rfl, fun i hi => absurd hi (by omega), Below.refl _ _⟩
    case round =>
      obtain ⟨k, hk, rfl, rfl, HA, hb⟩ := hrel
      by_cases hlt : k < l.length
      · rcases hl1 with rfl | ⟨b1, o1, rfl, _, q1⟩
        · simp at hlt
        rcases hl2 with rfl | ⟨b2, o2, rfl, _, q2⟩
        · rw [hlen] at hlt; simp at hlt
        have hI : (k : Int) < (l.length : Int) := by omega
        have hI2 : (k : Int) < (m.length : Int) := by omega
        have x1 := (q1 k hlt).1
        have x2 := (q1 k hlt).2
        have y1 := (q2 k (by omega)).1
        have y2 := (q2 k (by omega)).2
        have p1 := (hb.cell (p := ⟨b1, o1 + k * 2, none⟩) (World.block_lt_of_cell? w _ x1)).trans x1
        have p2 := (hb.cell (p := ⟨b1, o1 + k * 2 + 1, none⟩) (World.block_lt_of_cell? w _ x2)).trans x2
        have p3 := (hb.cell (p := ⟨b2, o2 + k * 2, none⟩) (World.block_lt_of_cell? w _ y1)).trans y1
        have p4 := (hb.cell (p := ⟨b2, o2 + k * 2 + 1, none⟩) (World.block_lt_of_cell? w _ y2)).trans y2
        have hnq := fun w => neq_rng (ra l k).1 (ra l k).2 (ra m k).1 (ra m k).2 w
        cases hq : decide (ra l k = ra m k)
        · have hne : ¬ ra l k = ra m k := of_decide_eq_false hq
          have HE : Hid (decide (l = m) = false) := hid_intro (decide_eq_false (fun e => hne (by rw [e])))
          have hq2 : decide (((ra l k).1, (ra l k).2) = ((ra m k).1, (ra m k).2)) = false := hq
          rw [hq2] at hnq
          clear x1 x2 y1 y2 q1 q2 hw1 hw2 HA hq hq2 hne
          generalize (ra l k).1 = A1 at *
          generalize (ra l k).2 = A2 at *
          generalize (ra m k).1 = A3 at *
          generalize (ra m k).2 = A4 at *
          go_wp2_with fail
          go_region
          all_goals
            go_wp2_with fail
            rw [HP.out, HE.out]
            exact ⟨rfl, vb_d hb⟩
        · have hne : ra l k = ra m k := of_decide_eq_true hq
          have HA2 : Hid (∀ i, i < k + 1 → ra l i = ra m i) := hid_intro (fun i hi => by
            by_cases e : i = k
            · rw [e]; exact hne
            · exact HA.out i (by omega))
          have hq2 : decide (((ra l k).1, (ra l k).2) = ((ra m k).1, (ra m k).2)) = true := hq
          rw [hq2] at hnq
          clear x1 x2 y1 y2 q1 q2 hw1 hw2 HA hq hq2 hne
          generalize (ra l k).1 = A1 at *
          generalize (ra l k).2 = A2 at *
          generalize (ra m k).1 = A3 at *
          generalize (ra m k).2 = A4 at *
          go_wp2_with fail
          go_region
          all_goals
            go_wp2_with fail
            go_roundg (l.length - (k + 1))
            case measure => omega
            case rel => exact ⟨k + 1, by omega, rfl, by simp, HA2, vb_d hb⟩
      · have hI : ¬ ((k : Int) < (l.length : Int)) := by omega
        have hI2 : ¬ ((k : Int) < (m.length : Int)) := by omega
        have HE : Hid (decide (l = m) = true) := hid_intro (decide_eq_true (List.ext_getElem hlen (fun i h1 h2 => by
          have := HA.out i (by omega)
          rwa [ra_get h1, ra_get h2] at this)))
        clear HA hlt hk hlen hd
        go_wp2_with fail
        rw [HP.out, HE.out]
        exact ⟨rfl, hb⟩
  · have hd : ((l.length : Int) != (m.length : Int)) = true := by simp; omega
    have e : decide (l = m) = false := decide_eq_false (fun e => hlen (by rw [e]))
    rw [e]
    clear hlen
    go_enter Tryz.func139, Tryz.ntmps139
    go_wp2_with fail
    go_ret
    exact ⟨rfl, Below.refl _ _⟩


set_option maxRecDepth 100000 in
set_option maxHeartbeats 1600000 in
theorem isSet_any (l : List (Int × Int)) (v : Value) (w : World) (X : Nat → Prop) (hR : RI w X l v) (hl : l.length ≤ 1099511627776) :
    Calls Tryz.prog 125 #[v] w fun r w' => r = .returned (.bool (decide (mergeL l = l))) ∧ Below w.heap.size w w' := by
  have hm := merge_any l v w X hR hl
  have HR := hid_intro hR
  clear hR
  obtain ⟨P, hP⟩ : ∃ P : Ending → World → Prop, P = fun r w' => r = .returned (.bool (decide (mergeL l = l))) ∧ Below w.heap.size w w' := ⟨_, rfl⟩
  rw [← hP]
  have HP := hid_intro hP
  clear hP
  go_enter Tryz.func125, Tryz.ntmps125
  go_wp2_with fail
  refine hm.mono ?_; rintro r w1 ⟨v1, rfl, ho1, hb1⟩
  have he := equal_any (mergeL l) l v1 v w1 (fun _ => False) X (ho1.ri _ (fun _ _ h => h)) (HR.out.kept hb1)
  clear ho1
  go_wp2_with fail
  refine he.mono ?_; rintro r w2 ⟨rfl, hb2⟩
  go_wp2_with fail
  rw [HP.out]
  exact ⟨rfl, vb_t hb1 hb2⟩
end Go.Proofs.YtoinlmfodmgohaaGreatDoor

namespace Go.Proofs.YtoinlmfodmgohaaGreatDoor
open Go.RowKit
attribute [local go_sem] setCell_drewN alloc_drewN

set_option maxRecDepth 100000 in
set_option maxHeartbeats 800000 in
theorem noCount_any (k : Int) (a d : Option Addr) (n c m e : Nat) (lo hi : Int) (z : Bool) (w : World) :
    Calls Tryz.prog 124 #[.agg #[.int .i64 k, .slice a n c, .int .i64 lo, .int .i64 hi, .bool z, .slice d m e]] w fun r w' => r = .returned (.bool (noCnt lo hi z)) ∧ Below w.heap.size w w' := by
  obtain ⟨P, hP⟩ : ∃ P : Ending → World → Prop, P = fun r w' => r = .returned (.bool (noCnt lo hi z)) ∧ Below w.heap.size w w' := ⟨_, rfl⟩
  rw [← hP]
  have HP := hid_intro hP
  clear hP
  go_enter Tryz.func124, Tryz.ntmps124
  by_cases h1 : lo = 0
  · subst h1
    by_cases h2 : hi = 0
    · subst h2
      cases z
      · go_wp2_with fail
        rw [HP.out]
        exact ⟨ret_bool (by simp [noCnt]), vb_a (Below.refl _ _) _⟩
      · go_wp2_with fail
        rw [HP.out]
        exact ⟨ret_bool (by simp [noCnt]), vb_a (Below.refl _ _) _⟩
    · go_wp2_with fail
      rw [HP.out]
      exact ⟨ret_bool (by simp [noCnt, h2]), vb_a (Below.refl _ _) _⟩
  · go_wp2_with fail
    rw [HP.out]
    exact ⟨ret_bool (by simp [noCnt, h1]), vb_a (Below.refl _ _) _⟩
set_option maxRecDepth 100000 in
set_option maxHeartbeats 800000 in
theorem hasCount_any (k : Int) (a d : Option Addr) (n c m e : Nat) (lo hi : Int) (z : Bool) (w : World) :
    Calls Tryz.prog 126 #[.agg #[.int .i64 k, .slice a n c, .int .i64 lo, .int .i64 hi, .bool z, .slice d m e]] w fun r w' => r = .returned (.bool (hasCnt lo hi)) ∧ Below w.heap.size w w' := by
  obtain ⟨P, hP⟩ : ∃ P : Ending → World → Prop, P = fun r w' => r = .returned (.bool (hasCnt lo hi)) ∧ Below w.heap.size w w' := ⟨_, rfl⟩
  rw [← hP]
  have HP := hid_intro hP
  clear hP
  go_enter Tryz.func126, Tryz.ntmps126
  by_cases h1 : lo < 0
  · have HE : Hid (hasCnt lo hi = false) := hid_intro (by rw [hasCnt, decide_eq_false (by omega : ¬ 0 ≤ lo)]; simp)
    go_wp2_with fail
    rw [HP.out, HE.out]
    exact ⟨rfl, vb_a (Below.refl _ _) _⟩
  · by_cases h2 : lo > 1000
    · have HE : Hid (hasCnt lo hi = false) := hid_intro (by rw [hasCnt, decide_eq_false (by omega : ¬ lo ≤ 1000)]; simp)
      go_wp2_with fail
      rw [HP.out, HE.out]
      exact ⟨rfl, vb_a (Below.refl _ _) _⟩
    · by_cases h3 : hi = -1
      · have HE : Hid (hasCnt lo hi = true) := hid_intro (by rw [hasCnt, decide_eq_true (by omega : 0 ≤ lo), decide_eq_true (by omega : lo ≤ 1000), decide_eq_true h3]; simp)
        subst h3
        go_wp2_with fail
        rw [HP.out, HE.out]
        exact ⟨rfl, vb_a (Below.refl _ _) _⟩
      · by_cases h4 : lo ≤ hi
        · by_cases h5 : hi ≤ 1000
          · have HE : Hid (hasCnt lo hi = true) := hid_intro (by rw [hasCnt, decide_eq_true (by omega : 0 ≤ lo), decide_eq_true (by omega : lo ≤ 1000), decide_eq_true h4, decide_eq_true h5]; simp)
            go_wp2_with fail
            rw [HP.out, HE.out]
            exact ⟨rfl, vb_a (Below.refl _ _) _⟩
          · have HE : Hid (hasCnt lo hi = false) := hid_intro (by rw [hasCnt, decide_eq_false h5, decide_eq_false h3]; simp)
            go_wp2_with fail
            rw [HP.out, HE.out]
            exact ⟨ret_bool (by simp [h3]), vb_a (Below.refl _ _) _⟩
        · have HE : Hid (hasCnt lo hi = false) := hid_intro (by rw [hasCnt, decide_eq_false h4, decide_eq_false h3]; simp)
          go_wp2_with fail
          rw [HP.out, HE.out]
          exact ⟨ret_bool (by simp [h3]), vb_a (Below.refl _ _) _⟩
end Go.Proofs.YtoinlmfodmgohaaGreatDoor

namespace Go.Proofs.YtoinlmfodmgohaaGreatDoor
open Go.RowKit
attribute [local go_sem] setCell_drewN alloc_drewN

theorem ownB_a {k : Int} (hk : k = 1 ∨ k = 6 ∨ k = 7 ∨ k = 8 ∨ k = 9) (r : List (Int × Int)) (lo hi : Int) (z : Bool) (n : Nat) : ownB k r lo hi z n = (decide (n = 0) && decide (r.length = 0) && noCnt lo hi z) := if_pos hk
theorem ownB_2 (r : List (Int × Int)) (lo hi : Int) (z : Bool) (n : Nat) : ownB 2 r lo hi z n = (decide (n = 0) && decide (mergeL r = r) && noCnt lo hi z) := rfl
theorem ownB_34 {k : Int} (hk : k = 3 ∨ k = 4) (r : List (Int × Int)) (lo hi : Int) (z : Bool) (n : Nat) : ownB k r lo hi z n = (decide (2 ≤ n) && decide (r.length = 0) && noCnt lo hi z) := by
  unfold ownB; rw [if_neg (by omega), if_neg (by omega), if_pos hk]
theorem ownB_5 (r : List (Int × Int)) (lo hi : Int) (z : Bool) (n : Nat) : ownB 5 r lo hi z n = (decide (n = 1) && decide (r.length = 0) && hasCnt lo hi) := rfl
theorem ownB_no {k : Int} (h1 : ¬ (k = 1 ∨ k = 6 ∨ k = 7 ∨ k = 8 ∨ k = 9)) (h2 : ¬ k = 2) (h3 : ¬ (k = 3 ∨ k = 4)) (h5 : ¬ k = 5) (r : List (Int × Int)) (lo hi : Int) (z : Bool) (n : Nat) : ownB k r lo hi z n = false := by
  unfold ownB; rw [if_neg h1, if_neg h2, if_neg h3, if_neg h5]

set_option maxRecDepth 100000 in
set_option maxHeartbeats 3200000 in
theorem own_any (k : Int) (r : List (Int × Int)) (a : Option Addr) (c : Nat) (lo hi : Int) (z : Bool) (d : Option Addr) (n e : Nat) (w : World) (X : Nat → Prop) (hR : RI w X r (.slice a r.length c)) (hl : r.length ≤ 1099511627776) :
    Calls Tryz.prog 99 #[.agg #[.int .i64 k, .slice a r.length c, .int .i64 lo, .int .i64 hi, .bool z, .slice d n e]] w fun r' w' => r' = .returned (.bool (ownB k r lo hi z n)) ∧ Below w.heap.size w w' := by
  obtain ⟨P, hP⟩ : ∃ P : Ending → World → Prop, P = fun r' w' => r' = .returned (.bool (ownB k r lo hi z n)) ∧ Below w.heap.size w w' := ⟨_, rfl⟩
  rw [← hP]
  have HP := hid_intro hP
  clear hP
  have HNC := hid_intro (fun k w' => noCount_any k a d r.length c n e lo hi z w')
  have HHC := hid_intro (fun k w' => hasCount_any k a d r.length c n e lo hi z w')
  have HIS := hid_intro (fun w' (hb : Below w.heap.size w w') => isSet_any r (.slice a r.length c) w' X (hR.kept hb) hl)
  clear hR hl
  by_cases hk1 : k = 1 ∨ k = 6 ∨ k = 7 ∨ k = 8 ∨ k = 9
  · have hO := ownB_a hk1 r lo hi z n
    clear HHC HIS
    generalize ownB k r lo hi z n = ob at *
    generalize noCnt lo hi z = nb at *
    generalize r.length = m at *
    by_cases hn : n = 0
    · have hnI : (n : Int) = 0 := by omega
      rw [decide_eq_true hn] at hO
      by_cases hm : m = 0
      · have hmI : (m : Int) = 0 := by omega
        rw [decide_eq_true hm] at hO
        have HE : Hid (ob = nb) := hid_intro hO
        clear hO hn hm
        rcases hk1 with rfl | rfl | rfl | rfl | rfl
        all_goals
          go_enter Tryz.func99, Tryz.ntmps99
          go_wp2_with fail
          refine (HNC.out _ _).mono ?_; rintro r' w1 ⟨rfl, hb1⟩
          have HB := hid_intro (vb_t (vb_a (Below.refl _ _) _) hb1)
          clear hb1
          go_wp2_with fail
          rw [HP.out, HE.out]
          exact ⟨rfl, HB.out⟩
      · have hmI : ¬ (m : Int) = 0 := by omega
        rw [decide_eq_false hm] at hO
        have HE : Hid (ob = false) := hid_intro hO
        clear hO hn hm
        rcases hk1 with rfl | rfl | rfl | rfl | rfl
        all_goals
          go_enter Tryz.func99, Tryz.ntmps99
          go_wp2_with fail
          rw [HP.out, HE.out]
          exact ⟨rfl, vb_a (Below.refl _ _) _⟩
    · have hnI : ¬ (n : Int) = 0 := by omega
      rw [decide_eq_false hn] at hO
      have HE : Hid (ob = false) := hid_intro hO
      clear hO hn
      rcases hk1 with rfl | rfl | rfl | rfl | rfl
      all_goals
        go_enter Tryz.func99, Tryz.ntmps99
        go_wp2_with fail
        rw [HP.out, HE.out]
        exact ⟨rfl, vb_a (Below.refl _ _) _⟩
  · by_cases hk2 : k = 2
    · subst hk2
      have hO := ownB_2 r lo hi z n
      clear HHC
      generalize ownB 2 r lo hi z n = ob at *
      generalize noCnt lo hi z = nb at *
      generalize decide (mergeL r = r) = sb at *
      generalize r.length = m at *
      by_cases hn : n = 0
      · have hnI : (n : Int) = 0 := by omega
        rw [decide_eq_true hn] at hO
        cases sb
        · have HE : Hid (ob = false) := hid_intro hO
          clear hO hn
          go_enter Tryz.func99, Tryz.ntmps99
          go_wp2_with fail
          refine (HIS.out _ (vb_a (Below.refl _ _) _)).mono ?_; rintro r' w1 ⟨rfl, hb1⟩
          have HB := hid_intro (vb_t (vb_a (Below.refl _ _) _) hb1)
          clear hb1
          go_wp2_with fail
          rw [HP.out, HE.out]
          exact ⟨rfl, HB.out⟩
        · have HE : Hid (ob = nb) := hid_intro hO
          clear hO hn
          go_enter Tryz.func99, Tryz.ntmps99
          go_wp2_with fail
          refine (HIS.out _ (vb_a (Below.refl _ _) _)).mono ?_; rintro r' w1 ⟨rfl, hb1⟩
          have kX := (Bk.new w #[.int .i64 2, .slice a m c, .int .i64 lo, .int .i64 hi, .bool z, .slice d n e] 31).bel hb1
          obtain ⟨a0, a1, a2, a3, a4, a5⟩ := kX.c6
          have HB := hid_intro (vb_t (vb_a (Below.refl _ _) _) hb1)
          clear hb1 kX
          go_wp2_with fail
          refine (HNC.out _ _).mono ?_; rintro r' w2 ⟨rfl, hb2⟩
          have HB2 := hid_intro (vb_t HB.out hb2)
          clear hb2 a0 a1 a2 a3 a4 a5
          go_wp2_with fail
          rw [HP.out, HE.out]
          exact ⟨rfl, HB2.out⟩
      · have hnI : ¬ (n : Int) = 0 := by omega
        rw [decide_eq_false hn] at hO
        have HE : Hid (ob = false) := hid_intro hO
        clear hO hn HIS
        go_enter Tryz.func99, Tryz.ntmps99
        go_wp2_with fail
        rw [HP.out, HE.out]
        exact ⟨rfl, vb_a (Below.refl _ _) _⟩
    · by_cases hk3 : k = 3 ∨ k = 4
      · have hO := ownB_34 hk3 r lo hi z n
        clear HHC HIS
        generalize ownB k r lo hi z n = ob at *
        generalize noCnt lo hi z = nb at *
        generalize r.length = m at *
        by_cases hn : 2 ≤ n
        · have hnI : (2 : Int) ≤ (n : Int) := by omega
          rw [decide_eq_true hn] at hO
          by_cases hm : m = 0
          · have hmI : (m : Int) = 0 := by omega
            rw [decide_eq_true hm] at hO
            have HE : Hid (ob = nb) := hid_intro hO
            clear hO hn hm hk1 hk2
            rcases hk3 with rfl | rfl
            all_goals
              go_enter Tryz.func99, Tryz.ntmps99
              go_wp2_with fail
              refine (HNC.out _ _).mono ?_; rintro r' w1 ⟨rfl, hb1⟩
              have HB := hid_intro (vb_t (vb_a (Below.refl _ _) _) hb1)
              clear hb1
              go_wp2_with fail
              rw [HP.out, HE.out]
              exact ⟨rfl, HB.out⟩
          · have hmI : ¬ (m : Int) = 0 := by omega
            rw [decide_eq_false hm] at hO
            have HE : Hid (ob = false) := hid_intro hO
            clear hO hn hm hk1 hk2
            rcases hk3 with rfl | rfl
            all_goals
              go_enter Tryz.func99, Tryz.ntmps99
              go_wp2_with fail
              rw [HP.out, HE.out]
              exact ⟨rfl, vb_a (Below.refl _ _) _⟩
        · have hnI : ¬ (2 : Int) ≤ (n : Int) := by omega
          rw [decide_eq_false hn] at hO
          have HE : Hid (ob = false) := hid_intro hO
          clear hO hn hk1 hk2
          rcases hk3 with rfl | rfl
          all_goals
            go_enter Tryz.func99, Tryz.ntmps99
            go_wp2_with fail
            rw [HP.out, HE.out]
            exact ⟨rfl, vb_a (Below.refl _ _) _⟩
      · by_cases hk5 : k = 5
        · subst hk5
          have hO := ownB_5 r lo hi z n
          clear HNC HIS
          generalize ownB 5 r lo hi z n = ob at *
          generalize hasCnt lo hi = nb at *
          generalize r.length = m at *
          by_cases hn : n = 1
          · have hnI : (n : Int) = 1 := by omega
            rw [decide_eq_true hn] at hO
            by_cases hm : m = 0
            · have hmI : (m : Int) = 0 := by omega
              rw [decide_eq_true hm] at hO
              have HE : Hid (ob = nb) := hid_intro hO
              clear hO hn hm
              go_enter Tryz.func99, Tryz.ntmps99
              go_wp2_with fail
              refine (HHC.out _ _).mono ?_; rintro r' w1 ⟨rfl, hb1⟩
              have HB := hid_intro (vb_t (vb_a (Below.refl _ _) _) hb1)
              clear hb1
              go_wp2_with fail
              rw [HP.out, HE.out]
              exact ⟨rfl, HB.out⟩
            · have hmI : ¬ (m : Int) = 0 := by omega
              rw [decide_eq_false hm] at hO
              have HE : Hid (ob = false) := hid_intro hO
              clear hO hn hm
              go_enter Tryz.func99, Tryz.ntmps99
              go_wp2_with fail
              rw [HP.out, HE.out]
              exact ⟨rfl, vb_a (Below.refl _ _) _⟩
          · have hnI : ¬ (n : Int) = 1 := by omega
            rw [decide_eq_false hn] at hO
            have HE : Hid (ob = false) := hid_intro hO
            clear hO hn
            go_enter Tryz.func99, Tryz.ntmps99
            go_wp2_with fail
            rw [HP.out, HE.out]
            exact ⟨rfl, vb_a (Below.refl _ _) _⟩
        · have HE := hid_intro (ownB_no hk1 hk2 hk3 hk5 r lo hi z n)
          have q1 : ¬ k = 1 := by omega
          have q6 : ¬ k = 6 := by omega
          have q7 : ¬ k = 7 := by omega
          have q8 : ¬ k = 8 := by omega
          have q9 : ¬ k = 9 := by omega
          have q3 : ¬ k = 3 := by omega
          have q4 : ¬ k = 4 := by omega
          clear HNC HHC HIS hk1 hk3
          go_enter Tryz.func99, Tryz.ntmps99
          go_wp2_with fail
          rw [HP.out, HE.out]
          exact ⟨rfl, vb_a (Below.refl _ _) _⟩
end Go.Proofs.YtoinlmfodmgohaaGreatDoor

namespace Go.Proofs.YtoinlmfodmgohaaGreatDoor

mutual
/-- A tree's states, without the last one. -/
def szX : RX → Nat
  | .mk k _ lo hi _ s =>
    if k = 1 then 0
    else if k = 3 then szL s
    else if k = 4 then szL s + (s.length - 1) * 2
    else if k = 5 then (if hi = -1 then lo.toNat * szL s + (szL s + 2) else lo.toNat * szL s + (hi - lo).toNat * (szL s + 1))
    else 1
def szL : List RX → Nat
  | [] => 0
  | x :: l => szX x + szL l
end
theorem szL_append : ∀ (l m : List RX), szL (l ++ m) = szL l + szL m
  | [], m => by simp [szL]
  | x :: l, m => by simp only [List.cons_append, szL, szL_append l m]; omega
theorem szL_take (l : List RX) (i : Nat) (h : i < l.length) : szL (l.take (i + 1)) = szL (l.take i) + szX l[i] := by
  rw [List.take_add_one, List.getElem?_eq_getElem h, szL_append]
  simp [szL]
/-- What the counter's sum is. -/
theorem cap_plus (a b L : Nat) : min (min a L + min b L) L = min (a + b) L := by omega
theorem cap_times (n a L : Nat) : min (n * min a L) L = min (n * a) L := by
  by_cases h : a ≤ L
  · rw [Nat.min_eq_left h]
  · have hL : L ≤ a := by omega
    rw [Nat.min_eq_right hL]
    cases n with
    | zero => simp
    | succ n =>
      have h1 : L ≤ (n + 1) * L := by rw [Nat.succ_mul]; omega
      have h2 : (n + 1) * L ≤ (n + 1) * a := Nat.mul_le_mul_left _ hL
      omega
/-- The question of the counter's product. -/
theorem times_lt (n a L : Nat) (hn : 0 < n) : L / n < a ↔ L < n * a := by
  rw [Nat.div_lt_iff_lt_mul hn, Nat.mul_comm]
/-- Right trees: what the counting leans on. -/
theorem right_parts {d : Nat} {k : Int} {r : List (Int × Int)} {lo hi : Int} {z : Bool} {s : List RX} (h : rightB d (.mk k r lo hi z s) = true) :
    (∃ e, d = e + 1 ∧ ∀ x ∈ s, rightB e x = true) ∧ (k = 4 → 2 ≤ s.length) ∧ (k = 5 → s.length = 1 ∧ 0 ≤ lo ∧ lo ≤ 1000 ∧ (hi = -1 ∨ lo ≤ hi ∧ hi ≤ 1000)) := by
  cases d with
  | zero => simp [rightB] at h
  | succ d =>
    simp only [rightB, Bool.and_eq_true, List.all_eq_true] at h
    obtain ⟨⟨_, hk⟩, ha⟩ := h
    refine ⟨⟨d, rfl, ha⟩, fun e => ?_, fun e => ?_⟩
    · subst e
      simp [kindB] at hk
      omega
    · subst e
      simp [kindB] at hk
      omega
end Go.Proofs.YtoinlmfodmgohaaGreatDoor

namespace Go.Proofs.YtoinlmfodmgohaaGreatDoor
open Go.RowKit
attribute [local go_sem] setCell_drewN alloc_drewN

set_option maxRecDepth 100000 in
set_option maxHeartbeats 800000 in
theorem plus_any (L a b : Int) (hL0 : 0 ≤ L) (hL : L ≤ 9223372036854775807) (ha : 0 ≤ a) (hb : 0 ≤ b) (w : World) :
    Calls Tryz.prog 43 #[.agg #[.int .i64 L], .int .i64 a, .int .i64 b] w fun r w' => r = .returned (.int .i64 (min (a + b) L)) ∧ Below w.heap.size w w' := by
  obtain ⟨P, hP⟩ : ∃ P : Ending → World → Prop, P = fun r w' => r = .returned (.int .i64 (min (a + b) L)) ∧ Below w.heap.size w w' := ⟨_, rfl⟩
  rw [← hP]
  have HP := hid_intro hP
  clear hP
  go_enter Tryz.func43, Tryz.ntmps43
  by_cases h1 : a ≥ L
  · have HE : Hid (min (a + b) L = L) := hid_intro (by omega)
    go_wp2_with fail
    rw [HP.out, HE.out]
    exact ⟨rfl, vb_a (Below.refl _ _) _⟩
  · by_cases h2 : b ≥ L - a
    · have HE : Hid (min (a + b) L = L) := hid_intro (by omega)
      go_wp2_with fail
      rw [HP.out, HE.out]
      exact ⟨rfl, vb_a (Below.refl _ _) _⟩
    · have HE : Hid (min (a + b) L = a + b) := hid_intro (by omega)
      go_wp2_with fail
      rw [HP.out, HE.out]
      exact ⟨rfl, vb_a (Below.refl _ _) _⟩
set_option maxRecDepth 100000 in
set_option maxHeartbeats 800000 in
theorem times_any (L n a : Int) (hL0 : 0 ≤ L) (hL : L ≤ 9223372036854775807) (hn : 0 ≤ n) (ha : 0 ≤ a) (w : World) :
    Calls Tryz.prog 68 #[.agg #[.int .i64 L], .int .i64 n, .int .i64 a] w fun r w' => r = .returned (.int .i64 (min (n * a) L)) ∧ Below w.heap.size w w' := by
  obtain ⟨P, hP⟩ : ∃ P : Ending → World → Prop, P = fun r w' => r = .returned (.int .i64 (min (n * a) L)) ∧ Below w.heap.size w w' := ⟨_, rfl⟩
  rw [← hP]
  have HP := hid_intro hP
  clear hP
  go_enter Tryz.func68, Tryz.ntmps68
  by_cases h1 : n > 0
  · have hq0 : 0 ≤ L / n := Int.ediv_nonneg hL0 hn
    have hq1 : L / n ≤ L := Int.ediv_le_self _ hL0
    have hiff : L / n < a ↔ L < a * n := Int.ediv_lt_iff_lt_mul h1
    have hz : ¬ n = 0 := by omega
    by_cases h2 : a > L / n
    · have HE : Hid (min (n * a) L = L) := hid_intro (by have := hiff.1 h2; rw [Int.mul_comm] at this; omega)
      go_wp2_with fail
      rw [HP.out, HE.out]
      exact ⟨rfl, vb_a (Below.refl _ _) _⟩
    · have HE : Hid (min (n * a) L = n * a) := hid_intro (by have : ¬ L < a * n := fun h => h2 (hiff.2 h); rw [Int.mul_comm] at this; omega)
      have hm : n * a ≤ 9223372036854775807 := by have : ¬ L < a * n := fun h => h2 (hiff.2 h); rw [Int.mul_comm] at this; omega
      have hm0 : 0 ≤ n * a := Int.mul_nonneg hn ha
      go_wp2_with fail
      rw [HP.out, HE.out]
      exact ⟨rfl, vb_a (Below.refl _ _) _⟩
  · obtain rfl : n = 0 := by omega
    have HE : Hid (min (0 * a) L = 0) := hid_intro (by rw [Int.zero_mul]; omega)
    go_wp2_with fail
    rw [HP.out, HE.out]
    exact ⟨rfl, vb_a (Below.refl _ _) _⟩
end Go.Proofs.YtoinlmfodmgohaaGreatDoor
