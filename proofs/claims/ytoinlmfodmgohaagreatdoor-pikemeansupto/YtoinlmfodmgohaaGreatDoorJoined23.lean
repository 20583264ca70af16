/-
  A node's counts; whether ranges are a set, by the document's answer. Conditions: none.
  Has a node what its kind has, and nothing else: as the program asks it. Conditions: at most 2^40 ranges.
  How many states a tree has, and counting them up to a limit. No condition.
  The counter's sum and product. Conditions: nothing is below 0.
  The counter over rows of trees. Conditions: each tree's own count is known.
  Trees in which nothing is longer than a bound. No condition.
-/
import Derived.Test.YtoinlmfodmgohaaGreatDoorJoined8
import Derived.BigQuiet
import Derived.Test.YtoinlmfodmgohaaGreatDoorJoined22
import Derived.Test.YtoinlmfodmgohaaGreatDoorJoined5
import Derived.Deep.RegionHeld3
import Derived.Test.YtoinlmfodmgohaaGreatDoorJoined4
namespace Go.Proofs.YtoinlmfodmgohaaGreatDoor
open Go.RowKit
attribute [local go_sem] setCell_drewN alloc_drewN

set_option maxRecDepth 100000 in
set_option maxHeartbeats 800000 in
theorem noCount_any (k : Int) (a d : Option Addr) (n c m e : Nat) (lo hi : Int) (z : Bool) (w : World) :
    Calls Tryz.prog 124 #[.agg #[.int .i64 k, .slice a n c, .int .i64 lo, .int .i64 hi, .bool z, .slice d m e]] w fun r w' => r = .returned (.bool (noCnt lo hi z)) ∧ Below w.heap.size w w' := by
  obtain ⟨P, hP⟩ : ∃ P : Ending → World → Prop, P = fun r w' => r = .returned (.bool (noCnt lo hi z)) ∧ Below w.heap.size w w' := ⟨_, rfl⟩
  rw [← hP]
  have HP := hid_intro hP
  clear hP
  go_enter Tryz.func124, Tryz.ntmps124
  by_cases h1 : lo = 0
  · subst h1
    by_cases h2 : hi = 0
    · subst h2
      cases z
      · go_wp2_with fail
        rw [HP.out]
        exact ⟨ret_bool (by simp [noCnt]), vb_a (Below.refl _ _) _⟩
      · go_wp2_with fail
        rw [HP.out]
        exact ⟨ret_bool (by simp [noCnt]), vb_a (Below.refl _ _) _⟩
    · go_wp2_with fail
      rw [HP.out]
      exact ⟨ret_bool (by simp [noCnt, h2]), vb_a (Below.refl _ _) _⟩
  · go_wp2_with fail
    rw [HP.out]
    exact ⟨ret_bool (by simp [noCnt, h1]), vb_a (Below.refl _ _) _⟩
set_option maxRecDepth 100000 in
set_option maxHeartbeats 800000 in
theorem hasCount_any (k : Int) (a d : Option Addr) (n c m e : Nat) (lo hi : Int) (z : Bool) (w : World) :
    Calls Tryz.prog 126 #[.agg #[.int .i64 k, .slice a n c, .int .i64 lo, .int .i64 hi, .bool z, .slice d m e]] w fun r w' => r = .returned (.bool (hasCnt lo hi)) ∧ Below w.heap.size w w' := by
  obtain ⟨P, hP⟩ : ∃ P : Ending → World → Prop, P = fun r w' => r = .returned (.bool (hasCnt lo hi)) ∧ Below w.heap.size w w' := ⟨_, rfl⟩
  rw [← hP]
  have HP := hid_intro hP
  clear hP
  go_enter Tryz.func126, Tryz.ntmps126
  by_cases h1 : lo < 0
  · have HE : Hid (hasCnt lo hi = false) := hid_intro (by rw [hasCnt, decide_eq_false (by omega : ¬ 0 ≤ lo)]; simp)
    go_wp2_with fail
    rw [HP.out, HE.out]
    exact ⟨rfl, vb_a (Below.refl _ _) _⟩
  · by_cases h2 : lo > 1000
    · have HE : Hid (hasCnt lo hi = false) := hid_intro (by rw [hasCnt, decide_eq_false (by omega : ¬ lo ≤ 1000)]; simp)
      go_wp2_with fail
      rw [HP.out, HE.out]
      exact ⟨rfl, vb_a (Below.refl _ _) _⟩
    · by_cases h3 : hi = -1
      · have HE : Hid (hasCnt lo hi = true) := hid_intro (by rw [hasCnt, decide_eq_true (by omega : 0 ≤ lo), decide_eq_true (by omega : lo ≤ 1000), decide_eq_true h3]; simp)
        subst h3
        go_wp2_with fail
        rw [HP.out, HE.out]
        exact ⟨rfl, vb_a (Below.refl _ _) _⟩
      · by_cases h4 : lo ≤ hi
        · by_cases h5 : hi ≤ 1000
          · have HE : Hid (hasCnt lo hi = true) := hid_intro (by rw [hasCnt, decide_eq_true (by omega : 0 ≤ lo), decide_eq_true (by omega : lo ≤ 1000), decide_eq_true h4, decide_eq_true h5]; simp)
            go_wp2_with fail
            rw [HP.out, HE.out]
            exact ⟨rfl, vb_a (Below.refl _ _) _⟩
          · have HE : Hid (hasCnt lo hi = false) := hid_intro (by rw [hasCnt, decide_eq_false h5, decide_eq_false h3]; simp)
            go_wp2_with fail
            rw [HP.out, HE.out]
            exact ⟨ret_bool (by simp [h3]), vb_a (Below.refl _ _) _⟩
        · have HE : Hid (hasCnt lo hi = false) := hid_intro (by rw [hasCnt, decide_eq_false h4, decide_eq_false h3]; simp)
          go_wp2_with fail
          rw [HP.out, HE.out]
          exact ⟨ret_bool (by simp [h3]), vb_a (Below.refl _ _) _⟩
end Go.Proofs.YtoinlmfodmgohaaGreatDoor

namespace Go.Proofs.YtoinlmfodmgohaaGreatDoor
open Go.RowKit
attribute [local go_sem] setCell_drewN alloc_drewN

theorem ownB_a {k : Int} (hk : k = 1 ∨ k = 6 ∨ k = 7 ∨ k = 8 ∨ k = 9) (r : List (Int × Int)) (lo hi : Int) (z : Bool) (n : Nat) : ownB k r lo hi z n = (decide (n = 0) && decide (r.length = 0) && noCnt lo hi z) := if_pos hk
theorem ownB_2 (r : List (Int × Int)) (lo hi : Int) (z : Bool) (n : Nat) : ownB 2 r lo hi z n = (decide (n = 0) && decide (mergeL r = r) && noCnt lo hi z) := rfl
theorem ownB_34 {k : Int} (hk : k = 3 ∨ k = 4) (r : List (Int × Int)) (lo hi : Int) (z : Bool) (n : Nat) : ownB k r lo hi z n = (decide (2 ≤ n) && decide (r.length = 0) && noCnt lo hi z) := by
  unfold ownB; rw [if_neg (by omega), if_neg (by omega), if_pos hk]
theorem ownB_5 (r : List (Int × Int)) (lo hi : Int) (z : Bool) (n : Nat) : ownB 5 r lo hi z n = (decide (n = 1) && decide (r.length = 0) && hasCnt lo hi) := rfl
theorem ownB_no {k : Int} (h1 : ¬ (k = 1 ∨ k = 6 ∨ k = 7 ∨ k = 8 ∨ k = 9)) (h2 : ¬ k = 2) (h3 : ¬ (k = 3 ∨ k = 4)) (h5 : ¬ k = 5) (r : List (Int × Int)) (lo hi : Int) (z : Bool) (n : Nat) : ownB k r lo hi z n = false := by
  unfold ownB; rw [if_neg h1, if_neg h2, if_neg h3, if_neg h5]

set_option maxRecDepth 100000 in
set_option maxHeartbeats 3200000 in
theorem own_any (k : Int) (r : List (Int × Int)) (a : Option Addr) (c : Nat) (lo hi : Int) (z : Bool) (d : Option Addr) (n e : Nat) (w : World) (X : Nat → Prop) (hR : RI w X r (.slice a r.length c)) (hl : r.length ≤ 1099511627776) :
    Calls Tryz.prog 99 #[.agg #[.int .i64 k, .slice a r.length c, .int .i64 lo, .int .i64 hi, .bool z, .slice d n e]] w fun r' w' => r' = .returned (.bool (ownB k r lo hi z n)) ∧ Below w.heap.size w w' := by
  obtain ⟨P, hP⟩ : ∃ P : Ending → World → Prop, P = fun r' w' => r' = .returned (.bool (ownB k r lo hi z n)) ∧ Below w.heap.size w w' := ⟨_, rfl⟩
  rw [← hP]
  have HP := hid_intro hP
  clear hP
  have HNC := hid_intro (fun k w' => noCount_any k a d r.length c n e lo hi z w')
  have HHC := hid_intro (fun k w' => hasCount_any k a d r.length c n e lo hi z w')
  have HIS := hid_intro (fun w' (hb : Below w.heap.size w w') => isSet_any r (.slice a r.length c) w' X (hR.kept hb) hl)
  clear hR hl
  by_cases hk1 : k = 1 ∨ k = 6 ∨ k = 7 ∨ k = 8 ∨ k = 9
  · have hO := ownB_a hk1 r lo hi z n
    clear HHC HIS
    generalize ownB k r lo hi z n = ob at *
    generalize noCnt lo hi z = nb at *
    generalize r.length = m at *
    by_cases hn : n = 0
    · have hnI : (n : Int) = 0 := by omega
      rw [decide_eq_true hn] at hO
      by_cases hm : m = 0
      · have hmI : (m : Int) = 0 := by omega
        rw [decide_eq_true hm] at hO
        have HE : Hid (ob = nb) := hid_intro hO
        clear hO hn hm
        rcases hk1 with rfl | rfl | rfl | rfl | rfl
        all_goals
          go_enter Tryz.func99, Tryz.ntmps99
          go_wp2_with fail
          refine (HNC.out _ _).mono ?_; rintro r' w1 ⟨rfl, hb1⟩
          have HB := hid_intro (vb_t (vb_a (Below.refl _ _) _) hb1)
          clear hb1
          go_wp2_with fail
          rw [HP.out, HE.out]
          exact ⟨rfl, HB.out⟩
      · have hmI : ¬ (m : Int) = 0 := by omega
        rw [decide_eq_false hm] at hO
        have HE : Hid (ob = false) := hid_intro hO
        clear hO hn hm
        rcases hk1 with rfl | rfl | rfl | rfl | rfl
        all_goals
          go_enter Tryz.func99, Tryz.ntmps99
          go_wp2_with fail
          rw [HP.out, HE.out]
          exact ⟨rfl, vb_a (Below.refl _ _) _⟩
    · have hnI : ¬ (n : Int) = 0 := by omega
      rw [decide_eq_false hn] at hO
      have HE : Hid (ob = false) := hid_intro hO
      clear hO hn
      rcases hk1 with rfl | rfl | rfl | rfl | rfl
      all_goals
        go_enter Tryz.func99, Tryz.ntmps99
        go_wp2_with fail
        rw [HP.out, HE.out]
        exact ⟨rfl, vb_a (Below.refl _ _) _⟩
  · by_cases hk2 : k = 2
    · subst hk2
      have hO := ownB_2 r lo hi z n
      clear HHC
      generalize ownB 2 r lo hi z n = ob at *
      generalize noCnt lo hi z = nb at *
      generalize decide (mergeL r = r) = sb at *
      generalize r.length = m at *
      by_cases hn : n = 0
      · have hnI : (n : Int) = 0 := by omega
        rw [decide_eq_true hn] at hO
        cases sb
        · have HE : Hid (ob = false) := hid_intro hO
          clear hO hn
          go_enter Tryz.func99, Tryz.ntmps99
          go_wp2_with fail
          refine (HIS.out _ (vb_a (Below.refl _ _) _)).mono ?_; rintro r' w1 ⟨rfl, hb1⟩
          have HB := hid_intro (vb_t (vb_a (Below.refl _ _) _) hb1)
          clear hb1
          go_wp2_with fail
          rw [HP.out, HE.out]
          exact ⟨rfl, HB.out⟩
        · have HE : Hid (ob = nb) := hid_intro hO
          clear hO hn
          go_enter Tryz.func99, Tryz.ntmps99
          go_wp2_with fail
          refine (HIS.out _ (vb_a (Below.refl _ _) _)).mono ?_; rintro r' w1 ⟨rfl, hb1⟩
          have kX := (Bk.new w #[.int .i64 2, .slice a m c, .int .i64 lo, .int .i64 hi, .bool z, .slice d n e] 31).bel hb1
          obtain ⟨a0, a1, a2, a3, a4, a5⟩ := kX.c6
          have HB := hid_intro (vb_t (vb_a (Below.refl _ _) _) hb1)
          clear hb1 kX
          go_wp2_with fail
          refine (HNC.out _ _).mono ?_; rintro r' w2 ⟨rfl, hb2⟩
          have HB2 := hid_intro (vb_t HB.out hb2)
          clear hb2 a0 a1 a2 a3 a4 a5
          go_wp2_with fail
          rw [HP.out, HE.out]
          exact ⟨rfl, HB2.out⟩
      · have hnI : ¬ (n : Int) = 0 := by omega
        rw [decide_eq_false hn] at hO
        have HE : Hid (ob = false) := hid_intro hO
        clear hO hn HIS
        go_enter Tryz.func99, Tryz.ntmps99
        go_wp2_with fail
        rw [HP.out, HE.out]
        exact ⟨rfl, vb_a (Below.refl _ _) _⟩
    · by_cases hk3 : k = 3 ∨ k = 4
      · have hO := ownB_34 hk3 r lo hi z n
        clear HHC HIS
        generalize ownB k r lo hi z n = ob at *
        generalize noCnt lo hi z = nb at *
        generalize r.length = m at *
        by_cases hn : 2 ≤ n
        · have hnI : (2 : Int) ≤ (n : Int) := by omega
          rw [decide_eq_true hn] at hO
          by_cases hm : m = 0
          · have hmI : (m : Int) = 0 := by omega
            rw [decide_eq_true hm] at hO
            have HE : Hid (ob = nb) := hid_intro hO
            clear hO hn hm hk1 hk2
            rcases hk3 with rfl | rfl
            all_goals
              go_enter Tryz.func99, Tryz.ntmps99
              go_wp2_with fail
              refine (HNC.out _ _).mono ?_; rintro r' w1 ⟨rfl, hb1⟩
              have HB := hid_intro (vb_t (vb_a (Below.refl _ _) _) hb1)
              clear hb1
              go_wp2_with fail
              rw [HP.out, HE.out]
              exact ⟨rfl, HB.out⟩
          · have hmI : ¬ (m : Int) = 0 := by omega
            rw [decide_eq_false hm] at hO
            have HE : Hid (ob = false) := hid_intro hO
            clear hO hn hm hk1 hk2
            rcases hk3 with rfl | rfl
            all_goals
              go_enter Tryz.func99, Tryz.ntmps99
              go_wp2_with fail
              rw [HP.out, HE.out]
              exact ⟨rfl, vb_a (Below.refl _ _) _⟩
        · have hnI : ¬ (2 : Int) ≤ (n : Int) := by omega
          rw [decide_eq_false hn] at hO
          have HE : Hid (ob = false) := hid_intro hO
          clear hO hn hk1 hk2
          rcases hk3 with rfl | rfl
          all_goals
            go_enter Tryz.func99, Tryz.ntmps99
            go_wp2_with fail
            rw [HP.out, HE.out]
            exact ⟨rfl, vb_a (Below.refl _ _) _⟩
      · by_cases hk5 : k = 5
        · subst hk5
          have hO := ownB_5 r lo hi z n
          clear HNC HIS
          generalize ownB 5 r lo hi z n = ob at *
          generalize hasCnt lo hi = nb at *
          generalize r.length = m at *
          by_cases hn : n = 1
          · have hnI : (n : Int) = 1 := by omega
            rw [decide_eq_true hn] at hO
            by_cases hm : m = 0
            · have hmI : (m : Int) = 0 := by omega
              rw [decide_eq_true hm] at hO
              have HE : Hid (ob = nb) := hid_intro hO
              clear hO hn hm
              go_enter Tryz.func99, Tryz.ntmps99
              go_wp2_with fail
              refine (HHC.out _ _).mono ?_; rintro r' w1 ⟨rfl, hb1⟩
              have HB := hid_intro (vb_t (vb_a (Below.refl _ _) _) hb1)
              clear hb1
              go_wp2_with fail
              rw [HP.out, HE.out]
              exact ⟨rfl, HB.out⟩
            · have hmI : ¬ (m : Int) = 0 := by omega
              rw [decide_eq_false hm] at hO
              have HE : Hid (ob = false) := hid_intro hO
              clear hO hn hm
              go_enter Tryz.func99, Tryz.ntmps99
              go_wp2_with fail
              rw [HP.out, HE.out]
              exact ⟨rfl, vb_a (Below.refl _ _) _⟩
          · have hnI : ¬ (n : Int) = 1 := by omega
            rw [decide_eq_false hn] at hO
            have HE : Hid (ob = false) := hid_intro hO
            clear hO hn
            go_enter Tryz.func99, Tryz.ntmps99
            go_wp2_with fail
            rw [HP.out, HE.out]
            exact ⟨rfl, vb_a (Below.refl _ _) _⟩
        · have HE := hid_intro (ownB_no hk1 hk2 hk3 hk5 r lo hi z n)
          have q1 : ¬ k = 1 := by omega
          have q6 : ¬ k = 6 := by omega
          have q7 : ¬ k = 7 := by omega
          have q8 : ¬ k = 8 := by omega
          have q9 : ¬ k = 9 := by omega
          have q3 : ¬ k = 3 := by omega
          have q4 : ¬ k = 4 := by omega
          clear HNC HHC HIS hk1 hk3
          go_enter Tryz.func99, Tryz.ntmps99
          go_wp2_with fail
          rw [HP.out, HE.out]
          exact ⟨rfl, vb_a (Below.refl _ _) _⟩
end Go.Proofs.YtoinlmfodmgohaaGreatDoor

namespace Go.Proofs.YtoinlmfodmgohaaGreatDoor

mutual
/-- A tree's states, without the last one. -/
def szX : RX → Nat
  | .mk k _ lo hi _ s =>
    if k = 1 then 0
    else if k = 3 then szL s
    else if k = 4 then szL s + (s.length - 1) * 2
    else if k = 5 then (if hi = -1 then lo.toNat * szL s + (szL s + 2) else lo.toNat * szL s + (hi - lo).toNat * (szL s + 1))
    else 1
def szL : List RX → Nat
  | [] => 0
  | x :: l => szX x + szL l
end
theorem szL_append : ∀ (l m : List RX), szL (l ++ m) = szL l + szL m
  | [], m => by simp [szL]
  | x :: l, m => by simp only [List.cons_append, szL, szL_append l m]; omega
theorem szL_take (l : List RX) (i : Nat) (h : i < l.length) : szL (l.take (i + 1)) = szL (l.take i) + szX l[i] := by
  rw [List.take_add_one, List.getElem?_eq_getElem h, szL_append]
  simp [szL]
/-- What the counter's sum is. -/
theorem cap_plus (a b L : Nat) : min (min a L + min b L) L = min (a + b) L := by omega
theorem cap_times (n a L : Nat) : min (n * min a L) L = min (n * a) L := by
  by_cases h : a ≤ L
  · rw [Nat.min_eq_left h]
  · have hL : L ≤ a := by omega
    rw [Nat.min_eq_right hL]
    cases n with
    | zero => simp
    | succ n =>
      have h1 : L ≤ (n + 1) * L := by rw [Nat.succ_mul]; omega
      have h2 : (n + 1) * L ≤ (n + 1) * a := Nat.mul_le_mul_left _ hL
      omega
/-- The question of the counter's product. -/
theorem times_lt (n a L : Nat) (hn : 0 < n) : L / n < a ↔ L < n * a := by
  rw [Nat.div_lt_iff_lt_mul hn, Nat.mul_comm]
/-- Right trees: what the counting leans on. -/
theorem right_parts {d : Nat} {k : Int} {r : List (Int × Int)} {lo hi : Int} {z : Bool} {s : List RX} (h : rightB d (.mk k r lo hi z s) = true) :
    (∃ e, d = e + 1 ∧ ∀ x ∈ s, rightB e x = true) ∧ (k = 4 → 2 ≤ s.length) ∧ (k = 5 → s.length = 1 ∧ 0 ≤ lo ∧ lo ≤ 1000 ∧ (hi = -1 ∨ lo ≤ hi ∧ hi ≤ 1000)) := by
  cases d with
  | zero => simp [rightB] at h
  | succ d =>
    simp only [rightB, Bool.and_eq_true, List.all_eq_true] at h
    obtain ⟨⟨_, hk⟩, ha⟩ := h
    refine ⟨⟨d, rfl, ha⟩, fun e => ?_, fun e => ?_⟩
    · subst e
      simp [kindB] at hk
      omega
    · subst e
      simp [kindB] at hk
      omega
end Go.Proofs.YtoinlmfodmgohaaGreatDoor

namespace Go.Proofs.YtoinlmfodmgohaaGreatDoor
open Go.RowKit
attribute [local go_sem] setCell_drewN alloc_drewN

set_option maxRecDepth 100000 in
set_option maxHeartbeats 800000 in
theorem plus_any (L a b : Int) (hL0 : 0 ≤ L) (hL : L ≤ 9223372036854775807) (ha : 0 ≤ a) (hb : 0 ≤ b) (w : World) :
    Calls Tryz.prog 43 #[.agg #[.int .i64 L], .int .i64 a, .int .i64 b] w fun r w' => r = .returned (.int .i64 (min (a + b) L)) ∧ Below w.heap.size w w' := by
  obtain ⟨P, hP⟩ : ∃ P : Ending → World → Prop, P = fun r w' => r = .returned (.int .i64 (min (a + b) L)) ∧ Below w.heap.size w w' := ⟨_, rfl⟩
  rw [← hP]
  have HP := hid_intro hP
  clear hP
  go_enter Tryz.func43, Tryz.ntmps43
  by_cases h1 : a ≥ L
  · have HE : Hid (min (a + b) L = L) := hid_intro (by omega)
    go_wp2_with fail
    rw [HP.out, HE.out]
    exact ⟨rfl, vb_a (Below.refl _ _) _⟩
  · by_cases h2 : b ≥ L - a
    · have HE : Hid (min (a + b) L = L) := hid_intro (by omega)
      go_wp2_with fail
      rw [HP.out, HE.out]
      exact ⟨rfl, vb_a (Below.refl _ _) _⟩
    · have HE : Hid (min (a + b) L = a + b) := hid_intro (by omega)
      go_wp2_with fail
      rw [HP.out, HE.out]
      exact ⟨rfl, vb_a (Below.refl _ _) _⟩
set_option maxRecDepth 100000 in
set_option maxHeartbeats 800000 in
theorem times_any (L n a : Int) (hL0 : 0 ≤ L) (hL : L ≤ 9223372036854775807) (hn : 0 ≤ n) (ha : 0 ≤ a) (w : World) :
    Calls Tryz.prog 68 #[.agg #[.int .i64 L], .int .i64 n, .int .i64 a] w fun r w' => r = .returned (.int .i64 (min (n * a) L)) ∧ Below w.heap.size w w' := by
  obtain ⟨P, hP⟩ : ∃ P : Ending → World → Prop, P = fun r w' => r = .returned (.int .i64 (min (n * a) L)) ∧ Below w.heap.size w w' := ⟨_, rfl⟩
  rw [← hP]
  have HP := hid_intro hP
  clear hP
  go_enter Tryz.func68, Tryz.ntmps68
  by_cases h1 : n > 0
  · have hq0 : 0 ≤ L / n := Int.ediv_nonneg hL0 hn
    have hq1 : L / n ≤ L := Int.ediv_le_self _ hL0
    have hiff : L / n < a ↔ L < a * n := Int.ediv_lt_iff_lt_mul h1
    have hz : ¬ n = 0 := by omega
    by_cases h2 : a > L / n
    · have HE : Hid (min (n * a) L = L) := hid_intro (by have := hiff.1 h2; rw [Int.mul_comm] at this; omega)
      go_wp2_with fail
      rw [HP.out, HE.out]
      exact ⟨rfl, vb_a (Below.refl _ _) _⟩
    · have HE : Hid (min (n * a) L = n * a) := hid_intro (by have : ¬ L < a * n := fun h => h2 (hiff.2 h); rw [Int.mul_comm] at this; omega)
      have hm : n * a ≤ 9223372036854775807 := by have : ¬ L < a * n := fun h => h2 (hiff.2 h); rw [Int.mul_comm] at this; omega
      have hm0 : 0 ≤ n * a := Int.mul_nonneg hn ha
      go_wp2_with fail
      rw [HP.out, HE.out]
      exact ⟨rfl, vb_a (Below.refl _ _) _⟩
  · obtain rfl : n = 0 := by omega
    have HE : Hid (min (0 * a) L = 0) := hid_intro (by rw [Int.zero_mul]; omega)
    go_wp2_with fail
    rw [HP.out, HE.out]
    exact ⟨rfl, vb_a (Below.refl _ _) _⟩
end Go.Proofs.YtoinlmfodmgohaaGreatDoor

namespace Go.Proofs.YtoinlmfodmgohaaGreatDoor
open Go.RowKit
attribute [local go_sem] setCell_drewN alloc_drewN

/-- A tree's six cells are of their kinds. -/
def Six (g : Nat → Value) : Prop := ∃ k a n c lo hi z a' n' c', g 0 = .int .i64 k ∧ g 1 = .slice a n c ∧ g 2 = .int .i64 lo ∧ g 3 = .int .i64 hi ∧ g 4 = .bool z ∧ g 5 = .slice a' n' c'
theorem XI.six {w : World} {X : Nat → Prop} {t : RX} {f : Nat → Value} (h : XI w X t f) : Six f := by
  cases h with
  | mk ao cap G f0 f1 f2 f3 f4 f5 hc hw hl hr =>
    obtain ⟨a, c, e, _⟩ := f1.shape
    exact ⟨_, a, _, c, _, _, _, ao, _, cap, f0, e, f2, f3, f4, f5⟩
set_option maxRecDepth 100000 in
set_option maxHeartbeats 3200000 in
theorem all_any (L : Int) (hL0 : 0 ≤ L) (hL : L ≤ 9223372036854775807) (s : List RX) (ao : Option Addr) (cap : Nat) (G : Nat → Nat → Value) (w : World) (hc : s.length ≤ cap ∧ cap ≤ maxLen)
    (hl : s = [] ∨ ∃ b off, ao = some ⟨b, off, none⟩ ∧ ∀ i, i < s.length → ∀ j, j < 6 → w.cell? ⟨b, off + i * 6 + j, none⟩ = some (G i j))
    (hS : ∀ i, i < s.length → Six (G i))
    (hI : ∀ w' i (h : i < s.length), Below w.heap.size w w' → Calls Tryz.prog 44 #[.agg #[.int .i64 L], .agg #[G i 0, G i 1, G i 2, G i 3, G i 4, G i 5]] w' fun r w2 => r = .returned (.int .i64 (min (szX s[i] : Int) L)) ∧ Below w'.heap.size w' w2) :
    Calls Tryz.prog 67 #[.agg #[.int .i64 L], .slice ao s.length cap] w fun r w' => r = .returned (.int .i64 (min (szL s : Int) L)) ∧ Below w.heap.size w w' := by
  have hlI : (s.length : Int) ≤ 9223372036854775807 := by have := hc.1; have := hc.2; unfold maxLen at this; omega
  obtain ⟨P, hP⟩ : ∃ P : Ending → World → Prop, P = fun r w' => r = .returned (.int .i64 (min (szL s : Int) L)) ∧ Below w.heap.size w w' := ⟨_, rfl⟩
  rw [← hP]
  have HP := hid_intro hP
  clear hP
  have hpl := fun a b ha hb w' => plus_any L a b hL0 hL ha hb w'
  have HPL := hid_intro hpl
  have HL0 := hid_intro (And.intro hL0 hL)
  have HI := hid_intro hI
  have HS := hid_intro hS
  obtain ⟨W, hW⟩ : ∃ W, w.alloc (.cells #[.int .i64 L] 82) = W := ⟨_, rfl⟩
  have hbW : Below w.heap.size w W := by rw [← hW]; exact vb_a (Below.refl _ _) _
  have hA : Bk W w.heap.size #[.int .i64 L] := by rw [← hW]; exact Bk.new _ _ _
  have HW := hid_intro hW
  have HA := hid_intro hA
  have HX := hid_intro hbW
  have HL : Hid (∀ w', Below W.heap.size W w' → (s = [] ∨ ∃ b off, ao = some ⟨b, off, none⟩ ∧ ∀ i, i < s.length → ∀ j, j < 6 → w'.cell? ⟨b, off + i * 6 + j, none⟩ = some (G i j))) := hid_intro (fun w' hb => by
    rcases hl with hl | ⟨b, off, h1, h3⟩
    · exact .inl hl
    · exact .inr ⟨b, off, h1, fun i hi j hj => by rw [(vb_t hbW hb).cell (p := ⟨b, off + i * 6 + j, none⟩) (World.block_lt_of_cell? w _ (h3 i hi j hj))]; exact h3 i hi j hj⟩)
  clear hl hI hS hpl hL0 hL hW hA hbW hc
  go_enter Tryz.func67, Tryz.ntmps67
  go_wp2_with fail
  rw [HW.out]
  go_loopg [5, 10] s.length (fun me s5 s10 wr => ∃ j : Nat, j ≤ s.length ∧ me = s.length - j ∧ s5 = .int .i64 (min (szL (s.take j) : Int) L) ∧ s10 = .int .i64 (j : Int) ∧ Hid (Below W.heap.size W wr))
  case atStart => exact ⟨0, Nat.zero_le _, rfl, by have := HL0.out.1; simp [szL]; omega, rfl, Below.refl _ _⟩
  case round =>
    obtain ⟨j, hj, rfl, rfl, rfl, HZ⟩ := hrel
    by_cases hlt : j < s.length
    · have hJ : (j : Int) < (s.length : Int) := by omega
      obtain ⟨b, off, rfl, h3⟩ := (HL.out wr HZ.out).resolve_left (fun e => by rw [e] at hlt; exact absurd hlt (by simp))
      have g0 : wr.cell? ⟨b, off + j * 6, none⟩ = some (G j 0) := h3 j hlt 0 (by omega)
      have g1 := h3 j hlt 1 (by omega)
      have g2 := h3 j hlt 2 (by omega)
      have g3 := h3 j hlt 3 (by omega)
      have g4 := h3 j hlt 4 (by omega)
      have g5 := h3 j hlt 5 (by omega)
      have HC : Hid (∀ w', Below wr.heap.size wr w' → Calls Tryz.prog 44 #[.agg #[.int .i64 L], .agg #[G j 0, G j 1, G j 2, G j 3, G j 4, G j 5]] w' fun r w2 => r = .returned (.int .i64 (min (szX s[j] : Int) L)) ∧ Below w'.heap.size w' w2) := hid_intro (fun w' hb => HI.out w' j hlt (vb_t HX.out (vb_t HZ.out hb)))
      have hnn : (0 : Int) ≤ min (szL (s.take j) : Int) L ∧ (0 : Int) ≤ min (szX s[j] : Int) L := by have := HL0.out.1; omega
      have HPC := hid_intro (fun w' => HPL.out (min (szL (s.take j) : Int) L) (min (szX s[j] : Int) L) hnn.1 hnn.2 w')
      have HE : Hid (min (min (szL (s.take j) : Int) L + min (szX s[j] : Int) L) L = min (szL (s.take (j + 1)) : Int) L) := hid_intro (by
        rw [szL_take s j hlt]; have := HL0.out.1; omega)
      clear HL HI h3 hnn HPL
      generalize min (szL (s.take j) : Int) L = va at *
      generalize min (szX s[j] : Int) L = vb at *
      obtain ⟨x0, x1, x2, x3, x4, x5, x6, x7, x8, x9, e0, e1, e2, e3, e4, e5⟩ := HS.out j hlt
      rw [e0] at g0 HC
      rw [e1] at g1 HC
      rw [e2] at g2 HC
      rw [e3] at g3 HC
      rw [e4] at g4 HC
      rw [e5] at g5 HC
      clear e0 e1 e2 e3 e4 e5 HS
      obtain ⟨V, hV⟩ : ∃ V, wr.alloc (.cells #[.int .i64 x0, .slice x1 x2 x3, .int .i64 x4, .int .i64 x5, .bool x6, .slice x7 x8 x9] 31) = V := ⟨_, rfl⟩
      have hVb : Below wr.heap.size wr V := hV ▸ vb_a (Below.refl _ _) _
      have kV : Bk V wr.heap.size #[.int .i64 x0, .slice x1 x2 x3, .int .i64 x4, .int .i64 x5, .bool x6, .slice x7 x8 x9] := hV ▸ Bk.new _ _ _
      have kA : Bk V w.heap.size #[.int .i64 L] := (HA.out.bel HZ.out).bel hVb
      have HSV : Hid (∀ w', Below V.heap.size V w' → w'.cell? ⟨w.heap.size, 0, none⟩ = some (.int .i64 L) ∧ w'.cell? ⟨wr.heap.size, 0, none⟩ = some (.int .i64 x0) ∧ w'.cell? ⟨wr.heap.size, 1, none⟩ = some (.slice x1 x2 x3) ∧ w'.cell? ⟨wr.heap.size, 2, none⟩ = some (.int .i64 x4) ∧ w'.cell? ⟨wr.heap.size, 3, none⟩ = some (.int .i64 x5) ∧ w'.cell? ⟨wr.heap.size, 4, none⟩ = some (.bool x6) ∧ w'.cell? ⟨wr.heap.size, 5, none⟩ = some (.slice x7 x8 x9)) := hid_intro (fun w' hb => by
        obtain ⟨a0, a1, a2, a3, a4, a5⟩ := (kV.bel hb).c6
        exact ⟨(kA.bel hb).cell 0, a0, a1, a2, a3, a4, a5⟩)
      have HC2 : Hid (∀ w', Below V.heap.size V w' → Calls Tryz.prog 44 #[.agg #[.int .i64 L], .agg #[.int .i64 x0, .slice x1 x2 x3, .int .i64 x4, .int .i64 x5, .bool x6, .slice x7 x8 x9]] w' fun r w2 => r = .returned (.int .i64 vb) ∧ Below w'.heap.size w' w2) := hid_intro (fun w' hb => HC.out w' (vb_t hVb hb))
      have HV := hid_intro hV
      have HVb := hid_intro hVb
      clear hV hVb kV kA HC
      go_wp2_with fail
      rw [HV.out]
      clear g0 g1 g2 g3 g4 g5 HA
      go_region_held3 (fun w' => w'.cell? ⟨w.heap.size, 0, none⟩ = some (.int .i64 L) ∧ w'.cell? ⟨wr.heap.size, 0, none⟩ = some (.int .i64 x0) ∧ w'.cell? ⟨wr.heap.size, 1, none⟩ = some (.slice x1 x2 x3) ∧ w'.cell? ⟨wr.heap.size, 2, none⟩ = some (.int .i64 x4) ∧ w'.cell? ⟨wr.heap.size, 3, none⟩ = some (.int .i64 x5) ∧ w'.cell? ⟨wr.heap.size, 4, none⟩ = some (.bool x6) ∧ w'.cell? ⟨wr.heap.size, 5, none⟩ = some (.slice x7 x8 x9)) (first | (refine HSV.out _ ?_; with_reducible repeat (first | exact Below.refl _ _ | refine vb_d ?_ | refine vb_t ?_ hb4 | refine vb_t ?_ hb3)) | fail) (first | (go_at_call 44; refine (HC2.out _ ?_).mono ?_; (with_reducible repeat (first | exact Below.refl _ _ | refine vb_d ?_)); rintro r w3 ⟨rfl, hb3⟩) | (go_at_call 43; refine (HPC.out _).mono ?_; rintro r w4 ⟨rfl, hb4⟩) | fail)
      all_goals
        have HNX : Hid (Below W.heap.size W w4) := hid_intro (vb_t HZ.out (vb_t HVb.out (vb_t (by with_reducible repeat (first | exact Below.refl _ _ | refine vb_d ?_ | refine vb_t ?_ hb3)) hb4)))
        clear HSV HC2 HPC
        go_wp2_with fail
        go_roundg (s.length - (j + 1))
        case measure => omega
        case rel => exact ⟨j + 1, by omega, rfl, by rw [← HE.out], by simp, HNX⟩
    · have hJ : ¬ (j : Int) < (s.length : Int) := by omega
      have HE : Hid (szL (s.take j) = szL s) := hid_intro (by rw [List.take_of_length_le (by omega)])
      rw [HE.out]
      clear HL HI
      go_wp2_with fail
      rw [HP.out]
      exact ⟨rfl, vb_t HX.out HZ.out⟩
end Go.Proofs.YtoinlmfodmgohaaGreatDoor

namespace Go.Proofs.YtoinlmfodmgohaaGreatDoor

/-- Nothing in it is longer than N. -/
inductive BdX (N : Nat) : RX → Prop
  | mk {k : Int} {r : List (Int × Int)} {lo hi : Int} {z : Bool} {s : List RX} (h1 : r.length ≤ N) (h2 : s.length ≤ N) (h3 : ∀ c ∈ s, BdX N c) : BdX N (.mk k r lo hi z s)
theorem BdX.mono {N M : Nat} {v : RX} (h : BdX N v) (hle : N ≤ M) : BdX M v := by
  induction v using RX.ind with
  | h k r lo hi z s ih =>
    cases h with
    | mk h1 h2 h3 => exact .mk (by omega) (by omega) (fun c hc => ih c hc (h3 c hc))
theorem BdX.r {N : Nat} {k : Int} {r : List (Int × Int)} {lo hi : Int} {z : Bool} {s : List RX} (h : BdX N (.mk k r lo hi z s)) : r.length ≤ N := by cases h; assumption
theorem BdX.s {N : Nat} {k : Int} {r : List (Int × Int)} {lo hi : Int} {z : Bool} {s : List RX} (h : BdX N (.mk k r lo hi z s)) : ∀ c ∈ s, BdX N c := by cases h; assumption
theorem BdX.n {N : Nat} {k : Int} {r : List (Int × Int)} {lo hi : Int} {z : Bool} {s : List RX} (h : BdX N (.mk k r lo hi z s)) : s.length ≤ N := by cases h; assumption
end Go.Proofs.YtoinlmfodmgohaaGreatDoor
