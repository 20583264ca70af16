/-
  What means answers of the begin, the end and the borders of words. Conditions: at most 2^20 places.
-/
import Derived.Test.YtoinlmfodmgohaaGreatDoorExtraKYMeans1
import Derived.Test.YtoinlmfodmgohaaGreatDoorJoined45
namespace Go.Proofs.YtoinlmfodmgohaaGreatDoor
open Go.RowKit Go.Maps
attribute [local go_sem] setCell_drewN alloc_drewN

set_option maxRecDepth 100000 in
set_option maxHeartbeats 6400000 in
theorem means_8 (r : List (Int × Int)) (lo hi : Int) (z : Bool) (s : List RX) (t : List Int) (tv : Value) (hlt : t.length ≤ 1048576) : MnC (.mk 8 r lo hi z s) t tv := by
  intro f w hv hI p hp
  cases hv with
  | mk ao cap G f0 f1 f2 f3 f4 f5 hc hw hl hr =>
  obtain ⟨a1, c1, e1, _⟩ := f1.shape
  have exa : xa f = .agg #[.int .i64 8, .slice a1 r.length c1, .int .i64 lo, .int .i64 hi, .bool z, .slice ao s.length cap] := by unfold xa; rw [f0, e1, f2, f3, f4, f5]
  obtain ⟨ta, tc, rfl⟩ : ∃ ta tc, tv = .slice ta t.length tc := by obtain ⟨ta, tc, rfl, _⟩ := hI; exact ⟨ta, tc, rfl⟩
  obtain ⟨n, hn⟩ : ∃ n, t.length + 1 = n := ⟨_, rfl⟩
  have hnI : (n : Int) ≤ 1048577 := by omega
  have hlI : (s.length : Int) ≤ 9223372036854775807 := by have := hc.1; have := hc.2; unfold maxLen at this; omega
  have htI : (t.length : Int) + 1 ≤ 9223372036854775807 := by omega
  obtain ⟨P, hP⟩ : ∃ P : Ending → World → Prop, P = fun e w' => ∃ g, e = .returned (.slice (some ⟨g, 0, none⟩) n n) ∧ OwnI w' w.heap.size (.slice (some ⟨g, 0, none⟩) n n) (mkS n (MX (.mk 8 r lo hi z s) t p)) ∧ Below w.heap.size w w' := ⟨_, rfl⟩
  obtain ⟨W, hW⟩ : ∃ W, w.alloc (.cells #[.int .i64 8, .slice a1 r.length c1, .int .i64 lo, .int .i64 hi, .bool z, .slice ao s.length cap] 31) = W := ⟨_, rfl⟩
  have hbW : Below w.heap.size w W := hW ▸ vb_a (Below.refl _ _) _
  have kX : Bk W w.heap.size #[.int .i64 8, .slice a1 r.length c1, .int .i64 lo, .int .i64 hi, .bool z, .slice ao s.length cap] := hW ▸ Bk.new _ _ _
  have hmk : ∀ w, (Instr.makeSlice 32 (.int .i64 ((t.length : Int) + 1)) (.int .i64 ((t.length : Int) + 1))).run Tryz.prog w = .ok (.slice (some ⟨w.heap.size, 0, none⟩) n n) (w.alloc (.cells (madeCells #[.int .i64 0] n) 3)) := fun w => by
    have := make_int n (by omega) w
    rw [show ((n : Nat) : Int) = (t.length : Int) + 1 by omega] at this
    exact this
  have hm1 := made_int n (by omega) W w.heap.size hbW.size
  obtain ⟨W1, hW1⟩ : ∃ W1, W.alloc (.cells (madeCells #[.int .i64 0] n) 3) = W1 := ⟨_, rfl⟩
  have hb1 : Below W.heap.size W W1 := hW1 ▸ vb_a (Below.refl _ _) _
  rw [hW1] at hm1
  have hWs : W.heap.size = w.heap.size + 1 := by rw [← hW]; simp
  have hb01 := vb_t hbW hb1
  have hpn : p < n := by omega
  have hpI : (p : Int) < (n : Int) := by omega
  rw [exa, hn, ← hP]
  have HP := hid_intro hP
  have HW := hid_intro hW
  have HW1 := hid_intro hW1
  have HK := hid_intro (kX.bel hb1)
  have HB1 := hid_intro hb01
  have HM1 := hid_intro hm1
  have HN := hid_intro hn
  have HLI := hid_intro hlI
  have hc1 : W1.cell? ⟨W.heap.size, p, none⟩ = some (.int .i64 0) := by rw [hm1.mark hpn, mkS_0 hpn (fun h => h)]
  have hf1 : W1.frozen? ⟨W.heap.size, p, none⟩ = false := hm1.thaw p
  have HS1 : Hid (OwnI (W1.setCell ⟨W.heap.size, p, none⟩ (.int .i64 1)) w.heap.size (.slice (some ⟨W.heap.size, 0, none⟩) n n) (mkS n (fun q => q = p))) := hid_intro (hm1.put1 hpn (fun y _ => ⟨fun h => h.elim (fun h => h.elim) id, Or.inr⟩))
  have HBS : Hid (Below w.heap.size w (W1.setCell ⟨W.heap.size, p, none⟩ (.int .i64 1))) := hid_intro (vb_s hb01 hbW.size _)
  obtain ⟨k0, k1, k2, k3, k4, k5⟩ := (kX.bel hb1).c6
  have hAT := fun i (hi : i < t.length) => (hI.kept hb01).at hi
  have HW9 := hid_intro (fun c => rword_any c W1)
  clear hP hl hr hI exa f1 hWs kX hbW hb1 hb01 hm1 hn hlt hw hc hp hpn hlI
  have hpl : p ≤ t.length := by have := HN.out; omega
  by_cases h0 : 0 < p
  · obtain ⟨q, rfl⟩ : ∃ q, p = q + 1 := ⟨p - 1, by omega⟩
    obtain ⟨b, off, c', e, c0⟩ := hAT q (by omega)
    injection e with e1 e2 e3
    clear e2 e3
    subst e1
    have HA : Hid (wat t (((q + 1 : Nat) : Int) - 1) = wordB (ia t q)) := hid_intro (by
      have e : ((q + 1 : Nat) : Int) - 1 = (q : Int) := by omega
      rw [e]; unfold wat; rw [decide_eq_true ⟨by omega, by omega⟩]; simp)
    have j0 : (0 : Int) < (q : Int) + 1 := by omega
    have j1 : (q : Int) < (t.length : Int) := by omega
    have jz : decide ((q : Int) + 1 = 0) = false := decide_eq_false (by omega)
    have jn : (q : Int) + 1 < (n : Int) := by omega
    have h1 := HW9.out (ia t q)
    by_cases h2 : q + 1 < t.length
    · obtain ⟨b', off', c'', e, c1'⟩ := hAT (q + 1) h2
      injection e with e1 e2 e3
      injection e1 with e1
      injection e1 with e1 e4 _
      clear e2 e3
      subst e1 e4
      have HB : Hid (wat t ((q + 1 : Nat) : Int) = wordB (ia t (q + 1))) := hid_intro (by
        unfold wat; rw [decide_eq_true ⟨by omega, by omega⟩]; simp)
      have j2 : (q : Int) + 1 < (t.length : Int) := by omega
      have je : decide ((q : Int) + 1 = (t.length : Int)) = false := decide_eq_false (by omega)
      have h3 := HW9.out (ia t (q + 1))
      have HQ := hid_intro h2
      clear hAT h0 h2 hpl hpI
      cases wa : wordB (ia t q) <;> cases wb : wordB (ia t (q + 1))
      · rw [wa] at h1; rw [wb] at h3
        have HLB : Hid (letsB t (q + 1) 5 = false) := hid_intro (by unfold letsB bordB; rw [HA.out, HB.out, wa, wb]; rfl)
        clear wa wb HA HB
        go_enter Tryz.func23, Tryz.ntmps23
        go_wp2_with fail
        refine (h1).mono ?_; rintro e w1 ⟨rfl, hw1⟩
        rw [hw1]
        clear hw1
        go_wp2_with fail
        refine (h3).mono ?_; rintro e w1 ⟨rfl, hw1⟩
        rw [hw1]
        clear hw1
        clear j0 j1 j2 hnI htI hmk h1 h3 jz je jn
        go_wp2_with fail
        rw [HP.out]
        exact ⟨W.heap.size, rfl, HM1.out.turn (fun y _ => by rw [MX]; simp [HLB.out]), HB1.out⟩
      · rw [wa] at h1; rw [wb] at h3
        have HLB : Hid (letsB t (q + 1) 5 = true) := hid_intro (by unfold letsB bordB; rw [HA.out, HB.out, wa, wb]; rfl)
        clear wa wb HA HB
        go_enter Tryz.func23, Tryz.ntmps23
        go_wp2_with fail
        refine (h1).mono ?_; rintro e w1 ⟨rfl, hw1⟩
        rw [hw1]
        clear hw1
        go_wp2_with fail
        refine (h3).mono ?_; rintro e w1 ⟨rfl, hw1⟩
        rw [hw1]
        clear hw1
        clear j0 j1 j2 hnI htI hmk h1 h3 jz je
        go_wp2_with fail
        rw [HP.out]
        exact ⟨W.heap.size, rfl, HS1.out.turn (fun y _ => by rw [MX]; simp [HLB.out]), HBS.out⟩
      · rw [wa] at h1; rw [wb] at h3
        have HLB : Hid (letsB t (q + 1) 5 = true) := hid_intro (by unfold letsB bordB; rw [HA.out, HB.out, wa, wb]; rfl)
        clear wa wb HA HB
        go_enter Tryz.func23, Tryz.ntmps23
        go_wp2_with fail
        refine (h1).mono ?_; rintro e w1 ⟨rfl, hw1⟩
        rw [hw1]
        clear hw1
        go_wp2_with fail
        refine (h3).mono ?_; rintro e w1 ⟨rfl, hw1⟩
        rw [hw1]
        clear hw1
        clear j0 j1 j2 hnI htI hmk h1 h3 jz je
        go_wp2_with fail
        rw [HP.out]
        exact ⟨W.heap.size, rfl, HS1.out.turn (fun y _ => by rw [MX]; simp [HLB.out]), HBS.out⟩
      · rw [wa] at h1; rw [wb] at h3
        have HLB : Hid (letsB t (q + 1) 5 = false) := hid_intro (by unfold letsB bordB; rw [HA.out, HB.out, wa, wb]; rfl)
        clear wa wb HA HB
        go_enter Tryz.func23, Tryz.ntmps23
        go_wp2_with fail
        refine (h1).mono ?_; rintro e w1 ⟨rfl, hw1⟩
        rw [hw1]
        clear hw1
        go_wp2_with fail
        refine (h3).mono ?_; rintro e w1 ⟨rfl, hw1⟩
        rw [hw1]
        clear hw1
        clear j0 j1 j2 hnI htI hmk h1 h3 jz je jn
        go_wp2_with fail
        rw [HP.out]
        exact ⟨W.heap.size, rfl, HM1.out.turn (fun y _ => by rw [MX]; simp [HLB.out]), HB1.out⟩
    · have HB : Hid (wat t ((q + 1 : Nat) : Int) = false) := hid_intro (by
        unfold wat; rw [decide_eq_false (by omega)]; rfl)
      have j2 : decide ((q : Int) + 1 < (t.length : Int)) = false := decide_eq_false (by omega)
      have je : decide ((q : Int) + 1 = (t.length : Int)) = true := decide_eq_true (by omega)
      have HQ : Hid (q + 1 = t.length) := hid_intro (by omega)
      clear hAT h0 h2 hpl hpI
      cases wa : wordB (ia t q)
      · rw [wa] at h1
        have HLB : Hid (letsB t (q + 1) 5 = false) := hid_intro (by unfold letsB bordB; rw [HA.out, HB.out, wa]; rfl)
        clear wa HA HB
        go_enter Tryz.func23, Tryz.ntmps23
        go_wp2_with fail
        refine (h1).mono ?_; rintro e w1 ⟨rfl, hw1⟩
        rw [hw1]
        clear hw1
        clear j0 j1 hnI htI hmk h1 jz je jn
        go_wp2_with fail
        rw [HP.out]
        exact ⟨W.heap.size, rfl, HM1.out.turn (fun y _ => by rw [MX]; simp [HLB.out]), HB1.out⟩
      · rw [wa] at h1
        have HLB : Hid (letsB t (q + 1) 5 = true) := hid_intro (by unfold letsB bordB; rw [HA.out, HB.out, wa]; rfl)
        clear wa HA HB
        go_enter Tryz.func23, Tryz.ntmps23
        go_wp2_with fail
        refine (h1).mono ?_; rintro e w1 ⟨rfl, hw1⟩
        rw [hw1]
        clear hw1
        clear j0 j1 hnI htI hmk h1 jz je
        go_wp2_with fail
        rw [HP.out]
        exact ⟨W.heap.size, rfl, HS1.out.turn (fun y _ => by rw [MX]; simp [HLB.out]), HBS.out⟩
  · obtain rfl : p = 0 := by omega
    have HA : Hid (wat t (((0 : Nat) : Int) - 1) = false) := hid_intro (by unfold wat; rw [decide_eq_false (by omega)]; rfl)
    by_cases h2 : 0 < t.length
    · obtain ⟨b, off, c', e, c0⟩ := hAT 0 h2
      injection e with e1 e2 e3
      clear e2 e3
      subst e1
      rw [Nat.add_zero] at c0
      have HB : Hid (wat t ((0 : Nat) : Int) = wordB (ia t 0)) := hid_intro (by
        unfold wat; rw [decide_eq_true ⟨by omega, by omega⟩]; simp)
      have j2 : (0 : Int) < (t.length : Int) := by omega
      have je : ¬ t = [] := by intro e; rw [e] at h2; exact absurd h2 (by simp)
      have jn : (0 : Int) < (n : Int) := by omega
      have jn' : 0 < n := by omega
      have h3 := HW9.out (ia t 0)
      have HQ := hid_intro h2
      clear hAT h0 hpl hpI
      cases wb : wordB (ia t 0)
      · rw [wb] at h3
        have HLB : Hid (letsB t 0 5 = false) := hid_intro (by unfold letsB bordB; rw [HA.out, HB.out, wb]; rfl)
        clear wb HA HB
        go_enter Tryz.func23, Tryz.ntmps23
        go_wp2_with fail
        refine (h3).mono ?_; rintro e w1 ⟨rfl, hw1⟩
        rw [hw1]
        clear hw1
        clear hnI
        go_wp2_with fail
        rw [HP.out]
        exact ⟨W.heap.size, rfl, HM1.out.turn (fun y _ => by rw [MX]; simp [HLB.out]), HB1.out⟩
      · rw [wb] at h3
        have HLB : Hid (letsB t 0 5 = true) := hid_intro (by unfold letsB bordB; rw [HA.out, HB.out, wb]; rfl)
        clear wb HA HB
        go_enter Tryz.func23, Tryz.ntmps23
        go_wp2_with fail
        refine (h3).mono ?_; rintro e w1 ⟨rfl, hw1⟩
        rw [hw1]
        clear hw1
        clear hnI
        go_wp2_with fail
        rw [HP.out]
        exact ⟨W.heap.size, rfl, HS1.out.turn (fun y _ => by rw [MX]; simp [HLB.out]), HBS.out⟩
    · have HB : Hid (wat t ((0 : Nat) : Int) = false) := hid_intro (by
        unfold wat; rw [decide_eq_false (by omega)]; rfl)
      have j2 : ¬ (0 : Int) < (t.length : Int) := by omega
      have j3 : t.length = 0 := by omega
      have jn : (0 : Int) < (n : Int) := by omega
      have jn' : 0 < n := by omega
      have HQ := hid_intro j3
      have hmk1 : ∀ w, (Instr.makeSlice 32 (.int .i64 1) (.int .i64 1)).run Tryz.prog w = .ok (.slice (some ⟨w.heap.size, 0, none⟩) n n) (w.alloc (.cells (madeCells #[.int .i64 0] n) 3)) := fun w => by
        have := hmk w
        rw [j3] at this
        exact this
      clear hAT h2 h0 hpl hpI hmk
      have HLB : Hid (letsB t 0 5 = false) := hid_intro (by unfold letsB bordB; rw [HA.out, HB.out]; rfl)
      clear HA HB
      go_enter Tryz.func23, Tryz.ntmps23
      go_wp2_with fail
      rw [HP.out]
      exact ⟨W.heap.size, rfl, HM1.out.turn (fun y _ => by rw [MX]; simp [HLB.out]), HB1.out⟩
set_option maxRecDepth 100000 in
set_option maxHeartbeats 6400000 in
theorem means_9 (r : List (Int × Int)) (lo hi : Int) (z : Bool) (s : List RX) (t : List Int) (tv : Value) (hlt : t.length ≤ 1048576) : MnC (.mk 9 r lo hi z s) t tv := by
  intro f w hv hI p hp
  cases hv with
  | mk ao cap G f0 f1 f2 f3 f4 f5 hc hw hl hr =>
  obtain ⟨a1, c1, e1, _⟩ := f1.shape
  have exa : xa f = .agg #[.int .i64 9, .slice a1 r.length c1, .int .i64 lo, .int .i64 hi, .bool z, .slice ao s.length cap] := by unfold xa; rw [f0, e1, f2, f3, f4, f5]
  obtain ⟨ta, tc, rfl⟩ : ∃ ta tc, tv = .slice ta t.length tc := by obtain ⟨ta, tc, rfl, _⟩ := hI; exact ⟨ta, tc, rfl⟩
  obtain ⟨n, hn⟩ : ∃ n, t.length + 1 = n := ⟨_, rfl⟩
  have hnI : (n : Int) ≤ 1048577 := by omega
  have hlI : (s.length : Int) ≤ 9223372036854775807 := by have := hc.1; have := hc.2; unfold maxLen at this; omega
  have htI : (t.length : Int) + 1 ≤ 9223372036854775807 := by omega
  obtain ⟨P, hP⟩ : ∃ P : Ending → World → Prop, P = fun e w' => ∃ g, e = .returned (.slice (some ⟨g, 0, none⟩) n n) ∧ OwnI w' w.heap.size (.slice (some ⟨g, 0, none⟩) n n) (mkS n (MX (.mk 9 r lo hi z s) t p)) ∧ Below w.heap.size w w' := ⟨_, rfl⟩
  obtain ⟨W, hW⟩ : ∃ W, w.alloc (.cells #[.int .i64 9, .slice a1 r.length c1, .int .i64 lo, .int .i64 hi, .bool z, .slice ao s.length cap] 31) = W := ⟨_, rfl⟩
  have hbW : Below w.heap.size w W := hW ▸ vb_a (Below.refl _ _) _
  have kX : Bk W w.heap.size #[.int .i64 9, .slice a1 r.length c1, .int .i64 lo, .int .i64 hi, .bool z, .slice ao s.length cap] := hW ▸ Bk.new _ _ _
  have hmk : ∀ w, (Instr.makeSlice 32 (.int .i64 ((t.length : Int) + 1)) (.int .i64 ((t.length : Int) + 1))).run Tryz.prog w = .ok (.slice (some ⟨w.heap.size, 0, none⟩) n n) (w.alloc (.cells (madeCells #[.int .i64 0] n) 3)) := fun w => by
    have := make_int n (by omega) w
    rw [show ((n : Nat) : Int) = (t.length : Int) + 1 by omega] at this
    exact this
  have hm1 := made_int n (by omega) W w.heap.size hbW.size
  obtain ⟨W1, hW1⟩ : ∃ W1, W.alloc (.cells (madeCells #[.int .i64 0] n) 3) = W1 := ⟨_, rfl⟩
  have hb1 : Below W.heap.size W W1 := hW1 ▸ vb_a (Below.refl _ _) _
  rw [hW1] at hm1
  have hWs : W.heap.size = w.heap.size + 1 := by rw [← hW]; simp
  have hb01 := vb_t hbW hb1
  have hpn : p < n := by omega
  have hpI : (p : Int) < (n : Int) := by omega
  rw [exa, hn, ← hP]
  have HP := hid_intro hP
  have HW := hid_intro hW
  have HW1 := hid_intro hW1
  have HK := hid_intro (kX.bel hb1)
  have HB1 := hid_intro hb01
  have HM1 := hid_intro hm1
  have HN := hid_intro hn
  have HLI := hid_intro hlI
  have hc1 : W1.cell? ⟨W.heap.size, p, none⟩ = some (.int .i64 0) := by rw [hm1.mark hpn, mkS_0 hpn (fun h => h)]
  have hf1 : W1.frozen? ⟨W.heap.size, p, none⟩ = false := hm1.thaw p
  have HS1 : Hid (OwnI (W1.setCell ⟨W.heap.size, p, none⟩ (.int .i64 1)) w.heap.size (.slice (some ⟨W.heap.size, 0, none⟩) n n) (mkS n (fun q => q = p))) := hid_intro (hm1.put1 hpn (fun y _ => ⟨fun h => h.elim (fun h => h.elim) id, Or.inr⟩))
  have HBS : Hid (Below w.heap.size w (W1.setCell ⟨W.heap.size, p, none⟩ (.int .i64 1))) := hid_intro (vb_s hb01 hbW.size _)
  obtain ⟨k0, k1, k2, k3, k4, k5⟩ := (kX.bel hb1).c6
  have hAT := fun i (hi : i < t.length) => (hI.kept hb01).at hi
  have HW9 := hid_intro (fun c => rword_any c W1)
  clear hP hl hr hI exa f1 hWs kX hbW hb1 hb01 hm1 hn hlt hw hc hp hpn hlI
  have hpl : p ≤ t.length := by have := HN.out; omega
  by_cases h0 : 0 < p
  · obtain ⟨q, rfl⟩ : ∃ q, p = q + 1 := ⟨p - 1, by omega⟩
    obtain ⟨b, off, c', e, c0⟩ := hAT q (by omega)
    injection e with e1 e2 e3
    clear e2 e3
    subst e1
    have HA : Hid (wat t (((q + 1 : Nat) : Int) - 1) = wordB (ia t q)) := hid_intro (by
      have e : ((q + 1 : Nat) : Int) - 1 = (q : Int) := by omega
      rw [e]; unfold wat; rw [decide_eq_true ⟨by omega, by omega⟩]; simp)
    have j0 : (0 : Int) < (q : Int) + 1 := by omega
    have j1 : (q : Int) < (t.length : Int) := by omega
    have jz : decide ((q : Int) + 1 = 0) = false := decide_eq_false (by omega)
    have jn : (q : Int) + 1 < (n : Int) := by omega
    have h1 := HW9.out (ia t q)
    by_cases h2 : q + 1 < t.length
    · obtain ⟨b', off', c'', e, c1'⟩ := hAT (q + 1) h2
      injection e with e1 e2 e3
      injection e1 with e1
      injection e1 with e1 e4 _
      clear e2 e3
      subst e1 e4
      have HB : Hid (wat t ((q + 1 : Nat) : Int) = wordB (ia t (q + 1))) := hid_intro (by
        unfold wat; rw [decide_eq_true ⟨by omega, by omega⟩]; simp)
      have j2 : (q : Int) + 1 < (t.length : Int) := by omega
      have je : decide ((q : Int) + 1 = (t.length : Int)) = false := decide_eq_false (by omega)
      have h3 := HW9.out (ia t (q + 1))
      have HQ := hid_intro h2
      clear hAT h0 h2 hpl hpI
      cases wa : wordB (ia t q) <;> cases wb : wordB (ia t (q + 1))
      · rw [wa] at h1; rw [wb] at h3
        have HLB : Hid (letsB t (q + 1) 6 = true) := hid_intro (by unfold letsB bordB; rw [HA.out, HB.out, wa, wb]; rfl)
        clear wa wb HA HB
        go_enter Tryz.func23, Tryz.ntmps23
        go_wp2_with fail
        refine (h1).mono ?_; rintro e w1 ⟨rfl, hw1⟩
        rw [hw1]
        clear hw1
        go_wp2_with fail
        refine (h3).mono ?_; rintro e w1 ⟨rfl, hw1⟩
        rw [hw1]
        clear hw1
        clear j0 j1 j2 hnI htI hmk h1 h3 jz je
        go_wp2_with fail
        rw [HP.out]
        exact ⟨W.heap.size, rfl, HS1.out.turn (fun y _ => by rw [MX]; simp [HLB.out]), HBS.out⟩
      · rw [wa] at h1; rw [wb] at h3
        have HLB : Hid (letsB t (q + 1) 6 = false) := hid_intro (by unfold letsB bordB; rw [HA.out, HB.out, wa, wb]; rfl)
        clear wa wb HA HB
        go_enter Tryz.func23, Tryz.ntmps23
        go_wp2_with fail
        refine (h1).mono ?_; rintro e w1 ⟨rfl, hw1⟩
        rw [hw1]
        clear hw1
        go_wp2_with fail
        refine (h3).mono ?_; rintro e w1 ⟨rfl, hw1⟩
        rw [hw1]
        clear hw1
        clear j0 j1 j2 hnI htI hmk h1 h3 jz je jn
        go_wp2_with fail
        rw [HP.out]
        exact ⟨W.heap.size, rfl, HM1.out.turn (fun y _ => by rw [MX]; simp [HLB.out]), HB1.out⟩
      · rw [wa] at h1; rw [wb] at h3
        have HLB : Hid (letsB t (q + 1) 6 = false) := hid_intro (by unfold letsB bordB; rw [HA.out, HB.out, wa, wb]; rfl)
        clear wa wb HA HB
        go_enter Tryz.func23, Tryz.ntmps23
        go_wp2_with fail
        refine (h1).mono ?_; rintro e w1 ⟨rfl, hw1⟩
        rw [hw1]
        clear hw1
        go_wp2_with fail
        refine (h3).mono ?_; rintro e w1 ⟨rfl, hw1⟩
        rw [hw1]
        clear hw1
        clear j0 j1 j2 hnI htI hmk h1 h3 jz je jn
        go_wp2_with fail
        rw [HP.out]
        exact ⟨W.heap.size, rfl, HM1.out.turn (fun y _ => by rw [MX]; simp [HLB.out]), HB1.out⟩
      · rw [wa] at h1; rw [wb] at h3
        have HLB : Hid (letsB t (q + 1) 6 = true) := hid_intro (by unfold letsB bordB; rw [HA.out, HB.out, wa, wb]; rfl)
        clear wa wb HA HB
        go_enter Tryz.func23, Tryz.ntmps23
        go_wp2_with fail
        refine (h1).mono ?_; rintro e w1 ⟨rfl, hw1⟩
        rw [hw1]
        clear hw1
        go_wp2_with fail
        refine (h3).mono ?_; rintro e w1 ⟨rfl, hw1⟩
        rw [hw1]
        clear hw1
        clear j0 j1 j2 hnI htI hmk h1 h3 jz je
        go_wp2_with fail
        rw [HP.out]
        exact ⟨W.heap.size, rfl, HS1.out.turn (fun y _ => by rw [MX]; simp [HLB.out]), HBS.out⟩
    · have HB : Hid (wat t ((q + 1 : Nat) : Int) = false) := hid_intro (by
        unfold wat; rw [decide_eq_false (by omega)]; rfl)
      have j2 : decide ((q : Int) + 1 < (t.length : Int)) = false := decide_eq_false (by omega)
      have je : decide ((q : Int) + 1 = (t.length : Int)) = true := decide_eq_true (by omega)
      have HQ : Hid (q + 1 = t.length) := hid_intro (by omega)
      clear hAT h0 h2 hpl hpI
      cases wa : wordB (ia t q)
      · rw [wa] at h1
        have HLB : Hid (letsB t (q + 1) 6 = true) := hid_intro (by unfold letsB bordB; rw [HA.out, HB.out, wa]; rfl)
        clear wa HA HB
        go_enter Tryz.func23, Tryz.ntmps23
        go_wp2_with fail
        refine (h1).mono ?_; rintro e w1 ⟨rfl, hw1⟩
        rw [hw1]
        clear hw1
        clear j0 j1 hnI htI hmk h1 jz je
        go_wp2_with fail
        rw [HP.out]
        exact ⟨W.heap.size, rfl, HS1.out.turn (fun y _ => by rw [MX]; simp [HLB.out]), HBS.out⟩
      · rw [wa] at h1
        have HLB : Hid (letsB t (q + 1) 6 = false) := hid_intro (by unfold letsB bordB; rw [HA.out, HB.out, wa]; rfl)
        clear wa HA HB
        go_enter Tryz.func23, Tryz.ntmps23
        go_wp2_with fail
        refine (h1).mono ?_; rintro e w1 ⟨rfl, hw1⟩
        rw [hw1]
        clear hw1
        clear j0 j1 hnI htI hmk h1 jz je jn
        go_wp2_with fail
        rw [HP.out]
        exact ⟨W.heap.size, rfl, HM1.out.turn (fun y _ => by rw [MX]; simp [HLB.out]), HB1.out⟩
  · obtain rfl : p = 0 := by omega
    have HA : Hid (wat t (((0 : Nat) : Int) - 1) = false) := hid_intro (by unfold wat; rw [decide_eq_false (by omega)]; rfl)
    by_cases h2 : 0 < t.length
    · obtain ⟨b, off, c', e, c0⟩ := hAT 0 h2
      injection e with e1 e2 e3
      clear e2 e3
      subst e1
      rw [Nat.add_zero] at c0
      have HB : Hid (wat t ((0 : Nat) : Int) = wordB (ia t 0)) := hid_intro (by
        unfold wat; rw [decide_eq_true ⟨by omega, by omega⟩]; simp)
      have j2 : (0 : Int) < (t.length : Int) := by omega
      have je : ¬ t = [] := by intro e; rw [e] at h2; exact absurd h2 (by simp)
      have jn : (0 : Int) < (n : Int) := by omega
      have jn' : 0 < n := by omega
      have h3 := HW9.out (ia t 0)
      have HQ := hid_intro h2
      clear hAT h0 hpl hpI
      cases wb : wordB (ia t 0)
      · rw [wb] at h3
        have HLB : Hid (letsB t 0 6 = true) := hid_intro (by unfold letsB bordB; rw [HA.out, HB.out, wb]; rfl)
        clear wb HA HB
        go_enter Tryz.func23, Tryz.ntmps23
        go_wp2_with fail
        refine (h3).mono ?_; rintro e w1 ⟨rfl, hw1⟩
        rw [hw1]
        clear hw1
        clear hnI
        go_wp2_with fail
        rw [HP.out]
        exact ⟨W.heap.size, rfl, HS1.out.turn (fun y _ => by rw [MX]; simp [HLB.out]), HBS.out⟩
      · rw [wb] at h3
        have HLB : Hid (letsB t 0 6 = false) := hid_intro (by unfold letsB bordB; rw [HA.out, HB.out, wb]; rfl)
        clear wb HA HB
        go_enter Tryz.func23, Tryz.ntmps23
        go_wp2_with fail
        refine (h3).mono ?_; rintro e w1 ⟨rfl, hw1⟩
        rw [hw1]
        clear hw1
        clear hnI
        go_wp2_with fail
        rw [HP.out]
        exact ⟨W.heap.size, rfl, HM1.out.turn (fun y _ => by rw [MX]; simp [HLB.out]), HB1.out⟩
    · have HB : Hid (wat t ((0 : Nat) : Int) = false) := hid_intro (by
        unfold wat; rw [decide_eq_false (by omega)]; rfl)
      have j2 : ¬ (0 : Int) < (t.length : Int) := by omega
      have j3 : t.length = 0 := by omega
      have jn : (0 : Int) < (n : Int) := by omega
      have jn' : 0 < n := by omega
      have HQ := hid_intro j3
      have hmk1 : ∀ w, (Instr.makeSlice 32 (.int .i64 1) (.int .i64 1)).run Tryz.prog w = .ok (.slice (some ⟨w.heap.size, 0, none⟩) n n) (w.alloc (.cells (madeCells #[.int .i64 0] n) 3)) := fun w => by
        have := hmk w
        rw [j3] at this
        exact this
      clear hAT h2 h0 hpl hpI hmk
      have HLB : Hid (letsB t 0 6 = true) := hid_intro (by unfold letsB bordB; rw [HA.out, HB.out]; rfl)
      clear HA HB
      go_enter Tryz.func23, Tryz.ntmps23
      go_wp2_with fail
      rw [HP.out]
      exact ⟨W.heap.size, rfl, HS1.out.turn (fun y _ => by rw [MX]; simp [HLB.out]), HBS.out⟩
end Go.Proofs.YtoinlmfodmgohaaGreatDoor
