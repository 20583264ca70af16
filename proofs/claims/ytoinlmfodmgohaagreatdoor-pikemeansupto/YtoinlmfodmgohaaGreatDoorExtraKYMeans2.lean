/-
  What means answers of a set. Conditions: at most 2^20 places.
-/
import Derived.Test.YtoinlmfodmgohaaGreatDoorExtraKYMeans1
namespace Go.Proofs.YtoinlmfodmgohaaGreatDoor
open Go.RowKit Go.Maps
attribute [local go_sem] setCell_drewN alloc_drewN

theorem hasB_take (r : List (Int × Int)) (c : Int) {i : Nat} (h : i < r.length) : hasB (r.take (i + 1)) c = (hasB (r.take i) c || decide ((ra r i).1 ≤ c ∧ c ≤ (ra r i).2)) := by
  unfold ra hasB
  rw [List.take_add_one, List.getElem?_eq_getElem h, List.any_append, List.getD_eq_getElem?_getD, List.getElem?_eq_getElem h]
  simp
set_option maxRecDepth 100000 in
set_option maxHeartbeats 6400000 in
theorem means_2 (r : List (Int × Int)) (lo hi : Int) (z : Bool) (s : List RX) (t : List Int) (tv : Value) (hlt : t.length ≤ 1048576) : MnC (.mk 2 r lo hi z s) t tv := by
  intro f w hv hI p hp
  cases hv with
  | mk ao cap G f0 f1 f2 f3 f4 f5 hc hw hl hr =>
  obtain ⟨a1, c1, e1, _⟩ := f1.shape
  have exa : xa f = .agg #[.int .i64 2, .slice a1 r.length c1, .int .i64 lo, .int .i64 hi, .bool z, .slice ao s.length cap] := by unfold xa; rw [f0, e1, f2, f3, f4, f5]
  obtain ⟨ta, tc, rfl⟩ : ∃ ta tc, tv = .slice ta t.length tc := by obtain ⟨ta, tc, rfl, _⟩ := hI; exact ⟨ta, tc, rfl⟩
  obtain ⟨n, hn⟩ : ∃ n, t.length + 1 = n := ⟨_, rfl⟩
  have hnI : (n : Int) ≤ 1048577 := by omega
  have hlI : (s.length : Int) ≤ 9223372036854775807 := by have := hc.1; have := hc.2; unfold maxLen at this; omega
  have htI : (t.length : Int) + 1 ≤ 9223372036854775807 := by omega
  obtain ⟨P, hP⟩ : ∃ P : Ending → World → Prop, P = fun e w' => ∃ g, e = .returned (.slice (some ⟨g, 0, none⟩) n n) ∧ OwnI w' w.heap.size (.slice (some ⟨g, 0, none⟩) n n) (mkS n (MX (.mk 2 r lo hi z s) t p)) ∧ Below w.heap.size w w' := ⟨_, rfl⟩
  obtain ⟨W, hW⟩ : ∃ W, w.alloc (.cells #[.int .i64 2, .slice a1 r.length c1, .int .i64 lo, .int .i64 hi, .bool z, .slice ao s.length cap] 31) = W := ⟨_, rfl⟩
  have hbW : Below w.heap.size w W := hW ▸ vb_a (Below.refl _ _) _
  have kX : Bk W w.heap.size #[.int .i64 2, .slice a1 r.length c1, .int .i64 lo, .int .i64 hi, .bool z, .slice ao s.length cap] := hW ▸ Bk.new _ _ _
  have hmk : ∀ w, (Instr.makeSlice 32 (.int .i64 ((t.length : Int) + 1)) (.int .i64 ((t.length : Int) + 1))).run Tryz.prog w = .ok (.slice (some ⟨w.heap.size, 0, none⟩) n n) (w.alloc (.cells (madeCells #[.int .i64 0] n) 3)) := fun w => by
    have := make_int n (by omega) w
    rw [show ((n : Nat) : Int) = (t.length : Int) + 1 by omega] at this
    exact this
  have hm1 := made_int n (by omega) W w.heap.size hbW.size
  obtain ⟨W1, hW1⟩ : ∃ W1, W.alloc (.cells (madeCells #[.int .i64 0] n) 3) = W1 := ⟨_, rfl⟩
  have hb1 : Below W.heap.size W W1 := hW1 ▸ vb_a (Below.refl _ _) _
  rw [hW1] at hm1
  have hWs : W.heap.size = w.heap.size + 1 := by rw [← hW]; simp
  have hb01 := vb_t hbW hb1
  have hpn : p < n := by omega
  have hpI : (p : Int) < (n : Int) := by omega
  rw [exa, hn, ← hP]
  have HP := hid_intro hP
  have HW := hid_intro hW
  have HW1 := hid_intro hW1
  have HK := hid_intro (kX.bel hb1)
  have HB1 := hid_intro hb01
  have HM1 := hid_intro hm1
  have HN := hid_intro hn
  have HLI := hid_intro hlI
  have HRI : Hid (∀ w', Below w.heap.size w w' → RI w' (fun _ => False) r (.slice a1 r.length c1)) := hid_intro (fun w' hb => by have := f1.kept hb; rw [e1] at this; exact this.weak fun _ h => h.elim)
  have HII : Hid (∀ w', Below w.heap.size w w' → II w' (fun _ => False) t (.slice ta t.length tc)) := hid_intro (fun w' hb => hI.kept hb)
  have hrl : (r.length : Int) ≤ 9223372036854775807 := by obtain ⟨_, _, e, h1, h2, _⟩ := f1; rw [e1] at e; unfold maxLen at h2; omega
  have hsw : W.heap.size ≠ w.heap.size := by omega
  obtain ⟨k0, k1, k2, k3, k4, k5⟩ := (kX.bel hb1).c6
  have HWS := hid_intro hbW.size
  clear hP hl hr hI exa f1 hWs kX hbW hb1 hb01 hm1 hn hlt hw hc hp hpn hlI e1
  go_enter Tryz.func23, Tryz.ntmps23
  go_wp2_with fail
  clear hW hW1 k0 k1 k2 k3 k4 k5 hmk
  go_loopg [8] r.length (fun m s8 wr => ∃ i : Nat, i ≤ r.length ∧ m = r.length - i ∧ s8 = .int .i64 (i : Int) ∧ Hid (OwnI wr w.heap.size (.slice (some ⟨W.heap.size, 0, none⟩) n n) (mkS n (fun q => p < t.length ∧ hasB (r.take i) (ia t p) = true ∧ q = p + 1))) ∧ Hid (Below w.heap.size w wr) ∧ Hid (Bk wr w.heap.size #[.int .i64 2, .slice a1 r.length c1, .int .i64 lo, .int .i64 hi, .bool z, .slice ao s.length cap]))
  case atStart => exact ⟨0, Nat.zero_le _, rfl, rfl, HM1.out.turn (fun y _ => by simp [hasB]), HB1.out, HK.out⟩
  case round =>
    obtain ⟨i, hi', rfl, rfl, HO, HB, HKK⟩ := hrel
    have a1' := HKK.out.c6.2.1
    by_cases hlt0 : (i : Int) < (r.length : Int)
    · have HLT : Hid (i < r.length) := hid_intro (by omega)
      obtain ⟨b, off, cp, ea, g0, g1⟩ := (HRI.out wr HB.out).at HLT.out
      injection ea with ea ea2 ea3
      clear ea2 ea3
      subst ea
      have HTK := hid_intro (hasB_take r (ia t p) HLT.out)
      by_cases hpt : (p : Int) < (t.length : Int)
      · have HPT : Hid (p < t.length) := hid_intro (by omega)
        obtain ⟨bt, ot, ct, et, y0⟩ := (HII.out wr HB.out).at HPT.out
        injection et with et et2 et3
        clear et2 et3
        subst et
        have hp1 : (p : Int) + 1 ≤ 9223372036854775807 := by omega
        have hp2 : (p : Int) + 1 < (n : Int) := by have := HN.out; omega
        have HP1 : Hid (p + 1 < n) := hid_intro (by have := HN.out; have := HPT.out; omega)
        by_cases h1 : ia t p ≥ (ra r i).1
        · by_cases h2 : ia t p ≤ (ra r i).2
          · have z0 := HO.out.mark HP1.out
            have z1 := HO.out.thaw (p + 1)
            have HNX : Hid (OwnI (wr.setCell ⟨W.heap.size, p + 1, none⟩ (.int .i64 1)) w.heap.size (.slice (some ⟨W.heap.size, 0, none⟩) n n) (mkS n (fun q => p < t.length ∧ hasB (r.take (i + 1)) (ia t p) = true ∧ q = p + 1))) := hid_intro (HO.out.put1 HP1.out (fun y hy => by
              rw [HTK.out, decide_eq_true (⟨h1, h2⟩ : (ra r i).1 ≤ ia t p ∧ ia t p ≤ (ra r i).2), Bool.or_true]
              constructor
              · rintro (⟨q1, _, q3⟩ | q3)
                · exact ⟨q1, rfl, q3⟩
                · exact ⟨HPT.out, rfl, q3⟩
              · rintro ⟨_, _, q3⟩; exact Or.inr q3))
            go_wp2_with fail
            go_quiet (fail)
            go_wp2_with fail
            go_roundg (r.length - (i + 1))
            case measure => have := HLT.out; omega
            case rel => exact ⟨i + 1, HLT.out, rfl, by simp, HNX.out, vb_n (vb_s HB.out HWS.out _) _, (HKK.out.away (by show w.heap.size ≠ W.heap.size; omega))⟩
          · have HNX : Hid (OwnI wr w.heap.size (.slice (some ⟨W.heap.size, 0, none⟩) n n) (mkS n (fun q => p < t.length ∧ hasB (r.take (i + 1)) (ia t p) = true ∧ q = p + 1))) := hid_intro (HO.out.turn (fun y hy => by
              rw [HTK.out, decide_eq_false (fun h : (ra r i).1 ≤ ia t p ∧ ia t p ≤ (ra r i).2 => h2 h.2), Bool.or_false]))
            have hd : decide (ia t p ≤ (ra r i).2) = false := decide_eq_false h2
            go_wp2_with fail
            go_quiet (fail)
            go_wp2_with fail
            go_roundg (r.length - (i + 1))
            case measure => have := HLT.out; omega
            case rel => exact ⟨i + 1, HLT.out, rfl, by simp, HNX.out, vb_n HB.out _, HKK.out⟩
        · have HNX : Hid (OwnI wr w.heap.size (.slice (some ⟨W.heap.size, 0, none⟩) n n) (mkS n (fun q => p < t.length ∧ hasB (r.take (i + 1)) (ia t p) = true ∧ q = p + 1))) := hid_intro (HO.out.turn (fun y hy => by
            rw [HTK.out, decide_eq_false (fun h : (ra r i).1 ≤ ia t p ∧ ia t p ≤ (ra r i).2 => h1 h.1), Bool.or_false]))
          have hd : decide (ia t p ≥ (ra r i).1) = false := decide_eq_false h1
          go_wp2_with fail
          go_quiet (fail)
          go_wp2_with fail
          go_roundg (r.length - (i + 1))
          case measure => have := HLT.out; omega
          case rel => exact ⟨i + 1, HLT.out, rfl, by simp, HNX.out, vb_n HB.out _, HKK.out⟩
      · have hd : decide ((p : Int) < (t.length : Int)) = false := decide_eq_false hpt
        have hd2 : decide (p < t.length) = false := decide_eq_false (by omega)
        have HNX : Hid (OwnI wr w.heap.size (.slice (some ⟨W.heap.size, 0, none⟩) n n) (mkS n (fun q => p < t.length ∧ hasB (r.take (i + 1)) (ia t p) = true ∧ q = p + 1))) := hid_intro (HO.out.turn (fun y hy => ⟨fun h => absurd h.1 (by omega), fun h => absurd h.1 (by omega)⟩))
        go_wp2_with fail
        go_quiet (fail)
        go_wp2_with fail
        go_roundg (r.length - (i + 1))
        case measure => have := HLT.out; omega
        case rel => exact ⟨i + 1, HLT.out, rfl, by simp, HNX.out, vb_n HB.out _, HKK.out⟩
    · have hie : i = r.length := by omega
      have HOE : Hid (OwnI wr w.heap.size (.slice (some ⟨W.heap.size, 0, none⟩) n n) (mkS n (MX (.mk 2 r lo hi z s) t p))) := hid_intro (HO.out.turn (fun q _ => by rw [hie, List.take_length, MX]; simp))
      go_wp2_with fail
      rw [HP.out]
      exact ⟨W.heap.size, rfl, HOE.out, HB.out⟩
end Go.Proofs.YtoinlmfodmgohaaGreatDoor
