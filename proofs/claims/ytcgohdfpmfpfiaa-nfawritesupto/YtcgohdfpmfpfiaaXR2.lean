/-
  The named sets as rows of the call's own; within: ranges as far as they may be. Conditions: at most 2^40 ranges.
-/
import Derived.Test.YtcgohdfpmfpfiaaXR1
import Derived.Laws.AppendOwn
namespace Go.Proofs.Ytcgohdfpmfpfiaa
open Go.RowKit
attribute [local go_sem] setCell_drewN alloc_drewN

theorem OwnR.away {w : World} {B : Nat} {v : Value} {l : List (Int × Int)} (h : OwnR w B v l) {a : Addr} (ha : v.ownBlock ≠ some a.block) (u : Value) : OwnR (w.setCell a u) B v l :=
  h.kept fun k hk => Below.heap_setCell w a u k (fun e => ha (by rw [hk, e]))
theorem within_take (l : List (Int × Int)) (i : Nat) (h : i < l.length) : withinL (l.take (i + 1)) = withinL (l.take i) ++ (if (cutR (ra l i)).1 ≤ (cutR (ra l i)).2 then [cutR (ra l i)] else []) := by
  unfold withinL
  rw [List.take_succ_eq_append_getElem h, List.map_append, List.filter_append, ra_get h]
  congr 1
  show List.filter _ [cutR l[i]] = _
  by_cases hc : (cutR l[i]).1 ≤ (cutR l[i]).2
  · rw [if_pos hc]; simp [hc]
  · rw [if_neg hc]; simp [hc]
theorem within_len (l : List (Int × Int)) : (withinL l).length ≤ l.length := by
  unfold withinL
  refine Nat.le_trans (List.length_filter_le _ _) ?_
  simp
theorem make_rng (w : World) (c : Nat) (hc : c ≤ 1099511627776) : (Instr.makeSlice 29 (.int .i64 0) (.int .i64 (c : Int))).run Try.prog w = .ok (.slice (some ⟨w.heap.size, 0, none⟩) 0 c) (w.alloc (.cells (madeCells #[.int .i64 0, .int .i64 0] (c * 2)) 57)) := by
  obtain ⟨i0, hi, hz0, hz1, hz2⟩ := info_parts infoRange
  have := run_make (P := Try.prog) w 29 57 i0 (.agg #[.int .i64 0, .int .i64 0]) Try.underlying29 hi hz0 .i64 .i64 0 (c : Int) (by omega) (by omega) (by rw [hz2]; omega) (by omega)
  rw [hz1] at this
  simpa [Value.cells] using this
theorem make_ownR (w : World) (c : Nat) (hc : c ≤ 1099511627776) : OwnR (w.alloc (.cells (madeCells #[.int .i64 0, .int .i64 0] (c * 2)) 57)) w.heap.size (.slice (some ⟨w.heap.size, 0, none⟩) 0 c) [] := by
  refine ⟨?_, fun r hr => by simp at hr⟩
  have := World.ownsRow_made (base := w.heap.size) (e := 57) (size := 2) w (madeCells #[.int .i64 0, .int .i64 0] (c * 2)) c (Nat.le_refl _) (by unfold maxLen; omega) (by rw [size_madeCells])
  exact this

set_option maxRecDepth 100000 in
set_option maxHeartbeats 1600000 in
theorem within_any (l : List (Int × Int)) (v : Value) (w : World) (X : Nat → Prop) (hR : RI w X l v) (hl : l.length ≤ 1099511627776) :
    Calls Try.prog 63 #[v] w fun r w' => ∃ v', r = .returned v' ∧ OwnR w' w.heap.size v' (withinL l) ∧ Below w.heap.size w w' := by
  obtain ⟨ao, cap, rfl, hc, hcm, hwf, hlie⟩ := hR
  have hmk := make_rng w l.length hl
  have hmo := make_ownR w l.length hl
  have hlI : (l.length : Int) ≤ 1099511627776 := by omega
  obtain ⟨o0, ho0⟩ : ∃ o, Obj.cells (madeCells #[.int .i64 0, .int .i64 0] (l.length * 2)) 57 = o := ⟨_, rfl⟩
  rw [ho0] at hmk hmo
  go_enter Try.func63, Try.ntmps63
  go_wp2_with fail
  go_loopg [3, 11] l.length (fun m s3 s11 wr => ∃ k : Nat, k ≤ l.length ∧ m = l.length - k ∧ s11 = .int .i64 (k : Int) ∧ OwnR wr w.heap.size s3 (withinL (l.take k)) ∧ Below w.heap.size w wr)
  case atStart => exact ⟨0, Nat.zero_le _, rfl, rfl, hmo, vb_a (Below.refl _ _) _⟩
  case round =>
    obtain ⟨k, hk, rfl, rfl, hown, hb⟩ := hrel
    by_cases hlt : k < l.length
    · rcases hlie with hlie | ⟨b, off, rfl, _, hcell⟩
      · subst hlie; simp at hlt
      have q0 := (hb.cell (p := ⟨b, off + k * 2, none⟩) (World.block_lt_of_cell? w _ (hcell k hlt).1)).trans (hcell k hlt).1
      have q1 := (hb.cell (p := ⟨b, off + k * 2 + 1, none⟩) (World.block_lt_of_cell? w _ (hcell k hlt).2)).trans (hcell k hlt).2
      have hI : (k : Int) < (l.length : Int) := by omega
      have hwt := within_take l k hlt
      have hr := hwf _ (ra_mem hlt)
      unfold cutR at hwt
      simp only at hwt
      have hwl : (withinL (l.take k)).length ≤ k := Nat.le_trans (within_len _) (by rw [List.length_take]; omega)
      generalize ra l k = rr at *
      obtain ⟨x, y⟩ := rr
      simp only at hwt hr q0 q1
      obtain ⟨hr1, hr2⟩ := hr
      unfold I64 at hr1 hr2
      by_cases hx : x < 0
      · have ex : max x 0 = 0 := by omega
        rw [ex] at hwt
        by_cases hy : 1114111 < y
        · have ey : min y 1114111 = 1114111 := by omega
          rw [ey, if_pos (by omega)] at hwt
          have hsp := fun w => span_any 0 1114111 w
          have HO := hid_intro hown
          have HB := hid_intro hb
          have hbx : u3.ownBlock ≠ some wr.heap.size := fun e => by have := (hown.lt _ e).2; omega
          have hi : I64 0 ∧ I64 1114111 := ⟨I64_of (by omega) (by omega), I64_of (by omega) (by omega)⟩
          clear hown hb hcell hwf hmo hmk
          go_wp2_with fail
          refine (hsp _).mono ?_; rintro r w1 ⟨rfl, hb1⟩
          have k := Bk.bel (Bk.new _ _ _) hb1
          obtain ⟨c0, c1⟩ := k.c2
          obtain ⟨z0, z1⟩ := k.z2
          have hbw := vb_t (vb_a (Below.refl _ _) _) hb1
          have HW := hid_intro hbw
          clear k hsp hb1 hbw
          go_wp2_with (at_builtin; refine wpList_append_rng rfl _ _ rfl w.heap.size _ _ 0 1114111 rfl (OwnR.away (OwnR.away (HO.out.below HW.out) hbx _) hbx _) ?cB ?cS hi _ (by simp) rfl ?_)
          case cB => have := HB.out.size; have := HW.out.size; simp; omega
          case cS => omega
          intro v' w3 ho3 hg3
          have hb3 : Below w.heap.size w w3 := (vb_a (vb_s (vb_s (vb_t HB.out HW.out) HB.out.size _) HB.out.size _) _).grown hg3 (by have := HB.out.size; have := HW.out.size; simp; omega) (fun j hj => (HO.out.lt j hj).1)
          have HX : Hid (OwnR w3 w.heap.size v' (withinL (l.take (k + 1))) ∧ Below w.heap.size w w3) := ⟨by rw [hwt]; exact ho3, hb3⟩
          clear ho3 hg3 hb3 hwt
          go_wp2_with fail
          go_roundg (l.length - (k + 1))
          case measure => omega
          case rel => exact ⟨k + 1, by omega, rfl, by simp, HX.out.1, HX.out.2⟩
        · have ey : min y 1114111 = y := by omega
          rw [ey] at hwt
          by_cases hle : 0 ≤ y
          · rw [if_pos hle] at hwt
            have hsp := fun w => span_any 0 y w
            have HO := hid_intro hown
            have HB := hid_intro hb
            have hbx : u3.ownBlock ≠ some wr.heap.size := fun e => by have := (hown.lt _ e).2; omega
            have hi : I64 0 ∧ I64 y := ⟨I64_of (by omega) (by omega), I64_of (by omega) (by omega)⟩
            clear hown hb hcell hwf hmo hmk
            go_wp2_with fail
            refine (hsp _).mono ?_; rintro r w1 ⟨rfl, hb1⟩
            have k := Bk.bel (Bk.new _ _ _) hb1
            obtain ⟨c0, c1⟩ := k.c2
            obtain ⟨z0, z1⟩ := k.z2
            have hbw := vb_t (vb_a (Below.refl _ _) _) hb1
            have HW := hid_intro hbw
            clear k hsp hb1 hbw
            go_wp2_with (at_builtin; refine wpList_append_rng rfl _ _ rfl w.heap.size _ _ 0 y rfl (OwnR.away (OwnR.away (HO.out.below HW.out) hbx _) hbx _) ?cB ?cS hi _ (by simp) rfl ?_)
            case cB => have := HB.out.size; have := HW.out.size; simp; omega
            case cS => omega
            intro v' w3 ho3 hg3
            have hb3 : Below w.heap.size w w3 := (vb_a (vb_s (vb_s (vb_t HB.out HW.out) HB.out.size _) HB.out.size _) _).grown hg3 (by have := HB.out.size; have := HW.out.size; simp; omega) (fun j hj => (HO.out.lt j hj).1)
            have HX : Hid (OwnR w3 w.heap.size v' (withinL (l.take (k + 1))) ∧ Below w.heap.size w w3) := ⟨by rw [hwt]; exact ho3, hb3⟩
            clear ho3 hg3 hb3 hwt
            go_wp2_with fail
            go_roundg (l.length - (k + 1))
            case measure => omega
            case rel => exact ⟨k + 1, by omega, rfl, by simp, HX.out.1, HX.out.2⟩
          · rw [if_neg hle, List.append_nil] at hwt
            have hsp := fun w => span_any 0 y w
            have HO := hid_intro hown
            have HB := hid_intro hb
            have hbx : u3.ownBlock ≠ some wr.heap.size := fun e => by have := (hown.lt _ e).2; omega
            have hi : I64 0 ∧ I64 y := ⟨I64_of (by omega) (by omega), I64_of (by omega) (by omega)⟩
            clear hown hb hcell hwf hmo hmk
            go_wp2_with fail
            refine (hsp _).mono ?_; rintro r w1 ⟨rfl, hb1⟩
            have k := Bk.bel (Bk.new _ _ _) hb1
            obtain ⟨c0, c1⟩ := k.c2
            obtain ⟨z0, z1⟩ := k.z2
            have hbw := vb_t (vb_a (Below.refl _ _) _) hb1
            have HW := hid_intro hbw
            clear k hsp hb1 hbw
            have HX : Hid (withinL (l.take (k + 1)) = withinL (l.take k)) := hid_intro hwt
            clear hwt
            go_wp2_with fail
            go_roundg (l.length - (k + 1))
            case measure => omega
            case rel => exact ⟨k + 1, by omega, rfl, by simp, by rw [HX.out]; exact OwnR.away (OwnR.away (HO.out.below HW.out) hbx _) hbx _, vb_s (vb_s (vb_t HB.out HW.out) HB.out.size _) HB.out.size _⟩
      · have ex : max x 0 = x := by omega
        rw [ex] at hwt
        by_cases hy : 1114111 < y
        · have ey : min y 1114111 = 1114111 := by omega
          rw [ey] at hwt
          by_cases hle : x ≤ 1114111
          · rw [if_pos hle] at hwt
            have hsp := fun w => span_any x 1114111 w
            have HO := hid_intro hown
            have HB := hid_intro hb
            have hbx : u3.ownBlock ≠ some wr.heap.size := fun e => by have := (hown.lt _ e).2; omega
            have hi : I64 x ∧ I64 1114111 := ⟨I64_of (by omega) (by omega), I64_of (by omega) (by omega)⟩
            clear hown hb hcell hwf hmo hmk
            go_wp2_with fail
            refine (hsp _).mono ?_; rintro r w1 ⟨rfl, hb1⟩
            have k := Bk.bel (Bk.new _ _ _) hb1
            obtain ⟨c0, c1⟩ := k.c2
            obtain ⟨z0, z1⟩ := k.z2
            have hbw := vb_t (vb_a (Below.refl _ _) _) hb1
            have HW := hid_intro hbw
            clear k hsp hb1 hbw
            go_wp2_with (at_builtin; refine wpList_append_rng rfl _ _ rfl w.heap.size _ _ x 1114111 rfl (OwnR.away (OwnR.away (HO.out.below HW.out) hbx _) hbx _) ?cB ?cS hi _ (by simp) rfl ?_)
            case cB => have := HB.out.size; have := HW.out.size; simp; omega
            case cS => omega
            intro v' w3 ho3 hg3
            have hb3 : Below w.heap.size w w3 := (vb_a (vb_s (vb_s (vb_t HB.out HW.out) HB.out.size _) HB.out.size _) _).grown hg3 (by have := HB.out.size; have := HW.out.size; simp; omega) (fun j hj => (HO.out.lt j hj).1)
            have HX : Hid (OwnR w3 w.heap.size v' (withinL (l.take (k + 1))) ∧ Below w.heap.size w w3) := ⟨by rw [hwt]; exact ho3, hb3⟩
            clear ho3 hg3 hb3 hwt
            go_wp2_with fail
            go_roundg (l.length - (k + 1))
            case measure => omega
            case rel => exact ⟨k + 1, by omega, rfl, by simp, HX.out.1, HX.out.2⟩
          · rw [if_neg hle, List.append_nil] at hwt
            have hsp := fun w => span_any x 1114111 w
            have HO := hid_intro hown
            have HB := hid_intro hb
            have hbx : u3.ownBlock ≠ some wr.heap.size := fun e => by have := (hown.lt _ e).2; omega
            have hi : I64 x ∧ I64 1114111 := ⟨I64_of (by omega) (by omega), I64_of (by omega) (by omega)⟩
            clear hown hb hcell hwf hmo hmk
            go_wp2_with fail
            refine (hsp _).mono ?_; rintro r w1 ⟨rfl, hb1⟩
            have k := Bk.bel (Bk.new _ _ _) hb1
            obtain ⟨c0, c1⟩ := k.c2
            obtain ⟨z0, z1⟩ := k.z2
            have hbw := vb_t (vb_a (Below.refl _ _) _) hb1
            have HW := hid_intro hbw
            clear k hsp hb1 hbw
            have HX : Hid (withinL (l.take (k + 1)) = withinL (l.take k)) := hid_intro hwt
            clear hwt
            go_wp2_with fail
            go_roundg (l.length - (k + 1))
            case measure => omega
            case rel => exact ⟨k + 1, by omega, rfl, by simp, by rw [HX.out]; exact OwnR.away (OwnR.away (HO.out.below HW.out) hbx _) hbx _, vb_s (vb_s (vb_t HB.out HW.out) HB.out.size _) HB.out.size _⟩
        · have ey : min y 1114111 = y := by omega
          rw [ey] at hwt
          by_cases hle : x ≤ y
          · rw [if_pos hle] at hwt
            have hsp := fun w => span_any x y w
            have HO := hid_intro hown
            have HB := hid_intro hb
            have hbx : u3.ownBlock ≠ some wr.heap.size := fun e => by have := (hown.lt _ e).2; omega
            have hi : I64 x ∧ I64 y := ⟨I64_of (by omega) (by omega), I64_of (by omega) (by omega)⟩
            clear hown hb hcell hwf hmo hmk
            go_wp2_with fail
            refine (hsp _).mono ?_; rintro r w1 ⟨rfl, hb1⟩
            have k := Bk.bel (Bk.new _ _ _) hb1
            obtain ⟨c0, c1⟩ := k.c2
            obtain ⟨z0, z1⟩ := k.z2
            have hbw := vb_t (vb_a (Below.refl _ _) _) hb1
            have HW := hid_intro hbw
            clear k hsp hb1 hbw
            go_wp2_with (at_builtin; refine wpList_append_rng rfl _ _ rfl w.heap.size _ _ x y rfl (OwnR.away (OwnR.away (HO.out.below HW.out) hbx _) hbx _) ?cB ?cS hi _ (by simp) rfl ?_)
            case cB => have := HB.out.size; have := HW.out.size; simp; omega
            case cS => omega
            intro v' w3 ho3 hg3
            have hb3 : Below w.heap.size w w3 := (vb_a (vb_s (vb_s (vb_t HB.out HW.out) HB.out.size _) HB.out.size _) _).grown hg3 (by have := HB.out.size; have := HW.out.size; simp; omega) (fun j hj => (HO.out.lt j hj).1)
            have HX : Hid (OwnR w3 w.heap.size v' (withinL (l.take (k + 1))) ∧ Below w.heap.size w w3) := ⟨by rw [hwt]; exact ho3, hb3⟩
            clear ho3 hg3 hb3 hwt
            go_wp2_with fail
            go_roundg (l.length - (k + 1))
            case measure => omega
            case rel => exact ⟨k + 1, by omega, rfl, by simp, HX.out.1, HX.out.2⟩
          · rw [if_neg hle, List.append_nil] at hwt
            have hsp := fun w => span_any x y w
            have HO := hid_intro hown
            have HB := hid_intro hb
            have hbx : u3.ownBlock ≠ some wr.heap.size := fun e => by have := (hown.lt _ e).2; omega
            have hi : I64 x ∧ I64 y := ⟨I64_of (by omega) (by omega), I64_of (by omega) (by omega)⟩
            clear hown hb hcell hwf hmo hmk
            go_wp2_with fail
            refine (hsp _).mono ?_; rintro r w1 ⟨rfl, hb1⟩
            have k := Bk.bel (Bk.new _ _ _) hb1
            obtain ⟨c0, c1⟩ := k.c2
            obtain ⟨z0, z1⟩ := k.z2
            have hbw := vb_t (vb_a (Below.refl _ _) _) hb1
            have HW := hid_intro hbw
            clear k hsp hb1 hbw
            have HX : Hid (withinL (l.take (k + 1)) = withinL (l.take k)) := hid_intro hwt
            clear hwt
            go_wp2_with fail
            go_roundg (l.length - (k + 1))
            case measure => omega
            case rel => exact ⟨k + 1, by omega, rfl, by simp, by rw [HX.out]; exact OwnR.away (OwnR.away (HO.out.below HW.out) hbx _) hbx _, vb_s (vb_s (vb_t HB.out HW.out) HB.out.size _) HB.out.size _⟩
    · obtain rfl : k = l.length := by omega
      have hI : ¬ ((l.length : Int) < (l.length : Int)) := by omega
      rw [List.take_length] at hown
      clear hmo hmk
      go_wp2_with fail
      go_ret
      exact ⟨_, rfl, hown, hb⟩
end Go.Proofs.Ytcgohdfpmfpfiaa
