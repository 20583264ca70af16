/-
  The named sets as rows of the call's own; within: ranges as far as they may be. Conditions: at most 2^40 ranges.
  What functions of the library answer at this program, laid by program out of the library. Conditions: each states its own.
-/
import Derived.Test.YtppilokmgdpnnaaGreatDoorJoined7
import Derived.Laws.AppendOwn
import Derived.Shelf.Strings.Builder1
import Derived.Shelf.Small.Bits
import Derived.Shelf.Small.Strs
import Derived.Shelf.Small.Wraps
import Derived.Shelf.Strings.BuilderF
import Derived.Shelf.Strings.BuilderK
import Derived.Shelf.Strconv.Itoa0
import Derived.Shelf.Strconv.Itoa1
import Derived.Shelf.LaysM
import Derived.Shelf.Strconv.Itoa2
import Derived.Shelf.Strconv.Itoa3
import Derived.Shelf.Strconv.Itoa4
import Derived.Shelf.Strings.Search1
import Derived.Shelf.Strings.Search2
import Derived.Shelf.Strings.Search3
import Derived.Shelf.SlGeneric
import Derived.Shelf.SlSortCmp.NoneTotal
import Derived.Test.YtppilokmgdpnnaaGreatDoorProg
namespace Go.Proofs.YtppilokmgdpnnaaGreatDoor
open Go.RowKit
attribute [local go_sem] setCell_drewN alloc_drewN

set_option maxRecDepth 100000 in
set_option maxHeartbeats 800000 in
theorem wordLetters_any (w : World) : Calls Tryz.prog 33 #[] w fun r w' => ∃ v, r = .returned v ∧ RI w' (· < w.heap.size) wordLetters v ∧ Below w.heap.size w w' := by
  have h0 := fun w => span_any 48 57 w
  have h1 := fun w => span_any 65 90 w
  have h2 := fun w => only_any 95 w
  have h3 := fun w => span_any 97 122 w
  go_enter Tryz.func33, Tryz.ntmps33
  go_wp2_with fail
  refine (h0 _).mono ?_; rintro r w0 ⟨rfl, hb0⟩
  go_wp2_with fail
  refine (h1 _).mono ?_; rintro r w1 ⟨rfl, hb1⟩
  go_wp2_with fail
  refine (h2 _).mono ?_; rintro r w2 ⟨rfl, hb2⟩
  go_wp2_with fail
  refine (h3 _).mono ?_; rintro r w3 ⟨rfl, hb3⟩
  have hbb := (vb_t (vb_t (vb_t hb0 hb1) hb2) hb3)
  clear h0 hb0 h1 hb1 h2 hb2 h3 hb3
  go_wp2_with fail
  go_ret
  refine ⟨_, rfl, ?_, vb_a hbb _⟩
  exact (OwnR.lit w3 w.heap.size wordLetters _ rfl hbb.size (by decide) (by intro r hr; unfold I64; revert r; decide) _ rfl).ri _ (fun b hb => by omega)

set_option maxRecDepth 100000 in
set_option maxHeartbeats 800000 in
theorem spaces_any (w : World) : Calls Tryz.prog 34 #[] w fun r w' => ∃ v, r = .returned v ∧ RI w' (· < w.heap.size) spacesL v ∧ Below w.heap.size w w' := by
  have h0 := fun w => span_any 9 13 w
  have h1 := fun w => only_any 32 w
  have h2 := fun w => only_any 160 w
  have h3 := fun w => only_any 5760 w
  have h4 := fun w => span_any 8192 8202 w
  have h5 := fun w => span_any 8232 8233 w
  have h6 := fun w => only_any 8239 w
  have h7 := fun w => only_any 8287 w
  have h8 := fun w => only_any 12288 w
  have h9 := fun w => only_any 65279 w
  go_enter Tryz.func34, Tryz.ntmps34
  go_wp2_with fail
  refine (h0 _).mono ?_; rintro r w0 ⟨rfl, hb0⟩
  go_wp2_with fail
  refine (h1 _).mono ?_; rintro r w1 ⟨rfl, hb1⟩
  go_wp2_with fail
  refine (h2 _).mono ?_; rintro r w2 ⟨rfl, hb2⟩
  go_wp2_with fail
  refine (h3 _).mono ?_; rintro r w3 ⟨rfl, hb3⟩
  go_wp2_with fail
  refine (h4 _).mono ?_; rintro r w4 ⟨rfl, hb4⟩
  go_wp2_with fail
  refine (h5 _).mono ?_; rintro r w5 ⟨rfl, hb5⟩
  go_wp2_with fail
  refine (h6 _).mono ?_; rintro r w6 ⟨rfl, hb6⟩
  go_wp2_with fail
  refine (h7 _).mono ?_; rintro r w7 ⟨rfl, hb7⟩
  go_wp2_with fail
  refine (h8 _).mono ?_; rintro r w8 ⟨rfl, hb8⟩
  go_wp2_with fail
  refine (h9 _).mono ?_; rintro r w9 ⟨rfl, hb9⟩
  have hbb := (vb_t (vb_t (vb_t (vb_t (vb_t (vb_t (vb_t (vb_t (vb_t hb0 hb1) hb2) hb3) hb4) hb5) hb6) hb7) hb8) hb9)
  clear h0 hb0 h1 hb1 h2 hb2 h3 hb3 h4 hb4 h5 hb5 h6 hb6 h7 hb7 h8 hb8 h9 hb9
  go_wp2_with fail
  go_ret
  refine ⟨_, rfl, ?_, vb_a hbb _⟩
  exact (OwnR.lit w9 w.heap.size spacesL _ rfl hbb.size (by decide) (by intro r hr; unfold I64; revert r; decide) _ rfl).ri _ (fun b hb => by omega)

theorem OwnR.away {w : World} {B : Nat} {v : Value} {l : List (Int × Int)} (h : OwnR w B v l) {a : Addr} (ha : v.ownBlock ≠ some a.block) (u : Value) : OwnR (w.setCell a u) B v l :=
  h.kept fun k hk => Below.heap_setCell w a u k (fun e => ha (by rw [hk, e]))
theorem within_take (l : List (Int × Int)) (i : Nat) (h : i < l.length) : withinL (l.take (i + 1)) = withinL (l.take i) ++ (if (cutR (ra l i)).1 ≤ (cutR (ra l i)).2 then [cutR (ra l i)] else []) := by
  unfold withinL
  rw [List.take_succ_eq_append_getElem h, List.map_append, List.filter_append, ra_get h]
  congr 1
  show List.filter _ [cutR l[i]] = _
  by_cases hc : (cutR l[i]).1 ≤ (cutR l[i]).2
  · rw [if_pos hc]; simp [hc]
  · rw [if_neg hc]; simp [hc]
theorem within_len (l : List (Int × Int)) : (withinL l).length ≤ l.length := by
  unfold withinL
  refine Nat.le_trans (List.length_filter_le _ _) ?_
  simp
theorem make_rng (w : World) (c : Nat) (hc : c ≤ 1099511627776) : (Instr.makeSlice 23 (.int .i64 0) (.int .i64 (c : Int))).run Tryz.prog w = .ok (.slice (some ⟨w.heap.size, 0, none⟩) 0 c) (w.alloc (.cells (madeCells #[.int .i64 0, .int .i64 0] (c * 2)) 46)) := by
  obtain ⟨i0, hi, hz0, hz1, hz2⟩ := info_parts infoRange
  have := run_make (P := Tryz.prog) w 23 46 i0 (.agg #[.int .i64 0, .int .i64 0]) Tryz.underlying23 hi hz0 .i64 .i64 0 (c : Int) (by omega) (by omega) (by rw [hz2]; omega) (by omega)
  rw [hz1] at this
  simpa [Value.cells] using this
theorem make_ownR (w : World) (c : Nat) (hc : c ≤ 1099511627776) : OwnR (w.alloc (.cells (madeCells #[.int .i64 0, .int .i64 0] (c * 2)) 46)) w.heap.size (.slice (some ⟨w.heap.size, 0, none⟩) 0 c) [] := by
  refine ⟨?_, fun r hr => by simp at hr⟩
  have := World.ownsRow_made (base := w.heap.size) (e := 46) (size := 2) w (madeCells #[.int .i64 0, .int .i64 0] (c * 2)) c (Nat.le_refl _) (by unfold maxLen; omega) (by rw [size_madeCells])
  exact this

set_option maxRecDepth 100000 in
set_option maxHeartbeats 1600000 in
theorem within_any (l : List (Int × Int)) (v : Value) (w : World) (X : Nat → Prop) (hR : RI w X l v) (hl : l.length ≤ 1099511627776) :
    Calls Tryz.prog 51 #[v] w fun r w' => ∃ v', r = .returned v' ∧ OwnR w' w.heap.size v' (withinL l) ∧ Below w.heap.size w w' := by
  obtain ⟨ao, cap, rfl, hc, hcm, hwf, hlie⟩ := hR
  have hmk := make_rng w l.length hl
  have hmo := make_ownR w l.length hl
  have hlI : (l.length : Int) ≤ 1099511627776 := by omega
  obtain ⟨o0, ho0⟩ : ∃ o, Obj.cells (madeCells #[.int .i64 0, .int .i64 0] (l.length * 2)) 46 = o := ⟨_, rfl⟩
  rw [ho0] at hmk hmo
  go_enter Tryz.func51, Tryz.ntmps51
  go_wp2_with fail
  go_loopg [3, 11] l.length (fun m s3 s11 wr => ∃ k : Nat, k ≤ l.length ∧ m = l.length - k ∧ s11 = .int .i64 (k : Int) ∧ OwnR wr w.heap.size s3 (withinL (l.take k)) ∧ Below w.heap.size w wr)
  case atStart => exact ⟨0, Nat.zero_le _, rfl, rfl, hmo, vb_a (Below.refl _ _) _⟩
  case round =>
    obtain ⟨k, hk, rfl, rfl, hown, hb⟩ := hrel
    by_cases hlt : k < l.length
    · rcases hlie with hlie | ⟨b, off, rfl, _, hcell⟩
      · subst hlie; simp at hlt
      have q0 := (hb.cell (p := ⟨b, off + k * 2, none⟩) (World.block_lt_of_cell? w _ (hcell k hlt).1)).trans (hcell k hlt).1
      have q1 := (hb.cell (p := ⟨b, off + k * 2 + 1, none⟩) (World.block_lt_of_cell? w _ (hcell k hlt).2)).trans (hcell k hlt).2
      have hI : (k : Int) < (l.length : Int) := by omega
      have hwt := within_take l k hlt
      have hr := hwf _ (ra_mem hlt)
      unfold cutR at hwt
      simp only at hwt
      have hwl : (withinL (l.take k)).length ≤ k := Nat.le_trans (within_len _) (by rw [List.length_take]; omega)
      generalize ra l k = rr at *
      obtain ⟨x, y⟩ := rr
      simp only at hwt hr q0 q1
      obtain ⟨hr1, hr2⟩ := hr
      unfold I64 at hr1 hr2
      by_cases hx : x < 0
      · have ex : max x 0 = 0 := by omega
        rw [ex] at hwt
        by_cases hy : 1114111 < y
        · have ey : min y 1114111 = 1114111 := by omega
          rw [ey, if_pos (by omega)] at hwt
          have hsp := fun w => span_any 0 1114111 w
          have HO := hid_intro hown
          have HB := hid_intro hb
          have hbx : u3.ownBlock ≠ some wr.heap.size := fun e => by have := (hown.lt _ e).2; omega
          have hi : I64 0 ∧ I64 1114111 := ⟨I64_of (by omega) (by omega), I64_of (by omega) (by omega)⟩
          clear hown hb hcell hwf hmo hmk
          go_wp2_with fail
          refine (hsp _).mono ?_; rintro r w1 ⟨rfl, hb1⟩
          have k := Bk.bel (Bk.new _ _ _) hb1
          obtain ⟨c0, c1⟩ := k.c2
          obtain ⟨z0, z1⟩ := k.z2
          have hbw := vb_t (vb_a (Below.refl _ _) _) hb1
          have HW := hid_intro hbw
          clear k hsp hb1 hbw
          go_wp2_with (at_builtin; refine wpList_append_rng rfl _ _ rfl w.heap.size _ _ 0 1114111 rfl (OwnR.away (OwnR.away (HO.out.below HW.out) hbx _) hbx _) ?cB ?cS hi _ (by simp) rfl ?_)
          case cB => have := HB.out.size; have := HW.out.size; simp; omega
          case cS => omega
          intro v' w3 ho3 hg3
          have hb3 : Below w.heap.size w w3 := (vb_a (vb_s (vb_s (vb_t HB.out HW.out) HB.out.size _) HB.out.size _) _).grown hg3 (by have := HB.out.size; have := HW.out.size; simp; omega) (fun j hj => (HO.out.lt j hj).1)
          have HX : Hid (OwnR w3 w.heap.size v' (withinL (l.take (k + 1))) ∧ Below w.heap.size w w3) := ⟨by rw [hwt]; exact ho3, hb3⟩
          clear ho3 hg3 hb3 hwt
          go_wp2_with fail
          go_roundg (l.length - (k + 1))
          case measure => omega
          case rel => exact ⟨k + 1, by omega, rfl, by simp, HX.out.1, HX.out.2⟩
        · have ey : min y 1114111 = y := by omega
          rw [ey] at hwt
          by_cases hle : 0 ≤ y
          · rw [if_pos hle] at hwt
            have hsp := fun w => span_any 0 y w
            have HO := hid_intro hown
            have HB := hid_intro hb
            have hbx : u3.ownBlock ≠ some wr.heap.size := fun e => by have := (hown.lt _ e).2; omega
            have hi : I64 0 ∧ I64 y := ⟨I64_of (by omega) (by omega), I64_of (by omega) (by omega)⟩
            clear hown hb hcell hwf hmo hmk
            go_wp2_with fail
            refine (hsp _).mono ?_; rintro r w1 ⟨rfl, hb1⟩
            have k := Bk.bel (Bk.new _ _ _) hb1
            obtain ⟨c0, c1⟩ := k.c2
            obtain ⟨z0, z1⟩ := k.z2
            have hbw := vb_t (vb_a (Below.refl _ _) _) hb1
            have HW := hid_intro hbw
            clear k hsp hb1 hbw
            go_wp2_with (at_builtin; refine wpList_append_rng rfl _ _ rfl w.heap.size _ _ 0 y rfl (OwnR.away (OwnR.away (HO.out.below HW.out) hbx _) hbx _) ?cB ?cS hi _ (by simp) rfl ?_)
            case cB => have := HB.out.size; have := HW.out.size; simp; omega
            case cS => omega
            intro v' w3 ho3 hg3
            have hb3 : Below w.heap.size w w3 := (vb_a (vb_s (vb_s (vb_t HB.out HW.out) HB.out.size _) HB.out.size _) _).grown hg3 (by have := HB.out.size; have := HW.out.size; simp; omega) (fun j hj => (HO.out.lt j hj).1)
            have HX : Hid (OwnR w3 w.heap.size v' (withinL (l.take (k + 1))) ∧ Below w.heap.size w w3) := ⟨by rw [hwt]; exact ho3, hb3⟩
            clear ho3 hg3 hb3 hwt
            go_wp2_with fail
            go_roundg (l.length - (k + 1))
            case measure => omega
            case rel => exact ⟨k + 1, by omega, rfl, by simp, HX.out.1, HX.out.2⟩
          · rw [if_neg hle, List.append_nil] at hwt
            have hsp := fun w => span_any 0 y w
            have HO := hid_intro hown
            have HB := hid_intro hb
            have hbx : u3.ownBlock ≠ some wr.heap.size := fun e => by have := (hown.lt _ e).2; omega
            have hi : I64 0 ∧ I64 y := ⟨I64_of (by omega) (by omega), I64_of (by omega) (by omega)⟩
            clear hown hb hcell hwf hmo hmk
            go_wp2_with fail
            refine (hsp _).mono ?_; rintro r w1 ⟨rfl, hb1⟩
            have k := Bk.bel (Bk.new _ _ _) hb1
            obtain ⟨c0, c1⟩ := k.c2
            obtain ⟨z0, z1⟩ := k.z2
            have hbw := vb_t (vb_a (Below.refl _ _) _) hb1
            have HW := hid_intro hbw
            clear k hsp hb1 hbw
            have HX : Hid (withinL (l.take (k + 1)) = withinL (l.take k)) := hid_intro hwt
            clear hwt
            go_wp2_with fail
            go_roundg (l.length - (k + 1))
            case measure => omega
            case rel => exact ⟨k + 1, by omega, rfl, by simp, by rw [HX.out]; exact OwnR.away (OwnR.away (HO.out.below HW.out) hbx _) hbx _, vb_s (vb_s (vb_t HB.out HW.out) HB.out.size _) HB.out.size _⟩
      · have ex : max x 0 = x := by omega
        rw [ex] at hwt
        by_cases hy : 1114111 < y
        · have ey : min y 1114111 = 1114111 := by omega
          rw [ey] at hwt
          by_cases hle : x ≤ 1114111
          · rw [if_pos hle] at hwt
            have hsp := fun w => span_any x 1114111 w
            have HO := hid_intro hown
            have HB := hid_intro hb
            have hbx : u3.ownBlock ≠ some wr.heap.size := fun e => by have := (hown.lt _ e).2; omega
            have hi : I64 x ∧ I64 1114111 := ⟨I64_of (by omega) (by omega), I64_of (by omega) (by omega)⟩
            clear hown hb hcell hwf hmo hmk
            go_wp2_with fail
            refine (hsp _).mono ?_; rintro r w1 ⟨rfl, hb1⟩
            have k := Bk.bel (Bk.new _ _ _) hb1
            obtain ⟨c0, c1⟩ := k.c2
            obtain ⟨z0, z1⟩ := k.z2
            have hbw := vb_t (vb_a (Below.refl _ _) _) hb1
            have HW := hid_intro hbw
            clear k hsp hb1 hbw
            go_wp2_with (at_builtin; refine wpList_append_rng rfl _ _ rfl w.heap.size _ _ x 1114111 rfl (OwnR.away (OwnR.away (HO.out.below HW.out) hbx _) hbx _) ?cB ?cS hi _ (by simp) rfl ?_)
            case cB => have := HB.out.size; have := HW.out.size; simp; omega
            case cS => omega
            intro v' w3 ho3 hg3
            have hb3 : Below w.heap.size w w3 := (vb_a (vb_s (vb_s (vb_t HB.out HW.out) HB.out.size _) HB.out.size _) _).grown hg3 (by have := HB.out.size; have := HW.out.size; simp; omega) (fun j hj => (HO.out.lt j hj).1)
            have HX : Hid (OwnR w3 w.heap.size v' (withinL (l.take (k + 1))) ∧ Below w.heap.size w w3) := ⟨by rw [hwt]; exact ho3, hb3⟩
            clear ho3 hg3 hb3 hwt
            go_wp2_with fail
            go_roundg (l.length - (k + 1))
            case measure => omega
            case rel => exact ⟨k + 1, by omega, rfl, by simp, HX.out.1, HX.out.2⟩
          · rw [if_neg hle, List.append_nil] at hwt
            have hsp := fun w => span_any x 1114111 w
            have HO := hid_intro hown
            have HB := hid_intro hb
            have hbx : u3.ownBlock ≠ some wr.heap.size := fun e => by have := (hown.lt _ e).2; omega
            have hi : I64 x ∧ I64 1114111 := ⟨I64_of (by omega) (by omega), I64_of (by omega) (by omega)⟩
            clear hown hb hcell hwf hmo hmk
            go_wp2_with fail
            refine (hsp _).mono ?_; rintro r w1 ⟨rfl, hb1⟩
            have k := Bk.bel (Bk.new _ _ _) hb1
            obtain ⟨c0, c1⟩ := k.c2
            obtain ⟨z0, z1⟩ := k.z2
            have hbw := vb_t (vb_a (Below.refl _ _) _) hb1
            have HW := hid_intro hbw
            clear k hsp hb1 hbw
            have HX : Hid (withinL (l.take (k + 1)) = withinL (l.take k)) := hid_intro hwt
            clear hwt
            go_wp2_with fail
            go_roundg (l.length - (k + 1))
            case measure => omega
            case rel => exact ⟨k + 1, by omega, rfl, by simp, by rw [HX.out]; exact OwnR.away (OwnR.away (HO.out.below HW.out) hbx _) hbx _, vb_s (vb_s (vb_t HB.out HW.out) HB.out.size _) HB.out.size _⟩
        · have ey : min y 1114111 = y := by omega
          rw [ey] at hwt
          by_cases hle : x ≤ y
          · rw [if_pos hle] at hwt
            have hsp := fun w => span_any x y w
            have HO := hid_intro hown
            have HB := hid_intro hb
            have hbx : u3.ownBlock ≠ some wr.heap.size := fun e => by have := (hown.lt _ e).2; omega
            have hi : I64 x ∧ I64 y := ⟨I64_of (by omega) (by omega), I64_of (by omega) (by omega)⟩
            clear hown hb hcell hwf hmo hmk
            go_wp2_with fail
            refine (hsp _).mono ?_; rintro r w1 ⟨rfl, hb1⟩
            have k := Bk.bel (Bk.new _ _ _) hb1
            obtain ⟨c0, c1⟩ := k.c2
            obtain ⟨z0, z1⟩ := k.z2
            have hbw := vb_t (vb_a (Below.refl _ _) _) hb1
            have HW := hid_intro hbw
            clear k hsp hb1 hbw
            go_wp2_with (at_builtin; refine wpList_append_rng rfl _ _ rfl w.heap.size _ _ x y rfl (OwnR.away (OwnR.away (HO.out.below HW.out) hbx _) hbx _) ?cB ?cS hi _ (by simp) rfl ?_)
            case cB => have := HB.out.size; have := HW.out.size; simp; omega
            case cS => omega
            intro v' w3 ho3 hg3
            have hb3 : Below w.heap.size w w3 := (vb_a (vb_s (vb_s (vb_t HB.out HW.out) HB.out.size _) HB.out.size _) _).grown hg3 (by have := HB.out.size; have := HW.out.size; simp; omega) (fun j hj => (HO.out.lt j hj).1)
            have HX : Hid (OwnR w3 w.heap.size v' (withinL (l.take (k + 1))) ∧ Below w.heap.size w w3) := ⟨by rw [hwt]; exact ho3, hb3⟩
            clear ho3 hg3 hb3 hwt
            go_wp2_with fail
            go_roundg (l.length - (k + 1))
            case measure => omega
            case rel => exact ⟨k + 1, by omega, rfl, by simp, HX.out.1, HX.out.2⟩
          · rw [if_neg hle, List.append_nil] at hwt
            have hsp := fun w => span_any x y w
            have HO := hid_intro hown
            have HB := hid_intro hb
            have hbx : u3.ownBlock ≠ some wr.heap.size := fun e => by have := (hown.lt _ e).2; omega
            have hi : I64 x ∧ I64 y := ⟨I64_of (by omega) (by omega), I64_of (by omega) (by omega)⟩
            clear hown hb hcell hwf hmo hmk
            go_wp2_with fail
            refine (hsp _).mono ?_; rintro r w1 ⟨rfl, hb1⟩
            have k := Bk.bel (Bk.new _ _ _) hb1
            obtain ⟨c0, c1⟩ := k.c2
            obtain ⟨z0, z1⟩ := k.z2
            have hbw := vb_t (vb_a (Below.refl _ _) _) hb1
            have HW := hid_intro hbw
            clear k hsp hb1 hbw
            have HX : Hid (withinL (l.take (k + 1)) = withinL (l.take k)) := hid_intro hwt
            clear hwt
            go_wp2_with fail
            go_roundg (l.length - (k + 1))
            case measure => omega
            case rel => exact ⟨k + 1, by omega, rfl, by simp, by rw [HX.out]; exact OwnR.away (OwnR.away (HO.out.below HW.out) hbx _) hbx _, vb_s (vb_s (vb_t HB.out HW.out) HB.out.size _) HB.out.size _⟩
    · obtain rfl : k = l.length := by omega
      have hI : ¬ ((l.length : Int) < (l.length : Int)) := by omega
      rw [List.take_length] at hown
      clear hmo hmk
      go_wp2_with fail
      go_ret
      exact ⟨_, rfl, hown, hb⟩
end Go.Proofs.YtppilokmgdpnnaaGreatDoor

namespace Go.Proofs
open Go.Shelf
def Tryz.lays122_ren : Go.Shelf.Ren := ⟨fun | 122 => 54 | 215 => 63 | n => n, fun | 3 => 3 | 4 => 4 | n => n, fun | n => n⟩
theorem Tryz.lays122 : Go.Proofs.Lays.n122 Tryz.prog Tryz.lays122_ren := {
  mixed := by kernel_rfl
  f122 := Tryz.func54.trans (congrArg some (by kernel_rfl))
  f215 := Tryz.func63.trans (congrArg some (by kernel_rfl))
  t3 := Tryz.underlying3
  a3 := Tryz.isAgg3
  z3 := Tryz.sizeOf3
  v3 := Tryz.zeroValue3
  t4 := Tryz.underlying4
  a4 := Tryz.isAgg4
  z4 := Tryz.sizeOf4
  v4 := Tryz.zeroValue4 }
open Go.RowKit in
/-- cmp.Compare at int: "Compare returns -1 if x is less than y, 0 if x equals y, +1 if x is greater than y.": IT RETURNS 'Lib.compareInt x y'; the world is as it was. (LAID: no walk: one application.) -/
theorem Tryz.cmp_Compare_int (x y : Int) (w : World) :
    Calls Tryz.prog 54 #[.int .i64 x, .int .i64 y] w fun e w' => e = .returned (.int .i64 (Lib.compareInt x y)) ∧ w' = w := Any.cmp_Compare_int Tryz.lays122 x y w
def Tryz.sortR_ren : Go.Shelf.Ren := ⟨fun | 6 => 52 | 15 => 62 | 14 => 61 | 28 => 84 | 29 => 85 | 20 => 76 | 21 => 77 | 22 => 78 | 23 => 79 | 24 => 80 | 25 => 81 | 26 => 82 | 27 => 83 | 46 => 101 | 47 => 102 | 48 => 103 | 49 => 104 | 50 => 105 | 57 => 129 | n => n, fun | 22 => 23 | 24 => 46 | 25 => 77 | 3 => 3 | 39 => 84 | 0 => 0 | 53 => 106 | 55 => 108 | 4 => 4 | 46 => 100 | 45 => 99 | 50 => 71 | 5 => 5 | 9 => 9 | 66 => 115 | 70 => 119 | 76 => 138 | 77 => 88 | n => n, fun | n => n⟩
theorem Tryz.sortR : Go.Proofs.SlLaysF0.n6 Tryz.prog Tryz.sortR_ren := {
  mixed := by kernel_rfl
  f6 := ⟨Tryz.f52.name, by decide, Tryz.func52.trans (congrArg some (by kernel_rfl))⟩
  f14 := ⟨Tryz.f61.name, by decide, Tryz.func61.trans (congrArg some (by kernel_rfl))⟩
  f15 := Tryz.func62.trans (congrArg some (by kernel_rfl))
  f20 := ⟨Tryz.f76.name, by decide, Tryz.func76.trans (congrArg some (by kernel_rfl))⟩
  f21 := ⟨Tryz.f77.name, by decide, Tryz.func77.trans (congrArg some (by kernel_rfl))⟩
  f22 := ⟨Tryz.f78.name, by decide, Tryz.func78.trans (congrArg some (by kernel_rfl))⟩
  f23 := ⟨Tryz.f79.name, by decide, Tryz.func79.trans (congrArg some (by kernel_rfl))⟩
  f24 := ⟨Tryz.f80.name, by decide, Tryz.func80.trans (congrArg some (by kernel_rfl))⟩
  f25 := ⟨Tryz.f81.name, by decide, Tryz.func81.trans (congrArg some (by kernel_rfl))⟩
  f26 := ⟨Tryz.f82.name, by decide, Tryz.func82.trans (congrArg some (by kernel_rfl))⟩
  f27 := ⟨Tryz.f83.name, by decide, Tryz.func83.trans (congrArg some (by kernel_rfl))⟩
  f28 := Tryz.func84.trans (congrArg some (by kernel_rfl))
  f29 := Tryz.func85.trans (congrArg some (by kernel_rfl))
  f46 := ⟨Tryz.f101.name, by decide, Tryz.func101.trans (congrArg some (by kernel_rfl))⟩
  f47 := Tryz.func102.trans (congrArg some (by kernel_rfl))
  f48 := Tryz.func103.trans (congrArg some (by kernel_rfl))
  f49 := ⟨Tryz.f104.name, by decide, Tryz.func104.trans (congrArg some (by kernel_rfl))⟩
  f50 := ⟨Tryz.f105.name, by decide, Tryz.func105.trans (congrArg some (by kernel_rfl))⟩
  f57 := ⟨Tryz.f129.name, by decide, Tryz.func129.trans (congrArg some (by kernel_rfl))⟩
  t0 := Tryz.underlying0
  a0 := Tryz.isAgg0
  z0 := Tryz.sizeOf0
  v0 := Tryz.zeroValue0
  t3 := Tryz.underlying3
  a3 := Tryz.isAgg3
  z3 := Tryz.sizeOf3
  v3 := Tryz.zeroValue3
  t4 := Tryz.underlying4
  a4 := Tryz.isAgg4
  z4 := Tryz.sizeOf4
  v4 := Tryz.zeroValue4
  t5 := Tryz.underlying5
  a5 := Tryz.isAgg5
  z5 := Tryz.sizeOf5
  v5 := Tryz.zeroValue5
  t9 := Tryz.underlying9
  a9 := Tryz.isAgg9
  z9 := Tryz.sizeOf9
  v9 := Tryz.zeroValue9
  t22 := Tryz.underlying23
  a22 := Tryz.isAgg23
  z22 := Tryz.sizeOf23
  v22 := Tryz.zeroValue23
  t25 := Tryz.underlying77
  a25 := Tryz.isAgg77
  z25 := Tryz.sizeOf77
  v25 := Tryz.zeroValue77
  t39 := Tryz.underlying84
  a39 := Tryz.isAgg84
  z39 := Tryz.sizeOf84
  v39 := Tryz.zeroValue84
  t45 := Tryz.underlying99
  a45 := Tryz.isAgg99
  z45 := Tryz.sizeOf99
  v45 := Tryz.zeroValue99
  t46 := Tryz.underlying100
  a46 := Tryz.isAgg100
  z46 := Tryz.sizeOf100
  v46 := Tryz.zeroValue100
  t50 := Tryz.underlying71
  a50 := Tryz.isAgg71
  z50 := Tryz.sizeOf71
  v50 := Tryz.zeroValue71
  t53 := Tryz.underlying106
  a53 := Tryz.isAgg106
  z53 := Tryz.sizeOf106
  v53 := Tryz.zeroValue106
  t55 := Tryz.underlying108
  a55 := Tryz.isAgg108
  z55 := Tryz.sizeOf108
  v55 := Tryz.zeroValue108
  t66 := Tryz.underlying115
  a66 := Tryz.isAgg115
  z66 := Tryz.sizeOf115
  v66 := Tryz.zeroValue115
  t70 := Tryz.underlying119
  a70 := Tryz.isAgg119
  z70 := Tryz.sizeOf119
  v70 := Tryz.zeroValue119
  t76 := Tryz.underlying138
  a76 := Tryz.isAgg138
  z76 := Tryz.sizeOf138
  v76 := Tryz.zeroValue138
  t77 := Tryz.underlying88
  a77 := Tryz.isAgg88
  z77 := Tryz.sizeOf88
  v77 := Tryz.zeroValue88 }
end Go.Proofs
