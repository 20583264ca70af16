/-
  RxGroups' walk, where both texts are patterns, short and with few parentheses. Conditions: the table of greatest code points holds its four numbers.
-/
import Derived.Test.YtannjmgnbfbpjaaDoorXG4
namespace Go.Proofs.YtannjmgnbfbpjaaDoor
open Go.RowKit
attribute [local go_sem] setCell_drewN alloc_drewN

set_option maxRecDepth 100000 in
set_option maxHeartbeats 3200000 in
theorem groups_ok (a b : ByteArray) (x y : RX) (w : World) (hT : Tab w) (hg0 : 0 < w.heap.size) (ea : parseS a = some x) (eb : parseS b = some y) (hsz : a.size + b.size ≤ 4000) (ca : a.data.toList.count 40 ≤ 190) (cb : b.data.toList.count 40 ≤ 190) :
    Calls Tryd.prog 5 #[.string a, .string b] w fun r w' => r = .returned (.bool true) ∧ Below w.heap.size w w' := by
  obtain ⟨es, et, eu⟩ := groups_spec ea eb hsz ca cb
  have zs := seq_size a b
  have zt := alt_size a b
  have zu := in_size a
  have hpa := fun (s : ByteArray) (t : Option RX) (e : parseS s = t) (hs : s.size ≤ 1099511627776) w' (hb : Below w.heap.size w w') => e ▸ parse_any s w' (hT.below hb) (Nat.lt_of_lt_of_le hg0 hb.size) hs
  have hp1 := fun w' (hb : Below w.heap.size w w') => hpa a _ ea (by omega) w' hb
  have hp2 := fun w' (hb : Below w.heap.size w w') => hpa b _ eb (by omega) w' hb
  have hp3 := fun w' (hb : Below w.heap.size w w') => hpa (seqT a b) _ es (by omega) w' hb
  have hp4 := fun w' (hb : Below w.heap.size w w') => hpa (altT a b) _ et (by omega) w' hb
  have hp5 := fun w' (hb : Below w.heap.size w w') => hpa (inT a) _ eu (by omega) w' hb
  have hda := fun w => deep_no a w (by omega) ca
  have hdb := fun w => deep_no b w (by omega) cb
  have HHD := hid_intro (fun w' (hb : Below w.heap.size w w') => heads_any w' (hT.below hb) (Nat.lt_of_lt_of_le hg0 hb.size))
  unfold seqT at hp3
  unfold altT at hp4
  unfold inT at hp5
  have HP1 := hid_intro hp1
  have HP2 := hid_intro hp2
  have HP3 := hid_intro hp3
  have HP4 := hid_intro hp4
  have HP5 := hid_intro hp5
  have hsI : (a.size : Int) + (b.size : Int) ≤ 4000 := by omega
  have ha0 : (0 : Int) ≤ (a.size : Int) := by omega
  have hb0 : (0 : Int) ≤ (b.size : Int) := by omega
  clear hpa hT hg0 ea eb es et eu zs zt zu hp1 hp2 hp3 hp4 hp5 ca cb
  obtain ⟨P, hP⟩ : ∃ P : Ending → World → Prop, P = fun r w' => r = .returned (.bool true) ∧ Below w.heap.size w w' := ⟨_, rfl⟩
  rw [← hP]
  have HP := hid_intro hP
  clear hP
  go_enter Tryd.func5, Tryd.ntmps5
  go_wp2_with fail
  refine (HP1.out w (Below.refl _ _)).mono ?_; rintro r w1 ⟨hb1, f1, rfl, hx1⟩
  obtain ⟨xk, xa, xn, xc, xl, xh, xz, xd, xm, xe, ef1⟩ := hx1.lit
  rw [ef1]
  have HK1 := hid_intro (Bk.new w1 #[.int .i64 xk, .slice xa xn xc, .int .i64 xl, .int .i64 xh, .bool xz, .slice xd xm xe] 32)
  have hL1 := vb_a (Below.refl w1.heap.size w1) (.cells #[.int .i64 xk, .slice xa xn xc, .int .i64 xl, .int .i64 xh, .bool xz, .slice xd xm xe] 32)
  go_wp2_with fail
  refine (HP2.out _ (vb_t hb1 hL1)).mono ?_; rintro r w2 ⟨hb2, f2, rfl, hx2⟩
  obtain ⟨yk, ya, yn, yc, yl, yh, yz, yd, ym, ye, ef2⟩ := hx2.lit
  rw [ef2]
  have HK2 := hid_intro (Bk.new w2 #[.int .i64 yk, .slice ya yn yc, .int .i64 yl, .int .i64 yh, .bool yz, .slice yd ym ye] 32)
  have hL2 := vb_a (Below.refl w2.heap.size w2) (.cells #[.int .i64 yk, .slice ya yn yc, .int .i64 yl, .int .i64 yh, .bool yz, .slice yd ym ye] 32)
  have hb02 := vb_t (vb_t (vb_t hb1 hL1) hb2) hL2
  go_wp2_with fail
  refine (hda _).mono ?_; rintro r w' ⟨rfl, rfl⟩
  go_wp2_with fail
  refine (hdb _).mono ?_; rintro r w' ⟨rfl, rfl⟩
  go_wp2_with fail
  refine (HP3.out _ hb02).mono ?_; rintro r w5 ⟨hb5, f5, rfl, hx5⟩
  obtain ⟨sr, sq, sb, so, sp, sG, sH, ef5, s0, s1, sX, sY, sl⟩ := open_two hx5
  rw [ef5]
  have HK5 := hid_intro (Bk.new w5 #[.int .i64 3, .slice sr 0 sq, .int .i64 0, .int .i64 0, .bool false, .slice (some ⟨sb, so, none⟩) 2 sp] 32)
  have hL5 := vb_a (Below.refl w5.heap.size w5) (.cells #[.int .i64 3, .slice sr 0 sq, .int .i64 0, .int .i64 0, .bool false, .slice (some ⟨sb, so, none⟩) 2 sp] 32)
  have hb05 := vb_t (vb_t hb02 hb5) hL5
  go_wp2_with fail
  refine (HP4.out _ hb05).mono ?_; rintro r w6 ⟨hb6, f6, rfl, hx6⟩
  obtain ⟨tr, tq, tb, to, tp, tG, tH, ef6, t0, t1, tX, tY, tl⟩ := open_two hx6
  rw [ef6]
  have HK6 := hid_intro (Bk.new w6 #[.int .i64 4, .slice tr 0 tq, .int .i64 0, .int .i64 0, .bool false, .slice (some ⟨tb, to, none⟩) 2 tp] 32)
  have hL6 := vb_a (Below.refl w6.heap.size w6) (.cells #[.int .i64 4, .slice tr 0 tq, .int .i64 0, .int .i64 0, .bool false, .slice (some ⟨tb, to, none⟩) 2 tp] 32)
  have hb06 := vb_t (vb_t hb05 hb6) hL6
  go_wp2_with fail
  refine (HP5.out _ hb06).mono ?_; rintro r w7 ⟨hb7, f7, rfl, hx7⟩
  obtain ⟨uk, ua, un, uc, ul, uh, uz, ud, um, ue, ef7⟩ := hx7.lit
  rw [ef7]
  obtain ⟨V, hV⟩ : ∃ V, w7.alloc (.cells #[.int .i64 uk, .slice ua un uc, .int .i64 ul, .int .i64 uh, .bool uz, .slice ud um ue] 32) = V := ⟨_, rfl⟩
  have kU : Bk V w7.heap.size #[.int .i64 uk, .slice ua un uc, .int .i64 ul, .int .i64 uh, .bool uz, .slice ud um ue] := hV ▸ Bk.new _ _ _
  have h7 : Below w7.heap.size w7 V := hV ▸ vb_a (Below.refl _ _) _
  have h6 : Below w6.heap.size w6 V := vb_t (vb_t hL6 hb7) h7
  have h5 : Below w5.heap.size w5 V := vb_t (vb_t hL5 hb6) h6
  have h2 : Below w2.heap.size w2 V := vb_t (vb_t hL2 hb5) h5
  have h1 : Below w1.heap.size w1 V := vb_t (vb_t hL1 hb2) h2
  have h0 : Below w.heap.size w V := vb_t hb1 h1
  have k1 := (HK1.out.bel (vb_t hb2 h2))
  have k2 := (HK2.out.bel (vb_t hb5 h5))
  have k5 := (HK5.out.bel (vb_t hb6 h6))
  have k6 := (HK6.out.bel (vb_t hb7 h7))
  have HS : Hid (∀ w', Below V.heap.size V w' → w'.cell? ⟨w5.heap.size, 5, none⟩ = some (.slice (some ⟨sb, so, none⟩) 2 sp) ∧ w'.cell? ⟨w6.heap.size, 5, none⟩ = some (.slice (some ⟨tb, to, none⟩) 2 tp) ∧ w'.cell? ⟨sb, so, none⟩ = some (sG 0) ∧ w'.cell? ⟨sb, so + 1, none⟩ = some (sG 1) ∧ w'.cell? ⟨sb, so + 2, none⟩ = some (sG 2) ∧ w'.cell? ⟨sb, so + 3, none⟩ = some (sG 3) ∧ w'.cell? ⟨sb, so + 4, none⟩ = some (sG 4) ∧ w'.cell? ⟨sb, so + 5, none⟩ = some (sG 5) ∧ w'.cell? ⟨tb, to, none⟩ = some (tG 0) ∧ w'.cell? ⟨tb, to + 1, none⟩ = some (tG 1) ∧ w'.cell? ⟨tb, to + 2, none⟩ = some (tG 2) ∧ w'.cell? ⟨tb, to + 3, none⟩ = some (tG 3) ∧ w'.cell? ⟨tb, to + 4, none⟩ = some (tG 4) ∧ w'.cell? ⟨tb, to + 5, none⟩ = some (tG 5) ∧ w'.cell? ⟨sb, so + 6, none⟩ = some (sH 0) ∧ w'.cell? ⟨sb, so + 6 + 1, none⟩ = some (sH 1) ∧ w'.cell? ⟨sb, so + 6 + 2, none⟩ = some (sH 2) ∧ w'.cell? ⟨sb, so + 6 + 3, none⟩ = some (sH 3) ∧ w'.cell? ⟨sb, so + 6 + 4, none⟩ = some (sH 4) ∧ w'.cell? ⟨sb, so + 6 + 5, none⟩ = some (sH 5) ∧ w'.cell? ⟨tb, to + 6, none⟩ = some (tH 0) ∧ w'.cell? ⟨tb, to + 6 + 1, none⟩ = some (tH 1) ∧ w'.cell? ⟨tb, to + 6 + 2, none⟩ = some (tH 2) ∧ w'.cell? ⟨tb, to + 6 + 3, none⟩ = some (tH 3) ∧ w'.cell? ⟨tb, to + 6 + 4, none⟩ = some (tH 4) ∧ w'.cell? ⟨tb, to + 6 + 5, none⟩ = some (tH 5) ∧ w'.cell? ⟨w1.heap.size, 0, none⟩ = some (.int .i64 xk) ∧ w'.cell? ⟨w1.heap.size, 1, none⟩ = some (.slice xa xn xc) ∧ w'.cell? ⟨w1.heap.size, 2, none⟩ = some (.int .i64 xl) ∧ w'.cell? ⟨w1.heap.size, 3, none⟩ = some (.int .i64 xh) ∧ w'.cell? ⟨w1.heap.size, 4, none⟩ = some (.bool xz) ∧ w'.cell? ⟨w1.heap.size, 5, none⟩ = some (.slice xd xm xe) ∧ w'.cell? ⟨w2.heap.size, 0, none⟩ = some (.int .i64 yk) ∧ w'.cell? ⟨w2.heap.size, 1, none⟩ = some (.slice ya yn yc) ∧ w'.cell? ⟨w2.heap.size, 2, none⟩ = some (.int .i64 yl) ∧ w'.cell? ⟨w2.heap.size, 3, none⟩ = some (.int .i64 yh) ∧ w'.cell? ⟨w2.heap.size, 4, none⟩ = some (.bool yz) ∧ w'.cell? ⟨w2.heap.size, 5, none⟩ = some (.slice yd ym ye) ∧ w'.cell? ⟨w7.heap.size, 0, none⟩ = some (.int .i64 uk) ∧ w'.cell? ⟨w7.heap.size, 1, none⟩ = some (.slice ua un uc) ∧ w'.cell? ⟨w7.heap.size, 2, none⟩ = some (.int .i64 ul) ∧ w'.cell? ⟨w7.heap.size, 3, none⟩ = some (.int .i64 uh) ∧ w'.cell? ⟨w7.heap.size, 4, none⟩ = some (.bool uz) ∧ w'.cell? ⟨w7.heap.size, 5, none⟩ = some (.slice ud um ue)) := hid_intro (fun w' hb' => by
    obtain ⟨x0, x1, x2, x3, x4, x5⟩ := (k1.bel hb').c6
    obtain ⟨y0, y1, y2, y3, y4, y5⟩ := (k2.bel hb').c6
    obtain ⟨u0, u1, u2, u3, u4, u5⟩ := (kU.bel hb').c6
    obtain ⟨_, _, _, _, _, v5⟩ := (k5.bel hb').c6
    obtain ⟨_, _, _, _, _, z5⟩ := (k6.bel hb').c6
    have b5 := vb_t h5 hb'
    have b6 := vb_t h6 hb'
    have c0 : ∀ j, j < 6 → w'.cell? ⟨sb, so + j, none⟩ = some (sG j) := fun j hj => (b5.cell (p := ⟨sb, so + j, none⟩) sl).trans (s0 j hj)
    have c1 : ∀ j, j < 6 → w'.cell? ⟨sb, so + 6 + j, none⟩ = some (sH j) := fun j hj => (b5.cell (p := ⟨sb, so + 6 + j, none⟩) sl).trans (s1 j hj)
    have d0 : ∀ j, j < 6 → w'.cell? ⟨tb, to + j, none⟩ = some (tG j) := fun j hj => (b6.cell (p := ⟨tb, to + j, none⟩) tl).trans (t0 j hj)
    have d1 : ∀ j, j < 6 → w'.cell? ⟨tb, to + 6 + j, none⟩ = some (tH j) := fun j hj => (b6.cell (p := ⟨tb, to + 6 + j, none⟩) tl).trans (t1 j hj)
    exact ⟨v5, z5, c0 0 (by omega), c0 1 (by omega), c0 2 (by omega), c0 3 (by omega), c0 4 (by omega), c0 5 (by omega), d0 0 (by omega), d0 1 (by omega), d0 2 (by omega), d0 3 (by omega), d0 4 (by omega), d0 5 (by omega), c1 0 (by omega), c1 1 (by omega), c1 2 (by omega), c1 3 (by omega), c1 4 (by omega), c1 5 (by omega), d1 0 (by omega), d1 1 (by omega), d1 2 (by omega), d1 3 (by omega), d1 4 (by omega), d1 5 (by omega), x0, x1, x2, x3, x4, x5, y0, y1, y2, y3, y4, y5, u0, u1, u2, u3, u4, u5⟩)
  have HC1 : Hid (∀ w', Below V.heap.size V w' → Calls Tryd.prog 15 #[.agg #[sG 0, sG 1, sG 2, sG 3, sG 4, sG 5], .agg #[.int .i64 xk, .slice xa xn xc, .int .i64 xl, .int .i64 xh, .bool xz, .slice xd xm xe]] w' fun r w2 => r = .returned (.bool true) ∧ Below w'.heap.size w' w2) := hid_intro (fun w' hb' => same_L (sX.kept (vb_t h5 hb')) (hx1.kept (vb_t h1 hb')) ef1)
  have HC2 : Hid (∀ w', Below V.heap.size V w' → Calls Tryd.prog 15 #[.agg #[sH 0, sH 1, sH 2, sH 3, sH 4, sH 5], .agg #[.int .i64 yk, .slice ya yn yc, .int .i64 yl, .int .i64 yh, .bool yz, .slice yd ym ye]] w' fun r w2 => r = .returned (.bool true) ∧ Below w'.heap.size w' w2) := hid_intro (fun w' hb' => same_L (sY.kept (vb_t h5 hb')) (hx2.kept (vb_t h2 hb')) ef2)
  have HC3 : Hid (∀ w', Below V.heap.size V w' → Calls Tryd.prog 15 #[.agg #[tG 0, tG 1, tG 2, tG 3, tG 4, tG 5], .agg #[.int .i64 xk, .slice xa xn xc, .int .i64 xl, .int .i64 xh, .bool xz, .slice xd xm xe]] w' fun r w2 => r = .returned (.bool true) ∧ Below w'.heap.size w' w2) := hid_intro (fun w' hb' => same_L (tX.kept (vb_t h6 hb')) (hx1.kept (vb_t h1 hb')) ef1)
  have HC4 : Hid (∀ w', Below V.heap.size V w' → Calls Tryd.prog 15 #[.agg #[tH 0, tH 1, tH 2, tH 3, tH 4, tH 5], .agg #[.int .i64 yk, .slice ya yn yc, .int .i64 yl, .int .i64 yh, .bool yz, .slice yd ym ye]] w' fun r w2 => r = .returned (.bool true) ∧ Below w'.heap.size w' w2) := hid_intro (fun w' hb' => same_L (tY.kept (vb_t h6 hb')) (hx2.kept (vb_t h2 hb')) ef2)
  have HC5 : Hid (∀ w', Below V.heap.size V w' → Calls Tryd.prog 15 #[.agg #[.int .i64 uk, .slice ua un uc, .int .i64 ul, .int .i64 uh, .bool uz, .slice ud um ue], .agg #[.int .i64 xk, .slice xa xn xc, .int .i64 xl, .int .i64 xh, .bool xz, .slice xd xm xe]] w' fun r w2 => r = .returned (.bool true) ∧ Below w'.heap.size w' w2) := hid_intro (fun w' hb' => same_LL (hx7.kept (vb_t h7 hb')) (hx1.kept (vb_t h1 hb')) ef7 ef1)
  have HC6 : Hid (∀ w', Below V.heap.size V w' → Calls Tryd.prog 11 #[] w' fun r w2 => r = .returned (.bool true) ∧ Below w'.heap.size w' w2) := hid_intro (fun w' hb' => HHD.out w' (vb_t h0 hb'))
  have HB := hid_intro h0
  obtain ⟨p50, _, _, _, _, p55⟩ := k5.c6
  obtain ⟨p60, _, _, _, _, p65⟩ := k6.c6
  clear k1 k2 k5 k6 kU h0 h1 h2 h5 h6 h7 hx1 hx2 hx5 hx6 hx7 sX sY tX tY s0 s1 t0 t1 sl tl ef1 ef2 ef5 ef6 ef7 HK1 HK2 HK5 HK6 hL1 hL2 hL5 hL6 hb1 hb2 hb5 hb6 hb7 hb02 hb05 hb06 HHD HP1 HP2 HP3 HP4 HP5 hda hdb
  go_wp2_with fail
  go_region_held3 (fun w' => w'.cell? ⟨w5.heap.size, 5, none⟩ = some (.slice (some ⟨sb, so, none⟩) 2 sp) ∧ w'.cell? ⟨w6.heap.size, 5, none⟩ = some (.slice (some ⟨tb, to, none⟩) 2 tp) ∧ w'.cell? ⟨sb, so, none⟩ = some (sG 0) ∧ w'.cell? ⟨sb, so + 1, none⟩ = some (sG 1) ∧ w'.cell? ⟨sb, so + 2, none⟩ = some (sG 2) ∧ w'.cell? ⟨sb, so + 3, none⟩ = some (sG 3) ∧ w'.cell? ⟨sb, so + 4, none⟩ = some (sG 4) ∧ w'.cell? ⟨sb, so + 5, none⟩ = some (sG 5) ∧ w'.cell? ⟨tb, to, none⟩ = some (tG 0) ∧ w'.cell? ⟨tb, to + 1, none⟩ = some (tG 1) ∧ w'.cell? ⟨tb, to + 2, none⟩ = some (tG 2) ∧ w'.cell? ⟨tb, to + 3, none⟩ = some (tG 3) ∧ w'.cell? ⟨tb, to + 4, none⟩ = some (tG 4) ∧ w'.cell? ⟨tb, to + 5, none⟩ = some (tG 5) ∧ w'.cell? ⟨sb, so + 6, none⟩ = some (sH 0) ∧ w'.cell? ⟨sb, so + 6 + 1, none⟩ = some (sH 1) ∧ w'.cell? ⟨sb, so + 6 + 2, none⟩ = some (sH 2) ∧ w'.cell? ⟨sb, so + 6 + 3, none⟩ = some (sH 3) ∧ w'.cell? ⟨sb, so + 6 + 4, none⟩ = some (sH 4) ∧ w'.cell? ⟨sb, so + 6 + 5, none⟩ = some (sH 5) ∧ w'.cell? ⟨tb, to + 6, none⟩ = some (tH 0) ∧ w'.cell? ⟨tb, to + 6 + 1, none⟩ = some (tH 1) ∧ w'.cell? ⟨tb, to + 6 + 2, none⟩ = some (tH 2) ∧ w'.cell? ⟨tb, to + 6 + 3, none⟩ = some (tH 3) ∧ w'.cell? ⟨tb, to + 6 + 4, none⟩ = some (tH 4) ∧ w'.cell? ⟨tb, to + 6 + 5, none⟩ = some (tH 5) ∧ w'.cell? ⟨w1.heap.size, 0, none⟩ = some (.int .i64 xk) ∧ w'.cell? ⟨w1.heap.size, 1, none⟩ = some (.slice xa xn xc) ∧ w'.cell? ⟨w1.heap.size, 2, none⟩ = some (.int .i64 xl) ∧ w'.cell? ⟨w1.heap.size, 3, none⟩ = some (.int .i64 xh) ∧ w'.cell? ⟨w1.heap.size, 4, none⟩ = some (.bool xz) ∧ w'.cell? ⟨w1.heap.size, 5, none⟩ = some (.slice xd xm xe) ∧ w'.cell? ⟨w2.heap.size, 0, none⟩ = some (.int .i64 yk) ∧ w'.cell? ⟨w2.heap.size, 1, none⟩ = some (.slice ya yn yc) ∧ w'.cell? ⟨w2.heap.size, 2, none⟩ = some (.int .i64 yl) ∧ w'.cell? ⟨w2.heap.size, 3, none⟩ = some (.int .i64 yh) ∧ w'.cell? ⟨w2.heap.size, 4, none⟩ = some (.bool yz) ∧ w'.cell? ⟨w2.heap.size, 5, none⟩ = some (.slice yd ym ye) ∧ w'.cell? ⟨w7.heap.size, 0, none⟩ = some (.int .i64 uk) ∧ w'.cell? ⟨w7.heap.size, 1, none⟩ = some (.slice ua un uc) ∧ w'.cell? ⟨w7.heap.size, 2, none⟩ = some (.int .i64 ul) ∧ w'.cell? ⟨w7.heap.size, 3, none⟩ = some (.int .i64 uh) ∧ w'.cell? ⟨w7.heap.size, 4, none⟩ = some (.bool uz) ∧ w'.cell? ⟨w7.heap.size, 5, none⟩ = some (.slice ud um ue)) (first | (refine HS.out _ ?_; with_reducible repeat (first | exact Below.refl _ _ | refine vb_d ?_ | refine vb_a ?_ _ | refine vb_t ?_ hb16 | refine vb_t ?_ hb15 | refine vb_t ?_ hb14 | refine vb_t ?_ hb13 | refine vb_t ?_ hb12 | refine vb_t ?_ hb11)) | fail) (first | (go_at_call 15; with_reducible refine Calls.mono (HC1.out _ ?_) ?_; (with_reducible repeat (first | exact Below.refl _ _ | refine vb_d ?_ | refine vb_a ?_ _ | refine vb_t ?_ hb16 | refine vb_t ?_ hb15 | refine vb_t ?_ hb14 | refine vb_t ?_ hb13 | refine vb_t ?_ hb12 | refine vb_t ?_ hb11)); rintro r w11 ⟨rfl, hb11⟩) | (go_at_call 15; with_reducible refine Calls.mono (HC2.out _ ?_) ?_; (with_reducible repeat (first | exact Below.refl _ _ | refine vb_d ?_ | refine vb_a ?_ _ | refine vb_t ?_ hb16 | refine vb_t ?_ hb15 | refine vb_t ?_ hb14 | refine vb_t ?_ hb13 | refine vb_t ?_ hb12 | refine vb_t ?_ hb11)); rintro r w12 ⟨rfl, hb12⟩) | (go_at_call 15; with_reducible refine Calls.mono (HC3.out _ ?_) ?_; (with_reducible repeat (first | exact Below.refl _ _ | refine vb_d ?_ | refine vb_a ?_ _ | refine vb_t ?_ hb16 | refine vb_t ?_ hb15 | refine vb_t ?_ hb14 | refine vb_t ?_ hb13 | refine vb_t ?_ hb12 | refine vb_t ?_ hb11)); rintro r w13 ⟨rfl, hb13⟩) | (go_at_call 15; with_reducible refine Calls.mono (HC4.out _ ?_) ?_; (with_reducible repeat (first | exact Below.refl _ _ | refine vb_d ?_ | refine vb_a ?_ _ | refine vb_t ?_ hb16 | refine vb_t ?_ hb15 | refine vb_t ?_ hb14 | refine vb_t ?_ hb13 | refine vb_t ?_ hb12 | refine vb_t ?_ hb11)); rintro r w14 ⟨rfl, hb14⟩) | (go_at_call 15; with_reducible refine Calls.mono (HC5.out _ ?_) ?_; (with_reducible repeat (first | exact Below.refl _ _ | refine vb_d ?_ | refine vb_a ?_ _ | refine vb_t ?_ hb16 | refine vb_t ?_ hb15 | refine vb_t ?_ hb14 | refine vb_t ?_ hb13 | refine vb_t ?_ hb12 | refine vb_t ?_ hb11)); rintro r w15 ⟨rfl, hb15⟩) | (go_at_call 11; refine (HC6.out _ ?_).mono ?_; (with_reducible repeat (first | exact Below.refl _ _ | refine vb_d ?_ | refine vb_a ?_ _ | refine vb_t ?_ hb16 | refine vb_t ?_ hb15 | refine vb_t ?_ hb14 | refine vb_t ?_ hb13 | refine vb_t ?_ hb12 | refine vb_t ?_ hb11)); rintro r w16 ⟨rfl, hb16⟩))
  all_goals
    go_wp2_with fail
    rw [HP.out]
    refine ⟨rfl, vb_t HB.out ?_⟩
    with_reducible repeat (first | exact Below.refl _ _ | refine vb_d ?_ | refine vb_a ?_ _ | refine vb_t ?_ hb16 | refine vb_t ?_ hb15 | refine vb_t ?_ hb14 | refine vb_t ?_ hb13 | refine vb_t ?_ hb12 | refine vb_t ?_ hb11)
end Go.Proofs.YtannjmgnbfbpjaaDoor
