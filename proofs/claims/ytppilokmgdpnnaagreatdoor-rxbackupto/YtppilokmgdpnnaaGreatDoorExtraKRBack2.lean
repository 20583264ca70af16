/-
  RxBack answers true. Conditions: at most 2^20 nodes and ranges, and bytes; the library's tables and the table of greatest code points as the program lays them.
-/
import Derived.Test.YtppilokmgdpnnaaGreatDoorJoined45
import Derived.Test.YtppilokmgdpnnaaGreatDoorExtraKRBack0
import Derived.Test.YtppilokmgdpnnaaGreatDoorExtraKRBack1
import Derived.Test.YtppilokmgdpnnaaGreatDoorJoined44
namespace Go.Proofs.YtppilokmgdpnnaaGreatDoor
open Go.RowKit Go.Sort
attribute [local go_sem] setCell_drewN alloc_drewN

theorem lone_no : ∀ (d : Nat) (t : RX), rightB d t = true → loneX t = false → noLone d t
  | 0, t, h, _ => by simp [rightB] at h
  | d + 1, .mk k r lo hi z s, h, hl => by
    obtain ⟨ho, hs⟩ := right_own d k r lo hi z s h
    rw [loneX, Bool.or_eq_false_iff, loneL_any] at hl
    have hcan : Can r := by
      have e : rightB (d + 1) (.mk k r lo hi z s) = (headB k r lo hi z && kindB k lo hi s.length && s.all (rightB d)) := rfl
      rw [e, Bool.and_eq_true, Bool.and_eq_true] at h
      have h1 := h.1.1
      unfold headB at h1
      simp at h1
      exact can_rg r h1.2
    refine ⟨fun x hx => sur2_no (by simpa using List.any_eq_false.1 hl.1 x hx) (hcan.ok x hx), fun x hx => lone_no d x (hs x hx) (by simpa using List.any_eq_false.1 hl.2 x hx)⟩
theorem bsx_list (l : List UInt8) : (bsx l).data.toList = l := rfl
/-- The text of a tree is read as it. -/
theorem parse_text (t : RX) (h : rightB 1000 t = true) (hl : loneX t = false) (hv : lvX t ≤ 100) (hs : (textT t).length ≤ 4096) : parseS (bsx (textT t)) = some t := by
  have hn := lone_no 1000 t h hl
  have hu := tx_utf 1000 t 0 h hn
  obtain ⟨h1, h2⟩ := utf_goodS (s := bsx (textT t)) hu
  have hok : okS (bsx (textT t)) = true := by
    unfold okS
    rw [h1, bsx_size]
    simp [hs]
  unfold parseS
  rw [if_pos hok, h2]
  exact parse_back WP rfl (fun l hc hn => (WP_st l hc hn).2) rfl 1000 t h hn (by omega)
theorem parse_goodS (s : ByteArray) (t : RX) (h : parseS s = some t) : GoodX 1000 t := by
  unfold parseS at h
  split at h
  · rename_i hok
    unfold okS at hok
    simp at hok
    have := ptsS_len s
    refine parse_good (ptsS s) t ?_ h
    omega
  · simp at h
set_option maxRecDepth 100000 in
set_option maxHeartbeats 6400000 in
theorem rxback_walk (t : RX) (f : Nat → Value) (s : ByteArray) (hs : s.size ≤ 1048576) (w : World) (X : Nat → Prop) (hT : TX w) (hg0 : 0 < w.heap.size) (hbd : BdX 1048576 t) (hwt : wtX t ≤ 1048576) (hx : XI w X t f) :
    Calls Tryz.prog 4 #[xa f, .string s] w fun r w' => r = .returned (.bool true) ∧ Below w.heap.size w w' := by
  obtain ⟨k, a, n, c, lo, hi, z, a', n', c', e0, e1, e2, e3, e4, e5⟩ := hx.six
  have exa : xa f = .agg #[.int .i64 k, .slice a n c, .int .i64 lo, .int .i64 hi, .bool z, .slice a' n' c'] := by unfold xa; rw [e0, e1, e2, e3, e4, e5]
  obtain ⟨W, hW⟩ : ∃ W, w.alloc (.cells #[.int .i64 k, .slice a n c, .int .i64 lo, .int .i64 hi, .bool z, .slice a' n' c'] 26) = W := ⟨_, rfl⟩
  have HWb : Hid (Below w.heap.size w W) := hid_intro (hW ▸ vb_a (Below.refl _ _) _)
  have HWk : Hid (Bk W w.heap.size #[.int .i64 k, .slice a n c, .int .i64 lo, .int .i64 hi, .bool z, .slice a' n' c']) := hid_intro (hW ▸ Bk.new _ _ _)
  have hPa := parse_any s W ((hT.below HWb.out).tab) (Nat.lt_of_lt_of_le hg0 HWb.out.size) (by omega)
  have HC : Hid (∀ w', Below W.heap.size W w' → Calls Tryz.prog 6 #[xa f] w' fun r w2 => r = .returned (.int .i64 (errC t)) ∧ Below W.heap.size W w2) := hid_intro (fun w' hb => (check_any t f w' X (hbd.mono (by omega)) (hx.kept (vb_t HWb.out hb))).mono fun r w2 h => ⟨h.1, vb_t hb h.2⟩)
  have HLv : Hid (rightB 1000 t = true → ∀ w', Below W.heap.size W w' → Calls Tryz.prog 10 #[xa f] w' fun r w2 => r = .returned (.int .i64 (lvX t : Int)) ∧ Below W.heap.size W w2) := hid_intro (fun hr w' hb => (levels_any t f w' X (hx.kept (vb_t HWb.out hb)) (lv_right t 1000 hr)).mono fun r w2 h => ⟨h.1, vb_t hb h.2⟩)
  have HLo : Hid (∀ w', Below W.heap.size W w' → Calls Tryz.prog 11 #[xa f] w' fun r w2 => r = .returned (.bool (loneX t)) ∧ Below W.heap.size W w2) := hid_intro (fun w' hb => (lone_any t f w' X (hx.kept (vb_t HWb.out hb))).mono fun r w2 h => ⟨h.1, vb_t hb h.2⟩)
  have HTx : Hid (∀ w', Below W.heap.size W w' → Calls Tryz.prog 5 #[xa f] w' fun r w2 => r = .returned (.tuple #[.string (bsx (TextC t)), .int .i64 (errC t)]) ∧ Below W.heap.size W w2) := hid_intro (fun w' hb => (text_c t f w' X (hT.below (vb_t HWb.out hb)) hbd hwt (hx.kept (vb_t HWb.out hb))).mono fun r w2 h => ⟨h.1, vb_t hb h.2⟩)
  have HHD : Hid (∀ w', Below W.heap.size W w' → Calls Tryz.prog 8 #[] w' fun r w2 => r = .returned (.bool true) ∧ Below W.heap.size W w2) := hid_intro (fun w' hb => (heads_any w' ((hT.below (vb_t HWb.out hb)).tab) (Nat.lt_of_lt_of_le hg0 (vb_t HWb.out hb).size)).mono fun r w2 h => ⟨h.1, vb_t hb h.2⟩)
  have HPT : Hid (∀ T : List UInt8, T.length ≤ 4096 → parseS (bsx T) = some t → ∀ w', Below W.heap.size W w' → Calls Tryz.prog 9 #[.string (bsx T)] w' fun r w2 => Below W.heap.size W w2 ∧ Below w'.heap.size w' w2 ∧ ∃ g, r = .returned (.tuple #[xa g, .int .i64 0]) ∧ XI w2 (· < w'.heap.size) t g) := hid_intro (fun T hl hp w' hb => by
    have := parse_any (bsx T) w' ((hT.below (vb_t HWb.out hb)).tab) (Nat.lt_of_lt_of_le hg0 (vb_t HWb.out hb).size) (by rw [bsx_size]; omega)
    rw [hp] at this
    exact this.mono fun r w2 h => ⟨vb_t hb h.1, h.1, h.2⟩)
  have HSm : Hid (∀ w' g Y, Below W.heap.size W w' → XI w' Y t g → Calls Tryz.prog 12 #[xa g, xa f] w' fun r w2 => r = .returned (.bool true) ∧ Below W.heap.size W w2) := hid_intro (fun w' g Y hb hg => (same_refl t g f w' Y X hg (hx.kept (vb_t HWb.out hb))).mono fun r w2 h => ⟨h.1, vb_t hb h.2⟩)
  have HCy : Hid (∀ y g Y w', GoodX 1000 y → Below W.heap.size W w' → XI w' Y y g → Calls Tryz.prog 6 #[xa g] w' fun r w2 => r = .returned (.int .i64 0) ∧ Below W.heap.size W w2) := hid_intro (fun y g Y w' hg hb hy => (check_any y g w' Y (hg.2.mono (by omega)) hy).mono fun r w2 h => ⟨by rw [h.1, hg.1]; rfl, vb_t hb h.2⟩)
  have HS : Hid (∀ w', Below W.heap.size W w' → Bk w' w.heap.size #[.int .i64 k, .slice a n c, .int .i64 lo, .int .i64 hi, .bool z, .slice a' n' c']) := hid_intro (fun w' hb => HWk.out.bel hb)
  have HGS := hid_intro (parse_goodS s)
  have HPB := hid_intro (parse_text t)
  rw [exa] at HC HLv HLo HTx HSm ⊢
  obtain ⟨P, hP⟩ : ∃ P : Ending → World → Prop, P = fun r w' => r = .returned (.bool true) ∧ Below w.heap.size w w' := ⟨_, rfl⟩
  rw [← hP]
  have HP := hid_intro hP
  have HW := hid_intro hW
  clear hP hx exa e0 e1 e2 e3 e4 e5 hbd hwt hW hT hg0 HWk hs
  cases hp : parseS s with
  | none =>
    rw [hp] at hPa
    clear hp
    cases hr : rightB 1000 t
    · have HEr : Hid (errC t = 91) := hid_intro (by unfold errC; rw [hr]; rfl)
      clear hr HPB
      go_enter Tryz.func4, Tryz.ntmps4
      go_wp2_with fail
      rw [HW.out]
      refine hPa.mono ?_; rintro r w1 ⟨hb1, rfl⟩
      have HC1 := hid_intro hb1
      clear hb1 hPa
      obtain ⟨W1, hW1⟩ : ∃ W1, w1.alloc (.cells #[.int .i64 0, .slice none 0 0, .int .i64 0, .int .i64 0, .bool false, .slice none 0 0] 26) = W1 := ⟨_, rfl⟩
      have hc : Below W.heap.size W W1 := vb_t HC1.out (hW1 ▸ vb_a (Below.refl _ _) _)
      obtain ⟨x0, x1, x2, x3, x4, x5⟩ := (HS.out _ hc).c6
      rw [← hW1] at x0 x1 x2 x3 x4 x5
      have HW1 := hid_intro hW1
      clear hW1
      go_wp2_with fail
      rw [HW1.out]
      clear x0 x1 x2 x3 x4 x5
      refine (HC.out _ hc).mono ?_; rintro r w4 ⟨rfl, hc⟩
      rw [HEr.out]
      go_wp2_with fail
      refine (HHD.out _ hc).mono ?_; rintro r w5 ⟨rfl, hc⟩
      go_wp2_with fail
      rw [HP.out]
      exact ⟨rfl, vb_t HWb.out hc⟩
    · have HEr : Hid (errC t = 0) := hid_intro (by unfold errC; rw [hr]; rfl)
      have HRt : Hid (rightB 1000 t = true) := hid_intro hr
      have HTC : Hid (TextC t = textT t) := hid_intro (by unfold TextC; rw [hr]; rfl)
      clear hr
      by_cases hd : 100 < lvX t
      · have hdI : (100 : Int) < (lvX t : Int) := by omega
        clear hd HPB
        go_enter Tryz.func4, Tryz.ntmps4
        go_wp2_with fail
        rw [HW.out]
        refine hPa.mono ?_; rintro r w1 ⟨hb1, rfl⟩
        have HC1 := hid_intro hb1
        clear hb1 hPa
        obtain ⟨W1, hW1⟩ : ∃ W1, w1.alloc (.cells #[.int .i64 0, .slice none 0 0, .int .i64 0, .int .i64 0, .bool false, .slice none 0 0] 26) = W1 := ⟨_, rfl⟩
        have hc : Below W.heap.size W W1 := vb_t HC1.out (hW1 ▸ vb_a (Below.refl _ _) _)
        obtain ⟨x0, x1, x2, x3, x4, x5⟩ := (HS.out _ hc).c6
        rw [← hW1] at x0 x1 x2 x3 x4 x5
        have HW1 := hid_intro hW1
        clear hW1
        go_wp2_with fail
        rw [HW1.out]
        clear x0 x1 x2 x3 x4 x5
        refine (HC.out _ hc).mono ?_; rintro r w4 ⟨rfl, hc⟩
        rw [HEr.out]
        obtain ⟨x0, x1, x2, x3, x4, x5⟩ := (HS.out _ hc).c6
        go_wp2_with fail
        refine (HLv.out HRt.out _ hc).mono ?_; rintro r w5 ⟨rfl, hc⟩
        clear x0 x1 x2 x3 x4 x5
        go_wp2_with fail
        refine (HHD.out _ hc).mono ?_; rintro r w6 ⟨rfl, hc⟩
        go_wp2_with fail
        rw [HP.out]
        exact ⟨rfl, vb_t HWb.out hc⟩
      · have hdI : ¬ (100 : Int) < (lvX t : Int) := by omega
        cases hn : loneX t
        · have HLn : Hid (loneX t = false) := hid_intro hn
          by_cases hq : 4096 < (textT t).length
          · have hqI : (4096 : Int) < ((bsx (textT t)).size : Int) := by rw [bsx_size]; omega
            clear hd hn hq HPB
            generalize textT t = T at *
            go_enter Tryz.func4, Tryz.ntmps4
            go_wp2_with fail
            rw [HW.out]
            refine hPa.mono ?_; rintro r w1 ⟨hb1, rfl⟩
            have HC1 := hid_intro hb1
            clear hb1 hPa
            obtain ⟨W1, hW1⟩ : ∃ W1, w1.alloc (.cells #[.int .i64 0, .slice none 0 0, .int .i64 0, .int .i64 0, .bool false, .slice none 0 0] 26) = W1 := ⟨_, rfl⟩
            have hc : Below W.heap.size W W1 := vb_t HC1.out (hW1 ▸ vb_a (Below.refl _ _) _)
            obtain ⟨x0, x1, x2, x3, x4, x5⟩ := (HS.out _ hc).c6
            rw [← hW1] at x0 x1 x2 x3 x4 x5
            have HW1 := hid_intro hW1
            clear hW1
            go_wp2_with fail
            rw [HW1.out]
            clear x0 x1 x2 x3 x4 x5
            refine (HC.out _ hc).mono ?_; rintro r w4 ⟨rfl, hc⟩
            rw [HEr.out]
            obtain ⟨x0, x1, x2, x3, x4, x5⟩ := (HS.out _ hc).c6
            go_wp2_with fail
            refine (HLv.out HRt.out _ hc).mono ?_; rintro r w5 ⟨rfl, hc⟩
            clear x0 x1 x2 x3 x4 x5
            obtain ⟨x0, x1, x2, x3, x4, x5⟩ := (HS.out _ hc).c6
            go_wp2_with fail
            refine (HLo.out _ hc).mono ?_; rintro r w6 ⟨rfl, hc⟩
            rw [HLn.out]
            clear x0 x1 x2 x3 x4 x5
            obtain ⟨x0, x1, x2, x3, x4, x5⟩ := (HS.out _ hc).c6
            go_wp2_with fail
            refine (HTx.out _ hc).mono ?_; rintro r w7 ⟨rfl, hc⟩
            rw [HEr.out, HTC.out]
            clear x0 x1 x2 x3 x4 x5
            go_wp2_with fail
            refine (HHD.out _ hc).mono ?_; rintro r w8 ⟨rfl, hc⟩
            go_wp2_with fail
            rw [HP.out]
            exact ⟨rfl, vb_t HWb.out hc⟩
          · have hqI : ¬ (4096 : Int) < ((bsx (textT t)).size : Int) := by rw [bsx_size]; omega
            have HLen : Hid ((textT t).length ≤ 4096) := hid_intro (by omega)
            have HBk := hid_intro (HPB.out HRt.out hn (by omega) HLen.out)
            clear hd hn hq HPB
            generalize textT t = T at *
            go_enter Tryz.func4, Tryz.ntmps4
            go_wp2_with fail
            rw [HW.out]
            refine hPa.mono ?_; rintro r w1 ⟨hb1, rfl⟩
            have HC1 := hid_intro hb1
            clear hb1 hPa
            obtain ⟨W1, hW1⟩ : ∃ W1, w1.alloc (.cells #[.int .i64 0, .slice none 0 0, .int .i64 0, .int .i64 0, .bool false, .slice none 0 0] 26) = W1 := ⟨_, rfl⟩
            have hc : Below W.heap.size W W1 := vb_t HC1.out (hW1 ▸ vb_a (Below.refl _ _) _)
            obtain ⟨x0, x1, x2, x3, x4, x5⟩ := (HS.out _ hc).c6
            rw [← hW1] at x0 x1 x2 x3 x4 x5
            have HW1 := hid_intro hW1
            clear hW1
            go_wp2_with fail
            rw [HW1.out]
            clear x0 x1 x2 x3 x4 x5
            refine (HC.out _ hc).mono ?_; rintro r w4 ⟨rfl, hc⟩
            rw [HEr.out]
            obtain ⟨x0, x1, x2, x3, x4, x5⟩ := (HS.out _ hc).c6
            go_wp2_with fail
            refine (HLv.out HRt.out _ hc).mono ?_; rintro r w5 ⟨rfl, hc⟩
            clear x0 x1 x2 x3 x4 x5
            obtain ⟨x0, x1, x2, x3, x4, x5⟩ := (HS.out _ hc).c6
            go_wp2_with fail
            refine (HLo.out _ hc).mono ?_; rintro r w6 ⟨rfl, hc⟩
            rw [HLn.out]
            clear x0 x1 x2 x3 x4 x5
            obtain ⟨x0, x1, x2, x3, x4, x5⟩ := (HS.out _ hc).c6
            go_wp2_with fail
            refine (HTx.out _ hc).mono ?_; rintro r w7 ⟨rfl, hc⟩
            rw [HEr.out, HTC.out]
            clear x0 x1 x2 x3 x4 x5
            go_wp2_with fail
            refine (HPT.out _ HLen.out HBk.out _ hc).mono ?_; rintro r w8 ⟨hc, hb8, g2, rfl, hxi2⟩
            obtain ⟨p0, p1, p2, p3, p4, p5, p6, p7, p8, p9, d0, d1, d2, d3, d4, d5⟩ := hxi2.six
            have exg : xa g2 = .agg #[.int .i64 p0, .slice p1 p2 p3, .int .i64 p4, .int .i64 p5, .bool p6, .slice p7 p8 p9] := by unfold xa; rw [d0, d1, d2, d3, d4, d5]
            have HX2 := hid_intro hxi2
            obtain ⟨W8, hW8⟩ : ∃ W8, w8.alloc (.cells #[.int .i64 p0, .slice p1 p2 p3, .int .i64 p4, .int .i64 p5, .bool p6, .slice p7 p8 p9] 26) = W8 := ⟨_, rfl⟩
            have HB8 : Hid (Below w8.heap.size w8 W8) := hid_intro (hW8 ▸ vb_a (Below.refl _ _) _)
            have hc8 := vb_t hc HB8.out
            obtain ⟨x0, x1, x2, x3, x4, x5⟩ := (HS.out _ hc8).c6
            have hk8 : Bk W8 w8.heap.size #[.int .i64 p0, .slice p1 p2 p3, .int .i64 p4, .int .i64 p5, .bool p6, .slice p7 p8 p9] := hW8 ▸ Bk.new _ _ _
            obtain ⟨y0, y1, y2, y3, y4, y5⟩ := hk8.c6
            have HCS := hid_intro (HSm.out W8 g2 _ hc8 (HX2.out.kept HB8.out))
            rw [exg] at HCS ⊢
            clear hxi2 exg d0 d1 d2 d3 d4 d5 hb8 hk8 hc hc8
            go_wp2_with fail
            refine HCS.out.mono ?_; rintro r w9 ⟨rfl, hc⟩
            clear x0 x1 x2 x3 x4 x5 y0 y1 y2 y3 y4 y5
            go_wp2_with fail
            refine (HHD.out _ hc).mono ?_; rintro r w10 ⟨rfl, hc⟩
            go_wp2_with fail
            rw [HP.out]
            exact ⟨rfl, vb_t HWb.out hc⟩
        · have HLn : Hid (loneX t = true) := hid_intro hn
          clear hd hn HPB
          go_enter Tryz.func4, Tryz.ntmps4
          go_wp2_with fail
          rw [HW.out]
          refine hPa.mono ?_; rintro r w1 ⟨hb1, rfl⟩
          have HC1 := hid_intro hb1
          clear hb1 hPa
          obtain ⟨W1, hW1⟩ : ∃ W1, w1.alloc (.cells #[.int .i64 0, .slice none 0 0, .int .i64 0, .int .i64 0, .bool false, .slice none 0 0] 26) = W1 := ⟨_, rfl⟩
          have hc : Below W.heap.size W W1 := vb_t HC1.out (hW1 ▸ vb_a (Below.refl _ _) _)
          obtain ⟨x0, x1, x2, x3, x4, x5⟩ := (HS.out _ hc).c6
          rw [← hW1] at x0 x1 x2 x3 x4 x5
          have HW1 := hid_intro hW1
          clear hW1
          go_wp2_with fail
          rw [HW1.out]
          clear x0 x1 x2 x3 x4 x5
          refine (HC.out _ hc).mono ?_; rintro r w4 ⟨rfl, hc⟩
          rw [HEr.out]
          obtain ⟨x0, x1, x2, x3, x4, x5⟩ := (HS.out _ hc).c6
          go_wp2_with fail
          refine (HLv.out HRt.out _ hc).mono ?_; rintro r w5 ⟨rfl, hc⟩
          clear x0 x1 x2 x3 x4 x5
          obtain ⟨x0, x1, x2, x3, x4, x5⟩ := (HS.out _ hc).c6
          go_wp2_with fail
          refine (HLo.out _ hc).mono ?_; rintro r w6 ⟨rfl, hc⟩
          rw [HLn.out]
          clear x0 x1 x2 x3 x4 x5
          go_wp2_with fail
          refine (HHD.out _ hc).mono ?_; rintro r w7 ⟨rfl, hc⟩
          go_wp2_with fail
          rw [HP.out]
          exact ⟨rfl, vb_t HWb.out hc⟩
  | some y =>
    rw [hp] at hPa
    have HG := hid_intro (HGS.out y hp)
    clear hp
    cases hr : rightB 1000 t
    · have HEr : Hid (errC t = 91) := hid_intro (by unfold errC; rw [hr]; rfl)
      clear hr HPB
      go_enter Tryz.func4, Tryz.ntmps4
      go_wp2_with fail
      rw [HW.out]
      refine hPa.mono ?_; rintro r w1 ⟨hb1, g, rfl, hxi⟩
      have HC1 := hid_intro hb1
      obtain ⟨p0, p1, p2, p3, p4, p5, p6, p7, p8, p9, d0, d1, d2, d3, d4, d5⟩ := hxi.six
      have exg : xa g = .agg #[.int .i64 p0, .slice p1 p2 p3, .int .i64 p4, .int .i64 p5, .bool p6, .slice p7 p8 p9] := by unfold xa; rw [d0, d1, d2, d3, d4, d5]
      have HX1 := hid_intro hxi
      obtain ⟨W1, hW1⟩ : ∃ W1, w1.alloc (.cells #[.int .i64 p0, .slice p1 p2 p3, .int .i64 p4, .int .i64 p5, .bool p6, .slice p7 p8 p9] 26) = W1 := ⟨_, rfl⟩
      have HB1 : Hid (Below w1.heap.size w1 W1) := hid_intro (hW1 ▸ vb_a (Below.refl _ _) _)
      have hc1 := vb_t HC1.out HB1.out
      have hk1 : Bk W1 w1.heap.size #[.int .i64 p0, .slice p1 p2 p3, .int .i64 p4, .int .i64 p5, .bool p6, .slice p7 p8 p9] := hW1 ▸ Bk.new _ _ _
      obtain ⟨y0, y1, y2, y3, y4, y5⟩ := hk1.c6
      have HCk := hid_intro (HCy.out y g _ W1 HG.out hc1 (HX1.out.kept HB1.out))
      rw [exg] at HCk ⊢
      clear hxi exg d0 d1 d2 d3 d4 d5 hb1 hPa hk1 hc1
      go_wp2_with fail
      refine HCk.out.mono ?_; rintro r w2 ⟨rfl, hc⟩
      clear y0 y1 y2 y3 y4 y5
      obtain ⟨x0, x1, x2, x3, x4, x5⟩ := (HS.out _ hc).c6
      go_wp2_with fail
      clear x0 x1 x2 x3 x4 x5
      refine (HC.out _ hc).mono ?_; rintro r w4 ⟨rfl, hc⟩
      rw [HEr.out]
      go_wp2_with fail
      refine (HHD.out _ hc).mono ?_; rintro r w5 ⟨rfl, hc⟩
      go_wp2_with fail
      rw [HP.out]
      exact ⟨rfl, vb_t HWb.out hc⟩
    · have HEr : Hid (errC t = 0) := hid_intro (by unfold errC; rw [hr]; rfl)
      have HRt : Hid (rightB 1000 t = true) := hid_intro hr
      have HTC : Hid (TextC t = textT t) := hid_intro (by unfold TextC; rw [hr]; rfl)
      clear hr
      by_cases hd : 100 < lvX t
      · have hdI : (100 : Int) < (lvX t : Int) := by omega
        clear hd HPB
        go_enter Tryz.func4, Tryz.ntmps4
        go_wp2_with fail
        rw [HW.out]
        refine hPa.mono ?_; rintro r w1 ⟨hb1, g, rfl, hxi⟩
        have HC1 := hid_intro hb1
        obtain ⟨p0, p1, p2, p3, p4, p5, p6, p7, p8, p9, d0, d1, d2, d3, d4, d5⟩ := hxi.six
        have exg : xa g = .agg #[.int .i64 p0, .slice p1 p2 p3, .int .i64 p4, .int .i64 p5, .bool p6, .slice p7 p8 p9] := by unfold xa; rw [d0, d1, d2, d3, d4, d5]
        have HX1 := hid_intro hxi
        obtain ⟨W1, hW1⟩ : ∃ W1, w1.alloc (.cells #[.int .i64 p0, .slice p1 p2 p3, .int .i64 p4, .int .i64 p5, .bool p6, .slice p7 p8 p9] 26) = W1 := ⟨_, rfl⟩
        have HB1 : Hid (Below w1.heap.size w1 W1) := hid_intro (hW1 ▸ vb_a (Below.refl _ _) _)
        have hc1 := vb_t HC1.out HB1.out
        have hk1 : Bk W1 w1.heap.size #[.int .i64 p0, .slice p1 p2 p3, .int .i64 p4, .int .i64 p5, .bool p6, .slice p7 p8 p9] := hW1 ▸ Bk.new _ _ _
        obtain ⟨y0, y1, y2, y3, y4, y5⟩ := hk1.c6
        have HCk := hid_intro (HCy.out y g _ W1 HG.out hc1 (HX1.out.kept HB1.out))
        rw [exg] at HCk ⊢
        clear hxi exg d0 d1 d2 d3 d4 d5 hb1 hPa hk1 hc1
        go_wp2_with fail
        refine HCk.out.mono ?_; rintro r w2 ⟨rfl, hc⟩
        clear y0 y1 y2 y3 y4 y5
        obtain ⟨x0, x1, x2, x3, x4, x5⟩ := (HS.out _ hc).c6
        go_wp2_with fail
        clear x0 x1 x2 x3 x4 x5
        refine (HC.out _ hc).mono ?_; rintro r w4 ⟨rfl, hc⟩
        rw [HEr.out]
        obtain ⟨x0, x1, x2, x3, x4, x5⟩ := (HS.out _ hc).c6
        go_wp2_with fail
        refine (HLv.out HRt.out _ hc).mono ?_; rintro r w5 ⟨rfl, hc⟩
        clear x0 x1 x2 x3 x4 x5
        go_wp2_with fail
        refine (HHD.out _ hc).mono ?_; rintro r w6 ⟨rfl, hc⟩
        go_wp2_with fail
        rw [HP.out]
        exact ⟨rfl, vb_t HWb.out hc⟩
      · have hdI : ¬ (100 : Int) < (lvX t : Int) := by omega
        cases hn : loneX t
        · have HLn : Hid (loneX t = false) := hid_intro hn
          by_cases hq : 4096 < (textT t).length
          · have hqI : (4096 : Int) < ((bsx (textT t)).size : Int) := by rw [bsx_size]; omega
            clear hd hn hq HPB
            generalize textT t = T at *
            go_enter Tryz.func4, Tryz.ntmps4
            go_wp2_with fail
            rw [HW.out]
            refine hPa.mono ?_; rintro r w1 ⟨hb1, g, rfl, hxi⟩
            have HC1 := hid_intro hb1
            obtain ⟨p0, p1, p2, p3, p4, p5, p6, p7, p8, p9, d0, d1, d2, d3, d4, d5⟩ := hxi.six
            have exg : xa g = .agg #[.int .i64 p0, .slice p1 p2 p3, .int .i64 p4, .int .i64 p5, .bool p6, .slice p7 p8 p9] := by unfold xa; rw [d0, d1, d2, d3, d4, d5]
            have HX1 := hid_intro hxi
            obtain ⟨W1, hW1⟩ : ∃ W1, w1.alloc (.cells #[.int .i64 p0, .slice p1 p2 p3, .int .i64 p4, .int .i64 p5, .bool p6, .slice p7 p8 p9] 26) = W1 := ⟨_, rfl⟩
            have HB1 : Hid (Below w1.heap.size w1 W1) := hid_intro (hW1 ▸ vb_a (Below.refl _ _) _)
            have hc1 := vb_t HC1.out HB1.out
            have hk1 : Bk W1 w1.heap.size #[.int .i64 p0, .slice p1 p2 p3, .int .i64 p4, .int .i64 p5, .bool p6, .slice p7 p8 p9] := hW1 ▸ Bk.new _ _ _
            obtain ⟨y0, y1, y2, y3, y4, y5⟩ := hk1.c6
            have HCk := hid_intro (HCy.out y g _ W1 HG.out hc1 (HX1.out.kept HB1.out))
            rw [exg] at HCk ⊢
            clear hxi exg d0 d1 d2 d3 d4 d5 hb1 hPa hk1 hc1
            go_wp2_with fail
            refine HCk.out.mono ?_; rintro r w2 ⟨rfl, hc⟩
            clear y0 y1 y2 y3 y4 y5
            obtain ⟨x0, x1, x2, x3, x4, x5⟩ := (HS.out _ hc).c6
            go_wp2_with fail
            clear x0 x1 x2 x3 x4 x5
            refine (HC.out _ hc).mono ?_; rintro r w4 ⟨rfl, hc⟩
            rw [HEr.out]
            obtain ⟨x0, x1, x2, x3, x4, x5⟩ := (HS.out _ hc).c6
            go_wp2_with fail
            refine (HLv.out HRt.out _ hc).mono ?_; rintro r w5 ⟨rfl, hc⟩
            clear x0 x1 x2 x3 x4 x5
            obtain ⟨x0, x1, x2, x3, x4, x5⟩ := (HS.out _ hc).c6
            go_wp2_with fail
            refine (HLo.out _ hc).mono ?_; rintro r w6 ⟨rfl, hc⟩
            rw [HLn.out]
            clear x0 x1 x2 x3 x4 x5
            obtain ⟨x0, x1, x2, x3, x4, x5⟩ := (HS.out _ hc).c6
            go_wp2_with fail
            refine (HTx.out _ hc).mono ?_; rintro r w7 ⟨rfl, hc⟩
            rw [HEr.out, HTC.out]
            clear x0 x1 x2 x3 x4 x5
            go_wp2_with fail
            refine (HHD.out _ hc).mono ?_; rintro r w8 ⟨rfl, hc⟩
            go_wp2_with fail
            rw [HP.out]
            exact ⟨rfl, vb_t HWb.out hc⟩
          · have hqI : ¬ (4096 : Int) < ((bsx (textT t)).size : Int) := by rw [bsx_size]; omega
            have HLen : Hid ((textT t).length ≤ 4096) := hid_intro (by omega)
            have HBk := hid_intro (HPB.out HRt.out hn (by omega) HLen.out)
            clear hd hn hq HPB
            generalize textT t = T at *
            go_enter Tryz.func4, Tryz.ntmps4
            go_wp2_with fail
            rw [HW.out]
            refine hPa.mono ?_; rintro r w1 ⟨hb1, g, rfl, hxi⟩
            have HC1 := hid_intro hb1
            obtain ⟨p0, p1, p2, p3, p4, p5, p6, p7, p8, p9, d0, d1, d2, d3, d4, d5⟩ := hxi.six
            have exg : xa g = .agg #[.int .i64 p0, .slice p1 p2 p3, .int .i64 p4, .int .i64 p5, .bool p6, .slice p7 p8 p9] := by unfold xa; rw [d0, d1, d2, d3, d4, d5]
            have HX1 := hid_intro hxi
            obtain ⟨W1, hW1⟩ : ∃ W1, w1.alloc (.cells #[.int .i64 p0, .slice p1 p2 p3, .int .i64 p4, .int .i64 p5, .bool p6, .slice p7 p8 p9] 26) = W1 := ⟨_, rfl⟩
            have HB1 : Hid (Below w1.heap.size w1 W1) := hid_intro (hW1 ▸ vb_a (Below.refl _ _) _)
            have hc1 := vb_t HC1.out HB1.out
            have hk1 : Bk W1 w1.heap.size #[.int .i64 p0, .slice p1 p2 p3, .int .i64 p4, .int .i64 p5, .bool p6, .slice p7 p8 p9] := hW1 ▸ Bk.new _ _ _
            obtain ⟨y0, y1, y2, y3, y4, y5⟩ := hk1.c6
            have HCk := hid_intro (HCy.out y g _ W1 HG.out hc1 (HX1.out.kept HB1.out))
            rw [exg] at HCk ⊢
            clear hxi exg d0 d1 d2 d3 d4 d5 hb1 hPa hk1 hc1
            go_wp2_with fail
            refine HCk.out.mono ?_; rintro r w2 ⟨rfl, hc⟩
            clear y0 y1 y2 y3 y4 y5
            obtain ⟨x0, x1, x2, x3, x4, x5⟩ := (HS.out _ hc).c6
            go_wp2_with fail
            clear x0 x1 x2 x3 x4 x5
            refine (HC.out _ hc).mono ?_; rintro r w4 ⟨rfl, hc⟩
            rw [HEr.out]
            obtain ⟨x0, x1, x2, x3, x4, x5⟩ := (HS.out _ hc).c6
            go_wp2_with fail
            refine (HLv.out HRt.out _ hc).mono ?_; rintro r w5 ⟨rfl, hc⟩
            clear x0 x1 x2 x3 x4 x5
            obtain ⟨x0, x1, x2, x3, x4, x5⟩ := (HS.out _ hc).c6
            go_wp2_with fail
            refine (HLo.out _ hc).mono ?_; rintro r w6 ⟨rfl, hc⟩
            rw [HLn.out]
            clear x0 x1 x2 x3 x4 x5
            obtain ⟨x0, x1, x2, x3, x4, x5⟩ := (HS.out _ hc).c6
            go_wp2_with fail
            refine (HTx.out _ hc).mono ?_; rintro r w7 ⟨rfl, hc⟩
            rw [HEr.out, HTC.out]
            clear x0 x1 x2 x3 x4 x5
            go_wp2_with fail
            refine (HPT.out _ HLen.out HBk.out _ hc).mono ?_; rintro r w8 ⟨hc, hb8, g2, rfl, hxi2⟩
            obtain ⟨p0, p1, p2, p3, p4, p5, p6, p7, p8, p9, d0, d1, d2, d3, d4, d5⟩ := hxi2.six
            have exg : xa g2 = .agg #[.int .i64 p0, .slice p1 p2 p3, .int .i64 p4, .int .i64 p5, .bool p6, .slice p7 p8 p9] := by unfold xa; rw [d0, d1, d2, d3, d4, d5]
            have HX2 := hid_intro hxi2
            obtain ⟨W8, hW8⟩ : ∃ W8, w8.alloc (.cells #[.int .i64 p0, .slice p1 p2 p3, .int .i64 p4, .int .i64 p5, .bool p6, .slice p7 p8 p9] 26) = W8 := ⟨_, rfl⟩
            have HB8 : Hid (Below w8.heap.size w8 W8) := hid_intro (hW8 ▸ vb_a (Below.refl _ _) _)
            have hc8 := vb_t hc HB8.out
            obtain ⟨x0, x1, x2, x3, x4, x5⟩ := (HS.out _ hc8).c6
            have hk8 : Bk W8 w8.heap.size #[.int .i64 p0, .slice p1 p2 p3, .int .i64 p4, .int .i64 p5, .bool p6, .slice p7 p8 p9] := hW8 ▸ Bk.new _ _ _
            obtain ⟨y0, y1, y2, y3, y4, y5⟩ := hk8.c6
            have HCS := hid_intro (HSm.out W8 g2 _ hc8 (HX2.out.kept HB8.out))
            rw [exg] at HCS ⊢
            clear hxi2 exg d0 d1 d2 d3 d4 d5 hb8 hk8 hc hc8
            go_wp2_with fail
            refine HCS.out.mono ?_; rintro r w9 ⟨rfl, hc⟩
            clear x0 x1 x2 x3 x4 x5 y0 y1 y2 y3 y4 y5
            go_wp2_with fail
            refine (HHD.out _ hc).mono ?_; rintro r w10 ⟨rfl, hc⟩
            go_wp2_with fail
            rw [HP.out]
            exact ⟨rfl, vb_t HWb.out hc⟩
        · have HLn : Hid (loneX t = true) := hid_intro hn
          clear hd hn HPB
          go_enter Tryz.func4, Tryz.ntmps4
          go_wp2_with fail
          rw [HW.out]
          refine hPa.mono ?_; rintro r w1 ⟨hb1, g, rfl, hxi⟩
          have HC1 := hid_intro hb1
          obtain ⟨p0, p1, p2, p3, p4, p5, p6, p7, p8, p9, d0, d1, d2, d3, d4, d5⟩ := hxi.six
          have exg : xa g = .agg #[.int .i64 p0, .slice p1 p2 p3, .int .i64 p4, .int .i64 p5, .bool p6, .slice p7 p8 p9] := by unfold xa; rw [d0, d1, d2, d3, d4, d5]
          have HX1 := hid_intro hxi
          obtain ⟨W1, hW1⟩ : ∃ W1, w1.alloc (.cells #[.int .i64 p0, .slice p1 p2 p3, .int .i64 p4, .int .i64 p5, .bool p6, .slice p7 p8 p9] 26) = W1 := ⟨_, rfl⟩
          have HB1 : Hid (Below w1.heap.size w1 W1) := hid_intro (hW1 ▸ vb_a (Below.refl _ _) _)
          have hc1 := vb_t HC1.out HB1.out
          have hk1 : Bk W1 w1.heap.size #[.int .i64 p0, .slice p1 p2 p3, .int .i64 p4, .int .i64 p5, .bool p6, .slice p7 p8 p9] := hW1 ▸ Bk.new _ _ _
          obtain ⟨y0, y1, y2, y3, y4, y5⟩ := hk1.c6
          have HCk := hid_intro (HCy.out y g _ W1 HG.out hc1 (HX1.out.kept HB1.out))
          rw [exg] at HCk ⊢
          clear hxi exg d0 d1 d2 d3 d4 d5 hb1 hPa hk1 hc1
          go_wp2_with fail
          refine HCk.out.mono ?_; rintro r w2 ⟨rfl, hc⟩
          clear y0 y1 y2 y3 y4 y5
          obtain ⟨x0, x1, x2, x3, x4, x5⟩ := (HS.out _ hc).c6
          go_wp2_with fail
          clear x0 x1 x2 x3 x4 x5
          refine (HC.out _ hc).mono ?_; rintro r w4 ⟨rfl, hc⟩
          rw [HEr.out]
          obtain ⟨x0, x1, x2, x3, x4, x5⟩ := (HS.out _ hc).c6
          go_wp2_with fail
          refine (HLv.out HRt.out _ hc).mono ?_; rintro r w5 ⟨rfl, hc⟩
          clear x0 x1 x2 x3 x4 x5
          obtain ⟨x0, x1, x2, x3, x4, x5⟩ := (HS.out _ hc).c6
          go_wp2_with fail
          refine (HLo.out _ hc).mono ?_; rintro r w6 ⟨rfl, hc⟩
          rw [HLn.out]
          clear x0 x1 x2 x3 x4 x5
          go_wp2_with fail
          refine (HHD.out _ hc).mono ?_; rintro r w7 ⟨rfl, hc⟩
          go_wp2_with fail
          rw [HP.out]
          exact ⟨rfl, vb_t HWb.out hc⟩
end Go.Proofs.YtppilokmgdpnnaaGreatDoor
