/-
  between; (*reader).item. Conditions: the table of greatest code points holds its four numbers.
-/
import Derived.Test.YtppilokmgdpnnaaGreatDoorJoined18
namespace Go.Proofs.YtppilokmgdpnnaaGreatDoor
open Go.RowKit
attribute [local go_sem] setCell_drewN alloc_drewN

theorem RI.first {w : World} {X : Nat → Prop} {p q : Int} {v : Value} (h : RI w X [(p, q)] v) : ∃ b off cap, v = .slice (some ⟨b, off, none⟩) 1 cap ∧ w.cell? ⟨b, off, none⟩ = some (.int .i64 p) ∧ w.cell? ⟨b, off + 1, none⟩ = some (.int .i64 q) ∧ b < w.heap.size := by
  obtain ⟨ao, cap, rfl, h1, h2, h3, h4⟩ := h
  rcases h4 with h4 | ⟨b, off, rfl, _, h5⟩
  · simp at h4
  · have := h5 0 (by simp)
    simp only [Nat.zero_mul, Nat.add_zero] at this
    exact ⟨b, off, cap, rfl, this.1, this.2, World.block_lt_of_cell? w _ this.1⟩
def BetR (x : Option (List (Int × Int))) (w : World) (r : Ending) (w' : World) : Prop :=
  Below w.heap.size w w' ∧ match x with
    | none => r = stopX
    | some l => ∃ v, r = .returned v ∧ RI w' (· < w.heap.size) l v
set_option maxRecDepth 100000 in
set_option maxHeartbeats 1600000 in
theorem between_any (m1 m2 : Mark) (v1 v2 : Value) (w : World) (X1 X2 : Nat → Prop) (h1 : RI w X1 m1.ranges v1) (h2 : RI w X2 m2.ranges v2) :
    Calls Tryz.prog 120 #[mkV v1 m1.named, mkV v2 m2.named] w (BetR (between m1 m2) w) := by
  obtain ⟨P, hP⟩ : ∃ P, P = BetR (between m1 m2) w := ⟨_, rfl⟩
  rw [← hP]
  have HP := hid_intro hP
  clear hP
  unfold mkV
  cases m1 with
  | set l1 =>
    obtain ⟨ao1, cap1, hs1, _⟩ := h1.shape
    obtain ⟨ao2, cap2, hs2, _⟩ := h2.shape
    have HE : Hid (between (.set l1) m2 = none) := hid_intro (by cases m2 <;> rfl)
    generalize hn1 : List.length _ = n1 at hs1
    generalize hn2 : List.length _ = n2 at hs2
    subst hs1 hs2
    simp only [Mark.named]
    clear h1 h2
    generalize m2.named = mb2
    go_enter Tryz.func120, Tryz.ntmps120
    go_wp2_with fail
    all_goals
      refine ⟨rfl, ?_⟩
      rw [HP.out, HE.out]
      exact ⟨vb_a (vb_a (Below.refl _ _) _) _, rfl⟩
  | one a =>
    cases m2 with
    | set l2 =>
      obtain ⟨ao1, cap1, hs1, _⟩ := h1.shape
      obtain ⟨ao2, cap2, hs2, _⟩ := h2.shape
      have HE : Hid (between (.one a) (.set l2) = none) := hid_intro rfl
      generalize hn1 : List.length _ = n1 at hs1
      generalize hn2 : List.length _ = n2 at hs2
      subst hs1 hs2
      simp only [Mark.named]
      clear h1 h2
      go_enter Tryz.func120, Tryz.ntmps120
      go_wp2_with fail
      refine ⟨rfl, ?_⟩
      rw [HP.out, HE.out]
      exact ⟨vb_a (vb_a (Below.refl _ _) _) _, rfl⟩
    | one b =>
      obtain ⟨b1, o1, cap1, hs1, p1, p2, l1⟩ := h1.first
      obtain ⟨b2, o2, cap2, hs2, q1, q2, l2⟩ := h2.first
      have hi : I64 a ∧ I64 b := by
        obtain ⟨_, _, _, _, _, w1, _⟩ := h1
        obtain ⟨_, _, _, _, _, w2, _⟩ := h2
        exact ⟨(w1 (a, a) (by simp [Mark.ranges])).1, (w2 (b, b) (by simp [Mark.ranges])).1⟩
      subst hs1 hs2
      simp only [Mark.named]
      obtain ⟨W, hW⟩ : ∃ W, (w.alloc (.cells #[.slice (some ⟨b1, o1, none⟩) 1 cap1, .bool false] 95)).alloc (.cells #[.slice (some ⟨b2, o2, none⟩) 1 cap2, .bool false] 95) = W := ⟨_, rfl⟩
      have hWb : Below w.heap.size w W := hW ▸ vb_a (vb_a (Below.refl _ _) _) _
      have kA : Bk W w.heap.size #[.slice (some ⟨b1, o1, none⟩) 1 cap1, .bool false] := hW ▸ (Bk.new _ _ _).al _
      have kB : Bk W (w.heap.size + 1) #[.slice (some ⟨b2, o2, none⟩) 1 cap2, .bool false] := hW ▸ Bk.new' _ _ _ _ (by simp)
      obtain ⟨x0, x1⟩ := kA.c2
      obtain ⟨y0, y1⟩ := kB.c2
      have p1' := (hWb.cell (p := ⟨b1, o1, none⟩) l1).trans p1
      have q2' := (hWb.cell (p := ⟨b2, o2 + 1, none⟩) l2).trans q2
      have HB := hid_intro hWb
      clear kA kB h1 h2 p1 p2 q1 q2 hWb
      by_cases hab : a > b
      · have HE : Hid (between (.one a) (.one b) = none) := hid_intro (by show (if a > b then none else some [(a, b)]) = none; rw [if_pos hab])
        have hab2 : b < a := hab
        clear hi hab
        go_enter Tryz.func120, Tryz.ntmps120
        go_wp2_with fail
        go_region
        all_goals
          go_wp2_with fail
          refine ⟨rfl, ?_⟩
          rw [HP.out, HE.out]
          exact ⟨vb_d HB.out, rfl⟩
      · have HE : Hid (between (.one a) (.one b) = some [(a, b)]) := hid_intro (by show (if a > b then none else some [(a, b)]) = _; rw [if_neg hab])
        have hab2 : ¬ b < a := hab
        have hsp := fun w => span_any a b w
        clear hab
        go_enter Tryz.func120, Tryz.ntmps120
        go_wp2_with fail
        go_region
        all_goals
          go_wp2_with fail
          refine (hsp _).mono ?_; rintro r w1 ⟨rfl, hb1⟩
          go_wp2_with fail
          have hbb : Below w.heap.size w w1 := vb_t (vb_d HB.out) hb1
          rw [HP.out, HE.out]
          refine ⟨vb_a hbb _, _, rfl, ?_⟩
          have hpp : ∀ r ∈ [(a, b)], I64 r.1 ∧ I64 r.2 := fun r hr => by
            obtain rfl : r = (a, b) := by simpa using hr
            exact hi
          exact (OwnR.lit w1 w.heap.size [(a, b)] _ rfl hbb.size (by simp) hpp _ rfl).ri _ (fun b hb => by omega)

/-- Ranges and what is left, or the panic. -/
def RngR (x : Option (List (Int × Int) × List Int)) (rb : Nat) (g : Int) (w : World) (r : Ending) (w' : World) : Prop :=
  But (· = rb) w w' ∧ match x with
    | none => r = stopX
    | some y => ∃ v, r = .returned v ∧ RI w' (· < w.heap.size) y.1 v ∧ RD w' rb y.2 g
set_option maxRecDepth 100000 in
set_option maxHeartbeats 3200000 in
theorem item_any (w : World) (rb : Nat) (l : List Int) (g : Int) (hT : Tab w) (hrb : ¬ 0 = rb) (h : RD w rb l g) :
    Calls Tryz.prog 97 #[.pointer (some ⟨rb, 0, none⟩)] w (RngR (itemL l) rb g w) := by
  obtain ⟨P, hP⟩ : ∃ P, P = RngR (itemL l) rb g w := ⟨_, rfl⟩
  rw [← hP]
  have HP := hid_intro hP
  have HT := hid_intro hT
  have HN := hid_intro hrb
  have hrl := h.lt
  have hm := mark_any w rb l g hT hrb h
  clear hP hT hrb h
  cases e1 : markL l with
  | none =>
    rw [e1] at hm
    have HE : Hid (itemL l = none) := hid_intro (by unfold itemL; rw [e1])
    clear e1
    go_enter Tryz.func97, Tryz.ntmps97
    go_wp2_with fail
    refine hm.mono ?_; rintro r w1 ⟨hb1, rfl⟩
    go_wp2_with fail
    refine ⟨rfl, ?_⟩
    rw [HP.out, HE.out]
    exact ⟨hb1, rfl⟩
  | some y =>
    obtain ⟨m, l1⟩ := y
    rw [e1] at hm
    have hp0 := fun w (h : RD w rb l1 g) => peek_any w rb l1 g 0 (by omega) h
    have hp1 := fun w (h : RD w rb l1 g) => peek_any w rb l1 g 1 (by omega) h
    by_cases c0 : pk l1 0 = 45
    · rw [c0] at hp0
      by_cases c1 : pk l1 1 = 93
      · rw [c1] at hp1
        have HE : Hid (itemL l = some (m.ranges, l1)) := hid_intro (by unfold itemL; simp only [e1]; rw [if_pos (Or.inr c1)])
        clear e1 c0 c1
        go_enter Tryz.func97, Tryz.ntmps97
        go_wp2_with fail
        refine hm.mono ?_; rintro r w1 ⟨hb1, v1, rfl, hri1, hr1⟩
        simp only [mkV] at *
        generalize hmn : m.named = mb at *
        obtain ⟨ao, cap, hsh, _⟩ := hri1.shape
        generalize hnn : List.length _ = nn at hsh
        subst hsh
        go_wp2_with fail
        refine (hp0 _ (hr1.below (vb_a (Below.refl _ _) _))).mono ?_; rintro r w2 ⟨rfl, hb2⟩
        go_wp2_with fail
        refine (hp1 _ ((hr1.below (vb_a (Below.refl _ _) _)).below hb2)).mono ?_; rintro r w3 ⟨rfl, hb3⟩
        have kk := ((Bk.new _ _ _).bel hb2).bel hb3
        obtain ⟨q0, q1⟩ := kk.c2
        clear kk
        go_wp2_with fail
        have hb13 : Below w1.heap.size w1 w3 := vb_t (vb_t (vb_a (Below.refl _ _) _) hb2) hb3
        rw [HP.out, HE.out]
        exact ⟨hb1.below hb13, _, rfl, hri1.kept hb13, hr1.below hb13⟩
      · have c1b : (pk l1 1 == 93) = false := ne_b c1
        cases s1 : startsW [45] l1
        · exfalso
          cases l1 with
          | nil => exact absurd c0 (by decide)
          | cons z zs => have : z = 45 := c0
                         subst this
                         exact absurd s1 (by simp [startsW])
        have hn := fun w (h : RD w rb l1 g) => need_ok w rb l1 g ⟨#[45]⟩ (by decide) h s1
        have hm2 := fun w (hT : Tab w) (h : RD w rb (l1.drop 1) g) => mark_any w rb (l1.drop 1) g hT HN.out h
        have hcond : ¬ (pk l1 0 ≠ 45 ∨ pk l1 1 = 93) := by rintro (h | h); exact h c0; exact c1 h
        generalize hpp : pk l1 1 = pp at hp1 c1b
        cases e2 : markL (l1.drop 1) with
        | none =>
          rw [e2] at hm2
          have HE : Hid (itemL l = none) := hid_intro (by unfold itemL; simp only [e1]; rw [if_neg hcond, e2])
          clear e1 e2 c0 c1 s1 hcond hpp
          go_enter Tryz.func97, Tryz.ntmps97
          go_wp2_with fail
          refine hm.mono ?_; rintro r w1 ⟨hb1, v1, rfl, hri1, hr1⟩
          simp only [mkV] at hm hm2 ⊢
          generalize hmn : m.named = mb at *
          obtain ⟨ao, cap, hsh, _⟩ := hri1.shape
          generalize hnn : List.length _ = nn at hsh
          subst hsh
          go_wp2_with fail
          refine (hp0 _ (hr1.below (vb_a (Below.refl _ _) _))).mono ?_; rintro r w2 ⟨rfl, hb2⟩
          go_wp2_with fail
          refine (hp1 _ ((hr1.below (vb_a (Below.refl _ _) _)).below hb2)).mono ?_; rintro r w3 ⟨rfl, hb3⟩
          go_wp2_with fail
          refine (hn _ (((hr1.below (vb_a (Below.refl _ _) _)).below hb2).below hb3)).mono ?_; rintro r w4 ⟨rfl, hb4, hr4⟩
          have hb13 : Below w1.heap.size w1 w3 := vb_t (vb_t (vb_a (Below.refl _ _) _) hb2) hb3
          have kk := (((Bk.new _ _ _).bel hb2).bel hb3).but hb4 (by have := hb1.size; omega)
          have HBW := hid_intro ((hb1.below hb13).trans hb4)
          have HK := hid_intro kk
          have HR4 := hid_intro hr4
          have HT4 := hid_intro (HBW.out.tab HT.out HN.out)
          obtain ⟨q0, q1⟩ := kk.c2
          have HC : Hid (∀ w', Below w4.heap.size w4 w' → Calls Tryz.prog 119 #[.pointer (some ⟨rb, 0, none⟩)] w' (MarkR none rb g w')) := hid_intro (fun w' hb => hm2 w' (HT4.out.below hb) (HR4.out.below hb))
          have hbx : w1.heap.size ≠ rb := by have := hb1.size; omega
          clear kk hb1 hb2 hb3 hb4 hb13 hr1 hr4 hri1 hp0 hp1 hn hm hm2
          go_wp2_with fail
          have HCL : Hid (∀ w', But (· = rb) w w' → P stopX w') := hid_intro (fun w' hb => by rw [HP.out, HE.out]; exact ⟨hb, rfl⟩)
          refine wp_region_any (by kernel_rfl) ?_
          change wpAny _ _ _ _ _ _ _ (World.drew _)
          refine wpAny_take (i := 1) (v := ?_) rfl (by kernel_rfl) (by kernel_rfl) (by kernel_rfl) (fun _ _ _ h => h) (Or.inl ⟨by rfl, ?_⟩) ?_
          rotate_left
          · intro w
            go_simp
            with_reducible rfl
          refine wpAny_ready (rs := [0, 2]) (by kernel_rfl) (by simp) ?_
          refine AllReady.cons rfl (fun K hK => ?_) (AllReady.cons rfl (fun K hK => ?_) (AllReady.nil))
          · go_simp
            refine hK _ _ ?_
            clear hK K
            refine wpAny_ready (rs := [2]) (by kernel_rfl) (by simp) ?_
            refine AllReady.cons rfl (fun K hK => ?_) (AllReady.nil)
            go_simp
            go_wp2_with fail
            refine (HC.out _ (by with_reducible repeat (first | exact Below.refl _ _ | refine vb_d ?_))).mono ?_; rintro r w5 ⟨hb5, rfl⟩
            go_wp2_with fail
            exact And.intro rfl (HCL.out _ (HBW.out.drew.trans hb5))
          · go_simp
            go_wp2_with fail
            refine (HC.out _ (by with_reducible repeat (first | exact Below.refl _ _ | refine vb_d ?_))).mono ?_; rintro r w5 ⟨hb5, rfl⟩
            go_wp2_with fail
            exact And.intro rfl (HCL.out _ (HBW.out.drew.trans hb5))
        | some y =>
          obtain ⟨m2, l2⟩ := y
          rw [e2] at hm2
          obtain ⟨bo, hbo⟩ : ∃ bo, between m m2 = bo := ⟨_, rfl⟩
          have HE0 : itemL l = match between m m2 with
            | none => none
            | some r => some (r, l2) := by
            unfold itemL; simp only [e1]; rw [if_neg hcond, e2]
            show (match between m m2 with | none => none | some r => some (r, l2)) = _
            cases between m m2 <;> rfl
          clear e1 e2 c0 c1 s1 hcond hpp
          go_enter Tryz.func97, Tryz.ntmps97
          go_wp2_with fail
          refine hm.mono ?_; rintro r w1 ⟨hb1, v1, rfl, hri1, hr1⟩
          simp only [mkV] at hm hm2 ⊢
          generalize hmn : m.named = mb at *
          obtain ⟨ao, cap, hsh, _⟩ := hri1.shape
          generalize hnn : List.length _ = nn at hsh
          subst hsh
          go_wp2_with fail
          refine (hp0 _ (hr1.below (vb_a (Below.refl _ _) _))).mono ?_; rintro r w2 ⟨rfl, hb2⟩
          go_wp2_with fail
          refine (hp1 _ ((hr1.below (vb_a (Below.refl _ _) _)).below hb2)).mono ?_; rintro r w3 ⟨rfl, hb3⟩
          go_wp2_with fail
          refine (hn _ (((hr1.below (vb_a (Below.refl _ _) _)).below hb2).below hb3)).mono ?_; rintro r w4 ⟨rfl, hb4, hr4⟩
          have hb13 : Below w1.heap.size w1 w3 := vb_t (vb_t (vb_a (Below.refl _ _) _) hb2) hb3
          have kk := (((Bk.new _ _ _).bel hb2).bel hb3).but hb4 (by have := hb1.size; omega)
          have HBW := hid_intro ((hb1.below hb13).trans hb4)
          have HK := hid_intro kk
          have HR4 := hid_intro hr4
          have HT4 := hid_intro (HBW.out.tab HT.out HN.out)
          obtain ⟨q0, q1⟩ := kk.c2
          have HC : Hid (∀ w', Below w4.heap.size w4 w' → Calls Tryz.prog 119 #[.pointer (some ⟨rb, 0, none⟩)] w' (MarkR (some (m2, l2)) rb g w')) := hid_intro (fun w' hb => hm2 w' (HT4.out.below hb) (HR4.out.below hb))
          have hbx : ¬ w1.heap.size = rb := by have := hb1.size; omega
          have HRI := hid_intro ((hri1.kept hb13).but hb4 (fun b hb => by rw [hb]; exact hrl))
          have HZ := hid_intro (Nat.le_trans hb13.size hb4.size)
          clear kk hb1 hb2 hb3 hb4 hb13 hr1 hr4 hri1 hp0 hp1 hn hm hm2
          go_wp2_with fail
          have HDR : Hid (But (· = rb) w4 w4.drew) := hid_intro (But.refl _ _).drew
          have HBET : Hid (∀ (w5 : World) (v5 : Value), RI w5 (· < w.heap.size) m.ranges (.slice ao nn cap) → RI w5 (· < w4.drew.heap.size) m2.ranges v5 → Calls Tryz.prog 120 #[.agg #[.slice ao nn cap, .bool mb], .agg #[v5, .bool m2.named]] w5 (BetR (between m m2) w5)) := hid_intro (fun w5 v5 h1 h2 => by
            have := between_any m m2 _ _ w5 _ _ h1 h2
            simp only [mkV, hmn] at this
            exact this)
          cases e3 : between m m2 with
          | none =>
            rw [e3] at HBET HE0
            have HCL : Hid (∀ w', But (· = rb) w w' → P stopX w') := hid_intro (fun w' hb => by rw [HP.out, HE0]; exact ⟨hb, rfl⟩)
            clear HE0 e3
            refine wp_region_any (by kernel_rfl) ?_
            change wpAny _ _ _ _ _ _ _ (World.drew _)
            refine wpAny_take (i := 1) (v := ?_) rfl (by kernel_rfl) (by kernel_rfl) (by kernel_rfl) (fun _ _ _ h => h) (Or.inl ⟨by rfl, ?_⟩) ?_
            rotate_left
            · intro w
              go_simp
              with_reducible rfl
            refine wpAny_ready (rs := [0, 2]) (by kernel_rfl) (by simp) ?_
            refine AllReady.cons rfl (fun K hK => ?_) (AllReady.cons rfl (fun K hK => ?_) (AllReady.nil))
            · go_simp
              refine hK _ _ ?_
              clear hK K
              refine wpAny_ready (rs := [2]) (by kernel_rfl) (by simp) ?_
              refine AllReady.cons rfl (fun K hK => ?_) (AllReady.nil)
              go_simp
              go_wp2_with fail
              refine (HC.out _ (by with_reducible repeat (first | exact Below.refl _ _ | refine vb_d ?_))).mono ?_; rintro r w5 ⟨hb5, v5, rfl, hri5, hr5⟩
              obtain ⟨ao5, cap5, hsh5, _⟩ := hri5.shape
              generalize hnn5 : List.length _ = nn5 at hsh5
              subst hsh5
              simp only [mkV]
              have k5 := ((HK.out.dw).but hb5 hbx)
              obtain ⟨q5, q6⟩ := k5.c2
              have hbt := HBET.out w5 _ (HRI.out.but (HDR.out.trans hb5) (fun b hb => by rw [hb]; exact hrl)) hri5
              go_wp2_with fail
              refine wpAny_ready (rs := [3]) (by kernel_rfl) (by simp) ?_
              refine AllReady.cons rfl (fun K hK => ?_) (AllReady.nil)
              go_simp
              go_wp2_with fail
              refine hbt.mono ?_; rintro r w6 ⟨hb6, rfl⟩
              go_wp2_with fail
              exact And.intro rfl (HCL.out _ ((HBW.out.drew.trans hb5).below hb6))
            · go_simp
              go_wp2_with fail
              refine (HC.out _ (by with_reducible repeat (first | exact Below.refl _ _ | refine vb_d ?_))).mono ?_; rintro r w5 ⟨hb5, v5, rfl, hri5, hr5⟩
              obtain ⟨ao5, cap5, hsh5, _⟩ := hri5.shape
              generalize hnn5 : List.length _ = nn5 at hsh5
              subst hsh5
              simp only [mkV]
              have k5 := ((HK.out.dw).but hb5 hbx)
              obtain ⟨q5, q6⟩ := k5.c2
              have hbt := HBET.out w5 _ (HRI.out.but (HDR.out.trans hb5) (fun b hb => by rw [hb]; exact hrl)) hri5
              go_wp2_with fail
              refine wpAny_ready (rs := [0]) (by kernel_rfl) (by simp) ?_
              refine AllReady.cons rfl (fun K hK => ?_) (AllReady.nil)
              go_simp
              refine hK _ _ ?_
              clear hK K
              refine wpAny_ready (rs := [3]) (by kernel_rfl) (by simp) ?_
              refine AllReady.cons rfl (fun K hK => ?_) (AllReady.nil)
              go_simp
              go_wp2_with fail
              refine hbt.mono ?_; rintro r w6 ⟨hb6, rfl⟩
              go_wp2_with fail
              exact And.intro rfl (HCL.out _ ((HBW.out.drew.trans hb5).below hb6))
          | some rs =>
            rw [e3] at HBET HE0
            have HE := hid_intro HE0
            clear HE0 e3
            go_region_with (first | (go_at_call 119; refine (HC.out _ (by with_reducible repeat (first | exact Below.refl _ _ | refine vb_d ?_))).mono ?_; rintro r w5 ⟨hb5, v5, rfl, hri5, hr5⟩; obtain ⟨ao5, cap5, hsh5, _⟩ := hri5.shape; generalize hnn5 : List.length _ = nn5 at hsh5; subst hsh5; simp only [mkV]; have k5 := ((HK.out.dw).but hb5 hbx); obtain ⟨q5, q6⟩ := k5.c2; have hbt := HBET.out w5 _ (HRI.out.but (HDR.out.trans hb5) (fun b hb => by rw [hb]; exact hrl)) hri5) | (go_at_call 120; refine hbt.mono ?_; rintro r w6 ⟨hb6, v6, rfl, hri6⟩))
            all_goals
              go_wp2_with fail
              go_ret
              rw [HP.out, HE.out]
              exact ⟨(HBW.out.drew.trans hb5).below hb6, _, rfl, hri6.weak (fun b hb => by have := HBW.out.size; have := hb5.size; simp at *; omega), hr5.below hb6⟩
    · have c0b : (pk l1 0 != 45) = true := by simpa using c0
      have HE : Hid (itemL l = some (m.ranges, l1)) := hid_intro (by unfold itemL; simp only [e1]; rw [if_pos (Or.inl c0)])
      clear e1 c0 hp1
      generalize pk l1 0 = pp at *
      go_enter Tryz.func97, Tryz.ntmps97
      go_wp2_with fail
      refine hm.mono ?_; rintro r w1 ⟨hb1, v1, rfl, hri1, hr1⟩
      simp only [mkV] at *
      generalize hmn : m.named = mb at *
      obtain ⟨ao, cap, hsh, _⟩ := hri1.shape
      generalize hnn : List.length _ = nn at hsh
      subst hsh
      go_wp2_with fail
      refine (hp0 _ (hr1.below (vb_a (Below.refl _ _) _))).mono ?_; rintro r w2 ⟨rfl, hb2⟩
      have kk := (Bk.new _ _ _).bel hb2
      obtain ⟨q0, q1⟩ := kk.c2
      clear kk
      go_wp2_with fail
      have hb13 : Below w1.heap.size w1 w2 := vb_t (vb_a (Below.refl _ _) _) hb2
      rw [HP.out, HE.out]
      exact ⟨hb1.below hb13, _, rfl, hri1.kept hb13, hr1.below hb13⟩
end Go.Proofs.YtppilokmgdpnnaaGreatDoor
