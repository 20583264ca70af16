/-
  json's reader reads a whole text. Conditions: at most 2^20 bytes; the tables as they are laid.
-/
import Derived.Test.YtjakgdaodlgeaaaGreatDoorJoined37
namespace Go.Proofs.YtjakgdaodlgeaaaGreatDoor
open Go.RowKit Go.Maps

structure TI [Ex] (W : World) (l : List UInt8) (v : Value) (lm : Nat → Int) (rb : Nat) (w : World) (cb : Nat) (Z : Except Nat (JV × SS)) (k : Nat) (x : JV) (f : Nat → Value) (s' : SS) (ov' : Value) (hs' : List HC) (wr : World) : Prop where
  jr : JR W l v lm rb s' ov' hs' wr
  rv : Bj wr w.heap.size zV7
  vb : ∃ cs, va f = .agg cs ∧ Bj wr cb cs
  vi : VI wr (mX rb ov' hs') x f
  bw : Below rb w wr
  eq : Z = loopS l (LMof lm) k x s'
  kn : l.length < k + s'.i
  vl : VLo s'
theorem bj_set7 {w : World} {b : Nat} {c0 c1 c2 c3 c4 c5 c6 : Value} (h : Bj w b #[c0, c1, c2, c3, c4, c5, c6]) (a0 a1 a2 a3 a4 a5 a6 : Value) : Bj (set7 w b a0 a1 a2 a3 a4 a5 a6) b #[a0, a1, a2, a3, a4, a5, a6] := by
  have h0 : Bj _ b #[a0, c1, c2, c3, c4, c5, c6] := h.set 0 a0
  have h1 : Bj _ b #[a0, a1, c2, c3, c4, c5, c6] := h0.set 1 a1
  have h2 : Bj _ b #[a0, a1, a2, c3, c4, c5, c6] := h1.set 2 a2
  have h3 : Bj _ b #[a0, a1, a2, a3, c4, c5, c6] := h2.set 3 a3
  have h4 : Bj _ b #[a0, a1, a2, a3, a4, c5, c6] := h3.set 4 a4
  have h5 : Bj _ b #[a0, a1, a2, a3, a4, a5, c6] := h4.set 5 a5
  have h6 : Bj _ b #[a0, a1, a2, a3, a4, a5, a6] := h5.set 6 a6
  exact h6
def finS (l : List UInt8) (Z : Except Nat (JV × SS)) : Except Nat (JV × SS) := match Z with
  | .error e => .error e
  | .ok (v, s) => if Lx.pass l Lx.blankB s.i < l.length then .error (Lx.pass l Lx.blankB s.i + 1) else .ok (v, s)
theorem TI.next [Ex] {W : World} {l : List UInt8} {v : Value} {lm : Nat → Int} {rb : Nat} {w : World} {cb : Nat} {Z : Except Nat (JV × SS)} (hE1 : Ex.E cb) (hcl : rb < w.heap.size) (hcb : w.heap.size < cb) {k1 : Nat} {x1 : JV} {f1 : Nat → Value} {s1 : SS} {ov1 : Value} {hs1 : List HC} {w6 : World} (j1 : JR W l v lm rb s1 ov1 hs1 w6) (v1 : VI w6 (mX rb ov1 hs1) x1 f1) {b0 b1 b2 b3 b4 b5 b6 c0 c1 c2 c3 c4 c5 c6 : Value} (hva : va f1 = .agg #[b0, b1, b2, b3, b4, b5, b6]) (rv : Bj w6 w.heap.size zV7) (vb : Bj w6 cb #[c0, c1, c2, c3, c4, c5, c6]) (bw : Below rb w w6) (e1 : Z = loopS l (LMof lm) k1 x1 s1) (kn : l.length < k1 + s1.i) (vl : VLo s1) :
    TI W l v lm rb w cb Z k1 x1 f1 s1 ov1 hs1 (set7 w6 cb b0 b1 b2 b3 b4 b5 b6) := by
  have hb : But (· = cb) w6 (set7 w6 cb b0 b1 b2 b3 b4 b5 b6) := set7_but (X := (· = cb)) (But.refl _ w6) (Or.inl rfl) _ _ _ _ _ _ _
  exact ⟨j1.side1 hE1 (by omega) hb, rv.but hb (by omega), ⟨_, hva, bj_set7 vb _ _ _ _ _ _ _⟩, vi_side v1 (Or.inl hE1) hb, bw.trans ⟨hb.os, hb.tape, hb.output, hb.size, fun i hi => hb.block i (by have := j1.rd.lt; omega) (by omega)⟩, e1, kn, vl⟩
def ADd [Ex] (W : World) (l : List UInt8) (v : Value) (lm : Nat → Int) (rb : Nat) (s : SS) (ov : Value) (hs0 : List HC) (h : HC) (x : JV) (f : Nat → Value) (wr wx : World) : Prop :=
  ∃ lv', JR W l v lm rb (addV x s) ov (hs0 ++ [hvl h lv' x f]) wx ∧ Mv rb ov (hs0 ++ [h]) wr ov (hs0 ++ [hvl h lv' x f]) wx
def TxOk [Ex] (W : World) (l : List UInt8) (v : Value) (lm : Nat → Int) (rb : Nat) (w : World) (x : JV × SS) (r : Ending) (w' : World) : Prop :=
  ∃ f ov' hs', r = .returned (va f) ∧ JR W l v lm rb { x.2 with i := Lx.pass l Lx.blankB x.2.i } ov' hs' w' ∧ VI w' (mX rb ov' hs') x.1 f ∧ Below rb w w'
theorem vi_add {X : Ex} {w w' : World} {rb : Nat} {ov : Value} {hs : List HC} {B : Nat → Prop} {x : JV} {f : Nat → Value} (h : VI w (@mX X rb ov hs) x f) (hb : Below w.heap.size w w') (hB : ∀ b, B b → w.heap.size ≤ b) : VI w' (@mX (exAdd X B) rb ov hs) x f := h.carry fun b hb1 hlt => ⟨hb.block b hlt, fun e => by
  rcases e with (e | e) | e
  · exact hb1 (Or.inl e)
  · have := hB b e; omega
  · exact hb1 (Or.inr e)⟩
set_option maxRecDepth 100000 in
set_option maxHeartbeats 3200000 in
theorem text_run [X : Ex] (W : World) (l : List UInt8) (v : Value) (lm : Nat → Int) (rb : Nat) (w : World) (a : Addr) (hE : Lx.Env W) (hD : Env W a) (hB : Lx.Byt W v l) (hJ0 : ∀ A, Below w.heap.size w A → w.heap.size < A.heap.size → JR W l v lm rb ⟨0, [], 0, 0⟩ (.slice none 0 0) [] A) (hcl : rb < w.heap.size) (hE0 : Ex.E w.heap.size) (hl : l.length ≤ 1048576) (h3 : 0 ≤ lm 2 ∧ lm 2 ≤ 1000000) :
    Calls Tryz.prog 32 #[.pointer (some ⟨rb, 0, none⟩)] w (StepR (textS l (LMof lm)) (TxOk W l v lm rb w) rb w) := by
  obtain ⟨P, hP⟩ : ∃ P : Ending → World → Prop, P = StepR (textS l (LMof lm)) (TxOk W l v lm rb w) rb w := ⟨_, rfl⟩
  rw [← hP]
  have HP := hid_intro hP
  obtain ⟨A, hA⟩ : ∃ A, w.alloc (.cells #[.int .i64 0, .bool false, .string ⟨#[]⟩, .int .i64 0, .string ⟨#[]⟩, .slice none 0 0, .slice none 0 0] 31) = A := ⟨_, rfl⟩
  have HBA : Hid (Below w.heap.size w A) := hid_intro (hA ▸ vb_a (Below.refl _ _) _)
  have HVA : Hid (Bj A w.heap.size zV7) := hid_intro (hA ▸ Bj.new _ _ _)
  have hJA := hJ0 A HBA.out HVA.out.lt
  have hAlt : rb < A.heap.size := hJA.rd.lt
  have hbw : Below rb w A := HBA.out.mono (Nat.le_of_lt hcl)
  have hc := Below.refl A.heap.size A
  clear hP hJ0
  cases h1 : takeS fov l 0 with
  | error e =>
    have HZ : Hid (textS l (LMof lm) = .error e) := hid_intro (by unfold textS; rw [h1])
    have HT : Hid (∀ fs w', fs = fov → Below A.heap.size A w' → Calls Tryz.prog 51 #[.pointer (some ⟨rb, 0, none⟩), .string fs] w' (fun r w2 => r = stopE 3 (e : Nat) ∧ Below rb A w2)) := hid_intro (fun fs w' hfs hb => by
      subst hfs
      refine (take_jr hE hB hl (hJA.bl hb) fov).mono fun r w2 hr => ?_
      have e1 : takeS fov l (SS.mk 0 [] 0 0).i = .error e := h1
      rw [e1] at hr
      exact ⟨hr.1, (hb.mono (Nat.le_of_lt hAlt)).trans hr.2⟩)
    clear hJA h1 hE hD hB hl h3
    go_enter Tryz.func32, Tryz.ntmps32
    go_wp2_with (go_at_call 51; refine (HT.out _ _ ?_ ?_).mono ?_; exact rfl; (with_reducible repeat (first | exact hc | refine vb_d ?_)); rintro r w5 ⟨rfl, hb5⟩; unfold stopE)
    rw [HP.out, HZ.out]
    exact ⟨rfl, rfl, hbw.trans hb5⟩
  | ok t =>
    have ht := takeL_ok h1
    have hnf := take_fov h1
    have HT : Hid (∀ fs w', fs = fov → Below A.heap.size A w' → Calls Tryz.prog 51 #[.pointer (some ⟨rb, 0, none⟩), .string fs] w' (fun r w2 => r = .returned (Lx.tokV t) ∧ JR W l v lm rb ⟨t.to, [], 0, 0⟩ (.slice none 0 0) [] w2 ∧ But (· = rb) A w2)) := hid_intro (fun fs w' hfs hb => by
      subst hfs
      refine (take_jr hE hB hl (hJA.bl hb) fov).mono fun r w2 hr => ?_
      have e1 : takeS fov l (SS.mk 0 [] 0 0).i = .ok t := h1
      rw [e1] at hr
      exact ⟨hr.1, hr.2.1, (But.ofBelow hb).trans hr.2.2.1⟩)
    have HFA := hid_intro (fun (w' : World) (hj : JR W l v lm rb ⟨t.to, [], 0, 0⟩ (.slice none 0 0) [] w') => first_any W l v lm rb ⟨t.to, [], 0, 0⟩ (.slice none 0 0) [] w' t (l.length + 1) a hE hD hB hj hl ht.2.2 (by show 0 < t.to; exact ht.1) (Or.inr hnf) h3 (fun t p w X h => vi_simple (LMof lm) t p w X h) (by show l.length < l.length + 1 + t.to; omega))
    cases h2 : firstS l (LMof lm) (l.length + 1) t ⟨t.to, [], 0, 0⟩ with
    | error e =>
      have HZ : Hid (textS l (LMof lm) = .error e) := hid_intro (by unfold textS; rw [h1]; simp only [h2])
      have HF : Hid (∀ tv w1 w', tv = .agg #[.int .i64 (t.kind : Int), .string ⟨t.text.toArray⟩, .int .i64 (t.fr : Int), .int .i64 (t.to : Int)] → JR W l v lm rb ⟨t.to, [], 0, 0⟩ (.slice none 0 0) [] w1 → Below w1.heap.size w1 w' → Calls Tryz.prog 50 #[.pointer (some ⟨rb, 0, none⟩), tv] w' (fun r w2 => r = stopE 3 (e : Nat) ∧ Below rb w1 w2)) := hid_intro (fun tv w1 w' htv hj hb => by
        subst htv
        refine (HFA.out w' (hj.bl hb)).mono fun r w2 hr => ?_
        rw [h2] at hr
        exact ⟨hr.1, (hb.mono (Nat.le_of_lt hj.rd.lt)).trans hr.2⟩)
      clear hJA h1 h2 hE hD hB hl h3 HFA ht hnf
      go_enter Tryz.func32, Tryz.ntmps32
      go_wp2_with (first | (go_at_call 51; refine (HT.out _ _ ?_ ?_).mono ?_; exact rfl; (with_reducible repeat (first | exact hc | refine vb_d ?_)); rintro r w5 ⟨rfl, hj5, hb5⟩; unfold Lx.tokV; have hc5 := Below.refl w5.heap.size w5) | (go_at_call 50; refine (HF.out _ w5 _ ?_ hj5 ?_).mono ?_; exact rfl; (with_reducible repeat (first | exact hc5 | refine vb_d ?_)); rintro r w6 ⟨rfl, hb6⟩; unfold stopE))
      rw [HP.out, HZ.out]
      exact ⟨rfl, rfl, (hbw.trans (but_rb hb5 hAlt)).trans hb6⟩
    | ok x0 =>
      obtain ⟨Z2, hZ2⟩ : ∃ Z2, Z2 = loopS l (LMof lm) (l.length + 1) x0.1 x0.2 := ⟨_, rfl⟩
      have HZ : Hid (textS l (LMof lm) = finS l Z2) := hid_intro (by unfold textS; rw [h1]; simp only [h2]; rw [hZ2]; rfl)
      have hvl0 := first_vl _ _ _ _ h2 (fun x hx => by cases hx)
      have HF : Hid (∀ w', JR W l v lm rb ⟨t.to, [], 0, 0⟩ (.slice none 0 0) [] w' → But (· = rb) A w' → Calls Tryz.prog 50 #[.pointer (some ⟨rb, 0, none⟩), .agg #[.int .i64 (t.kind : Int), .string ⟨t.text.toArray⟩, .int .i64 (t.fr : Int), .int .i64 (t.to : Int)]] w' (fun r w2 => ∃ f ov hs, r = .returned (va f) ∧ JR W l v lm rb x0.2 ov hs w2 ∧ VI w2 (mX rb ov hs) x0.1 f ∧ Below rb w w2 ∧ Bj w2 w.heap.size zV7)) := hid_intro (fun w' hj hb => by
        refine (HFA.out w' hj).mono fun r w2 hr => ?_
        rw [h2] at hr
        obtain ⟨f, ov, hs, e1, e2, e3, e4⟩ := hr
        exact ⟨f, ov, hs, e1, e2, e3, (hbw.trans (but_rb hb hAlt)).trans (e4.below hj.st hj.rd.lt), (HVA.out.but hb (by omega)).but e4.but (hj.off hE0 hcl)⟩)
      clear hJA h1 h2 HFA ht hnf
      go_enter Tryz.func32, Tryz.ntmps32
      go_wp2_with fail
      refine (HT.out _ _ rfl hc).mono ?_; rintro r w1 ⟨rfl, hj1, hb1⟩; unfold Lx.tokV
      clear HT
      go_wp2_with fail
      refine (HF.out _ hj1 hb1).mono ?_; rintro r w2 ⟨f2, ov2, hs2, rfl, hj2, hv2, hb2, hk2⟩
      obtain ⟨k_, n_, g_, e_, t_, a1, m1, c1, a2, m2, c2, hva2, hsv2⟩ := hv2.lit
      rw [hva2]
      obtain ⟨W3, hW3⟩ : ∃ W3, w2.alloc (.cells #[.int .i64 k_, .bool n_, .string g_, .int .i64 e_, .string t_, .slice a1 m1 c1, .slice a2 m2 c2] 31) = W3 := ⟨_, rfl⟩
      have hb3 : Below w2.heap.size w2 W3 := hW3 ▸ vb_a (Below.refl _ _) _
      have hk3 : Bj W3 w2.heap.size #[.int .i64 k_, .bool n_, .string g_, .int .i64 e_, .string t_, .slice a1 m1 c1, .slice a2 m2 c2] := hW3 ▸ Bj.new _ _ _
      have hrb2 : rb < w2.heap.size := hj2.rd.lt
      obtain ⟨X2, hX2⟩ : ∃ X2 : Ex, X2 = exAdd X (fun b => b = w2.heap.size) := ⟨_, rfl⟩
      have hE20 : X2.E w.heap.size := by rw [hX2]; exact Or.inl hE0
      have hE21 : X2.E w2.heap.size := by rw [hX2]; exact Or.inr rfl
      have HI0 : Hid (@TI X2 W l v lm rb w w2.heap.size Z2 (l.length + 1) x0.1 f2 x0.2 ov2 hs2 W3) := hid_intro (by
        have hjA : @JR X2 W l v lm rb x0.2 ov2 hs2 W3 := by rw [hX2]; exact hj2.add hb3 _ (fun b e => ⟨by omega, by rw [e]; exact hk3.lt⟩)
        have hvA : VI W3 (@mX X2 rb ov2 hs2) x0.1 f2 := by rw [hX2]; exact vi_add hv2 hb3 (fun b e => by omega)
        exact ⟨hjA, hk2.bel hb3, ⟨_, hva2, hk3⟩, hvA, hb2.trans (hb3.mono (Nat.le_of_lt hrb2)), hZ2, by have := hvl0; omega, hvl0.1⟩)
      have hcb : w.heap.size < w2.heap.size := hk2.lt
      clear hj1 hb1 hj2 hv2 hb2 hk2 hva2 hsv2 hb3 hk3 HF hvl0 hZ2 hAlt hbw hc HBA HVA
      go_wp2_with fail
      clear hW3 hA
      have HVS : Hid (∀ (t : Lx.Tok) (p : Nat) w X, t.text.length ≤ 1048576 → VI w X (simpleS (LMof lm) t p).1 (simF (LMof lm) t p)) := hid_intro (fun t p w X h => vi_simple (LMof lm) t p w X h)
      go_loopg [] (l.length - x0.2.i) (fun g wr => ∃ (k : Nat) (x : JV) (f : Nat → Value) (s' : SS) (ov' : Value) (hs' : List HC), g = l.length - s'.i ∧ Hid (@TI X2 W l v lm rb w w2.heap.size Z2 k x f s' ov' hs' wr))
      case atStart => exact ⟨l.length + 1, x0.1, f2, x0.2, ov2, hs2, rfl, HI0⟩
      case round =>
        clear HI0
        obtain ⟨k, x, f, s', ov', hs', rfl, HI⟩ := hrel
        have hrl : rb < wr.heap.size := HI.out.jr.rd.lt
        obtain ⟨k, rfl⟩ : ∃ k', k = k' + 1 := ⟨k - 1, by have := HI.out.kn; have := HI.out.jr.le; omega⟩
        have HEQ := hid_intro HI.out.eq
        have hc := Below.refl wr.heap.size wr
        obtain ⟨cs, hcs, hvb⟩ := HI.out.vb
        obtain ⟨k3, n3, g3, e3, t3, p1, p2, p3, q1, q2, q3, hva3, hsv3⟩ := HI.out.vi.lit
        rw [hva3] at hcs
        injection hcs with hcs
        subst hcs
        have HVB := hid_intro hvb
        have HVAE := hid_intro hva3
        have HSV := hid_intro hsv3
        have hwl : w.heap.size < wr.heap.size := HI.out.rv.lt
        clear hvb hva3 hsv3
        by_cases hnil : hs' = []
        · subst hnil
          obtain ⟨oo, oc, eo, _, _⟩ := own_shape HI.out.jr.st.row
          subst eo
          have HZ2 : Hid (Z2 = .ok (x, s')) := hid_intro (by rw [HEQ.out, loopS, if_pos (by rw [HI.out.jr.eq]; rfl)])
          have q7 := HI.out.jr.rd.c 7 (by omega) (u := .slice oo 0 oc) rfl
          by_cases hlt : Lx.pass l Lx.blankB s'.i < l.length
          · have HZ3 : Hid (textS l (LMof lm) = .error (Lx.pass l Lx.blankB s'.i + 1)) := hid_intro (by rw [HZ.out, HZ2.out]; simp only [finS, hlt, ↓reduceIte])
            have HEN : Hid (∀ w', Below wr.heap.size wr w' → Calls Tryz.prog 57 #[.pointer (some ⟨rb, 0, none⟩)] w' (fun r w6 => r = stopE 3 ((Lx.pass l Lx.blankB s'.i + 1 : Nat) : Int) ∧ Below rb w w6)) := hid_intro (fun w' hb => (end_any W l v lm rb s' _ [] w' hB (HI.out.jr.bl hb) hl).mono fun r w6 hr => by
              rw [if_pos hlt] at hr
              exact ⟨hr.1, HI.out.bw.trans ((hb.mono (Nat.le_of_lt hrl)).trans hr.2)⟩)
            clear hlt HVB HVAE HSV HEQ HZ2
            go_wp2_with (go_at_call 57; refine (HEN.out _ ?_).mono ?_; (with_reducible repeat (first | exact hc | refine vb_d ?_)); rintro r w6 ⟨rfl, hb6⟩; unfold stopE)
            rw [HP.out, HZ3.out]
            exact ⟨rfl, rfl, hb6⟩
          · have HZ3 : Hid (textS l (LMof lm) = .ok (x, s')) := hid_intro (by rw [HZ.out, HZ2.out]; simp only [finS, hlt, ↓reduceIte])
            have HEN : Hid (∀ w', Below wr.heap.size wr w' → Calls Tryz.prog 57 #[.pointer (some ⟨rb, 0, none⟩)] w' (fun r w6 => r = .returned (.tuple #[]) ∧ @JR X2 W l v lm rb { s' with i := Lx.pass l Lx.blankB s'.i } (.slice oo 0 oc) [] w6 ∧ But (· = rb) wr w6)) := hid_intro (fun w' hb => (end_any W l v lm rb s' _ [] w' hB (HI.out.jr.bl hb) hl).mono fun r w6 hr => by
              rw [if_neg hlt] at hr
              exact ⟨hr.1, hr.2.1, (But.ofBelow hb).trans hr.2.2⟩)
            have HKS : Hid (∀ w6, But (· = rb) wr w6 → Bj w6 w2.heap.size #[.int .i64 k3, .bool n3, .string g3, .int .i64 e3, .string t3, .slice p1 p2 p3, .slice q1 q2 q3] ∧ Bj w6 w.heap.size zV7) := hid_intro (fun w6 hb => ⟨HVB.out.but hb (by omega), HI.out.rv.but hb (by omega)⟩)
            have hne : w.heap.size ≠ w2.heap.size := by omega
            clear hlt HEQ HZ2
            go_wp2_with (go_at_call 57; refine (HEN.out _ ?_).mono ?_; (with_reducible repeat (first | exact hc | refine vb_d ?_)); rintro r w6 ⟨rfl, hj6, hb6⟩; obtain ⟨x0, x1, x2, x3, x4, x5, x6⟩ := (HKS.out _ hb6).1.c7; obtain ⟨y0, y1, y2, y3, y4, y5, y6⟩ := (HKS.out _ hb6).2.c7; obtain ⟨z0, z1, z2, z3, z4, z5, z6⟩ := (HKS.out _ hb6).2.z7)
            refine bodyPost_ret (v := (.agg #[.int .i64 k3, .bool n3, .string g3, .int .i64 e3, .string t3, .slice p1 p2 p3, .slice q1 q2 q3])) (by simp [results, Tryz.results32, go_sem, y0, y1, y2, y3, y4, y5, y6]) rfl ?_
            rw [HP.out, HZ3.out]
            have hb7 : But (· = w.heap.size) w6 (set7 w6 w.heap.size (.int .i64 k3) (.bool n3) (.string g3) (.int .i64 e3) (.string t3) (.slice p1 p2 p3) (.slice q1 q2 q3)) := set7_but (X := (· = w.heap.size)) (But.refl _ w6) (Or.inl rfl) _ _ _ _ _ _ _
            have hv6 : VI w6 (@mX X2 rb (.slice oo 0 oc) []) x f := HI.out.vi.carry fun b hb hlt => ⟨hb6.block b hlt (fun e => hb (Or.inr (Or.inl e))), hb⟩
            have hj7 := hj6.side1 hE20 (by omega) hb7
            have hv7 := vi_side hv6 (Or.inl hE20) hb7
            have hbb : Below rb w6 (set7 w6 w.heap.size (.int .i64 k3) (.bool n3) (.string g3) (.int .i64 e3) (.string t3) (.slice p1 p2 p3) (.slice q1 q2 q3)) := ⟨hb7.os, hb7.tape, hb7.output, hb7.size, fun i hi => hb7.block i (by have := hj6.rd.lt; omega) (by omega)⟩
            have hbw6 := (HI.out.bw.trans (but_rb hb6 hrl)).trans hbb
            subst hX2
            exact ⟨f, _, [], by rw [HVAE.out], JR.less hj7, vi_less hv7, hbw6⟩
        · obtain ⟨hs0, h, rfl⟩ : ∃ hs0 h, hs' = hs0 ++ [h] := ⟨hs'.dropLast, hs'.getLast hnil, (List.dropLast_concat_getLast hnil).symm⟩
          obtain ⟨ob, cap, rfl⟩ := own_some HI.out.jr.st.row (by simp)
          rw [show (hs0 ++ [h]).length = hs0.length + 1 by simp] at HI
          have HV0 : Hid (h.vs.length < s'.i) := hid_intro (by have := HI.out.vl (h.k, h.vs.map (·.1), h.ks) (by rw [HI.out.jr.eq]; simp); simpa using this)
          have HN2 : Hid (h.vs.length ≤ 1048576) := hid_intro (by have := HI.out.jr.le; have := HV0.out; omega)
          have hN0 : hs0.length ≤ 1048576 := by have h1 := HI.out.jr.n1; have := HI.out.jr.le; simp at h1; omega
          have hlast := lastS_of HI.out.jr
          obtain ⟨la, lc, el, _, _⟩ := own_shape (HI.out.jr.st.ho h (by simp)).row
          have HEL := hid_intro el
          have HIN : Hid (∀ w', Below wr.heap.size wr w' → Calls Tryz.prog 52 #[.pointer (some ⟨rb, 0, none⟩)] w' fun r w3 => r = .returned (.pointer (some ⟨ob, hs0.length * 4, none⟩)) ∧ Below wr.heap.size wr w3) := hid_intro (fun w' hb => (innermost_any rb ob hs0.length cap _ w' (HI.out.jr.rd.below hb) rfl hN0).mono fun r w3 hr => ⟨hr.1, vb_t hb hr.2⟩)
          have HLC : Hid (∀ w', Below wr.heap.size wr w' → w'.cell? ⟨ob, hs0.length * 4 + 1, none⟩ = some (.slice la h.vs.length lc)) := hid_intro (fun w' hb => by rw [← el]; exact hcell_at (HI.out.jr.st.bel hb) 1 h.lv rfl)
          have HOW : Hid (∀ w', Below wr.heap.size wr w' → w'.ownsRow (rb + 1) 31 7 (.slice la h.vs.length lc) h.vs.length (flat7 h.vs)) := hid_intro (fun w' hb => by rw [← el]; exact ((HI.out.jr.st.bel hb).ho h (by simp)).row)
          have q7 := HI.out.jr.rd.c 7 (by omega) (u := .slice (some ⟨ob, 0, none⟩) (hs0.length + 1) cap) rfl
          have hpos : (0 : Int) < (hs0.length : Int) + 1 := by omega
          have HRB : Hid (rb + 1 ≤ wr.heap.size) := hid_intro hrl
          obtain ⟨cl, hcl2⟩ : ∃ cl, cl = (if h.k = 6 then sgF else sgE) := ⟨_, rfl⟩
          have HCS : Hid (closing s' = ⟨#[44]⟩ ++ cl) := hid_intro (by
            unfold closing
            rw [hlast, hcl2]
            by_cases e : h.k = 6
            · simp only [e, ↓reduceIte]; rfl
            · simp only [e, ↓reduceIte]; rfl)
          have hclz : ¬ 9223372036854775807 < 1 + cl.size := by
            have : cl.size = 1 := by rw [hcl2]; split <;> rfl
            omega
          have HZE : Hid (Z2 = match takeS (closing s') l s'.i with
            | .error e => .error e
            | .ok t => if sgnB t sgK = true then
                match nextOfS l { addV x s' with i := t.to } with
                | .error e => .error e
                | .ok (t1, s1) => match firstS l (LMof lm) (l.length + 1) t1 s1 with
                  | .error e => .error e
                  | .ok (v1, s2) => loopS l (LMof lm) k v1 s2
              else loopS l (LMof lm) k (closeS { addV x s' with i := t.to }).1 (closeS { addV x s' with i := t.to }).2) := hid_intro (by rw [HEQ.out, loopS, if_neg (by rw [HI.out.jr.eq]; simp)]; rfl)
          clear hlast el hnil HEQ
          go_wp2_with fail
          refine (HIN.out _ hc).mono ?_; rintro r w1 ⟨rfl, hb1⟩
          have L1 := HLC.out w1 hb1
          obtain ⟨v0, v1, v2, v3, v4, v5, v6⟩ := (HVB.out.bel hb1).c7
          have hn2I : (h.vs.length : Int) ≤ 1048576 := by have := HN2.out; omega
          clear HIN q7 hpos
          go_upto_region 4 with fail
          go_cut [] from 9 to 40 (fun wx => Hid (@ADd X2 W l v lm rb s' (.slice (some ⟨ob, 0, none⟩) (hs0.length + 1) cap) hs0 h x f wr wx))
          case first =>
            have HAF := hid_intro (fun (A9 w9 : World) (g9 c9 : Nat) (hb9 : Below wr.heap.size wr A9) ho9 hg9 h49 => @app_facts X2 wr A9 w9 rb ob (hs0.length + 1) cap w2.heap.size hs0 h g9 c9 _ HI.out.jr.st hb9 ho9 hg9 h49 hE21 HVB.out)
            have HFN := hid_intro (fun (A9 w9 : World) (g9 c9 : Nat) (hb9 : Below wr.heap.size wr A9) ho9 hg9 h49 => @add_done X2 W l v lm rb s' ob (hs0.length + 1) cap hs0 h wr A9 w9 x f g9 c9 HI.out.jr HI.out.vi hb9 ho9 hg9 h49 HV0.out _ _ _ _ _ _ _ HSV.out)
            have va0 : ∀ o, (w1.alloc o).cell? ⟨w2.heap.size, 0, none⟩ = some (.int .i64 k3) := fun o => ((HVB.out.bel hb1).al o).cell 0
            have va1 : ∀ o, (w1.alloc o).cell? ⟨w2.heap.size, 1, none⟩ = some (.bool n3) := fun o => ((HVB.out.bel hb1).al o).cell 1
            have va2 : ∀ o, (w1.alloc o).cell? ⟨w2.heap.size, 2, none⟩ = some (.string g3) := fun o => ((HVB.out.bel hb1).al o).cell 2
            have va3 : ∀ o, (w1.alloc o).cell? ⟨w2.heap.size, 3, none⟩ = some (.int .i64 e3) := fun o => ((HVB.out.bel hb1).al o).cell 3
            have va4 : ∀ o, (w1.alloc o).cell? ⟨w2.heap.size, 4, none⟩ = some (.string t3) := fun o => ((HVB.out.bel hb1).al o).cell 4
            have va5 : ∀ o, (w1.alloc o).cell? ⟨w2.heap.size, 5, none⟩ = some (.slice p1 p2 p3) := fun o => ((HVB.out.bel hb1).al o).cell 5
            have va6 : ∀ o, (w1.alloc o).cell? ⟨w2.heap.size, 6, none⟩ = some (.slice q1 q2 q3) := fun o => ((HVB.out.bel hb1).al o).cell 6
            have L2 : ∀ o, (w1.alloc o).cell? ⟨ob, hs0.length * 4 + 1, none⟩ = some (.slice la h.vs.length lc) := fun o => HLC.out _ (vb_a hb1 o)
            have hix : (h.vs.length : Int) < (h.vs.length : Int) + 1 := by omega
            have hELb : (Value.slice la h.vs.length lc).ownBlock = h.lv.ownBlock := by rw [HEL.out]
            go_region_law (first | (refine step_addv (by rfl) _ _ (by rfl) (rb + 1) (.slice la h.vs.length lc) h.vs (by rfl) w1.heap.size (by rfl) HN2.out ?_ ?_ ?_ ?_; (focus (refine HOW.out _ ?_; (with_reducible (repeat (first | exact hb1 | refine vb_d ?_ | refine vb_a ?_ _))))); (focus (with_reducible (repeat (first | exact Bj.newz _ _ | refine Bj.bel ?_ (vb_d (Below.refl _ _)))))); (focus (have := HRB.out; have := hb1.size; simp; omega)); (intro g9 c9 w9 ho9 hg9 h49; rw [hELb] at hg9 h49; have hb9 : Below wr.heap.size wr (w1.alloc (.cells #[.int .i64 0, .bool false, .string ⟨#[]⟩, .int .i64 0, .string ⟨#[]⟩, .slice none 0 0, .slice none 0 0] 31)).drew := vb_d (vb_a hb1 _); obtain ⟨⟨i1, i2, i3⟩, ⟨z0, z1, z2, z3, z4, z5, z6⟩, ⟨y0, y1, y2, y3, y4, y5, y6⟩, kb9, l9, f9⟩ := HAF.out _ w9 g9 c9 hb9 ho9 hg9 h49; obtain ⟨j1, j2⟩ := HFN.out _ w9 g9 c9 hb9 ho9 hg9 h49; have HJ1 := hid_intro j1; have HJ2 := hid_intro j2; have i4 := i1.symm; have i5 := i2.symm; have i6 := i3.symm; obtain ⟨b0, b1, b2, b3, b4, b5, b6⟩ := kb9.c7; rw [HEL.out] at l9; clear ho9 hg9 h49 hb9 j1 j2 kb9)) | fail)
            all_goals
              have HA1 : Hid (@ADd X2 W l v lm rb s' (.slice (some ⟨ob, 0, none⟩) (hs0.length + 1) cap) hs0 h x f wr ((set7r w9 g9 (h.vs.length * 7) (.int .i64 k3) (.bool n3) (.string g3) (.int .i64 e3) (.string t3) (.slice p1 p2 p3) (.slice q1 q2 q3)).setCell ⟨ob, hs0.length * 4 + 1, none⟩ (.slice (some ⟨g9, 0, none⟩) (h.vs.length + 1) c9))) := hid_intro ⟨_, HJ1.out, HJ2.out⟩
              have HA2 : Hid (@ADd X2 W l v lm rb s' (.slice (some ⟨ob, 0, none⟩) (hs0.length + 1) cap) hs0 h x f wr (set7r (w9.setCell ⟨ob, hs0.length * 4 + 1, none⟩ (.slice (some ⟨g9, 0, none⟩) (h.vs.length + 1) c9)) g9 (h.vs.length * 7) (.int .i64 k3) (.bool n3) (.string g3) (.int .i64 e3) (.string t3) (.slice p1 p2 p3) (.slice q1 q2 q3))) := hid_intro (by rw [set7r_comm _ _ _ _ _ _ _ _ _ _ ⟨ob, hs0.length * 4 + 1, none⟩ _ i4]; exact HA1.out)
              clear HJ1 HJ2 HAF HFN HVB HVAE HSV HOW HLC
              go_wp2_with fail
              go_meet
              case rel => first | with_reducible exact HA1 | with_reducible exact HA2
          case rest =>
            obtain ⟨lv4, hj4, hm4⟩ := hcut.out
            have hl4 : rb < wc.heap.size := hj4.rd.lt
            have hc4 := Below.refl wc.heap.size wc
            have hbw4 : Below rb w wc := HI.out.bw.trans (hm4.below HI.out.jr.st hrl)
            have HK4 : Hid (Bj wc w2.heap.size #[.int .i64 k3, .bool n3, .string g3, .int .i64 e3, .string t3, .slice p1 p2 p3, .slice q1 q2 q3] ∧ Bj wc w.heap.size zV7) := hid_intro ⟨HVB.out.but hm4.but (HI.out.jr.off hE21 (by omega)), HI.out.rv.but hm4.but (HI.out.jr.off hE20 hcl)⟩
            have HJ4 := hid_intro hj4
            have hk4 := hcell_at hj4.st 0 (.int .i64 h.k) rfl
            have HCLO : Hid (∀ w', Below wc.heap.size wc w' → Calls Tryz.prog 54 #[.pointer (some ⟨ob, hs0.length * 4, none⟩)] w' (fun r w5 => r = .returned (.string cl) ∧ Below wc.heap.size wc w5)) := hid_intro (fun w' hb => (closing_any ob (hs0.length * 4) h.k w' (hcell_at (hj4.st.bel hb) 0 (.int .i64 h.k) rfl)).mono fun r w5 hr => ⟨hr.1.trans (by rw [hcl2]), hr.2 ▸ hb⟩)
            have HVL : Hid (∀ j, s'.i < j → VLo { addV x s' with i := j }) := hid_intro (fun j hj => HI.out.vl.val (by rw [HI.out.jr.eq]; simp) x hj)
            have HKN : Hid (l.length < k + 1 + s'.i) := hid_intro HI.out.kn
            have HN1 : Hid ((hs0 ++ [hvl h lv4 x f]).length ≤ s'.i) := hid_intro (by have := hj4.n1; exact this)
            have hcle : s'.i ≤ l.length := HI.out.jr.le
            clear hcut hm4 hk4 HVB HVAE HSV HOW HLC HEL L1 v0 v1 v2 v3 v4 v5 v6 hb1 HV0 HN2 HI hn2I hN0 hcl2
            cases h5 : takeS (closing s') l s'.i with
            | error e =>
              have HZ3 : Hid (textS l (LMof lm) = .error e) := hid_intro (by rw [HZ.out, HZE.out, h5]; rfl)
              have HT : Hid (∀ fs w', fs = ⟨#[44]⟩ ++ cl → Below wc.heap.size wc w' → Calls Tryz.prog 51 #[.pointer (some ⟨rb, 0, none⟩), .string fs] w' (fun r w6 => r = stopE 3 (e : Nat) ∧ Below rb wc w6)) := hid_intro (fun fs w' hfs hb => by
                subst hfs
                refine (take_jr hE hB hl (HJ4.out.bl hb) _).mono fun r w6 hr => ?_
                have e1 : takeS (⟨#[44]⟩ ++ cl) l (addV x s').i = .error e := by rw [← HCS.out]; exact h5
                rw [e1] at hr
                exact ⟨hr.1, (hb.mono (Nat.le_of_lt hl4)).trans hr.2⟩)
              clear h5 hj4
              go_wp2_with (first | (go_at_call 54; refine (HCLO.out _ ?_).mono ?_; (with_reducible repeat (first | exact hc4 | refine vb_d ?_)); rintro r w5 ⟨rfl, hc4⟩) | (go_at_call 51; refine (HT.out _ _ ?_ ?_).mono ?_; exact rfl; (with_reducible repeat (first | exact hc4 | refine vb_d ?_)); rintro r w6 ⟨rfl, hb6⟩; unfold stopE))
              rw [HP.out, HZ3.out]
              exact ⟨rfl, rfl, hbw4.trans hb6⟩
            | ok t1 =>
              have ht1 := takeL_ok h5
              have HT : Hid (∀ fs w', fs = ⟨#[44]⟩ ++ cl → Below wc.heap.size wc w' → Calls Tryz.prog 51 #[.pointer (some ⟨rb, 0, none⟩), .string fs] w' (fun r w6 => r = .returned (Lx.tokV t1) ∧ JR W l v lm rb { addV x s' with i := t1.to } (.slice (some ⟨ob, 0, none⟩) (hs0.length + 1) cap) (hs0 ++ [hvl h lv4 x f]) w6 ∧ Below rb w w6 ∧ Bj w6 w2.heap.size #[.int .i64 k3, .bool n3, .string g3, .int .i64 e3, .string t3, .slice p1 p2 p3, .slice q1 q2 q3] ∧ Bj w6 w.heap.size zV7)) := hid_intro (fun fs w' hfs hb => by
                subst hfs
                refine (take_jr hE hB hl (HJ4.out.bl hb) _).mono fun r w6 hr => ?_
                have e1 : takeS (⟨#[44]⟩ ++ cl) l (addV x s').i = .ok t1 := by rw [← HCS.out]; exact h5
                rw [e1] at hr
                have hbb := (But.ofBelow hb).trans hr.2.2.1
                exact ⟨hr.1, hr.2.1, hbw4.trans (but_rb hbb hl4), HK4.out.1.but hbb (by omega), HK4.out.2.but hbb (by omega)⟩)
              rw [h5] at HZE
              simp only at HZE
              have hS4 := HVL.out t1.to ht1.1
              obtain ⟨S4, hS4e⟩ : ∃ S4 : SS, S4 = { addV x s' with i := t1.to } := ⟨_, rfl⟩
              have hS4i : S4.i = t1.to := by rw [hS4e]
              rw [← hS4e] at HT HZE hS4
              cases hk : sgnB t1 sgK with
              | false =>
                have HZ3 : Hid (Z2 = loopS l (LMof lm) k (closeS S4).1 (closeS S4).2) := hid_intro (by rw [HZE.out, hk]; rfl)
                have HG : Hid (∀ tv fs w6 w', tv = .agg #[.int .i64 (t1.kind : Int), .string ⟨t1.text.toArray⟩, .int .i64 (t1.fr : Int), .int .i64 (t1.to : Int)] → fs = sgK → Below (World.heap w6).size w6 w' → Calls Tryz.prog 53 #[tv, .string fs] w' (fun r w7 => r = .returned (.bool false) ∧ Below w6.heap.size w6 w7)) := hid_intro (fun tv fs w6 w' htv hfs hb => by
                  subst htv hfs
                  refine (isSign_any (t1.kind : Int) (txtB t1) (t1.fr : Int) (t1.to : Int) sgK w').mono fun r w7 hr => ⟨hr.1.trans ?_, vb_t hb hr.2⟩
                  have e : isL (t1.kind : Int) (txtB t1) (t1.fr : Int) (t1.to : Int) 4 sgK = false := hk
                  rw [e])
                obtain ⟨la4, lc4, el4, _⟩ := own_shape (HJ4.out.st.ho (hvl h lv4 x f) (by simp)).row
                obtain ⟨ka4, kc4, ek4, _⟩ := own_shape (HJ4.out.st.ho (hvl h lv4 x f) (by simp)).krow
                obtain ⟨m4, hm4⟩ : ∃ m4, (hvl h lv4 x f).vs.length = m4 := ⟨_, rfl⟩
                obtain ⟨o4, ho4⟩ : ∃ o4, (hvl h lv4 x f).ks.length = o4 := ⟨_, rfl⟩
                rw [hm4] at el4
                rw [ho4] at ek4
                have HVA4 : Hid (va (hcel (hvl h lv4 x f)) = .agg #[.int .i64 h.k, .bool false, .string ⟨#[]⟩, .int .i64 0, .string ⟨#[]⟩, .slice la4 m4 lc4, .slice ka4 o4 kc4]) := hid_intro (by unfold va hcel; rw [← el4, ← ek4]; rfl)
                have HCO : Hid (∀ w6 w', JR W l v lm rb S4 (.slice (some ⟨ob, 0, none⟩) (hs0.length + 1) cap) (hs0 ++ [hvl h lv4 x f]) w6 → Below rb w w6 → Bj w6 w2.heap.size #[.int .i64 k3, .bool n3, .string g3, .int .i64 e3, .string t3, .slice p1 p2 p3, .slice q1 q2 q3] → Bj w6 w.heap.size zV7 → Below w6.heap.size w6 w' → Calls Tryz.prog 56 #[.pointer (some ⟨rb, 0, none⟩)] w' (fun r w8 => r = .returned (.agg #[.int .i64 h.k, .bool false, .string ⟨#[]⟩, .int .i64 0, .string ⟨#[]⟩, .slice la4 m4 lc4, .slice ka4 o4 kc4]) ∧ JR W l v lm rb (closeS S4).2 (.slice (some ⟨ob, 0, none⟩) hs0.length cap) hs0 w8 ∧ VI w8 (mX rb (.slice (some ⟨ob, 0, none⟩) hs0.length cap) hs0) (closeS S4).1 (hcel (hvl h lv4 x f)) ∧ Below rb w w8 ∧ Bj w8 w2.heap.size #[.int .i64 k3, .bool n3, .string g3, .int .i64 e3, .string t3, .slice p1 p2 p3, .slice q1 q2 q3] ∧ Bj w8 w.heap.size zV7)) := hid_intro (fun w6 w' hj hbw hk6 hr6 hb => (close_any W l v lm rb S4 ob _ cap hs0 (hvl h lv4 x f) w' (hj.bl hb) hl).mono fun r w8 hr => ⟨hr.1.trans (by rw [HVA4.out]), hr.2.1, by rw [hr.2.2.2.2]; exact hr.2.2.1, (hbw.trans (hb.mono (Nat.le_of_lt hj.rd.lt))).trans (hr.2.2.2.1.below (hj.bl hb).st (hj.bl hb).rd.lt), (hk6.bel hb).but hr.2.2.2.1.but ((hj.bl hb).off hE21 (by omega)), (hr6.bel hb).but hr.2.2.2.1.but ((hj.bl hb).off hE20 hcl)⟩)
                have HEND : Hid (∀ w8, JR W l v lm rb (closeS S4).2 (.slice (some ⟨ob, 0, none⟩) hs0.length cap) hs0 w8 → VI w8 (mX rb (.slice (some ⟨ob, 0, none⟩) hs0.length cap) hs0) (closeS S4).1 (hcel (hvl h lv4 x f)) → Below rb w w8 → Bj w8 w2.heap.size #[.int .i64 k3, .bool n3, .string g3, .int .i64 e3, .string t3, .slice p1 p2 p3, .slice q1 q2 q3] → Bj w8 w.heap.size zV7 → TI W l v lm rb w w2.heap.size Z2 k (closeS S4).1 (hcel (hvl h lv4 x f)) (closeS S4).2 (.slice (some ⟨ob, 0, none⟩) hs0.length cap) hs0 (set7 w8 w2.heap.size (.int .i64 h.k) (.bool false) (.string ⟨#[]⟩) (.int .i64 0) (.string ⟨#[]⟩) (.slice la4 m4 lc4) (.slice ka4 o4 kc4))) := hid_intro (fun w8 hj hv hb hk8 hr8 => TI.next hE21 hcl hcb hj hv HVA4.out hr8 hk8 hb HZ3.out (by show l.length < k + S4.i; rw [hS4i]; have := HKN.out; omega) hS4.close)
                have hmeas : l.length - (closeS S4).2.i < l.length - s'.i := by
                  have : (closeS S4).2.i = t1.to := hS4i
                  omega
                clear h5 hj4 hk hS4e HZE HZ3 HVA4 HJ4 HVL el4 ek4 hm4 ho4
                go_wp2_with (first | (go_at_call 54; refine (HCLO.out _ ?_).mono ?_; (with_reducible repeat (first | exact hc4 | refine vb_d ?_)); rintro r w5 ⟨rfl, hc4⟩) | (go_at_call 51; refine (HT.out _ _ ?_ ?_).mono ?_; exact rfl; (with_reducible repeat (first | exact hc4 | refine vb_d ?_)); rintro r w6 ⟨rfl, hj6, hb6, hk6, hr6⟩; unfold Lx.tokV; have hc6 := Below.refl w6.heap.size w6) | (go_at_call 53; refine (HG.out _ _ w6 _ ?_ ?_ ?_).mono ?_; exact rfl; exact rfl; (with_reducible repeat (first | exact hc6 | refine vb_d ?_)); rintro r w7 ⟨rfl, hc6⟩) | (go_at_call 56; refine (HCO.out w6 _ hj6 hb6 hk6 hr6 ?_).mono ?_; (with_reducible repeat (first | exact hc6 | refine vb_d ?_)); rintro r w8 ⟨rfl, hj8, hv8, hb8, hk8, hr8⟩; obtain ⟨x0, x1, x2, x3, x4, x5, x6⟩ := hk8.c7; obtain ⟨z0, z1, z2, z3, z4, z5, z6⟩ := hk8.z7))
                all_goals
                  have HQ := hid_intro (HEND.out w8 hj8 hv8 hb8 hk8 hr8)
                  clear hj8 hv8 hb8 hk8 hr8 hj6 hk6 hr6 HEND HCO HG HT HCLO
                  go_roundg (l.length - (closeS S4).2.i)
                  case measure => exact hmeas
                  case rel => exact ⟨k, _, _, _, _, _, rfl, HQ⟩
              | true =>
                have HG : Hid (∀ tv fs w6 w', tv = .agg #[.int .i64 (t1.kind : Int), .string ⟨t1.text.toArray⟩, .int .i64 (t1.fr : Int), .int .i64 (t1.to : Int)] → fs = sgK → Below (World.heap w6).size w6 w' → Calls Tryz.prog 53 #[tv, .string fs] w' (fun r w7 => r = .returned (.bool true) ∧ Below w6.heap.size w6 w7)) := hid_intro (fun tv fs w6 w' htv hfs hb => by
                  subst htv hfs
                  refine (isSign_any (t1.kind : Int) (txtB t1) (t1.fr : Int) (t1.to : Int) sgK w').mono fun r w7 hr => ⟨hr.1.trans ?_, vb_t hb hr.2⟩
                  have e : isL (t1.kind : Int) (txtB t1) (t1.fr : Int) (t1.to : Int) 4 sgK = true := hk
                  rw [e])
                have HZ3 : Hid (Z2 = match nextOfS l S4 with
                  | .error e => .error e
                  | .ok (t1, s1) => match firstS l (LMof lm) (l.length + 1) t1 s1 with
                    | .error e => .error e
                    | .ok (v1, s2) => loopS l (LMof lm) k v1 s2) := hid_intro (by rw [HZE.out, hk]; rfl)
                have hS4n : S4.hs.length = hs0.length + 1 ∧ S4.hs ≠ [] := by
                  have := HJ4.out.eq
                  have e : S4.hs = (addV x s').hs := by rw [hS4e]
                  rw [e, this]
                  simp
                cases h6 : nextOfS l S4 with
                | error e =>
                  have HZ4 : Hid (textS l (LMof lm) = .error e) := hid_intro (by rw [HZ.out, HZ3.out, h6]; rfl)
                  have HNX : Hid (∀ w6 w', JR W l v lm rb S4 (.slice (some ⟨ob, 0, none⟩) (hs0.length + 1) cap) (hs0 ++ [hvl h lv4 x f]) w6 → Below w6.heap.size w6 w' → Calls Tryz.prog 55 #[.pointer (some ⟨rb, 0, none⟩), .pointer (some ⟨ob, hs0.length * 4, none⟩)] w' (fun r w8 => r = stopE 3 (e : Nat) ∧ Below rb w6 w8)) := hid_intro (fun w6 w' hj hb => by
                    refine (nextOf_any W l v lm rb S4 ob _ cap hs0 (hvl h lv4 x f) w' hE hB (hj.bl hb) hl).mono fun r w8 hr => ?_
                    rw [h6] at hr
                    exact ⟨hr.1, (hb.mono (Nat.le_of_lt hj.rd.lt)).trans hr.2⟩)
                  clear h5 hj4 hk hS4e HZE HZ3 HJ4 HVL h6
                  go_wp2_with (first | (go_at_call 54; refine (HCLO.out _ ?_).mono ?_; (with_reducible repeat (first | exact hc4 | refine vb_d ?_)); rintro r w5 ⟨rfl, hc4⟩) | (go_at_call 51; refine (HT.out _ _ ?_ ?_).mono ?_; exact rfl; (with_reducible repeat (first | exact hc4 | refine vb_d ?_)); rintro r w6 ⟨rfl, hj6, hb6, hk6, hr6⟩; unfold Lx.tokV; have hc6 := Below.refl w6.heap.size w6) | (go_at_call 53; refine (HG.out _ _ w6 _ ?_ ?_ ?_).mono ?_; exact rfl; exact rfl; (with_reducible repeat (first | exact hc6 | refine vb_d ?_)); rintro r w7 ⟨rfl, hc6⟩) | (go_at_call 55; refine (HNX.out w6 _ hj6 ?_).mono ?_; (with_reducible repeat (first | exact hc6 | refine vb_d ?_)); rintro r w8 ⟨rfl, hb8⟩; unfold stopE))
                  rw [HP.out, HZ4.out]
                  exact ⟨rfl, rfl, hb6.trans hb8⟩
                | ok y2 =>
                  obtain ⟨t2, s2⟩ := y2
                  obtain ⟨hvl2, hi2, htx2⟩ := nextOf_vl h6 hS4
                  have hi2 : S4.i < s2.i := hi2
                  have htx2 : t2.text.length ≤ l.length := htx2
                  have hvl2 : VLo s2 := hvl2
                  have hlen2 : s2.hs.length = hs0.length + 1 := (nextOf_len h6 hS4n.2).trans hS4n.1
                  have hn1 : hs0.length + 1 ≤ s'.i := by have := HN1.out; simpa using this
                  have HNX : Hid (∀ w6 w', JR W l v lm rb S4 (.slice (some ⟨ob, 0, none⟩) (hs0.length + 1) cap) (hs0 ++ [hvl h lv4 x f]) w6 → Below rb w w6 → Bj w6 w2.heap.size #[.int .i64 k3, .bool n3, .string g3, .int .i64 e3, .string t3, .slice p1 p2 p3, .slice q1 q2 q3] → Bj w6 w.heap.size zV7 → Below w6.heap.size w6 w' → Calls Tryz.prog 55 #[.pointer (some ⟨rb, 0, none⟩), .pointer (some ⟨ob, hs0.length * 4, none⟩)] w' (fun r w8 => r = .returned (Lx.tokV t2) ∧ ∃ hs8, JR W l v lm rb s2 (.slice (some ⟨ob, 0, none⟩) (hs0.length + 1) cap) hs8 w8 ∧ Below rb w w8 ∧ Bj w8 w2.heap.size #[.int .i64 k3, .bool n3, .string g3, .int .i64 e3, .string t3, .slice p1 p2 p3, .slice q1 q2 q3] ∧ Bj w8 w.heap.size zV7)) := hid_intro (fun w6 w' hj hbw hk6 hr6 hb => by
                    refine (nextOf_any W l v lm rb S4 ob _ cap hs0 (hvl h lv4 x f) w' hE hB (hj.bl hb) hl).mono fun r w8 hr => ?_
                    rw [h6] at hr
                    obtain ⟨e1, hs8, e2, e3⟩ := hr
                    exact ⟨e1, hs8, e2, (hbw.trans (hb.mono (Nat.le_of_lt hj.rd.lt))).trans (e3.below (hj.bl hb).st (hj.bl hb).rd.lt), (hk6.bel hb).but e3.but ((hj.bl hb).off hE21 (by omega)), (hr6.bel hb).but e3.but ((hj.bl hb).off hE20 hcl)⟩)
                  have HFA := hid_intro (fun (w' : World) (hs8 : List HC) (hj : JR W l v lm rb s2 (.slice (some ⟨ob, 0, none⟩) (hs0.length + 1) cap) hs8 w') => first_any W l v lm rb s2 (.slice (some ⟨ob, 0, none⟩) (hs0.length + 1) cap) hs8 w' t2 (l.length + 1) a hE hD hB hj hl htx2 (by
                    have : s2.hs.length = hs8.length := by rw [hj.eq]; simp
                    omega) (Or.inl (fun e => by
                    have := hj.eq
                    rw [e] at this
                    rw [this] at hlen2
                    simp at hlen2)) h3 HVS.out (by omega))
                  cases h7 : firstS l (LMof lm) (l.length + 1) t2 s2 with
                  | error e =>
                    have HZ4 : Hid (textS l (LMof lm) = .error e) := hid_intro (by rw [HZ.out, HZ3.out, h6]; simp only [h7]; rfl)
                    have HF : Hid (∀ tv hs8 w8 w', tv = .agg #[.int .i64 (t2.kind : Int), .string ⟨t2.text.toArray⟩, .int .i64 (t2.fr : Int), .int .i64 (t2.to : Int)] → JR W l v lm rb s2 (.slice (some ⟨ob, 0, none⟩) (hs0.length + 1) cap) hs8 w8 → Below w8.heap.size w8 w' → Calls Tryz.prog 50 #[.pointer (some ⟨rb, 0, none⟩), tv] w' (fun r w9 => r = stopE 3 (e : Nat) ∧ Below rb w8 w9)) := hid_intro (fun tv hs8 w8 w' htv hj hb => by
                      subst htv
                      refine (HFA.out w' hs8 (hj.bl hb)).mono fun r w9 hr => ?_
                      rw [h7] at hr
                      exact ⟨hr.1, (hb.mono (Nat.le_of_lt hj.rd.lt)).trans hr.2⟩)
                    clear h5 hj4 hk hS4e HZE HZ3 HJ4 HVL h6 h7 HFA
                    go_wp2_with (first | (go_at_call 54; refine (HCLO.out _ ?_).mono ?_; (with_reducible repeat (first | exact hc4 | refine vb_d ?_)); rintro r w5 ⟨rfl, hc4⟩) | (go_at_call 51; refine (HT.out _ _ ?_ ?_).mono ?_; exact rfl; (with_reducible repeat (first | exact hc4 | refine vb_d ?_)); rintro r w6 ⟨rfl, hj6, hb6, hk6, hr6⟩; unfold Lx.tokV; have hc6 := Below.refl w6.heap.size w6) | (go_at_call 53; refine (HG.out _ _ w6 _ ?_ ?_ ?_).mono ?_; exact rfl; exact rfl; (with_reducible repeat (first | exact hc6 | refine vb_d ?_)); rintro r w7 ⟨rfl, hc6⟩) | (go_at_call 55; refine (HNX.out w6 _ hj6 hb6 hk6 hr6 ?_).mono ?_; (with_reducible repeat (first | exact hc6 | refine vb_d ?_)); rintro r w8 ⟨rfl, hs8, hj8, hb8, hk8, hr8⟩; unfold Lx.tokV; have hc8 := Below.refl w8.heap.size w8) | (go_at_call 50; refine (HF.out _ hs8 w8 _ ?_ hj8 ?_).mono ?_; exact rfl; (with_reducible repeat (first | exact hc8 | refine vb_d ?_)); rintro r w9 ⟨rfl, hb9⟩; unfold stopE))
                    rw [HP.out, HZ4.out]
                    exact ⟨rfl, rfl, hb8.trans hb9⟩
                  | ok y3 =>
                    have hv3 := first_vl _ _ _ _ h7 hvl2
                    have HZ4 : Hid (Z2 = loopS l (LMof lm) k y3.1 y3.2) := hid_intro (by rw [HZ3.out, h6]; simp only [h7])
                    have HF : Hid (∀ tv hs8 w8 w', tv = .agg #[.int .i64 (t2.kind : Int), .string ⟨t2.text.toArray⟩, .int .i64 (t2.fr : Int), .int .i64 (t2.to : Int)] → JR W l v lm rb s2 (.slice (some ⟨ob, 0, none⟩) (hs0.length + 1) cap) hs8 w8 → Below rb w w8 → Bj w8 w2.heap.size #[.int .i64 k3, .bool n3, .string g3, .int .i64 e3, .string t3, .slice p1 p2 p3, .slice q1 q2 q3] → Bj w8 w.heap.size zV7 → Below w8.heap.size w8 w' → Calls Tryz.prog 50 #[.pointer (some ⟨rb, 0, none⟩), tv] w' (fun r w9 => ∃ f9 ov9 hs9, r = .returned (va f9) ∧ JR W l v lm rb y3.2 ov9 hs9 w9 ∧ VI w9 (mX rb ov9 hs9) y3.1 f9 ∧ Below rb w w9 ∧ Bj w9 w2.heap.size #[.int .i64 k3, .bool n3, .string g3, .int .i64 e3, .string t3, .slice p1 p2 p3, .slice q1 q2 q3] ∧ Bj w9 w.heap.size zV7)) := hid_intro (fun tv hs8 w8 w' htv hj hbw hk8 hr8 hb => by
                      subst htv
                      refine (HFA.out w' hs8 (hj.bl hb)).mono fun r w9 hr => ?_
                      rw [h7] at hr
                      obtain ⟨f9, ov9, hs9, e1, e2, e3, e4⟩ := hr
                      exact ⟨f9, ov9, hs9, e1, e2, e3, (hbw.trans (hb.mono (Nat.le_of_lt hj.rd.lt))).trans (e4.below (hj.bl hb).st (hj.bl hb).rd.lt), (hk8.bel hb).but e4.but ((hj.bl hb).off hE21 (by omega)), (hr8.bel hb).but e4.but ((hj.bl hb).off hE20 hcl)⟩)
                    have HEND : Hid (∀ w9 f9 ov9 hs9 b0 b1 b2 b3 b4 b5 b6, va f9 = .agg #[b0, b1, b2, b3, b4, b5, b6] → JR W l v lm rb y3.2 ov9 hs9 w9 → VI w9 (mX rb ov9 hs9) y3.1 f9 → Below rb w w9 → Bj w9 w2.heap.size #[.int .i64 k3, .bool n3, .string g3, .int .i64 e3, .string t3, .slice p1 p2 p3, .slice q1 q2 q3] → Bj w9 w.heap.size zV7 → TI W l v lm rb w w2.heap.size Z2 k y3.1 f9 y3.2 ov9 hs9 (set7 w9 w2.heap.size b0 b1 b2 b3 b4 b5 b6)) := hid_intro (fun w9 f9 ov9 hs9 b0 b1 b2 b3 b4 b5 b6 hva hj hv hb hk9 hr9 => TI.next hE21 hcl hcb hj hv hva hr9 hk9 hb HZ4.out (by have := HKN.out; omega) hv3.1)
                    have hmeas : l.length - y3.2.i < l.length - s'.i := by omega
                    clear h5 hj4 hk hS4e HZE HZ3 HZ4 HJ4 HVL h6 h7 HFA hv3
                    go_wp2_with (first | (go_at_call 54; refine (HCLO.out _ ?_).mono ?_; (with_reducible repeat (first | exact hc4 | refine vb_d ?_)); rintro r w5 ⟨rfl, hc4⟩) | (go_at_call 51; refine (HT.out _ _ ?_ ?_).mono ?_; exact rfl; (with_reducible repeat (first | exact hc4 | refine vb_d ?_)); rintro r w6 ⟨rfl, hj6, hb6, hk6, hr6⟩; unfold Lx.tokV; have hc6 := Below.refl w6.heap.size w6) | (go_at_call 53; refine (HG.out _ _ w6 _ ?_ ?_ ?_).mono ?_; exact rfl; exact rfl; (with_reducible repeat (first | exact hc6 | refine vb_d ?_)); rintro r w7 ⟨rfl, hc6⟩) | (go_at_call 55; refine (HNX.out w6 _ hj6 hb6 hk6 hr6 ?_).mono ?_; (with_reducible repeat (first | exact hc6 | refine vb_d ?_)); rintro r w8 ⟨rfl, hs8, hj8, hb8, hk8, hr8⟩; unfold Lx.tokV; have hc8 := Below.refl w8.heap.size w8) | (go_at_call 50; refine (HF.out _ hs8 w8 _ ?_ hj8 hb8 hk8 hr8 ?_).mono ?_; exact rfl; (with_reducible repeat (first | exact hc8 | refine vb_d ?_)); rintro r w9 ⟨f9, ov9, hs9, rfl, hj9, hv9, hb9, hk9, hr9⟩; obtain ⟨k9, n9, g9, e9, t9, r1, r2, r3, s1, s2, s3, hva9, hsv9⟩ := hv9.lit; have HVA9 := hid_intro hva9; rw [hva9]; clear hva9 hsv9; obtain ⟨x0, x1, x2, x3, x4, x5, x6⟩ := hk9.c7; obtain ⟨z0, z1, z2, z3, z4, z5, z6⟩ := hk9.z7))
                    all_goals
                      have HQ := hid_intro (HEND.out w9 f9 ov9 hs9 _ _ _ _ _ _ _ HVA9.out hj9 hv9 hb9 hk9 hr9)
                      clear hj9 hv9 hb9 hk9 hr9 hj8 hb8 hk8 hr8 hj6 hk6 hr6 HEND HF HNX HG HT HCLO HVA9
                      go_roundg (l.length - y3.2.i)
                      case measure => exact hmeas
                      case rel => exact ⟨k, _, _, _, _, _, rfl, HQ⟩
theorem text_any [X : Ex] (W : World) (l : List UInt8) (v : Value) (lm : Nat → Int) (rb : Nat) (w : World) (a : Addr) (hE : Lx.Env W) (hD : Env W a) (hB : Lx.Byt W v l) (hJ : JR W l v lm rb ⟨0, [], 0, 0⟩ (.slice none 0 0) [] w) (hl : l.length ≤ 1048576) (h3 : 0 ≤ lm 2 ∧ lm 2 ≤ 1000000) :
    Calls Tryz.prog 32 #[.pointer (some ⟨rb, 0, none⟩)] w (StepR (textS l (LMof lm)) (TxOk W l v lm rb w) rb w) := by
  refine (@text_run (exAdd X (fun b => b = w.heap.size)) W l v lm rb w a hE hD hB (fun A hA hlt => hJ.add hA _ (fun b e => by omega)) hJ.rd.lt (Or.inr rfl) hl h3).mono fun r w' hr => ?_
  cases hv : textS l (LMof lm) with
  | error e => rw [hv] at hr; exact hr
  | ok x =>
    rw [hv] at hr
    obtain ⟨f, ov', hs', h1, h2, h3, h4⟩ := hr
    exact ⟨f, ov', hs', h1, JR.less h2, vi_less h3, h4⟩
end Go.Proofs.YtjakgdaodlgeaaaGreatDoor
