/-
  Ends. Conditions: the table of greatest code points holds its four numbers; at most 2^20 states, ranges of a state and bytes.
  What ref.Ints answers. No condition.
  The states at a place, reckoned out; the searches that are refused. Conditions: there is room.
-/
import Derived.Test.YtoinlmfodmgohaaGreatDoorJoined38
import Derived.Test.YtoinlmfodmgohaaGreatDoorJoined12
import Derived.Test.YtoinlmfodmgohaaGreatDoorJoined36
namespace Go.Proofs.YtoinlmfodmgohaaGreatDoor
open Go.RowKit Go.Maps
attribute [local go_sem] setCell_drewN alloc_drewN

/-- The places where a match ends, ahead of a place. -/
def EnP (L : List ST) (t : List Int) : Nat → List Int → Prop
  | 0, l => l = []
  | p + 1, l => ∃ l', EnP L t p l' ∧ ((Dn L t false p ∧ l = l' ++ [(p : Int)]) ∨ (¬ Dn L t false p ∧ l = l'))
theorem EnP.uniq {L : List ST} {t : List Int} : ∀ {p : Nat} {l m : List Int}, EnP L t p l → EnP L t p m → l = m
  | 0, l, m, h, h' => by rw [h, h']
  | p + 1, _, _, ⟨l', h, hd⟩, ⟨m', h', hd'⟩ => by
    have e := EnP.uniq h h'
    subst e
    rcases hd with ⟨d, rfl⟩ | ⟨d, rfl⟩ <;> rcases hd' with ⟨d', rfl⟩ | ⟨d', rfl⟩
    · rfl
    · exact absurd d d'
    · exact absurd d' d
    · rfl
theorem EnP.len {L : List ST} {t : List Int} : ∀ {p : Nat} {l : List Int}, EnP L t p l → l.length ≤ p
  | 0, l, h => by rw [h]; simp
  | p + 1, _, ⟨l', h, hd⟩ => by
    have := EnP.len h
    rcases hd with ⟨_, rfl⟩ | ⟨_, rfl⟩
    · simp; omega
    · omega
def FrE (L : List ST) (t : List Int) (p : Nat) (y : Int) : Prop := (y = 0 ∧ p = 0) ∨ FrN L t false p y
theorem FrE_inl {L : List ST} (hL : VS L) (t : List Int) (p : Nat) (y : Int) (h : FrE L t p y) : InL L y := by
  rcases h with ⟨rfl, _⟩ | h
  · exact ⟨by omega, by have := hL.1; omega⟩
  · exact FrN_inl hL t false p y h
theorem F0.less {w : World} {X X' : Nat → Prop} {e : EV} {L : List ST} {t : List Int} {p : Nat} {vh : Value} (h : F0 w X e L t p vh) (hx : ∀ b, X' b → X b) (xp : X' e.pb ∧ X' e.wb ∧ X' e.hb ∧ X' e.mb) (xn : ∀ b, w.heap.size ≤ b → X' b) (xv : ∀ b, vh.ownBlock = some b → X' b) : F0 w X' e L t p vh := by
  obtain ⟨fx, kp, kw, kh, oh, xh, mp⟩ := h
  exact ⟨fx.less hx xp xn, kp, kw, kh, oh, xv, mp⟩
theorem F0.up {w w' : World} {X X' : Nat → Prop} {e : EV} {L : List ST} {t : List Int} {p : Nat} {vh : Value} (hx : ∀ b, X' b → X b) (hf : FX w X e L t) (hb : But X' w w') (h : F0 w' X' e L t p vh) : F0 w' X e L t p vh := by
  obtain ⟨fx, kp, kw, kh, oh, xh, mp⟩ := h
  exact ⟨hf.but (hb.more hx), kp, kw, kh, oh, fun b h => hx b (xh b h), mp⟩
def AtE (s : Nat) (L : List ST) (t : List Int) (p : Nat) (W0 : World) (ve : Value) (E : List Int) (en : Ending) (w' : World) : Prop :=
  ∃ vh' H, en = .returned vh' ∧ F0 w' (xOf s) (evOf s) L t (p + 1) vh' ∧ OwnI w' (s + 8) vh' H ∧ H.Nodup ∧ (∀ x ∈ H, InL L x) ∧ (∀ x, x ∈ H ↔ Rs L t false p x) ∧ But (xOf s) W0 w' ∧ OwnI w' (s + 8) ve E ∧ (∀ b, ve.ownBlock = some b → vh'.ownBlock ≠ some b)
theorem at_step_e {s : Nat} {L : List ST} {t : List Int} {p : Nat} {vh vf ve : Value} {Fl E : List Int} {W0 wr : World} (hL : VS L) (hl : L.length ≤ 1048576) (hp : p ≤ 1048576) (hF0 : F0 wr (xOf s) (evOf s) L t p vh)
    (hof : OwnI wr (s + 8) vf Fl) (hoe : OwnI wr (s + 8) ve E) (hdj : ∀ b, vf.ownBlock = some b → vh.ownBlock ≠ some b) (hde : ∀ b, ve.ownBlock = some b → vh.ownBlock ≠ some b) (hdf : ∀ b, ve.ownBlock = some b → vf.ownBlock ≠ some b) (hfr : ∀ y, y ∈ Fl ↔ FrE L t p y) (hfl : Fl.length ≤ 1048576) (hbt : But (xOf s) W0 wr) :
    Calls Tryz.prog 59 #[.int .i64 (p : Int), vf, .pointer (some ⟨s + 4, 0, none⟩), .pointer (some ⟨s + 6, 0, none⟩), .pointer (some ⟨s + 5, 0, none⟩), .pointer (some ⟨s + 7, 0, none⟩)] wr (AtE s L t p W0 ve E) := by
  have hk : F0 wr (fun b => xOf s b ∧ ve.ownBlock ≠ some b) (evOf s) L t p vh := hF0.less (fun b h => h.1)
    ⟨⟨hF0.fx.xp.1, blk_lt hoe hF0.fx.lo.1⟩, ⟨hF0.fx.xp.2.1, blk_lt hoe hF0.fx.lo.2.1⟩, ⟨hF0.fx.xp.2.2.1, blk_lt hoe hF0.fx.lo.2.2.1⟩, ⟨hF0.fx.xp.2.2.2, blk_lt hoe hF0.fx.lo.2.2.2⟩⟩
    (fun b h => ⟨hF0.fx.xn b h, fun e => by have := (hoe.lt e).2; omega⟩) (fun b h => ⟨hF0.xh b h, fun e => hde b e h⟩)
  have h := at_any (X := fun b => xOf s b ∧ ve.ownBlock ≠ some b) (cb := s + 3) (pb := s + 6) (wb := s + 5) (hb := s + 4) (lb := s) (tb := s + 1) (fb := s + 7) (mb := s + 2) (B := s + 8) hL hl hp vh vf Fl wr hk hof (fun b hb => ⟨⟨x_of_ge (hof.lt hb).1, fun e => hdf b e hb⟩, hdj b hb⟩) (fun x hx => FrE_inl hL t p x ((hfr x).1 hx)) (by omega)
  refine h.mono ?_
  rintro en w' ⟨vh', H, rfl, hF', oh', hnd, hin, hrc, hb'⟩
  refine ⟨vh', H, rfl, F0.up (fun b h => h.1) hF0.fx hb' hF', oh', hnd, hin, fun x => ?_, hbt.trans (hb'.more (fun b h => h.1)), hoe.blk (fun g hg => hb'.block g (hoe.lt hg).2 (fun h => h.2 hg)), fun b hb h => (hF'.xh b h).2 hb⟩
  rw [hrc x, Rs_eq]
  refine Rch.congr (fun y => ?_) x
  rw [hfr y]
  unfold FrE
  simp
/-- What the loop keeps. -/
def EndI (s : Nat) (L : List ST) (t : List Int) (W0 : World) (p : Nat) (vf ve : Value) (wr : World) : Prop :=
  ∃ (vh : Value) (Fl E : List Int), p ≤ t.length + 1 ∧ F0 wr (xOf s) (evOf s) L t p vh ∧ OwnI wr (s + 8) vf Fl ∧ OwnI wr (s + 8) ve E ∧ (∀ b, vf.ownBlock = some b → vh.ownBlock ≠ some b) ∧ (∀ b, ve.ownBlock = some b → vh.ownBlock ≠ some b) ∧ (∀ b, ve.ownBlock = some b → vf.ownBlock ≠ some b) ∧ (p ≤ t.length → ∀ y, y ∈ Fl ↔ FrE L t p y) ∧ Fl.length ≤ 1048576 ∧ EnP L t p E ∧ But (xOf s) W0 wr
/-- Ahead of what follows. -/
def MidE (s : Nat) (L : List ST) (t : List Int) (W0 : World) (p : Nat) (H : List Int) (vh ve : Value) (w : World) : Prop :=
  ∃ E, F0 w (xOf s) (evOf s) L t (p + 1) vh ∧ OwnI w (s + 8) vh H ∧ OwnI w (s + 8) ve E ∧ (∀ b, ve.ownBlock = some b → vh.ownBlock ≠ some b) ∧ EnP L t (p + 1) E ∧ But (xOf s) W0 w
theorem end_next {s : Nat} {L : List ST} {t : List Int} {W0 w4 w5 : World} {p : Nat} {vh ve v5 : Value} {H : List Int} (hp : p < t.length) (hM : MidE s L t W0 p H vh ve w4) (hlen : H.length ≤ 1048576) (hrs : ∀ x, x ∈ H ↔ Rs L t false p x) (ho5 : OwnI w5 w4.heap.size v5 (nxt L (ia t p) H)) (hb5 : Below w4.heap.size w4 w5) : EndI s L t W0 (p + 1) v5 ve w5 := by
  obtain ⟨E, hF4, ho4, hoe, hde, hen, hb4⟩ := hM
  refine ⟨vh, nxt L (ia t p) H, E, by omega, hF4.keep (But.ofBelow hb5) (fun b _ hlt => hb5.block b hlt), ho5.mono hF4.fx.sz, hoe.bel hb5, fun b hb hb' => ?_, hde, fun b hb hb' => ?_, fun _ y => ?_, Nat.le_trans (nxt_len _ _ _) hlen, hen, hb4.below hb5⟩
  · have h1 := (ho5.lt hb).1
    have h2 := (ho4.lt hb').2
    omega
  · have h1 := (hoe.lt hb).2
    have h2 := (ho5.lt hb').1
    omega
  · rw [nxt_iff hrs]
    unfold FrE
    simp
theorem end_last {s : Nat} {L : List ST} {t : List Int} {W0 w4 : World} {vh ve : Value} {H : List Int} (hM : MidE s L t W0 t.length H vh ve w4) : EndI s L t W0 (t.length + 1) (.slice none 0 0) ve w4 := by
  obtain ⟨E, hF4, ho4, hoe, hde, hen, hb4⟩ := hM
  exact ⟨vh, [], E, Nat.le_refl _, hF4, OwnI.nil _ _, hoe, fun b h => (by cases h), hde, fun b _ h => (by cases h), fun h => (by omega), Nat.zero_le _, hen, hb4⟩
theorem mid_no {s : Nat} {L : List ST} {t : List Int} {W0 w3 w4 : World} {p : Nat} {vh ve : Value} {H E : List Int} (hF : F0 w3 (xOf s) (evOf s) L t (p + 1) vh) (ho : OwnI w3 (s + 8) vh H) (hoe : OwnI w3 (s + 8) ve E) (hde : ∀ b, ve.ownBlock = some b → vh.ownBlock ≠ some b) (hen : EnP L t p E) (hbt : But (xOf s) W0 w3) (hb4 : Below w3.heap.size w3 w4) (hnd : ¬ Dn L t false p) : MidE s L t W0 p H vh ve w4 :=
  ⟨E, hF.keep (But.ofBelow hb4) (fun b _ hlt => hb4.block b hlt), ho.bel hb4, hoe.bel hb4, hde, ⟨E, hen, Or.inr ⟨hnd, rfl⟩⟩, hbt.below hb4⟩
theorem mid_yes {s : Nat} {L : List ST} {t : List Int} {W0 w3 w4 w5 : World} {p : Nat} {vh ve : Value} {H E : List Int} (hF : F0 w3 (xOf s) (evOf s) L t (p + 1) vh) (ho : OwnI w3 (s + 8) vh H) (hoe : OwnI w3 (s + 8) ve E) (hde : ∀ b, ve.ownBlock = some b → vh.ownBlock ≠ some b) (hen : EnP L t p E) (hbt : But (xOf s) W0 w3) (hb4 : Below w3.heap.size w3 w4) (hd : Dn L t false p)
    {g cap : Nat} (ho5 : OwnI w5 (s + 8) (.slice (some ⟨g, 0, none⟩) (E.length + 1) cap) (E ++ [(p : Int)])) (hg5 : (w4.alloc (.cells #[.int .i64 (p : Int)] 3)).grownBy w5 ve.ownBlock) (hloc : ve.ownBlock = some g ∨ w4.heap.size < g) : MidE s L t W0 p H vh (.slice (some ⟨g, 0, none⟩) (E.length + 1) cap) w5 := by
  have hoe4 := hoe.bel hb4
  have ho4 := ho.bel hb4
  have hF4 : F0 w4 (xOf s) (evOf s) L t (p + 1) vh := hF.keep (But.ofBelow hb4) (fun b _ hlt => hb4.block b hlt)
  have hb5 : But (xOf s) w4 w5 := ((But.refl _ w4).alloc _).grown hg5 (fun b hb => Or.inl (x_of_ge (hoe4.lt hb).1))
  have e1 : (w4.alloc (.cells #[.int .i64 (p : Int)] 3)).heap.size = w4.heap.size + 1 := by simp
  have key : ∀ b, (b < s + 8 ∨ vh.ownBlock = some b) → b < w4.heap.size → w5.heap[b]? = w4.heap[b]? := fun b hb hlt => by
    have hne : some b ≠ ve.ownBlock := by
      intro e
      rcases hb with hb | hb
      · have := (hoe4.lt e.symm).1
        omega
      · exact hde b e.symm hb
    rw [hg5.block b (by rw [e1]; omega) hne]
    exact (vb_a (Below.refl _ w4) _).block b hlt
  refine ⟨E ++ [(p : Int)], hF4.keep hb5 key, ho4.blk (fun b hb => key b (Or.inr hb) (ho4.lt hb).2), ho5, fun b hb => ?_, ⟨E, hen, Or.inl ⟨hd, rfl⟩⟩, (hbt.below hb4).trans hb5⟩
  simp only [Value.ownBlock, Option.some.injEq] at hb
  subst hb
  rcases hloc with h | h
  · exact hde _ h
  · intro h'
    have := (ho4.lt h').2
    omega
set_option maxRecDepth 100000 in
set_option maxHeartbeats 3200000 in
theorem ends_ok (L : List ST) (hlL : L.length ≤ 1048576) (hr : ∀ s ∈ L, s.r.length ≤ 1048576) (s : ByteArray) (hs : s.size ≤ 1048576) (lv : Value) (w : World) (hT : Tab w) (X0 : Nat → Prop) (hS : SI w X0 L lv) (hn : nfaB L = true) (hg : goodS s = true) :
    Calls Tryz.prog 15 #[lv, .string s] w fun e w' => ∃ v E, e = .returned (.tuple #[v, .int .i64 0]) ∧ OwnI w' w.heap.size v E ∧ EnP L (ptsS s) ((ptsS s).length + 1) E ∧ Below w.heap.size w w' := by
  have hL := vs_of hn
  have hok : ∀ s ∈ L, s.ok := by obtain ⟨_, _, _, _, _, h, _⟩ := hS; exact h
  have hRS := rs_of hn hok hr
  have hread := read_ok L (fun s hs => by have := hr s hs; omega) s (by omega) lv w hT X0 hS hn hg
  have hlen := ptsS_len s
  generalize ptsS s = t at hread hlen ⊢
  obtain ⟨a1, c1, rfl⟩ : ∃ a1 c1, lv = .slice a1 L.length c1 := by obtain ⟨a1, c1, rfl, _⟩ := hS; exact ⟨a1, c1, rfl⟩
  obtain ⟨P, hP⟩ : ∃ P : Ending → World → Prop, P = fun e w' => ∃ v E, e = .returned (.tuple #[v, .int .i64 0]) ∧ OwnI w' w.heap.size v E ∧ EnP L t (t.length + 1) E ∧ Below w.heap.size w w' := ⟨_, rfl⟩
  rw [← hP]
  have HP := hid_intro hP
  have HS := hid_intro hS
  have HLN := hid_intro (show t.length ≤ 1048576 by omega)
  have HRS := hid_intro hRS
  have HL := hid_intro (And.intro hL hlL)
  have htI : (t.length : Int) ≤ 1048576 := by omega
  clear hP hS hn hg hT hs hr hok hRS hlen hL hlL
  go_enter Tryz.func15, Tryz.ntmps15
  go_wp2_with fail
  refine hread.mono ?_; rintro e w1 ⟨v, rfl, ho, hb1⟩
  obtain ⟨va, vc, rfl, hv1, hv2, hv3, hv4⟩ := ho.form
  have hS1 := HS.out.kept hb1
  have hI1 := ho.ii (fun _ => False) (fun _ _ h => h)
  have hst := f0_start hS1 hI1
  have hfo := pfollower_any a1 va L.length c1 t.length vc w1
  obtain ⟨W9, hW9⟩ : ∃ W9, wOf w1 (.slice a1 L.length c1) (.slice va t.length vc) = W9 := ⟨_, rfl⟩
  rw [hW9] at hst hfo
  obtain ⟨W0, hW0⟩ : ∃ W0, W9.alloc (.cells #[.int .i64 0] 3) = W0 := ⟨_, rfl⟩
  have hb90 : Below W9.heap.size W9 W0 := hW0 ▸ vb_a (Below.refl _ _) _
  have hF00 : F0 W0 (xOf w1.heap.size) (evOf w1.heap.size) L t 0 (.slice none 0 0) := hst.1.keep (But.ofBelow hb90) (fun b _ hlt => hb90.block b hlt)
  have hbw : Below w1.heap.size w1 W0 := vb_t hst.2.1 hb90
  have hof0 : OwnI W0 (w1.heap.size + 8) (.slice (some ⟨W9.heap.size, 0, none⟩) 1 1) [0] := by
    refine ⟨?_, fun x hx => by simp at hx; subst hx; exact ⟨by omega, by omega⟩⟩
    have := World.ownsRow_lit (base := w1.heap.size + 8) (e := 3) (size := 1) W9 #[.int .i64 0] 1 (by rw [hst.2.2]; omega) (by unfold maxLen; omega) rfl
    rw [hW0] at this
    exact this
  have hSW : SI W0 (xOf w1.heap.size) L (.slice a1 L.length c1) := hS1.carry fun b _ h => ⟨hbw.block b h, by unfold xOf; omega⟩
  have hTW : II W0 (xOf w1.heap.size) t (.slice va t.length vc) := hI1.carry fun b _ h => ⟨hbw.block b h, by unfold xOf; omega⟩
  have hpl := places_any t (by have := HLN.out; omega) (.slice va t.length vc) W0 _ hTW
  have HF0 := hid_intro hF00
  have HOF0 := hid_intro hof0
  have HSW := hid_intro hSW
  have HTW := hid_intro hTW
  have HB0 := hid_intro (And.intro hb1 (vb_t hb1 hbw))
  have HV := hid_intro (And.intro hv1 (And.intro hv3 hv4))
  have HW0 := hid_intro hW0
  clear hread ho hb1 hv1 hv2 hv3 hv4 hS1 hI1 hst hW9 hSW hTW hW0 hb90 hF00 hbw hof0
  go_wp2_with fail
  refine hfo.mono ?_; rintro e w2 ⟨rfl, hw2⟩
  rw [hw2]
  clear hfo hw2
  go_wp2_with fail
  rw [HW0.out]
  refine hpl.mono ?_; rintro e w3 ⟨rfl, hw3⟩
  rw [hw3]
  clear hpl hw3
  go_wp2_with fail
  go_loopg [9, 10, 28] (t.length + 1) (fun mm s9 s10 s28 wr => ∃ (p : Nat) (vf ve : Value), s28 = .int .i64 (p : Int) ∧ s9 = vf ∧ s10 = ve ∧ mm = t.length + 1 - p ∧ Hid (EndI w1.heap.size L t W0 p vf ve wr))
  case atStart => exact ⟨0, _, _, rfl, rfl, rfl, rfl, ⟨_, [0], [], Nat.zero_le _, HF0.out, HOF0.out, OwnI.nil _ _, (fun b _ h => by cases h), (fun b h => by cases h), (fun b h => by cases h), (fun _ y => by simp [FrE, FrN]), by simp, rfl, But.refl _ _⟩⟩
  case round =>
    obtain ⟨p, vf, ve, rfl, rfl, rfl, rfl, HI⟩ := hrel
    by_cases hlt : (p : Int) < (t.length : Int) + 1
    · obtain ⟨vh, Fl, E, hpn, hF0, hof, hoe, hdj, hde, hdf, hfr, hfl, hen, hbt⟩ := HI.out
      obtain ⟨fo, fc, hvf, _⟩ := hof.form
      subst hvf
      obtain ⟨eo, ec, hve, _⟩ := hoe.form
      subst hve
      have H1 := hid_intro (at_step_e HL.out.1 HL.out.2 (by have := HLN.out; omega) hF0 hof hoe hdj hde hdf (hfr (by omega)) hfl hbt)
      have HEN := hid_intro hen
      have HEL := hid_intro (show E.length ≤ 1099511627776 by have := hen.len; have := HLN.out; omega)
      have HLT := hid_intro hlt
      have HPI := hid_intro (show I64 (p : Int) from ⟨by omega, by omega⟩)
      clear hF0 hof hoe hdj hde hdf hfr hfl hen hbt hpn
      go_wp2_with (refine wpList_clo rfl _ _ _ _ rfl _ _ rfl ent_at _ _ rfl rfl (AtE w1.heap.size L t p W0 (.slice eo E.length ec) E) ?_ ?_ ?_; exact H1.out; rotate_left; (intro e w' h; obtain ⟨vh', H, e1, _⟩ := h; exact ⟨_, e1⟩); intro v2 w3 hs2; obtain ⟨vh', H, hv2, hF3, oh3, hnd, hin3, hrs, hb3, hoe3, hde3⟩ := hs2; injection hv2 with hv2; subst hv2; obtain ⟨ho3, hc3, hvh, _⟩ := oh3.form; subst hvh; have HF3 := hid_intro hF3; have HO3 := hid_intro oh3; have HR3 := hid_intro (And.intro hnd (And.intro hin3 hrs)); have HB3 := hid_intro hb3; have HOE3 := hid_intro hoe3; have HDE3 := hid_intro hde3; have hHl : (H.length : Int) ≤ 1048576 := by { have := pig _ _ hnd hin3; have := HL.out.2; omega }; clear hF3 oh3 hnd hin3 hrs hb3 hoe3 hde3)
      have hdone := done_any L H (by omega) HR3.out.2.1 (.slice a1 L.length c1) (.slice ho3 H.length hc3) w3 _ (fun _ => False) (HSW.out.but HB3.out) (HO3.out.ii _ (fun _ _ h => h))
      refine hdone.mono ?_; rintro e w4 ⟨rfl, hb4⟩
      have HB4 := hid_intro hb4
      clear hdone H1
      cases hd : dnB L H
      · have HM := hid_intro (mid_no HF3.out HO3.out HOE3.out HDE3.out HEN.out HB3.out hb4 (fun h => by have := (dn_iff HR3.out.2.2).2 h; rw [hd] at this; cases this))
        clear hd hb4
        by_cases hpt : p < t.length
        · obtain ⟨gt, hgt⟩ := HV.out.2.1 (by omega)
          subst hgt
          have j1 : (p : Int) ≤ (t.length : Int) := by omega
          have j2 : (t.length : Int) ≤ (vc : Int) := by have := HV.out.1; omega
          have j4 : ¬ vc = p := by have := HV.out.1; omega
          have HPT := hid_intro hpt
          clear hpt
          go_wp2_with (fail)
          have hM := HM.out
          obtain ⟨E5, hF5, ho5', hoe5, hde5, hen5, hb5'⟩ := id hM
          have hII := (HTW.out.but hb5').drop HPT.out
          rw [Nat.zero_add] at hII
          have hnx := pnext_any L HRS.out H (by omega) HR3.out.2.1 (t.drop p) (by rw [List.length_drop]; have := HPT.out; omega) (.slice a1 L.length c1) (.slice ho3 H.length hc3) (.slice (some ⟨gt, p, none⟩) (t.length - p) (vc - p)) w4 (xOf w1.heap.size) (fun _ => False) (xOf w1.heap.size) (HSW.out.but hb5') (ho5'.ii _ (fun _ _ h => h)) hII
          rw [ia_drop] at hnx
          clear hII hF5 ho5' hoe5 hde5 hen5 hb5' j1 j2 j4
          refine hnx.mono ?_; rintro e w6 ⟨v6, rfl, ho6, hb6⟩
          have HN := hid_intro (end_next HPT.out hM (by omega) HR3.out.2.2 ho6 hb6)
          clear hnx ho6 hb6 hM
          go_wp2_with fail
          go_roundg (t.length + 1 - (p + 1))
          case measure => have := HPT.out; omega
          case rel => exact ⟨p + 1, _, _, by simp, rfl, rfl, rfl, HN⟩
        · obtain rfl : p = t.length := by have := HLT.out; omega
          have HNIL := hid_intro (fun ao c w => pnext_nil (.slice a1 L.length c1) (.slice ho3 H.length hc3) ao c w)
          have j2 : (t.length : Int) ≤ (vc : Int) := by have := HV.out.1; omega
          clear hpt
          cases va with
          | none =>
            go_wp2_with (fail)
            refine (HNIL.out _ _ _).mono ?_; rintro e w6 ⟨rfl, hw6⟩
            rw [hw6]
            clear hw6
            have HN := hid_intro (end_last HM.out)
            go_wp2_with fail
            go_roundg (t.length + 1 - (t.length + 1))
            case measure => omega
            case rel => exact ⟨t.length + 1, _, _, by simp, rfl, rfl, rfl, HN⟩
          | some ad =>
            obtain ⟨gg, oo, uu⟩ := ad
            obtain ⟨rfl, rfl⟩ := HV.out.2.2 gg oo uu rfl
            by_cases j4 : vc = t.length
            · subst j4
              go_wp2_with (fail)
              refine (HNIL.out _ _ _).mono ?_; rintro e w6 ⟨rfl, hw6⟩
              rw [hw6]
              clear hw6
              have HN := hid_intro (end_last HM.out)
              go_wp2_with fail
              go_roundg (t.length + 1 - (t.length + 1))
              case measure => omega
              case rel => exact ⟨t.length + 1, _, _, by simp, rfl, rfl, rfl, HN⟩
            · go_wp2_with (fail)
              refine (HNIL.out _ _ _).mono ?_; rintro e w6 ⟨rfl, hw6⟩
              rw [hw6]
              clear hw6
              have HN := hid_intro (end_last HM.out)
              go_wp2_with fail
              go_roundg (t.length + 1 - (t.length + 1))
              case measure => omega
              case rel => exact ⟨t.length + 1, _, _, by simp, rfl, rfl, rfl, HN⟩
      · have HMY := hid_intro (fun w5 g cap => mid_yes (w5 := w5) (g := g) (cap := cap) HF3.out HO3.out HOE3.out HDE3.out HEN.out HB3.out hb4 ((dn_iff HR3.out.2.2).1 hd))
        have HO4 := hid_intro (HOE3.out.bel hb4)
        have HSZ := hid_intro (show w1.heap.size + 8 ≤ w4.heap.size from Nat.le_trans HF3.out.fx.sz hb4.size)
        clear hd hb4
        by_cases hpt : p < t.length
        · obtain ⟨gt, hgt⟩ := HV.out.2.1 (by omega)
          subst hgt
          have j1 : (p : Int) ≤ (t.length : Int) := by omega
          have j2 : (t.length : Int) ≤ (vc : Int) := by have := HV.out.1; omega
          have j4 : ¬ vc = p := by have := HV.out.1; omega
          have HPT := hid_intro hpt
          clear hpt
          go_wp2_with (at_builtin; refine wpList_append_i rfl _ _ rfl (w1.heap.size + 8) (.slice eo E.length ec) E rfl HO4.out HSZ.out HEL.out (p : Int) HPI.out _ rfl rfl ?_; intro g cap w5 ho5 hg5 hloc; have HM := hid_intro (HMY.out w5 g cap ho5 hg5 hloc); clear ho5 hg5 hloc)
          have hM := HM.out
          obtain ⟨E5, hF5, ho5', hoe5, hde5, hen5, hb5'⟩ := id hM
          have hII := (HTW.out.but hb5').drop HPT.out
          rw [Nat.zero_add] at hII
          have hnx := pnext_any L HRS.out H (by omega) HR3.out.2.1 (t.drop p) (by rw [List.length_drop]; have := HPT.out; omega) (.slice a1 L.length c1) (.slice ho3 H.length hc3) (.slice (some ⟨gt, p, none⟩) (t.length - p) (vc - p)) w5 (xOf w1.heap.size) (fun _ => False) (xOf w1.heap.size) (HSW.out.but hb5') (ho5'.ii _ (fun _ _ h => h)) hII
          rw [ia_drop] at hnx
          clear hII hF5 ho5' hoe5 hde5 hen5 hb5' j1 j2 j4
          refine hnx.mono ?_; rintro e w6 ⟨v6, rfl, ho6, hb6⟩
          have HN := hid_intro (end_next HPT.out hM (by omega) HR3.out.2.2 ho6 hb6)
          clear hnx ho6 hb6 hM
          go_wp2_with fail
          go_roundg (t.length + 1 - (p + 1))
          case measure => have := HPT.out; omega
          case rel => exact ⟨p + 1, _, _, by simp, rfl, rfl, rfl, HN⟩
        · obtain rfl : p = t.length := by have := HLT.out; omega
          have HNIL := hid_intro (fun ao c w => pnext_nil (.slice a1 L.length c1) (.slice ho3 H.length hc3) ao c w)
          have j2 : (t.length : Int) ≤ (vc : Int) := by have := HV.out.1; omega
          clear hpt
          cases va with
          | none =>
            go_wp2_with (at_builtin; refine wpList_append_i rfl _ _ rfl (w1.heap.size + 8) (.slice eo E.length ec) E rfl HO4.out HSZ.out HEL.out (t.length : Int) HPI.out _ rfl rfl ?_; intro g cap w5 ho5 hg5 hloc; have HM := hid_intro (HMY.out w5 g cap ho5 hg5 hloc); clear ho5 hg5 hloc)
            refine (HNIL.out _ _ _).mono ?_; rintro e w6 ⟨rfl, hw6⟩
            rw [hw6]
            clear hw6
            have HN := hid_intro (end_last HM.out)
            go_wp2_with fail
            go_roundg (t.length + 1 - (t.length + 1))
            case measure => omega
            case rel => exact ⟨t.length + 1, _, _, by simp, rfl, rfl, rfl, HN⟩
          | some ad =>
            obtain ⟨gg, oo, uu⟩ := ad
            obtain ⟨rfl, rfl⟩ := HV.out.2.2 gg oo uu rfl
            by_cases j4 : vc = t.length
            · subst j4
              go_wp2_with (at_builtin; refine wpList_append_i rfl _ _ rfl (w1.heap.size + 8) (.slice eo E.length ec) E rfl HO4.out HSZ.out HEL.out (t.length : Int) HPI.out _ rfl rfl ?_; intro g cap w5 ho5 hg5 hloc; have HM := hid_intro (HMY.out w5 g cap ho5 hg5 hloc); clear ho5 hg5 hloc)
              refine (HNIL.out _ _ _).mono ?_; rintro e w6 ⟨rfl, hw6⟩
              rw [hw6]
              clear hw6
              have HN := hid_intro (end_last HM.out)
              go_wp2_with fail
              go_roundg (t.length + 1 - (t.length + 1))
              case measure => omega
              case rel => exact ⟨t.length + 1, _, _, by simp, rfl, rfl, rfl, HN⟩
            · go_wp2_with (at_builtin; refine wpList_append_i rfl _ _ rfl (w1.heap.size + 8) (.slice eo E.length ec) E rfl HO4.out HSZ.out HEL.out (t.length : Int) HPI.out _ rfl rfl ?_; intro g cap w5 ho5 hg5 hloc; have HM := hid_intro (HMY.out w5 g cap ho5 hg5 hloc); clear ho5 hg5 hloc)
              refine (HNIL.out _ _ _).mono ?_; rintro e w6 ⟨rfl, hw6⟩
              rw [hw6]
              clear hw6
              have HN := hid_intro (end_last HM.out)
              go_wp2_with fail
              go_roundg (t.length + 1 - (t.length + 1))
              case measure => omega
              case rel => exact ⟨t.length + 1, _, _, by simp, rfl, rfl, rfl, HN⟩
    · have hpe : p = t.length + 1 := by obtain ⟨vh, Fl, E, hpn, _⟩ := HI.out; omega
      obtain ⟨vh, Fl, E, hpn, hF0, hof, hoe, hdj, hde, hdf, hfr, hfl, hen, hbt⟩ := HI.out
      obtain ⟨eo, ec, hve, _⟩ := hoe.form
      subst hve
      have HE := hid_intro (And.intro hoe (And.intro hen hbt))
      clear hF0 hof hoe hdj hde hdf hfr hfl hen hbt hpn HI
      go_wp2_with fail
      rw [HP.out]
      refine ⟨_, E, rfl, HE.out.1.mono (by have := HB0.out.1.size; omega), hpe ▸ HE.out.2.1, ?_⟩
      exact But.ahead HB0.out.2 HE.out.2.2 (fun k hk => by have := HB0.out.1.size; unfold xOf at hk; omega)
end Go.Proofs.YtoinlmfodmgohaaGreatDoor

namespace Go.Proofs.YtoinlmfodmgohaaGreatDoor
open Go.RowKit

/-- A slice of ints as a value. -/
def IRow (w : World) (v : Value) (xs : List Int) : Prop :=
  (xs = [] ∧ ∃ a cap, v = .slice a 0 cap) ∨ ∃ b off cap, v = .slice (some ⟨b, off, none⟩) xs.length cap ∧ xs.length ≤ maxLen ∧ ∀ i, i < xs.length → w.cell? ⟨b, off + i, none⟩ = some (.int .i64 (xs.getD i 0))

theorem IRow.of_own {w : World} {B : Nat} {v : Value} {xs : List Int} (h : w.ownsRow B 3 1 v xs.length (xs.map (Value.int .i64))) : IRow w v xs := by
  rcases h.2 with ⟨rfl, h0⟩ | ⟨g, cap, cur, rfl, hb, hg, hc, hm, hs, ht⟩
  · exact .inl ⟨List.eq_nil_of_length_eq_zero h0, none, 0, rfl⟩
  · refine .inr ⟨g, 0, cap, rfl, by omega, fun i hi => ?_⟩
    rw [Nat.zero_add, h.cellAt i (by omega)]
    simp [hi]

theorem IRow.len {w : World} {v : Value} {xs : List Int} (h : IRow w v xs) : ∃ a cap, v = .slice a xs.length cap ∧ xs.length ≤ maxLen := by
  rcases h with ⟨rfl, a, cap, rfl⟩ | ⟨b, off, cap, rfl, hm, _⟩
  · exact ⟨a, cap, rfl, by simp [maxLen]⟩
  · exact ⟨_, cap, rfl, hm⟩

set_option maxHeartbeats 400000 in
theorem ints_any (va vb : Value) (xs ys : List Int) (w : World) (ha : IRow w va xs) (hb : IRow w vb ys) :
    Calls Tryz.prog 17 #[va, vb] w fun e w' => e = .returned (.bool (decide (xs = ys))) ∧ ∃ n, w' = w.drewN n := by
  by_cases hlen : xs.length = ys.length
  · by_cases h0 : xs.length = 0
    · obtain ⟨a, cap, rfl, _⟩ := ha.len
      obtain ⟨a', cap', rfl, _⟩ := hb.len
      have e : xs = [] := List.eq_nil_of_length_eq_zero h0
      have e' : ys = [] := List.eq_nil_of_length_eq_zero (by omega)
      subst e e'
      clear ha hb hlen h0
      go_enter Tryz.func17, Tryz.ntmps17
      go_wp2
      refine wp_loop_rounds 1 ?_
      rw [rounds_succ]
      go_wp2
      go_ret
      exact ⟨rfl, 0, rfl⟩
    · rcases ha with ⟨rfl, _⟩ | ⟨b, off, cap, rfl, hm, hc⟩
      · exact absurd rfl h0
      rcases hb with ⟨rfl, _⟩ | ⟨b', off', cap', rfl, hm', hc'⟩
      · exact absurd hlen h0
      unfold maxLen at hm hm'
      obtain ⟨n, hl⟩ : ∃ n, n = xs.length := ⟨_, rfl⟩
      have hl' : n = ys.length := by omega
      rw [← hl] at hc hm ⊢
      rw [← hl'] at hc' hm' ⊢
      have HL : Hid (n = xs.length) := hl
      have HL' : Hid (n = ys.length) := hl'
      have hcx := hc
      have hcy := hc'
      clear hc hc' hl hl' h0 hlen
      go_enter Tryz.func17, Tryz.ntmps17
      go_wp2
      go_loopw [5] (fun i wr => ∃ k : Nat, k ≤ n ∧ i = .int .i64 k ∧ Hid (∀ j, j < k → xs.getD j 0 = ys.getD j 0) ∧ ∃ q, wr = w.drewN q) (fun i _ => n - (intOf i).toNat)
      case atStart => exact ⟨0, Nat.zero_le _, rfl, fun j hj => absurd hj (by omega), 0, rfl⟩
      case round =>
        obtain ⟨k, hk, rfl, HE, q, rfl⟩ := hrel
        by_cases hlt : k < n
        · have c1 := hcx k hlt
          have c2 := hcy k hlt
          by_cases he : xs.getD k 0 = ys.getD k 0
          · have HE2 : Hid (∀ j, j < k + 1 → xs.getD j 0 = ys.getD j 0) := fun j hj => by
              by_cases e : j = k
              · rw [e]; exact he
              · exact HE.out j (by omega)
            rw [← he] at c2
            generalize xs.getD k 0 = x at *
            clear he HE hcx hcy
            have hI : (k : Int) < (n : Int) := by omega
            go_wp2_with fail
            go_quiet (fail)
            go_wp2
            go_roundw
            case rel => exact ⟨k + 1, by omega, by go_num, HE2, _, rfl⟩
            case measure => simp [intOf]; omega
          · have HF : Hid (decide (xs = ys) = false) := by
              show decide (xs = ys) = false
              exact decide_eq_false (fun e => he (by rw [e]))
            have hne : (xs.getD k 0 == ys.getD k 0) = false := by simpa using he
            generalize xs.getD k 0 = x at *
            generalize ys.getD k 0 = y at *
            clear he HE hcx hcy
            have hI : (k : Int) < (n : Int) := by omega
            go_wp2_with fail
            go_quiet (fail)
            go_wp2
            go_ret
            exact ⟨ret_bool HF.out.symm, _, by rw [World.drewN_drewN]⟩
        · have e : k = n := by omega
          subst e
          have HF : Hid (decide (xs = ys) = true) := by
            show decide (xs = ys) = true
            refine decide_eq_true (List.ext_getElem (by rw [← HL.out, ← HL'.out]) fun i h1 h2 => ?_)
            have := HE.out i (by rw [← HL.out] at h1; exact h1)
            rw [List.getD_eq_getElem?_getD, List.getD_eq_getElem?_getD, List.getElem?_eq_getElem h1, List.getElem?_eq_getElem h2] at this
            exact this
          clear HE hcx hcy
          go_wp2
          go_ret
          exact ⟨ret_bool HF.out.symm, _, rfl⟩
  · obtain ⟨a, cap, rfl, m1⟩ := ha.len
    obtain ⟨a', cap', rfl, m2⟩ := hb.len
    have HF : Hid (decide (xs = ys) = false) := by
      show decide (xs = ys) = false
      exact decide_eq_false (fun e => hlen (by rw [e]))
    have hne : ((xs.length : Int) == (ys.length : Int)) = false := by simp; omega
    clear ha hb
    go_enter Tryz.func17, Tryz.ntmps17
    go_wp2
    go_ret
    exact ⟨ret_bool HF.out.symm, 0, rfl⟩


end Go.Proofs.YtoinlmfodmgohaaGreatDoor

namespace Go.Proofs.YtoinlmfodmgohaaGreatDoor
open Go.RowKit Go.Maps
attribute [local go_sem] setCell_drewN alloc_drewN

/-- The loop, reckoned out. -/
def run (L : List ST) (g : Int → Bool) : Nat → List Int → List Int → List Int × List Int
  | 0, H, W => (H, W)
  | k + 1, H, W => match W.reverse with
    | [] => (H, [])
    | s :: r => run L g k (fol L g 6 s (H, r.reverse)).1 (fol L g 6 s (H, r.reverse)).2
theorem run_lp {L : List ST} {g : Int → Bool} {F : Int → Prop} (hL : VS L) (hg : GG g) : ∀ (k : Nat) (H W : List Int), Lp L g F H W → Lp L g F (run L g k H W).1 (run L g k H W).2
  | 0, H, W, h => h
  | k + 1, H, W, h => by
    unfold run
    split
    · rename_i hr
      have : W = [] := by simpa using hr
      subst this
      exact h
    · rename_i s r hr
      have e : W = r.reverse ++ [s] := by
        have := congrArg List.reverse hr
        simpa using this
      subst e
      exact run_lp hL hg k _ _ (h.step hL hg 5).1
def exR (L : List ST) (t : List Int) (each : Bool) : Nat → List Int × List Int
  | 0 => run L (letsB t 0) 30 [] [0]
  | P + 1 => run L (letsB t (P + 1)) 30 [] (nxt L (ia t P) (exR L t each P).1 ++ (if each = true then [0] else []))
def exB (L : List ST) (t : List Int) (each : Bool) : Nat → Bool
  | 0 => (exR L t each 0).2.isEmpty
  | P + 1 => exB L t each P && (exR L t each (P + 1)).2.isEmpty
theorem ex_rs {L : List ST} (hL : VS L) (t : List Int) (each : Bool) : ∀ P, exB L t each P = true → (exR L t each P).1.Nodup ∧ ∀ x, x ∈ (exR L t each P).1 ↔ Rs L t each P x
  | 0, h => by
    have hl : Lp L (letsB t 0) (fun x => x ∈ [0]) [] [0] := Lp.start (fun x hx => by simp at hx; subst hx; exact ⟨by omega, by have := hL.1; omega⟩)
    have h1 := run_lp hL (letsB_gg t 0) 30 [] [0] hl
    have e : (run L (letsB t 0) 30 [] [0]).2 = [] := by simpa [exB, exR] using h
    rw [e] at h1
    refine ⟨h1.grd.nd, fun x => (h1.done x).trans ?_⟩
    exact Rch.congr (fun y => by simp) x
  | P + 1, h => by
    simp only [exB, Bool.and_eq_true] at h
    have ih := ex_rs hL t each P h.1
    have hin : ∀ x ∈ nxt L (ia t P) (exR L t each P).1 ++ (if each = true then [0] else []), InL L x := fun x hx => by
      rcases List.mem_append.1 hx with hx | hx
      · exact FrN_inl hL t each (P + 1) x ((nxt_iff ih.2 x).1 hx)
      · by_cases he : each = true
        · rw [if_pos he] at hx; simp at hx; subst hx; exact ⟨by omega, by have := hL.1; omega⟩
        · rw [if_neg he] at hx; simp at hx
    have h1 := run_lp hL (letsB_gg t (P + 1)) 30 [] _ (Lp.start hin)
    have e : (exR L t each (P + 1)).2 = [] := by simpa using h.2
    have e' : (run L (letsB t (P + 1)) 30 [] (nxt L (ia t P) (exR L t each P).1 ++ (if each = true then [0] else []))).2 = [] := e
    rw [e'] at h1
    refine ⟨h1.grd.nd, fun x => (h1.done x).trans ?_⟩
    refine Rch.congr (fun y => ?_) x
    rw [List.mem_append, nxt_iff ih.2 y]
    by_cases he : each = true
    · rw [if_pos he]
      simp only [List.mem_cons, List.not_mem_nil, or_false, FrN]
      constructor
      · rintro (h | h)
        · exact Or.inr h
        · exact Or.inl ⟨he, h⟩
      · rintro (h | h)
        · exact Or.inr h.2
        · exact Or.inl h
    · rw [if_neg he]
      simp only [List.not_mem_nil, or_false, FrN]
      constructor
      · exact fun h => Or.inr h
      · rintro (h | h)
        · exact absurd h.1 he
        · exact h
theorem exB_le {L : List ST} {t : List Int} {each : Bool} : ∀ {P Q : Nat}, exB L t each P = true → Q ≤ P → exB L t each Q = true
  | 0, Q, h, hQ => by obtain rfl : Q = 0 := by omega
                      exact h
  | P + 1, Q, h, hQ => by
    by_cases e : Q = P + 1
    · subst e; exact h
    · simp only [exB, Bool.and_eq_true] at h
      exact exB_le h.1 (by omega)
def exS (L : List ST) (t : List Int) (each : Bool) : Nat → Nat
  | 0 => 0
  | P + 1 => exS L t each P + (exR L t each P).1.length
theorem ex_stp {L : List ST} (hL : VS L) (t : List Int) (each : Bool) {Q : Nat} (h : exB L t each Q = true) : ∀ P, P ≤ Q + 1 → Stp L t each P (exS L t each P)
  | 0, _ => rfl
  | P + 1, hP => ⟨_, _, ex_stp hL t each h P (by omega), ⟨_, (ex_rs hL t each P (exB_le h (by omega))).1, (ex_rs hL t each P (exB_le h (by omega))).2, rfl⟩, rfl⟩
theorem ex_dn {L : List ST} (hL : VS L) (t : List Int) (each : Bool) {P : Nat} (h : exB L t each P = true) : dnB L (exR L t each P).1 = true ↔ Dn L t each P := dn_iff (ex_rs hL t each P h).2
def exE (L : List ST) (t : List Int) : Nat → List Int
  | 0 => []
  | P + 1 => if dnB L (exR L t false P).1 = true then exE L t P ++ [(P : Int)] else exE L t P
theorem ex_en {L : List ST} (hL : VS L) (t : List Int) {Q : Nat} (h : exB L t false Q = true) : ∀ P, P ≤ Q + 1 → EnP L t P (exE L t P)
  | 0, _ => rfl
  | P + 1, hP => by
    have ih := ex_en hL t h P (by omega)
    have hd := ex_dn hL t false (exB_le (Q := P) h (by omega))
    unfold exE
    by_cases e : dnB L (exR L t false P).1 = true
    · rw [if_pos e]; exact ⟨_, ih, Or.inl ⟨hd.1 e, rfl⟩⟩
    · rw [if_neg e]; exact ⟨_, ih, Or.inr ⟨fun h => e (hd.2 h), rfl⟩⟩
set_option maxRecDepth 100000 in
set_option maxHeartbeats 1600000 in
theorem search_no (L : List ST) (hr : ∀ s ∈ L, s.r.length ≤ 1099511627776) (s : ByteArray) (hs : s.size ≤ 1099511627776) (lv : Value) (w : World) (hT : Tab w) (X : Nat → Prop) (hS : SI w X L lv) (h : readE L s ≠ 0) :
    Calls Tryz.prog 12 #[lv, .string s] w fun e w' => e = .returned (.tuple #[.bool false, .int .i64 0, .int .i64 (readE L s)]) ∧ Below w.heap.size w w' := by
  have hrd := read_no L hr s hs lv w hT X hS h
  obtain ⟨a1, c1, rfl, _⟩ := hS
  obtain ⟨q, hq⟩ : ∃ q, readE L s = q := ⟨_, rfl⟩
  rw [hq] at hrd h ⊢
  obtain ⟨P, hP⟩ : ∃ P : Ending → World → Prop, P = fun e w' => e = .returned (.tuple #[.bool false, .int .i64 0, .int .i64 q]) ∧ Below w.heap.size w w' := ⟨_, rfl⟩
  rw [← hP]
  have HP := hid_intro hP
  clear hP hT hr hs hq
  go_enter Tryz.func12, Tryz.ntmps12
  go_wp2_with fail
  refine hrd.mono ?_; rintro e w1 ⟨rfl, hb1⟩
  have HB := hid_intro hb1
  clear hrd hb1
  go_wp2_with fail
  refine bodyPost_ret (v := .tuple #[.bool false, .int .i64 0, .int .i64 q]) (by simp [results, Tryz.results12, go_sem]) rfl ?_
  rw [HP.out]
  exact ⟨rfl, HB.out⟩
end Go.Proofs.YtoinlmfodmgohaaGreatDoor
