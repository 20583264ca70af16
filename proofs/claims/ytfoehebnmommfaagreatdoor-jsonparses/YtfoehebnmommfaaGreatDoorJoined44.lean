/-
  ref5.Read: the document's reader whole, of any bytes and limits. Conditions: none.
  ref5.Read says what json.Read says. Conditions: none.
-/
import Derived.Test.YtfoehebnmommfaaGreatDoorJoined39
import Derived.Test.YtfoehebnmommfaaGreatDoorJoined41
import Derived.Test.YtfoehebnmommfaaGreatDoorJoined43
namespace Go.Proofs.YtfoehebnmommfaaGreatDoor.R5
open Go.RowKit Go.Maps
attribute [local go_sem] setCell_drewN alloc_drewN

theorem num_cut {l : List UInt8} {i : Nat} {t : Lx.Tok} (hi : i ≤ l.length) (h : Lx.nextL l i = .ok t) (hk : t.kind = 2) : ∃ q, cutL t.text = some q := by
 rcases next_to hi h with ⟨a, _⟩ | ⟨hp, _, _, hto⟩
 ·omega
 ·obtain ⟨_, _, hn, he⟩ := Lx.read_num hp h hk
  obtain ⟨M, V, F, E, hN⟩ := num_np hn hto
  have hx : t.text = Lx.sub l (Lx.pass l Lx.blankB i) t.to := by rw [he]
  rw [← hx] at hN
  obtain ⟨p, c1, _⟩ := hN.cut
  exact ⟨p, c1⟩
theorem err_pos {l : List UInt8} {i n : Nat} (hi : i ≤ l.length) (h : Lx.nextL l i = .error n) : 0 < l.length := by
 rcases Nat.eq_zero_or_pos l.length with h0 | h0
 ·exfalso
  have hp : Lx.pass l Lx.blankB i = l.length := by have := Lx.pass_le (l := l) (p := Lx.blankB) hi; omega
  unfold Lx.nextL Lx.readL at h
  rw [if_pos hp] at h
  cases h
 ·exact h0
theorem rd_new (w : World) (b1 b2 b3 b4 b5 : Int) (T : TypeId) : Rd (w.alloc (.cells #[.int .i64 b1, .int .i64 b2, .int .i64 b3, .int .i64 b4, .int .i64 b5, .slice none 0 0, .int .i64 0, .int .i64 0, .bool false, .string ⟨#[]⟩, .int .i64 0, .string ⟨#[]⟩, .slice none 0 0, .slice none 0 0, .int .i64 0, .int .i64 0] T)) w.heap.size (RF (lmOf b1 b2 b3 b4 b5) (.slice none 0 0) 0 (fS 0 false ⟨#[]⟩ 0 ⟨#[]⟩) 0 0) := fun j hj => by
 have hT := Bj.new w #[.int .i64 b1, .int .i64 b2, .int .i64 b3, .int .i64 b4, .int .i64 b5, .slice none 0 0, .int .i64 0, .int .i64 0, .bool false, .string ⟨#[]⟩, .int .i64 0, .string ⟨#[]⟩, .slice none 0 0, .slice none 0 0, .int .i64 0, .int .i64 0] T
 refine ⟨?_, hT.frz j⟩
 rw [hT.cell j]
 have : j = 0 ∨ j = 1 ∨ j = 2 ∨ j = 3 ∨ j = 4 ∨ j = 5 ∨ j = 6 ∨ j = 7 ∨ j = 8 ∨ j = 9 ∨ j = 10 ∨ j = 11 ∨ j = 12 ∨ j = 13 ∨ j = 14 ∨ j = 15 := by omega
 rcases this with rfl | rfl | rfl | rfl | rfl | rfl | rfl | rfl | rfl | rfl | rfl | rfl | rfl | rfl | rfl | rfl <;> rfl
theorem jr_new (w : World) (b1 b2 b3 b4 b5 : Int) (T : TypeId) : @JR ⟨fun b => b < w.heap.size⟩ w (lmOf b1 b2 b3 b4 b5) w.heap.size 0 ⟨[], 0, zeroJ 0, 0, 0⟩ (.slice none 0 0) [] (fS 0 false ⟨#[]⟩ 0 ⟨#[]⟩) (w.alloc (.cells #[.int .i64 b1, .int .i64 b2, .int .i64 b3, .int .i64 b4, .int .i64 b5, .slice none 0 0, .int .i64 0, .int .i64 0, .bool false, .string ⟨#[]⟩, .int .i64 0, .string ⟨#[]⟩, .slice none 0 0, .slice none 0 0, .int .i64 0, .int .i64 0] T)) :=
 @JR.mk ⟨fun b => b < w.heap.size⟩ _ _ _ _ _ _ _ _ _ (rd_new w b1 b2 b3 b4 b5 T) (@ST.nil ⟨fun b => b < w.heap.size⟩ _ _ (fun b hb => Nat.lt_of_lt_of_le (m := w.heap.size) hb (by simp))) rfl (vi_fS _ _ 0 false ⟨#[]⟩ 0 ⟨#[]⟩ (wf_of (by omega) (by omega)) (wf_of (by omega) (by omega)) (by decide) (by decide)) (vb_a (Below.refl _ _) _) (Nat.le_refl _) (Nat.le_refl _) (fun h hh => by simp at hh) (Nat.le_refl _)
theorem tok_pos {rl : List UInt8 → Nat} {rd : List UInt8 → JV} {t : Lx.Tok} {p : PR} {e : Nat} (h : tokenR rl rd t p = .error e) (ht : 0 < t.to) : 0 < e := by
 unfold tokenR keyedR at h
 repeat' split at h
 all_goals first | (injection h with h; omega) | cases h
theorem butN {X : Nat → Prop} {a w : World} (h : But X a w) (n : Nat) : But X a (w.drewN n) := ⟨h.os, h.tape, h.output, h.size, h.block⟩
theorem stB_iff {l : List UInt8} {p : PR} {i : Nat} : stB l p.nx i = true ↔ standsR l p i := by
 unfold stB standsR
 simp
structure RI [Ex] (W : World) (l : List UInt8) (lm : Nat → Int) (rb : Nat) (Z : Except Nat PR) (i : Nat) (p : PR) (ov : Value) (hs : List HC) (f : Nat → Value) (wr : World) : Prop where
 jr : JR W lm rb i p ov hs f wr
 eq : RR l (rlR (LMof lm)) rdR p i = Z
 le : i ≤ l.length
 op : OpI p
set_option maxRecDepth 100000 in
set_option maxHeartbeats 3200000 in
theorem rread_long (l : List UInt8) (v : Value) (a1 a2 a3 a4 a5 : Int) (w : World) (hB : Lx.Byt w v l) (hl : 1048576 < l.length) (rl : List UInt8 → Nat) (rd : List UInt8 → JV) :
  Calls Tryz.prog 10 #[v, limV a1 a2 a3 a4 a5] w (JdR (judgedR l (bm a1 a2 a3) rl rd) w) := by
 obtain ⟨P, hP⟩ : ∃ P, P = JdR (judgedR l (bm a1 a2 a3) rl rd) w := ⟨_, rfl⟩
 rw [← hP]
 have HP := hid_intro hP
 have HZ : Hid (judgedR l (bm a1 a2 a3) rl rd = .error (4, 1)) := hid_intro (by unfold judgedR; rw [if_pos hl])
 obtain ⟨W0, hW0⟩ : ∃ W0, ((w.alloc (.cells #[.int .i64 a1, .int .i64 a2, .int .i64 a3, .int .i64 a4, .int .i64 a5] 24)).alloc (.cells #[.int .i64 0, .bool false, .string ⟨#[]⟩, .int .i64 0, .string ⟨#[]⟩, .slice none 0 0, .slice none 0 0] 31)).alloc (.cells #[.int .i64 0, .int .i64 0] 34) = W0 := ⟨_, rfl⟩
 have HWb : Hid (Below w.heap.size w W0) := hid_intro (hW0 ▸ vb_a (vb_a (vb_a (Below.refl _ _) _) _) _)
 have kX : Bj W0 (w.heap.size + 1) #[.int .i64 0, .bool false, .string ⟨#[]⟩, .int .i64 0, .string ⟨#[]⟩, .slice none 0 0, .slice none 0 0] := hW0 ▸ (Bj.new' _ _ _ _ (by simp)).al _
 have kE : Bj W0 (w.heap.size + 2) #[.int .i64 0, .int .i64 0] := hW0 ▸ Bj.new' _ _ _ _ (by simp)
 obtain ⟨c0, c1, c2, c3, c4, c5, c6⟩ := kX.c7
 obtain ⟨z0, z1, z2, z3, z4, z5, z6⟩ := kX.z7
 obtain ⟨d0, d1⟩ := kE.c2
 obtain ⟨u0, u1⟩ := kE.z2
 have hne : w.heap.size + 1 ≠ w.heap.size + 2 := by omega
 have hne2 : w.heap.size + 2 ≠ w.heap.size + 1 := by omega
 obtain ⟨ao, cap, rfl⟩ := byt_shape hB
 have hlI : (1048576 : Int) < (l.length : Int) := by omega
 unfold limV
 clear hP hB hl kX kE
 go_enter Tryz.func10, Tryz.ntmps10
 go_wp2_with fail
 refine bodyPost_ret (v := .tuple #[.agg zV7, .agg #[.int .i64 4, .int .i64 1]]) (by simp [results, Tryz.results10, go_sem, zV7, c0, c1, c2, c3, c4, c5, c6, d0, d1]) rfl ?_
 rw [HP.out, HZ.out]
 have hb8 : But (fun b => b = w.heap.size + 1 ∨ b = w.heap.size + 1 + 1) W0 (((set7 W0 (w.heap.size + 1) (.int .i64 0) (.bool false) (.string ⟨#[]⟩) (.int .i64 0) (.string ⟨#[]⟩) (.slice none 0 0) (.slice none 0 0)).setCell ⟨w.heap.size + 1 + 1, 0, none⟩ (.int .i64 4)).setCell ⟨w.heap.size + 1 + 1, 1, none⟩ (.int .i64 1)) := ((set7_but (X := fun b => b = w.heap.size + 1 ∨ b = w.heap.size + 1 + 1) (But.refl _ W0) (Or.inl (Or.inl rfl)) _ _ _ _ _ _ _).set (p := ⟨w.heap.size + 1 + 1, 0, none⟩) (Or.inl (Or.inr rfl)) _).set (p := ⟨w.heap.size + 1 + 1, 1, none⟩) (Or.inl (Or.inr rfl)) _
 exact ⟨but_ahead HWb.out hb8 (fun k hk => by omega), rfl⟩
set_option maxRecDepth 100000 in
set_option maxHeartbeats 6400000 in
theorem rread_run (l : List UInt8) (v : Value) (a1 a2 a3 a4 a5 : Int) (w : World) (hB : Lx.Byt w v l) (hl : l.length ≤ 1048576) :
  Calls Tryz.prog 10 #[v, limV a1 a2 a3 a4 a5] w (JdR (judgedR l (bm a1 a2 a3) (rlR (bm a1 a2 a3)) rdR) w) := by
 obtain ⟨P, hP⟩ : ∃ P, P = JdR (judgedR l (bm a1 a2 a3) (rlR (bm a1 a2 a3)) rdR) w := ⟨_, rfl⟩
 rw [← hP]
 have HP := hid_intro hP
 obtain ⟨W0, hW0⟩ : ∃ W0, ((w.alloc (.cells #[.int .i64 a1, .int .i64 a2, .int .i64 a3, .int .i64 a4, .int .i64 a5] 24)).alloc (.cells #[.int .i64 0, .bool false, .string ⟨#[]⟩, .int .i64 0, .string ⟨#[]⟩, .slice none 0 0, .slice none 0 0] 31)).alloc (.cells #[.int .i64 0, .int .i64 0] 34) = W0 := ⟨_, rfl⟩
 have HWb : Hid (Below w.heap.size w W0) := hid_intro (hW0 ▸ vb_a (vb_a (vb_a (Below.refl _ _) _) _) _)
 have HZ0 : Hid (W0.heap.size = w.heap.size + 3) := hid_intro (by rw [← hW0]; simp)
 have kL : Bj W0 w.heap.size #[.int .i64 a1, .int .i64 a2, .int .i64 a3, .int .i64 a4, .int .i64 a5] := hW0 ▸ ((Bj.new _ _ _).al _).al _
 have HKX : Hid (Bj W0 (w.heap.size + 1) #[.int .i64 0, .bool false, .string ⟨#[]⟩, .int .i64 0, .string ⟨#[]⟩, .slice none 0 0, .slice none 0 0]) := hid_intro (hW0 ▸ (Bj.new' _ _ _ _ (by simp)).al _)
 have HKE : Hid (Bj W0 (w.heap.size + 2) #[.int .i64 0, .int .i64 0]) := hid_intro (hW0 ▸ Bj.new' _ _ _ _ (by simp))
 have l0 := kL.cell 0
 have l1 := kL.cell 1
 have l2 := kL.cell 2
 have l3 := kL.cell 3
 have l4 := kL.cell 4
 simp only [List.getElem?_toArray, List.getElem?_cons_zero, List.getElem?_cons_succ] at l0 l1 l2 l3 l4
 have HBO := hid_intro (rBound_any a1 a2 a3 a4 a5 W0)
 have HBY := hid_intro hB
 have HL := hid_intro hl
 have hne : w.heap.size + 1 ≠ w.heap.size + 2 := by omega
 have hne2 : w.heap.size + 2 ≠ w.heap.size + 1 := by omega
 obtain ⟨ao, cap, rfl⟩ := byt_shape hB
 have hlI : ¬ (1048576 : Int) < (l.length : Int) := by omega
 have hlJ : (l.length : Int) ≤ 1048576 := by omega
 have hlw : wrap64 ((l.length : Int) + 1) = (l.length : Int) + 1 := by unfold wrap64; omega
 have hb3 := bounded_in a3 1000000 (by decide)
 have HB3 : Hid (0 ≤ boundedL a3 1000000 ∧ boundedL a3 1000000 ≤ 1000000) := hid_intro (by omega)
 have HBM : Hid (bm a1 a2 a3 = ⟨boundedL a1 10000, boundedL a2 65536, boundedL a3 1000000⟩) := hid_intro rfl
 unfold limV at HBO ⊢
 clear hP hB hl kL hb3
 generalize bm a1 a2 a3 = m at *
 generalize boundedL a1 10000 = b1 at *
 generalize boundedL a2 65536 = b2 at *
 generalize boundedL a3 1000000 = b3 at *
 generalize boundedL a4 65536 = b4 at *
 generalize boundedL a5 16384 = b5 at *
 go_enter Tryz.func10, Tryz.ntmps10
 go_wp2_with fail
 refine HBO.out.mono ?_; rintro r W ⟨rfl, hbW⟩
 obtain ⟨W1, hW1⟩ : ∃ W1, W.alloc (.cells #[.int .i64 b1, .int .i64 b2, .int .i64 b3, .int .i64 b4, .int .i64 b5, .slice none 0 0, .int .i64 0, .int .i64 0, .bool false, .string ⟨#[]⟩, .int .i64 0, .string ⟨#[]⟩, .slice none 0 0, .slice none 0 0, .int .i64 0, .int .i64 0] 60) = W1 := ⟨_, rfl⟩
 have HbW := hid_intro hbW
 obtain ⟨lm, hlm⟩ : ∃ lm, lm = lmOf b1 b2 b3 b4 b5 := ⟨_, rfl⟩
 obtain ⟨Z, hZ⟩ : ∃ Z, RR l (rlR (LMof lm)) rdR ⟨[], 0, zeroJ 0, 0, 0⟩ 0 = Z := ⟨_, rfl⟩
 let X : Ex := ⟨fun b => b < W.heap.size⟩
 have HJ0 : Hid (JR W lm W.heap.size 0 ⟨[], 0, zeroJ 0, 0, 0⟩ (.slice none 0 0) [] (fS 0 false ⟨#[]⟩ 0 ⟨#[]⟩) W1) := hid_intro (by rw [← hW1, hlm]; exact jr_new W b1 b2 b3 b4 b5 _)
 have HLM : Hid (LMof lm = m) := hid_intro (by rw [HBM.out, hlm]; rfl)
 have HL2 : Hid (0 ≤ lm 2 ∧ lm 2 ≤ 1000000) := hid_intro (by rw [hlm]; exact HB3.out)
 have HZE : Hid (∀ e, Z = .error e → judgedR l m (rlR m) rdR = .error (3, (e : Int))) := hid_intro (fun e he => by
  unfold judgedR
  rw [if_neg (by have := HL.out; omega), ← HLM.out, hZ, he])
 have HZO : Hid (∀ p, Z = .ok p → judgedR l m (rlR m) rdR = if lm 0 < (p.dp : Int) then .error (4, 2) else if p.ps ≠ 0 then .error (4, (p.ps : Int)) else .ok p.v) := hid_intro (fun p he => by
  unfold judgedR
  rw [if_neg (by have := HL.out; omega), ← HLM.out, hZ, he]
  rfl)
 have HBX : Hid (∀ wr, Below W.heap.size W wr → Bj wr (w.heap.size + 1) #[.int .i64 0, .bool false, .string ⟨#[]⟩, .int .i64 0, .string ⟨#[]⟩, .slice none 0 0, .slice none 0 0] ∧ Bj wr (w.heap.size + 2) #[.int .i64 0, .int .i64 0] ∧ Lx.Byt wr (.slice ao l.length cap) l ∧ Below w.heap.size w wr) := hid_intro (fun wr hb => ⟨(HKX.out.bel HbW.out).bel hb, (HKE.out.bel HbW.out).bel hb, HBY.out.below (vb_t (vb_t HWb.out HbW.out) hb), vb_t (vb_t HWb.out HbW.out) hb⟩)
 have HFE : Hid (∀ (wr Xw : World) (a b : Int), Below W.heap.size W wr → But (fun k => k = w.heap.size + 1 ∨ k = w.heap.size + 1 + 1) wr Xw → judgedR l m (rlR m) rdR = .error (a, b) → P (.returned (.tuple #[.agg zV7, .agg #[.int .i64 a, .int .i64 b]])) Xw) := hid_intro (fun wr Xw a b hb hbx hj => by
  rw [HP.out, hj]
  exact ⟨but_ahead (HBX.out wr hb).2.2.2 hbx (fun k hk => by omega), rfl⟩)
 have HSZ : Hid (w.heap.size + 3 ≤ W.heap.size) := hid_intro (by have := HZ0.out; have := HbW.out.size; omega)
 have HFO : Hid (∀ (wr Xw : World) (p : PR) (ov : Value) (hs : List HC) (f : Nat → Value), Below W.heap.size W wr → VI wr (mX W.heap.size ov hs) p.v f → But (fun k => k = w.heap.size + 1 ∨ k = w.heap.size + 1 + 1) wr Xw → judgedR l m (rlR m) rdR = .ok p.v → P (.returned (.tuple #[va f, .agg #[.int .i64 1, .int .i64 0]])) Xw) := hid_intro (fun wr Xw p ov hs f hb hv hbx hj => by
  rw [HP.out, hj]
  have h3 := HSZ.out
  refine ⟨but_ahead (HBX.out wr hb).2.2.2 hbx (fun k hk => by omega), f, rfl, hv.carry fun b hb1 hlt => ⟨hbx.block b hlt (fun e => hb1 (Or.inl (show b < W.heap.size by omega))), fun e => hb1 (Or.inl (show b < W.heap.size by omega))⟩⟩)
 have HRI : Hid (RI W l lm W.heap.size Z 0 ⟨[], 0, zeroJ 0, 0, 0⟩ (.slice none 0 0) [] (fS 0 false ⟨#[]⟩ 0 ⟨#[]⟩) W1) := hid_intro ⟨HJ0.out, hZ, Nat.zero_le _, fun _ => Or.inl rfl⟩
 have HLMO := hid_intro hlm
 clear hlm hZ hbW HBO HJ0 l0 l1 l2 l3 l4
 go_wp2_with fail
 go_loopg [7, 8, 9, 10] (l.length) (fun g s7 s8 s9 s10 wr => ∃ (i : Nat) (p : PR) (ov : Value) (hs : List HC) (f : Nat → Value), g = l.length - i ∧ s7 = .int .i64 (i : Int) ∧ Hid (RI W l lm W.heap.size Z i p ov hs f wr))
 case atStart => exact ⟨0, _, _, _, _, rfl, rfl, HRI⟩
 case round =>
  obtain ⟨i, p, ov, hs, f, rfl, rfl, HI⟩ := hrel
  have hil : i ≤ l.length := HI.out.le
  have hbr := HI.out.jr.bel
  have HNX := hid_intro (Lx.rnext_any l i (.slice ao l.length cap) wr (HBX.out wr hbr).2.2.1 hil (by have := HL.out; omega))
  have hilI : (i : Int) ≤ 1048576 := by have := HL.out; omega
  go_wp2_with fail
  refine HNX.out.mono ?_
  rintro r w2 ⟨hr, hb2⟩
  cases hn : Lx.nextL l i with
  | error n =>
   rw [hn] at hr
   replace hr : r = .returned (.tuple #[.agg #[.int .i64 0, .string ⟨#[]⟩, .int .i64 0, .int .i64 0], .int .i64 (n : Int), .int .i64 50]) := hr
   subst hr
   obtain ⟨BB, hBB⟩ : ∃ BB, w2.alloc (.cells #[.int .i64 0, .string ⟨#[]⟩, .int .i64 0, .int .i64 0] 50) = BB := ⟨_, rfl⟩
   have hbB : Below wr.heap.size wr BB := vb_t hb2 (hBB ▸ vb_a (Below.refl _ _) _)
   have HWB := hid_intro (vb_t hbr hbB)
   have hJB := HI.out.jr.belw hbB
   have r6 := hJB.rd.c 6 (by omega) (u := .int .i64 (p.nx : Int)) rfl
   have hlp := err_pos hil hn
   have hlpI : (0 : Int) < (l.length : Int) := by omega
   have HRS : Hid (Z = if p.nx = 0 ∨ p.nx = 1 ∨ standsR l p i then .error n else .error (Lx.pass l Lx.blankB i + 1)) := hid_intro (by rw [← HI.out.eq, RR_step hil, hn])
   have HST := hid_intro (rstands_any l i p.nx W.heap.size (.slice ao l.length cap) BB (HBX.out BB HWB.out).2.2.1 hlp hil (by have := HL.out; omega) r6)
   have HFI := hid_intro (rfirst_any l i (.slice ao l.length cap) BB (HBX.out BB HWB.out).2.2.1 hlp hil (by have := HL.out; omega))
   obtain ⟨c0, c1, c2, c3, c4, c5, c6⟩ := (HBX.out BB HWB.out).1.c7
   obtain ⟨z0, z1, z2, z3, z4, z5, z6⟩ := (HBX.out BB HWB.out).1.z7
   obtain ⟨d0, d1⟩ := (HBX.out BB HWB.out).2.1.c2
   obtain ⟨u0, u1⟩ := (HBX.out BB HWB.out).2.1.z2
   have HPL : Hid (Lx.pass l Lx.blankB i ≤ l.length) := hid_intro (Lx.pass_le (l := l) (p := Lx.blankB) hil)
   have HSB : Hid (stB l p.nx i = true ↔ standsR l p i) := hid_intro stB_iff
   clear hn hbB hJB hlp hb2 hbr HNX HI
   subst hBB
   generalize stB l p.nx i = sb at *
   generalize Lx.pass l Lx.blankB i = ps at *
   by_cases n0 : p.nx = 0
   ·have b0 : ((p.nx : Int) == 0) = true := by simp; omega
    have HZn : Hid (Z = .error n) := hid_intro (by rw [HRS.out, if_pos (Or.inl n0)])
    clear n0 HST HFI
    go_wp2_with fail
    refine bodyPost_ret (v := .tuple #[.agg zV7, .agg #[.int .i64 3, .int .i64 (n : Int)]]) (by simp [results, Tryz.results10, go_sem, zV7, c0, c1, c2, c3, c4, c5, c6, d0, d1]) rfl ?_
    exact HFE.out _ _ 3 (n : Int) HWB.out (by with_reducible repeat (first | refine butN ?_ _ | refine But.drew ?_ | refine But.set ?_ (Or.inl (Or.inl rfl)) _ | refine But.set ?_ (Or.inl (Or.inr rfl)) _ | exact But.refl _ _)) (HZE.out n HZn.out)
   ·have b0 : ((p.nx : Int) == 0) = false := by simp; omega
    by_cases n1 : p.nx = 1
    ·have b1 : ((p.nx : Int) == 1) = true := by simp; omega
     have HZn : Hid (Z = .error n) := hid_intro (by rw [HRS.out, if_pos (Or.inr (Or.inl n1))])
     clear n0 n1 HST HFI
     go_wp2_with fail
     refine bodyPost_ret (v := .tuple #[.agg zV7, .agg #[.int .i64 3, .int .i64 (n : Int)]]) (by simp [results, Tryz.results10, go_sem, zV7, c0, c1, c2, c3, c4, c5, c6, d0, d1]) rfl ?_
     exact HFE.out _ _ 3 (n : Int) HWB.out (by with_reducible repeat (first | refine butN ?_ _ | refine But.drew ?_ | refine But.set ?_ (Or.inl (Or.inl rfl)) _ | refine But.set ?_ (Or.inl (Or.inr rfl)) _ | exact But.refl _ _)) (HZE.out n HZn.out)
    ·have b1 : ((p.nx : Int) == 1) = false := by simp; omega
     cases sb with
     | true =>
      have HZn : Hid (Z = .error n) := hid_intro (by rw [HRS.out, if_pos (Or.inr (Or.inr (HSB.out.1 rfl)))])
      clear n0 n1 HFI
      go_wp2_with (go_at_call 21; refine HST.out.mono ?_; rintro r w3 ⟨rfl, rfl⟩)
      refine bodyPost_ret (v := .tuple #[.agg zV7, .agg #[.int .i64 3, .int .i64 (n : Int)]]) (by simp [results, Tryz.results10, go_sem, zV7, c0, c1, c2, c3, c4, c5, c6, d0, d1]) rfl ?_
      exact HFE.out _ _ 3 (n : Int) HWB.out (by with_reducible repeat (first | refine butN ?_ _ | refine But.drew ?_ | refine But.set ?_ (Or.inl (Or.inl rfl)) _ | refine But.set ?_ (Or.inl (Or.inr rfl)) _ | exact But.refl _ _)) (HZE.out n HZn.out)
     | false =>
      have HZn : Hid (Z = .error (ps + 1)) := hid_intro (by rw [HRS.out, if_neg (by rintro (e | e | e); exact n0 e; exact n1 e; (have := HSB.out.2 e; cases this))])
      have hpI : (ps : Int) ≤ 1048576 := by have := HPL.out; have := HL.out; omega
      have hpw : wrap64 ((ps : Int) + 1) = (ps : Int) + 1 := by unfold wrap64; omega
      clear n0 n1
      go_wp2_with (first | (go_at_call 21; refine HST.out.mono ?_; rintro r w3 ⟨rfl, rfl⟩) | (go_at_call 22; refine HFI.out.mono ?_; rintro r w4 ⟨rfl, rfl⟩))
      refine bodyPost_ret (v := .tuple #[.agg zV7, .agg #[.int .i64 3, .int .i64 ((ps : Int) + 1)]]) (by simp [results, Tryz.results10, go_sem, zV7, c0, c1, c2, c3, c4, c5, c6, d0, d1]) rfl ?_
      exact HFE.out _ _ 3 ((ps : Int) + 1) HWB.out (by with_reducible repeat (first | refine butN ?_ _ | refine But.drew ?_ | refine But.set ?_ (Or.inl (Or.inl rfl)) _ | refine But.set ?_ (Or.inl (Or.inr rfl)) _ | exact But.refl _ _)) (by rw [HZE.out (ps + 1) HZn.out]; simp)
  | ok t =>
   rw [hn] at hr
   obtain ⟨kd, tx, fr, te⟩ := t
   replace hr : r = .returned (.tuple #[.agg #[.int .i64 (kd : Int), .string ⟨tx.toArray⟩, .int .i64 (fr : Int), .int .i64 (te : Int)], .int .i64 0, .int .i64 0]) := hr
   subst hr
   obtain ⟨BB, hBB⟩ : ∃ BB, w2.alloc (.cells #[.int .i64 (kd : Int), .string ⟨tx.toArray⟩, .int .i64 (fr : Int), .int .i64 (te : Int)] 50) = BB := ⟨_, rfl⟩
   have hbB : Below wr.heap.size wr BB := vb_t hb2 (hBB ▸ vb_a (Below.refl _ _) _)
   have HWB := hid_intro (vb_t hbr hbB)
   have hTB : Bj BB w2.heap.size #[.int .i64 (kd : Int), .string ⟨tx.toArray⟩, .int .i64 (fr : Int), .int .i64 (te : Int)] := hBB ▸ Bj.new _ _ _
   have HTB := hid_intro hTB
   obtain ⟨t0, t1, t2, t3⟩ := hTB.c4
   have hJB := HI.out.jr.belw hbB
   have HJB := hid_intro hJB
   have HRS := hid_intro (RR_step (l := l) (rl := rlR (LMof lm)) (rd := rdR) (p := p) hil)
   rw [hn] at HRS
   rcases next_to hil hn with ⟨k0, hp0⟩ | ⟨hpl, k0, hit, htl⟩
   ·replace k0 : kd = 0 := k0
    have hk0 : ((kd : Int) == 0) = true := by simp; omega
    have HRE : Hid (Z = if p.nx = 6 then .ok p else .error (l.length + 1)) := hid_intro (by rw [← HI.out.eq, HRS.out]; simp only [k0, if_true])
    have r6 := hJB.rd.c 6 (by omega) (u := .int .i64 (p.nx : Int)) rfl
    have r14 := hJB.rd.c 14 (by omega) (u := .int .i64 (p.dp : Int)) rfl
    have r0 := hJB.rd.c 0 (by omega) (u := .int .i64 (lm 0)) rfl
    have r15 := hJB.rd.c 15 (by omega) (u := .int .i64 (p.ps : Int)) rfl
    obtain ⟨c0, c1, c2, c3, c4, c5, c6⟩ := (HBX.out BB HWB.out).1.c7
    obtain ⟨z0, z1, z2, z3, z4, z5, z6⟩ := (HBX.out BB HWB.out).1.z7
    obtain ⟨d0, d1⟩ := (HBX.out BB HWB.out).2.1.c2
    obtain ⟨u0, u1⟩ := (HBX.out BB HWB.out).2.1.z2
    have hr1 : W.heap.size ≠ w.heap.size + 1 := by have := HSZ.out; omega
    have hr2 : W.heap.size ≠ w.heap.size + 2 := by have := HSZ.out; omega
    clear hn k0 hp0 hbB hTB hJB hb2 hbr HNX HRS HI
    by_cases n6 : p.nx = 6
    ·have b6 : ((p.nx : Int) != 6) = false := by simp; omega
     have HJO := hid_intro (HZO.out p (by rw [HRE.out, if_pos n6]))
     clear n6
     by_cases dd : lm 0 < (p.dp : Int)
     ·have HZn := hid_intro (HJO.out.trans (if_pos dd))
      go_wp2_with fail
      go_quiet (fail)
      go_wp2_with fail
      refine bodyPost_ret (v := .tuple #[.agg zV7, .agg #[.int .i64 4, .int .i64 2]]) (by simp [results, Tryz.results10, go_sem, zV7, c0, c1, c2, c3, c4, c5, c6, d0, d1]) rfl ?_
      exact HFE.out _ _ 4 2 HWB.out (by with_reducible repeat (first | refine butN ?_ _ | refine But.drew ?_ | refine But.set ?_ (Or.inl (Or.inl rfl)) _ | refine But.set ?_ (Or.inl (Or.inr rfl)) _ | exact But.refl _ _)) (HZn.out)
     ·have ddb : decide (lm 0 < (p.dp : Int)) = false := by simp [dd]
      have HJP := hid_intro (HJO.out.trans (if_neg dd))
      by_cases pp : p.ps = 0
      ·have HZn := hid_intro (HJP.out.trans (if_neg (by simp [pp])))
       have ppI : ¬ ((0 : Int) < (p.ps : Int)) := by omega
       obtain ⟨k_, n_, g_, e_, t_, s1, m1, q1, s2, m2, q2, hva, hsv⟩ := HJB.out.vi.lit
       obtain ⟨f0, f1, f2, f3, f4, f5, f6⟩ := seven_cells hsv
       have y7 := HJB.out.rd.c 7 (by omega) (u := .int .i64 k_) f0
       have y8 := HJB.out.rd.c 8 (by omega) (u := .bool n_) f1
       have y9 := HJB.out.rd.c 9 (by omega) (u := .string g_) f2
       have y10 := HJB.out.rd.c 10 (by omega) (u := .int .i64 e_) f3
       have y11 := HJB.out.rd.c 11 (by omega) (u := .string t_) f4
       have y12 := HJB.out.rd.c 12 (by omega) (u := .slice s1 m1 q1) f5
       have y13 := HJB.out.rd.c 13 (by omega) (u := .slice s2 m2 q2) f6
       have HVA := hid_intro hva
       clear hva hsv f0 f1 f2 f3 f4 f5 f6 pp dd
       go_wp2_with fail
       go_quiet (fail)
       go_wp2_with fail
       refine bodyPost_ret (v := .tuple #[.agg #[.int .i64 k_, .bool n_, .string g_, .int .i64 e_, .string t_, .slice s1 m1 q1, .slice s2 m2 q2], .agg #[.int .i64 1, .int .i64 0]]) (by simp [results, Tryz.results10, go_sem, c0, c1, c2, c3, c4, c5, c6, d0, d1]) rfl ?_
       rw [← HVA.out]
       exact HFO.out BB _ p ov hs f HWB.out HJB.out.vi (by with_reducible repeat (first | refine butN ?_ _ | refine But.drew ?_ | refine But.set ?_ (Or.inl (Or.inl rfl)) _ | refine But.set ?_ (Or.inl (Or.inr rfl)) _ | exact But.refl _ _)) HZn.out
      ·have HZn := hid_intro (HJP.out.trans (if_pos pp))
       have ppI : (0 : Int) < (p.ps : Int) := by omega
       clear pp dd
       go_wp2_with fail
       go_quiet (fail)
       go_wp2_with fail
       go_region
       all_goals
        go_wp2_with fail
        refine bodyPost_ret (v := .tuple #[.agg zV7, .agg #[.int .i64 4, .int .i64 (p.ps : Int)]]) (by simp [results, Tryz.results10, go_sem, zV7, c0, c1, c2, c3, c4, c5, c6, d0, d1]) rfl ?_
        exact HFE.out _ _ 4 (p.ps : Int) HWB.out (by with_reducible repeat (first | refine butN ?_ _ | refine But.drew ?_ | refine But.set ?_ (Or.inl (Or.inl rfl)) _ | refine But.set ?_ (Or.inl (Or.inr rfl)) _ | exact But.refl _ _)) (HZn.out)
    ·have b6 : ((p.nx : Int) != 6) = true := by simp; omega
     have HZn := hid_intro (HZE.out (l.length + 1) (by rw [HRE.out, if_neg n6]))
     clear n6
     go_wp2_with fail
     refine bodyPost_ret (v := .tuple #[.agg zV7, .agg #[.int .i64 3, .int .i64 ((l.length : Int) + 1)]]) (by simp [results, Tryz.results10, go_sem, zV7, c0, c1, c2, c3, c4, c5, c6, d0, d1]) rfl ?_
     exact HFE.out _ _ 3 ((l.length : Int) + 1) HWB.out (by with_reducible repeat (first | refine butN ?_ _ | refine But.drew ?_ | refine But.set ?_ (Or.inl (Or.inl rfl)) _ | refine But.set ?_ (Or.inl (Or.inr rfl)) _ | exact But.refl _ _)) (by rw [HZn.out]; simp)
   ·replace k0 : ¬ kd = 0 := k0
    have hk0 : ((kd : Int) == 0) = false := by simp; omega
    replace hit : i < te := hit
    replace htl : te ≤ l.length := htl
    have HTK : Hid (∀ k s a b, k = (kd : Int) → s = (⟨tx.toArray⟩ : ByteArray) → a = (fr : Int) → b = (te : Int) → Calls Tryz.prog 23 #[.pointer (some ⟨W.heap.size, 0, none⟩), .agg #[.int .i64 k, .string s, .int .i64 a, .int .i64 b]] BB (ToR W lm W.heap.size i ov hs (tokenR (rlR (LMof lm)) rdR ⟨kd, tx, fr, te⟩ p) BB)) := hid_intro (fun k s a b h1 h3 h4 h5 => by
     subst h1 h3 h4 h5
     have hpp := Lx.pass_le (l := l) (p := Lx.blankB) hil
     have hfr : fr = Lx.pass l Lx.blankB i := Lx.read_fr hn
     exact token_any hJB (by have := HL.out; omega) HI.out.op ⟨kd, tx, fr, te⟩ (by have := Lx.readL_text hpp hn; have := HL.out; omega) (by have := HL.out; show fr ≤ _; omega) (fun hk => num_cut hil hn hk) HL2.out)
    have HOP := hid_intro HI.out.op
    have HOFF : Hid (¬ wX W.heap.size ov hs w2.heap.size) := hid_intro (by
     have h1 := HI.out.jr.rd.lt
     have h2 := hb2.size
     rintro (e | e)
     ·omega
     ·have := (HI.out.jr.st.lt _ e).2; omega)
    cases htk : tokenR (rlR (LMof lm)) rdR ⟨kd, tx, fr, te⟩ p with
    | error e =>
     rw [htk] at HTK
     have HZn := hid_intro (HZE.out e (by rw [← HI.out.eq, HRS.out]; simp only [k0, if_false]; rw [htk]))
     have he := tok_pos htk (by show 0 < te; omega)
     have heI : (0 : Int) < (e : Int) := by omega
     clear hn htk k0 hbB hTB hJB hb2 hbr HNX HRS HI he
     go_wp2_with (go_at_call 23; refine (HTK.out _ _ _ _ rfl rfl rfl rfl).mono ?_; rintro r B3 ⟨rfl, hb3⟩; obtain ⟨c0, c1, c2, c3, c4, c5, c6⟩ := (HBX.out B3 hb3).1.c7; obtain ⟨z0, z1, z2, z3, z4, z5, z6⟩ := (HBX.out B3 hb3).1.z7; obtain ⟨d0, d1⟩ := (HBX.out B3 hb3).2.1.c2; obtain ⟨u0, u1⟩ := (HBX.out B3 hb3).2.1.z2)
     refine bodyPost_ret (v := .tuple #[.agg zV7, .agg #[.int .i64 3, .int .i64 (e : Int)]]) (by simp [results, Tryz.results10, go_sem, zV7, c0, c1, c2, c3, c4, c5, c6, d0, d1]) rfl ?_
     exact HFE.out B3 _ 3 (e : Int) hb3 (by with_reducible repeat (first | refine butN ?_ _ | refine But.drew ?_ | refine But.set ?_ (Or.inl (Or.inl rfl)) _ | refine But.set ?_ (Or.inl (Or.inr rfl)) _ | exact But.refl _ _)) (HZn.out)
    | ok q =>
     rw [htk] at HTK
     have HEQ : Hid (RR l (rlR (LMof lm)) rdR q te = Z) := hid_intro (by rw [← HI.out.eq, HRS.out]; simp only [k0, if_false]; rw [htk])
     have HO2 := hid_intro (HOP.out.token htk)
     clear hn htk k0 hbB hTB hJB hb2 hbr HNX HRS HI
     have HTE : Hid (i < te ∧ te ≤ l.length) := hid_intro ⟨hit, htl⟩
     go_wp2_with (go_at_call 23; refine (HTK.out _ _ _ _ rfl rfl rfl rfl).mono ?_; rintro r B3 ⟨rfl, ov3, hs3, f3, hj3, hm3⟩; have s3 := (HTB.out.but hm3.but (HOFF.out)).cell 3; simp only [List.getElem?_toArray, List.getElem?_cons_zero, List.getElem?_cons_succ] at s3)
     go_roundg (l.length - te)
     case measure => omega
     case rel => exact ⟨te, q, ov3, hs3, f3, rfl, rfl, hid_intro ⟨hj3.more (by have := HTE.out; omega), HEQ.out, HTE.out.2, HO2.out⟩⟩
end Go.Proofs.YtfoehebnmommfaaGreatDoor.R5

namespace Go.Proofs.YtfoehebnmommfaaGreatDoor
open Go.RowKit Go.Maps

theorem ref_judged (l : List UInt8) (a1 a2 a3 : Int) : judgedR l (bm a1 a2 a3) (rlR (bm a1 a2 a3)) rdR = judgedS l (bm a1 a2 a3) :=
 judged_ref (fun _ => numOK (bounded_in a2 65536 (by decide)).2 (bounded_in a3 1000000 (by decide)).2)
theorem rread_any (l : List UInt8) (v : Value) (a1 a2 a3 a4 a5 : Int) (w : World) (hB : Lx.Byt w v l) :
  Calls Tryz.prog 10 #[v, limV a1 a2 a3 a4 a5] w (JdR (judgedS l (bm a1 a2 a3)) w) := by
 rw [← ref_judged]
 by_cases hl : l.length ≤ 1048576
 ·exact R5.rread_run l v a1 a2 a3 a4 a5 w hB hl
 ·exact R5.rread_long l v a1 a2 a3 a4 a5 w hB (by omega) _ _
def valJ (x : Except (Int × Int) JV) : JV := match x with | .error _ => zeroJ 0 | .ok y => y
def verJ (x : Except (Int × Int) JV) : Int × Int := match x with | .error p => p | .ok _ => (1, 0)
theorem JdR.one {x : Except (Int × Int) JV} {w : World} {r : Ending} {w' : World} (h : JdR x w r w') : Below w.heap.size w w' ∧ ∃ f, r = .returned (.tuple #[va f, .agg #[.int .i64 (verJ x).1, .int .i64 (verJ x).2]]) ∧ VI w' (· < w.heap.size) (valJ x) f := by
 refine ⟨h.1, ?_⟩
 cases x with
 | error p => exact ⟨fS 0 false ⟨#[]⟩ 0 ⟨#[]⟩, h.2, vi_fS _ _ 0 false ⟨#[]⟩ 0 ⟨#[]⟩ (wf_of (by omega) (by omega)) (wf_of (by omega) (by omega)) (by decide) (by decide)⟩
 | ok y => exact h.2
end Go.Proofs.YtfoehebnmommfaaGreatDoor
