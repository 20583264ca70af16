/-
  rx.parsed, rx.Parse. Conditions: the table of greatest code points holds its four numbers; at most 2^40 bytes.
-/
import Derived.Test.YtppilokmgdpnnaaGreatDoorJoined37
namespace Go.Proofs.YtppilokmgdpnnaaGreatDoor
open Go.RowKit
attribute [local go_sem] setCell_drewN alloc_drewN

theorem But.ahead {X : Nat → Prop} {W a b : World} (hW : Below W.heap.size W a) (h : But X a b) (hX : ∀ k, X k → W.heap.size ≤ k) : Below W.heap.size W b :=
  ⟨h.os.trans hW.os, h.tape.trans hW.tape, h.output.trans hW.output, Nat.le_trans hW.size h.size, fun k hk => (h.block k (Nat.lt_of_lt_of_le hk hW.size) (fun hx => absurd (hX k hx) (by omega))).trans (hW.block k hk)⟩
set_option maxRecDepth 100000 in
set_option maxHeartbeats 800000 in
theorem ended_c (w : World) (rb : Nat) (ao : Option Addr) (n cap a : Nat) (c0 : w.cell? ⟨rb, 0, none⟩ = some (.slice ao n cap)) (c1 : w.cell? ⟨rb, 1, none⟩ = some (.int .i64 (a : Int))) :
    Calls Tryz.prog 28 #[.pointer (some ⟨rb, 0, none⟩)] w fun r w' => r = .returned (.bool ((a : Int) == (n : Int))) ∧ Below w.heap.size w w' := by
  go_enter Tryz.func28, Tryz.ntmps28
  go_wp2_with fail
  go_region
  all_goals
    go_wp2_with fail
    go_ret
    exact ⟨rfl, vb_d (Below.refl _ _)⟩
/-- A tree and no error, or no tree and ErrRx. -/
def ParsR (x : Option RX) (w : World) (r : Ending) (w' : World) : Prop :=
  Below w.heap.size w w' ∧ match x with
    | none => r = .returned (.tuple #[.agg zX, .int .i64 90])
    | some t => ∃ f, r = .returned (.tuple #[xa f, .int .i64 0]) ∧ XI w' (· < w.heap.size) t f
theorem Bk.c1 {w : World} {b : Nat} {x0 : Value} (h : Bk w b #[x0]) : w.cell? ⟨b, 0, none⟩ = some x0 := h.cell 0

set_option maxRecDepth 100000 in
set_option maxHeartbeats 1600000 in
theorem parsed_no (s : ByteArray) (w : World) (hT : Tab w) (hs : s.size ≤ 1099511627776) (h : okS s = false) :
    Calls Tryz.prog 18 #[.string s] w (ParsR none w) := by
  have hmf : ∀ (fn : Fn) (first cap : Array Value) (w : World), (Instr.makeFunc fn first cap).run Tryz.prog w = .ok (.func fn first cap) w := fun _ _ _ _ => rfl
  obtain ⟨W, hW⟩ : ∃ W, (w.alloc (.cells #[.int .i64 0, .slice none 0 0, .int .i64 0, .int .i64 0, .bool false, .slice none 0 0] 26)).alloc (.cells #[.int .i64 0] 27) = W := ⟨_, rfl⟩
  have hWb : Below w.heap.size w W := hW ▸ vb_a (vb_a (Below.refl _ _) _) _
  have kX : Bk W w.heap.size zX := hW ▸ (Bk.new _ _ _).al _
  have kE : Bk W (w.heap.size + 1) #[.int .i64 0] := hW ▸ Bk.new' _ _ _ _ (by simp)
  have hp := pointsOf_no s W (hT.below hWb) hs h
  clear hT h
  go_enter_defers Tryz.func18, Tryz.ntmps18
  go_wp2_with fail
  refine hp.mono ?_; rintro r w1 ⟨rfl, hb1⟩
  go_wp2_with fail
  refine leaves_cons (f := 25) (args := #[.pointer (some ⟨w.heap.size, 0, none⟩), .pointer (some ⟨w.heap.size + 1, 0, none⟩)]) (by simp) (by simp [go_sem]) ?_
  refine (catch_panicking w.heap.size (w.heap.size + 1) (by omega) 90 [] w1 _ _ _ _ _ _ (kX.bel hb1) _ (kE.bel hb1)).mono ?_
  rintro e u' w2 ⟨rfl, rfl, k2, m2, hb2⟩
  obtain ⟨c0, c1, c2, c3, c4, c5⟩ := k2.c6
  have d0 := m2.c1
  simp [Leaves, settle, results, Tryz.results18, go_sem, c0, c1, c2, c3, c4, c5, d0]
  exact ⟨But.ahead (vb_t hWb hb1) hb2 (fun k hk => by omega), rfl⟩

set_option maxRecDepth 100000 in
set_option maxHeartbeats 3200000 in
theorem parsed_ok (s : ByteArray) (w : World) (hT : Tab w) (hg0 : 0 < w.heap.size) (h : okS s = true) :
    Calls Tryz.prog 18 #[.string s] w (ParsR (parseL (ptsS s)) w) := by
  have hmf : ∀ (fn : Fn) (first cap : Array Value) (w : World), (Instr.makeFunc fn first cap).run Tryz.prog w = .ok (.func fn first cap) w := fun _ _ _ _ => rfl
  obtain ⟨W, hW⟩ : ∃ W, (w.alloc (.cells #[.int .i64 0, .slice none 0 0, .int .i64 0, .int .i64 0, .bool false, .slice none 0 0] 26)).alloc (.cells #[.int .i64 0] 27) = W := ⟨_, rfl⟩
  have hWb : Below w.heap.size w W := hW ▸ vb_a (vb_a (Below.refl _ _) _) _
  have kX : Bk W w.heap.size zX := hW ▸ (Bk.new _ _ _).al _
  have kE : Bk W (w.heap.size + 1) #[.int .i64 0] := hW ▸ Bk.new' _ _ _ _ (by simp)
  have hWs : W.heap.size = w.heap.size + 2 := by rw [← hW]; simp
  have hp := pointsOf_ok s W (hT.below hWb) h
  have hlen := ptsS_len s
  simp only [okS, Bool.and_eq_true, decide_eq_true_eq] at h
  have hbd := ptsS_bd s h.2
  have hl4 : (ptsS s).length ≤ 4096 := by omega
  generalize ptsS s = pts at *
  have HT := hid_intro hT
  clear hT h hlen
  have setup : ∀ (v : Value) (w1 : World), w1.ownsRow W.heap.size 3 1 v pts.length (pts.map (Value.int .i64)) → Below W.heap.size W w1 → ∀ V, w1.alloc (.cells #[v, .int .i64 0, .int .i64 0] 60) = V →
      Calls Tryz.prog 27 #[.pointer (some ⟨w1.heap.size, 0, none⟩)] V (TreeR (patL 200 pts) w1.heap.size 0 V) := fun v w1 ho hb1 V hV => by
    subst hV
    have hlt : 0 < w1.heap.size := Nat.lt_of_lt_of_le hg0 (Nat.le_trans hWb.size hb1.size)
    exact pattern_any w1.heap.size (by omega) 200 0 (by omega) (by omega) _ pts ((HT.out.below hWb).below hb1 |>.below (vb_a (Below.refl _ _) _)) (RD.new (w := W) ho hl4 hbd)
  have HSET := hid_intro setup
  clear setup
  cases e1 : patL 200 pts with
  | none =>
    have HE : Hid (parseL pts = none) := hid_intro (by unfold parseL; rw [e1])
    rw [e1] at HSET
    rw [HE.out]
    go_enter_defers Tryz.func18, Tryz.ntmps18
    go_wp2_with fail
    refine hp.mono ?_; rintro r w1 ⟨v, rfl, ho, hb1⟩
    have hpt := HSET.out v w1 ho hb1 _ rfl
    obtain ⟨ao, cap, hsh⟩ : ∃ ao cap, v = .slice ao pts.length cap := by
      rcases ho.2 with ⟨rfl, hn⟩ | ⟨g, cap, cur, rfl, _⟩
      · exact ⟨none, 0, by rw [hn]⟩
      · exact ⟨_, cap, rfl⟩
    subst hsh
    have hs1 := hb1.size
    have k1 := (kX.bel hb1).al (.cells #[.slice ao pts.length cap, .int .i64 0, .int .i64 0] 60)
    have m1 := (kE.bel hb1).al (.cells #[.slice ao pts.length cap, .int .i64 0, .int .i64 0] 60)
    have HB1 := hid_intro (vb_a (vb_t hWb hb1) (.cells #[.slice ao pts.length cap, .int .i64 0, .int .i64 0] 60))
    clear ho
    go_wp2_with fail
    refine hpt.mono ?_; rintro r w2 ⟨hb2, rfl⟩
    have k2 := k1.but hb2 (by omega)
    have m2 := m1.but hb2 (by omega)
    go_wp2_with fail
    refine leaves_cons (f := 25) (args := #[.pointer (some ⟨w.heap.size, 0, none⟩), .pointer (some ⟨w.heap.size + 1, 0, none⟩)]) (by simp) (by simp [go_sem]) ?_
    refine (catch_panicking w.heap.size (w.heap.size + 1) (by omega) 90 [] w2 _ _ _ _ _ _ k2 _ m2).mono ?_
    rintro e u' w3 ⟨rfl, rfl, k3, m3, hb3⟩
    obtain ⟨c0, c1, c2, c3, c4, c5⟩ := k3.c6
    have d0 := m3.c1
    simp [Leaves, settle, results, Tryz.results18, go_sem, c0, c1, c2, c3, c4, c5, d0]
    exact ⟨But.ahead (But.ahead HB1.out hb2 (fun k hk => by omega)) hb3 (fun k hk => by omega), rfl⟩
  | some y =>
    obtain ⟨x, l2⟩ := y
    rw [e1] at HSET
    cases hl2 : l2.isEmpty with
    | false =>
      have HE : Hid (parseL pts = none) := hid_intro (by unfold parseL; rw [e1]; cases l2 with
        | nil => simp at hl2
        | cons c l => rfl)
      rw [HE.out]
      clear e1
      go_enter_defers Tryz.func18, Tryz.ntmps18
      go_wp2_with fail
      refine hp.mono ?_; rintro r w1 ⟨v, rfl, ho, hb1⟩
      have hpt := HSET.out v w1 ho hb1 _ rfl
      obtain ⟨ao, cap, hsh⟩ : ∃ ao cap, v = .slice ao pts.length cap := by
        rcases ho.2 with ⟨rfl, hn⟩ | ⟨g, cap, cur, rfl, _⟩
        · exact ⟨none, 0, by rw [hn]⟩
        · exact ⟨_, cap, rfl⟩
      subst hsh
      have hs1 := hb1.size
      have k1 := (kX.bel hb1).al (.cells #[.slice ao pts.length cap, .int .i64 0, .int .i64 0] 60)
      have m1 := (kE.bel hb1).al (.cells #[.slice ao pts.length cap, .int .i64 0, .int .i64 0] 60)
      have HB1 := hid_intro (vb_a (vb_t hWb hb1) (.cells #[.slice ao pts.length cap, .int .i64 0, .int .i64 0] 60))
      clear ho
      go_wp2_with fail
      refine hpt.mono ?_; rintro r w2 ⟨hb2, f, rfl, hx2, hr2⟩
      obtain ⟨k_, a1, n1, q1, lo, hi, z, a2, n2, q2, ef⟩ := hx2.lit
      rw [ef]
      have k2 := k1.but hb2 (by omega)
      have m2 := m1.but hb2 (by omega)
      obtain ⟨c0, c1, c2, c3, c4, c5⟩ := k2.c6
      obtain ⟨z0, z1, z2, z3, z4, z5⟩ := k2.z6
      obtain ⟨V3, hV3⟩ : ∃ V3, ((((((w2.setCell ⟨w.heap.size, 0, none⟩ (.int .i64 k_)).setCell ⟨w.heap.size, 1, none⟩ (.slice a1 n1 q1)).setCell ⟨w.heap.size, 2, none⟩ (.int .i64 lo)).setCell ⟨w.heap.size, 3, none⟩ (.int .i64 hi)).setCell ⟨w.heap.size, 4, none⟩ (.bool z)).setCell ⟨w.heap.size, 5, none⟩ (.slice a2 n2 q2)) = V3 := ⟨_, rfl⟩
      have k3 : Bk V3 w.heap.size #[.int .i64 k_, .slice a1 n1 q1, .int .i64 lo, .int .i64 hi, .bool z, .slice a2 n2 q2] := hV3 ▸ (((((k2.set 0 (.int .i64 k_) rfl).set 1 (.slice a1 n1 q1) rfl).set 2 (.int .i64 lo) rfl).set 3 (.int .i64 hi) rfl).set 4 (.bool z) rfl).set 5 (.slice a2 n2 q2) rfl
      have hne : w.heap.size + 1 ≠ w.heap.size := by omega
      have m3 : Bk V3 (w.heap.size + 1) #[.int .i64 0] := hV3 ▸ (((((m2.away (a := ⟨w.heap.size, 0, none⟩) (v := .int .i64 k_) hne).away (a := ⟨w.heap.size, 1, none⟩) (v := .slice a1 n1 q1) hne).away (a := ⟨w.heap.size, 2, none⟩) (v := .int .i64 lo) hne).away (a := ⟨w.heap.size, 3, none⟩) (v := .int .i64 hi) hne).away (a := ⟨w.heap.size, 4, none⟩) (v := .bool z) hne).away (a := ⟨w.heap.size, 5, none⟩) (v := .slice a2 n2 q2) hne
      have hbV : But (· = w.heap.size) w2 V3 := hV3 ▸ (((((But.setr (o := 0) (But.refl (· = w.heap.size) w2) (.int .i64 k_)).setr (o := 1) (.slice a1 n1 q1)).setr (o := 2) (.int .i64 lo)).setr (o := 3) (.int .i64 hi)).setr (o := 4) (.bool z)).setr (o := 5) (.slice a2 n2 q2)
      have hsV : V3.heap.size = w2.heap.size := by rw [← hV3]; simp
      have hrb2 := hr2.lt
      obtain ⟨ao', n', cap', a', r0, r1, _, _, h1, _⟩ := hr2
      have hblk := hbV.block w1.heap.size hrb2 (by omega)
      have r0' := (World.cell?_of_block (w := w2) (w' := V3) (a := ⟨w1.heap.size, 0, none⟩) hblk).trans r0
      have r1' := (World.cell?_of_block (w := w2) (w' := V3) (a := ⟨w1.heap.size, 1, none⟩) hblk).trans r1
      have hen := ended_c V3 w1.heap.size ao' n' cap' a' r0' r1'
      have hdf : ((a' : Int) == (n' : Int)) = false := by
        cases l2 with
        | nil => simp at hl2
        | cons c l => simp at h1 ⊢; omega
      rw [hdf] at hen
      have HBV := hid_intro (But.ahead (But.ahead HB1.out hb2 (fun k hk => by omega)) hbV (fun k hk => by omega))
      clear hbV hblk r0 r1 r0' r1' h1 hdf hb2 hx2 k2 m2 k1 m1 hpt ef
      go_wp2_with fail
      refine hen.mono ?_; rintro r w4 ⟨rfl, hb4⟩
      go_wp2_with fail
      refine leaves_cons (f := 25) (args := #[.pointer (some ⟨w.heap.size, 0, none⟩), .pointer (some ⟨w.heap.size + 1, 0, none⟩)]) (by simp) (by simp [go_sem]) ?_
      refine (catch_panicking w.heap.size (w.heap.size + 1) (by omega) 90 [] w4 _ _ _ _ _ _ (k3.bel hb4) _ (m3.bel hb4)).mono ?_
      rintro e u' w5 ⟨rfl, rfl, k5, m5, hb5⟩
      obtain ⟨e0, e1, e2, e3, e4, e5⟩ := k5.c6
      have d0 := m5.c1
      simp [Leaves, settle, results, Tryz.results18, go_sem, e0, e1, e2, e3, e4, e5, d0]
      exact ⟨But.ahead (vb_t HBV.out hb4) hb5 (fun k hk => by omega), rfl⟩
    | true =>
      obtain rfl : l2 = [] := by simpa using hl2
      have HE : Hid (parseL pts = some x) := hid_intro (by unfold parseL; rw [e1])
      rw [HE.out]
      clear e1
      go_enter_defers Tryz.func18, Tryz.ntmps18
      go_wp2_with fail
      refine hp.mono ?_; rintro r w1 ⟨v, rfl, ho, hb1⟩
      have hpt := HSET.out v w1 ho hb1 _ rfl
      obtain ⟨ao, cap, hsh⟩ : ∃ ao cap, v = .slice ao pts.length cap := by
        rcases ho.2 with ⟨rfl, hn⟩ | ⟨g, cap, cur, rfl, _⟩
        · exact ⟨none, 0, by rw [hn]⟩
        · exact ⟨_, cap, rfl⟩
      subst hsh
      have hs1 := hb1.size
      have k1 := (kX.bel hb1).al (.cells #[.slice ao pts.length cap, .int .i64 0, .int .i64 0] 60)
      have m1 := (kE.bel hb1).al (.cells #[.slice ao pts.length cap, .int .i64 0, .int .i64 0] 60)
      have HB1 := hid_intro (vb_a (vb_t hWb hb1) (.cells #[.slice ao pts.length cap, .int .i64 0, .int .i64 0] 60))
      clear ho
      go_wp2_with fail
      refine hpt.mono ?_; rintro r w2 ⟨hb2, f, rfl, hx2, hr2⟩
      obtain ⟨k_, a1, n1, q1, lo, hi, z, a2, n2, q2, ef⟩ := hx2.lit
      rw [ef]
      have k2 := k1.but hb2 (by omega)
      have m2 := m1.but hb2 (by omega)
      obtain ⟨c0, c1, c2, c3, c4, c5⟩ := k2.c6
      obtain ⟨z0, z1, z2, z3, z4, z5⟩ := k2.z6
      obtain ⟨V3, hV3⟩ : ∃ V3, ((((((w2.setCell ⟨w.heap.size, 0, none⟩ (.int .i64 k_)).setCell ⟨w.heap.size, 1, none⟩ (.slice a1 n1 q1)).setCell ⟨w.heap.size, 2, none⟩ (.int .i64 lo)).setCell ⟨w.heap.size, 3, none⟩ (.int .i64 hi)).setCell ⟨w.heap.size, 4, none⟩ (.bool z)).setCell ⟨w.heap.size, 5, none⟩ (.slice a2 n2 q2)) = V3 := ⟨_, rfl⟩
      have k3 : Bk V3 w.heap.size #[.int .i64 k_, .slice a1 n1 q1, .int .i64 lo, .int .i64 hi, .bool z, .slice a2 n2 q2] := hV3 ▸ (((((k2.set 0 (.int .i64 k_) rfl).set 1 (.slice a1 n1 q1) rfl).set 2 (.int .i64 lo) rfl).set 3 (.int .i64 hi) rfl).set 4 (.bool z) rfl).set 5 (.slice a2 n2 q2) rfl
      have hne : w.heap.size + 1 ≠ w.heap.size := by omega
      have m3 : Bk V3 (w.heap.size + 1) #[.int .i64 0] := hV3 ▸ (((((m2.away (a := ⟨w.heap.size, 0, none⟩) (v := .int .i64 k_) hne).away (a := ⟨w.heap.size, 1, none⟩) (v := .slice a1 n1 q1) hne).away (a := ⟨w.heap.size, 2, none⟩) (v := .int .i64 lo) hne).away (a := ⟨w.heap.size, 3, none⟩) (v := .int .i64 hi) hne).away (a := ⟨w.heap.size, 4, none⟩) (v := .bool z) hne).away (a := ⟨w.heap.size, 5, none⟩) (v := .slice a2 n2 q2) hne
      have hbV : But (· = w.heap.size) w2 V3 := hV3 ▸ (((((But.setr (o := 0) (But.refl (· = w.heap.size) w2) (.int .i64 k_)).setr (o := 1) (.slice a1 n1 q1)).setr (o := 2) (.int .i64 lo)).setr (o := 3) (.int .i64 hi)).setr (o := 4) (.bool z)).setr (o := 5) (.slice a2 n2 q2)
      have hsV : V3.heap.size = w2.heap.size := by rw [← hV3]; simp
      have hrb2 := hr2.lt
      obtain ⟨ao', n', cap', a', r0, r1, _, _, h1, _⟩ := hr2
      have hblk := hbV.block w1.heap.size hrb2 (by omega)
      have r0' := (World.cell?_of_block (w := w2) (w' := V3) (a := ⟨w1.heap.size, 0, none⟩) hblk).trans r0
      have r1' := (World.cell?_of_block (w := w2) (w' := V3) (a := ⟨w1.heap.size, 1, none⟩) hblk).trans r1
      have hen := ended_c V3 w1.heap.size ao' n' cap' a' r0' r1'
      have hdf : ((a' : Int) == (n' : Int)) = true := by simp at h1 ⊢; omega
      rw [hdf] at hen
      have HBV := hid_intro (But.ahead (But.ahead HB1.out hb2 (fun k hk => by omega)) hbV (fun k hk => by omega))
      have HX := hid_intro (XI.weak (Y := (· < w.heap.size + 2)) hx2 (fun b hb => by simp; omega))
      have HXV : Hid (XI V3 (· < w.heap.size + 2) x f) := hid_intro (HX.out.but hbV (fun b hb => by show b < _; omega))
      have HEF := hid_intro ef
      clear hbV hblk r0 r1 r0' r1' h1 hdf hb2 hx2 k2 m2 k1 m1 hpt ef
      go_wp2_with fail
      refine hen.mono ?_; rintro r w4 ⟨rfl, hb4⟩
      have k4 := k3.bel hb4
      have m4 := m3.bel hb4
      obtain ⟨e0, e1, e2, e3, e4, e5⟩ := k4.c6
      obtain ⟨y0, y1, y2, y3, y4, y5⟩ := k4.z6
      have d0 := m4.c1
      have d1 := m4.frz 0
      have hne2 := hne.symm
      go_wp2_with fail
      refine leaves_cons (f := 25) (args := #[.pointer (some ⟨w.heap.size, 0, none⟩), .pointer (some ⟨w.heap.size + 1, 0, none⟩)]) (by simp) (by simp [go_sem]) ?_
      refine (catch_idle w.heap.size (w.heap.size + 1) _).mono ?_
      rintro e u' w5 ⟨rfl, rfl, rfl⟩
      simp [Leaves, settle, results, Tryz.results18, go_sem, e0, e1, e2, e3, e4, e5, d0]
      have hX0 : w.heap.size < w.heap.size + 2 := by omega
      have hX1 : w.heap.size + 1 < w.heap.size + 2 := by omega
      have hge : w.heap.size ≤ w.heap.size + 1 := by omega
      refine ⟨?_, f, by rw [HEF.out], XI.weak (X := fun b => b < w.heap.size + 2) ?_ (fun b hb => by omega)⟩
      · have hb := vb_t HBV.out hb4
        with_reducible repeat (first | exact hb | refine vb_s ?_ (Nat.le_refl _) _ | refine vb_s ?_ hge _)
      · have hx4 := HXV.out.kept hb4
        with_reducible repeat (first | exact hx4 | refine XI.set ?_ hX0 _ | refine XI.set ?_ hX1 _)

theorem parsed_any (s : ByteArray) (w : World) (hT : Tab w) (hg0 : 0 < w.heap.size) (hs : s.size ≤ 1099511627776) : Calls Tryz.prog 18 #[.string s] w (ParsR (parseS s) w) := by
  unfold parseS
  cases h : okS s
  · exact parsed_no s w hT hs h
  · rw [if_pos rfl]; exact parsed_ok s w hT hg0 h
set_option maxRecDepth 100000 in
set_option maxHeartbeats 1600000 in
theorem parse_any (s : ByteArray) (w : World) (hT : Tab w) (hg0 : 0 < w.heap.size) (hs : s.size ≤ 1099511627776) : Calls Tryz.prog 9 #[.string s] w (ParsR (parseS s) w) := by
  obtain ⟨P, hP⟩ : ∃ P, P = ParsR (parseS s) w := ⟨_, rfl⟩
  rw [← hP]
  have HP := hid_intro hP
  have hp := fun w (hT : Tab w) (hg0 : 0 < w.heap.size) => parsed_any s w hT hg0 hs
  have hB0 : Below w.heap.size w (w.alloc (.cells #[.int .i64 0, .slice none 0 0, .int .i64 0, .int .i64 0, .bool false, .slice none 0 0] 26)) := vb_a (Below.refl _ _) _
  have hp1 := hp _ (hT.below hB0) (Nat.lt_of_lt_of_le hg0 hB0.size)
  clear hp hP hs hT
  cases e1 : parseS s with
  | none =>
    rw [e1] at hp1
    go_enter Tryz.func9, Tryz.ntmps9
    go_wp2_with fail
    refine hp1.mono ?_; rintro r w1 ⟨hb1, rfl⟩
    have k := Bk.bel (Bk.new _ _ _) hb1
    obtain ⟨c0, c1, c2, c3, c4, c5⟩ := k.c6
    obtain ⟨z0, z1, z2, z3, z4, z5⟩ := k.z6
    have HB := hid_intro (vb_t hB0 hb1)
    clear k
    go_wp2_with fail
    refine bodyPost_ret (v := .tuple #[.agg zX, .int .i64 90]) (by simp [results, Tryz.results9, go_sem, c0, c1, c2, c3, c4, c5]) rfl ?_
    rw [HP.out, e1]
    refine ⟨?_, rfl⟩
    with_reducible repeat (first | exact HB.out | refine vb_s ?_ (Nat.le_refl _) _)
  | some t =>
    rw [e1] at hp1
    go_enter Tryz.func9, Tryz.ntmps9
    go_wp2_with fail
    refine hp1.mono ?_; rintro r w1 ⟨hb1, f, rfl, hx1⟩
    obtain ⟨k_, a1, n1, q1, lo, hi, z, a2, n2, q2, ef⟩ := hx1.lit
    rw [ef]
    have HEF := hid_intro ef
    have k := Bk.bel (Bk.new _ _ _) hb1
    obtain ⟨c0, c1, c2, c3, c4, c5⟩ := k.c6
    obtain ⟨z0, z1, z2, z3, z4, z5⟩ := k.z6
    have HB := hid_intro (vb_t hB0 hb1)
    have HX : Hid (XI w1 (· < w.heap.size + 1) t f) := hid_intro (hx1.weak (fun b hb => by simp; omega))
    clear k hx1 ef
    go_wp2_with fail
    refine bodyPost_ret (v := .tuple #[.agg #[.int .i64 k_, .slice a1 n1 q1, .int .i64 lo, .int .i64 hi, .bool z, .slice a2 n2 q2], .int .i64 0]) (by simp [results, Tryz.results9, go_sem, c0, c1, c2, c3, c4, c5]) rfl ?_
    rw [HP.out, e1]
    refine ⟨?_, f, by rw [HEF.out], XI.weak (X := fun b => b < w.heap.size + 1) ?_ (fun b hb => by omega)⟩
    · with_reducible repeat (first | exact HB.out | refine vb_s ?_ (Nat.le_refl _) _)
    · with_reducible repeat (first | exact HX.out | refine XI.set ?_ (Nat.lt_succ_self _) _)
end Go.Proofs.YtppilokmgdpnnaaGreatDoor
