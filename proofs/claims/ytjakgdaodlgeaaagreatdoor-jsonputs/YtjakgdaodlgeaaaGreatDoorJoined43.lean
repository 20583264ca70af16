/-
  json.judged and json.Read: a value and its verdict, of any bytes. Conditions: the tables as they are laid.
-/
import Derived.Test.YtjakgdaodlgeaaaGreatDoorJoined41
import Derived.Test.YtjakgdaodlgeaaaGreatDoorJoined42
namespace Go.Proofs.YtjakgdaodlgeaaaGreatDoor
open Go.RowKit Go.Maps
attribute [local go_sem] setCell_drewN alloc_drewN

def JdR (x : Except (Int × Int) JV) (w : World) (r : Ending) (w' : World) : Prop :=
 Below w.heap.size w w' ∧ match x with
  | .error p => r = .returned (.tuple #[.agg zV7, .agg #[.int .i64 p.1, .int .i64 p.2]])
  | .ok y => ∃ f, r = .returned (.tuple #[va f, .agg #[.int .i64 1, .int .i64 0]]) ∧ VI w' (· < w.heap.size) y f
theorem JR.side2 [Ex] {W : World} {l : List UInt8} {v : Value} {lm : Nat → Int} {rb : Nat} {s : SS} {ov : Value} {hs : List HC} {w w' : World} (h : JR W l v lm rb s ov hs w) {c : Nat} (hc : Ex.E c) (hne : c ≠ rb) (hge : W.heap.size ≤ c) (hb : But (· = c) w w') : JR W l v lm rb s ov hs w' := by
 have he : w'.heap[rb]? = w.heap[rb]? := hb.block rb h.rd.lt (fun e => hne e.symm)
 refine ⟨fun j hj => ⟨(World.cell?_of_block (w := w) (w' := w') he).trans (h.rd j hj).1, by have := (h.rd j hj).2; unfold World.frozen? at this ⊢; rw [he]; exact this⟩, h.st.side (hb.mono fun b e => by cases e; exact hc), h.eq, h.sn, ?_, h.lo, h.le, h.n1, h.n2, h.n3⟩
 exact h.bel.trans ⟨hb.os, hb.tape, hb.output, hb.size, fun k hk => hb.block k (by have := h.rd.lt; have := h.lo; omega) (by omega)⟩
theorem but_ahead {X : Nat → Prop} {W a b : World} (hW : Below W.heap.size W a) (h : But X a b) (hX : ∀ k, X k → W.heap.size ≤ k) : Below W.heap.size W b :=
 ⟨h.os.trans hW.os, h.tape.trans hW.tape, h.output.trans hW.output, Nat.le_trans hW.size h.size, fun k hk => (h.block k (Nat.lt_of_lt_of_le hk hW.size) (fun hx => absurd (hX k hx) (by omega))).trans (hW.block k hk)⟩
def lmOf (b1 b2 b3 b4 b5 : Int) : Nat → Int := fun j => [b1, b2, b3, b4, b5].getD j 0
theorem rd_new (w : World) (v : Value) (b1 b2 b3 b4 b5 : Int) (T : TypeId) : Rd (w.alloc (.cells #[v, .int .i64 0, .int .i64 b1, .int .i64 b2, .int .i64 b3, .int .i64 b4, .int .i64 b5, .slice none 0 0, .int .i64 0, .int .i64 0] T)) w.heap.size (RF v (lmOf b1 b2 b3 b4 b5) 0 (.slice none 0 0) 0 0) := fun j hj => by
 have k := Bj.new w #[v, .int .i64 0, .int .i64 b1, .int .i64 b2, .int .i64 b3, .int .i64 b4, .int .i64 b5, .slice none 0 0, .int .i64 0, .int .i64 0] T
 refine ⟨?_, k.frz j⟩
 rw [k.cell j]
 match j, hj with
 | 0, _ => rfl
 | 1, _ => rfl
 | 2, _ => rfl
 | 3, _ => rfl
 | 4, _ => rfl
 | 5, _ => rfl
 | 6, _ => rfl
 | 7, _ => rfl
 | 8, _ => rfl
 | 9, _ => rfl
set_option maxRecDepth 100000 in
set_option maxHeartbeats 1600000 in
theorem judged_long (l : List UInt8) (v : Value) (b1 b2 b3 b4 b5 : Int) (w : World) (hB : Lx.Byt w v l) (hl : 1048576 < l.length) :
  Calls Tryz.prog 19 #[v, limV b1 b2 b3 b4 b5] w (JdR (.error (4, 1)) w) := by
 have hmf : ∀ (fn : Fn) (first cap : Array Value) (w : World), (Instr.makeFunc fn first cap).run Tryz.prog w = .ok (.func fn first cap) w := fun _ _ _ _ => rfl
 obtain ⟨ao, cap, rfl⟩ := byt_shape hB
 obtain ⟨W0, hW0⟩ : ∃ W0, ((w.alloc (.cells #[.int .i64 b1, .int .i64 b2, .int .i64 b3, .int .i64 b4, .int .i64 b5] 24)).alloc (.cells #[.int .i64 0, .bool false, .string ⟨#[]⟩, .int .i64 0, .string ⟨#[]⟩, .slice none 0 0, .slice none 0 0] 31)).alloc (.cells #[.int .i64 0, .int .i64 0] 34) = W0 := ⟨_, rfl⟩
 have hWb : Below w.heap.size w W0 := hW0 ▸ vb_a (vb_a (vb_a (Below.refl _ _) _) _) _
 have kX : Bj W0 (w.heap.size + 1) zV7 := hW0 ▸ (Bj.new' _ _ _ _ (by simp)).al _
 have kE : Bj W0 (w.heap.size + 2) #[.int .i64 0, .int .i64 0] := hW0 ▸ Bj.new' _ _ _ _ (by simp)
 have hI : (1048576 : Int) < (l.length : Int) := by omega
 have cx := fun w => exceeded_any 1 w
 unfold limV
 clear hB hl
 go_enter_defers Tryz.func19, Tryz.ntmps19
 go_wp2_with (go_at_call 26; refine (cx _).mono ?_; rintro r w1 ⟨rfl, hb1⟩; unfold verdV)
 refine leaves_cons (f := 31) (args := #[.pointer (some ⟨w.heap.size + 1, 0, none⟩), .pointer (some ⟨w.heap.size + 2, 0, none⟩)]) (by simp) (by simp [go_sem]) ?_
 refine (catch_panicking (w.heap.size + 1) (w.heap.size + 2) (by omega) 4 1 [] w1 _ _ _ _ _ _ _ (kX.bel hb1) _ _ (kE.bel hb1)).mono ?_
 rintro e u' w2 ⟨rfl, rfl, k2, m2, hb2⟩
 obtain ⟨c0, c1, c2, c3, c4, c5, c6⟩ := k2.c7
 obtain ⟨d0, d1⟩ := m2.c2
 simp [Leaves, settle, results, Tryz.results19, go_sem, c0, c1, c2, c3, c4, c5, c6, d0, d1]
 exact ⟨but_ahead (vb_t hWb hb1) hb2 (fun k hk => by omega), rfl⟩
set_option maxRecDepth 100000 in
set_option maxHeartbeats 3200000 in
theorem judged_run (l : List UInt8) (v : Value) (b1 b2 b3 b4 b5 : Int) (w : World) (a : Addr) (hE : Lx.Env w) (hD : Env w a) (hB : Lx.Byt w v l) (hl : l.length ≤ 1048576) (h3 : 0 ≤ b3 ∧ b3 ≤ 1000000) :
  Calls Tryz.prog 19 #[v, limV b1 b2 b3 b4 b5] w (JdR (judgedS l ⟨b1, b2, b3⟩) w) := by
 have hmf : ∀ (fn : Fn) (first cap : Array Value) (w : World), (Instr.makeFunc fn first cap).run Tryz.prog w = .ok (.func fn first cap) w := fun _ _ _ _ => rfl
 obtain ⟨P, hP⟩ : ∃ P, P = JdR (judgedS l ⟨b1, b2, b3⟩) w := ⟨_, rfl⟩
 rw [← hP]
 have HP := hid_intro hP
 obtain ⟨ao, cap, rfl⟩ := byt_shape hB
 obtain ⟨W0, hW0⟩ : ∃ W0, ((w.alloc (.cells #[.int .i64 b1, .int .i64 b2, .int .i64 b3, .int .i64 b4, .int .i64 b5] 24)).alloc (.cells #[.int .i64 0, .bool false, .string ⟨#[]⟩, .int .i64 0, .string ⟨#[]⟩, .slice none 0 0, .slice none 0 0] 31)).alloc (.cells #[.int .i64 0, .int .i64 0] 34) = W0 := ⟨_, rfl⟩
 have hWb : Below w.heap.size w W0 := hW0 ▸ vb_a (vb_a (vb_a (Below.refl _ _) _) _) _
 have hz0 : W0.heap.size = w.heap.size + 3 := by rw [← hW0]; simp
 have kL : Bj W0 w.heap.size #[.int .i64 b1, .int .i64 b2, .int .i64 b3, .int .i64 b4, .int .i64 b5] := hW0 ▸ ((Bj.new _ _ _).al _).al _
 have kX : Bj W0 (w.heap.size + 1) zV7 := hW0 ▸ (Bj.new' _ _ _ _ (by simp)).al _
 have kE : Bj W0 (w.heap.size + 2) #[.int .i64 0, .int .i64 0] := hW0 ▸ Bj.new' _ _ _ _ (by simp)
 have l0 := kL.cell 0
 have l1 := kL.cell 1
 have l2 := kL.cell 2
 have l3 := kL.cell 3
 have l4 := kL.cell 4
 simp only [List.getElem?_toArray, List.getElem?_cons_zero, List.getElem?_cons_succ] at l0 l1 l2 l3 l4
 obtain ⟨W3, hW3⟩ : ∃ W3, W0.alloc (.cells #[.slice ao l.length cap, .int .i64 0, .int .i64 b1, .int .i64 b2, .int .i64 b3, .int .i64 b4, .int .i64 b5, .slice none 0 0, .int .i64 0, .int .i64 0] 77) = W3 := ⟨_, rfl⟩
 have hb3 : Below W0.heap.size W0 W3 := hW3 ▸ vb_a (Below.refl _ _) _
 have hw3 : Below w.heap.size w W3 := vb_t hWb hb3
 have hlt3 : W0.heap.size < W3.heap.size := by rw [← hW3]; simp
 have kX3 := kX.bel hb3
 have kE3 := kE.bel hb3
 obtain ⟨X, hX⟩ : ∃ X : Ex, X = ⟨fun b => b < W0.heap.size⟩ := ⟨_, rfl⟩
 have hXE : ∀ b, X.E b ↔ b < W0.heap.size := fun b => by rw [hX]; exact Iff.rfl
 have hJ : JR w l (.slice ao l.length cap) (lmOf b1 b2 b3 b4 b5) W0.heap.size ⟨0, [], 0, 0⟩ (.slice none 0 0) [] W3 := ⟨hW3 ▸ rd_new W0 _ _ _ _ _ _ _, ST.nil _ _ (fun b hb => Nat.lt_trans ((hXE b).1 hb) hlt3), rfl, fun h hh => by simp at hh, hw3, hWb.size, Nat.zero_le _, Nat.zero_le _, fun h hh => by simp at hh, Nat.le_refl _⟩
 have HTX := hid_intro (text_any w l (.slice ao l.length cap) (lmOf b1 b2 b3 b4 b5) W0.heap.size W3 a hE hD hB hJ hl h3)
 have hM : LMof (lmOf b1 b2 b3 b4 b5) = ⟨b1, b2, b3⟩ := rfl
 rw [hM] at HTX
 have hI : ¬ (1048576 : Int) < (l.length : Int) := by omega
 have hlN : ¬ 1048576 < l.length := by omega
 have HE1 : X.E (w.heap.size + 1) := (hXE _).2 (by omega)
 have HE2 : X.E (w.heap.size + 2) := (hXE _).2 (by omega)
 unfold limV
 have HW3 := hid_intro hW3
 have HZ0 := hid_intro hz0
 clear hP hE hD hB hl h3 hJ hb3 kL kX kE hW3 hz0
 cases h1 : textS l ⟨b1, b2, b3⟩ with
 | error e =>
  have HZ : Hid (judgedS l ⟨b1, b2, b3⟩ = .error (3, (e : Int))) := hid_intro (by unfold judgedS; rw [if_neg hlN, h1])
  rw [h1] at HTX
  have HT : Hid (Calls Tryz.prog 32 #[.pointer (some ⟨W0.heap.size, 0, none⟩)] W3 (fun r w1 => r = stopE 3 (e : Int) ∧ Below W0.heap.size W3 w1)) := HTX
  clear HTX h1
  go_enter_defers Tryz.func19, Tryz.ntmps19
  go_wp2_with fail
  rw [HW3.out]
  refine HT.out.mono ?_; rintro r w1 ⟨rfl, hb1⟩; unfold stopE verdV
  go_wp2_with fail
  have hz0 := HZ0.out
  refine leaves_cons (f := 31) (args := #[.pointer (some ⟨w.heap.size + 1, 0, none⟩), .pointer (some ⟨w.heap.size + 2, 0, none⟩)]) (by simp) (by simp [go_sem]) ?_
  have hk1 : ∀ b, b < W0.heap.size → w1.heap[b]? = W3.heap[b]? := fun b hb => hb1.block b hb
  have kX4 : Bj w1 (w.heap.size + 1) zV7 := by obtain ⟨T, hT⟩ := kX3; exact ⟨T, (hk1 _ (by omega)).trans hT⟩
  have kE4 : Bj w1 (w.heap.size + 2) #[.int .i64 0, .int .i64 0] := by obtain ⟨T, hT⟩ := kE3; exact ⟨T, (hk1 _ (by omega)).trans hT⟩
  refine (catch_panicking (w.heap.size + 1) (w.heap.size + 2) (by omega) 3 (e : Int) [] w1 _ _ _ _ _ _ _ kX4 _ _ kE4).mono ?_
  rintro e u' w2 ⟨rfl, rfl, k2, m2, hb2⟩
  obtain ⟨c0, c1, c2, c3, c4, c5, c6⟩ := k2.c7
  obtain ⟨d0, d1⟩ := m2.c2
  simp [Leaves, settle, results, Tryz.results19, go_sem, c0, c1, c2, c3, c4, c5, c6, d0, d1]
  rw [HP.out, HZ.out]
  exact ⟨but_ahead (hw3.trans (hb1.mono hWb.size)) hb2 (fun k hk => by omega), rfl⟩
 | ok y =>
  rw [h1] at HTX
  have HT : Hid (Calls Tryz.prog 32 #[.pointer (some ⟨W0.heap.size, 0, none⟩)] W3 (TxOk w l (.slice ao l.length cap) (lmOf b1 b2 b3 b4 b5) W0.heap.size W3 y)) := HTX
  have HJE : Hid (judgedS l ⟨b1, b2, b3⟩ = if b1 < (y.2.dp : Int) then .error (4, 2) else if y.2.ps ≠ 0 then .error (4, (y.2.ps : Int)) else .ok y.1) := hid_intro (by unfold judgedS; rw [if_neg hlN, h1])
  clear HTX h1
  go_enter_defers Tryz.func19, Tryz.ntmps19
  go_wp2_with fail
  rw [HW3.out]
  refine HT.out.mono ?_; rintro r w1 ⟨f, ov, hs, rfl, hj1, hv1, hb1⟩
  have hz0 := HZ0.out
  obtain ⟨k_, n_, g_, e_, t_, a1, m1, c1, a2, m2, c2, hva, hsv⟩ := hv1.lit
  rw [hva]
  have hk1 : ∀ b, b < W0.heap.size → w1.heap[b]? = W3.heap[b]? := fun b hb => hb1.block b hb
  have kX4 : Bj w1 (w.heap.size + 1) #[.int .i64 0, .bool false, .string ⟨#[]⟩, .int .i64 0, .string ⟨#[]⟩, .slice none 0 0, .slice none 0 0] := by obtain ⟨T, hT⟩ := kX3; exact ⟨T, (hk1 _ (by omega)).trans hT⟩
  have kE4 : Bj w1 (w.heap.size + 2) #[.int .i64 0, .int .i64 0] := by obtain ⟨T, hT⟩ := kE3; exact ⟨T, (hk1 _ (by omega)).trans hT⟩
  obtain ⟨c0, c1_, c2_, c3, c4, c5, c6⟩ := kX4.c7
  obtain ⟨z0, z1, z2, z3, z4, z5, z6⟩ := kX4.z7
  obtain ⟨W5, hW5⟩ : ∃ W5, set7 w1 (w.heap.size + 1) (.int .i64 k_) (.bool n_) (.string g_) (.int .i64 e_) (.string t_) (.slice a1 m1 c1) (.slice a2 m2 c2) = W5 := ⟨_, rfl⟩
  have hb5 : But (· = w.heap.size + 1) w1 W5 := hW5 ▸ set7_but (X := (· = w.heap.size + 1)) (But.refl _ w1) (Or.inl rfl) _ _ _ _ _ _ _
  have kX5 : Bj W5 (w.heap.size + 1) #[.int .i64 k_, .bool n_, .string g_, .int .i64 e_, .string t_, .slice a1 m1 c1, .slice a2 m2 c2] := hW5 ▸ bj_set7 kX4 _ _ _ _ _ _ _
  have kE5 : Bj W5 (w.heap.size + 2) #[.int .i64 0, .int .i64 0] := kE4.but hb5 (by omega)
  have hj5 := hj1.side2 HE1 (by omega) (by omega) hb5
  have hv5 := vi_side hv1 (Or.inl HE1) hb5
  have HKL := hid_intro (keepLimits_any w l _ (lmOf b1 b2 b3 b4 b5) W0.heap.size _ ov hs W5 hj5)
  have hbW5 : Below w.heap.size w W5 := but_ahead (hw3.trans (hb1.mono hWb.size)) hb5 (fun k hk => by omega)
  unfold set7 at hW5
  have HVA := hid_intro hva
  clear hj1 hv1 hva hsv hj5 HT kX4 kE4 hz0
  by_cases hd : b1 < (y.2.dp : Int)
  ·have HZ : Hid (judgedS l ⟨b1, b2, b3⟩ = .error (4, 2)) := hid_intro (by rw [HJE.out, if_pos hd])
   have HK : Hid (Calls Tryz.prog 33 #[.pointer (some ⟨W0.heap.size, 0, none⟩)] W5 (fun r w6 => r = stopE 4 2 ∧ Below W5.heap.size W5 w6)) := hid_intro (HKL.out.mono fun r w6 hr => by
    have h0 := hr.1
    rw [if_pos (show lmOf b1 b2 b3 b4 b5 0 < (y.2.dp : Int) from hd)] at h0
    exact ⟨h0, hr.2⟩)
   clear HKL hv5 hd
   go_wp2_with (go_at_call 33; refine HK.out.mono ?_; rintro r w6 ⟨rfl, hb6⟩; unfold stopE verdV)
   refine leaves_cons (f := 31) (args := #[.pointer (some ⟨w.heap.size + 1, 0, none⟩), .pointer (some ⟨w.heap.size + 2, 0, none⟩)]) (by simp) (by simp [go_sem]) ?_
   have hz0 := HZ0.out
   refine (catch_panicking (w.heap.size + 1) (w.heap.size + 2) (by omega) 4 2 [] w6 _ _ _ _ _ _ _ (kX5.bel hb6) _ _ (kE5.bel hb6)).mono ?_
   rintro e u' w7 ⟨rfl, rfl, k2, m2, hb7⟩
   obtain ⟨c0, c1, c2, c3, c4, c5, c6⟩ := k2.c7
   obtain ⟨d0, d1⟩ := m2.c2
   simp [Leaves, settle, results, Tryz.results19, go_sem, c0, c1, c2, c3, c4, c5, c6, d0, d1]
   rw [HP.out, HZ.out]
   exact ⟨but_ahead (vb_t hbW5 hb6) hb7 (fun k hk => by omega), rfl⟩
  ·by_cases hp : y.2.ps = 0
   ·have HZ : Hid (judgedS l ⟨b1, b2, b3⟩ = .ok y.1) := hid_intro (by rw [HJE.out, if_neg hd, if_neg (by simpa using hp)])
    have HK : Hid (Calls Tryz.prog 33 #[.pointer (some ⟨W0.heap.size, 0, none⟩)] W5 (fun r w6 => r = .returned (.tuple #[]) ∧ Below W5.heap.size W5 w6)) := hid_intro (HKL.out.mono fun r w6 hr => by
     have h0 := hr.1
     rw [if_neg (show ¬ lmOf b1 b2 b3 b4 b5 0 < (y.2.dp : Int) from hd), if_neg (by simpa using hp)] at h0
     exact ⟨h0, hr.2⟩)
    have HV5 : Hid (VI W5 (fun b => b < W0.heap.size) y.1 f) := hid_intro (hv5.carry fun b hb _ => ⟨rfl, fun e => hb (Or.inl ((hXE b).2 e))⟩)
    have hne : w.heap.size + 1 ≠ w.heap.size + 2 := by omega
    have hne2 : w.heap.size + 2 ≠ w.heap.size + 1 := by omega
    clear HKL hv5 hd hp
    go_wp2_with (go_at_call 33; refine HK.out.mono ?_; rintro r w6 ⟨rfl, hb6⟩; obtain ⟨e0, e1, e2, e3, e4, e5, e6⟩ := (kX5.bel hb6).c7; obtain ⟨y0, y1, y2, y3, y4, y5, y6⟩ := (kX5.bel hb6).z7; obtain ⟨d0, d1⟩ := (kE5.bel hb6).c2; obtain ⟨u0, u1⟩ := (kE5.bel hb6).z2)
    refine leaves_cons (f := 31) (args := #[.pointer (some ⟨w.heap.size + 1, 0, none⟩), .pointer (some ⟨w.heap.size + 2, 0, none⟩)]) (by simp) (by simp [go_sem]) ?_
    refine (catch_idle (w.heap.size + 1) (w.heap.size + 2) _).mono ?_
    rintro e u' w7 ⟨rfl, rfl, rfl⟩
    simp [Leaves, settle, results, Tryz.results19, go_sem, e0, e1, e2, e3, e4, e5, e6, d0, d1]
    rw [HP.out, HZ.out]
    have hz0 := HZ0.out
    have hv6 := HV5.out.kept hb6
    have hb67 := vb_t hbW5 hb6
    have hb8 : But (fun b => b = w.heap.size + 1 ∨ b = w.heap.size + 1 + 1) w6 (((set7 w6 (w.heap.size + 1) (.int .i64 k_) (.bool n_) (.string g_) (.int .i64 e_) (.string t_) (.slice a1 m1 c1) (.slice a2 m2 c2)).setCell ⟨w.heap.size + 1 + 1, 0, none⟩ (.int .i64 1)).setCell ⟨w.heap.size + 1 + 1, 1, none⟩ (.int .i64 0)) := ((set7_but (X := fun b => b = w.heap.size + 1 ∨ b = w.heap.size + 1 + 1) (But.refl _ w6) (Or.inl (Or.inl rfl)) _ _ _ _ _ _ _).set (p := ⟨w.heap.size + 1 + 1, 0, none⟩) (Or.inl (Or.inr rfl)) _).set (p := ⟨w.heap.size + 1 + 1, 1, none⟩) (Or.inl (Or.inr rfl)) _
    exact ⟨but_ahead hb67 hb8 (fun k hk => by omega), f, by rw [HVA.out], hv6.carry fun b hb hlt => ⟨hb8.block b hlt (fun e => hb (by omega)), fun e => hb (by omega)⟩⟩
   ·have HZ : Hid (judgedS l ⟨b1, b2, b3⟩ = .error (4, (y.2.ps : Int))) := hid_intro (by rw [HJE.out, if_neg hd, if_pos (by simpa using hp)])
    have HK : Hid (Calls Tryz.prog 33 #[.pointer (some ⟨W0.heap.size, 0, none⟩)] W5 (fun r w6 => r = stopE 4 (y.2.ps : Int) ∧ Below W5.heap.size W5 w6)) := hid_intro (HKL.out.mono fun r w6 hr => by
     have h0 := hr.1
     rw [if_neg (show ¬ lmOf b1 b2 b3 b4 b5 0 < (y.2.dp : Int) from hd), if_pos (by simpa using hp)] at h0
     exact ⟨h0, hr.2⟩)
    clear HKL hv5 hd hp
    go_wp2_with (go_at_call 33; refine HK.out.mono ?_; rintro r w6 ⟨rfl, hb6⟩; unfold stopE verdV)
    refine leaves_cons (f := 31) (args := #[.pointer (some ⟨w.heap.size + 1, 0, none⟩), .pointer (some ⟨w.heap.size + 2, 0, none⟩)]) (by simp) (by simp [go_sem]) ?_
    have hz0 := HZ0.out
    refine (catch_panicking (w.heap.size + 1) (w.heap.size + 2) (by omega) 4 (y.2.ps : Int) [] w6 _ _ _ _ _ _ _ (kX5.bel hb6) _ _ (kE5.bel hb6)).mono ?_
    rintro e u' w7 ⟨rfl, rfl, k2, m2, hb7⟩
    obtain ⟨c0, c1, c2, c3, c4, c5, c6⟩ := k2.c7
    obtain ⟨d0, d1⟩ := m2.c2
    simp [Leaves, settle, results, Tryz.results19, go_sem, c0, c1, c2, c3, c4, c5, c6, d0, d1]
    rw [HP.out, HZ.out]
    exact ⟨but_ahead (vb_t hbW5 hb6) hb7 (fun k hk => by omega), rfl⟩
theorem judged_any (l : List UInt8) (v : Value) (b1 b2 b3 b4 b5 : Int) (w : World) (a : Addr) (hE : Lx.Env w) (hD : Env w a) (hB : Lx.Byt w v l) (h3 : 0 ≤ b3 ∧ b3 ≤ 1000000) :
  Calls Tryz.prog 19 #[v, limV b1 b2 b3 b4 b5] w (JdR (judgedS l ⟨b1, b2, b3⟩) w) := by
 by_cases h : 1048576 < l.length
 ·have := judged_long l v b1 b2 b3 b4 b5 w hB h
  unfold judgedS
  rw [if_pos h]
  exact this
 ·exact judged_run l v b1 b2 b3 b4 b5 w a hE hD hB (by omega) h3
theorem bounded_in (a m : Int) (hm : 0 < m) : 0 < boundedL a m ∧ boundedL a m ≤ m := by
 unfold boundedL
 split <;> omega
def bm (a1 a2 a3 : Int) : LM := ⟨boundedL a1 10000, boundedL a2 65536, boundedL a3 1000000⟩
set_option maxRecDepth 100000 in
set_option maxHeartbeats 1600000 in
theorem read_any (l : List UInt8) (v : Value) (a1 a2 a3 a4 a5 : Int) (w : World) (a : Addr) (hE : Lx.Env w) (hD : Env w a) (hB : Lx.Byt w v l) :
  Calls Tryz.prog 9 #[v, limV a1 a2 a3 a4 a5] w (JdR (judgedS l (bm a1 a2 a3)) w) := by
 obtain ⟨P, hP⟩ : ∃ P, P = JdR (judgedS l (bm a1 a2 a3)) w := ⟨_, rfl⟩
 rw [← hP]
 have HP := hid_intro hP
 obtain ⟨W0, hW0⟩ : ∃ W0, ((w.alloc (.cells #[.int .i64 a1, .int .i64 a2, .int .i64 a3, .int .i64 a4, .int .i64 a5] 24)).alloc (.cells #[.int .i64 0, .bool false, .string ⟨#[]⟩, .int .i64 0, .string ⟨#[]⟩, .slice none 0 0, .slice none 0 0] 31)).alloc (.cells #[.int .i64 0, .int .i64 0] 34) = W0 := ⟨_, rfl⟩
 have hWb : Below w.heap.size w W0 := hW0 ▸ vb_a (vb_a (vb_a (Below.refl _ _) _) _) _
 have hz0 : W0.heap.size = w.heap.size + 3 := by rw [← hW0]; simp
 have HZ0 := hid_intro hz0
 have kL : Bj W0 w.heap.size #[.int .i64 a1, .int .i64 a2, .int .i64 a3, .int .i64 a4, .int .i64 a5] := hW0 ▸ ((Bj.new _ _ _).al _).al _
 have kX : Bj W0 (w.heap.size + 1) #[.int .i64 0, .bool false, .string ⟨#[]⟩, .int .i64 0, .string ⟨#[]⟩, .slice none 0 0, .slice none 0 0] := hW0 ▸ (Bj.new' _ _ _ _ (by simp)).al _
 have kE : Bj W0 (w.heap.size + 2) #[.int .i64 0, .int .i64 0] := hW0 ▸ Bj.new' _ _ _ _ (by simp)
 have l0 := kL.cell 0
 have l1 := kL.cell 1
 have l2 := kL.cell 2
 have l3 := kL.cell 3
 have l4 := kL.cell 4
 simp only [List.getElem?_toArray, List.getElem?_cons_zero, List.getElem?_cons_succ] at l0 l1 l2 l3 l4
 have HBO := hid_intro (bound_any a1 a2 a3 a4 a5 W0)
 have HJD : Hid (∀ w1, Below W0.heap.size W0 w1 → Calls Tryz.prog 19 #[v, limV (boundedL a1 10000) (boundedL a2 65536) (boundedL a3 1000000) (boundedL a4 65536) (boundedL a5 16384)] w1 (JdR (judgedS l (bm a1 a2 a3)) w1)) := hid_intro (fun w1 hb => judged_any l v _ _ _ _ _ w1 a (hE.below (vb_t hWb hb)) (hD.below (vb_t hWb hb)) (hB.below (vb_t hWb hb)) (by have := bounded_in a3 1000000 (by decide); omega))
 obtain ⟨ao, cap, rfl⟩ := byt_shape hB
 unfold limV at HBO HJD ⊢
 clear hP hE hD hB hz0 kL
 cases h1 : judgedS l (bm a1 a2 a3) with
 | error p =>
  rw [h1] at HP HJD
  clear h1
  go_enter Tryz.func9, Tryz.ntmps9
  go_wp2_with fail
  refine HBO.out.mono ?_; rintro r w1 ⟨rfl, hb1⟩
  go_wp2_with fail
  refine (HJD.out w1 hb1).mono ?_; rintro r w2 ⟨hb2, rfl⟩
  have hb02 := vb_t hb1 hb2
  obtain ⟨c0, c1, c2, c3, c4, c5, c6⟩ := (kX.bel hb02).c7
  obtain ⟨z0, z1, z2, z3, z4, z5, z6⟩ := (kX.bel hb02).z7
  obtain ⟨d0, d1⟩ := (kE.bel hb02).c2
  obtain ⟨u0, u1⟩ := (kE.bel hb02).z2
  have hne : w.heap.size + 1 ≠ w.heap.size + 2 := by omega
  have hne2 : w.heap.size + 2 ≠ w.heap.size + 1 := by omega
  unfold zV7
  go_wp2_with fail
  refine bodyPost_ret (v := .tuple #[.agg zV7, .agg #[.int .i64 p.1, .int .i64 p.2]]) (by simp [results, Tryz.results9, go_sem, zV7, c0, c1, c2, c3, c4, c5, c6, d0, d1]) rfl ?_
  rw [HP.out]
  have hb8 : But (fun b => b = w.heap.size + 1 ∨ b = w.heap.size + 1 + 1) w2 (((set7 w2 (w.heap.size + 1) (.int .i64 0) (.bool false) (.string ⟨#[]⟩) (.int .i64 0) (.string ⟨#[]⟩) (.slice none 0 0) (.slice none 0 0)).setCell ⟨w.heap.size + 1 + 1, 0, none⟩ (.int .i64 p.1)).setCell ⟨w.heap.size + 1 + 1, 1, none⟩ (.int .i64 p.2)) := ((set7_but (X := fun b => b = w.heap.size + 1 ∨ b = w.heap.size + 1 + 1) (But.refl _ w2) (Or.inl (Or.inl rfl)) _ _ _ _ _ _ _).set (p := ⟨w.heap.size + 1 + 1, 0, none⟩) (Or.inl (Or.inr rfl)) _).set (p := ⟨w.heap.size + 1 + 1, 1, none⟩) (Or.inl (Or.inr rfl)) _
  exact ⟨but_ahead (vb_t hWb hb02) hb8 (fun k hk => by omega), rfl⟩
 | ok y =>
  rw [h1] at HP HJD
  clear h1
  go_enter Tryz.func9, Tryz.ntmps9
  go_wp2_with fail
  refine HBO.out.mono ?_; rintro r w1 ⟨rfl, hb1⟩
  go_wp2_with fail
  refine (HJD.out w1 hb1).mono ?_; rintro r w2 ⟨hb2, f, rfl, hv2⟩
  obtain ⟨k_, n_, g_, e_, t_, s1, m1, q1, s2, m2, q2, hva, hsv⟩ := hv2.lit
  have HVA := hid_intro hva
  rw [hva]
  have hb02 := vb_t hb1 hb2
  obtain ⟨c0, c1, c2, c3, c4, c5, c6⟩ := (kX.bel hb02).c7
  obtain ⟨z0, z1, z2, z3, z4, z5, z6⟩ := (kX.bel hb02).z7
  obtain ⟨d0, d1⟩ := (kE.bel hb02).c2
  obtain ⟨u0, u1⟩ := (kE.bel hb02).z2
  have hne : w.heap.size + 1 ≠ w.heap.size + 2 := by omega
  have hne2 : w.heap.size + 2 ≠ w.heap.size + 1 := by omega
  have HV2 : Hid (VI w2 (· < w.heap.size + 3) y f) := hid_intro (hv2.carry fun b hb _ => ⟨rfl, fun e => hb (by have := HZ0.out; have := hb1.size; omega)⟩)
  clear hva hsv hv2
  go_wp2_with fail
  refine bodyPost_ret (v := .tuple #[.agg #[.int .i64 k_, .bool n_, .string g_, .int .i64 e_, .string t_, .slice s1 m1 q1, .slice s2 m2 q2], .agg #[.int .i64 1, .int .i64 0]]) (by simp [results, Tryz.results9, go_sem, c0, c1, c2, c3, c4, c5, c6, d0, d1]) rfl ?_
  rw [HP.out]
  have hb8 : But (fun b => b = w.heap.size + 1 ∨ b = w.heap.size + 1 + 1) w2 (((set7 w2 (w.heap.size + 1) (.int .i64 k_) (.bool n_) (.string g_) (.int .i64 e_) (.string t_) (.slice s1 m1 q1) (.slice s2 m2 q2)).setCell ⟨w.heap.size + 1 + 1, 0, none⟩ (.int .i64 1)).setCell ⟨w.heap.size + 1 + 1, 1, none⟩ (.int .i64 0)) := ((set7_but (X := fun b => b = w.heap.size + 1 ∨ b = w.heap.size + 1 + 1) (But.refl _ w2) (Or.inl (Or.inl rfl)) _ _ _ _ _ _ _).set (p := ⟨w.heap.size + 1 + 1, 0, none⟩) (Or.inl (Or.inr rfl)) _).set (p := ⟨w.heap.size + 1 + 1, 1, none⟩) (Or.inl (Or.inr rfl)) _
  exact ⟨but_ahead (vb_t hWb hb02) hb8 (fun k hk => by omega), f, by rw [HVA.out], HV2.out.carry fun b hb hlt => ⟨hb8.block b hlt (fun e => hb (by omega)), fun e => hb (by omega)⟩⟩
end Go.Proofs.YtjakgdaodlgeaaaGreatDoor
