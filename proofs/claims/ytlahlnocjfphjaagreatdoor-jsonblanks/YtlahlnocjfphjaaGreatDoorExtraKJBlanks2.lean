/-
  JsonBad answers true for all bytes. Conditions: the tables as they are laid.
  JsonBad's walk, all its ways together. Conditions: the tables as they are laid.
  JsonBlanks' walk. Conditions: the tables as they are laid.
  JsonBlanks' walk, all its ways together; numbers that come in. Conditions: the tables as they are laid.
-/
import Derived.Test.YtlahlnocjfphjaaGreatDoorExtraKJBlanks1
import Derived.Test.YtlahlnocjfphjaaGreatDoorJoined48
import Derived.Test.YtlahlnocjfphjaaGreatDoorJoined49
namespace Go.Proofs.YtlahlnocjfphjaaGreatDoor
open Go.RowKit Go.Maps
attribute [local go_sem] setCell_drewN alloc_drewN

/-- What is read, told by the verdict alone. -/
def RdQ (x : Int × Int) (w : World) (r : Ending) (w' : World) : Prop := Below w.heap.size w w' ∧ ∃ k n g e t a1 m1 c1 a2 m2 c2, r = .returned (.tuple #[.agg #[.int .i64 k, .bool n, .string g, .int .i64 e, .string t, .slice a1 m1 c1, .slice a2 m2 c2], .agg #[.int .i64 x.1, .int .i64 x.2]])
theorem readQ (l : List UInt8) (v : Value) (w : World) (a : Addr) (hE : Lx.Env w) (hD : Env w a) (hB : Lx.Byt w v l) :
    Calls Tryz.prog 9 #[v, .agg #[.int .i64 0, .int .i64 0, .int .i64 0, .int .i64 0, .int .i64 0]] w (RdQ (vr (judgedS l (bm 0 0 0))) w) :=
  (read_any l v 0 0 0 0 0 w a hE hD hB).mono fun _ _ h => h.lit

set_option maxRecDepth 100000 in
set_option maxHeartbeats 1600000 in
theorem jb_else (l l2 : List UInt8) (v v2 : Value) (w : World) (a : Addr) (hE : Lx.Env w) (hD : Env w a) (hB : Lx.Byt w v l) (hB2 : Lx.Byt w v2 l2) (r k : Int) (hx : vr (judgedS l (bm 0 0 0)) = (r, k)) (hr : r ≠ 3) :
    Calls Tryz.prog 6 #[v, v2] w fun r w' => r = .returned (.bool true) ∧ Below w.heap.size w w' := by
  have HR := hid_intro (fun (w' : World) (hb : Below w.heap.size w w') (v' : Value) (l' : List UInt8) (hB' : Lx.Byt w' v' l') => readQ l' v' w' a (hE.below hb) (hD.below hb) hB')
  have HR1 := hid_intro (HR.out w (Below.refl _ _) v l hB)
  have HH := hid_intro (fun (w' : World) (hb : Below w.heap.size w w') => heads_any w' a (hE.below hb) (hD.below hb))
  have HBB := hid_intro (fun (w' : World) (hb : Below w.heap.size w w') => And.intro (hB.below hb) (hB2.below hb))
  obtain ⟨ao, cap, rfl⟩ := byt_shape hB
  obtain ⟨ao2, cap2, rfl⟩ := byt_shape hB2
  rw [hx] at HR1
  have hr3 : (r == 3) = false := by simpa using hr
  have hr4 : (r != 3) = true := by simpa using hr
  clear hx
  clear hE hD hB hB2
  go_enter Tryz.func6, Tryz.ntmps6
  go_wp2_with fail
  refine HR1.out.mono ?_; rintro r1 w1 ⟨hb1, k1, n1, g1, e1, t1, a1, m1, c1, b1, o1, d1, rfl⟩
  have hb01 : Below w.heap.size w ((w1.alloc (.cells #[.int .i64 k1, .bool n1, .string g1, .int .i64 e1, .string t1, .slice a1 m1 c1, .slice b1 o1 d1] 31)).alloc (.cells #[.int .i64 r, .int .i64 k] 34)) := vb_a (vb_a hb1 _) _
  have HHD : Hid (∀ w', Below (World.heap ((w1.alloc (.cells #[.int .i64 k1, .bool n1, .string g1, .int .i64 e1, .string t1, .slice a1 m1 c1, .slice b1 o1 d1] 31)).alloc (.cells #[.int .i64 r, .int .i64 k] 34))).size ((w1.alloc (.cells #[.int .i64 k1, .bool n1, .string g1, .int .i64 e1, .string t1, .slice a1 m1 c1, .slice b1 o1 d1] 31)).alloc (.cells #[.int .i64 r, .int .i64 k] 34)) w' → Calls Tryz.prog 14 #[] w' (fun r w3 => r = .returned (.bool true) ∧ Below w.heap.size w w3)) := hid_intro (fun w' hb => (HH.out w' (vb_t hb01 hb)).mono fun r w3 hr => ⟨hr.1, vb_t (vb_t hb01 hb) hr.2⟩)
  have hc := Below.refl (World.heap ((w1.alloc (.cells #[.int .i64 k1, .bool n1, .string g1, .int .i64 e1, .string t1, .slice a1 m1 c1, .slice b1 o1 d1] 31)).alloc (.cells #[.int .i64 r, .int .i64 k] 34))).size ((w1.alloc (.cells #[.int .i64 k1, .bool n1, .string g1, .int .i64 e1, .string t1, .slice a1 m1 c1, .slice b1 o1 d1] 31)).alloc (.cells #[.int .i64 r, .int .i64 k] 34))
  clear HH HR HR1 HBB hb01 hb1
  go_wp2_with (go_at_call 14; refine (HHD.out _ ?_).mono ?_; (with_reducible repeat (first | exact hc | refine vb_d ?_)); rintro r9 w9 ⟨rfl, hw9⟩)
  go_ret
  exact ⟨rfl, hw9⟩

set_option maxRecDepth 100000 in
set_option maxHeartbeats 1600000 in
theorem jb_long (l l2 : List UInt8) (v v2 : Value) (w : World) (a : Addr) (hE : Lx.Env w) (hD : Env w a) (hB : Lx.Byt w v l) (hB2 : Lx.Byt w v2 l2) (k : Int) (hx : vr (judgedS l (bm 0 0 0)) = (3, k)) (hl : 100000 < l.length) :
    Calls Tryz.prog 6 #[v, v2] w fun r w' => r = .returned (.bool true) ∧ Below w.heap.size w w' := by
  have HR := hid_intro (fun (w' : World) (hb : Below w.heap.size w w') (v' : Value) (l' : List UInt8) (hB' : Lx.Byt w' v' l') => readQ l' v' w' a (hE.below hb) (hD.below hb) hB')
  have HR1 := hid_intro (HR.out w (Below.refl _ _) v l hB)
  have HH := hid_intro (fun (w' : World) (hb : Below w.heap.size w w') => heads_any w' a (hE.below hb) (hD.below hb))
  have HBB := hid_intro (fun (w' : World) (hb : Below w.heap.size w w') => And.intro (hB.below hb) (hB2.below hb))
  obtain ⟨ao, cap, rfl⟩ := byt_shape hB
  obtain ⟨ao2, cap2, rfl⟩ := byt_shape hB2
  rw [hx] at HR1
  have hI : (100000 : Int) < (l.length : Int) := by omega
  clear hx hl
  clear hE hD hB hB2
  go_enter Tryz.func6, Tryz.ntmps6
  go_wp2_with fail
  refine HR1.out.mono ?_; rintro r1 w1 ⟨hb1, k1, n1, g1, e1, t1, a1, m1, c1, b1, o1, d1, rfl⟩
  have hb01 : Below w.heap.size w ((w1.alloc (.cells #[.int .i64 k1, .bool n1, .string g1, .int .i64 e1, .string t1, .slice a1 m1 c1, .slice b1 o1 d1] 31)).alloc (.cells #[.int .i64 3, .int .i64 k] 34)) := vb_a (vb_a hb1 _) _
  have HHD : Hid (∀ w', Below (World.heap ((w1.alloc (.cells #[.int .i64 k1, .bool n1, .string g1, .int .i64 e1, .string t1, .slice a1 m1 c1, .slice b1 o1 d1] 31)).alloc (.cells #[.int .i64 3, .int .i64 k] 34))).size ((w1.alloc (.cells #[.int .i64 k1, .bool n1, .string g1, .int .i64 e1, .string t1, .slice a1 m1 c1, .slice b1 o1 d1] 31)).alloc (.cells #[.int .i64 3, .int .i64 k] 34)) w' → Calls Tryz.prog 14 #[] w' (fun r w3 => r = .returned (.bool true) ∧ Below w.heap.size w w3)) := hid_intro (fun w' hb => (HH.out w' (vb_t hb01 hb)).mono fun r w3 hr => ⟨hr.1, vb_t (vb_t hb01 hb) hr.2⟩)
  have hc := Below.refl (World.heap ((w1.alloc (.cells #[.int .i64 k1, .bool n1, .string g1, .int .i64 e1, .string t1, .slice a1 m1 c1, .slice b1 o1 d1] 31)).alloc (.cells #[.int .i64 3, .int .i64 k] 34))).size ((w1.alloc (.cells #[.int .i64 k1, .bool n1, .string g1, .int .i64 e1, .string t1, .slice a1 m1 c1, .slice b1 o1 d1] 31)).alloc (.cells #[.int .i64 3, .int .i64 k] 34))
  clear HH HR HR1 HBB hb01 hb1
  go_wp2_with (go_at_call 14; refine (HHD.out _ ?_).mono ?_; (with_reducible repeat (first | exact hc | refine vb_d ?_)); rintro r9 w9 ⟨rfl, hw9⟩)
  go_ret
  exact ⟨rfl, hw9⟩

set_option maxRecDepth 100000 in
set_option maxHeartbeats 1600000 in
theorem jb_long2 (l l2 : List UInt8) (v v2 : Value) (w : World) (a : Addr) (hE : Lx.Env w) (hD : Env w a) (hB : Lx.Byt w v l) (hB2 : Lx.Byt w v2 l2) (k : Int) (hx : vr (judgedS l (bm 0 0 0)) = (3, k)) (hl : l.length ≤ 100000) (hl2 : 100000 < l2.length) :
    Calls Tryz.prog 6 #[v, v2] w fun r w' => r = .returned (.bool true) ∧ Below w.heap.size w w' := by
  have HR := hid_intro (fun (w' : World) (hb : Below w.heap.size w w') (v' : Value) (l' : List UInt8) (hB' : Lx.Byt w' v' l') => readQ l' v' w' a (hE.below hb) (hD.below hb) hB')
  have HR1 := hid_intro (HR.out w (Below.refl _ _) v l hB)
  have HH := hid_intro (fun (w' : World) (hb : Below w.heap.size w w') => heads_any w' a (hE.below hb) (hD.below hb))
  have HBB := hid_intro (fun (w' : World) (hb : Below w.heap.size w w') => And.intro (hB.below hb) (hB2.below hb))
  obtain ⟨ao, cap, rfl⟩ := byt_shape hB
  obtain ⟨ao2, cap2, rfl⟩ := byt_shape hB2
  rw [hx] at HR1
  have hI : ¬ (100000 : Int) < (l.length : Int) := by omega
  have hI2 : (100000 : Int) < (l2.length : Int) := by omega
  clear hx hl hl2
  clear hE hD hB hB2
  go_enter Tryz.func6, Tryz.ntmps6
  go_wp2_with fail
  refine HR1.out.mono ?_; rintro r1 w1 ⟨hb1, k1, n1, g1, e1, t1, a1, m1, c1, b1, o1, d1, rfl⟩
  have hb01 : Below w.heap.size w ((w1.alloc (.cells #[.int .i64 k1, .bool n1, .string g1, .int .i64 e1, .string t1, .slice a1 m1 c1, .slice b1 o1 d1] 31)).alloc (.cells #[.int .i64 3, .int .i64 k] 34)) := vb_a (vb_a hb1 _) _
  have HHD : Hid (∀ w', Below (World.heap ((w1.alloc (.cells #[.int .i64 k1, .bool n1, .string g1, .int .i64 e1, .string t1, .slice a1 m1 c1, .slice b1 o1 d1] 31)).alloc (.cells #[.int .i64 3, .int .i64 k] 34))).size ((w1.alloc (.cells #[.int .i64 k1, .bool n1, .string g1, .int .i64 e1, .string t1, .slice a1 m1 c1, .slice b1 o1 d1] 31)).alloc (.cells #[.int .i64 3, .int .i64 k] 34)) w' → Calls Tryz.prog 14 #[] w' (fun r w3 => r = .returned (.bool true) ∧ Below w.heap.size w w3)) := hid_intro (fun w' hb => (HH.out w' (vb_t hb01 hb)).mono fun r w3 hr => ⟨hr.1, vb_t (vb_t hb01 hb) hr.2⟩)
  have hc := Below.refl (World.heap ((w1.alloc (.cells #[.int .i64 k1, .bool n1, .string g1, .int .i64 e1, .string t1, .slice a1 m1 c1, .slice b1 o1 d1] 31)).alloc (.cells #[.int .i64 3, .int .i64 k] 34))).size ((w1.alloc (.cells #[.int .i64 k1, .bool n1, .string g1, .int .i64 e1, .string t1, .slice a1 m1 c1, .slice b1 o1 d1] 31)).alloc (.cells #[.int .i64 3, .int .i64 k] 34))
  clear HH HR HR1 HBB hb01 hb1
  go_wp2_with (go_at_call 14; refine (HHD.out _ ?_).mono ?_; (with_reducible repeat (first | exact hc | refine vb_d ?_)); rintro r9 w9 ⟨rfl, hw9⟩)
  go_ret
  exact ⟨rfl, hw9⟩

set_option maxRecDepth 100000 in
set_option maxHeartbeats 1600000 in
theorem jb_end_ok (l l2 : List UInt8) (v v2 : Value) (w : World) (a : Addr) (hE : Lx.Env w) (hD : Env w a) (hB : Lx.Byt w v l) (hB2 : Lx.Byt w v2 l2) (N : Nat) (j : Int) (hx : vr (judgedS l (bm 0 0 0)) = (3, (N : Int) + 1)) (hy : vr (judgedS (l.take N) (bm 0 0 0)) = (1, j)) (hl : l.length ≤ 100000) (hl2 : l2.length ≤ 100000) (hN : N = l.length) :
    Calls Tryz.prog 6 #[v, v2] w fun r w' => r = .returned (.bool true) ∧ Below w.heap.size w w' := by
  have HR := hid_intro (fun (w' : World) (hb : Below w.heap.size w w') (v' : Value) (l' : List UInt8) (hB' : Lx.Byt w' v' l') => readQ l' v' w' a (hE.below hb) (hD.below hb) hB')
  have HR1 := hid_intro (HR.out w (Below.refl _ _) v l hB)
  have HH := hid_intro (fun (w' : World) (hb : Below w.heap.size w w') => heads_any w' a (hE.below hb) (hD.below hb))
  have HBB := hid_intro (fun (w' : World) (hb : Below w.heap.size w w') => And.intro (hB.below hb) (hB2.below hb))
  obtain ⟨ao, cap, rfl⟩ := byt_shape hB
  obtain ⟨ao2, cap2, rfl⟩ := byt_shape hB2
  rw [hx] at HR1
  have hcp := (byt_take hB (e := N) (by omega)).2
  have HT2 : Hid (∀ w', Below w.heap.size w w' → Calls Tryz.prog 9 #[.slice ao N cap, .agg #[.int .i64 0, .int .i64 0, .int .i64 0, .int .i64 0, .int .i64 0]] w' (RdQ (1, j) w')) := hid_intro (fun w' hb => by
    have := HR.out w' hb _ _ (byt_take (hB.below hb) (e := N) (by omega)).1
    rw [hy] at this
    exact this)
  have hI : ¬ (100000 : Int) < (l.length : Int) := by omega
  have hI2 : ¬ (100000 : Int) < (l2.length : Int) := by omega
  have hN1 : ¬ (N : Int) + 1 < 1 := by omega
  have hN2 : ¬ (l.length : Int) + 1 < (N : Int) + 1 := by omega
  have hN3 : (N : Int) ≤ (l.length : Int) := by omega
  have hlI : (l.length : Int) ≤ 100000 := by omega
  have hw1 : wrap64 ((l.length : Int) + 1) = (l.length : Int) + 1 := by unfold wrap64; omega
  have hwN : wrap64 ((N : Int) + 1 - 1) = (N : Int) := by unfold wrap64; omega
  have hmin : min (N : Int) (l.length : Int) = (N : Int) := by omega
  have hcI : (N : Int) ≤ (cap : Int) := by omega
  have hN0 : ¬ (N : Int) < 0 := by omega
  have hN4 : (l.length : Int) < (N : Int) + 1 := by omega
  clear hE hD hB hB2 hx hy hl hl2 hN HR hcp
  go_enter Tryz.func6, Tryz.ntmps6
  go_wp2_with fail
  refine HR1.out.mono ?_; rintro r1 w1 ⟨hb1, k1, n1, g1, e1, t1, a1, m1, c1, b1, o1, d1, rfl⟩
  obtain ⟨A1, hA1⟩ : ∃ A1, ((w1.alloc (.cells #[.int .i64 k1, .bool n1, .string g1, .int .i64 e1, .string t1, .slice a1 m1 c1, .slice b1 o1 d1] 31)).alloc (.cells #[.int .i64 3, .int .i64 ((N : Int) + 1)] 34)) = A1 := ⟨_, rfl⟩
  have HA1 := hid_intro hA1
  have hs1 : Below w1.heap.size w1 A1 := hA1 ▸ vb_a (vb_a (Below.refl _ _) _) _
  have hb01 := vb_t hb1 hs1
  have hy1 : Bj A1 (w1.heap.size + 1) #[.int .i64 3, .int .i64 ((N : Int) + 1)] := hA1 ▸ Bj.new' _ _ _ _ (by simp)
  clear hA1 HR1
  go_wp2_with fail
  rw [HA1.out]
  refine (HT2.out A1 hb01).mono ?_; rintro r2 w2 ⟨hb2, k2, n2, g2, e2, t2, a2, m2, c2, b2, o2, d2, rfl⟩
  have hs2 : Below w2.heap.size w2 ((w2.alloc (.cells #[.int .i64 k2, .bool n2, .string g2, .int .i64 e2, .string t2, .slice a2 m2 c2, .slice b2 o2 d2] 31)).alloc (.cells #[.int .i64 1, .int .i64 j] 34)) := vb_a (vb_a (Below.refl _ _) _) _
  have hb12 : Below A1.heap.size A1 ((w2.alloc (.cells #[.int .i64 k2, .bool n2, .string g2, .int .i64 e2, .string t2, .slice a2 m2 c2, .slice b2 o2 d2] 31)).alloc (.cells #[.int .i64 1, .int .i64 j] 34)) := vb_t hb2 hs2
  have hb02 : Below w.heap.size w ((w2.alloc (.cells #[.int .i64 k2, .bool n2, .string g2, .int .i64 e2, .string t2, .slice a2 m2 c2, .slice b2 o2 d2] 31)).alloc (.cells #[.int .i64 1, .int .i64 j] 34)) := vb_t hb01 hb12
  have hy2 : Bj ((w2.alloc (.cells #[.int .i64 k2, .bool n2, .string g2, .int .i64 e2, .string t2, .slice a2 m2 c2, .slice b2 o2 d2] 31)).alloc (.cells #[.int .i64 1, .int .i64 j] 34)) (w2.heap.size + 1) #[.int .i64 1, .int .i64 j] := Bj.new' _ _ _ _ (by simp)
  obtain ⟨y0, y1⟩ := (hy1.bel hb12).c2
  obtain ⟨u0, u1⟩ := hy2.c2
  have HHD : Hid (∀ w', Below (World.heap ((w2.alloc (.cells #[.int .i64 k2, .bool n2, .string g2, .int .i64 e2, .string t2, .slice a2 m2 c2, .slice b2 o2 d2] 31)).alloc (.cells #[.int .i64 1, .int .i64 j] 34))).size ((w2.alloc (.cells #[.int .i64 k2, .bool n2, .string g2, .int .i64 e2, .string t2, .slice a2 m2 c2, .slice b2 o2 d2] 31)).alloc (.cells #[.int .i64 1, .int .i64 j] 34)) w' → Calls Tryz.prog 14 #[] w' (fun r w3 => r = .returned (.bool true) ∧ Below w.heap.size w w3)) := hid_intro (fun w' hb => (HH.out w' (vb_t hb02 hb)).mono fun r w3 hr => ⟨hr.1, vb_t (vb_t hb02 hb) hr.2⟩)
  have hc := Below.refl (World.heap ((w2.alloc (.cells #[.int .i64 k2, .bool n2, .string g2, .int .i64 e2, .string t2, .slice a2 m2 c2, .slice b2 o2 d2] 31)).alloc (.cells #[.int .i64 1, .int .i64 j] 34))).size ((w2.alloc (.cells #[.int .i64 k2, .bool n2, .string g2, .int .i64 e2, .string t2, .slice a2 m2 c2, .slice b2 o2 d2] 31)).alloc (.cells #[.int .i64 1, .int .i64 j] 34))
  clear hy1 hy2 hb12 hb02 hs1 hs2 hb01 hb1 hb2 HT2 HH HA1 HBB
  go_wp2_with (go_at_call 14; refine (HHD.out _ ?_).mono ?_; (with_reducible repeat (first | exact hc | refine vb_d ?_)); rintro r9 w9 ⟨rfl, hw9⟩)
  go_ret
  exact ⟨rfl, hw9⟩

set_option maxRecDepth 100000 in
set_option maxHeartbeats 1600000 in
theorem jb_end_ex (l l2 : List UInt8) (v v2 : Value) (w : World) (a : Addr) (hE : Lx.Env w) (hD : Env w a) (hB : Lx.Byt w v l) (hB2 : Lx.Byt w v2 l2) (N : Nat) (j : Int) (hx : vr (judgedS l (bm 0 0 0)) = (3, (N : Int) + 1)) (hy : vr (judgedS (l.take N) (bm 0 0 0)) = (4, j)) (hl : l.length ≤ 100000) (hl2 : l2.length ≤ 100000) (hN : N = l.length) :
    Calls Tryz.prog 6 #[v, v2] w fun r w' => r = .returned (.bool true) ∧ Below w.heap.size w w' := by
  have HR := hid_intro (fun (w' : World) (hb : Below w.heap.size w w') (v' : Value) (l' : List UInt8) (hB' : Lx.Byt w' v' l') => readQ l' v' w' a (hE.below hb) (hD.below hb) hB')
  have HR1 := hid_intro (HR.out w (Below.refl _ _) v l hB)
  have HH := hid_intro (fun (w' : World) (hb : Below w.heap.size w w') => heads_any w' a (hE.below hb) (hD.below hb))
  have HBB := hid_intro (fun (w' : World) (hb : Below w.heap.size w w') => And.intro (hB.below hb) (hB2.below hb))
  obtain ⟨ao, cap, rfl⟩ := byt_shape hB
  obtain ⟨ao2, cap2, rfl⟩ := byt_shape hB2
  rw [hx] at HR1
  have hcp := (byt_take hB (e := N) (by omega)).2
  have HT2 : Hid (∀ w', Below w.heap.size w w' → Calls Tryz.prog 9 #[.slice ao N cap, .agg #[.int .i64 0, .int .i64 0, .int .i64 0, .int .i64 0, .int .i64 0]] w' (RdQ (4, j) w')) := hid_intro (fun w' hb => by
    have := HR.out w' hb _ _ (byt_take (hB.below hb) (e := N) (by omega)).1
    rw [hy] at this
    exact this)
  have hI : ¬ (100000 : Int) < (l.length : Int) := by omega
  have hI2 : ¬ (100000 : Int) < (l2.length : Int) := by omega
  have hN1 : ¬ (N : Int) + 1 < 1 := by omega
  have hN2 : ¬ (l.length : Int) + 1 < (N : Int) + 1 := by omega
  have hN3 : (N : Int) ≤ (l.length : Int) := by omega
  have hlI : (l.length : Int) ≤ 100000 := by omega
  have hw1 : wrap64 ((l.length : Int) + 1) = (l.length : Int) + 1 := by unfold wrap64; omega
  have hwN : wrap64 ((N : Int) + 1 - 1) = (N : Int) := by unfold wrap64; omega
  have hmin : min (N : Int) (l.length : Int) = (N : Int) := by omega
  have hcI : (N : Int) ≤ (cap : Int) := by omega
  have hN0 : ¬ (N : Int) < 0 := by omega
  have hN4 : (l.length : Int) < (N : Int) + 1 := by omega
  clear hE hD hB hB2 hx hy hl hl2 hN HR hcp
  go_enter Tryz.func6, Tryz.ntmps6
  go_wp2_with fail
  refine HR1.out.mono ?_; rintro r1 w1 ⟨hb1, k1, n1, g1, e1, t1, a1, m1, c1, b1, o1, d1, rfl⟩
  obtain ⟨A1, hA1⟩ : ∃ A1, ((w1.alloc (.cells #[.int .i64 k1, .bool n1, .string g1, .int .i64 e1, .string t1, .slice a1 m1 c1, .slice b1 o1 d1] 31)).alloc (.cells #[.int .i64 3, .int .i64 ((N : Int) + 1)] 34)) = A1 := ⟨_, rfl⟩
  have HA1 := hid_intro hA1
  have hs1 : Below w1.heap.size w1 A1 := hA1 ▸ vb_a (vb_a (Below.refl _ _) _) _
  have hb01 := vb_t hb1 hs1
  have hy1 : Bj A1 (w1.heap.size + 1) #[.int .i64 3, .int .i64 ((N : Int) + 1)] := hA1 ▸ Bj.new' _ _ _ _ (by simp)
  clear hA1 HR1
  go_wp2_with fail
  rw [HA1.out]
  refine (HT2.out A1 hb01).mono ?_; rintro r2 w2 ⟨hb2, k2, n2, g2, e2, t2, a2, m2, c2, b2, o2, d2, rfl⟩
  have hs2 : Below w2.heap.size w2 ((w2.alloc (.cells #[.int .i64 k2, .bool n2, .string g2, .int .i64 e2, .string t2, .slice a2 m2 c2, .slice b2 o2 d2] 31)).alloc (.cells #[.int .i64 4, .int .i64 j] 34)) := vb_a (vb_a (Below.refl _ _) _) _
  have hb12 : Below A1.heap.size A1 ((w2.alloc (.cells #[.int .i64 k2, .bool n2, .string g2, .int .i64 e2, .string t2, .slice a2 m2 c2, .slice b2 o2 d2] 31)).alloc (.cells #[.int .i64 4, .int .i64 j] 34)) := vb_t hb2 hs2
  have hb02 : Below w.heap.size w ((w2.alloc (.cells #[.int .i64 k2, .bool n2, .string g2, .int .i64 e2, .string t2, .slice a2 m2 c2, .slice b2 o2 d2] 31)).alloc (.cells #[.int .i64 4, .int .i64 j] 34)) := vb_t hb01 hb12
  have hy2 : Bj ((w2.alloc (.cells #[.int .i64 k2, .bool n2, .string g2, .int .i64 e2, .string t2, .slice a2 m2 c2, .slice b2 o2 d2] 31)).alloc (.cells #[.int .i64 4, .int .i64 j] 34)) (w2.heap.size + 1) #[.int .i64 4, .int .i64 j] := Bj.new' _ _ _ _ (by simp)
  obtain ⟨y0, y1⟩ := (hy1.bel hb12).c2
  obtain ⟨u0, u1⟩ := hy2.c2
  have HHD : Hid (∀ w', Below (World.heap ((w2.alloc (.cells #[.int .i64 k2, .bool n2, .string g2, .int .i64 e2, .string t2, .slice a2 m2 c2, .slice b2 o2 d2] 31)).alloc (.cells #[.int .i64 4, .int .i64 j] 34))).size ((w2.alloc (.cells #[.int .i64 k2, .bool n2, .string g2, .int .i64 e2, .string t2, .slice a2 m2 c2, .slice b2 o2 d2] 31)).alloc (.cells #[.int .i64 4, .int .i64 j] 34)) w' → Calls Tryz.prog 14 #[] w' (fun r w3 => r = .returned (.bool true) ∧ Below w.heap.size w w3)) := hid_intro (fun w' hb => (HH.out w' (vb_t hb02 hb)).mono fun r w3 hr => ⟨hr.1, vb_t (vb_t hb02 hb) hr.2⟩)
  have hc := Below.refl (World.heap ((w2.alloc (.cells #[.int .i64 k2, .bool n2, .string g2, .int .i64 e2, .string t2, .slice a2 m2 c2, .slice b2 o2 d2] 31)).alloc (.cells #[.int .i64 4, .int .i64 j] 34))).size ((w2.alloc (.cells #[.int .i64 k2, .bool n2, .string g2, .int .i64 e2, .string t2, .slice a2 m2 c2, .slice b2 o2 d2] 31)).alloc (.cells #[.int .i64 4, .int .i64 j] 34))
  clear hy1 hy2 hb12 hb02 hs1 hs2 hb01 hb1 hb2 HT2 HH HA1 HBB
  go_wp2_with (go_at_call 14; refine (HHD.out _ ?_).mono ?_; (with_reducible repeat (first | exact hc | refine vb_d ?_)); rintro r9 w9 ⟨rfl, hw9⟩)
  go_ret
  exact ⟨rfl, hw9⟩

set_option maxRecDepth 100000 in
set_option maxHeartbeats 1600000 in
theorem jb_end_bad (l l2 : List UInt8) (v v2 : Value) (w : World) (a : Addr) (hE : Lx.Env w) (hD : Env w a) (hB : Lx.Byt w v l) (hB2 : Lx.Byt w v2 l2) (N : Nat) (hx : vr (judgedS l (bm 0 0 0)) = (3, (N : Int) + 1)) (hy : vr (judgedS (l.take N) (bm 0 0 0)) = (3, (N : Int) + 1)) (hl : l.length ≤ 100000) (hl2 : l2.length ≤ 100000) (hN : N = l.length) :
    Calls Tryz.prog 6 #[v, v2] w fun r w' => r = .returned (.bool true) ∧ Below w.heap.size w w' := by
  have HR := hid_intro (fun (w' : World) (hb : Below w.heap.size w w') (v' : Value) (l' : List UInt8) (hB' : Lx.Byt w' v' l') => readQ l' v' w' a (hE.below hb) (hD.below hb) hB')
  have HR1 := hid_intro (HR.out w (Below.refl _ _) v l hB)
  have HH := hid_intro (fun (w' : World) (hb : Below w.heap.size w w') => heads_any w' a (hE.below hb) (hD.below hb))
  have HBB := hid_intro (fun (w' : World) (hb : Below w.heap.size w w') => And.intro (hB.below hb) (hB2.below hb))
  obtain ⟨ao, cap, rfl⟩ := byt_shape hB
  obtain ⟨ao2, cap2, rfl⟩ := byt_shape hB2
  rw [hx] at HR1
  have hcp := (byt_take hB (e := N) (by omega)).2
  have HT2 : Hid (∀ w', Below w.heap.size w w' → Calls Tryz.prog 9 #[.slice ao N cap, .agg #[.int .i64 0, .int .i64 0, .int .i64 0, .int .i64 0, .int .i64 0]] w' (RdQ (3, (N : Int) + 1) w')) := hid_intro (fun w' hb => by
    have := HR.out w' hb _ _ (byt_take (hB.below hb) (e := N) (by omega)).1
    rw [hy] at this
    exact this)
  have hI : ¬ (100000 : Int) < (l.length : Int) := by omega
  have hI2 : ¬ (100000 : Int) < (l2.length : Int) := by omega
  have hN1 : ¬ (N : Int) + 1 < 1 := by omega
  have hN2 : ¬ (l.length : Int) + 1 < (N : Int) + 1 := by omega
  have hN3 : (N : Int) ≤ (l.length : Int) := by omega
  have hlI : (l.length : Int) ≤ 100000 := by omega
  have hw1 : wrap64 ((l.length : Int) + 1) = (l.length : Int) + 1 := by unfold wrap64; omega
  have hwN : wrap64 ((N : Int) + 1 - 1) = (N : Int) := by unfold wrap64; omega
  have hmin : min (N : Int) (l.length : Int) = (N : Int) := by omega
  have hcI : (N : Int) ≤ (cap : Int) := by omega
  have hN0 : ¬ (N : Int) < 0 := by omega
  have hN4 : (l.length : Int) < (N : Int) + 1 := by omega
  clear hE hD hB hB2 hx hy hl hl2 hN HR hcp
  go_enter Tryz.func6, Tryz.ntmps6
  go_wp2_with fail
  refine HR1.out.mono ?_; rintro r1 w1 ⟨hb1, k1, n1, g1, e1, t1, a1, m1, c1, b1, o1, d1, rfl⟩
  obtain ⟨A1, hA1⟩ : ∃ A1, ((w1.alloc (.cells #[.int .i64 k1, .bool n1, .string g1, .int .i64 e1, .string t1, .slice a1 m1 c1, .slice b1 o1 d1] 31)).alloc (.cells #[.int .i64 3, .int .i64 ((N : Int) + 1)] 34)) = A1 := ⟨_, rfl⟩
  have HA1 := hid_intro hA1
  have hs1 : Below w1.heap.size w1 A1 := hA1 ▸ vb_a (vb_a (Below.refl _ _) _) _
  have hb01 := vb_t hb1 hs1
  have hy1 : Bj A1 (w1.heap.size + 1) #[.int .i64 3, .int .i64 ((N : Int) + 1)] := hA1 ▸ Bj.new' _ _ _ _ (by simp)
  clear hA1 HR1
  go_wp2_with fail
  rw [HA1.out]
  refine (HT2.out A1 hb01).mono ?_; rintro r2 w2 ⟨hb2, k2, n2, g2, e2, t2, a2, m2, c2, b2, o2, d2, rfl⟩
  have hs2 : Below w2.heap.size w2 ((w2.alloc (.cells #[.int .i64 k2, .bool n2, .string g2, .int .i64 e2, .string t2, .slice a2 m2 c2, .slice b2 o2 d2] 31)).alloc (.cells #[.int .i64 3, .int .i64 ((N : Int) + 1)] 34)) := vb_a (vb_a (Below.refl _ _) _) _
  have hb12 : Below A1.heap.size A1 ((w2.alloc (.cells #[.int .i64 k2, .bool n2, .string g2, .int .i64 e2, .string t2, .slice a2 m2 c2, .slice b2 o2 d2] 31)).alloc (.cells #[.int .i64 3, .int .i64 ((N : Int) + 1)] 34)) := vb_t hb2 hs2
  have hb02 : Below w.heap.size w ((w2.alloc (.cells #[.int .i64 k2, .bool n2, .string g2, .int .i64 e2, .string t2, .slice a2 m2 c2, .slice b2 o2 d2] 31)).alloc (.cells #[.int .i64 3, .int .i64 ((N : Int) + 1)] 34)) := vb_t hb01 hb12
  have hy2 : Bj ((w2.alloc (.cells #[.int .i64 k2, .bool n2, .string g2, .int .i64 e2, .string t2, .slice a2 m2 c2, .slice b2 o2 d2] 31)).alloc (.cells #[.int .i64 3, .int .i64 ((N : Int) + 1)] 34)) (w2.heap.size + 1) #[.int .i64 3, .int .i64 ((N : Int) + 1)] := Bj.new' _ _ _ _ (by simp)
  obtain ⟨y0, y1⟩ := (hy1.bel hb12).c2
  obtain ⟨u0, u1⟩ := hy2.c2
  have HHD : Hid (∀ w', Below (World.heap ((w2.alloc (.cells #[.int .i64 k2, .bool n2, .string g2, .int .i64 e2, .string t2, .slice a2 m2 c2, .slice b2 o2 d2] 31)).alloc (.cells #[.int .i64 3, .int .i64 ((N : Int) + 1)] 34))).size ((w2.alloc (.cells #[.int .i64 k2, .bool n2, .string g2, .int .i64 e2, .string t2, .slice a2 m2 c2, .slice b2 o2 d2] 31)).alloc (.cells #[.int .i64 3, .int .i64 ((N : Int) + 1)] 34)) w' → Calls Tryz.prog 14 #[] w' (fun r w3 => r = .returned (.bool true) ∧ Below w.heap.size w w3)) := hid_intro (fun w' hb => (HH.out w' (vb_t hb02 hb)).mono fun r w3 hr => ⟨hr.1, vb_t (vb_t hb02 hb) hr.2⟩)
  have hc := Below.refl (World.heap ((w2.alloc (.cells #[.int .i64 k2, .bool n2, .string g2, .int .i64 e2, .string t2, .slice a2 m2 c2, .slice b2 o2 d2] 31)).alloc (.cells #[.int .i64 3, .int .i64 ((N : Int) + 1)] 34))).size ((w2.alloc (.cells #[.int .i64 k2, .bool n2, .string g2, .int .i64 e2, .string t2, .slice a2 m2 c2, .slice b2 o2 d2] 31)).alloc (.cells #[.int .i64 3, .int .i64 ((N : Int) + 1)] 34))
  clear hy1 hy2 hb12 hb02 hs1 hs2 hb01 hb1 hb2 HT2 HH HA1 HBB
  go_wp2_with (go_at_call 14; refine (HHD.out _ ?_).mono ?_; (with_reducible repeat (first | exact hc | refine vb_d ?_)); rintro r9 w9 ⟨rfl, hw9⟩)
  go_ret
  exact ⟨rfl, hw9⟩

set_option maxRecDepth 100000 in
set_option maxHeartbeats 1600000 in
theorem jb_mid_ok (l l2 : List UInt8) (v v2 : Value) (w : World) (a : Addr) (hE : Lx.Env w) (hD : Env w a) (hB : Lx.Byt w v l) (hB2 : Lx.Byt w v2 l2) (N : Nat) (j : Int) (hx : vr (judgedS l (bm 0 0 0)) = (3, (N : Int) + 1)) (hy : vr (judgedS (l.take N) (bm 0 0 0)) = (1, j)) (hl : l.length ≤ 100000) (hl2 : l2.length ≤ 100000) (hN : N < l.length) (hz : vr (judgedS (l.take (N + 1) ++ l2) (bm 0 0 0)) = (3, (N : Int) + 1)) :
    Calls Tryz.prog 6 #[v, v2] w fun r w' => r = .returned (.bool true) ∧ Below w.heap.size w w' := by
  have HR := hid_intro (fun (w' : World) (hb : Below w.heap.size w w') (v' : Value) (l' : List UInt8) (hB' : Lx.Byt w' v' l') => readQ l' v' w' a (hE.below hb) (hD.below hb) hB')
  have HR1 := hid_intro (HR.out w (Below.refl _ _) v l hB)
  have HH := hid_intro (fun (w' : World) (hb : Below w.heap.size w w') => heads_any w' a (hE.below hb) (hD.below hb))
  have HBB := hid_intro (fun (w' : World) (hb : Below w.heap.size w w') => And.intro (hB.below hb) (hB2.below hb))
  obtain ⟨ao, cap, rfl⟩ := byt_shape hB
  obtain ⟨ao2, cap2, rfl⟩ := byt_shape hB2
  rw [hx] at HR1
  have hcp := (byt_take hB (e := N) (by omega)).2
  have HT2 : Hid (∀ w', Below w.heap.size w w' → Calls Tryz.prog 9 #[.slice ao N cap, .agg #[.int .i64 0, .int .i64 0, .int .i64 0, .int .i64 0, .int .i64 0]] w' (RdQ (1, j) w')) := hid_intro (fun w' hb => by
    have := HR.out w' hb _ _ (byt_take (hB.below hb) (e := N) (by omega)).1
    rw [hy] at this
    exact this)
  have hI : ¬ (100000 : Int) < (l.length : Int) := by omega
  have hI2 : ¬ (100000 : Int) < (l2.length : Int) := by omega
  have hN1 : ¬ (N : Int) + 1 < 1 := by omega
  have hN2 : ¬ (l.length : Int) + 1 < (N : Int) + 1 := by omega
  have hN3 : (N : Int) ≤ (l.length : Int) := by omega
  have hlI : (l.length : Int) ≤ 100000 := by omega
  have hw1 : wrap64 ((l.length : Int) + 1) = (l.length : Int) + 1 := by unfold wrap64; omega
  have hwN : wrap64 ((N : Int) + 1 - 1) = (N : Int) := by unfold wrap64; omega
  have hmin : min (N : Int) (l.length : Int) = (N : Int) := by omega
  have hcI : (N : Int) ≤ (cap : Int) := by omega
  have hN0 : ¬ (N : Int) < 0 := by omega
  have hN4 : ¬ (l.length : Int) < (N : Int) + 1 := by omega
  have hcI2 : (N : Int) + 1 ≤ (cap : Int) := by omega
  have HNL := hid_intro hN
  have HL1 := hid_intro hl
  have HL2 := hid_intro hl2
  have HZ := hid_intro hz
  have HT3 : Hid (∀ w' v', Below w.heap.size w w' → Lx.Byt w' v' (l.take (N + 1) ++ l2) → Calls Tryz.prog 9 #[v', .agg #[.int .i64 0, .int .i64 0, .int .i64 0, .int .i64 0, .int .i64 0]] w' (RdQ (3, (N : Int) + 1) w')) := hid_intro (fun w' v' hb hb' => by
    have := HR.out w' hb _ _ hb'
    rw [hz] at this
    exact this)
  have v1 : ∀ w, (Op.equalIn 10000 34 (.agg #[.int .i64 3, .int .i64 ((N : Int) + 1)]) (.agg #[.int .i64 3, .int .i64 ((N : Int) + 1)])).run Tryz.prog w = .ok true w := fun w => by rw [eqIn_verd]; simp
  clear hE hD hB hB2 hx hy hl hl2 hN HR hcp hz
  go_enter Tryz.func6, Tryz.ntmps6
  go_wp2_with fail
  refine HR1.out.mono ?_; rintro r1 w1 ⟨hb1, k1, n1, g1, e1, t1, a1, m1, c1, b1, o1, d1, rfl⟩
  obtain ⟨A1, hA1⟩ : ∃ A1, ((w1.alloc (.cells #[.int .i64 k1, .bool n1, .string g1, .int .i64 e1, .string t1, .slice a1 m1 c1, .slice b1 o1 d1] 31)).alloc (.cells #[.int .i64 3, .int .i64 ((N : Int) + 1)] 34)) = A1 := ⟨_, rfl⟩
  have HA1 := hid_intro hA1
  have hs1 : Below w1.heap.size w1 A1 := hA1 ▸ vb_a (vb_a (Below.refl _ _) _) _
  have hb01 := vb_t hb1 hs1
  have hy1 : Bj A1 (w1.heap.size + 1) #[.int .i64 3, .int .i64 ((N : Int) + 1)] := hA1 ▸ Bj.new' _ _ _ _ (by simp)
  clear hA1 HR1
  go_wp2_with fail
  rw [HA1.out]
  refine (HT2.out A1 hb01).mono ?_; rintro r2 w2 ⟨hb2, k2, n2, g2, e2, t2, a2, m2, c2, b2, o2, d2, rfl⟩
  have hs2 : Below w2.heap.size w2 ((w2.alloc (.cells #[.int .i64 k2, .bool n2, .string g2, .int .i64 e2, .string t2, .slice a2 m2 c2, .slice b2 o2 d2] 31)).alloc (.cells #[.int .i64 1, .int .i64 j] 34)) := vb_a (vb_a (Below.refl _ _) _) _
  have hb12 : Below A1.heap.size A1 ((w2.alloc (.cells #[.int .i64 k2, .bool n2, .string g2, .int .i64 e2, .string t2, .slice a2 m2 c2, .slice b2 o2 d2] 31)).alloc (.cells #[.int .i64 1, .int .i64 j] 34)) := vb_t hb2 hs2
  have hb02 : Below w.heap.size w ((w2.alloc (.cells #[.int .i64 k2, .bool n2, .string g2, .int .i64 e2, .string t2, .slice a2 m2 c2, .slice b2 o2 d2] 31)).alloc (.cells #[.int .i64 1, .int .i64 j] 34)) := vb_t hb01 hb12
  have hy2 : Bj ((w2.alloc (.cells #[.int .i64 k2, .bool n2, .string g2, .int .i64 e2, .string t2, .slice a2 m2 c2, .slice b2 o2 d2] 31)).alloc (.cells #[.int .i64 1, .int .i64 j] 34)) (w2.heap.size + 1) #[.int .i64 1, .int .i64 j] := Bj.new' _ _ _ _ (by simp)
  obtain ⟨y0, y1⟩ := (hy1.bel hb12).c2
  obtain ⟨u0, u1⟩ := hy2.c2
  obtain ⟨A2, hA2⟩ : ∃ A2, ((w2.alloc (.cells #[.int .i64 k2, .bool n2, .string g2, .int .i64 e2, .string t2, .slice a2 m2 c2, .slice b2 o2 d2] 31)).alloc (.cells #[.int .i64 1, .int .i64 j] 34)) = A2 := ⟨_, rfl⟩
  rw [hA2] at hb12 hb02 y0 y1 u0 u1
  have HB02 := hid_intro hb02
  have HB12 := hid_intro hb12
  have HY1 := hid_intro hy1
  have HE : Hid (Below A2.heap.size A2 (A2.alloc (.cells #[] 5))) := hid_intro (vb_a (Below.refl _ _) _)
  have HO : Hid ((A2.alloc (.cells #[] 5)).ownsRow A2.heap.size 5 1 (.slice (some ⟨A2.heap.size, 0, none⟩) 0 0) ([] : List UInt8).length (Lx.cellsL [])) := hid_intro (own_none A2 _ rfl)
  have HB1 : Hid (∀ w', Below w.heap.size w w' → Lx.Byt w' (.slice ao (N + 1) cap) (l.take (N + 1))) := hid_intro (fun w' hb => (byt_take (HBB.out w' hb).1 (e := N + 1) (by have := HNL.out; omega)).1)
  have HB2 : Hid (∀ w', Below w.heap.size w w' → Lx.Byt w' (.slice ao2 l2.length cap2) l2) := hid_intro (fun w' hb => (HBB.out w' hb).2)
  have HSZ : Hid ((l.take (N + 1)).length + l2.length ≤ 1000000) := hid_intro (by have := HL1.out; have := HL2.out; simp; omega)
  have hm0 : ∀ o, (A2.alloc o).cell? ⟨w1.heap.size + 1, 0, none⟩ = some (.int .i64 3) := fun o => ((hy1.bel (vb_a hb12 o)).c2).1
  have hm1 : ∀ o, (A2.alloc o).cell? ⟨w1.heap.size + 1, 1, none⟩ = some (.int .i64 ((N : Int) + 1)) := fun o => ((hy1.bel (vb_a hb12 o)).c2).2
  have HS2 : Hid (A2.heap.size = w2.heap.size + 1 + 1) := hid_intro (by rw [← hA2]; simp)
  clear hy1 hy2 hb12 hb02 hs1 hs2 hb01 hb1 hb2 HT2 HA1 HBB
  go_wp2_with (first | (at_builtin; refine wp_app_byt rfl _ _ rfl A2.heap.size _ [] rfl _ (l.take (N + 1)) rfl ?_ HO.out ?_ ?_ ?_; (focus (have := HSZ.out; simp at this ⊢; omega)); (focus (exact HB1.out _ (vb_t HB02.out HE.out))); (focus (exact HE.out.size)); intro v5 w5 ho5 hg5; have HO5 := hid_intro ho5; have HB5 : Hid (Below A2.heap.size A2 w5) := hid_intro (app_bel HE.out HO.out (Nat.le_refl _) hg5); clear ho5 hg5) | (at_builtin; refine wp_app_byt rfl _ _ rfl A2.heap.size _ (l.take (N + 1)) rfl _ l2 rfl HSZ.out ?_ ?_ ?_ ?_; (focus (exact HO5.out)); (focus (exact HB2.out _ (vb_t HB02.out HB5.out))); (focus (exact HB5.out.size)); intro v6 w6 ho6 hg6; have HO6 := hid_intro ho6; have HB6 : Hid (Below A2.heap.size A2 w6) := hid_intro (app_bel HB5.out HO5.out (Nat.le_refl _) hg6)))
  have HB06 : Hid (Below w.heap.size w w6) := hid_intro (vb_t HB02.out HB6.out)
  clear ho6 hg6
  refine (HT3.out w6 v6 HB06.out (byt_own HO6.out)).mono ?_; rintro r3 w7 ⟨hb7, k3, n3, g3, e3, t3, a3, m3, c3, b3, o3, d3, rfl⟩
  have hs7 : Below w7.heap.size w7 ((w7.alloc (.cells #[.int .i64 k3, .bool n3, .string g3, .int .i64 e3, .string t3, .slice a3 m3 c3, .slice b3 o3 d3] 31)).alloc (.cells #[.int .i64 3, .int .i64 ((N : Int) + 1)] 34)) := vb_a (vb_a (Below.refl _ _) _) _
  have hb27 : Below A2.heap.size A2 ((w7.alloc (.cells #[.int .i64 k3, .bool n3, .string g3, .int .i64 e3, .string t3, .slice a3 m3 c3, .slice b3 o3 d3] 31)).alloc (.cells #[.int .i64 3, .int .i64 ((N : Int) + 1)] 34)) := vb_t (vb_t HB6.out hb7) hs7
  have hb07 : Below w.heap.size w ((w7.alloc (.cells #[.int .i64 k3, .bool n3, .string g3, .int .i64 e3, .string t3, .slice a3 m3 c3, .slice b3 o3 d3] 31)).alloc (.cells #[.int .i64 3, .int .i64 ((N : Int) + 1)] 34)) := vb_t HB02.out hb27
  obtain ⟨p0, p1⟩ := (HY1.out.bel (vb_t HB12.out hb27)).c2
  have hy3 : Bj ((w7.alloc (.cells #[.int .i64 k3, .bool n3, .string g3, .int .i64 e3, .string t3, .slice a3 m3 c3, .slice b3 o3 d3] 31)).alloc (.cells #[.int .i64 3, .int .i64 ((N : Int) + 1)] 34)) (w7.heap.size + 1) #[.int .i64 3, .int .i64 ((N : Int) + 1)] := Bj.new' _ _ _ _ (by simp)
  obtain ⟨q0, q1⟩ := hy3.c2
  have HHD : Hid (∀ w', Below (World.heap ((w7.alloc (.cells #[.int .i64 k3, .bool n3, .string g3, .int .i64 e3, .string t3, .slice a3 m3 c3, .slice b3 o3 d3] 31)).alloc (.cells #[.int .i64 3, .int .i64 ((N : Int) + 1)] 34))).size ((w7.alloc (.cells #[.int .i64 k3, .bool n3, .string g3, .int .i64 e3, .string t3, .slice a3 m3 c3, .slice b3 o3 d3] 31)).alloc (.cells #[.int .i64 3, .int .i64 ((N : Int) + 1)] 34)) w' → Calls Tryz.prog 14 #[] w' (fun r w3 => r = .returned (.bool true) ∧ Below w.heap.size w w3)) := hid_intro (fun w' hb => (HH.out w' (vb_t hb07 hb)).mono fun r w3 hr => ⟨hr.1, vb_t (vb_t hb07 hb) hr.2⟩)
  have hc := Below.refl (World.heap ((w7.alloc (.cells #[.int .i64 k3, .bool n3, .string g3, .int .i64 e3, .string t3, .slice a3 m3 c3, .slice b3 o3 d3] 31)).alloc (.cells #[.int .i64 3, .int .i64 ((N : Int) + 1)] 34))).size ((w7.alloc (.cells #[.int .i64 k3, .bool n3, .string g3, .int .i64 e3, .string t3, .slice a3 m3 c3, .slice b3 o3 d3] 31)).alloc (.cells #[.int .i64 3, .int .i64 ((N : Int) + 1)] 34))
  clear hy3 hb27 hb07 hs7 hb7 HB06 HB02 HB12 HY1 HB6 HB5 HO5 HO6 HO HT3 HH HB1 HB2 y0 y1 u0 u1 hm0 hm1
  go_wp2_with (go_at_call 14; refine (HHD.out _ ?_).mono ?_; (with_reducible repeat (first | exact hc | refine vb_d ?_)); rintro r9 w9 ⟨rfl, hw9⟩)
  go_ret
  exact ⟨rfl, hw9⟩

set_option maxRecDepth 100000 in
set_option maxHeartbeats 1600000 in
theorem jb_mid_ex (l l2 : List UInt8) (v v2 : Value) (w : World) (a : Addr) (hE : Lx.Env w) (hD : Env w a) (hB : Lx.Byt w v l) (hB2 : Lx.Byt w v2 l2) (N : Nat) (j : Int) (hx : vr (judgedS l (bm 0 0 0)) = (3, (N : Int) + 1)) (hy : vr (judgedS (l.take N) (bm 0 0 0)) = (4, j)) (hl : l.length ≤ 100000) (hl2 : l2.length ≤ 100000) (hN : N < l.length) (hz : vr (judgedS (l.take (N + 1) ++ l2) (bm 0 0 0)) = (3, (N : Int) + 1)) :
    Calls Tryz.prog 6 #[v, v2] w fun r w' => r = .returned (.bool true) ∧ Below w.heap.size w w' := by
  have HR := hid_intro (fun (w' : World) (hb : Below w.heap.size w w') (v' : Value) (l' : List UInt8) (hB' : Lx.Byt w' v' l') => readQ l' v' w' a (hE.below hb) (hD.below hb) hB')
  have HR1 := hid_intro (HR.out w (Below.refl _ _) v l hB)
  have HH := hid_intro (fun (w' : World) (hb : Below w.heap.size w w') => heads_any w' a (hE.below hb) (hD.below hb))
  have HBB := hid_intro (fun (w' : World) (hb : Below w.heap.size w w') => And.intro (hB.below hb) (hB2.below hb))
  obtain ⟨ao, cap, rfl⟩ := byt_shape hB
  obtain ⟨ao2, cap2, rfl⟩ := byt_shape hB2
  rw [hx] at HR1
  have hcp := (byt_take hB (e := N) (by omega)).2
  have HT2 : Hid (∀ w', Below w.heap.size w w' → Calls Tryz.prog 9 #[.slice ao N cap, .agg #[.int .i64 0, .int .i64 0, .int .i64 0, .int .i64 0, .int .i64 0]] w' (RdQ (4, j) w')) := hid_intro (fun w' hb => by
    have := HR.out w' hb _ _ (byt_take (hB.below hb) (e := N) (by omega)).1
    rw [hy] at this
    exact this)
  have hI : ¬ (100000 : Int) < (l.length : Int) := by omega
  have hI2 : ¬ (100000 : Int) < (l2.length : Int) := by omega
  have hN1 : ¬ (N : Int) + 1 < 1 := by omega
  have hN2 : ¬ (l.length : Int) + 1 < (N : Int) + 1 := by omega
  have hN3 : (N : Int) ≤ (l.length : Int) := by omega
  have hlI : (l.length : Int) ≤ 100000 := by omega
  have hw1 : wrap64 ((l.length : Int) + 1) = (l.length : Int) + 1 := by unfold wrap64; omega
  have hwN : wrap64 ((N : Int) + 1 - 1) = (N : Int) := by unfold wrap64; omega
  have hmin : min (N : Int) (l.length : Int) = (N : Int) := by omega
  have hcI : (N : Int) ≤ (cap : Int) := by omega
  have hN0 : ¬ (N : Int) < 0 := by omega
  have hN4 : ¬ (l.length : Int) < (N : Int) + 1 := by omega
  have hcI2 : (N : Int) + 1 ≤ (cap : Int) := by omega
  have HNL := hid_intro hN
  have HL1 := hid_intro hl
  have HL2 := hid_intro hl2
  have HZ := hid_intro hz
  have HT3 : Hid (∀ w' v', Below w.heap.size w w' → Lx.Byt w' v' (l.take (N + 1) ++ l2) → Calls Tryz.prog 9 #[v', .agg #[.int .i64 0, .int .i64 0, .int .i64 0, .int .i64 0, .int .i64 0]] w' (RdQ (3, (N : Int) + 1) w')) := hid_intro (fun w' v' hb hb' => by
    have := HR.out w' hb _ _ hb'
    rw [hz] at this
    exact this)
  have v1 : ∀ w, (Op.equalIn 10000 34 (.agg #[.int .i64 3, .int .i64 ((N : Int) + 1)]) (.agg #[.int .i64 3, .int .i64 ((N : Int) + 1)])).run Tryz.prog w = .ok true w := fun w => by rw [eqIn_verd]; simp
  clear hE hD hB hB2 hx hy hl hl2 hN HR hcp hz
  go_enter Tryz.func6, Tryz.ntmps6
  go_wp2_with fail
  refine HR1.out.mono ?_; rintro r1 w1 ⟨hb1, k1, n1, g1, e1, t1, a1, m1, c1, b1, o1, d1, rfl⟩
  obtain ⟨A1, hA1⟩ : ∃ A1, ((w1.alloc (.cells #[.int .i64 k1, .bool n1, .string g1, .int .i64 e1, .string t1, .slice a1 m1 c1, .slice b1 o1 d1] 31)).alloc (.cells #[.int .i64 3, .int .i64 ((N : Int) + 1)] 34)) = A1 := ⟨_, rfl⟩
  have HA1 := hid_intro hA1
  have hs1 : Below w1.heap.size w1 A1 := hA1 ▸ vb_a (vb_a (Below.refl _ _) _) _
  have hb01 := vb_t hb1 hs1
  have hy1 : Bj A1 (w1.heap.size + 1) #[.int .i64 3, .int .i64 ((N : Int) + 1)] := hA1 ▸ Bj.new' _ _ _ _ (by simp)
  clear hA1 HR1
  go_wp2_with fail
  rw [HA1.out]
  refine (HT2.out A1 hb01).mono ?_; rintro r2 w2 ⟨hb2, k2, n2, g2, e2, t2, a2, m2, c2, b2, o2, d2, rfl⟩
  have hs2 : Below w2.heap.size w2 ((w2.alloc (.cells #[.int .i64 k2, .bool n2, .string g2, .int .i64 e2, .string t2, .slice a2 m2 c2, .slice b2 o2 d2] 31)).alloc (.cells #[.int .i64 4, .int .i64 j] 34)) := vb_a (vb_a (Below.refl _ _) _) _
  have hb12 : Below A1.heap.size A1 ((w2.alloc (.cells #[.int .i64 k2, .bool n2, .string g2, .int .i64 e2, .string t2, .slice a2 m2 c2, .slice b2 o2 d2] 31)).alloc (.cells #[.int .i64 4, .int .i64 j] 34)) := vb_t hb2 hs2
  have hb02 : Below w.heap.size w ((w2.alloc (.cells #[.int .i64 k2, .bool n2, .string g2, .int .i64 e2, .string t2, .slice a2 m2 c2, .slice b2 o2 d2] 31)).alloc (.cells #[.int .i64 4, .int .i64 j] 34)) := vb_t hb01 hb12
  have hy2 : Bj ((w2.alloc (.cells #[.int .i64 k2, .bool n2, .string g2, .int .i64 e2, .string t2, .slice a2 m2 c2, .slice b2 o2 d2] 31)).alloc (.cells #[.int .i64 4, .int .i64 j] 34)) (w2.heap.size + 1) #[.int .i64 4, .int .i64 j] := Bj.new' _ _ _ _ (by simp)
  obtain ⟨y0, y1⟩ := (hy1.bel hb12).c2
  obtain ⟨u0, u1⟩ := hy2.c2
  obtain ⟨A2, hA2⟩ : ∃ A2, ((w2.alloc (.cells #[.int .i64 k2, .bool n2, .string g2, .int .i64 e2, .string t2, .slice a2 m2 c2, .slice b2 o2 d2] 31)).alloc (.cells #[.int .i64 4, .int .i64 j] 34)) = A2 := ⟨_, rfl⟩
  rw [hA2] at hb12 hb02 y0 y1 u0 u1
  have HB02 := hid_intro hb02
  have HB12 := hid_intro hb12
  have HY1 := hid_intro hy1
  have HE : Hid (Below A2.heap.size A2 (A2.alloc (.cells #[] 5))) := hid_intro (vb_a (Below.refl _ _) _)
  have HO : Hid ((A2.alloc (.cells #[] 5)).ownsRow A2.heap.size 5 1 (.slice (some ⟨A2.heap.size, 0, none⟩) 0 0) ([] : List UInt8).length (Lx.cellsL [])) := hid_intro (own_none A2 _ rfl)
  have HB1 : Hid (∀ w', Below w.heap.size w w' → Lx.Byt w' (.slice ao (N + 1) cap) (l.take (N + 1))) := hid_intro (fun w' hb => (byt_take (HBB.out w' hb).1 (e := N + 1) (by have := HNL.out; omega)).1)
  have HB2 : Hid (∀ w', Below w.heap.size w w' → Lx.Byt w' (.slice ao2 l2.length cap2) l2) := hid_intro (fun w' hb => (HBB.out w' hb).2)
  have HSZ : Hid ((l.take (N + 1)).length + l2.length ≤ 1000000) := hid_intro (by have := HL1.out; have := HL2.out; simp; omega)
  have hm0 : ∀ o, (A2.alloc o).cell? ⟨w1.heap.size + 1, 0, none⟩ = some (.int .i64 3) := fun o => ((hy1.bel (vb_a hb12 o)).c2).1
  have hm1 : ∀ o, (A2.alloc o).cell? ⟨w1.heap.size + 1, 1, none⟩ = some (.int .i64 ((N : Int) + 1)) := fun o => ((hy1.bel (vb_a hb12 o)).c2).2
  have HS2 : Hid (A2.heap.size = w2.heap.size + 1 + 1) := hid_intro (by rw [← hA2]; simp)
  clear hy1 hy2 hb12 hb02 hs1 hs2 hb01 hb1 hb2 HT2 HA1 HBB
  go_wp2_with (first | (at_builtin; refine wp_app_byt rfl _ _ rfl A2.heap.size _ [] rfl _ (l.take (N + 1)) rfl ?_ HO.out ?_ ?_ ?_; (focus (have := HSZ.out; simp at this ⊢; omega)); (focus (exact HB1.out _ (vb_t HB02.out HE.out))); (focus (exact HE.out.size)); intro v5 w5 ho5 hg5; have HO5 := hid_intro ho5; have HB5 : Hid (Below A2.heap.size A2 w5) := hid_intro (app_bel HE.out HO.out (Nat.le_refl _) hg5); clear ho5 hg5) | (at_builtin; refine wp_app_byt rfl _ _ rfl A2.heap.size _ (l.take (N + 1)) rfl _ l2 rfl HSZ.out ?_ ?_ ?_ ?_; (focus (exact HO5.out)); (focus (exact HB2.out _ (vb_t HB02.out HB5.out))); (focus (exact HB5.out.size)); intro v6 w6 ho6 hg6; have HO6 := hid_intro ho6; have HB6 : Hid (Below A2.heap.size A2 w6) := hid_intro (app_bel HB5.out HO5.out (Nat.le_refl _) hg6)))
  have HB06 : Hid (Below w.heap.size w w6) := hid_intro (vb_t HB02.out HB6.out)
  clear ho6 hg6
  refine (HT3.out w6 v6 HB06.out (byt_own HO6.out)).mono ?_; rintro r3 w7 ⟨hb7, k3, n3, g3, e3, t3, a3, m3, c3, b3, o3, d3, rfl⟩
  have hs7 : Below w7.heap.size w7 ((w7.alloc (.cells #[.int .i64 k3, .bool n3, .string g3, .int .i64 e3, .string t3, .slice a3 m3 c3, .slice b3 o3 d3] 31)).alloc (.cells #[.int .i64 3, .int .i64 ((N : Int) + 1)] 34)) := vb_a (vb_a (Below.refl _ _) _) _
  have hb27 : Below A2.heap.size A2 ((w7.alloc (.cells #[.int .i64 k3, .bool n3, .string g3, .int .i64 e3, .string t3, .slice a3 m3 c3, .slice b3 o3 d3] 31)).alloc (.cells #[.int .i64 3, .int .i64 ((N : Int) + 1)] 34)) := vb_t (vb_t HB6.out hb7) hs7
  have hb07 : Below w.heap.size w ((w7.alloc (.cells #[.int .i64 k3, .bool n3, .string g3, .int .i64 e3, .string t3, .slice a3 m3 c3, .slice b3 o3 d3] 31)).alloc (.cells #[.int .i64 3, .int .i64 ((N : Int) + 1)] 34)) := vb_t HB02.out hb27
  obtain ⟨p0, p1⟩ := (HY1.out.bel (vb_t HB12.out hb27)).c2
  have hy3 : Bj ((w7.alloc (.cells #[.int .i64 k3, .bool n3, .string g3, .int .i64 e3, .string t3, .slice a3 m3 c3, .slice b3 o3 d3] 31)).alloc (.cells #[.int .i64 3, .int .i64 ((N : Int) + 1)] 34)) (w7.heap.size + 1) #[.int .i64 3, .int .i64 ((N : Int) + 1)] := Bj.new' _ _ _ _ (by simp)
  obtain ⟨q0, q1⟩ := hy3.c2
  have HHD : Hid (∀ w', Below (World.heap ((w7.alloc (.cells #[.int .i64 k3, .bool n3, .string g3, .int .i64 e3, .string t3, .slice a3 m3 c3, .slice b3 o3 d3] 31)).alloc (.cells #[.int .i64 3, .int .i64 ((N : Int) + 1)] 34))).size ((w7.alloc (.cells #[.int .i64 k3, .bool n3, .string g3, .int .i64 e3, .string t3, .slice a3 m3 c3, .slice b3 o3 d3] 31)).alloc (.cells #[.int .i64 3, .int .i64 ((N : Int) + 1)] 34)) w' → Calls Tryz.prog 14 #[] w' (fun r w3 => r = .returned (.bool true) ∧ Below w.heap.size w w3)) := hid_intro (fun w' hb => (HH.out w' (vb_t hb07 hb)).mono fun r w3 hr => ⟨hr.1, vb_t (vb_t hb07 hb) hr.2⟩)
  have hc := Below.refl (World.heap ((w7.alloc (.cells #[.int .i64 k3, .bool n3, .string g3, .int .i64 e3, .string t3, .slice a3 m3 c3, .slice b3 o3 d3] 31)).alloc (.cells #[.int .i64 3, .int .i64 ((N : Int) + 1)] 34))).size ((w7.alloc (.cells #[.int .i64 k3, .bool n3, .string g3, .int .i64 e3, .string t3, .slice a3 m3 c3, .slice b3 o3 d3] 31)).alloc (.cells #[.int .i64 3, .int .i64 ((N : Int) + 1)] 34))
  clear hy3 hb27 hb07 hs7 hb7 HB06 HB02 HB12 HY1 HB6 HB5 HO5 HO6 HO HT3 HH HB1 HB2 y0 y1 u0 u1 hm0 hm1
  go_wp2_with (go_at_call 14; refine (HHD.out _ ?_).mono ?_; (with_reducible repeat (first | exact hc | refine vb_d ?_)); rintro r9 w9 ⟨rfl, hw9⟩)
  go_ret
  exact ⟨rfl, hw9⟩

set_option maxRecDepth 100000 in
set_option maxHeartbeats 1600000 in
theorem jb_mid_bad (l l2 : List UInt8) (v v2 : Value) (w : World) (a : Addr) (hE : Lx.Env w) (hD : Env w a) (hB : Lx.Byt w v l) (hB2 : Lx.Byt w v2 l2) (N : Nat) (hx : vr (judgedS l (bm 0 0 0)) = (3, (N : Int) + 1)) (hy : vr (judgedS (l.take N) (bm 0 0 0)) = (3, (N : Int) + 1)) (hl : l.length ≤ 100000) (hl2 : l2.length ≤ 100000) (hN : N < l.length) (hz : vr (judgedS (l.take (N + 1) ++ l2) (bm 0 0 0)) = (3, (N : Int) + 1)) :
    Calls Tryz.prog 6 #[v, v2] w fun r w' => r = .returned (.bool true) ∧ Below w.heap.size w w' := by
  have HR := hid_intro (fun (w' : World) (hb : Below w.heap.size w w') (v' : Value) (l' : List UInt8) (hB' : Lx.Byt w' v' l') => readQ l' v' w' a (hE.below hb) (hD.below hb) hB')
  have HR1 := hid_intro (HR.out w (Below.refl _ _) v l hB)
  have HH := hid_intro (fun (w' : World) (hb : Below w.heap.size w w') => heads_any w' a (hE.below hb) (hD.below hb))
  have HBB := hid_intro (fun (w' : World) (hb : Below w.heap.size w w') => And.intro (hB.below hb) (hB2.below hb))
  obtain ⟨ao, cap, rfl⟩ := byt_shape hB
  obtain ⟨ao2, cap2, rfl⟩ := byt_shape hB2
  rw [hx] at HR1
  have hcp := (byt_take hB (e := N) (by omega)).2
  have HT2 : Hid (∀ w', Below w.heap.size w w' → Calls Tryz.prog 9 #[.slice ao N cap, .agg #[.int .i64 0, .int .i64 0, .int .i64 0, .int .i64 0, .int .i64 0]] w' (RdQ (3, (N : Int) + 1) w')) := hid_intro (fun w' hb => by
    have := HR.out w' hb _ _ (byt_take (hB.below hb) (e := N) (by omega)).1
    rw [hy] at this
    exact this)
  have hI : ¬ (100000 : Int) < (l.length : Int) := by omega
  have hI2 : ¬ (100000 : Int) < (l2.length : Int) := by omega
  have hN1 : ¬ (N : Int) + 1 < 1 := by omega
  have hN2 : ¬ (l.length : Int) + 1 < (N : Int) + 1 := by omega
  have hN3 : (N : Int) ≤ (l.length : Int) := by omega
  have hlI : (l.length : Int) ≤ 100000 := by omega
  have hw1 : wrap64 ((l.length : Int) + 1) = (l.length : Int) + 1 := by unfold wrap64; omega
  have hwN : wrap64 ((N : Int) + 1 - 1) = (N : Int) := by unfold wrap64; omega
  have hmin : min (N : Int) (l.length : Int) = (N : Int) := by omega
  have hcI : (N : Int) ≤ (cap : Int) := by omega
  have hN0 : ¬ (N : Int) < 0 := by omega
  have hN4 : ¬ (l.length : Int) < (N : Int) + 1 := by omega
  have hcI2 : (N : Int) + 1 ≤ (cap : Int) := by omega
  have HNL := hid_intro hN
  have HL1 := hid_intro hl
  have HL2 := hid_intro hl2
  have HZ := hid_intro hz
  have HT3 : Hid (∀ w' v', Below w.heap.size w w' → Lx.Byt w' v' (l.take (N + 1) ++ l2) → Calls Tryz.prog 9 #[v', .agg #[.int .i64 0, .int .i64 0, .int .i64 0, .int .i64 0, .int .i64 0]] w' (RdQ (3, (N : Int) + 1) w')) := hid_intro (fun w' v' hb hb' => by
    have := HR.out w' hb _ _ hb'
    rw [hz] at this
    exact this)
  have v1 : ∀ w, (Op.equalIn 10000 34 (.agg #[.int .i64 3, .int .i64 ((N : Int) + 1)]) (.agg #[.int .i64 3, .int .i64 ((N : Int) + 1)])).run Tryz.prog w = .ok true w := fun w => by rw [eqIn_verd]; simp
  clear hE hD hB hB2 hx hy hl hl2 hN HR hcp hz
  go_enter Tryz.func6, Tryz.ntmps6
  go_wp2_with fail
  refine HR1.out.mono ?_; rintro r1 w1 ⟨hb1, k1, n1, g1, e1, t1, a1, m1, c1, b1, o1, d1, rfl⟩
  obtain ⟨A1, hA1⟩ : ∃ A1, ((w1.alloc (.cells #[.int .i64 k1, .bool n1, .string g1, .int .i64 e1, .string t1, .slice a1 m1 c1, .slice b1 o1 d1] 31)).alloc (.cells #[.int .i64 3, .int .i64 ((N : Int) + 1)] 34)) = A1 := ⟨_, rfl⟩
  have HA1 := hid_intro hA1
  have hs1 : Below w1.heap.size w1 A1 := hA1 ▸ vb_a (vb_a (Below.refl _ _) _) _
  have hb01 := vb_t hb1 hs1
  have hy1 : Bj A1 (w1.heap.size + 1) #[.int .i64 3, .int .i64 ((N : Int) + 1)] := hA1 ▸ Bj.new' _ _ _ _ (by simp)
  clear hA1 HR1
  go_wp2_with fail
  rw [HA1.out]
  refine (HT2.out A1 hb01).mono ?_; rintro r2 w2 ⟨hb2, k2, n2, g2, e2, t2, a2, m2, c2, b2, o2, d2, rfl⟩
  have hs2 : Below w2.heap.size w2 ((w2.alloc (.cells #[.int .i64 k2, .bool n2, .string g2, .int .i64 e2, .string t2, .slice a2 m2 c2, .slice b2 o2 d2] 31)).alloc (.cells #[.int .i64 3, .int .i64 ((N : Int) + 1)] 34)) := vb_a (vb_a (Below.refl _ _) _) _
  have hb12 : Below A1.heap.size A1 ((w2.alloc (.cells #[.int .i64 k2, .bool n2, .string g2, .int .i64 e2, .string t2, .slice a2 m2 c2, .slice b2 o2 d2] 31)).alloc (.cells #[.int .i64 3, .int .i64 ((N : Int) + 1)] 34)) := vb_t hb2 hs2
  have hb02 : Below w.heap.size w ((w2.alloc (.cells #[.int .i64 k2, .bool n2, .string g2, .int .i64 e2, .string t2, .slice a2 m2 c2, .slice b2 o2 d2] 31)).alloc (.cells #[.int .i64 3, .int .i64 ((N : Int) + 1)] 34)) := vb_t hb01 hb12
  have hy2 : Bj ((w2.alloc (.cells #[.int .i64 k2, .bool n2, .string g2, .int .i64 e2, .string t2, .slice a2 m2 c2, .slice b2 o2 d2] 31)).alloc (.cells #[.int .i64 3, .int .i64 ((N : Int) + 1)] 34)) (w2.heap.size + 1) #[.int .i64 3, .int .i64 ((N : Int) + 1)] := Bj.new' _ _ _ _ (by simp)
  obtain ⟨y0, y1⟩ := (hy1.bel hb12).c2
  obtain ⟨u0, u1⟩ := hy2.c2
  obtain ⟨A2, hA2⟩ : ∃ A2, ((w2.alloc (.cells #[.int .i64 k2, .bool n2, .string g2, .int .i64 e2, .string t2, .slice a2 m2 c2, .slice b2 o2 d2] 31)).alloc (.cells #[.int .i64 3, .int .i64 ((N : Int) + 1)] 34)) = A2 := ⟨_, rfl⟩
  rw [hA2] at hb12 hb02 y0 y1 u0 u1
  have HB02 := hid_intro hb02
  have HB12 := hid_intro hb12
  have HY1 := hid_intro hy1
  have HE : Hid (Below A2.heap.size A2 (A2.alloc (.cells #[] 5))) := hid_intro (vb_a (Below.refl _ _) _)
  have HO : Hid ((A2.alloc (.cells #[] 5)).ownsRow A2.heap.size 5 1 (.slice (some ⟨A2.heap.size, 0, none⟩) 0 0) ([] : List UInt8).length (Lx.cellsL [])) := hid_intro (own_none A2 _ rfl)
  have HB1 : Hid (∀ w', Below w.heap.size w w' → Lx.Byt w' (.slice ao (N + 1) cap) (l.take (N + 1))) := hid_intro (fun w' hb => (byt_take (HBB.out w' hb).1 (e := N + 1) (by have := HNL.out; omega)).1)
  have HB2 : Hid (∀ w', Below w.heap.size w w' → Lx.Byt w' (.slice ao2 l2.length cap2) l2) := hid_intro (fun w' hb => (HBB.out w' hb).2)
  have HSZ : Hid ((l.take (N + 1)).length + l2.length ≤ 1000000) := hid_intro (by have := HL1.out; have := HL2.out; simp; omega)
  have hm0 : ∀ o, (A2.alloc o).cell? ⟨w1.heap.size + 1, 0, none⟩ = some (.int .i64 3) := fun o => ((hy1.bel (vb_a hb12 o)).c2).1
  have hm1 : ∀ o, (A2.alloc o).cell? ⟨w1.heap.size + 1, 1, none⟩ = some (.int .i64 ((N : Int) + 1)) := fun o => ((hy1.bel (vb_a hb12 o)).c2).2
  have HS2 : Hid (A2.heap.size = w2.heap.size + 1 + 1) := hid_intro (by rw [← hA2]; simp)
  clear hy1 hy2 hb12 hb02 hs1 hs2 hb01 hb1 hb2 HT2 HA1 HBB
  go_wp2_with (first | (at_builtin; refine wp_app_byt rfl _ _ rfl A2.heap.size _ [] rfl _ (l.take (N + 1)) rfl ?_ HO.out ?_ ?_ ?_; (focus (have := HSZ.out; simp at this ⊢; omega)); (focus (exact HB1.out _ (vb_t HB02.out HE.out))); (focus (exact HE.out.size)); intro v5 w5 ho5 hg5; have HO5 := hid_intro ho5; have HB5 : Hid (Below A2.heap.size A2 w5) := hid_intro (app_bel HE.out HO.out (Nat.le_refl _) hg5); clear ho5 hg5) | (at_builtin; refine wp_app_byt rfl _ _ rfl A2.heap.size _ (l.take (N + 1)) rfl _ l2 rfl HSZ.out ?_ ?_ ?_ ?_; (focus (exact HO5.out)); (focus (exact HB2.out _ (vb_t HB02.out HB5.out))); (focus (exact HB5.out.size)); intro v6 w6 ho6 hg6; have HO6 := hid_intro ho6; have HB6 : Hid (Below A2.heap.size A2 w6) := hid_intro (app_bel HB5.out HO5.out (Nat.le_refl _) hg6)))
  have HB06 : Hid (Below w.heap.size w w6) := hid_intro (vb_t HB02.out HB6.out)
  clear ho6 hg6
  refine (HT3.out w6 v6 HB06.out (byt_own HO6.out)).mono ?_; rintro r3 w7 ⟨hb7, k3, n3, g3, e3, t3, a3, m3, c3, b3, o3, d3, rfl⟩
  have hs7 : Below w7.heap.size w7 ((w7.alloc (.cells #[.int .i64 k3, .bool n3, .string g3, .int .i64 e3, .string t3, .slice a3 m3 c3, .slice b3 o3 d3] 31)).alloc (.cells #[.int .i64 3, .int .i64 ((N : Int) + 1)] 34)) := vb_a (vb_a (Below.refl _ _) _) _
  have hb27 : Below A2.heap.size A2 ((w7.alloc (.cells #[.int .i64 k3, .bool n3, .string g3, .int .i64 e3, .string t3, .slice a3 m3 c3, .slice b3 o3 d3] 31)).alloc (.cells #[.int .i64 3, .int .i64 ((N : Int) + 1)] 34)) := vb_t (vb_t HB6.out hb7) hs7
  have hb07 : Below w.heap.size w ((w7.alloc (.cells #[.int .i64 k3, .bool n3, .string g3, .int .i64 e3, .string t3, .slice a3 m3 c3, .slice b3 o3 d3] 31)).alloc (.cells #[.int .i64 3, .int .i64 ((N : Int) + 1)] 34)) := vb_t HB02.out hb27
  obtain ⟨p0, p1⟩ := (HY1.out.bel (vb_t HB12.out hb27)).c2
  have hy3 : Bj ((w7.alloc (.cells #[.int .i64 k3, .bool n3, .string g3, .int .i64 e3, .string t3, .slice a3 m3 c3, .slice b3 o3 d3] 31)).alloc (.cells #[.int .i64 3, .int .i64 ((N : Int) + 1)] 34)) (w7.heap.size + 1) #[.int .i64 3, .int .i64 ((N : Int) + 1)] := Bj.new' _ _ _ _ (by simp)
  obtain ⟨q0, q1⟩ := hy3.c2
  have HHD : Hid (∀ w', Below (World.heap ((w7.alloc (.cells #[.int .i64 k3, .bool n3, .string g3, .int .i64 e3, .string t3, .slice a3 m3 c3, .slice b3 o3 d3] 31)).alloc (.cells #[.int .i64 3, .int .i64 ((N : Int) + 1)] 34))).size ((w7.alloc (.cells #[.int .i64 k3, .bool n3, .string g3, .int .i64 e3, .string t3, .slice a3 m3 c3, .slice b3 o3 d3] 31)).alloc (.cells #[.int .i64 3, .int .i64 ((N : Int) + 1)] 34)) w' → Calls Tryz.prog 14 #[] w' (fun r w3 => r = .returned (.bool true) ∧ Below w.heap.size w w3)) := hid_intro (fun w' hb => (HH.out w' (vb_t hb07 hb)).mono fun r w3 hr => ⟨hr.1, vb_t (vb_t hb07 hb) hr.2⟩)
  have hc := Below.refl (World.heap ((w7.alloc (.cells #[.int .i64 k3, .bool n3, .string g3, .int .i64 e3, .string t3, .slice a3 m3 c3, .slice b3 o3 d3] 31)).alloc (.cells #[.int .i64 3, .int .i64 ((N : Int) + 1)] 34))).size ((w7.alloc (.cells #[.int .i64 k3, .bool n3, .string g3, .int .i64 e3, .string t3, .slice a3 m3 c3, .slice b3 o3 d3] 31)).alloc (.cells #[.int .i64 3, .int .i64 ((N : Int) + 1)] 34))
  clear hy3 hb27 hb07 hs7 hb7 HB06 HB02 HB12 HY1 HB6 HB5 HO5 HO6 HO HT3 HH HB1 HB2 y0 y1 u0 u1 hm0 hm1
  go_wp2_with (go_at_call 14; refine (HHD.out _ ?_).mono ?_; (with_reducible repeat (first | exact hc | refine vb_d ?_)); rintro r9 w9 ⟨rfl, hw9⟩)
  go_ret
  exact ⟨rfl, hw9⟩

end Go.Proofs.YtlahlnocjfphjaaGreatDoor

namespace Go.Proofs.YtlahlnocjfphjaaGreatDoor
open Go.RowKit Go.Maps

theorem judged_err {l : List UInt8} {m : LM} {e : Nat} (hl : l.length ≤ 1048576) (h : textS l m = .error e) : vr (judgedS l m) = (3, (e : Int)) := by
  unfold judgedS
  rw [if_neg (by omega), h]
  rfl
theorem judged_ok {l : List UInt8} {m : LM} {x : JV × SS} (hl : l.length ≤ 1048576) (h : textS l m = .ok x) : vr (judgedS l m) = (1, 0) ∨ ∃ j, vr (judgedS l m) = (4, j) := by
  unfold judgedS
  rw [if_neg (by omega), h]
  simp only
  split
  · exact Or.inr ⟨_, rfl⟩
  · split
    · exact Or.inr ⟨_, rfl⟩
    · exact Or.inl rfl
theorem judged_bad {l : List UInt8} {m : LM} {k : Int} (hl : l.length ≤ 1048576) (h : judgedS l m = .error (3, k)) : ∃ e : Nat, textS l m = .error e ∧ k = (e : Int) := by
  unfold judgedS at h
  rw [if_neg (by omega)] at h
  split at h
  · rename_i e he
    simp at h
    exact ⟨e, he, h.symm⟩
  · split at h
    · simp at h
    · split at h
      · simp at h
      · cases h
/-- JsonBad's walk. -/
theorem jbad_walk (l l2 : List UInt8) (v v2 : Value) (w : World) (a : Addr) (hE : Lx.Env w) (hD : Env w a) (hB : Lx.Byt w v l) (hB2 : Lx.Byt w v2 l2) :
    Calls Tryz.prog 6 #[v, v2] w fun r w' => r = .returned (.bool true) ∧ Below w.heap.size w w' := by
  cases hx : judgedS l (bm 0 0 0) with
  | ok y => exact jb_else l l2 v v2 w a hE hD hB hB2 1 0 (by rw [hx]; rfl) (by decide)
  | error p =>
    obtain ⟨r, k⟩ := p
    by_cases hr : r = 3
    · subst hr
      have hv : vr (judgedS l (bm 0 0 0)) = (3, k) := by rw [hx]; rfl
      by_cases hl : l.length ≤ 100000
      · by_cases hl2 : l2.length ≤ 100000
        · obtain ⟨e, he, rfl⟩ := judged_bad (by omega) hx
          have hg := text_gt he
          obtain ⟨N, rfl⟩ : ∃ N, e = N + 1 := ⟨e - 1, by omega⟩
          have hv : vr (judgedS l (bm 0 0 0)) = (3, (N : Int) + 1) := by rw [hv]; simp
          have hlt : (l.take N).length ≤ 1048576 := by simp; omega
          have hc := text_cut (by omega) he
          rw [show N + 1 - 1 = N by omega] at hc
          by_cases hN : N < l.length
          · have hz : vr (judgedS (l.take (N + 1) ++ l2) (bm 0 0 0)) = (3, (N : Int) + 1) := by
              rw [judged_err (by simp; omega) (text_more (by omega) he (by omega) l2)]; simp
            rcases hc with hc | ⟨x, hc⟩
            · exact jb_mid_bad l l2 v v2 w a hE hD hB hB2 N hv (by rw [judged_err hlt hc]; simp) hl hl2 hN hz
            · rcases judged_ok hlt hc with hy | ⟨j, hy⟩
              · exact jb_mid_ok l l2 v v2 w a hE hD hB hB2 N 0 hv hy hl hl2 hN hz
              · exact jb_mid_ex l l2 v v2 w a hE hD hB hB2 N j hv hy hl hl2 hN hz
          · have hN : N = l.length := by omega
            rcases hc with hc | ⟨x, hc⟩
            · exact jb_end_bad l l2 v v2 w a hE hD hB hB2 N hv (by rw [judged_err hlt hc]; simp) hl hl2 hN
            · rcases judged_ok hlt hc with hy | ⟨j, hy⟩
              · exact jb_end_ok l l2 v v2 w a hE hD hB hB2 N 0 hv hy hl hl2 hN
              · exact jb_end_ex l l2 v v2 w a hE hD hB hB2 N j hv hy hl hl2 hN
        · exact jb_long2 l l2 v v2 w a hE hD hB hB2 k hv hl (by omega)
      · exact jb_long l l2 v v2 w a hE hD hB hB2 k hv (by omega)
    · exact jb_else l l2 v v2 w a hE hD hB hB2 r k (by rw [hx]; rfl) hr
end Go.Proofs.YtlahlnocjfphjaaGreatDoor

namespace Go.Proofs.YtlahlnocjfphjaaGreatDoor
open Go.RowKit Go.Maps
attribute [local go_sem] setCell_drewN alloc_drewN

/-- Numbers that came in. -/
def IL (w : World) (v : Value) (bs : List Int) : Prop := ∃ ao cap, v = .slice ao bs.length cap ∧ (bs = [] ∨ ∃ b off, ao = some ⟨b, off, none⟩ ∧ b < w.heap.size ∧ ∀ i (h : i < bs.length), w.cell? ⟨b, off + i, none⟩ = some (.int .i64 bs[i]))
theorem IL.bel {w w' : World} {v : Value} {bs : List Int} (h : IL w v bs) (hb : Below w.heap.size w w') : IL w' v bs := by
  obtain ⟨ao, cap, rfl, h⟩ := h
  refine ⟨ao, cap, rfl, ?_⟩
  rcases h with h | ⟨b, off, h1, h2, h3⟩
  · exact Or.inl h
  · exact Or.inr ⟨b, off, h1, Nat.lt_of_lt_of_le h2 hb.size, fun i hi => by rw [hb.cell (p := ⟨b, off + i, none⟩) h2]; exact h3 i hi⟩
/-- Where the loop stands. -/
structure BI (l : List UInt8) (A1 : World) (k a : Nat) (vW vB : Value) (Wd Br : List UInt8) (wr : World) : Prop where
  be : Below A1.heap.size A1 wr
  tw : Two A1.heap.size vW vB Wd Br wr
  mw : ∀ r, Mk l a r → Mk l 0 (Wd ++ r)
  mb : ∀ r, Mk l a r → Mk l 0 (Br ++ r)
  tk : Tks l a
  le : a ≤ l.length
  ka : k ≤ a
  wl : Wd.length ≤ a + k
  bl : Br.length ≤ a
theorem byt_sub {w : World} {b off cap : Nat} {l : List UInt8} (h : Lx.Byt w (.slice (some ⟨b, off, none⟩) l.length cap) l) {p e : Nat} (hp : p < e) (he : e ≤ l.length) : Lx.Byt w (.slice (some ⟨b, off + p, none⟩) (e - p) (cap - p)) (Lx.sub l p e) := by
  have hlen : (Lx.sub l p e).length = e - p := by unfold Lx.sub; simp; omega
  unfold Lx.Byt at h ⊢
  rw [hlen]
  rcases h with ⟨h0, _⟩ | ⟨b', off', c, hv, hc, hm, hL⟩
  · omega
  · injection hv with h1 h2 h3
    injection h1 with h1
    injection h1 with h1 h1' _
    subst h1 h1' h3
    refine .inr ⟨_, _, _, rfl, by omega, by omega, ⟨fun i hi => ?_, Lx.bx_lo _, Lx.bx_hi _⟩⟩
    rw [show off + p + i = off + (p + i) by omega, hL.cell (p + i) (by omega)]
    simp only [Lx.bx, Lx.sub]
    rw [List.getElem?_take_of_lt (by omega), List.getElem?_drop]
theorem byt_at {w : World} {ao : Option Addr} {cap : Nat} {l : List UInt8} (h : Lx.Byt w (.slice ao l.length cap) l) (hl : 0 < l.length) : ∃ b off, ao = some ⟨b, off, none⟩ ∧ l.length ≤ cap := by
  unfold Lx.Byt at h
  rcases h with ⟨h0, _⟩ | ⟨b', off', c, hv, hc, hm, hL⟩
  · omega
  · injection hv with h1 h2 h3
    exact ⟨b', off', h1, by omega⟩
theorem byt_one (w : World) (c : UInt8) (T : TypeId) : Lx.Byt (w.alloc (.cells #[.int .u8 (c.toNat : Int)] T)) (.slice (some ⟨w.heap.size, 0, none⟩) 1 1) [c] := by
  unfold Lx.Byt
  refine .inr ⟨w.heap.size, 0, 1, rfl, by simp, by unfold maxLen; omega, ⟨fun i hi => ?_, Lx.bx_lo _, Lx.bx_hi _⟩⟩
  have : i = 0 := by simp at hi; omega
  subst this
  rw [(Bj.new w #[.int .u8 (c.toNat : Int)] T).cell 0]
  simp [Lx.bx]
theorem sub_ne {l : List UInt8} {p e : Nat} (hp : p < e) (he : e ≤ l.length) : Lx.sub l p e ≠ [] := fun h => by
  have : (Lx.sub l p e).length = e - p := by unfold Lx.sub; simp; omega
  rw [h] at this
  simp at this
  omega
theorem mk_cons {l : List UInt8} {a : Nat} {t : Lx.Tok} (hp : Lx.pass l Lx.blankB a < l.length) (hr : Lx.readL l (Lx.pass l Lx.blankB a) = .ok t) {Wd : List UInt8} (hm : ∀ r, Mk l a r → Mk l 0 (Wd ++ r)) (bl : List UInt8) (hb : Blk bl) : ∀ r, Mk l t.to r → Mk l 0 ((Wd ++ bl ++ Lx.sub l (Lx.pass l Lx.blankB a) t.to) ++ r) := fun r h => by
  have := hm _ (.cons bl hb hp hr h)
  simpa using this
theorem mk_fin {l : List UInt8} {a : Nat} (he : Lx.pass l Lx.blankB a = l.length) {Wd : List UInt8} (hm : ∀ r, Mk l a r → Mk l 0 (Wd ++ r)) (bl : List UInt8) (hb : Blk bl) : Mk l 0 (Wd ++ bl) := hm _ (.nil bl hb he)
theorem tks_inv {l : List UInt8} {i : Nat} (h : Tks l i) : Lx.pass l Lx.blankB i = l.length ∨ ∃ t, Lx.pass l Lx.blankB i < l.length ∧ Lx.readL l (Lx.pass l Lx.blankB i) = .ok t ∧ Tks l t.to := by
  cases h with
  | nil he => exact Or.inl he
  | cons hp hr ht => exact Or.inr ⟨_, hp, hr, ht⟩
theorem blk_one {i : Nat} (hi : i < 4) : Blk [cbB i] := fun c hc => by
  obtain rfl : c = cbB i := by simpa using hc
  exact cbB_blank i hi

set_option maxRecDepth 100000 in
set_option maxHeartbeats 3200000 in
theorem jk_else (l : List UInt8) (bs : List Int) (v v2 : Value) (w : World) (a : Addr) (hE : Lx.Env w) (hD : Env w a) (hB : Lx.Byt w v l) (hL : IL w v2 bs) (r k : Int) (hx : vr (judgedS l (bm 0 0 0)) = (r, k)) (hr : r ≠ 1) :
    Calls Tryz.prog 5 #[v, v2] w fun r w' => r = .returned (.bool true) ∧ Below w.heap.size w w' := by
  have HR1 := hid_intro (readQ l v w a hE hD hB)
  have HH := hid_intro (fun (w' : World) (hb : Below w.heap.size w w') => heads_any w' a (hE.below hb) (hD.below hb))
  obtain ⟨ao, cap, rfl⟩ := byt_shape hB
  obtain ⟨ao2, cap2, rfl, hL⟩ := hL
  rw [hx] at HR1
  have hr3 : (r == 1) = false := by simpa using hr
  have hr4 : (r != 1) = true := by simpa using hr
  clear hx
  clear hE hD hB hL
  go_enter Tryz.func5, Tryz.ntmps5
  go_wp2_with fail
  refine HR1.out.mono ?_; rintro r1 w1 ⟨hb1, k1, n1, g1, e1, t1, a1, m1, c1, b1, o1, d1, rfl⟩
  have hb01 : Below w.heap.size w ((w1.alloc (.cells #[.int .i64 k1, .bool n1, .string g1, .int .i64 e1, .string t1, .slice a1 m1 c1, .slice b1 o1 d1] 31)).alloc (.cells #[.int .i64 r, .int .i64 k] 34)) := vb_a (vb_a hb1 _) _
  have HHD : Hid (∀ w', Below (World.heap ((w1.alloc (.cells #[.int .i64 k1, .bool n1, .string g1, .int .i64 e1, .string t1, .slice a1 m1 c1, .slice b1 o1 d1] 31)).alloc (.cells #[.int .i64 r, .int .i64 k] 34))).size ((w1.alloc (.cells #[.int .i64 k1, .bool n1, .string g1, .int .i64 e1, .string t1, .slice a1 m1 c1, .slice b1 o1 d1] 31)).alloc (.cells #[.int .i64 r, .int .i64 k] 34)) w' → Calls Tryz.prog 14 #[] w' (fun r w3 => r = .returned (.bool true) ∧ Below w.heap.size w w3)) := hid_intro (fun w' hb => (HH.out w' (vb_t hb01 hb)).mono fun r w3 hr => ⟨hr.1, vb_t (vb_t hb01 hb) hr.2⟩)
  have hc := Below.refl (World.heap ((w1.alloc (.cells #[.int .i64 k1, .bool n1, .string g1, .int .i64 e1, .string t1, .slice a1 m1 c1, .slice b1 o1 d1] 31)).alloc (.cells #[.int .i64 r, .int .i64 k] 34))).size ((w1.alloc (.cells #[.int .i64 k1, .bool n1, .string g1, .int .i64 e1, .string t1, .slice a1 m1 c1, .slice b1 o1 d1] 31)).alloc (.cells #[.int .i64 r, .int .i64 k] 34))
  clear HH HR1 hb01 hb1
  go_wp2_with (go_at_call 14; refine (HHD.out _ ?_).mono ?_; (with_reducible repeat (first | exact hc | refine vb_d ?_)); rintro r9 w9 ⟨rfl, hw9⟩)
  go_ret
  exact ⟨rfl, hw9⟩

set_option maxRecDepth 100000 in
set_option maxHeartbeats 3200000 in
theorem jk_long (l : List UInt8) (bs : List Int) (v v2 : Value) (w : World) (a : Addr) (hE : Lx.Env w) (hD : Env w a) (hB : Lx.Byt w v l) (hL : IL w v2 bs) (j : Int) (hx : vr (judgedS l (bm 0 0 0)) = (1, j)) (hl : 100000 < l.length) :
    Calls Tryz.prog 5 #[v, v2] w fun r w' => r = .returned (.bool true) ∧ Below w.heap.size w w' := by
  have HR1 := hid_intro (readQ l v w a hE hD hB)
  have HH := hid_intro (fun (w' : World) (hb : Below w.heap.size w w') => heads_any w' a (hE.below hb) (hD.below hb))
  obtain ⟨ao, cap, rfl⟩ := byt_shape hB
  obtain ⟨ao2, cap2, rfl, hL⟩ := hL
  rw [hx] at HR1
  have hI : (100000 : Int) < (l.length : Int) := by omega
  clear hx hl
  clear hE hD hB hL
  go_enter Tryz.func5, Tryz.ntmps5
  go_wp2_with fail
  refine HR1.out.mono ?_; rintro r1 w1 ⟨hb1, k1, n1, g1, e1, t1, a1, m1, c1, b1, o1, d1, rfl⟩
  have hb01 : Below w.heap.size w ((w1.alloc (.cells #[.int .i64 k1, .bool n1, .string g1, .int .i64 e1, .string t1, .slice a1 m1 c1, .slice b1 o1 d1] 31)).alloc (.cells #[.int .i64 1, .int .i64 j] 34)) := vb_a (vb_a hb1 _) _
  have HHD : Hid (∀ w', Below (World.heap ((w1.alloc (.cells #[.int .i64 k1, .bool n1, .string g1, .int .i64 e1, .string t1, .slice a1 m1 c1, .slice b1 o1 d1] 31)).alloc (.cells #[.int .i64 1, .int .i64 j] 34))).size ((w1.alloc (.cells #[.int .i64 k1, .bool n1, .string g1, .int .i64 e1, .string t1, .slice a1 m1 c1, .slice b1 o1 d1] 31)).alloc (.cells #[.int .i64 1, .int .i64 j] 34)) w' → Calls Tryz.prog 14 #[] w' (fun r w3 => r = .returned (.bool true) ∧ Below w.heap.size w w3)) := hid_intro (fun w' hb => (HH.out w' (vb_t hb01 hb)).mono fun r w3 hr => ⟨hr.1, vb_t (vb_t hb01 hb) hr.2⟩)
  have hc := Below.refl (World.heap ((w1.alloc (.cells #[.int .i64 k1, .bool n1, .string g1, .int .i64 e1, .string t1, .slice a1 m1 c1, .slice b1 o1 d1] 31)).alloc (.cells #[.int .i64 1, .int .i64 j] 34))).size ((w1.alloc (.cells #[.int .i64 k1, .bool n1, .string g1, .int .i64 e1, .string t1, .slice a1 m1 c1, .slice b1 o1 d1] 31)).alloc (.cells #[.int .i64 1, .int .i64 j] 34))
  clear HH HR1 hb01 hb1
  go_wp2_with (go_at_call 14; refine (HHD.out _ ?_).mono ?_; (with_reducible repeat (first | exact hc | refine vb_d ?_)); rintro r9 w9 ⟨rfl, hw9⟩)
  go_ret
  exact ⟨rfl, hw9⟩

set_option maxRecDepth 100000 in
set_option maxHeartbeats 6400000 in
theorem jk_main (l : List UInt8) (bs : List Int) (v v2 : Value) (w : World) (a : Addr) (hE : Lx.Env w) (hD : Env w a) (hB : Lx.Byt w v l) (hL : IL w v2 bs) (x : JV) (hx : judgedS l (bm 0 0 0) = .ok x) (hl : l.length ≤ 100000) :
    Calls Tryz.prog 5 #[v, v2] w fun r w' => r = .returned (.bool true) ∧ Below w.heap.size w w' := by
  have HR := hid_intro (fun (w' : World) (hb : Below w.heap.size w w') (v' : Value) (l' : List UInt8) (hB' : Lx.Byt w' v' l') => read_any l' v' 0 0 0 0 0 w' a (hE.below hb) (hD.below hb) hB')
  have HR1 := hid_intro (HR.out w (Below.refl _ _) v l hB)
  rw [hx] at HR1
  have HRS : Hid (∀ (w' : World) (v' : Value) (l' : List UInt8), Below w.heap.size w w' → Lx.Byt w' v' l' → l'.length ≤ 1048576 → Mk l 0 l' → Calls Tryz.prog 9 #[v', .agg #[.int .i64 0, .int .i64 0, .int .i64 0, .int .i64 0, .int .i64 0]] w' (JdR (.ok x) w')) := hid_intro (fun w' v' l' hb hB' hl2 hm => by
    have := HR.out w' hb v' l' hB'
    rw [judged_sim (by omega) hl2 hm hx] at this
    exact this)
  have HH := hid_intro (fun (w' : World) (hb : Below w.heap.size w w') => heads_any w' a (hE.below hb) (hD.below hb))
  have HN := hid_intro (fun (w' : World) (hb : Below w.heap.size w w') (i : Nat) (hi : i ≤ l.length) => Lx.next_any l i v w' (hE.below hb) (hB.below hb) hi (by omega))
  have HBB := hid_intro (fun (w' : World) (hb : Below w.heap.size w w') => hB.below hb)
  have HIL := hid_intro (fun (w' : World) (hb : Below w.heap.size w w') => hL.bel hb)
  have hT := judged_tks hx
  have HL := hid_intro hl
  obtain ⟨ao, cap, rfl⟩ := byt_shape hB
  obtain ⟨ao2, cap2, rfl, _⟩ := hL
  have hI : ¬ (100000 : Int) < (l.length : Int) := by omega
  have hlI : (l.length : Int) ≤ 100000 := by omega
  unfold limV at HR1
  clear hE hD hB hx hl HR
  go_enter Tryz.func5, Tryz.ntmps5
  go_wp2_with fail
  refine HR1.out.mono ?_; rintro r1 w1 ⟨hb1, f1, rfl, hv1⟩
  obtain ⟨k1, n1, g1, e1, t1, a1, m1, c1, b1, o1, d1, hva1, _⟩ := hv1.lit
  rw [hva1]
  obtain ⟨A1, hA1⟩ : ∃ A1, ((w1.alloc (.cells #[.int .i64 k1, .bool n1, .string g1, .int .i64 e1, .string t1, .slice a1 m1 c1, .slice b1 o1 d1] 31)).alloc (.cells #[.int .i64 1, .int .i64 0] 34)) = A1 := ⟨_, rfl⟩
  have HA1 := hid_intro hA1
  have HS1 : Hid (Below w1.heap.size w1 A1) := hid_intro (hA1 ▸ vb_a (vb_a (Below.refl _ _) _) _)
  have HB1 : Hid (Below w.heap.size w A1) := hid_intro (vb_t hb1 HS1.out)
  have HX1 : Hid (Bj A1 w1.heap.size #[.int .i64 k1, .bool n1, .string g1, .int .i64 e1, .string t1, .slice a1 m1 c1, .slice b1 o1 d1]) := hid_intro (hA1 ▸ (Bj.new _ _ _).al _)
  have HV1 : Hid (VI A1 (fun _ => False) x f1) := hid_intro (vi_free hv1 HS1.out)
  have HVA := hid_intro hva1
  have HI0 : Hid (BI l A1 0 0 (.slice none 0 0) (.slice none 0 0) [] [] A1) := hid_intro ⟨Below.refl _ _, Two.nil _ _, fun r h => h, fun r h => h, hT.1, Nat.zero_le _, Nat.le_refl _, by simp, by simp⟩
  clear hA1 HR1 hb1 hv1 hva1 hT
  go_wp2_with fail
  rw [HA1.out]
  clear HA1
  go_loopg [7, 8, 9, 10] (l.length + 1) (fun g s7 s8 s9 s10 wr => ∃ (k a : Nat) (Wd Br : List UInt8), g = l.length + 1 - k ∧ s9 = .int .i64 (a : Int) ∧ s10 = .int .i64 (k : Int) ∧ Hid (BI l A1 k a s7 s8 Wd Br wr))
  case atStart => exact ⟨0, 0, [], [], rfl, rfl, rfl, HI0⟩
  case round =>
    clear HI0
    obtain ⟨k, a', Wd, Br, rfl, rfl, rfl, HI⟩ := hrel
    have HWB : Hid (Below w.heap.size w wr) := hid_intro (vb_t HB1.out HI.out.be)
    have hkl : (k : Int) ≤ (l.length : Int) := by have := HI.out.ka; have := HI.out.le; omega
    have hkI : (k : Int) ≤ 100000 := by omega
    rcases tks_inv HI.out.tk with he | ⟨t, hp, hr, ht⟩
    · have HNX : Hid (∀ w', Below wr.heap.size wr w' → Calls Tryz.prog 17 #[.slice ao l.length cap, .int .i64 (a' : Int)] w' (fun r w2 => r = .returned (.tuple #[.agg #[.int .i64 0, .string ⟨#[]⟩, .int .i64 (l.length : Int), .int .i64 (l.length : Int)], .int .i64 0, .int .i64 0]) ∧ Below wr.heap.size wr w2)) := hid_intro (fun w' hb => (HN.out w' (vb_t HWB.out hb) a' HI.out.le).mono fun r w2 hr => ⟨hr.1.trans (by
        have : Lx.nextL l a' = .ok ⟨0, [], l.length, l.length⟩ := by unfold Lx.nextL Lx.readL; rw [he, if_pos rfl]
        rw [this]; rfl), vb_t hb hr.2⟩)
      by_cases hkb : k < bs.length
      · skip
        have hkb' : (k : Int) < (bs.length : Int) := by omega
        have HC2 : Hid (∃ b2_ o2_, ao2 = some ⟨b2_, o2_, none⟩ ∧ ∀ w', Below w.heap.size w w' → w'.cell? ⟨b2_, o2_ + k, none⟩ = some (.int .i64 bs[k])) := hid_intro (by
          obtain ⟨ao', cap', e, h⟩ := HIL.out w (Below.refl _ _)
          injection e with e1 e2 e3
          subst e1 e3
          rcases h with h | ⟨b, off, h1, h2, h3⟩
          · rw [h] at hkb; simp at hkb
          · exact ⟨b, off, h1, fun w' hb => by rw [hb.cell (p := ⟨b, off + k, none⟩) h2]; exact h3 k hkb⟩)
        obtain ⟨b2_, o2_, rfl, hc2⟩ := HC2.out
        obtain ⟨bi, hbi, hand⟩ := and3 bs[k]
        generalize bs[k] = bk at *
        have hbI : (bi : Int) < 4 := by omega
        have hb0 : (0 : Int) ≤ (bi : Int) := by omega
        have HBK := hid_intro hbi
        have HCE := hid_intro hc2
        clear HC2 hc2
        have HHE := hid_intro he
        clear he
        go_wp2_with fail
        refine (HNX.out _ (Below.refl _ _)).mono ?_; rintro r2 w2 ⟨rfl, hb2⟩
        obtain ⟨T1, hT1⟩ : ∃ T1, w2.alloc (.cells #[.int .i64 0, .string ⟨#[]⟩, .int .i64 (l.length : Int), .int .i64 (l.length : Int)] 50) = T1 := ⟨_, rfl⟩
        have HT1 : Hid (Below wr.heap.size wr T1) := hid_intro (vb_t hb2 (hT1 ▸ vb_a (Below.refl _ _) _))
        have HTB : Hid (Bj T1 w2.heap.size #[.int .i64 0, .string ⟨#[]⟩, .int .i64 (l.length : Int), .int .i64 (l.length : Int)]) := hid_intro (hT1 ▸ Bj.new _ _ _)
        obtain ⟨tc0, tc1, tc2, tc3⟩ := HTB.out.c4
        have HTW : Hid (Two A1.heap.size u7 u8 Wd Br T1) := hid_intro (HI.out.tw.bel HT1.out)
        have HAT : Hid (Below A1.heap.size A1 T1) := hid_intro (vb_t HI.out.be HT1.out)
        have HNW : Hid (u7.ownBlock ≠ some w2.heap.size) := hid_intro (fun e => by have := (HI.out.tw.ow.lt _ e).2; have := hb2.size; omega)
        have HSZ : Hid (Wd.length + 1 ≤ 1000000 ∧ Br.length ≤ 1000000) := hid_intro (by have := HI.out.wl; have := HI.out.bl; have := HI.out.ka; have := HI.out.le; have := HL.out; omega)
        clear HNX hb2
        obtain ⟨T2, hT2⟩ : ∃ T2, T1.alloc (.cells #[.int .u8 9, .int .u8 10, .int .u8 13, .int .u8 32] 5) = T2 := ⟨_, rfl⟩
        have cc2 : T2.cell? ⟨T1.heap.size, bi, none⟩ = some (.int .u8 ((cbB bi).toNat : Int)) := hT2 ▸ blank_cell T1 _ bi HBK.out
        have HT2 : Hid (Below T1.heap.size T1 T2) := hid_intro (hT2 ▸ vb_a (Below.refl _ _) _)
        have hk3 : T2.cell? ⟨b2_, o2_ + k, none⟩ = some (.int .i64 bk) := HCE.out T2 (vb_t HWB.out (vb_t HT1.out HT2.out))
        obtain ⟨T3, hT3⟩ : ∃ T3, T2.alloc (.cells #[.int .u8 ((cbB bi).toNat : Int)] 5) = T3 := ⟨_, rfl⟩
        have HT3 : Hid (Below T1.heap.size T1 T3) := hid_intro (vb_t HT2.out (hT3 ▸ vb_a (Below.refl _ _) _))
        have HY3 : Hid (Lx.Byt T3 (.slice (some ⟨T2.heap.size, 0, none⟩) 1 1) [cbB bi]) := hid_intro (hT3 ▸ byt_one T2 _ _)
        have HTW3 : Hid (Two A1.heap.size u7 u8 Wd Br T3) := hid_intro (HTW.out.bel HT3.out)
        have HAT3 : Hid (Below A1.heap.size A1 T3) := hid_intro (vb_t HAT.out HT3.out)
        have HTB3 : Hid (Bj T3 w2.heap.size #[.int .i64 0, .string ⟨#[]⟩, .int .i64 (l.length : Int), .int .i64 (l.length : Int)]) := hid_intro (HTB.out.bel HT3.out)
        go_wp2_with (at_builtin; refine wp_app_at rfl _ _ rfl A1.heap.size u7 Wd rfl _ [cbB bi] rfl ?_ ?_ HTW3.out.ow ?_ ?_ ?_; (focus (have := HSZ.out.1; simp; omega)); (focus (simp)); (focus (exact HY3.out)); (focus (exact HAT3.out.size)); intro v4 w4 ho4 hg4 h44; have HTW4 := hid_intro (HTW3.out.wide ho4 hg4 h44); have HAT4 : Hid (Below A1.heap.size A1 w4) := hid_intro (app_bel HAT3.out HTW3.out.ow (Nat.le_refl _) hg4); have HTB4 : Hid (Bj w4 w2.heap.size #[.int .i64 0, .string ⟨#[]⟩, .int .i64 (l.length : Int), .int .i64 (l.length : Int)]) := hid_intro (HTB3.out.grown hg4 HNW.out); obtain ⟨tc0, tc1, tc2, tc3⟩ := HTB4.out.c4; clear ho4 hg4 h44)
        refine (HRS.out w4 v4 (Wd ++ [cbB bi]) (vb_t HB1.out HAT4.out) (byt_own HTW4.out.ow) (by have := HSZ.out.1; simp; omega) (mk_fin HHE.out HI.out.mw [cbB bi] (blk_one HBK.out))).mono ?_; rintro r5 w5 ⟨hb5, f5, rfl, hv5⟩
        obtain ⟨k2, n2, g2, e2, t2, a2, m2, c2, b2, o2, d2, hva5, _⟩ := hv5.lit
        rw [hva5]
        obtain ⟨A2, hA2⟩ : ∃ A2, ((w5.alloc (.cells #[.int .i64 k2, .bool n2, .string g2, .int .i64 e2, .string t2, .slice a2 m2 c2, .slice b2 o2 d2] 31)).alloc (.cells #[.int .i64 1, .int .i64 0] 34)) = A2 := ⟨_, rfl⟩
        have HA2 := hid_intro hA2
        have HS2 : Hid (Below w5.heap.size w5 A2) := hid_intro (hA2 ▸ vb_a (vb_a (Below.refl _ _) _) _)
        have HW2 : Hid (Below w4.heap.size w4 A2) := hid_intro (vb_t hb5 HS2.out)
        have HX2 : Hid (Bj A2 w5.heap.size #[.int .i64 k2, .bool n2, .string g2, .int .i64 e2, .string t2, .slice a2 m2 c2, .slice b2 o2 d2]) := hid_intro (hA2 ▸ (Bj.new _ _ _).al _)
        have HY2 : Hid (Bj A2 (w5.heap.size + 1) #[.int .i64 1, .int .i64 0]) := hid_intro (hA2 ▸ Bj.new' _ _ _ _ (by simp))
        have HV2 : Hid (VI A2 (fun _ => False) x f5) := hid_intro (vi_free hv5 HS2.out)
        have HVA2 := hid_intro hva5
        have HT5 : Hid (Two A1.heap.size v4 u8 (Wd ++ [cbB bi]) Br A2) := hid_intro (HTW4.out.bel HW2.out)
        have HAA2 : Hid (Below A1.heap.size A1 A2) := hid_intro (vb_t HAT4.out HW2.out)
        clear hA2 hb5 hv5 hva5 tc0 tc1 tc2 tc3
        go_wp2_with fail
        rw [HA2.out]
        refine (HRS.out A2 u8 Br (vb_t HB1.out HAA2.out) (byt_own HT5.out.ob) (by have := HSZ.out.2; omega) (by have := mk_fin HHE.out HI.out.mb [] (fun c hc => by cases hc); simpa using this)).mono ?_; rintro r6 w6 ⟨hb6, f6, rfl, hv6⟩
        obtain ⟨k3, n3, g3, e3, t3, a3, m3, c3, b3, o3, d3, hva6, _⟩ := hv6.lit
        rw [hva6]
        have hs3 : Below w6.heap.size w6 ((w6.alloc (.cells #[.int .i64 k3, .bool n3, .string g3, .int .i64 e3, .string t3, .slice a3 m3 c3, .slice b3 o3 d3] 31)).alloc (.cells #[.int .i64 1, .int .i64 0] 34)) := vb_a (vb_a (Below.refl _ _) _) _
        have hb23 : Below A2.heap.size A2 ((w6.alloc (.cells #[.int .i64 k3, .bool n3, .string g3, .int .i64 e3, .string t3, .slice a3 m3 c3, .slice b3 o3 d3] 31)).alloc (.cells #[.int .i64 1, .int .i64 0] 34)) := vb_t hb6 hs3
        have hb13 : Below A1.heap.size A1 ((w6.alloc (.cells #[.int .i64 k3, .bool n3, .string g3, .int .i64 e3, .string t3, .slice a3 m3 c3, .slice b3 o3 d3] 31)).alloc (.cells #[.int .i64 1, .int .i64 0] 34)) := vb_t HAA2.out hb23
        have hb03 : Below w.heap.size w ((w6.alloc (.cells #[.int .i64 k3, .bool n3, .string g3, .int .i64 e3, .string t3, .slice a3 m3 c3, .slice b3 o3 d3] 31)).alloc (.cells #[.int .i64 1, .int .i64 0] 34)) := vb_t HB1.out hb13
        obtain ⟨x0, x1, x2, x3, x4, x5, x6⟩ := (HX1.out.bel hb13).c7
        obtain ⟨y0, y1, y2, y3, y4, y5, y6⟩ := (HX2.out.bel hb23).c7
        obtain ⟨u0_, u1_⟩ := (HY2.out.bel hb23).c2
        have hx3 : Bj ((w6.alloc (.cells #[.int .i64 k3, .bool n3, .string g3, .int .i64 e3, .string t3, .slice a3 m3 c3, .slice b3 o3 d3] 31)).alloc (.cells #[.int .i64 1, .int .i64 0] 34)) w6.heap.size #[.int .i64 k3, .bool n3, .string g3, .int .i64 e3, .string t3, .slice a3 m3 c3, .slice b3 o3 d3] := (Bj.new _ _ _).al _
        have hy3 : Bj ((w6.alloc (.cells #[.int .i64 k3, .bool n3, .string g3, .int .i64 e3, .string t3, .slice a3 m3 c3, .slice b3 o3 d3] 31)).alloc (.cells #[.int .i64 1, .int .i64 0] 34)) (w6.heap.size + 1) #[.int .i64 1, .int .i64 0] := Bj.new' _ _ _ _ (by simp)
        obtain ⟨z0, z1, z2, z3, z4, z5, z6⟩ := hx3.c7
        obtain ⟨q0_, q1_⟩ := hy3.c2
        have HSM2 : Hid (∀ va_ vb_ w', va_ = .agg #[.int .i64 k1, .bool n1, .string g1, .int .i64 e1, .string t1, .slice a1 m1 c1, .slice b1 o1 d1] → vb_ = .agg #[.int .i64 k2, .bool n2, .string g2, .int .i64 e2, .string t2, .slice a2 m2 c2, .slice b2 o2 d2] → Below (World.heap ((w6.alloc (.cells #[.int .i64 k3, .bool n3, .string g3, .int .i64 e3, .string t3, .slice a3 m3 c3, .slice b3 o3 d3] 31)).alloc (.cells #[.int .i64 1, .int .i64 0] 34))).size ((w6.alloc (.cells #[.int .i64 k3, .bool n3, .string g3, .int .i64 e3, .string t3, .slice a3 m3 c3, .slice b3 o3 d3] 31)).alloc (.cells #[.int .i64 1, .int .i64 0] 34)) w' → Calls Tryz.prog 11 #[va_, vb_] w' (fun r w3 => r = .returned (.bool true) ∧ Below (World.heap ((w6.alloc (.cells #[.int .i64 k3, .bool n3, .string g3, .int .i64 e3, .string t3, .slice a3 m3 c3, .slice b3 o3 d3] 31)).alloc (.cells #[.int .i64 1, .int .i64 0] 34))).size ((w6.alloc (.cells #[.int .i64 k3, .bool n3, .string g3, .int .i64 e3, .string t3, .slice a3 m3 c3, .slice b3 o3 d3] 31)).alloc (.cells #[.int .i64 1, .int .i64 0] 34)) w3)) := hid_intro (fun va_ vb_ w' hva_ hvb_ hb => by
          subst hva_ hvb_
          have := same_refl x f1 f5 w' (vi_free HV1.out (vb_t hb13 hb)) (vi_free HV2.out (vb_t hb23 hb))
          rw [HVA.out, HVA2.out] at this
          exact this.mono fun r w3 hr => ⟨hr.1, vb_t hb hr.2⟩)
        have HSM3 : Hid (∀ va_ vb_ w', va_ = .agg #[.int .i64 k1, .bool n1, .string g1, .int .i64 e1, .string t1, .slice a1 m1 c1, .slice b1 o1 d1] → vb_ = .agg #[.int .i64 k3, .bool n3, .string g3, .int .i64 e3, .string t3, .slice a3 m3 c3, .slice b3 o3 d3] → Below (World.heap ((w6.alloc (.cells #[.int .i64 k3, .bool n3, .string g3, .int .i64 e3, .string t3, .slice a3 m3 c3, .slice b3 o3 d3] 31)).alloc (.cells #[.int .i64 1, .int .i64 0] 34))).size ((w6.alloc (.cells #[.int .i64 k3, .bool n3, .string g3, .int .i64 e3, .string t3, .slice a3 m3 c3, .slice b3 o3 d3] 31)).alloc (.cells #[.int .i64 1, .int .i64 0] 34)) w' → Calls Tryz.prog 11 #[va_, vb_] w' (fun r w3 => r = .returned (.bool true) ∧ Below (World.heap ((w6.alloc (.cells #[.int .i64 k3, .bool n3, .string g3, .int .i64 e3, .string t3, .slice a3 m3 c3, .slice b3 o3 d3] 31)).alloc (.cells #[.int .i64 1, .int .i64 0] 34))).size ((w6.alloc (.cells #[.int .i64 k3, .bool n3, .string g3, .int .i64 e3, .string t3, .slice a3 m3 c3, .slice b3 o3 d3] 31)).alloc (.cells #[.int .i64 1, .int .i64 0] 34)) w3)) := hid_intro (fun va_ vb_ w' hva_ hvb_ hb => by
          subst hva_ hvb_
          have := same_refl x f1 f6 w' (vi_free HV1.out (vb_t hb13 hb)) (vi_free hv6 (vb_t hs3 hb))
          rw [HVA.out, hva6] at this
          exact this.mono fun r w3 hr => ⟨hr.1, vb_t hb hr.2⟩)
        have HHD : Hid (∀ w', Below (World.heap ((w6.alloc (.cells #[.int .i64 k3, .bool n3, .string g3, .int .i64 e3, .string t3, .slice a3 m3 c3, .slice b3 o3 d3] 31)).alloc (.cells #[.int .i64 1, .int .i64 0] 34))).size ((w6.alloc (.cells #[.int .i64 k3, .bool n3, .string g3, .int .i64 e3, .string t3, .slice a3 m3 c3, .slice b3 o3 d3] 31)).alloc (.cells #[.int .i64 1, .int .i64 0] 34)) w' → Calls Tryz.prog 14 #[] w' (fun r w3 => r = .returned (.bool true) ∧ Below w.heap.size w w3)) := hid_intro (fun w' hb => (HH.out w' (vb_t hb03 hb)).mono fun r w3 hr => ⟨hr.1, vb_t (vb_t hb03 hb) hr.2⟩)
        have HFA : Hid (∀ w', Below (World.heap ((w6.alloc (.cells #[.int .i64 k3, .bool n3, .string g3, .int .i64 e3, .string t3, .slice a3 m3 c3, .slice b3 o3 d3] 31)).alloc (.cells #[.int .i64 1, .int .i64 0] 34))).size ((w6.alloc (.cells #[.int .i64 k3, .bool n3, .string g3, .int .i64 e3, .string t3, .slice a3 m3 c3, .slice b3 o3 d3] 31)).alloc (.cells #[.int .i64 1, .int .i64 0] 34)) w' → Below A1.heap.size A1 w' ∧ Below A2.heap.size A2 w') := hid_intro (fun w' hb => ⟨vb_t hb13 hb, vb_t hb23 hb⟩)
        have HX3 := hid_intro hx3
        have hc := Below.refl (World.heap ((w6.alloc (.cells #[.int .i64 k3, .bool n3, .string g3, .int .i64 e3, .string t3, .slice a3 m3 c3, .slice b3 o3 d3] 31)).alloc (.cells #[.int .i64 1, .int .i64 0] 34))).size ((w6.alloc (.cells #[.int .i64 k3, .bool n3, .string g3, .int .i64 e3, .string t3, .slice a3 m3 c3, .slice b3 o3 d3] 31)).alloc (.cells #[.int .i64 1, .int .i64 0] 34))
        clear hx3 hy3 hb23 hb13 hb03 hs3 hb6 hv6 hva6 HA2 HRS HH HN HIL HBB
        go_wp2_with (first | (go_at_call 11; refine (HSM2.out _ _ _ ?_ ?_ ?_).mono ?_; exact rfl; exact rfl; (with_reducible repeat (first | exact hc | refine vb_d ?_)); rintro r7 w7 ⟨rfl, hc7⟩; obtain ⟨x0, x1, x2, x3, x4, x5, x6⟩ := (HX1.out.bel (HFA.out _ hc7).1).c7; obtain ⟨z0, z1, z2, z3, z4, z5, z6⟩ := (HX3.out.bel hc7).c7) | (go_at_call 11; refine (HSM3.out _ _ _ ?_ ?_ ?_).mono ?_; exact rfl; exact rfl; (with_reducible repeat (first | exact hc7 | refine vb_d ?_)); rintro r8 w8 ⟨rfl, hc8⟩) | (go_at_call 14; refine (HHD.out _ ?_).mono ?_; (with_reducible repeat (first | exact hc8 | refine vb_d ?_)); rintro r9 w9 ⟨rfl, hw9⟩))
        go_ret
        exact ⟨rfl, hw9⟩
      · skip
        have hkb' : ¬ (k : Int) < (bs.length : Int) := by omega
        have HHE := hid_intro he
        clear he
        go_wp2_with fail
        refine (HNX.out _ (Below.refl _ _)).mono ?_; rintro r2 w2 ⟨rfl, hb2⟩
        obtain ⟨T1, hT1⟩ : ∃ T1, w2.alloc (.cells #[.int .i64 0, .string ⟨#[]⟩, .int .i64 (l.length : Int), .int .i64 (l.length : Int)] 50) = T1 := ⟨_, rfl⟩
        have HT1 : Hid (Below wr.heap.size wr T1) := hid_intro (vb_t hb2 (hT1 ▸ vb_a (Below.refl _ _) _))
        have HTB : Hid (Bj T1 w2.heap.size #[.int .i64 0, .string ⟨#[]⟩, .int .i64 (l.length : Int), .int .i64 (l.length : Int)]) := hid_intro (hT1 ▸ Bj.new _ _ _)
        obtain ⟨tc0, tc1, tc2, tc3⟩ := HTB.out.c4
        have HTW : Hid (Two A1.heap.size u7 u8 Wd Br T1) := hid_intro (HI.out.tw.bel HT1.out)
        have HAT : Hid (Below A1.heap.size A1 T1) := hid_intro (vb_t HI.out.be HT1.out)
        have HNW : Hid (u7.ownBlock ≠ some w2.heap.size) := hid_intro (fun e => by have := (HI.out.tw.ow.lt _ e).2; have := hb2.size; omega)
        have HSZ : Hid (Wd.length + 1 ≤ 1000000 ∧ Br.length ≤ 1000000) := hid_intro (by have := HI.out.wl; have := HI.out.bl; have := HI.out.ka; have := HI.out.le; have := HL.out; omega)
        clear HNX hb2
        go_wp2_with fail
        refine (HRS.out T1 u7 Wd (vb_t HB1.out HAT.out) (byt_own HTW.out.ow) (by have := HSZ.out.1; omega) (by have := mk_fin HHE.out HI.out.mw [] (fun c hc => by cases hc); simpa using this)).mono ?_; rintro r5 w5 ⟨hb5, f5, rfl, hv5⟩
        obtain ⟨k2, n2, g2, e2, t2, a2, m2, c2, b2, o2, d2, hva5, _⟩ := hv5.lit
        rw [hva5]
        obtain ⟨A2, hA2⟩ : ∃ A2, ((w5.alloc (.cells #[.int .i64 k2, .bool n2, .string g2, .int .i64 e2, .string t2, .slice a2 m2 c2, .slice b2 o2 d2] 31)).alloc (.cells #[.int .i64 1, .int .i64 0] 34)) = A2 := ⟨_, rfl⟩
        have HA2 := hid_intro hA2
        have HS2 : Hid (Below w5.heap.size w5 A2) := hid_intro (hA2 ▸ vb_a (vb_a (Below.refl _ _) _) _)
        have HW2 : Hid (Below T1.heap.size T1 A2) := hid_intro (vb_t hb5 HS2.out)
        have HX2 : Hid (Bj A2 w5.heap.size #[.int .i64 k2, .bool n2, .string g2, .int .i64 e2, .string t2, .slice a2 m2 c2, .slice b2 o2 d2]) := hid_intro (hA2 ▸ (Bj.new _ _ _).al _)
        have HY2 : Hid (Bj A2 (w5.heap.size + 1) #[.int .i64 1, .int .i64 0]) := hid_intro (hA2 ▸ Bj.new' _ _ _ _ (by simp))
        have HV2 : Hid (VI A2 (fun _ => False) x f5) := hid_intro (vi_free hv5 HS2.out)
        have HVA2 := hid_intro hva5
        have HT5 : Hid (Two A1.heap.size u7 u8 Wd Br A2) := hid_intro (HTW.out.bel HW2.out)
        have HAA2 : Hid (Below A1.heap.size A1 A2) := hid_intro (vb_t HAT.out HW2.out)
        clear hA2 hb5 hv5 hva5 tc0 tc1 tc2 tc3
        go_wp2_with fail
        rw [HA2.out]
        refine (HRS.out A2 u8 Br (vb_t HB1.out HAA2.out) (byt_own HT5.out.ob) (by have := HSZ.out.2; omega) (by have := mk_fin HHE.out HI.out.mb [] (fun c hc => by cases hc); simpa using this)).mono ?_; rintro r6 w6 ⟨hb6, f6, rfl, hv6⟩
        obtain ⟨k3, n3, g3, e3, t3, a3, m3, c3, b3, o3, d3, hva6, _⟩ := hv6.lit
        rw [hva6]
        have hs3 : Below w6.heap.size w6 ((w6.alloc (.cells #[.int .i64 k3, .bool n3, .string g3, .int .i64 e3, .string t3, .slice a3 m3 c3, .slice b3 o3 d3] 31)).alloc (.cells #[.int .i64 1, .int .i64 0] 34)) := vb_a (vb_a (Below.refl _ _) _) _
        have hb23 : Below A2.heap.size A2 ((w6.alloc (.cells #[.int .i64 k3, .bool n3, .string g3, .int .i64 e3, .string t3, .slice a3 m3 c3, .slice b3 o3 d3] 31)).alloc (.cells #[.int .i64 1, .int .i64 0] 34)) := vb_t hb6 hs3
        have hb13 : Below A1.heap.size A1 ((w6.alloc (.cells #[.int .i64 k3, .bool n3, .string g3, .int .i64 e3, .string t3, .slice a3 m3 c3, .slice b3 o3 d3] 31)).alloc (.cells #[.int .i64 1, .int .i64 0] 34)) := vb_t HAA2.out hb23
        have hb03 : Below w.heap.size w ((w6.alloc (.cells #[.int .i64 k3, .bool n3, .string g3, .int .i64 e3, .string t3, .slice a3 m3 c3, .slice b3 o3 d3] 31)).alloc (.cells #[.int .i64 1, .int .i64 0] 34)) := vb_t HB1.out hb13
        obtain ⟨x0, x1, x2, x3, x4, x5, x6⟩ := (HX1.out.bel hb13).c7
        obtain ⟨y0, y1, y2, y3, y4, y5, y6⟩ := (HX2.out.bel hb23).c7
        obtain ⟨u0_, u1_⟩ := (HY2.out.bel hb23).c2
        have hx3 : Bj ((w6.alloc (.cells #[.int .i64 k3, .bool n3, .string g3, .int .i64 e3, .string t3, .slice a3 m3 c3, .slice b3 o3 d3] 31)).alloc (.cells #[.int .i64 1, .int .i64 0] 34)) w6.heap.size #[.int .i64 k3, .bool n3, .string g3, .int .i64 e3, .string t3, .slice a3 m3 c3, .slice b3 o3 d3] := (Bj.new _ _ _).al _
        have hy3 : Bj ((w6.alloc (.cells #[.int .i64 k3, .bool n3, .string g3, .int .i64 e3, .string t3, .slice a3 m3 c3, .slice b3 o3 d3] 31)).alloc (.cells #[.int .i64 1, .int .i64 0] 34)) (w6.heap.size + 1) #[.int .i64 1, .int .i64 0] := Bj.new' _ _ _ _ (by simp)
        obtain ⟨z0, z1, z2, z3, z4, z5, z6⟩ := hx3.c7
        obtain ⟨q0_, q1_⟩ := hy3.c2
        have HSM2 : Hid (∀ va_ vb_ w', va_ = .agg #[.int .i64 k1, .bool n1, .string g1, .int .i64 e1, .string t1, .slice a1 m1 c1, .slice b1 o1 d1] → vb_ = .agg #[.int .i64 k2, .bool n2, .string g2, .int .i64 e2, .string t2, .slice a2 m2 c2, .slice b2 o2 d2] → Below (World.heap ((w6.alloc (.cells #[.int .i64 k3, .bool n3, .string g3, .int .i64 e3, .string t3, .slice a3 m3 c3, .slice b3 o3 d3] 31)).alloc (.cells #[.int .i64 1, .int .i64 0] 34))).size ((w6.alloc (.cells #[.int .i64 k3, .bool n3, .string g3, .int .i64 e3, .string t3, .slice a3 m3 c3, .slice b3 o3 d3] 31)).alloc (.cells #[.int .i64 1, .int .i64 0] 34)) w' → Calls Tryz.prog 11 #[va_, vb_] w' (fun r w3 => r = .returned (.bool true) ∧ Below (World.heap ((w6.alloc (.cells #[.int .i64 k3, .bool n3, .string g3, .int .i64 e3, .string t3, .slice a3 m3 c3, .slice b3 o3 d3] 31)).alloc (.cells #[.int .i64 1, .int .i64 0] 34))).size ((w6.alloc (.cells #[.int .i64 k3, .bool n3, .string g3, .int .i64 e3, .string t3, .slice a3 m3 c3, .slice b3 o3 d3] 31)).alloc (.cells #[.int .i64 1, .int .i64 0] 34)) w3)) := hid_intro (fun va_ vb_ w' hva_ hvb_ hb => by
          subst hva_ hvb_
          have := same_refl x f1 f5 w' (vi_free HV1.out (vb_t hb13 hb)) (vi_free HV2.out (vb_t hb23 hb))
          rw [HVA.out, HVA2.out] at this
          exact this.mono fun r w3 hr => ⟨hr.1, vb_t hb hr.2⟩)
        have HSM3 : Hid (∀ va_ vb_ w', va_ = .agg #[.int .i64 k1, .bool n1, .string g1, .int .i64 e1, .string t1, .slice a1 m1 c1, .slice b1 o1 d1] → vb_ = .agg #[.int .i64 k3, .bool n3, .string g3, .int .i64 e3, .string t3, .slice a3 m3 c3, .slice b3 o3 d3] → Below (World.heap ((w6.alloc (.cells #[.int .i64 k3, .bool n3, .string g3, .int .i64 e3, .string t3, .slice a3 m3 c3, .slice b3 o3 d3] 31)).alloc (.cells #[.int .i64 1, .int .i64 0] 34))).size ((w6.alloc (.cells #[.int .i64 k3, .bool n3, .string g3, .int .i64 e3, .string t3, .slice a3 m3 c3, .slice b3 o3 d3] 31)).alloc (.cells #[.int .i64 1, .int .i64 0] 34)) w' → Calls Tryz.prog 11 #[va_, vb_] w' (fun r w3 => r = .returned (.bool true) ∧ Below (World.heap ((w6.alloc (.cells #[.int .i64 k3, .bool n3, .string g3, .int .i64 e3, .string t3, .slice a3 m3 c3, .slice b3 o3 d3] 31)).alloc (.cells #[.int .i64 1, .int .i64 0] 34))).size ((w6.alloc (.cells #[.int .i64 k3, .bool n3, .string g3, .int .i64 e3, .string t3, .slice a3 m3 c3, .slice b3 o3 d3] 31)).alloc (.cells #[.int .i64 1, .int .i64 0] 34)) w3)) := hid_intro (fun va_ vb_ w' hva_ hvb_ hb => by
          subst hva_ hvb_
          have := same_refl x f1 f6 w' (vi_free HV1.out (vb_t hb13 hb)) (vi_free hv6 (vb_t hs3 hb))
          rw [HVA.out, hva6] at this
          exact this.mono fun r w3 hr => ⟨hr.1, vb_t hb hr.2⟩)
        have HHD : Hid (∀ w', Below (World.heap ((w6.alloc (.cells #[.int .i64 k3, .bool n3, .string g3, .int .i64 e3, .string t3, .slice a3 m3 c3, .slice b3 o3 d3] 31)).alloc (.cells #[.int .i64 1, .int .i64 0] 34))).size ((w6.alloc (.cells #[.int .i64 k3, .bool n3, .string g3, .int .i64 e3, .string t3, .slice a3 m3 c3, .slice b3 o3 d3] 31)).alloc (.cells #[.int .i64 1, .int .i64 0] 34)) w' → Calls Tryz.prog 14 #[] w' (fun r w3 => r = .returned (.bool true) ∧ Below w.heap.size w w3)) := hid_intro (fun w' hb => (HH.out w' (vb_t hb03 hb)).mono fun r w3 hr => ⟨hr.1, vb_t (vb_t hb03 hb) hr.2⟩)
        have HFA : Hid (∀ w', Below (World.heap ((w6.alloc (.cells #[.int .i64 k3, .bool n3, .string g3, .int .i64 e3, .string t3, .slice a3 m3 c3, .slice b3 o3 d3] 31)).alloc (.cells #[.int .i64 1, .int .i64 0] 34))).size ((w6.alloc (.cells #[.int .i64 k3, .bool n3, .string g3, .int .i64 e3, .string t3, .slice a3 m3 c3, .slice b3 o3 d3] 31)).alloc (.cells #[.int .i64 1, .int .i64 0] 34)) w' → Below A1.heap.size A1 w' ∧ Below A2.heap.size A2 w') := hid_intro (fun w' hb => ⟨vb_t hb13 hb, vb_t hb23 hb⟩)
        have HX3 := hid_intro hx3
        have hc := Below.refl (World.heap ((w6.alloc (.cells #[.int .i64 k3, .bool n3, .string g3, .int .i64 e3, .string t3, .slice a3 m3 c3, .slice b3 o3 d3] 31)).alloc (.cells #[.int .i64 1, .int .i64 0] 34))).size ((w6.alloc (.cells #[.int .i64 k3, .bool n3, .string g3, .int .i64 e3, .string t3, .slice a3 m3 c3, .slice b3 o3 d3] 31)).alloc (.cells #[.int .i64 1, .int .i64 0] 34))
        clear hx3 hy3 hb23 hb13 hb03 hs3 hb6 hv6 hva6 HA2 HRS HH HN HIL HBB
        go_wp2_with (first | (go_at_call 11; refine (HSM2.out _ _ _ ?_ ?_ ?_).mono ?_; exact rfl; exact rfl; (with_reducible repeat (first | exact hc | refine vb_d ?_)); rintro r7 w7 ⟨rfl, hc7⟩; obtain ⟨x0, x1, x2, x3, x4, x5, x6⟩ := (HX1.out.bel (HFA.out _ hc7).1).c7; obtain ⟨z0, z1, z2, z3, z4, z5, z6⟩ := (HX3.out.bel hc7).c7) | (go_at_call 11; refine (HSM3.out _ _ _ ?_ ?_ ?_).mono ?_; exact rfl; exact rfl; (with_reducible repeat (first | exact hc7 | refine vb_d ?_)); rintro r8 w8 ⟨rfl, hc8⟩) | (go_at_call 14; refine (HHD.out _ ?_).mono ?_; (with_reducible repeat (first | exact hc8 | refine vb_d ?_)); rintro r9 w9 ⟨rfl, hw9⟩))
        go_ret
        exact ⟨rfl, hw9⟩
    · have hle : Lx.pass l Lx.blankB a' < t.to ∧ t.to ≤ l.length := by
        rcases Lx.readL_le (Nat.le_of_lt hp) hr with ⟨_, e⟩ | e
        · omega
        · exact e
      have hfr := Lx.read_fr hr
      have hkd := Lx.read_kind hp hr
      obtain ⟨b5, off5, rfl, hcap⟩ := byt_at (HBB.out w (Below.refl _ _)) (by omega)
      have hpge := Lx.pass_ge l Lx.blankB a'
      have HNX : Hid (∀ w', Below wr.heap.size wr w' → Calls Tryz.prog 17 #[.slice (some ⟨b5, off5, none⟩) l.length cap, .int .i64 (a' : Int)] w' (fun r w2 => r = .returned (.tuple #[.agg #[.int .i64 (t.kind : Int), .string ⟨t.text.toArray⟩, .int .i64 (t.fr : Int), .int .i64 (t.to : Int)], .int .i64 0, .int .i64 0]) ∧ Below wr.heap.size wr w2)) := hid_intro (fun w' hb => (HN.out w' (vb_t HWB.out hb) a' HI.out.le).mono fun r w2 hr2 => ⟨hr2.1.trans (by
        have : Lx.nextL l a' = .ok t := hr
        rw [this]; rfl), vb_t hb hr2.2⟩)
      have hk0 : ((t.kind : Int) == 0) = false := by simpa using hkd
      have HSB : Hid (∀ w', Below w.heap.size w w' → Lx.Byt w' (.slice (some ⟨b5, off5 + t.fr, none⟩) (t.to - t.fr) (cap - t.fr)) (Lx.sub l (Lx.pass l Lx.blankB a') t.to)) := hid_intro (fun w' hb => by
        have := byt_sub (HBB.out w' hb) hle.1 hle.2
        rw [hfr]; exact this)
      have HNE : Hid (Lx.sub l (Lx.pass l Lx.blankB a') t.to ≠ []) := hid_intro (sub_ne hle.1 hle.2)
      have hsl : (Lx.sub l (Lx.pass l Lx.blankB a') t.to).length = t.to - t.fr := by unfold Lx.sub; simp; omega
      have hfI : (t.fr : Int) ≤ (t.to : Int) := by omega
      have hfI2 : (t.to : Int) ≤ (cap : Int) := by omega
      have hfI3 : (t.to : Int) ≤ 100000 := by omega
      have hf0 : (0 : Int) ≤ (t.fr : Int) := by omega
      have hfc1 : ¬ cap = t.fr := by omega
      have hfc2 : ¬ t.fr = cap := by omega
      have hfc3 : ¬ cap - t.fr = 0 := by omega
      have hfc4 : ¬ cap ≤ t.fr := by omega
      have hfc5 : ¬ (t.fr : Int) = (cap : Int) := by omega
      have hfc6 : ¬ (cap : Int) = (t.fr : Int) := by omega
      have HP := hid_intro hp
      have HRD := hid_intro hr
      have HTK := hid_intro ht
      have HLF : Hid (a' ≤ t.fr ∧ t.fr < t.to) := hid_intro (by omega)
      have HLE : Hid (a' < t.to ∧ t.to ≤ l.length) := hid_intro (by omega)
      clear hfr hp hr ht hpge
      by_cases hkb : k < bs.length
      · skip
        have hkb' : (k : Int) < (bs.length : Int) := by omega
        have HC2 : Hid (∃ b2_ o2_, ao2 = some ⟨b2_, o2_, none⟩ ∧ ∀ w', Below w.heap.size w w' → w'.cell? ⟨b2_, o2_ + k, none⟩ = some (.int .i64 bs[k])) := hid_intro (by
          obtain ⟨ao', cap', e, h⟩ := HIL.out w (Below.refl _ _)
          injection e with e1 e2 e3
          subst e1 e3
          rcases h with h | ⟨b, off, h1, h2, h3⟩
          · rw [h] at hkb; simp at hkb
          · exact ⟨b, off, h1, fun w' hb => by rw [hb.cell (p := ⟨b, off + k, none⟩) h2]; exact h3 k hkb⟩)
        obtain ⟨b2_, o2_, rfl, hc2⟩ := HC2.out
        obtain ⟨bi, hbi, hand⟩ := and3 bs[k]
        generalize bs[k] = bk at *
        have hbI : (bi : Int) < 4 := by omega
        have hb0 : (0 : Int) ≤ (bi : Int) := by omega
        have HBK := hid_intro hbi
        have HCE := hid_intro hc2
        clear HC2 hc2
        go_wp2_with fail
        refine (HNX.out _ (Below.refl _ _)).mono ?_; rintro r2 w2 ⟨rfl, hb2⟩
        obtain ⟨T1, hT1⟩ : ∃ T1, w2.alloc (.cells #[.int .i64 (t.kind : Int), .string ⟨t.text.toArray⟩, .int .i64 (t.fr : Int), .int .i64 (t.to : Int)] 50) = T1 := ⟨_, rfl⟩
        have HT1 : Hid (Below wr.heap.size wr T1) := hid_intro (vb_t hb2 (hT1 ▸ vb_a (Below.refl _ _) _))
        have HTB : Hid (Bj T1 w2.heap.size #[.int .i64 (t.kind : Int), .string ⟨t.text.toArray⟩, .int .i64 (t.fr : Int), .int .i64 (t.to : Int)]) := hid_intro (hT1 ▸ Bj.new _ _ _)
        obtain ⟨tc0, tc1, tc2, tc3⟩ := HTB.out.c4
        have HTW : Hid (Two A1.heap.size u7 u8 Wd Br T1) := hid_intro (HI.out.tw.bel HT1.out)
        have HAT : Hid (Below A1.heap.size A1 T1) := hid_intro (vb_t HI.out.be HT1.out)
        have HNW : Hid (u7.ownBlock ≠ some w2.heap.size ∧ u8.ownBlock ≠ some w2.heap.size) := hid_intro ⟨fun e => by have := (HI.out.tw.ow.lt _ e).2; have := hb2.size; omega, fun e => by have := (HI.out.tw.ob.lt _ e).2; have := hb2.size; omega⟩
        have HW2 : Hid (w2.heap.size < T1.heap.size) := hid_intro (by rw [← hT1]; simp)
        have HSZ : Hid (Wd.length + 1 + (Lx.sub l (Lx.pass l Lx.blankB a') t.to).length ≤ 1000000 ∧ Br.length + (Lx.sub l (Lx.pass l Lx.blankB a') t.to).length ≤ 1000000) := hid_intro (by have := HI.out.wl; have := HI.out.bl; have := HI.out.ka; have := HI.out.le; have := HL.out; have := hle.2; have := hsl; omega)
        clear HNX hb2
        obtain ⟨T2, hT2⟩ : ∃ T2, T1.alloc (.cells #[.int .u8 9, .int .u8 10, .int .u8 13, .int .u8 32] 5) = T2 := ⟨_, rfl⟩
        have cc2 : T2.cell? ⟨T1.heap.size, bi, none⟩ = some (.int .u8 ((cbB bi).toNat : Int)) := hT2 ▸ blank_cell T1 _ bi HBK.out
        have HT2 : Hid (Below T1.heap.size T1 T2) := hid_intro (hT2 ▸ vb_a (Below.refl _ _) _)
        have hk3 : T2.cell? ⟨b2_, o2_ + k, none⟩ = some (.int .i64 bk) := HCE.out T2 (vb_t HWB.out (vb_t HT1.out HT2.out))
        obtain ⟨T3, hT3⟩ : ∃ T3, T2.alloc (.cells #[.int .u8 ((cbB bi).toNat : Int)] 5) = T3 := ⟨_, rfl⟩
        have HT3 : Hid (Below T1.heap.size T1 T3) := hid_intro (vb_t HT2.out (hT3 ▸ vb_a (Below.refl _ _) _))
        have HY3 : Hid (Lx.Byt T3 (.slice (some ⟨T2.heap.size, 0, none⟩) 1 1) [cbB bi]) := hid_intro (hT3 ▸ byt_one T2 _ _)
        have HTW3 : Hid (Two A1.heap.size u7 u8 Wd Br T3) := hid_intro (HTW.out.bel HT3.out)
        have HAT3 : Hid (Below A1.heap.size A1 T3) := hid_intro (vb_t HAT.out HT3.out)
        have HTB3 : Hid (Bj T3 w2.heap.size #[.int .i64 (t.kind : Int), .string ⟨t.text.toArray⟩, .int .i64 (t.fr : Int), .int .i64 (t.to : Int)]) := hid_intro (HTB.out.bel HT3.out)
        go_wp2_with (first | (at_builtin; refine wp_app_at rfl _ _ rfl A1.heap.size u7 Wd rfl _ [cbB bi] rfl ?_ ?_ HTW3.out.ow ?_ ?_ ?_; (focus (have := HSZ.out.1; simp; omega)); (focus (simp)); (focus (exact HY3.out)); (focus (exact HAT3.out.size)); intro v4 w4 how4 hgw4 h4w4; have HTWw4 := hid_intro (HTW3.out.wide how4 hgw4 h4w4); have HATw4 : Hid (Below A1.heap.size A1 w4) := hid_intro (app_bel HAT3.out HTW3.out.ow (Nat.le_refl _) hgw4); have HTBw4 : Hid (Bj w4 w2.heap.size #[.int .i64 (t.kind : Int), .string ⟨t.text.toArray⟩, .int .i64 (t.fr : Int), .int .i64 (t.to : Int)]) := hid_intro (HTB3.out.grown hgw4 HNW.out.1); obtain ⟨tc0, tc1, tc2, tc3⟩ := HTBw4.out.c4; have HNE4 : Hid (v4.ownBlock ≠ some w2.heap.size) := hid_intro (fun e => by rcases h4w4 with q | q; (exact HNW.out.1 (q ▸ e)); (rw [q] at e; injection e with e; have := HT3.out.size; have := HW2.out; omega)); clear how4 hgw4 h4w4) | (at_builtin; refine wp_app_at rfl _ _ rfl A1.heap.size v4 (Wd ++ [cbB bi]) rfl _ (Lx.sub l (Lx.pass l Lx.blankB a') t.to) rfl ?_ ?_ HTWw4.out.ow ?_ ?_ ?_; (focus (have := HSZ.out.1; simp; omega)); (focus (exact HNE.out)); (focus (exact HSB.out _ (vb_t HB1.out HATw4.out))); (focus (exact HATw4.out.size)); intro v5 w5 how5 hgw5 h4w5; have HTWw5 := hid_intro (HTWw4.out.wide how5 hgw5 h4w5); have HATw5 : Hid (Below A1.heap.size A1 w5) := hid_intro (app_bel HATw4.out HTWw4.out.ow (Nat.le_refl _) hgw5); have HTBw5 : Hid (Bj w5 w2.heap.size #[.int .i64 (t.kind : Int), .string ⟨t.text.toArray⟩, .int .i64 (t.fr : Int), .int .i64 (t.to : Int)]) := hid_intro (HTBw4.out.grown hgw5 HNE4.out); obtain ⟨tc0, tc1, tc2, tc3⟩ := HTBw5.out.c4; skip; clear how5 hgw5 h4w5) | (at_builtin; refine wp_app_at rfl _ _ rfl A1.heap.size u8 Br rfl _ (Lx.sub l (Lx.pass l Lx.blankB a') t.to) rfl ?_ ?_ HTWw5.out.ob ?_ ?_ ?_; (focus (have := HSZ.out.2; omega)); (focus (exact HNE.out)); (focus (exact HSB.out _ (vb_t HB1.out HATw5.out))); (focus (exact HATw5.out.size)); intro v6 w6 how6 hgw6 h4w6; have HTWw6 := hid_intro (HTWw5.out.bare how6 hgw6 h4w6); have HATw6 : Hid (Below A1.heap.size A1 w6) := hid_intro (app_bel HATw5.out HTWw5.out.ob (Nat.le_refl _) hgw6); have HTBw6 : Hid (Bj w6 w2.heap.size #[.int .i64 (t.kind : Int), .string ⟨t.text.toArray⟩, .int .i64 (t.fr : Int), .int .i64 (t.to : Int)]) := hid_intro (HTBw5.out.grown hgw6 HNW.out.2); obtain ⟨tc0, tc1, tc2, tc3⟩ := HTBw6.out.c4; skip; clear how6 hgw6 h4w6))
        have HQ : Hid (BI l A1 (k + 1) t.to v5 v6 (Wd ++ [cbB bi] ++ (Lx.sub l (Lx.pass l Lx.blankB a') t.to)) (Br ++ (Lx.sub l (Lx.pass l Lx.blankB a') t.to)) w6) := hid_intro ⟨HATw6.out, HTWw6.out, mk_cons HP.out HRD.out HI.out.mw [cbB bi] (blk_one HBK.out), fun r h => by have := mk_cons HP.out HRD.out HI.out.mb [] (fun c hc => by cases hc) r h; simpa using this, HTK.out, HLE.out.2, by have := HI.out.ka; have := HLE.out.1; omega, by have := HI.out.wl; have := HLF.out; rw [List.length_append, List.length_append, hsl]; simp; omega, by have := HI.out.bl; have := HLF.out; rw [List.length_append, hsl]; omega⟩
        go_roundg (l.length + 1 - (k + 1))
        case measure => have := HI.out.ka; have := HI.out.le; omega
        case rel => exact ⟨k + 1, t.to, _, _, rfl, rfl, by go_num, HQ⟩
      · skip
        have hkb' : ¬ (k : Int) < (bs.length : Int) := by omega
        go_wp2_with fail
        refine (HNX.out _ (Below.refl _ _)).mono ?_; rintro r2 w2 ⟨rfl, hb2⟩
        obtain ⟨T1, hT1⟩ : ∃ T1, w2.alloc (.cells #[.int .i64 (t.kind : Int), .string ⟨t.text.toArray⟩, .int .i64 (t.fr : Int), .int .i64 (t.to : Int)] 50) = T1 := ⟨_, rfl⟩
        have HT1 : Hid (Below wr.heap.size wr T1) := hid_intro (vb_t hb2 (hT1 ▸ vb_a (Below.refl _ _) _))
        have HTB : Hid (Bj T1 w2.heap.size #[.int .i64 (t.kind : Int), .string ⟨t.text.toArray⟩, .int .i64 (t.fr : Int), .int .i64 (t.to : Int)]) := hid_intro (hT1 ▸ Bj.new _ _ _)
        obtain ⟨tc0, tc1, tc2, tc3⟩ := HTB.out.c4
        have HTW : Hid (Two A1.heap.size u7 u8 Wd Br T1) := hid_intro (HI.out.tw.bel HT1.out)
        have HAT : Hid (Below A1.heap.size A1 T1) := hid_intro (vb_t HI.out.be HT1.out)
        have HNW : Hid (u7.ownBlock ≠ some w2.heap.size ∧ u8.ownBlock ≠ some w2.heap.size) := hid_intro ⟨fun e => by have := (HI.out.tw.ow.lt _ e).2; have := hb2.size; omega, fun e => by have := (HI.out.tw.ob.lt _ e).2; have := hb2.size; omega⟩
        have HW2 : Hid (w2.heap.size < T1.heap.size) := hid_intro (by rw [← hT1]; simp)
        have HSZ : Hid (Wd.length + 1 + (Lx.sub l (Lx.pass l Lx.blankB a') t.to).length ≤ 1000000 ∧ Br.length + (Lx.sub l (Lx.pass l Lx.blankB a') t.to).length ≤ 1000000) := hid_intro (by have := HI.out.wl; have := HI.out.bl; have := HI.out.ka; have := HI.out.le; have := HL.out; have := hle.2; have := hsl; omega)
        clear HNX hb2
        go_wp2_with (first | (at_builtin; refine wp_app_at rfl _ _ rfl A1.heap.size u7 Wd rfl _ (Lx.sub l (Lx.pass l Lx.blankB a') t.to) rfl ?_ ?_ HTW.out.ow ?_ ?_ ?_; (focus (have := HSZ.out.1; omega)); (focus (exact HNE.out)); (focus (exact HSB.out _ (vb_t HB1.out HAT.out))); (focus (exact HAT.out.size)); intro v5 w5 how5 hgw5 h4w5; have HTWw5 := hid_intro (HTW.out.wide how5 hgw5 h4w5); have HATw5 : Hid (Below A1.heap.size A1 w5) := hid_intro (app_bel HAT.out HTW.out.ow (Nat.le_refl _) hgw5); have HTBw5 : Hid (Bj w5 w2.heap.size #[.int .i64 (t.kind : Int), .string ⟨t.text.toArray⟩, .int .i64 (t.fr : Int), .int .i64 (t.to : Int)]) := hid_intro (HTB.out.grown hgw5 HNW.out.1); obtain ⟨tc0, tc1, tc2, tc3⟩ := HTBw5.out.c4; skip; clear how5 hgw5 h4w5) | (at_builtin; refine wp_app_at rfl _ _ rfl A1.heap.size u8 Br rfl _ (Lx.sub l (Lx.pass l Lx.blankB a') t.to) rfl ?_ ?_ HTWw5.out.ob ?_ ?_ ?_; (focus (have := HSZ.out.2; omega)); (focus (exact HNE.out)); (focus (exact HSB.out _ (vb_t HB1.out HATw5.out))); (focus (exact HATw5.out.size)); intro v6 w6 how6 hgw6 h4w6; have HTWw6 := hid_intro (HTWw5.out.bare how6 hgw6 h4w6); have HATw6 : Hid (Below A1.heap.size A1 w6) := hid_intro (app_bel HATw5.out HTWw5.out.ob (Nat.le_refl _) hgw6); have HTBw6 : Hid (Bj w6 w2.heap.size #[.int .i64 (t.kind : Int), .string ⟨t.text.toArray⟩, .int .i64 (t.fr : Int), .int .i64 (t.to : Int)]) := hid_intro (HTBw5.out.grown hgw6 HNW.out.2); obtain ⟨tc0, tc1, tc2, tc3⟩ := HTBw6.out.c4; skip; clear how6 hgw6 h4w6))
        have HQ : Hid (BI l A1 (k + 1) t.to v5 v6 (Wd ++ (Lx.sub l (Lx.pass l Lx.blankB a') t.to)) (Br ++ (Lx.sub l (Lx.pass l Lx.blankB a') t.to)) w6) := hid_intro ⟨HATw6.out, HTWw6.out, fun r h => by have := mk_cons HP.out HRD.out HI.out.mw [] (fun c hc => by cases hc) r h; simpa using this, fun r h => by have := mk_cons HP.out HRD.out HI.out.mb [] (fun c hc => by cases hc) r h; simpa using this, HTK.out, HLE.out.2, by have := HI.out.ka; have := HLE.out.1; omega, by have := HI.out.wl; have := HLF.out; rw [List.length_append, hsl]; omega, by have := HI.out.bl; have := HLF.out; rw [List.length_append, hsl]; omega⟩
        go_roundg (l.length + 1 - (k + 1))
        case measure => have := HI.out.ka; have := HI.out.le; omega
        case rel => exact ⟨k + 1, t.to, _, _, rfl, rfl, by go_num, HQ⟩
end Go.Proofs.YtlahlnocjfphjaaGreatDoor

namespace Go.Proofs.YtlahlnocjfphjaaGreatDoor
open Go.RowKit Go.Maps
open Go.ChangeShapes Go.WideShapes Go.ChangeAt Go.Deep

/-- JsonBlanks' walk. -/
theorem jblanks_walk (l : List UInt8) (bs : List Int) (v v2 : Value) (w : World) (a : Addr) (hE : Lx.Env w) (hD : Env w a) (hB : Lx.Byt w v l) (hL : IL w v2 bs) :
    Calls Tryz.prog 5 #[v, v2] w fun r w' => r = .returned (.bool true) ∧ Below w.heap.size w w' := by
  cases hx : judgedS l (bm 0 0 0) with
  | ok y =>
    by_cases hl : l.length ≤ 100000
    · exact jk_main l bs v v2 w a hE hD hB hL y hx hl
    · exact jk_long l bs v v2 w a hE hD hB hL 0 (by rw [hx]; rfl) (by omega)
  | error p =>
    obtain ⟨r, k⟩ := p
    refine jk_else l bs v v2 w a hE hD hB hL r k (by rw [hx]; rfl) (fun e => ?_)
    subst e
    unfold judgedS at hx
    split at hx
    · simp at hx
    · split at hx
      · simp at hx
      · split at hx
        · simp at hx
        · split at hx
          · simp at hx
          · cases hx
set_option maxRecDepth 100000 in
/-- A list of numbers that comes in. -/
theorem open_nums {H : Type} {enc : TypeId × Value → H} {W : World} {base : Nat} {v : Value} {d : DataW H} {p : List MemPlace} (hv : Value.okWide Tryz.prog W .any base 47 v)
    (h : DataW.Trod enc Tryz.prog W 0 (fun _ => true) true 47 v d p) : ∃ bs : List Int, IL W v bs := by
  obtain ⟨a0, len0, cap0, rfl⟩ := okWide_slice Tryz.underlying47 hv
  obtain ⟨fuel, hf⟩ := h
  rcases open_ints Tryz.underlying47 Tryz.underlying3 cellsInt hf with ⟨hcs, _⟩ | ⟨x, l, c, zs, hcs, _, hl, hm, hz, hx, hcell, hwz⟩
  · simp [Value.cells] at hcs
    obtain ⟨rfl, rfl, rfl⟩ := hcs
    exact ⟨[], none, 0, rfl, Or.inl rfl⟩
  · simp [Value.cells] at hcs
    obtain ⟨rfl, rfl, rfl⟩ := hcs
    simp only [if_true] at hz
    have hlen : (zs.take len0).length = len0 := by simp; omega
    refine ⟨zs.take len0, some x, cap0, by rw [hlen], ?_⟩
    by_cases h0 : len0 = 0
    · subst h0; exact Or.inl (by simp)
    · obtain ⟨b, off, spot⟩ := x
      have hc := hcell 0 (by omega)
      have hspot : spot = none := by simpa [Addr.add] using World.cell?_spot hc
      subst hspot
      refine Or.inr ⟨b, off, rfl, World.block_lt_of_cell? W _ hc, fun i hi => ?_⟩
      have := hcell i (by omega)
      rw [Lx.add_at] at this
      rw [this]
      simp only [List.getElem_take]
      rw [List.getD_eq_getElem?_getD, List.getElem?_eq_getElem (by omega)]
      rfl
end Go.Proofs.YtlahlnocjfphjaaGreatDoor
