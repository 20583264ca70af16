/-
  JsonLimits answers true for every bytes and limits. Conditions: the tables as they are laid.
-/
import Derived.Test.YtlahlnocjfphjaaGreatDoorJoined46
import Derived.Test.YtlahlnocjfphjaaGreatDoorJoined47
namespace Go.Proofs.YtlahlnocjfphjaaGreatDoor
open Go.RowKit Go.Maps
attribute [local go_sem] setCell_drewN alloc_drewN

theorem wid_zero (a1 a2 a3 : Int) : Wid (bm a1 a2 a3) (bm 0 0 0) ∧ (bm a1 a2 a3).dep ≤ (bm 0 0 0).dep := by
  have h1 := bounded_in a1 10000 (by decide)
  have h2 := bounded_in a2 65536 (by decide)
  have h3 := bounded_in a3 1000000 (by decide)
  have e1 : boundedL 0 10000 = 10000 := by decide
  have e2 : boundedL 0 65536 = 65536 := by decide
  have e3 : boundedL 0 1000000 = 1000000 := by decide
  unfold Wid bm
  simp only [e1, e2, e3]
  exact ⟨⟨h2.2, h3.2⟩, h1.2⟩
theorem vi_free {w w' : World} {X : Nat → Prop} {x : JV} {f : Nat → Value} (h : VI w X x f) (hb : Below w.heap.size w w') : VI w' (fun _ => False) x f := h.carry fun b _ hlt => ⟨hb.block b hlt, id⟩

set_option maxRecDepth 100000 in
set_option maxHeartbeats 1600000 in
theorem lim_ok (l : List UInt8) (v : Value) (a1 a2 a3 a4 a5 : Int) (w : World) (a : Addr) (hE : Lx.Env w) (hD : Env w a) (hB : Lx.Byt w v l) (x : JV) (hx : judgedS l (bm a1 a2 a3) = .ok x) (hy : judgedS l (bm 0 0 0) = .ok x) :
    Calls Tryz.prog 8 #[v, limV a1 a2 a3 a4 a5] w fun r w' => r = .returned (.bool true) ∧ Below w.heap.size w w' := by
  obtain ⟨A0, hA0⟩ : ∃ A0, w.alloc (.cells #[.int .i64 a1, .int .i64 a2, .int .i64 a3, .int .i64 a4, .int .i64 a5] 24) = A0 := ⟨_, rfl⟩
  have HB0 : Hid (Below w.heap.size w A0) := hid_intro (hA0 ▸ vb_a (Below.refl _ _) _)
  have kL : Bj A0 w.heap.size #[.int .i64 a1, .int .i64 a2, .int .i64 a3, .int .i64 a4, .int .i64 a5] := hA0 ▸ Bj.new _ _ _
  have l0 := kL.cell 0
  have l1 := kL.cell 1
  have l2 := kL.cell 2
  have l3 := kL.cell 3
  have l4 := kL.cell 4
  simp only [List.getElem?_toArray, List.getElem?_cons_zero, List.getElem?_cons_succ] at l0 l1 l2 l3 l4
  have HR := hid_intro (fun (w' : World) (hb : Below w.heap.size w w') (q1 q2 q3 q4 q5 : Int) => read_any l v q1 q2 q3 q4 q5 w' a (hE.below hb) (hD.below hb) (hB.below hb))
  have HR1 := hid_intro (HR.out A0 HB0.out a1 a2 a3 a4 a5)
  have HR2 := hid_intro (fun w' hb => HR.out w' hb 0 0 0 0 0)
  rw [hx] at HR1
  rw [hy] at HR2
  have HH := hid_intro (fun (w' : World) (hb : Below w.heap.size w w') => heads_any w' a (hE.below hb) (hD.below hb))
  obtain ⟨ao, cap, rfl⟩ := byt_shape hB
  unfold limV at HR1 HR2 ⊢
  have v1 : ∀ w, (Op.equalIn 10000 34 (.agg #[.int .i64 1, .int .i64 0]) (.agg #[.int .i64 1, .int .i64 0])).run Tryz.prog w = .ok true w := fun w => by rw [eqIn_verd]; rfl
  clear hE hD hB hx hy HR kL
  go_enter Tryz.func8, Tryz.ntmps8
  go_wp2_with fail
  refine HR1.out.mono ?_; rintro r1 w1 ⟨hb1, f1, rfl, hv1⟩
  obtain ⟨k1, n1, g1, e1, t1, a1_, m1, c1, b1, o1, d1, hva1, _⟩ := hv1.lit
  rw [hva1]
  obtain ⟨A1, hA1⟩ : ∃ A1, ((w1.alloc (.cells #[.int .i64 k1, .bool n1, .string g1, .int .i64 e1, .string t1, .slice a1_ m1 c1, .slice b1 o1 d1] 31)).alloc (.cells #[.int .i64 1, .int .i64 0] 34)) = A1 := ⟨_, rfl⟩
  have HA1 := hid_intro hA1
  have hs1 : Below w1.heap.size w1 A1 := hA1 ▸ vb_a (vb_a (Below.refl _ _) _) _
  have hb01 := vb_t (vb_t HB0.out hb1) hs1
  have hx1 : Bj A1 w1.heap.size #[.int .i64 k1, .bool n1, .string g1, .int .i64 e1, .string t1, .slice a1_ m1 c1, .slice b1 o1 d1] := hA1 ▸ (Bj.new _ _ _).al _
  have hy1 : Bj A1 (w1.heap.size + 1) #[.int .i64 1, .int .i64 0] := hA1 ▸ Bj.new' _ _ _ _ (by simp)
  clear hA1
  go_wp2_with fail
  rw [HA1.out]
  refine (HR2.out A1 hb01).mono ?_; rintro r2 w2 ⟨hb2, f2, rfl, hv2⟩
  obtain ⟨k2, n2, g2, e2, t2, a2_, m2, c2, b2, o2, d2, hva2, _⟩ := hv2.lit
  rw [hva2]
  have hs2 : Below w2.heap.size w2 ((w2.alloc (.cells #[.int .i64 k2, .bool n2, .string g2, .int .i64 e2, .string t2, .slice a2_ m2 c2, .slice b2 o2 d2] 31)).alloc (.cells #[.int .i64 1, .int .i64 0] 34)) := vb_a (vb_a (Below.refl _ _) _) _
  have hb12 : Below A1.heap.size A1 ((w2.alloc (.cells #[.int .i64 k2, .bool n2, .string g2, .int .i64 e2, .string t2, .slice a2_ m2 c2, .slice b2 o2 d2] 31)).alloc (.cells #[.int .i64 1, .int .i64 0] 34)) := vb_t hb2 hs2
  have hb02 : Below w.heap.size w ((w2.alloc (.cells #[.int .i64 k2, .bool n2, .string g2, .int .i64 e2, .string t2, .slice a2_ m2 c2, .slice b2 o2 d2] 31)).alloc (.cells #[.int .i64 1, .int .i64 0] 34)) := vb_t hb01 hb12
  have hc := Below.refl (World.heap ((w2.alloc (.cells #[.int .i64 k2, .bool n2, .string g2, .int .i64 e2, .string t2, .slice a2_ m2 c2, .slice b2 o2 d2] 31)).alloc (.cells #[.int .i64 1, .int .i64 0] 34))).size ((w2.alloc (.cells #[.int .i64 k2, .bool n2, .string g2, .int .i64 e2, .string t2, .slice a2_ m2 c2, .slice b2 o2 d2] 31)).alloc (.cells #[.int .i64 1, .int .i64 0] 34))
  have hx2 : Bj ((w2.alloc (.cells #[.int .i64 k2, .bool n2, .string g2, .int .i64 e2, .string t2, .slice a2_ m2 c2, .slice b2 o2 d2] 31)).alloc (.cells #[.int .i64 1, .int .i64 0] 34)) w2.heap.size #[.int .i64 k2, .bool n2, .string g2, .int .i64 e2, .string t2, .slice a2_ m2 c2, .slice b2 o2 d2] := (Bj.new _ _ _).al _
  have hy2 : Bj ((w2.alloc (.cells #[.int .i64 k2, .bool n2, .string g2, .int .i64 e2, .string t2, .slice a2_ m2 c2, .slice b2 o2 d2] 31)).alloc (.cells #[.int .i64 1, .int .i64 0] 34)) (w2.heap.size + 1) #[.int .i64 1, .int .i64 0] := Bj.new' _ _ _ _ (by simp)
  obtain ⟨x0, x1, x2, x3, x4, x5, x6⟩ := (hx1.bel hb12).c7
  obtain ⟨y0, y1⟩ := (hy1.bel hb12).c2
  obtain ⟨z0, z1, z2, z3, z4, z5, z6⟩ := hx2.c7
  obtain ⟨u0, u1⟩ := hy2.c2
  have HSM : Hid (∀ w', Below (World.heap ((w2.alloc (.cells #[.int .i64 k2, .bool n2, .string g2, .int .i64 e2, .string t2, .slice a2_ m2 c2, .slice b2 o2 d2] 31)).alloc (.cells #[.int .i64 1, .int .i64 0] 34))).size ((w2.alloc (.cells #[.int .i64 k2, .bool n2, .string g2, .int .i64 e2, .string t2, .slice a2_ m2 c2, .slice b2 o2 d2] 31)).alloc (.cells #[.int .i64 1, .int .i64 0] 34)) w' → Calls Tryz.prog 11 #[.agg #[.int .i64 k1, .bool n1, .string g1, .int .i64 e1, .string t1, .slice a1_ m1 c1, .slice b1 o1 d1], .agg #[.int .i64 k2, .bool n2, .string g2, .int .i64 e2, .string t2, .slice a2_ m2 c2, .slice b2 o2 d2]] w' (fun r w3 => r = .returned (.bool true) ∧ Below (World.heap ((w2.alloc (.cells #[.int .i64 k2, .bool n2, .string g2, .int .i64 e2, .string t2, .slice a2_ m2 c2, .slice b2 o2 d2] 31)).alloc (.cells #[.int .i64 1, .int .i64 0] 34))).size ((w2.alloc (.cells #[.int .i64 k2, .bool n2, .string g2, .int .i64 e2, .string t2, .slice a2_ m2 c2, .slice b2 o2 d2] 31)).alloc (.cells #[.int .i64 1, .int .i64 0] 34)) w3)) := hid_intro (fun w' hb => by
    have := same_refl x f1 f2 w' (vi_free hv1 (vb_t hs1 (vb_t hb12 hb))) (vi_free hv2 (vb_t hs2 hb))
    rw [hva1, hva2] at this
    exact this.mono fun r w3 hr => ⟨hr.1, vb_t hb hr.2⟩)
  have HHD : Hid (∀ w', Below (World.heap ((w2.alloc (.cells #[.int .i64 k2, .bool n2, .string g2, .int .i64 e2, .string t2, .slice a2_ m2 c2, .slice b2 o2 d2] 31)).alloc (.cells #[.int .i64 1, .int .i64 0] 34))).size ((w2.alloc (.cells #[.int .i64 k2, .bool n2, .string g2, .int .i64 e2, .string t2, .slice a2_ m2 c2, .slice b2 o2 d2] 31)).alloc (.cells #[.int .i64 1, .int .i64 0] 34)) w' → Calls Tryz.prog 14 #[] w' (fun r w3 => r = .returned (.bool true) ∧ Below w.heap.size w w3)) := hid_intro (fun w' hb => (HH.out w' (vb_t hb02 hb)).mono fun r w3 hr => ⟨hr.1, vb_t (vb_t hb02 hb) hr.2⟩)
  clear hx1 hy1 hx2 hy2 hb12 hb02 hs1 hs2 hb01 hb1 hb2 HR1 HR2 HH HA1 HB0 hva1 hva2 hv1 hv2
  go_wp2_with (first | (go_at_call 11; refine (HSM.out _ ?_).mono ?_; (with_reducible repeat (first | exact hc | refine vb_d ?_)); rintro r3 w3 ⟨rfl, hc⟩) | (go_at_call 14; refine (HHD.out _ ?_).mono ?_; (with_reducible repeat (first | exact hc | refine vb_d ?_)); rintro r4 w4 ⟨rfl, hw4⟩))
  go_ret
  exact ⟨rfl, hw4⟩

set_option maxRecDepth 100000 in
set_option maxHeartbeats 1600000 in
theorem lim_e3 (l : List UInt8) (v : Value) (a1 a2 a3 a4 a5 : Int) (w : World) (a : Addr) (hE : Lx.Env w) (hD : Env w a) (hB : Lx.Byt w v l) (k : Int) (hx : judgedS l (bm a1 a2 a3) = .error (3, k)) (hy : judgedS l (bm 0 0 0) = .error (3, k)) :
    Calls Tryz.prog 8 #[v, limV a1 a2 a3 a4 a5] w fun r w' => r = .returned (.bool true) ∧ Below w.heap.size w w' := by
  obtain ⟨A0, hA0⟩ : ∃ A0, w.alloc (.cells #[.int .i64 a1, .int .i64 a2, .int .i64 a3, .int .i64 a4, .int .i64 a5] 24) = A0 := ⟨_, rfl⟩
  have HB0 : Hid (Below w.heap.size w A0) := hid_intro (hA0 ▸ vb_a (Below.refl _ _) _)
  have kL : Bj A0 w.heap.size #[.int .i64 a1, .int .i64 a2, .int .i64 a3, .int .i64 a4, .int .i64 a5] := hA0 ▸ Bj.new _ _ _
  have l0 := kL.cell 0
  have l1 := kL.cell 1
  have l2 := kL.cell 2
  have l3 := kL.cell 3
  have l4 := kL.cell 4
  simp only [List.getElem?_toArray, List.getElem?_cons_zero, List.getElem?_cons_succ] at l0 l1 l2 l3 l4
  have HR := hid_intro (fun (w' : World) (hb : Below w.heap.size w w') (q1 q2 q3 q4 q5 : Int) => read_any l v q1 q2 q3 q4 q5 w' a (hE.below hb) (hD.below hb) (hB.below hb))
  have HR1 := hid_intro (HR.out A0 HB0.out a1 a2 a3 a4 a5)
  have HR2 := hid_intro (fun w' hb => HR.out w' hb 0 0 0 0 0)
  rw [hx] at HR1
  rw [hy] at HR2
  have HH := hid_intro (fun (w' : World) (hb : Below w.heap.size w w') => heads_any w' a (hE.below hb) (hD.below hb))
  obtain ⟨ao, cap, rfl⟩ := byt_shape hB
  unfold limV at HR1 HR2 ⊢
  have v1 : ∀ w, (Op.equalIn 10000 34 (.agg #[.int .i64 3, .int .i64 k]) (.agg #[.int .i64 3, .int .i64 k])).run Tryz.prog w = .ok true w := fun w => by rw [eqIn_verd]; simp
  clear hE hD hB hx hy HR kL
  go_enter Tryz.func8, Tryz.ntmps8
  go_wp2_with fail
  refine HR1.out.mono ?_; rintro r1 w1 ⟨hb1, rfl⟩
  unfold zV7
  obtain ⟨A1, hA1⟩ : ∃ A1, ((w1.alloc (.cells #[.int .i64 0, .bool false, .string ⟨#[]⟩, .int .i64 0, .string ⟨#[]⟩, .slice none 0 0, .slice none 0 0] 31)).alloc (.cells #[.int .i64 3, .int .i64 k] 34)) = A1 := ⟨_, rfl⟩
  have HA1 := hid_intro hA1
  have hs1 : Below w1.heap.size w1 A1 := hA1 ▸ vb_a (vb_a (Below.refl _ _) _) _
  have hb01 := vb_t (vb_t HB0.out hb1) hs1
  have hx1 : Bj A1 w1.heap.size #[.int .i64 0, .bool false, .string ⟨#[]⟩, .int .i64 0, .string ⟨#[]⟩, .slice none 0 0, .slice none 0 0] := hA1 ▸ (Bj.new _ _ _).al _
  have hy1 : Bj A1 (w1.heap.size + 1) #[.int .i64 3, .int .i64 k] := hA1 ▸ Bj.new' _ _ _ _ (by simp)
  clear hA1
  go_wp2_with fail
  rw [HA1.out]
  refine (HR2.out A1 hb01).mono ?_; rintro r2 w2 ⟨hb2, rfl⟩
  unfold zV7
  have hs2 : Below w2.heap.size w2 ((w2.alloc (.cells #[.int .i64 0, .bool false, .string ⟨#[]⟩, .int .i64 0, .string ⟨#[]⟩, .slice none 0 0, .slice none 0 0] 31)).alloc (.cells #[.int .i64 3, .int .i64 k] 34)) := vb_a (vb_a (Below.refl _ _) _) _
  have hb12 : Below A1.heap.size A1 ((w2.alloc (.cells #[.int .i64 0, .bool false, .string ⟨#[]⟩, .int .i64 0, .string ⟨#[]⟩, .slice none 0 0, .slice none 0 0] 31)).alloc (.cells #[.int .i64 3, .int .i64 k] 34)) := vb_t hb2 hs2
  have hb02 : Below w.heap.size w ((w2.alloc (.cells #[.int .i64 0, .bool false, .string ⟨#[]⟩, .int .i64 0, .string ⟨#[]⟩, .slice none 0 0, .slice none 0 0] 31)).alloc (.cells #[.int .i64 3, .int .i64 k] 34)) := vb_t hb01 hb12
  have hc := Below.refl (World.heap ((w2.alloc (.cells #[.int .i64 0, .bool false, .string ⟨#[]⟩, .int .i64 0, .string ⟨#[]⟩, .slice none 0 0, .slice none 0 0] 31)).alloc (.cells #[.int .i64 3, .int .i64 k] 34))).size ((w2.alloc (.cells #[.int .i64 0, .bool false, .string ⟨#[]⟩, .int .i64 0, .string ⟨#[]⟩, .slice none 0 0, .slice none 0 0] 31)).alloc (.cells #[.int .i64 3, .int .i64 k] 34))
  have hx2 : Bj ((w2.alloc (.cells #[.int .i64 0, .bool false, .string ⟨#[]⟩, .int .i64 0, .string ⟨#[]⟩, .slice none 0 0, .slice none 0 0] 31)).alloc (.cells #[.int .i64 3, .int .i64 k] 34)) w2.heap.size #[.int .i64 0, .bool false, .string ⟨#[]⟩, .int .i64 0, .string ⟨#[]⟩, .slice none 0 0, .slice none 0 0] := (Bj.new _ _ _).al _
  have hy2 : Bj ((w2.alloc (.cells #[.int .i64 0, .bool false, .string ⟨#[]⟩, .int .i64 0, .string ⟨#[]⟩, .slice none 0 0, .slice none 0 0] 31)).alloc (.cells #[.int .i64 3, .int .i64 k] 34)) (w2.heap.size + 1) #[.int .i64 3, .int .i64 k] := Bj.new' _ _ _ _ (by simp)
  obtain ⟨x0, x1, x2, x3, x4, x5, x6⟩ := (hx1.bel hb12).c7
  obtain ⟨y0, y1⟩ := (hy1.bel hb12).c2
  obtain ⟨z0, z1, z2, z3, z4, z5, z6⟩ := hx2.c7
  obtain ⟨u0, u1⟩ := hy2.c2
  have HHD : Hid (∀ w', Below (World.heap ((w2.alloc (.cells #[.int .i64 0, .bool false, .string ⟨#[]⟩, .int .i64 0, .string ⟨#[]⟩, .slice none 0 0, .slice none 0 0] 31)).alloc (.cells #[.int .i64 3, .int .i64 k] 34))).size ((w2.alloc (.cells #[.int .i64 0, .bool false, .string ⟨#[]⟩, .int .i64 0, .string ⟨#[]⟩, .slice none 0 0, .slice none 0 0] 31)).alloc (.cells #[.int .i64 3, .int .i64 k] 34)) w' → Calls Tryz.prog 14 #[] w' (fun r w3 => r = .returned (.bool true) ∧ Below w.heap.size w w3)) := hid_intro (fun w' hb => (HH.out w' (vb_t hb02 hb)).mono fun r w3 hr => ⟨hr.1, vb_t (vb_t hb02 hb) hr.2⟩)
  clear hx1 hy1 hx2 hy2 hb12 hb02 hs1 hs2 hb01 hb1 hb2 HR1 HR2 HH HA1 HB0
  go_wp2_with ((go_at_call 14; refine (HHD.out _ ?_).mono ?_; (with_reducible repeat (first | exact hc | refine vb_d ?_)); rintro r4 w4 ⟨rfl, hw4⟩))
  go_ret
  exact ⟨rfl, hw4⟩

set_option maxRecDepth 100000 in
set_option maxHeartbeats 1600000 in
theorem lim_eo (l : List UInt8) (v : Value) (a1 a2 a3 a4 a5 : Int) (w : World) (a : Addr) (hE : Lx.Env w) (hD : Env w a) (hB : Lx.Byt w v l) (y : JV) (k : Int) (hx : judgedS l (bm a1 a2 a3) = .error (4, k)) (hk : 1 ≤ k ∧ k ≤ 4) (hy : judgedS l (bm 0 0 0) = .ok y) :
    Calls Tryz.prog 8 #[v, limV a1 a2 a3 a4 a5] w fun r w' => r = .returned (.bool true) ∧ Below w.heap.size w w' := by
  obtain ⟨A0, hA0⟩ : ∃ A0, w.alloc (.cells #[.int .i64 a1, .int .i64 a2, .int .i64 a3, .int .i64 a4, .int .i64 a5] 24) = A0 := ⟨_, rfl⟩
  have HB0 : Hid (Below w.heap.size w A0) := hid_intro (hA0 ▸ vb_a (Below.refl _ _) _)
  have kL : Bj A0 w.heap.size #[.int .i64 a1, .int .i64 a2, .int .i64 a3, .int .i64 a4, .int .i64 a5] := hA0 ▸ Bj.new _ _ _
  have l0 := kL.cell 0
  have l1 := kL.cell 1
  have l2 := kL.cell 2
  have l3 := kL.cell 3
  have l4 := kL.cell 4
  simp only [List.getElem?_toArray, List.getElem?_cons_zero, List.getElem?_cons_succ] at l0 l1 l2 l3 l4
  have HR := hid_intro (fun (w' : World) (hb : Below w.heap.size w w') (q1 q2 q3 q4 q5 : Int) => read_any l v q1 q2 q3 q4 q5 w' a (hE.below hb) (hD.below hb) (hB.below hb))
  have HR1 := hid_intro (HR.out A0 HB0.out a1 a2 a3 a4 a5)
  have HR2 := hid_intro (fun w' hb => HR.out w' hb 0 0 0 0 0)
  rw [hx] at HR1
  rw [hy] at HR2
  have HH := hid_intro (fun (w' : World) (hb : Below w.heap.size w w') => heads_any w' a (hE.below hb) (hD.below hb))
  obtain ⟨ao, cap, rfl⟩ := byt_shape hB
  unfold limV at HR1 HR2 ⊢
  obtain ⟨hk1, hk4⟩ := hk
  clear hE hD hB hx hy HR kL
  go_enter Tryz.func8, Tryz.ntmps8
  go_wp2_with fail
  refine HR1.out.mono ?_; rintro r1 w1 ⟨hb1, rfl⟩
  unfold zV7
  obtain ⟨A1, hA1⟩ : ∃ A1, ((w1.alloc (.cells #[.int .i64 0, .bool false, .string ⟨#[]⟩, .int .i64 0, .string ⟨#[]⟩, .slice none 0 0, .slice none 0 0] 31)).alloc (.cells #[.int .i64 4, .int .i64 k] 34)) = A1 := ⟨_, rfl⟩
  have HA1 := hid_intro hA1
  have hs1 : Below w1.heap.size w1 A1 := hA1 ▸ vb_a (vb_a (Below.refl _ _) _) _
  have hb01 := vb_t (vb_t HB0.out hb1) hs1
  have hx1 : Bj A1 w1.heap.size #[.int .i64 0, .bool false, .string ⟨#[]⟩, .int .i64 0, .string ⟨#[]⟩, .slice none 0 0, .slice none 0 0] := hA1 ▸ (Bj.new _ _ _).al _
  have hy1 : Bj A1 (w1.heap.size + 1) #[.int .i64 4, .int .i64 k] := hA1 ▸ Bj.new' _ _ _ _ (by simp)
  clear hA1
  go_wp2_with fail
  rw [HA1.out]
  refine (HR2.out A1 hb01).mono ?_; rintro r2 w2 ⟨hb2, f2, rfl, hv2⟩
  obtain ⟨k2, n2, g2, e2, t2, a2_, m2, c2, b2, o2, d2, hva2, _⟩ := hv2.lit
  rw [hva2]
  have hs2 : Below w2.heap.size w2 ((w2.alloc (.cells #[.int .i64 k2, .bool n2, .string g2, .int .i64 e2, .string t2, .slice a2_ m2 c2, .slice b2 o2 d2] 31)).alloc (.cells #[.int .i64 1, .int .i64 0] 34)) := vb_a (vb_a (Below.refl _ _) _) _
  have hb12 : Below A1.heap.size A1 ((w2.alloc (.cells #[.int .i64 k2, .bool n2, .string g2, .int .i64 e2, .string t2, .slice a2_ m2 c2, .slice b2 o2 d2] 31)).alloc (.cells #[.int .i64 1, .int .i64 0] 34)) := vb_t hb2 hs2
  have hb02 : Below w.heap.size w ((w2.alloc (.cells #[.int .i64 k2, .bool n2, .string g2, .int .i64 e2, .string t2, .slice a2_ m2 c2, .slice b2 o2 d2] 31)).alloc (.cells #[.int .i64 1, .int .i64 0] 34)) := vb_t hb01 hb12
  have hc := Below.refl (World.heap ((w2.alloc (.cells #[.int .i64 k2, .bool n2, .string g2, .int .i64 e2, .string t2, .slice a2_ m2 c2, .slice b2 o2 d2] 31)).alloc (.cells #[.int .i64 1, .int .i64 0] 34))).size ((w2.alloc (.cells #[.int .i64 k2, .bool n2, .string g2, .int .i64 e2, .string t2, .slice a2_ m2 c2, .slice b2 o2 d2] 31)).alloc (.cells #[.int .i64 1, .int .i64 0] 34))
  have hx2 : Bj ((w2.alloc (.cells #[.int .i64 k2, .bool n2, .string g2, .int .i64 e2, .string t2, .slice a2_ m2 c2, .slice b2 o2 d2] 31)).alloc (.cells #[.int .i64 1, .int .i64 0] 34)) w2.heap.size #[.int .i64 k2, .bool n2, .string g2, .int .i64 e2, .string t2, .slice a2_ m2 c2, .slice b2 o2 d2] := (Bj.new _ _ _).al _
  have hy2 : Bj ((w2.alloc (.cells #[.int .i64 k2, .bool n2, .string g2, .int .i64 e2, .string t2, .slice a2_ m2 c2, .slice b2 o2 d2] 31)).alloc (.cells #[.int .i64 1, .int .i64 0] 34)) (w2.heap.size + 1) #[.int .i64 1, .int .i64 0] := Bj.new' _ _ _ _ (by simp)
  obtain ⟨x0, x1, x2, x3, x4, x5, x6⟩ := (hx1.bel hb12).c7
  obtain ⟨y0, y1⟩ := (hy1.bel hb12).c2
  obtain ⟨z0, z1, z2, z3, z4, z5, z6⟩ := hx2.c7
  obtain ⟨u0, u1⟩ := hy2.c2
  have HHD : Hid (∀ w', Below (World.heap ((w2.alloc (.cells #[.int .i64 k2, .bool n2, .string g2, .int .i64 e2, .string t2, .slice a2_ m2 c2, .slice b2 o2 d2] 31)).alloc (.cells #[.int .i64 1, .int .i64 0] 34))).size ((w2.alloc (.cells #[.int .i64 k2, .bool n2, .string g2, .int .i64 e2, .string t2, .slice a2_ m2 c2, .slice b2 o2 d2] 31)).alloc (.cells #[.int .i64 1, .int .i64 0] 34)) w' → Calls Tryz.prog 14 #[] w' (fun r w3 => r = .returned (.bool true) ∧ Below w.heap.size w w3)) := hid_intro (fun w' hb => (HH.out w' (vb_t hb02 hb)).mono fun r w3 hr => ⟨hr.1, vb_t (vb_t hb02 hb) hr.2⟩)
  clear hx1 hy1 hx2 hy2 hb12 hb02 hs1 hs2 hb01 hb1 hb2 HR1 HR2 HH HA1 HB0 hva2 hv2
  go_wp2_with ((go_at_call 14; refine (HHD.out _ ?_).mono ?_; (with_reducible repeat (first | exact hc | refine vb_d ?_)); rintro r4 w4 ⟨rfl, hw4⟩))
  go_ret
  exact ⟨rfl, hw4⟩

set_option maxRecDepth 100000 in
set_option maxHeartbeats 1600000 in
theorem lim_ee (l : List UInt8) (v : Value) (a1 a2 a3 a4 a5 : Int) (w : World) (a : Addr) (hE : Lx.Env w) (hD : Env w a) (hB : Lx.Byt w v l) (k r j : Int) (hx : judgedS l (bm a1 a2 a3) = .error (4, k)) (hk : 1 ≤ k ∧ k ≤ 4) (hy : judgedS l (bm 0 0 0) = .error (r, j)) (hr : r ≠ 3) :
    Calls Tryz.prog 8 #[v, limV a1 a2 a3 a4 a5] w fun r w' => r = .returned (.bool true) ∧ Below w.heap.size w w' := by
  obtain ⟨A0, hA0⟩ : ∃ A0, w.alloc (.cells #[.int .i64 a1, .int .i64 a2, .int .i64 a3, .int .i64 a4, .int .i64 a5] 24) = A0 := ⟨_, rfl⟩
  have HB0 : Hid (Below w.heap.size w A0) := hid_intro (hA0 ▸ vb_a (Below.refl _ _) _)
  have kL : Bj A0 w.heap.size #[.int .i64 a1, .int .i64 a2, .int .i64 a3, .int .i64 a4, .int .i64 a5] := hA0 ▸ Bj.new _ _ _
  have l0 := kL.cell 0
  have l1 := kL.cell 1
  have l2 := kL.cell 2
  have l3 := kL.cell 3
  have l4 := kL.cell 4
  simp only [List.getElem?_toArray, List.getElem?_cons_zero, List.getElem?_cons_succ] at l0 l1 l2 l3 l4
  have HR := hid_intro (fun (w' : World) (hb : Below w.heap.size w w') (q1 q2 q3 q4 q5 : Int) => read_any l v q1 q2 q3 q4 q5 w' a (hE.below hb) (hD.below hb) (hB.below hb))
  have HR1 := hid_intro (HR.out A0 HB0.out a1 a2 a3 a4 a5)
  have HR2 := hid_intro (fun w' hb => HR.out w' hb 0 0 0 0 0)
  rw [hx] at HR1
  rw [hy] at HR2
  have HH := hid_intro (fun (w' : World) (hb : Below w.heap.size w w') => heads_any w' a (hE.below hb) (hD.below hb))
  obtain ⟨ao, cap, rfl⟩ := byt_shape hB
  unfold limV at HR1 HR2 ⊢
  obtain ⟨hk1, hk4⟩ := hk
  have hr3 : (r == 3) = false := by simpa using hr
  have hr4 : (r != 3) = true := by simpa using hr
  clear hE hD hB hx hy HR kL
  go_enter Tryz.func8, Tryz.ntmps8
  go_wp2_with fail
  refine HR1.out.mono ?_; rintro r1 w1 ⟨hb1, rfl⟩
  unfold zV7
  obtain ⟨A1, hA1⟩ : ∃ A1, ((w1.alloc (.cells #[.int .i64 0, .bool false, .string ⟨#[]⟩, .int .i64 0, .string ⟨#[]⟩, .slice none 0 0, .slice none 0 0] 31)).alloc (.cells #[.int .i64 4, .int .i64 k] 34)) = A1 := ⟨_, rfl⟩
  have HA1 := hid_intro hA1
  have hs1 : Below w1.heap.size w1 A1 := hA1 ▸ vb_a (vb_a (Below.refl _ _) _) _
  have hb01 := vb_t (vb_t HB0.out hb1) hs1
  have hx1 : Bj A1 w1.heap.size #[.int .i64 0, .bool false, .string ⟨#[]⟩, .int .i64 0, .string ⟨#[]⟩, .slice none 0 0, .slice none 0 0] := hA1 ▸ (Bj.new _ _ _).al _
  have hy1 : Bj A1 (w1.heap.size + 1) #[.int .i64 4, .int .i64 k] := hA1 ▸ Bj.new' _ _ _ _ (by simp)
  clear hA1
  go_wp2_with fail
  rw [HA1.out]
  refine (HR2.out A1 hb01).mono ?_; rintro r2 w2 ⟨hb2, rfl⟩
  unfold zV7
  have hs2 : Below w2.heap.size w2 ((w2.alloc (.cells #[.int .i64 0, .bool false, .string ⟨#[]⟩, .int .i64 0, .string ⟨#[]⟩, .slice none 0 0, .slice none 0 0] 31)).alloc (.cells #[.int .i64 r, .int .i64 j] 34)) := vb_a (vb_a (Below.refl _ _) _) _
  have hb12 : Below A1.heap.size A1 ((w2.alloc (.cells #[.int .i64 0, .bool false, .string ⟨#[]⟩, .int .i64 0, .string ⟨#[]⟩, .slice none 0 0, .slice none 0 0] 31)).alloc (.cells #[.int .i64 r, .int .i64 j] 34)) := vb_t hb2 hs2
  have hb02 : Below w.heap.size w ((w2.alloc (.cells #[.int .i64 0, .bool false, .string ⟨#[]⟩, .int .i64 0, .string ⟨#[]⟩, .slice none 0 0, .slice none 0 0] 31)).alloc (.cells #[.int .i64 r, .int .i64 j] 34)) := vb_t hb01 hb12
  have hc := Below.refl (World.heap ((w2.alloc (.cells #[.int .i64 0, .bool false, .string ⟨#[]⟩, .int .i64 0, .string ⟨#[]⟩, .slice none 0 0, .slice none 0 0] 31)).alloc (.cells #[.int .i64 r, .int .i64 j] 34))).size ((w2.alloc (.cells #[.int .i64 0, .bool false, .string ⟨#[]⟩, .int .i64 0, .string ⟨#[]⟩, .slice none 0 0, .slice none 0 0] 31)).alloc (.cells #[.int .i64 r, .int .i64 j] 34))
  have hx2 : Bj ((w2.alloc (.cells #[.int .i64 0, .bool false, .string ⟨#[]⟩, .int .i64 0, .string ⟨#[]⟩, .slice none 0 0, .slice none 0 0] 31)).alloc (.cells #[.int .i64 r, .int .i64 j] 34)) w2.heap.size #[.int .i64 0, .bool false, .string ⟨#[]⟩, .int .i64 0, .string ⟨#[]⟩, .slice none 0 0, .slice none 0 0] := (Bj.new _ _ _).al _
  have hy2 : Bj ((w2.alloc (.cells #[.int .i64 0, .bool false, .string ⟨#[]⟩, .int .i64 0, .string ⟨#[]⟩, .slice none 0 0, .slice none 0 0] 31)).alloc (.cells #[.int .i64 r, .int .i64 j] 34)) (w2.heap.size + 1) #[.int .i64 r, .int .i64 j] := Bj.new' _ _ _ _ (by simp)
  obtain ⟨x0, x1, x2, x3, x4, x5, x6⟩ := (hx1.bel hb12).c7
  obtain ⟨y0, y1⟩ := (hy1.bel hb12).c2
  obtain ⟨z0, z1, z2, z3, z4, z5, z6⟩ := hx2.c7
  obtain ⟨u0, u1⟩ := hy2.c2
  have HHD : Hid (∀ w', Below (World.heap ((w2.alloc (.cells #[.int .i64 0, .bool false, .string ⟨#[]⟩, .int .i64 0, .string ⟨#[]⟩, .slice none 0 0, .slice none 0 0] 31)).alloc (.cells #[.int .i64 r, .int .i64 j] 34))).size ((w2.alloc (.cells #[.int .i64 0, .bool false, .string ⟨#[]⟩, .int .i64 0, .string ⟨#[]⟩, .slice none 0 0, .slice none 0 0] 31)).alloc (.cells #[.int .i64 r, .int .i64 j] 34)) w' → Calls Tryz.prog 14 #[] w' (fun r w3 => r = .returned (.bool true) ∧ Below w.heap.size w w3)) := hid_intro (fun w' hb => (HH.out w' (vb_t hb02 hb)).mono fun r w3 hr => ⟨hr.1, vb_t (vb_t hb02 hb) hr.2⟩)
  clear hx1 hy1 hx2 hy2 hb12 hb02 hs1 hs2 hb01 hb1 hb2 HR1 HR2 HH HA1 HB0
  go_wp2_with ((go_at_call 14; refine (HHD.out _ ?_).mono ?_; (with_reducible repeat (first | exact hc | refine vb_d ?_)); rintro r4 w4 ⟨rfl, hw4⟩))
  go_ret
  exact ⟨rfl, hw4⟩

/-- JsonLimits' walk. -/
theorem limits_walk (l : List UInt8) (v : Value) (a1 a2 a3 a4 a5 : Int) (w : World) (a : Addr) (hE : Lx.Env w) (hD : Env w a) (hB : Lx.Byt w v l) :
    Calls Tryz.prog 8 #[v, limV a1 a2 a3 a4 a5] w fun r w' => r = .returned (.bool true) ∧ Below w.heap.size w w' := by
  have h := judged_wide l (wid_zero a1 a2 a3).1 (wid_zero a1 a2 a3).2
  cases hx : judgedS l (bm a1 a2 a3) with
  | ok x =>
    rw [hx] at h
    exact lim_ok l v a1 a2 a3 a4 a5 w a hE hD hB x hx h
  | error p =>
    obtain ⟨r, k⟩ := p
    rw [hx] at h
    rcases h with ⟨rfl, h⟩ | ⟨rfl, h1, h4, h⟩
    · exact lim_e3 l v a1 a2 a3 a4 a5 w a hE hD hB k hx h
    · cases hy : judgedS l (bm 0 0 0) with
      | ok y => exact lim_eo l v a1 a2 a3 a4 a5 w a hE hD hB y k hx ⟨h1, h4⟩ hy
      | error q =>
        obtain ⟨r, j⟩ := q
        exact lim_ee l v a1 a2 a3 a4 a5 w a hE hD hB k r j hx ⟨h1, h4⟩ hy (fun e => h j (by rw [hy, e]))
end Go.Proofs.YtlahlnocjfphjaaGreatDoor
