/-
  NatRing answers true for every three rows of limbs, and leaves its arguments as they were. No condition.
-/
import Derived.Test.YtmhplblmabiekaaN1
import Derived.Test.YtmhplblmabiekaaRow
namespace Go.Proofs.Ytmhplblmabiekaa
open Go.ChangeShapes Go.WideShapes Go.ChangeAt Go.RowKit

set_option maxRecDepth 100000 in
set_option maxHeartbeats 2000000 in
theorem ring_main (va vb vc : Value) (A B C : Int) (n0 n1 n2 : Nat) (f0 f1 f2 : Nat → Int) (w0 : World) (r0 : Row w0 va n0 f0) (r1 : Row w0 vb n1 f1) (r2 : Row w0 vc n2 f2) (c0 : Can n0 f0) (c1 : Can n1 f1) (c2 : Can n2 f2)
    (e0 : val f0 n0 = A) (e1 : val f1 n1 = B) (e2 : val f2 n2 = C) (hs : n0 + n1 + n2 ≤ 200) :
    Calls Try.prog 4 #[va, vb, vc] w0 fun e w' => e = .returned (.bool true) ∧ Below w0.heap.size w0 w' := by
  have hA : Num w0 va A := ⟨n0, f0, r0, c0, e0⟩
  have hB : Num w0 vb B := ⟨n1, f1, r1, c1, e1⟩
  have hC : Num w0 vc C := ⟨n2, f2, r2, c2, e2⟩
  have lA : A < pw 200 := by rw [← e0]; exact lt_pw (val_lt c0.1) (by omega)
  have lB : B < pw 200 := by rw [← e1]; exact lt_pw (val_lt c1.1) (by omega)
  have lC : C < pw 200 := by rw [← e2]; exact lt_pw (val_lt c2.1) (by omega)
  have pA := hA.nonneg
  have pB := hB.nonneg
  have pC := hC.nonneg
  have k0 := check_num va A w0 hA
  have k1 := check_num vb B w0 hB
  have k2 := check_num vc C w0 hC
  obtain ⟨a0, cap0, rfl, _⟩ := r0.shape
  obtain ⟨a1, cap1, rfl, _⟩ := r1.shape
  obtain ⟨a2, cap2, rfl, _⟩ := r2.shape
  have bt : Below w0.heap.size w0 w0 := Below.refl _ _
  clear r0 r1 r2 c0 c1 c2 e0 e1 e2
  go_enter Try.func4, Try.ntmps4
  go_wp2_with fail
  refine k0.mono ?_
  rintro e w' ⟨rfl, rfl⟩
  go_wp2_with fail
  refine k1.mono ?_
  rintro e w' ⟨rfl, rfl⟩
  go_wp2_with fail
  refine k2.mono ?_
  rintro e w' ⟨rfl, rfl⟩
  clear k0 k1 k2
  have hc1 := add_num _ _ _ _ w0 hA hB (lt_pw lA (by omega)) (lt_pw lB (by omega))
  go_wp2_with fail
  refine hc1.mono ?_
  rintro e w1 ⟨rab, rfl, hAB, b1⟩
  clear hc1
  have hA := hA.below b1
  have hB := hB.below b1
  have hC := hC.below b1
  have bt : Below w0.heap.size w0 w1 := bt.trans (b1.mono bt.size)
  clear b1
  have hc2 := add_num _ _ _ _ w1 hB hA (lt_pw lB (by omega)) (lt_pw lA (by omega))
  go_wp2_with fail
  refine hc2.mono ?_
  rintro e w2 ⟨rba, rfl, hBA, b2⟩
  clear hc2
  have hA := hA.below b2
  have hB := hB.below b2
  have hC := hC.below b2
  have hAB := hAB.below b2
  have bt : Below w0.heap.size w0 w2 := bt.trans (b2.mono bt.size)
  clear b2
  have hc3 := add_num _ _ _ _ w2 hB hC (lt_pw lB (by omega)) (lt_pw lC (by omega))
  go_wp2_with fail
  refine hc3.mono ?_
  rintro e w3 ⟨rbc, rfl, hBC, b3⟩
  clear hc3
  have hA := hA.below b3
  have hB := hB.below b3
  have hC := hC.below b3
  have hAB := hAB.below b3
  have hBA := hBA.below b3
  have bt : Below w0.heap.size w0 w3 := bt.trans (b3.mono bt.size)
  clear b3
  have hc4 := add_num _ _ _ _ w3 hAB hC (lt_pw (add_pw lA lB) (by omega)) (lt_pw lC (by omega))
  go_wp2_with fail
  refine hc4.mono ?_
  rintro e w4 ⟨rx, rfl, hX, b4⟩
  clear hc4
  have hA := hA.below b4
  have hB := hB.below b4
  have hC := hC.below b4
  have hAB := hAB.below b4
  have hBA := hBA.below b4
  have hBC := hBC.below b4
  have bt : Below w0.heap.size w0 w4 := bt.trans (b4.mono bt.size)
  clear b4
  have hc5 := add_num _ _ _ _ w4 hA hBC (lt_pw lA (by omega)) (lt_pw (add_pw lB lC) (by omega))
  go_wp2_with fail
  refine hc5.mono ?_
  rintro e w5 ⟨ry, rfl, hY, b5⟩
  clear hc5
  have hA := hA.below b5
  have hB := hB.below b5
  have hC := hC.below b5
  have hAB := hAB.below b5
  have hBA := hBA.below b5
  have hBC := hBC.below b5
  have hX := hX.below b5
  have bt : Below w0.heap.size w0 w5 := bt.trans (b5.mono bt.size)
  clear b5
  have hc6 := mul_num _ _ _ _ w5 hA hB (lt_pw lA (by omega)) (lt_pw lB (by omega))
  go_wp2_with fail
  refine hc6.mono ?_
  rintro e w6 ⟨rm, rfl, hM, b6⟩
  clear hc6
  have hA := hA.below b6
  have hB := hB.below b6
  have hC := hC.below b6
  have hAB := hAB.below b6
  have hBA := hBA.below b6
  have hBC := hBC.below b6
  have hX := hX.below b6
  have hY := hY.below b6
  have bt : Below w0.heap.size w0 w6 := bt.trans (b6.mono bt.size)
  clear b6
  have hc7 := mul_num _ _ _ _ w6 hB hA (lt_pw lB (by omega)) (lt_pw lA (by omega))
  go_wp2_with fail
  refine hc7.mono ?_
  rintro e w7 ⟨rn, rfl, hN, b7⟩
  clear hc7
  have hA := hA.below b7
  have hB := hB.below b7
  have hC := hC.below b7
  have hAB := hAB.below b7
  have hBA := hBA.below b7
  have hBC := hBC.below b7
  have hX := hX.below b7
  have hY := hY.below b7
  have hM := hM.below b7
  have bt : Below w0.heap.size w0 w7 := bt.trans (b7.mono bt.size)
  clear b7
  have hc8 := mul_num _ _ _ _ w7 hA hBC (lt_pw lA (by omega)) (lt_pw (add_pw lB lC) (by omega))
  go_wp2_with fail
  refine hc8.mono ?_
  rintro e w8 ⟨rp, rfl, hP, b8⟩
  clear hc8
  have hA := hA.below b8
  have hB := hB.below b8
  have hC := hC.below b8
  have hAB := hAB.below b8
  have hBA := hBA.below b8
  have hBC := hBC.below b8
  have hX := hX.below b8
  have hY := hY.below b8
  have hM := hM.below b8
  have hN := hN.below b8
  have bt : Below w0.heap.size w0 w8 := bt.trans (b8.mono bt.size)
  clear b8
  have hc9 := mul_num _ _ _ _ w8 hA hC (lt_pw lA (by omega)) (lt_pw lC (by omega))
  go_wp2_with fail
  refine hc9.mono ?_
  rintro e w9 ⟨rq, rfl, hQ, b9⟩
  clear hc9
  have hA := hA.below b9
  have hB := hB.below b9
  have hC := hC.below b9
  have hAB := hAB.below b9
  have hBA := hBA.below b9
  have hBC := hBC.below b9
  have hX := hX.below b9
  have hY := hY.below b9
  have hM := hM.below b9
  have hN := hN.below b9
  have hP := hP.below b9
  have bt : Below w0.heap.size w0 w9 := bt.trans (b9.mono bt.size)
  clear b9
  have hc10 := add_num _ _ _ _ w9 hM hQ (lt_pw (mul_pw pA lA lB) (by omega)) (lt_pw (mul_pw pA lA lC) (by omega))
  go_wp2_with fail
  refine hc10.mono ?_
  rintro e w10 ⟨rr, rfl, hR, b10⟩
  clear hc10
  have hA := hA.below b10
  have hB := hB.below b10
  have hC := hC.below b10
  have hAB := hAB.below b10
  have hBA := hBA.below b10
  have hBC := hBC.below b10
  have hX := hX.below b10
  have hY := hY.below b10
  have hM := hM.below b10
  have hN := hN.below b10
  have hP := hP.below b10
  have hQ := hQ.below b10
  have bt : Below w0.heap.size w0 w10 := bt.trans (b10.mono bt.size)
  clear b10
  have hc11 := sub_num _ _ _ _ w10 hAB hB (lt_pw (add_pw lA lB) (by omega)) (by omega)
  go_wp2_with fail
  refine hc11.mono ?_
  rintro e w11 ⟨rd, rfl, hD, b11⟩
  clear hc11
  have hA := hA.below b11
  have hB := hB.below b11
  have hC := hC.below b11
  have hAB := hAB.below b11
  have hBA := hBA.below b11
  have hBC := hBC.below b11
  have hX := hX.below b11
  have hY := hY.below b11
  have hM := hM.below b11
  have hN := hN.below b11
  have hP := hP.below b11
  have hQ := hQ.below b11
  have hR := hR.below b11
  have bt : Below w0.heap.size w0 w11 := bt.trans (b11.mono bt.size)
  clear b11
  have hc12 := same_num _ _ _ w11 hAB ((Int.add_comm B A ▸ hBA : Num _ _ (A + B)))
  go_wp2_with fail
  refine hc12.mono ?_
  rintro e w12 ⟨rfl, b12⟩
  clear hc12
  have hA := hA.below b12
  have hB := hB.below b12
  have hC := hC.below b12
  have hAB := hAB.below b12
  have hBA := hBA.below b12
  have hBC := hBC.below b12
  have hX := hX.below b12
  have hY := hY.below b12
  have hM := hM.below b12
  have hN := hN.below b12
  have hP := hP.below b12
  have hQ := hQ.below b12
  have hR := hR.below b12
  have hD := hD.below b12
  have bt : Below w0.heap.size w0 w12 := bt.trans (b12.mono bt.size)
  clear b12
  have hc13 := same_num _ _ _ w12 hX ((by rw [Int.add_assoc]; exact hY))
  go_wp2_with fail
  refine hc13.mono ?_
  rintro e w13 ⟨rfl, b13⟩
  clear hc13
  have hA := hA.below b13
  have hB := hB.below b13
  have hC := hC.below b13
  have hAB := hAB.below b13
  have hBA := hBA.below b13
  have hBC := hBC.below b13
  have hX := hX.below b13
  have hY := hY.below b13
  have hM := hM.below b13
  have hN := hN.below b13
  have hP := hP.below b13
  have hQ := hQ.below b13
  have hR := hR.below b13
  have hD := hD.below b13
  have bt : Below w0.heap.size w0 w13 := bt.trans (b13.mono bt.size)
  clear b13
  have hc14 := same_num _ _ _ w13 hM ((Int.mul_comm B A ▸ hN : Num _ _ (A * B)))
  go_wp2_with fail
  refine hc14.mono ?_
  rintro e w14 ⟨rfl, b14⟩
  clear hc14
  have hA := hA.below b14
  have hB := hB.below b14
  have hC := hC.below b14
  have hAB := hAB.below b14
  have hBA := hBA.below b14
  have hBC := hBC.below b14
  have hX := hX.below b14
  have hY := hY.below b14
  have hM := hM.below b14
  have hN := hN.below b14
  have hP := hP.below b14
  have hQ := hQ.below b14
  have hR := hR.below b14
  have hD := hD.below b14
  have bt : Below w0.heap.size w0 w14 := bt.trans (b14.mono bt.size)
  clear b14
  have hc15 := same_num _ _ _ w14 hP ((by rw [Int.mul_add]; exact hR))
  go_wp2_with fail
  refine hc15.mono ?_
  rintro e w15 ⟨rfl, b15⟩
  clear hc15
  have hA := hA.below b15
  have hB := hB.below b15
  have hC := hC.below b15
  have hAB := hAB.below b15
  have hBA := hBA.below b15
  have hBC := hBC.below b15
  have hX := hX.below b15
  have hY := hY.below b15
  have hM := hM.below b15
  have hN := hN.below b15
  have hP := hP.below b15
  have hQ := hQ.below b15
  have hR := hR.below b15
  have hD := hD.below b15
  have bt : Below w0.heap.size w0 w15 := bt.trans (b15.mono bt.size)
  clear b15
  have hc16 := same_num _ _ _ w15 hD ((by rw [show A + B - B = A by omega]; exact hA))
  go_wp2_with fail
  refine hc16.mono ?_
  rintro e w16 ⟨rfl, b16⟩
  clear hc16
  have hA := hA.below b16
  have hB := hB.below b16
  have hC := hC.below b16
  have hAB := hAB.below b16
  have hBA := hBA.below b16
  have hBC := hBC.below b16
  have hX := hX.below b16
  have hY := hY.below b16
  have hM := hM.below b16
  have hN := hN.below b16
  have hP := hP.below b16
  have hQ := hQ.below b16
  have hR := hR.below b16
  have hD := hD.below b16
  have bt : Below w0.heap.size w0 w16 := bt.trans (b16.mono bt.size)
  clear b16
  have kp := check_num rp _ w16 hP
  go_wp2_with fail
  refine kp.mono ?_
  rintro e w' ⟨rfl, rfl⟩
  clear kp
  have hh := heads_any w16
  go_wp2_with fail
  refine hh.mono ?_
  rintro e w' ⟨rfl, bz⟩
  go_wp2
  go_ret
  exact ⟨rfl, bt.trans (bz.mono bt.size)⟩

set_option maxHeartbeats 800000 in
theorem ring_walk (va vb vc : Value) (n0 n1 n2 : Nat) (f0 f1 f2 : Nat → Int) (w0 : World) (r0 : Row w0 va n0 f0) (r1 : Row w0 vb n1 f1) (r2 : Row w0 vc n2 f2) (h0 : n0 ≤ 35184372088832) (h1 : n1 ≤ 35184372088832) (h2 : n2 ≤ 35184372088832) :
    Calls Try.prog 4 #[va, vb, vc] w0 fun e w' => e = .returned (.bool true) ∧ Below w0.heap.size w0 w' := by
  have hh := heads_any w0
  obtain ⟨a0, cap0, e0, _⟩ := r0.shape
  obtain ⟨a1, cap1, e1, _⟩ := r1.shape
  obtain ⟨a2, cap2, e2, _⟩ := r2.shape
  by_cases c0 : Can n0 f0
  · have k0 := check_ok va n0 f0 w0 r0 c0
    by_cases c1 : Can n1 f1
    · have k1 := check_ok vb n1 f1 w0 r1 c1
      by_cases c2 : Can n2 f2
      · have k2 := check_ok vc n2 f2 w0 r2 c2
        by_cases hs : n0 + n1 + n2 ≤ 200
        · exact ring_main va vb vc _ _ _ n0 n1 n2 f0 f1 f2 w0 r0 r1 r2 c0 c1 c2 rfl rfl rfl hs
        · have hI : (200 : Int) < (n0 : Int) + (n1 : Int) + (n2 : Int) := by omega
          subst e0 e1 e2
          clear r0 r1 r2 c0 c1 c2
          go_enter Try.func4, Try.ntmps4
          go_wp2_with fail
          refine k0.mono ?_
          rintro e w' ⟨rfl, rfl⟩
          go_wp2_with fail
          refine k1.mono ?_
          rintro e w' ⟨rfl, rfl⟩
          go_wp2_with fail
          refine k2.mono ?_
          rintro e w' ⟨rfl, rfl⟩
          go_wp2_with fail
          refine hh.mono ?_
          rintro e w' ⟨rfl, bz⟩
          go_wp2
          go_ret
          exact ⟨rfl, bz⟩
      · have k2 := check_bad vc n2 f2 w0 r2 c2
        subst e0 e1 e2
        clear r0 r1 r2 c0 c1 c2
        go_enter Try.func4, Try.ntmps4
        go_wp2_with fail
        refine k0.mono ?_
        rintro e w' ⟨rfl, rfl⟩
        go_wp2_with fail
        refine k1.mono ?_
        rintro e w' ⟨rfl, rfl⟩
        go_wp2_with fail
        refine k2.mono ?_
        rintro e w' ⟨rfl, rfl⟩
        go_wp2_with fail
        refine hh.mono ?_
        rintro e w' ⟨rfl, bz⟩
        go_wp2
        go_ret
        exact ⟨rfl, bz⟩
    · have k1 := check_bad vb n1 f1 w0 r1 c1
      subst e0 e1 e2
      clear r0 r1 r2 c0 c1
      go_enter Try.func4, Try.ntmps4
      go_wp2_with fail
      refine k0.mono ?_
      rintro e w' ⟨rfl, rfl⟩
      go_wp2_with fail
      refine k1.mono ?_
      rintro e w' ⟨rfl, rfl⟩
      go_wp2_with fail
      refine hh.mono ?_
      rintro e w' ⟨rfl, bz⟩
      go_wp2
      go_ret
      exact ⟨rfl, bz⟩
  · have k0 := check_bad va n0 f0 w0 r0 c0
    subst e0 e1 e2
    clear r0 r1 r2 c0
    go_enter Try.func4, Try.ntmps4
    go_wp2_with fail
    refine k0.mono ?_
    rintro e w' ⟨rfl, rfl⟩
    go_wp2_with fail
    refine hh.mono ?_
    rintro e w' ⟨rfl, bz⟩
    go_wp2
    go_ret
    exact ⟨rfl, bz⟩

theorem ring_contract (H : Type) (enc : TypeId × Value → H) (W : World) (base : Nat) (args : Array Value) (ds gs : List (DataW H)) (before : List MemPlace)
    (hval : ∀ (j : Nat) t v, Try.f4.params[j]? = some t → args[j]? = some v → Value.okWide Try.prog W .any base t v)
    (hW : DataW.Whole enc Try.prog Try.f4.params.toList Rows.natRingSpec.vars false W args.toList ds gs before)
    (hsz : (DataW.weightsEach Try.prog (Try.f4.params.toList ++ (OpenSpec.ofChange Rows.natRingSpec).bare.plain.varTypes Try.prog) (ds ++ gs)).all (· ≤ reachBytes) = true) :
    Calls Try.prog 4 args W fun e W' => ∃ v, e = .returned v ∧ Rows.natRingSpec.post enc Try.prog Try.f4 false true false false W args v W' := by
  have hW' := hW
  obtain ⟨p, q, hA0, hV, rfl, hfz, hnd⟩ := hW
  have hA : DataW.TrodAll enc Try.prog W 0 (fun _ => true) true Try.f4.params.toList args.toList ds p := hA0
  rw [Try.params4] at hA hval hsz
  obtain ⟨v0, vs0, d0, ds0, p0, q0, hargs, rfl, rfl, h0, r0⟩ := trodAll_cons hA
  obtain ⟨v1, vs1, d1, ds1, p1, q1, rfl, rfl, rfl, h1, r1⟩ := trodAll_cons r0
  obtain ⟨v2, vs2, d2, ds2, p2, q2, rfl, rfl, rfl, h2, r2⟩ := trodAll_cons r1
  obtain ⟨rfl, rfl, rfl⟩ := trodAll_nil r2
  obtain rfl : args = #[v0, v1, v2] := by cases args; simp_all
  obtain ⟨rfl, rfl⟩ := trodVars_none hV
  obtain ⟨n0, f0, hR0, hd0⟩ := open_limbs (hval 0 22 v0 rfl rfl) h0
  have hn0 := reach_limbs hsz (j := 0) rfl rfl hd0
  have lt0 : ∀ x ∈ p0, x.block < W.heap.size := by obtain ⟨m, hm⟩ := h0; exact DataW.trod_lt m _ _ _ hm
  obtain ⟨n1, f1, hR1, hd1⟩ := open_limbs (hval 1 22 v1 rfl rfl) h1
  have hn1 := reach_limbs hsz (j := 1) rfl rfl hd1
  have lt1 : ∀ x ∈ p1, x.block < W.heap.size := by obtain ⟨m, hm⟩ := h1; exact DataW.trod_lt m _ _ _ hm
  obtain ⟨n2, f2, hR2, hd2⟩ := open_limbs (hval 2 22 v2 rfl rfl) h2
  have hn2 := reach_limbs hsz (j := 2) rfl rfl hd2
  have lt2 : ∀ x ∈ p2, x.block < W.heap.size := by obtain ⟨m, hm⟩ := h2; exact DataW.trod_lt m _ _ _ hm
  clear hA0
  refine (ring_walk v0 v1 v2 n0 n1 n2 f0 f1 f2 W hR0 hR1 hR2 (by omega) (by omega) (by omega)).mono fun e W' ⟨he, bel⟩ => ?_
  subst he
  exact ⟨_, rfl, _, _, _, [], _, [], hW', trodAll_mk1 (shut_bool Try.underlying4 _), (trodAll_cons_mk (Below.trod laidOut (by kernel_rfl) (of_decide_eq_true (by kernel_rfl)) h0 bel lt0) (trodAll_cons_mk (Below.trod laidOut (by kernel_rfl) (of_decide_eq_true (by kernel_rfl)) h1 bel lt1) (trodAll_cons_mk (Below.trod laidOut (by kernel_rfl) (of_decide_eq_true (by kernel_rfl)) h2 bel lt2) trodAll_mk0))), rfl, bel.frame _, fun h => by cases h⟩

theorem ring_laid_met (os : Os) : laidMet Try.prog Rows.natRingRow.laid ((World.holding Try.prog os ⟨#[], #[], []⟩).forCall (fun _ _ => 0) ⟨#[], #[.slice none 0 0, .slice none 0 0, .slice none 0 0], []⟩).memory :=
  laidMet_of_run' 8 (by kernel_rfl) (by kernel_rfl)
theorem ring_reads (os : Os) {H : Type} (enc : TypeId × Value → H) : ∃ places, DataW.whole enc Try.prog ((World.holding Try.prog os ⟨#[], #[], []⟩).forCall (fun _ _ => 0) ⟨#[], #[.slice none 0 0, .slice none 0 0, .slice none 0 0], []⟩).memory Try.f4.params.toList Rows.natRingSpec.vars false #[Value.slice none 0 0, Value.slice none 0 0, Value.slice none 0 0].toList 8 = some ([.nil, .nil, .nil], [], places) :=
  ⟨[], by kernel_rfl⟩

set_option maxRecDepth 100000 in
theorem ring_lifted (os : Os) (started : os.Started) (H : Type) (enc : TypeId × Value → H) (F : Stop.Interp) :
    ReturnsInHanded {} Try.checked os 4 .any ((OpenSpec.ofChange Rows.natRingSpec).preRow enc Try.prog Try.f4 Rows.natRingRow.domain false Rows.natRingRow.laid) (((OpenSpec.ofChange Rows.natRingSpec).at F).post enc Try.prog Try.f4 false true false false) := by
  obtain ⟨places, hx⟩ := ring_reads os enc
  refine returnsInHanded_of_row (C := Try.checked) (s := (OpenSpec.ofChange Rows.natRingSpec)) own started (by kernel_rfl) Try.func4
    (witness_row_at (enc := enc) (C := Try.checked) false _ #[.slice none 0 0, .slice none 0 0, .slice none 0 0] rfl (by kernel_rfl) (by kernel_rfl) (by kernel_rfl)
      (OpenSpec.preRow_of_cond 8 hx (by kernel_rfl) (fun k hk => by cases hk) (by kernel_rfl) (ring_laid_met os))) ?_
  intro W base args ds gs before hval hW _ _ hsz _ _ _
  exact ring_contract H enc W base args ds gs before hval hW hsz

theorem ring_said : Rows.NatRingSaid :=
  OpenClaim.holds_of_cond 4 Try.f4 rfl rfl rfl rfl rfl rfl rfl ⟨rfl, rfl, rfl, rfl, rfl⟩ rfl rfl rfl rfl rfl (by kernel_rfl) Try.func4 (by kernel_rfl)
    (of_decide_eq_true (by kernel_rfl)) (by unfold Func.isWrapper; first | (rw [if_pos (by decide +kernel)]; kernel_rfl) | (rw [if_neg (by decide +kernel)]; exact ⟨rfl, rfl⟩))
    (fun os started H enc _ F => by rw [OpenClaim.pre_eq_preRow]; exact ring_lifted os started H enc F)
#print axioms ring_said
end Go.Proofs.Ytmhplblmabiekaa
