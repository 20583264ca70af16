/-
  NatReckons answers true for every two rows of limbs and every number, and leaves its arguments as they were. No condition.
-/
import Derived.Test.YtmhplblmabiekaaR6
import Derived.Test.YtmhplblmabiekaaRow
namespace Go.Proofs.Ytmhplblmabiekaa
open Go.ChangeShapes Go.WideShapes Go.ChangeAt Go.RowKit

set_option maxRecDepth 100000 in
set_option maxHeartbeats 4000000 in
theorem reck_main (va vb : Value) (nn : Int) (n0 n1 : Nat) (f0 f1 : Nat → Int) (w0 : World) (rA : Row w0 va n0 f0) (rB : Row w0 vb n1 f1) (lo0 : ∀ i, 0 ≤ f0 i) (up0 : ∀ i, f0 i < 4294967296) (lo1 : ∀ i, 0 ≤ f1 i) (up1 : ∀ i, f1 i < 4294967296) (h0 : n0 ≤ 60) (h1 : n1 ≤ 60) (n9 : nn < 9223372036854775808) :
    Calls Try.prog 3 #[va, vb, .int .i64 nn] w0 fun e w' => e = .returned (.bool true) ∧ Below w0.heap.size w0 w' := by
  obtain ⟨⟨ea, XA, ea0, ea1, ha1, ha2⟩, ⟨eu, XU, eu0, eu1, hu1, hu2⟩, ⟨em, XM, em0, em1, hm1, hm2⟩⟩ := pow_two_both n0 n1 f0 f1 h0 h1
  obtain ⟨ec, CC, ec0, ec1, hq1, hq2⟩ := cmp_both n0 n1 f0 f1
  obtain ⟨ed, XD, YD, ed0, ed1, hd1, hd2⟩ := div_both n0 n1 f0 f1 h0 h1
  obtain ⟨ep, XP, ep0, ep1, hp1, hp2⟩ := pow_both n0 n1 f0 f1 nn h0 h1 n9
  have g1 : ¬ (60 : Int) < (n0 : Int) := by omega
  have g2 : ¬ (60 : Int) < (n1 : Int) := by omega
  obtain ⟨a0, cap0, e0, _⟩ := rA.shape
  obtain ⟨a1, cap1, e1, _⟩ := rB.shape
  subst e0 e1
  have bt : Below w0.heap.size w0 w0 := Below.refl _ _
  go_enter Try.func3, Try.ntmps3
  have hc1 := copy_any _ _ _ w0 rA lo0 up0 (by omega)
  go_wp2_with fail
  refine hc1.mono ?_
  rintro e w1 ⟨vx, rfl, rX, b1⟩
  clear hc1
  have rA := rA.below b1
  have rB := rB.below b1
  have bt : Below w0.heap.size w0 w1 := bt.trans (b1.mono bt.size)
  clear b1
  have hc2 := copy_any _ _ _ w1 rB lo1 up1 (by omega)
  go_wp2_with fail
  refine hc2.mono ?_
  rintro e w2 ⟨vy, rfl, rY, b2⟩
  clear hc2
  have rA := rA.below b2
  have rB := rB.below b2
  have rX := rX.below b2
  have bt : Below w0.heap.size w0 w2 := bt.trans (b2.mono bt.size)
  clear b2
  have hc3 := hq1 vx vy w2 rX rY
  go_wp2_with fail
  refine hc3.mono ?_
  rintro e w3 ⟨rfl, b3⟩
  clear hc3
  have rA := rA.below b3
  have rB := rB.below b3
  have rX := rX.below b3
  have rY := rY.below b3
  have bt : Below w0.heap.size w0 w3 := bt.trans (b3.mono bt.size)
  clear b3
  have hc4 := hq2 _ _ w3 rA rB
  go_wp2_with fail
  refine hc4.mono ?_
  rintro e w4 ⟨rfl, b4⟩
  clear hc4
  have rA := rA.below b4
  have rB := rB.below b4
  have rX := rX.below b4
  have rY := rY.below b4
  have bt : Below w0.heap.size w0 w4 := bt.trans (b4.mono bt.size)
  clear b4
  have hc5 := ha1 vx vy w4 rX rY
  go_wp2_with fail
  refine hc5.mono ?_
  rintro e w5 ⟨rs, rfl, hS, b5⟩
  clear hc5
  have rA := rA.below b5
  have rB := rB.below b5
  have rX := rX.below b5
  have rY := rY.below b5
  have bt : Below w0.heap.size w0 w5 := bt.trans (b5.mono bt.size)
  clear b5
  have hc6 := ha2 _ _ w5 rA rB
  go_wp2_with fail
  refine hc6.mono ?_
  rintro e w6 ⟨rt, rfl, hT, b6⟩
  clear hc6
  have rA := rA.below b6
  have rB := rB.below b6
  have rX := rX.below b6
  have rY := rY.below b6
  have hS := hS.below b6
  have bt : Below w0.heap.size w0 w6 := bt.trans (b6.mono bt.size)
  clear b6
  have hc7 := hu1 vx vy w6 rX rY
  go_wp2_with fail
  refine hc7.mono ?_
  rintro e w7 ⟨ru, rfl, hU, b7⟩
  clear hc7
  have rA := rA.below b7
  have rB := rB.below b7
  have rX := rX.below b7
  have rY := rY.below b7
  have hS := hS.below b7
  have hT := hT.below b7
  have bt : Below w0.heap.size w0 w7 := bt.trans (b7.mono bt.size)
  clear b7
  have hc8 := hu2 _ _ w7 rA rB
  go_wp2_with fail
  refine hc8.mono ?_
  rintro e w8 ⟨rv, rfl, hV, b8⟩
  clear hc8
  have rA := rA.below b8
  have rB := rB.below b8
  have rX := rX.below b8
  have rY := rY.below b8
  have hS := hS.below b8
  have hT := hT.below b8
  have hU := hU.below b8
  have bt : Below w0.heap.size w0 w8 := bt.trans (b8.mono bt.size)
  clear b8
  have hc9 := same_num rs rt _ w8 hS hT
  go_wp2_with fail
  refine hc9.mono ?_
  rintro e w9 ⟨rfl, b9⟩
  clear hc9
  have rA := rA.below b9
  have rB := rB.below b9
  have rX := rX.below b9
  have rY := rY.below b9
  have hS := hS.below b9
  have hT := hT.below b9
  have hU := hU.below b9
  have hV := hV.below b9
  have bt : Below w0.heap.size w0 w9 := bt.trans (b9.mono bt.size)
  clear b9
  have hc10 := same_num ru rv _ w9 hU hV
  go_wp2_with fail
  refine hc10.mono ?_
  rintro e w10 ⟨rfl, b10⟩
  clear hc10
  have rA := rA.below b10
  have rB := rB.below b10
  have rX := rX.below b10
  have rY := rY.below b10
  have hS := hS.below b10
  have hT := hT.below b10
  have hU := hU.below b10
  have hV := hV.below b10
  have bt : Below w0.heap.size w0 w10 := bt.trans (b10.mono bt.size)
  clear b10
  have hc11 := hm1 vx vy w10 rX rY
  go_wp2_with fail
  refine hc11.mono ?_
  rintro e w11 ⟨rm, rfl, hM, b11⟩
  clear hc11
  have rA := rA.below b11
  have rB := rB.below b11
  have rX := rX.below b11
  have rY := rY.below b11
  have hS := hS.below b11
  have hT := hT.below b11
  have hU := hU.below b11
  have hV := hV.below b11
  have bt : Below w0.heap.size w0 w11 := bt.trans (b11.mono bt.size)
  clear b11
  have hc12 := hm2 _ _ w11 rA rB
  go_wp2_with fail
  refine hc12.mono ?_
  rintro e w12 ⟨ro, rfl, hO, b12⟩
  clear hc12
  have rA := rA.below b12
  have rB := rB.below b12
  have rX := rX.below b12
  have rY := rY.below b12
  have hS := hS.below b12
  have hT := hT.below b12
  have hU := hU.below b12
  have hV := hV.below b12
  have hM := hM.below b12
  have bt : Below w0.heap.size w0 w12 := bt.trans (b12.mono bt.size)
  clear b12
  have hc13 := hd1 vx vy w12 rX rY
  go_wp2_with fail
  refine hc13.mono ?_
  rintro e w13 ⟨rq, rr, rfl, ⟨hQ, hR⟩, b13⟩
  clear hc13
  have rA := rA.below b13
  have rB := rB.below b13
  have rX := rX.below b13
  have rY := rY.below b13
  have hS := hS.below b13
  have hT := hT.below b13
  have hU := hU.below b13
  have hV := hV.below b13
  have hM := hM.below b13
  have hO := hO.below b13
  have bt : Below w0.heap.size w0 w13 := bt.trans (b13.mono bt.size)
  clear b13
  have hc14 := hd2 _ _ w13 rA rB
  go_wp2_with fail
  refine hc14.mono ?_
  rintro e w14 ⟨rw', rz, rfl, ⟨hW', hZ⟩, b14⟩
  clear hc14
  have rA := rA.below b14
  have rB := rB.below b14
  have rX := rX.below b14
  have rY := rY.below b14
  have hS := hS.below b14
  have hT := hT.below b14
  have hU := hU.below b14
  have hV := hV.below b14
  have hM := hM.below b14
  have hO := hO.below b14
  have hQ := hQ.below b14
  have hR := hR.below b14
  have bt : Below w0.heap.size w0 w14 := bt.trans (b14.mono bt.size)
  clear b14
  have hc15 := hp1 vx vy w14 rX rY
  go_wp2_with fail
  refine hc15.mono ?_
  rintro e w15 ⟨rbb, rfl, hBB, b15⟩
  clear hc15
  have rA := rA.below b15
  have rB := rB.below b15
  have rX := rX.below b15
  have rY := rY.below b15
  have hS := hS.below b15
  have hT := hT.below b15
  have hU := hU.below b15
  have hV := hV.below b15
  have hM := hM.below b15
  have hO := hO.below b15
  have hQ := hQ.below b15
  have hR := hR.below b15
  have hW' := hW'.below b15
  have hZ := hZ.below b15
  have bt : Below w0.heap.size w0 w15 := bt.trans (b15.mono bt.size)
  clear b15
  have hc16 := hp2 _ _ w15 rA rB
  go_wp2_with fail
  refine hc16.mono ?_
  rintro e w16 ⟨rdd, rfl, hDD, b16⟩
  clear hc16
  have rA := rA.below b16
  have rB := rB.below b16
  have rX := rX.below b16
  have rY := rY.below b16
  have hS := hS.below b16
  have hT := hT.below b16
  have hU := hU.below b16
  have hV := hV.below b16
  have hM := hM.below b16
  have hO := hO.below b16
  have hQ := hQ.below b16
  have hR := hR.below b16
  have hW' := hW'.below b16
  have hZ := hZ.below b16
  have hBB := hBB.below b16
  have bt : Below w0.heap.size w0 w16 := bt.trans (b16.mono bt.size)
  clear b16
  have hc17 := same_num rm ro _ w16 hM hO
  go_wp2_with fail
  refine hc17.mono ?_
  rintro e w17 ⟨rfl, b17⟩
  clear hc17
  have rA := rA.below b17
  have rB := rB.below b17
  have rX := rX.below b17
  have rY := rY.below b17
  have hS := hS.below b17
  have hT := hT.below b17
  have hU := hU.below b17
  have hV := hV.below b17
  have hM := hM.below b17
  have hO := hO.below b17
  have hQ := hQ.below b17
  have hR := hR.below b17
  have hW' := hW'.below b17
  have hZ := hZ.below b17
  have hBB := hBB.below b17
  have hDD := hDD.below b17
  have bt : Below w0.heap.size w0 w17 := bt.trans (b17.mono bt.size)
  clear b17
  have hc18 := same_num rq rw' _ w17 hQ hW'
  go_wp2_with fail
  refine hc18.mono ?_
  rintro e w18 ⟨rfl, b18⟩
  clear hc18
  have rA := rA.below b18
  have rB := rB.below b18
  have rX := rX.below b18
  have rY := rY.below b18
  have hS := hS.below b18
  have hT := hT.below b18
  have hU := hU.below b18
  have hV := hV.below b18
  have hM := hM.below b18
  have hO := hO.below b18
  have hQ := hQ.below b18
  have hR := hR.below b18
  have hW' := hW'.below b18
  have hZ := hZ.below b18
  have hBB := hBB.below b18
  have hDD := hDD.below b18
  have bt : Below w0.heap.size w0 w18 := bt.trans (b18.mono bt.size)
  clear b18
  have hc19 := same_num rr rz _ w18 hR hZ
  go_wp2_with fail
  refine hc19.mono ?_
  rintro e w19 ⟨rfl, b19⟩
  clear hc19
  have rA := rA.below b19
  have rB := rB.below b19
  have rX := rX.below b19
  have rY := rY.below b19
  have hS := hS.below b19
  have hT := hT.below b19
  have hU := hU.below b19
  have hV := hV.below b19
  have hM := hM.below b19
  have hO := hO.below b19
  have hQ := hQ.below b19
  have hR := hR.below b19
  have hW' := hW'.below b19
  have hZ := hZ.below b19
  have hBB := hBB.below b19
  have hDD := hDD.below b19
  have bt : Below w0.heap.size w0 w19 := bt.trans (b19.mono bt.size)
  clear b19
  have hc20 := same_num rbb rdd _ w19 hBB hDD
  go_wp2_with fail
  refine hc20.mono ?_
  rintro e w20 ⟨rfl, b20⟩
  clear hc20
  have rA := rA.below b20
  have rB := rB.below b20
  have rX := rX.below b20
  have rY := rY.below b20
  have hS := hS.below b20
  have hT := hT.below b20
  have hU := hU.below b20
  have hV := hV.below b20
  have hM := hM.below b20
  have hO := hO.below b20
  have hQ := hQ.below b20
  have hR := hR.below b20
  have hW' := hW'.below b20
  have hZ := hZ.below b20
  have hBB := hBB.below b20
  have hDD := hDD.below b20
  have bt : Below w0.heap.size w0 w20 := bt.trans (b20.mono bt.size)
  clear b20
  have hc21 := (same_any vx _ n0 f0 f0 w20 rX rA (fun _ _ => rfl)).mono fun e w' h => (⟨h.1, by obtain ⟨q, rfl⟩ := h.2; exact below_drewN (Below.refl _ _) q⟩ : e = _ ∧ Below w20.heap.size w20 w')
  go_wp2_with fail
  refine hc21.mono ?_
  rintro e w21 ⟨rfl, b21⟩
  clear hc21
  have rA := rA.below b21
  have rB := rB.below b21
  have rX := rX.below b21
  have rY := rY.below b21
  have hS := hS.below b21
  have hT := hT.below b21
  have hU := hU.below b21
  have hV := hV.below b21
  have hM := hM.below b21
  have hO := hO.below b21
  have hQ := hQ.below b21
  have hR := hR.below b21
  have hW' := hW'.below b21
  have hZ := hZ.below b21
  have hBB := hBB.below b21
  have hDD := hDD.below b21
  have bt : Below w0.heap.size w0 w21 := bt.trans (b21.mono bt.size)
  clear b21
  have hc22 := (same_any vy _ n1 f1 f1 w21 rY rB (fun _ _ => rfl)).mono fun e w' h => (⟨h.1, by obtain ⟨q, rfl⟩ := h.2; exact below_drewN (Below.refl _ _) q⟩ : e = _ ∧ Below w21.heap.size w21 w')
  go_wp2_with fail
  refine hc22.mono ?_
  rintro e w22 ⟨rfl, b22⟩
  clear hc22
  have rA := rA.below b22
  have rB := rB.below b22
  have rX := rX.below b22
  have rY := rY.below b22
  have hS := hS.below b22
  have hT := hT.below b22
  have hU := hU.below b22
  have hV := hV.below b22
  have hM := hM.below b22
  have hO := hO.below b22
  have hQ := hQ.below b22
  have hR := hR.below b22
  have hW' := hW'.below b22
  have hZ := hZ.below b22
  have hBB := hBB.below b22
  have hDD := hDD.below b22
  have bt : Below w0.heap.size w0 w22 := bt.trans (b22.mono bt.size)
  clear b22
  have hh := heads_any w22
  go_wp2_with fail
  refine hh.mono ?_
  rintro e w' ⟨rfl, bz⟩
  go_wp2
  go_ret
  exact ⟨rfl, bt.trans (bz.mono bt.size)⟩

set_option maxRecDepth 100000 in
set_option maxHeartbeats 800000 in
theorem reck_walk (va vb : Value) (nn : Int) (n0 n1 : Nat) (f0 f1 : Nat → Int) (w0 : World) (rA : Row w0 va n0 f0) (rB : Row w0 vb n1 f1) (h0 : n0 ≤ 35184372088832) (h1 : n1 ≤ 35184372088832) (n9 : nn < 9223372036854775808) :
    Calls Try.prog 3 #[va, vb, .int .i64 nn] w0 fun e w' => e = .returned (.bool true) ∧ Below w0.heap.size w0 w' := by
  have hh := heads_any w0
  obtain ⟨f0', rA', _, lo0, up0⟩ := rA.bounded
  obtain ⟨f1', rB', _, lo1, up1⟩ := rB.bounded
  by_cases g1 : (60 : Int) < (n0 : Int)
  · obtain ⟨a0, cap0, rfl, _⟩ := rA.shape
    obtain ⟨a1, cap1, rfl, _⟩ := rB.shape
    clear rA rB rA' rB'
    go_enter Try.func3, Try.ntmps3
    go_wp2_with fail
    refine hh.mono ?_
    rintro e w' ⟨rfl, bz⟩
    go_wp2
    go_ret
    exact ⟨rfl, bz⟩
  · by_cases g2 : (60 : Int) < (n1 : Int)
    · obtain ⟨a0, cap0, rfl, _⟩ := rA.shape
      obtain ⟨a1, cap1, rfl, _⟩ := rB.shape
      clear rA rB rA' rB'
      go_enter Try.func3, Try.ntmps3
      go_wp2_with fail
      refine hh.mono ?_
      rintro e w' ⟨rfl, bz⟩
      go_wp2
      go_ret
      exact ⟨rfl, bz⟩
    · exact reck_main va vb nn n0 n1 f0' f1' w0 rA' rB' lo0 up0 lo1 up1 (by omega) (by omega) n9

theorem reck_contract (H : Type) (enc : TypeId × Value → H) (W : World) (base : Nat) (args : Array Value) (ds gs : List (DataW H)) (before : List MemPlace)
    (hval : ∀ (j : Nat) t v, Try.f3.params[j]? = some t → args[j]? = some v → Value.okWide Try.prog W .any base t v)
    (hW : DataW.Whole enc Try.prog Try.f3.params.toList Rows.natReckonsSpec.vars false W args.toList ds gs before)
    (hsz : (DataW.weightsEach Try.prog (Try.f3.params.toList ++ (OpenSpec.ofChange Rows.natReckonsSpec).bare.plain.varTypes Try.prog) (ds ++ gs)).all (· ≤ reachBytes) = true) :
    Calls Try.prog 3 args W fun e W' => ∃ v, e = .returned v ∧ Rows.natReckonsSpec.post enc Try.prog Try.f3 false true false false W args v W' := by
  have hW' := hW
  obtain ⟨p, q, hA0, hV, rfl, hfz, hnd⟩ := hW
  have hA : DataW.TrodAll enc Try.prog W 0 (fun _ => true) true Try.f3.params.toList args.toList ds p := hA0
  rw [Try.params3] at hA hval hsz
  obtain ⟨v0, vs0, d0, ds0, p0, q0, hargs, rfl, rfl, h0, r0⟩ := trodAll_cons hA
  obtain ⟨v1, vs1, d1, ds1, p1, q1, rfl, rfl, rfl, h1, r1⟩ := trodAll_cons r0
  obtain ⟨v2, vs2, d2, ds2, p2, q2, rfl, rfl, rfl, h2, r2⟩ := trodAll_cons r1
  obtain ⟨rfl, rfl, rfl⟩ := trodAll_nil r2
  obtain rfl : args = #[v0, v1, v2] := by cases args; simp_all
  obtain ⟨rfl, rfl⟩ := trodVars_none hV
  obtain ⟨n0, f0, hR0, hd0⟩ := open_limbs (hval 0 22 v0 rfl rfl) h0
  have hn0 := reach_limbs hsz (j := 0) rfl rfl hd0
  have lt0 : ∀ x ∈ p0, x.block < W.heap.size := by obtain ⟨m, hm⟩ := h0; exact DataW.trod_lt m _ _ _ hm
  obtain ⟨n1, f1, hR1, hd1⟩ := open_limbs (hval 1 22 v1 rfl rfl) h1
  have hn1 := reach_limbs hsz (j := 1) rfl rfl hd1
  have lt1 : ∀ x ∈ p1, x.block < W.heap.size := by obtain ⟨m, hm⟩ := h1; exact DataW.trod_lt m _ _ _ hm
  obtain ⟨x2, rfl, rfl, rfl, wx2⟩ := open_int Try.underlying3 (hval 2 3 v2 rfl rfl) h2
  clear hA0
  refine (reck_walk v0 v1 x2 n0 n1 f0 f1 W hR0 hR1 (by omega) (by omega) (by have := bounds_i64 wx2; omega)).mono fun e W' ⟨he, bel⟩ => ?_
  subst he
  exact ⟨_, rfl, _, _, _, [], _, [], hW', trodAll_mk1 (shut_bool Try.underlying4 _), (trodAll_cons_mk (Below.trod laidOut (by kernel_rfl) (of_decide_eq_true (by kernel_rfl)) h0 bel lt0) (trodAll_cons_mk (Below.trod laidOut (by kernel_rfl) (of_decide_eq_true (by kernel_rfl)) h1 bel lt1) (trodAll_cons_mk (shut_int Try.underlying3 wx2) trodAll_mk0))), rfl, bel.frame _, fun h => by cases h⟩

theorem reck_laid_met (os : Os) : laidMet Try.prog Rows.natReckonsRow.laid ((World.holding Try.prog os ⟨#[], #[], []⟩).forCall (fun _ _ => 0) ⟨#[], #[.slice none 0 0, .slice none 0 0, .int .i64 0], []⟩).memory :=
  laidMet_of_run' 8 (by kernel_rfl) (by kernel_rfl)
theorem reck_reads (os : Os) {H : Type} (enc : TypeId × Value → H) : ∃ places, DataW.whole enc Try.prog ((World.holding Try.prog os ⟨#[], #[], []⟩).forCall (fun _ _ => 0) ⟨#[], #[.slice none 0 0, .slice none 0 0, .int .i64 0], []⟩).memory Try.f3.params.toList Rows.natReckonsSpec.vars false #[Value.slice none 0 0, Value.slice none 0 0, Value.int .i64 0].toList 8 = some ([.nil, .nil, .lit (.int .i64 0)], [], places) :=
  ⟨[], by kernel_rfl⟩

set_option maxRecDepth 100000 in
theorem reck_lifted (os : Os) (started : os.Started) (H : Type) (enc : TypeId × Value → H) (F : Stop.Interp) :
    ReturnsInHanded {} Try.checked os 3 .any ((OpenSpec.ofChange Rows.natReckonsSpec).preRow enc Try.prog Try.f3 Rows.natReckonsRow.domain false Rows.natReckonsRow.laid) (((OpenSpec.ofChange Rows.natReckonsSpec).at F).post enc Try.prog Try.f3 false true false false) := by
  obtain ⟨places, hx⟩ := reck_reads os enc
  refine returnsInHanded_of_row (C := Try.checked) (s := (OpenSpec.ofChange Rows.natReckonsSpec)) own started (by kernel_rfl) Try.func3
    (witness_row_at (enc := enc) (C := Try.checked) false _ #[.slice none 0 0, .slice none 0 0, .int .i64 0] rfl (by kernel_rfl) (by kernel_rfl) (by kernel_rfl)
      (OpenSpec.preRow_of_cond 8 hx (by kernel_rfl) (fun k hk => by cases hk) (by kernel_rfl) (reck_laid_met os))) ?_
  intro W base args ds gs before hval hW _ _ hsz _ _ _
  exact reck_contract H enc W base args ds gs before hval hW hsz

theorem reck_said : Rows.NatReckonsSaid :=
  OpenClaim.holds_of_cond 3 Try.f3 rfl rfl rfl rfl rfl rfl rfl ⟨rfl, rfl, rfl, rfl, rfl⟩ rfl rfl rfl rfl rfl (by kernel_rfl) Try.func3 (by kernel_rfl)
    (of_decide_eq_true (by kernel_rfl)) (by unfold Func.isWrapper; first | (rw [if_pos (by decide +kernel)]; kernel_rfl) | (rw [if_neg (by decide +kernel)]; exact ⟨rfl, rfl⟩))
    (fun os started H enc _ F => by rw [OpenClaim.pre_eq_preRow]; exact reck_lifted os started H enc F)
#print axioms reck_said
end Go.Proofs.Ytmhplblmabiekaa
