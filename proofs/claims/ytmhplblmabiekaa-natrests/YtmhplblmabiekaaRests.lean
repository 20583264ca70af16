/-
  NatRests answers true for every two rows of limbs, and leaves its arguments as they were. No condition.
-/
import Derived.Test.YtmhplblmabiekaaN2
import Derived.Test.YtmhplblmabiekaaRow
namespace Go.Proofs.Ytmhplblmabiekaa
open Go.ChangeShapes Go.WideShapes Go.ChangeAt Go.RowKit

set_option maxRecDepth 100000 in
set_option maxHeartbeats 2000000 in
theorem rests_main (va vb : Value) (A B : Int) (n0 n1 : Nat) (f0 f1 : Nat → Int) (w0 : World) (r0 : Row w0 va n0 f0) (r1 : Row w0 vb n1 f1) (c0 : Can n0 f0) (c1 : Can n1 f1)
    (e0 : val f0 n0 = A) (e1 : val f1 n1 = B) (hs : n0 + n1 ≤ 200) (h1 : 0 < n1) :
    Calls Try.prog 5 #[va, vb] w0 fun e w' => e = .returned (.bool true) ∧ Below w0.heap.size w0 w' := by
  have hA : Num w0 va A := ⟨n0, f0, r0, c0, e0⟩
  have hB : Num w0 vb B := ⟨n1, f1, r1, c1, e1⟩
  have lA : A < pw 200 := by rw [← e0]; exact lt_pw (val_lt c0.1) (by omega)
  have lB : B < pw 200 := by rw [← e1]; exact lt_pw (val_lt c1.1) (by omega)
  have pA := hA.nonneg
  have pB : 0 < B := by
    have k1 := can_ge c1 h1
    have k2 := pw_pos (n1 - 1)
    omega
  have k0 := check_num va A w0 hA
  have k1 := check_num vb B w0 hB
  have hz : ((n1 : Int) == 0) = false := beq_eq_false_iff_ne.2 (by omega)
  obtain ⟨a0, cap0, rfl, _⟩ := r0.shape
  obtain ⟨a1, cap1, rfl, _⟩ := r1.shape
  have bt : Below w0.heap.size w0 w0 := Below.refl _ _
  clear r0 r1 c0 c1 e0 e1
  go_enter Try.func5, Try.ntmps5
  go_wp2_with fail
  refine k0.mono ?_
  rintro e w' ⟨rfl, rfl⟩
  go_wp2_with fail
  refine k1.mono ?_
  rintro e w' ⟨rfl, rfl⟩
  clear k0 k1
  have hc1 := div_num _ _ _ _ w0 hA hB (lt_pw lA (by omega)) pB
  go_wp2_with fail
  refine hc1.mono ?_
  rintro e w1 ⟨rq, rr, rfl, ⟨Q, R, hQ, hR, eD, R0, R1⟩, b1⟩
  clear hc1
  have hA := hA.below b1
  have hB := hB.below b1
  have bt : Below w0.heap.size w0 w1 := bt.trans (b1.mono bt.size)
  clear b1
  have pQ := hQ.nonneg
  have lQ : Q < pw 200 := by
    have h1 : Q * 1 ≤ Q * B := Int.mul_le_mul_of_nonneg_left (by omega) pQ
    omega
  have lR : R < pw 200 := by omega
  have hc2 := mul_num _ _ _ _ w1 hQ hB (lt_pw lQ (by omega)) (lt_pw lB (by omega))
  go_wp2_with fail
  refine hc2.mono ?_
  rintro e w2 ⟨rm, rfl, hM, b2⟩
  clear hc2
  have hA := hA.below b2
  have hB := hB.below b2
  have hQ := hQ.below b2
  have hR := hR.below b2
  have bt : Below w0.heap.size w0 w2 := bt.trans (b2.mono bt.size)
  clear b2
  have hc3 := add_num _ _ _ _ w2 hM hR (lt_pw (mul_pw pQ lQ lB) (by omega)) (lt_pw lR (by omega))
  go_wp2_with fail
  refine hc3.mono ?_
  rintro e w3 ⟨rs, rfl, hS, b3⟩
  clear hc3
  have hA := hA.below b3
  have hB := hB.below b3
  have hQ := hQ.below b3
  have hR := hR.below b3
  have hM := hM.below b3
  have bt : Below w0.heap.size w0 w3 := bt.trans (b3.mono bt.size)
  clear b3
  have hcl : decide (cmpI R B < 0) = true := by rw [cmpI_lt]; exact decide_eq_true R1
  have hcc := compare_num _ _ _ _ w3 hR hB
  generalize cmpI R B = C at *
  have hc4 := hcc
  go_wp2_with fail
  refine hc4.mono ?_
  rintro e w4 ⟨rfl, b4⟩
  clear hc4
  have hA := hA.below b4
  have hB := hB.below b4
  have hQ := hQ.below b4
  have hR := hR.below b4
  have hM := hM.below b4
  have hS := hS.below b4
  have bt : Below w0.heap.size w0 w4 := bt.trans (b4.mono bt.size)
  clear b4
  clear hcc
  have hc5 := same_num _ _ _ w4 hS (by rw [← eD]; exact hA)
  go_wp2_with fail
  refine hc5.mono ?_
  rintro e w5 ⟨rfl, b5⟩
  clear hc5
  have hA := hA.below b5
  have hB := hB.below b5
  have hQ := hQ.below b5
  have hR := hR.below b5
  have hM := hM.below b5
  have hS := hS.below b5
  have bt : Below w0.heap.size w0 w5 := bt.trans (b5.mono bt.size)
  clear b5
  have hh := heads_any w5
  go_wp2_with fail
  refine hh.mono ?_
  rintro e w' ⟨rfl, bz⟩
  go_wp2
  go_ret
  exact ⟨rfl, bt.trans (bz.mono bt.size)⟩

set_option maxHeartbeats 800000 in
theorem rests_zero (va vb : Value) (n0 : Nat) (f0 f1 : Nat → Int) (w0 : World) (r0 : Row w0 va n0 f0) (r1 : Row w0 vb 0 f1) (c0 : Can n0 f0) (hs : n0 ≤ 200) :
    Calls Try.prog 5 #[va, vb] w0 fun e w' => e = .returned (.bool true) ∧ Below w0.heap.size w0 w' := by
  have c1 : Can 0 f1 := ⟨fun i hi => absurd hi (by omega), fun h => absurd h (by omega)⟩
  have k0 := check_ok va n0 f0 w0 r0 c0
  have k1 := check_ok vb 0 f1 w0 r1 c1
  have kz := div_zero va vb n0 f0 f1 w0 r0 r1 c0
  obtain ⟨a0, cap0, rfl, _⟩ := r0.shape
  obtain ⟨a1, cap1, rfl, _⟩ := r1.shape
  clear r0 r1 c0 c1
  go_enter Try.func5, Try.ntmps5
  go_wp2_with fail
  refine k0.mono ?_
  rintro e w' ⟨rfl, rfl⟩
  go_wp2_with fail
  refine k1.mono ?_
  rintro e w' ⟨rfl, rfl⟩
  go_wp2_with fail
  refine kz.mono ?_
  rintro e w1 ⟨rfl, b1⟩
  have hh := heads_any w1
  go_wp2_with fail
  refine hh.mono ?_
  rintro e w' ⟨rfl, bz⟩
  go_wp2
  go_ret
  exact ⟨rfl, b1.trans (bz.mono b1.size)⟩

set_option maxHeartbeats 800000 in
theorem rests_walk (va vb : Value) (n0 n1 : Nat) (f0 f1 : Nat → Int) (w0 : World) (r0 : Row w0 va n0 f0) (r1 : Row w0 vb n1 f1) (h0 : n0 ≤ 35184372088832) (h1 : n1 ≤ 35184372088832) :
    Calls Try.prog 5 #[va, vb] w0 fun e w' => e = .returned (.bool true) ∧ Below w0.heap.size w0 w' := by
  have hh := heads_any w0
  obtain ⟨a0, cap0, e0, _⟩ := r0.shape
  obtain ⟨a1, cap1, e1, _⟩ := r1.shape
  by_cases c0 : Can n0 f0
  · have k0 := check_ok va n0 f0 w0 r0 c0
    by_cases c1 : Can n1 f1
    · have k1 := check_ok vb n1 f1 w0 r1 c1
      by_cases hs : n0 + n1 ≤ 200
      · by_cases hz : 0 < n1
        · exact rests_main va vb _ _ n0 n1 f0 f1 w0 r0 r1 c0 c1 rfl rfl hs hz
        · have z : n1 = 0 := by omega
          subst z
          exact rests_zero va vb n0 f0 f1 w0 r0 r1 c0 (by omega)
      · have hI : (200 : Int) < (n0 : Int) + (n1 : Int) := by omega
        subst e0 e1
        clear r0 r1 c0 c1
        go_enter Try.func5, Try.ntmps5
        go_wp2_with fail
        refine k0.mono ?_
        rintro e w' ⟨rfl, rfl⟩
        go_wp2_with fail
        refine k1.mono ?_
        rintro e w' ⟨rfl, rfl⟩
        go_wp2_with fail
        refine hh.mono ?_
        rintro e w' ⟨rfl, bz⟩
        go_wp2
        go_ret
        exact ⟨rfl, bz⟩
    · have k1 := check_bad vb n1 f1 w0 r1 c1
      subst e0 e1
      clear r0 r1 c0 c1
      go_enter Try.func5, Try.ntmps5
      go_wp2_with fail
      refine k0.mono ?_
      rintro e w' ⟨rfl, rfl⟩
      go_wp2_with fail
      refine k1.mono ?_
      rintro e w' ⟨rfl, rfl⟩
      go_wp2_with fail
      refine hh.mono ?_
      rintro e w' ⟨rfl, bz⟩
      go_wp2
      go_ret
      exact ⟨rfl, bz⟩
  · have k0 := check_bad va n0 f0 w0 r0 c0
    subst e0 e1
    clear r0 r1 c0
    go_enter Try.func5, Try.ntmps5
    go_wp2_with fail
    refine k0.mono ?_
    rintro e w' ⟨rfl, rfl⟩
    go_wp2_with fail
    refine hh.mono ?_
    rintro e w' ⟨rfl, bz⟩
    go_wp2
    go_ret
    exact ⟨rfl, bz⟩

theorem rests_contract (H : Type) (enc : TypeId × Value → H) (W : World) (base : Nat) (args : Array Value) (ds gs : List (DataW H)) (before : List MemPlace)
    (hval : ∀ (j : Nat) t v, Try.f5.params[j]? = some t → args[j]? = some v → Value.okWide Try.prog W .any base t v)
    (hW : DataW.Whole enc Try.prog Try.f5.params.toList Rows.natRestsSpec.vars false W args.toList ds gs before)
    (hsz : (DataW.weightsEach Try.prog (Try.f5.params.toList ++ (OpenSpec.ofChange Rows.natRestsSpec).bare.plain.varTypes Try.prog) (ds ++ gs)).all (· ≤ reachBytes) = true) :
    Calls Try.prog 5 args W fun e W' => ∃ v, e = .returned v ∧ Rows.natRestsSpec.post enc Try.prog Try.f5 false true false false W args v W' := by
  have hW' := hW
  obtain ⟨p, q, hA0, hV, rfl, hfz, hnd⟩ := hW
  have hA : DataW.TrodAll enc Try.prog W 0 (fun _ => true) true Try.f5.params.toList args.toList ds p := hA0
  rw [Try.params5] at hA hval hsz
  obtain ⟨v0, vs0, d0, ds0, p0, q0, hargs, rfl, rfl, h0, r0⟩ := trodAll_cons hA
  obtain ⟨v1, vs1, d1, ds1, p1, q1, rfl, rfl, rfl, h1, r1⟩ := trodAll_cons r0
  obtain ⟨rfl, rfl, rfl⟩ := trodAll_nil r1
  obtain rfl : args = #[v0, v1] := by cases args; simp_all
  obtain ⟨rfl, rfl⟩ := trodVars_none hV
  obtain ⟨n0, f0, hR0, hd0⟩ := open_limbs (hval 0 22 v0 rfl rfl) h0
  have hn0 := reach_limbs hsz (j := 0) rfl rfl hd0
  have lt0 : ∀ x ∈ p0, x.block < W.heap.size := by obtain ⟨m, hm⟩ := h0; exact DataW.trod_lt m _ _ _ hm
  obtain ⟨n1, f1, hR1, hd1⟩ := open_limbs (hval 1 22 v1 rfl rfl) h1
  have hn1 := reach_limbs hsz (j := 1) rfl rfl hd1
  have lt1 : ∀ x ∈ p1, x.block < W.heap.size := by obtain ⟨m, hm⟩ := h1; exact DataW.trod_lt m _ _ _ hm
  clear hA0
  refine (rests_walk v0 v1 n0 n1 f0 f1 W hR0 hR1 (by omega) (by omega)).mono fun e W' ⟨he, bel⟩ => ?_
  subst he
  exact ⟨_, rfl, _, _, _, [], _, [], hW', trodAll_mk1 (shut_bool Try.underlying4 _), (trodAll_cons_mk (Below.trod laidOut (by kernel_rfl) (of_decide_eq_true (by kernel_rfl)) h0 bel lt0) (trodAll_cons_mk (Below.trod laidOut (by kernel_rfl) (of_decide_eq_true (by kernel_rfl)) h1 bel lt1) trodAll_mk0)), rfl, bel.frame _, fun h => by cases h⟩

theorem rests_laid_met (os : Os) : laidMet Try.prog Rows.natRestsRow.laid ((World.holding Try.prog os ⟨#[], #[], []⟩).forCall (fun _ _ => 0) ⟨#[], #[.slice none 0 0, .slice none 0 0], []⟩).memory :=
  laidMet_of_run' 8 (by kernel_rfl) (by kernel_rfl)
theorem rests_reads (os : Os) {H : Type} (enc : TypeId × Value → H) : ∃ places, DataW.whole enc Try.prog ((World.holding Try.prog os ⟨#[], #[], []⟩).forCall (fun _ _ => 0) ⟨#[], #[.slice none 0 0, .slice none 0 0], []⟩).memory Try.f5.params.toList Rows.natRestsSpec.vars false #[Value.slice none 0 0, Value.slice none 0 0].toList 8 = some ([.nil, .nil], [], places) :=
  ⟨[], by kernel_rfl⟩

set_option maxRecDepth 100000 in
theorem rests_lifted (os : Os) (started : os.Started) (H : Type) (enc : TypeId × Value → H) (F : Stop.Interp) :
    ReturnsInHanded {} Try.checked os 5 .any ((OpenSpec.ofChange Rows.natRestsSpec).preRow enc Try.prog Try.f5 Rows.natRestsRow.domain false Rows.natRestsRow.laid) (((OpenSpec.ofChange Rows.natRestsSpec).at F).post enc Try.prog Try.f5 false true false false) := by
  obtain ⟨places, hx⟩ := rests_reads os enc
  refine returnsInHanded_of_row (C := Try.checked) (s := (OpenSpec.ofChange Rows.natRestsSpec)) own started (by kernel_rfl) Try.func5
    (witness_row_at (enc := enc) (C := Try.checked) false _ #[.slice none 0 0, .slice none 0 0] rfl (by kernel_rfl) (by kernel_rfl) (by kernel_rfl)
      (OpenSpec.preRow_of_cond 8 hx (by kernel_rfl) (fun k hk => by cases hk) (by kernel_rfl) (rests_laid_met os))) ?_
  intro W base args ds gs before hval hW _ _ hsz _ _ _
  exact rests_contract H enc W base args ds gs before hval hW hsz

theorem rests_said : Rows.NatRestsSaid :=
  OpenClaim.holds_of_cond 5 Try.f5 rfl rfl rfl rfl rfl rfl rfl ⟨rfl, rfl, rfl, rfl, rfl⟩ rfl rfl rfl rfl rfl (by kernel_rfl) Try.func5 (by kernel_rfl)
    (of_decide_eq_true (by kernel_rfl)) (by unfold Func.isWrapper; first | (rw [if_pos (by decide +kernel)]; kernel_rfl) | (rw [if_neg (by decide +kernel)]; exact ⟨rfl, rfl⟩))
    (fun os started H enc _ F => by rw [OpenClaim.pre_eq_preRow]; exact rests_lifted os started H enc F)
#print axioms rests_said
end Go.Proofs.Ytmhplblmabiekaa
