/-
  NatPowers answers true for every two rows of limbs and two numbers, and leaves its arguments as they were. No condition.
-/
import Derived.Test.YtmhplblmabiekaaP1
import Derived.Test.YtmhplblmabiekaaRow
namespace Go.Proofs.Ytmhplblmabiekaa
open Go.ChangeShapes Go.WideShapes Go.ChangeAt Go.RowKit

set_option maxRecDepth 100000 in
set_option maxHeartbeats 2000000 in
theorem powers_main (va vb : Value) (A B m n : Int) (n0 n1 : Nat) (f0 f1 : Nat → Int) (w0 : World) (r0 : Row w0 va n0 f0) (r1 : Row w0 vb n1 f1) (c0 : Can n0 f0) (c1 : Can n1 f1)
    (e0 : val f0 n0 = A) (e1 : val f1 n1 = B) (h0 : n0 ≤ 20) (h1 : n1 ≤ 20) (hp : 0 < n1) (m0 : 0 ≤ m) (m1 : m ≤ 1000) (k0 : 0 ≤ n) (k1 : n ≤ 1000) :
    Calls Try.prog 6 #[va, .int .i64 m, .int .i64 n, vb] w0 fun e w' => e = .returned (.bool true) ∧ Below w0.heap.size w0 w' := by
  have hA : Num w0 va A := ⟨n0, f0, r0, c0, e0⟩
  have hB : Num w0 vb B := ⟨n1, f1, r1, c1, e1⟩
  have lA : A < pw 20 := by rw [← e0]; exact lt_pw (val_lt c0.1) (by omega)
  have lB : B < pw 20 := by rw [← e1]; exact lt_pw (val_lt c1.1) (by omega)
  have pA := hA.nonneg
  have pB : 0 < B := by
    have k1 := can_ge c1 hp
    have k2 := pw_pos (n1 - 1)
    omega
  have ka := check_num va A w0 hA
  have kb := check_num vb B w0 hB
  have hz : ((n1 : Int) == 0) = false := beq_eq_false_iff_ne.2 (by omega)
  have pX : 0 ≤ A ^ m.toNat % B := Int.emod_nonneg _ (by omega)
  have lX : A ^ m.toNat % B < pw 20 := by have := Int.emod_lt_of_pos (A ^ m.toNat) pB; omega
  have lY : A ^ n.toNat % B < pw 20 := by have := Int.emod_lt_of_pos (A ^ n.toNat) pB; omega
  have eXY : (A ^ m.toNat % B) * (A ^ n.toNat % B) % B = A ^ (m + n).toNat % B := by rw [← Int.mul_emod, ← Int.pow_add, show m.toNat + n.toNat = (m + n).toNat by omega]
  have g1 : ¬ (20 : Int) < (n0 : Int) := by omega
  have g2 : ¬ (20 : Int) < (n1 : Int) := by omega
  obtain ⟨a0, cap0, rfl, _⟩ := r0.shape
  obtain ⟨a1, cap1, rfl, _⟩ := r1.shape
  have bt : Below w0.heap.size w0 w0 := Below.refl _ _
  clear r0 r1 c0 c1 e0 e1
  go_enter Try.func6, Try.ntmps6
  go_wp2_with fail
  refine ka.mono ?_
  rintro e w' ⟨rfl, rfl⟩
  go_wp2_with fail
  refine kb.mono ?_
  rintro e w' ⟨rfl, rfl⟩
  clear ka kb
  have hc1 := power_num _ _ A B m w0 hA hB (lt_pw lA (by omega)) pB (lt_pw lB (by omega)) (by omega) (by omega)
  go_wp2_with fail
  refine hc1.mono ?_
  rintro e w1 ⟨rx, rfl, hX, b1⟩
  clear hc1
  have hA := hA.below b1
  have hB := hB.below b1
  have bt : Below w0.heap.size w0 w1 := bt.trans (b1.mono bt.size)
  clear b1
  have hc2 := power_num _ _ A B n w1 hA hB (lt_pw lA (by omega)) pB (lt_pw lB (by omega)) (by omega) (by omega)
  go_wp2_with fail
  refine hc2.mono ?_
  rintro e w2 ⟨ry, rfl, hY, b2⟩
  clear hc2
  have hA := hA.below b2
  have hB := hB.below b2
  have hX := hX.below b2
  have bt : Below w0.heap.size w0 w2 := bt.trans (b2.mono bt.size)
  clear b2
  have hc3 := power_num _ _ A B (m + n) w2 hA hB (lt_pw lA (by omega)) pB (lt_pw lB (by omega)) (by omega) (by omega)
  go_wp2_with fail
  refine hc3.mono ?_
  rintro e w3 ⟨rz, rfl, hZ, b3⟩
  clear hc3
  have hA := hA.below b3
  have hB := hB.below b3
  have hX := hX.below b3
  have hY := hY.below b3
  have bt : Below w0.heap.size w0 w3 := bt.trans (b3.mono bt.size)
  clear b3
  have hc4 := mul_num _ _ _ _ w3 hX hY (lt_pw lX (by omega)) (lt_pw lY (by omega))
  go_wp2_with fail
  refine hc4.mono ?_
  rintro e w4 ⟨rp, rfl, hP, b4⟩
  clear hc4
  have hA := hA.below b4
  have hB := hB.below b4
  have hX := hX.below b4
  have hY := hY.below b4
  have hZ := hZ.below b4
  have bt : Below w0.heap.size w0 w4 := bt.trans (b4.mono bt.size)
  clear b4
  have hc5 := div_num _ _ _ _ w4 hP hB (lt_pw (mul_pw pX lX lY) (by omega)) pB
  go_wp2_with fail
  refine hc5.mono ?_
  rintro e w5 ⟨rq, rr, rfl, ⟨Q, R, hQ, hR, eD, R0, R1⟩, b5⟩
  clear hc5
  have hA := hA.below b5
  have hB := hB.below b5
  have hX := hX.below b5
  have hY := hY.below b5
  have hZ := hZ.below b5
  have hP := hP.below b5
  have bt : Below w0.heap.size w0 w5 := bt.trans (b5.mono bt.size)
  clear b5
  rw [(divides_eq eD R0 R1).2, eXY] at hR
  have hc6 := same_num _ _ _ w5 hR hZ
  go_wp2_with fail
  refine hc6.mono ?_
  rintro e w6 ⟨rfl, b6⟩
  clear hc6
  have hA := hA.below b6
  have hB := hB.below b6
  have hX := hX.below b6
  have hY := hY.below b6
  have hZ := hZ.below b6
  have hP := hP.below b6
  have hQ := hQ.below b6
  have hR := hR.below b6
  have bt : Below w0.heap.size w0 w6 := bt.trans (b6.mono bt.size)
  clear b6
  have hh := heads_any w6
  go_wp2_with fail
  refine hh.mono ?_
  rintro e w' ⟨rfl, bz⟩
  go_wp2
  go_ret
  exact ⟨rfl, bt.trans (bz.mono bt.size)⟩

set_option maxRecDepth 100000 in
set_option maxHeartbeats 2000000 in
theorem powers_walk (va vb : Value) (m n : Int) (n0 n1 : Nat) (f0 f1 : Nat → Int) (w0 : World) (r0 : Row w0 va n0 f0) (r1 : Row w0 vb n1 f1) (h0 : n0 ≤ 35184372088832) (h1 : n1 ≤ 35184372088832) :
    Calls Try.prog 6 #[va, .int .i64 m, .int .i64 n, vb] w0 fun e w' => e = .returned (.bool true) ∧ Below w0.heap.size w0 w' := by
  have hh := heads_any w0
  obtain ⟨a0, cap0, e0, _⟩ := r0.shape
  obtain ⟨a1, cap1, e1, _⟩ := r1.shape
  by_cases c0 : Can n0 f0
  · have k0 := check_ok va n0 f0 w0 r0 c0
    by_cases c1 : Can n1 f1
    · have k1 := check_ok vb n1 f1 w0 r1 c1
      by_cases hz : n1 = 0
      · subst hz
        clear c0 c1
        subst e0 e1
        clear r0 r1
        go_enter Try.func6, Try.ntmps6
        go_wp2_with fail
        refine k0.mono ?_
        rintro e w' ⟨rfl, rfl⟩
        go_wp2_with fail
        refine k1.mono ?_
        rintro e w' ⟨rfl, rfl⟩
        go_wp2_with fail
        refine hh.mono ?_
        rintro e w' ⟨rfl, bz⟩
        go_wp2
        go_ret
        exact ⟨rfl, bz⟩
      · have hzb : ((n1 : Int) == 0) = false := beq_eq_false_iff_ne.2 (by omega)
        by_cases g1 : (20 : Int) < (n0 : Int)
        · clear c0 c1
          subst e0 e1
          clear r0 r1
          go_enter Try.func6, Try.ntmps6
          go_wp2_with fail
          refine k0.mono ?_
          rintro e w' ⟨rfl, rfl⟩
          go_wp2_with fail
          refine k1.mono ?_
          rintro e w' ⟨rfl, rfl⟩
          go_wp2_with fail
          refine hh.mono ?_
          rintro e w' ⟨rfl, bz⟩
          go_wp2
          go_ret
          exact ⟨rfl, bz⟩
        · by_cases g2 : (20 : Int) < (n1 : Int)
          · clear c0 c1
            subst e0 e1
            clear r0 r1
            go_enter Try.func6, Try.ntmps6
            go_wp2_with fail
            refine k0.mono ?_
            rintro e w' ⟨rfl, rfl⟩
            go_wp2_with fail
            refine k1.mono ?_
            rintro e w' ⟨rfl, rfl⟩
            go_wp2_with fail
            refine hh.mono ?_
            rintro e w' ⟨rfl, bz⟩
            go_wp2
            go_ret
            exact ⟨rfl, bz⟩
          · by_cases g3 : m < 0
            · clear c0 c1
              subst e0 e1
              clear r0 r1
              go_enter Try.func6, Try.ntmps6
              go_wp2_with fail
              refine k0.mono ?_
              rintro e w' ⟨rfl, rfl⟩
              go_wp2_with fail
              refine k1.mono ?_
              rintro e w' ⟨rfl, rfl⟩
              go_wp2_with fail
              refine hh.mono ?_
              rintro e w' ⟨rfl, bz⟩
              go_wp2
              go_ret
              exact ⟨rfl, bz⟩
            · by_cases g4 : n < 0
              · clear c0 c1
                subst e0 e1
                clear r0 r1
                go_enter Try.func6, Try.ntmps6
                go_wp2_with fail
                refine k0.mono ?_
                rintro e w' ⟨rfl, rfl⟩
                go_wp2_with fail
                refine k1.mono ?_
                rintro e w' ⟨rfl, rfl⟩
                go_wp2_with fail
                refine hh.mono ?_
                rintro e w' ⟨rfl, bz⟩
                go_wp2
                go_ret
                exact ⟨rfl, bz⟩
              · by_cases g5 : 1000 < m
                · clear c0 c1
                  subst e0 e1
                  clear r0 r1
                  go_enter Try.func6, Try.ntmps6
                  go_wp2_with fail
                  refine k0.mono ?_
                  rintro e w' ⟨rfl, rfl⟩
                  go_wp2_with fail
                  refine k1.mono ?_
                  rintro e w' ⟨rfl, rfl⟩
                  go_wp2_with fail
                  refine hh.mono ?_
                  rintro e w' ⟨rfl, bz⟩
                  go_wp2
                  go_ret
                  exact ⟨rfl, bz⟩
                · by_cases g6 : 1000 < n
                  · clear c0 c1
                    subst e0 e1
                    clear r0 r1
                    go_enter Try.func6, Try.ntmps6
                    go_wp2_with fail
                    refine k0.mono ?_
                    rintro e w' ⟨rfl, rfl⟩
                    go_wp2_with fail
                    refine k1.mono ?_
                    rintro e w' ⟨rfl, rfl⟩
                    go_wp2_with fail
                    refine hh.mono ?_
                    rintro e w' ⟨rfl, bz⟩
                    go_wp2
                    go_ret
                    exact ⟨rfl, bz⟩
                  · exact powers_main va vb _ _ m n n0 n1 f0 f1 w0 r0 r1 c0 c1 rfl rfl (by omega) (by omega) (by omega) (by omega) (by omega) (by omega) (by omega)
    · have k1 := check_bad vb n1 f1 w0 r1 c1
      clear c0 c1
      subst e0 e1
      clear r0 r1
      go_enter Try.func6, Try.ntmps6
      go_wp2_with fail
      refine k0.mono ?_
      rintro e w' ⟨rfl, rfl⟩
      go_wp2_with fail
      refine k1.mono ?_
      rintro e w' ⟨rfl, rfl⟩
      go_wp2_with fail
      refine hh.mono ?_
      rintro e w' ⟨rfl, bz⟩
      go_wp2
      go_ret
      exact ⟨rfl, bz⟩
  · have k0 := check_bad va n0 f0 w0 r0 c0
    clear c0
    subst e0 e1
    clear r0 r1
    go_enter Try.func6, Try.ntmps6
    go_wp2_with fail
    refine k0.mono ?_
    rintro e w' ⟨rfl, rfl⟩
    go_wp2_with fail
    refine hh.mono ?_
    rintro e w' ⟨rfl, bz⟩
    go_wp2
    go_ret
    exact ⟨rfl, bz⟩

theorem powers_contract (H : Type) (enc : TypeId × Value → H) (W : World) (base : Nat) (args : Array Value) (ds gs : List (DataW H)) (before : List MemPlace)
    (hval : ∀ (j : Nat) t v, Try.f6.params[j]? = some t → args[j]? = some v → Value.okWide Try.prog W .any base t v)
    (hW : DataW.Whole enc Try.prog Try.f6.params.toList Rows.natPowersSpec.vars false W args.toList ds gs before)
    (hsz : (DataW.weightsEach Try.prog (Try.f6.params.toList ++ (OpenSpec.ofChange Rows.natPowersSpec).bare.plain.varTypes Try.prog) (ds ++ gs)).all (· ≤ reachBytes) = true) :
    Calls Try.prog 6 args W fun e W' => ∃ v, e = .returned v ∧ Rows.natPowersSpec.post enc Try.prog Try.f6 false true false false W args v W' := by
  have hW' := hW
  obtain ⟨p, q, hA0, hV, rfl, hfz, hnd⟩ := hW
  have hA : DataW.TrodAll enc Try.prog W 0 (fun _ => true) true Try.f6.params.toList args.toList ds p := hA0
  rw [Try.params6] at hA hval hsz
  obtain ⟨v0, vs0, d0, ds0, p0, q0, hargs, rfl, rfl, h0, r0⟩ := trodAll_cons hA
  obtain ⟨v1, vs1, d1, ds1, p1, q1, rfl, rfl, rfl, h1, r1⟩ := trodAll_cons r0
  obtain ⟨v2, vs2, d2, ds2, p2, q2, rfl, rfl, rfl, h2, r2⟩ := trodAll_cons r1
  obtain ⟨v3, vs3, d3, ds3, p3, q3, rfl, rfl, rfl, h3, r3⟩ := trodAll_cons r2
  obtain ⟨rfl, rfl, rfl⟩ := trodAll_nil r3
  obtain rfl : args = #[v0, v1, v2, v3] := by cases args; simp_all
  obtain ⟨rfl, rfl⟩ := trodVars_none hV
  obtain ⟨n0, f0, hR0, hd0⟩ := open_limbs (hval 0 22 v0 rfl rfl) h0
  have hn0 := reach_limbs hsz (j := 0) rfl rfl hd0
  have lt0 : ∀ x ∈ p0, x.block < W.heap.size := by obtain ⟨m, hm⟩ := h0; exact DataW.trod_lt m _ _ _ hm
  obtain ⟨x1, rfl, rfl, rfl, wx1⟩ := open_int Try.underlying3 (hval 1 3 v1 rfl rfl) h1
  obtain ⟨x2, rfl, rfl, rfl, wx2⟩ := open_int Try.underlying3 (hval 2 3 v2 rfl rfl) h2
  obtain ⟨n3, f3, hR3, hd3⟩ := open_limbs (hval 3 22 v3 rfl rfl) h3
  have hn3 := reach_limbs hsz (j := 3) rfl rfl hd3
  have lt3 : ∀ x ∈ p3, x.block < W.heap.size := by obtain ⟨m, hm⟩ := h3; exact DataW.trod_lt m _ _ _ hm
  clear hA0
  refine (powers_walk v0 v3 x1 x2 n0 n3 f0 f3 W hR0 hR3 (by omega) (by omega)).mono fun e W' ⟨he, bel⟩ => ?_
  subst he
  exact ⟨_, rfl, _, _, _, [], _, [], hW', trodAll_mk1 (shut_bool Try.underlying4 _), (trodAll_cons_mk (Below.trod laidOut (by kernel_rfl) (of_decide_eq_true (by kernel_rfl)) h0 bel lt0) (trodAll_cons_mk (shut_int Try.underlying3 wx1) (trodAll_cons_mk (shut_int Try.underlying3 wx2) (trodAll_cons_mk (Below.trod laidOut (by kernel_rfl) (of_decide_eq_true (by kernel_rfl)) h3 bel lt3) trodAll_mk0)))), rfl, bel.frame _, fun h => by cases h⟩

theorem powers_laid_met (os : Os) : laidMet Try.prog Rows.natPowersRow.laid ((World.holding Try.prog os ⟨#[], #[], []⟩).forCall (fun _ _ => 0) ⟨#[], #[.slice none 0 0, .int .i64 0, .int .i64 0, .slice none 0 0], []⟩).memory :=
  laidMet_of_run' 8 (by kernel_rfl) (by kernel_rfl)
theorem powers_reads (os : Os) {H : Type} (enc : TypeId × Value → H) : ∃ places, DataW.whole enc Try.prog ((World.holding Try.prog os ⟨#[], #[], []⟩).forCall (fun _ _ => 0) ⟨#[], #[.slice none 0 0, .int .i64 0, .int .i64 0, .slice none 0 0], []⟩).memory Try.f6.params.toList Rows.natPowersSpec.vars false #[Value.slice none 0 0, Value.int .i64 0, Value.int .i64 0, Value.slice none 0 0].toList 8 = some ([.nil, .lit (.int .i64 0), .lit (.int .i64 0), .nil], [], places) :=
  ⟨[], by kernel_rfl⟩

set_option maxRecDepth 100000 in
theorem powers_lifted (os : Os) (started : os.Started) (H : Type) (enc : TypeId × Value → H) (F : Stop.Interp) :
    ReturnsInHanded {} Try.checked os 6 .any ((OpenSpec.ofChange Rows.natPowersSpec).preRow enc Try.prog Try.f6 Rows.natPowersRow.domain false Rows.natPowersRow.laid) (((OpenSpec.ofChange Rows.natPowersSpec).at F).post enc Try.prog Try.f6 false true false false) := by
  obtain ⟨places, hx⟩ := powers_reads os enc
  refine returnsInHanded_of_row (C := Try.checked) (s := (OpenSpec.ofChange Rows.natPowersSpec)) own started (by kernel_rfl) Try.func6
    (witness_row_at (enc := enc) (C := Try.checked) false _ #[.slice none 0 0, .int .i64 0, .int .i64 0, .slice none 0 0] rfl (by kernel_rfl) (by kernel_rfl) (by kernel_rfl)
      (OpenSpec.preRow_of_cond 8 hx (by kernel_rfl) (fun k hk => by cases hk) (by kernel_rfl) (powers_laid_met os))) ?_
  intro W base args ds gs before hval hW _ _ hsz _ _ _
  exact powers_contract H enc W base args ds gs before hval hW hsz

theorem powers_said : Rows.NatPowersSaid :=
  OpenClaim.holds_of_cond 6 Try.f6 rfl rfl rfl rfl rfl rfl rfl ⟨rfl, rfl, rfl, rfl, rfl⟩ rfl rfl rfl rfl rfl (by kernel_rfl) Try.func6 (by kernel_rfl)
    (of_decide_eq_true (by kernel_rfl)) (by unfold Func.isWrapper; first | (rw [if_pos (by decide +kernel)]; kernel_rfl) | (rw [if_neg (by decide +kernel)]; exact ⟨rfl, rfl⟩))
    (fun os started H enc _ F => by rw [OpenClaim.pre_eq_preRow]; exact powers_lifted os started H enc F)
#print axioms powers_said
end Go.Proofs.Ytmhplblmabiekaa
