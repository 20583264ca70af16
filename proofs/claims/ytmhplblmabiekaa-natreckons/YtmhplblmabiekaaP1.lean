/-
  What nat.restOf, bits.Len and nat.Power answer. Conditions: the numbers have at most 400 limbs.
-/
import Derived.Test.YtmhplblmabiekaaN2
import Derived.Lib.QuoteBits
namespace Go.Proofs.Ytmhplblmabiekaa
open Go.RowKit

theorem i64_and1 (x : Int) (h0 : 0 ≤ x) (h : x < 9223372036854775808) : bits .and .i64 x 1 = x % 2 := by
  obtain ⟨a, rfl⟩ := Int.eq_ofNat_of_zero_le h0
  show IntKind.i64.wrap ((BitVec.ofInt 64 (a : Int) &&& BitVec.ofInt 64 ((1 : Nat) : Int)).toNat : Int) = _
  have e1 : (BitVec.ofInt 64 (a : Int)).toNat = a := by simp; omega
  have e2 : (BitVec.ofInt 64 ((1 : Nat) : Int)).toNat = 1 := by decide
  rw [BitVec.toNat_and, e1, e2, Nat.and_one_is_mod]
  simp [IntKind.wrap, IntKind.signed, IntKind.bits]
  omega

set_option maxHeartbeats 400000 in
theorem rest_num (v0 v1 : Value) (A B : Int) (w : World) (h0 : Num w v0 A) (h1 : Num w v1 B) (hA : A < pw 1000) (hB : 0 < B) :
    Calls Try.prog 36 #[v0, v1] w fun e w' => ∃ r, e = .returned r ∧ Num w' r (A % B) ∧ Below w.heap.size w w' := by
  have hd := divided_num v0 v1 A B w h0 h1 hA hB
  go_enter Try.func36, Try.ntmps36
  go_wp2_with fail
  refine hd.mono ?_
  rintro e w' ⟨rq, rr, rfl, ⟨Q, R, hQ, hR, eD, R0, R1⟩, hb⟩
  rw [(divides_eq eD R0 R1).2] at hR
  clear hd hQ eD R0 R1
  go_wp2
  go_ret
  exact ⟨_, rfl, hR, hb⟩

set_option maxHeartbeats 400000 in
theorem len_any (x : Int) (w : World) (h0 : 0 ≤ x) (h1 : x ≤ 18446744073709551615) :
    Calls Try.prog 37 #[.int .u64 x] w fun e w' => e = .returned (.int .i64 (Lib.bitLen x.toNat)) ∧ w = w' := by
  have hl := len64_any x w h0 h1
  generalize (Lib.bitLen x.toNat : Int) = L at *
  go_enter Try.func37, Try.ntmps37
  go_wp2_with (go_at_call 49; refine hl.mono ?_; rintro e w' ⟨rfl, rfl⟩)
  go_ret
  exact ⟨rfl, rfl⟩
theorem product_num (v0 v1 : Value) (A B : Int) (w : World) (h0 : Num w v0 A) (h1 : Num w v1 B) (hA : A < pw 1000) (hB : B < pw 1000) :
    Calls Try.prog 32 #[v0, v1] w fun e w' => ∃ r, e = .returned r ∧ Num w' r (A * B) ∧ Below w.heap.size w w' := by
  obtain ⟨n, f, r0, c0, e0⟩ := h0
  obtain ⟨m, g, r1, c1, e1⟩ := h1
  have := can_le c0 (k := 1000) (by rw [e0]; exact hA)
  have := can_le c1 (k := 1000) (by rw [e1]; exact hB)
  have := product_any v0 v1 n m f g w r0 r1 c0.1 c1.1 (by omega) (by omega)
  rw [e0, e1] at this
  exact this
theorem one_pw : (1 : Int) < pw 1000 := by
  have h1 := pw_mono (show 1 ≤ 1000 by omega)
  have h2 : pw 1 = 1000000000 := by decide
  omega
theorem pow_even (A M : Int) (k : Nat) : (A ^ k % M) * (A ^ k % M) % M = A ^ (2 * k) % M := by
  rw [← Int.mul_emod, ← Int.pow_add, show k + k = 2 * k by omega]
theorem pow_odd (A M : Int) (k : Nat) : (A ^ (2 * k) % M) * (A % M) % M = A ^ (2 * k + 1) % M := by
  rw [← Int.mul_emod, ← Int.pow_succ]

set_option maxRecDepth 100000 in
set_option maxHeartbeats 1600000 in
theorem power_num (v0 v1 : Value) (A M : Int) (n : Int) (w : World) (h0 : Num w v0 A) (h1 : Num w v1 M) (hA : A < pw 400) (hM0 : 0 < M) (hM : M < pw 400) (n0 : 0 ≤ n) (n1 : n < 9223372036854775808) :
    Calls Try.prog 20 #[v0, .int .i64 n, v1] w fun e w' => ∃ r, e = .returned (.tuple #[r, .int .i64 0]) ∧ Num w' r (A ^ n.toNat % M) ∧ Below w.heap.size w w' := by
  obtain ⟨L, hL⟩ : ∃ L, Lib.bitLen n.toNat = L := ⟨_, rfl⟩
  obtain ⟨ba, _, bc⟩ := bits_aux 64 n.toNat (by omega)
  have bl : Lib.bitLenAux 64 n.toNat = L := hL
  rw [bl] at ba bc
  have hlen := fun w => len_any n w n0 (by omega)
  rw [hL] at hlen
  obtain ⟨kn, kf, kr0, kc0, ke0⟩ := h0
  obtain ⟨km, kg, kr1, kc1, ke1⟩ := h1
  have hk := (checked_new v0 v1 kn km kf kg w kr0 kr1).1 kc0 kc1
  have hmz : ((km : Int) == 0) = false := beq_eq_false_iff_ne.2 (by have := num_pos_len kc1 hM0 ke1; omega)
  have bA : A < pw 1000 := lt_pw hA (by omega)
  have HA : Num w v0 A := ⟨kn, kf, kr0, kc0, ke0⟩
  have HM : Num w v1 M := ⟨km, kg, kr1, kc1, ke1⟩
  obtain ⟨a, cap, rfl, _⟩ := kr0.shape
  obtain ⟨a', cap', rfl, _⟩ := kr1.shape
  clear kr0 kr1 kc0 kc1 ke0 ke1 hL bl
  have b0 : Below w.heap.size w (w.alloc (.cells #[.slice a kn cap, .slice a' km cap'] 22)) := one_below w _
  have HM0 := HM.below b0
  have hr1 := rest_num _ _ A M _ (HA.below b0) HM0 bA hM0
  have N0 : ¬ n < 0 := by omega
  go_enter Try.func20, Try.ntmps20
  go_wp2_with fail
  refine hk.mono ?_
  rintro e w' ⟨rfl, rfl⟩
  clear hk
  go_wp2_with fail
  refine hr1.mono ?_
  rintro e w1 ⟨rf, rfl, hF, b1⟩
  clear hr1
  have bt : Below w.heap.size w w1 := b0.trans (b1.mono b0.size)
  have HM1 := HM0.below b1
  have o1 := one_below w1 (.cells #[.int .u32 1] 46)
  have hr2 := rest_num _ _ 1 M _ (num_lit1 w1 1 (by omega) (by omega)) (HM1.below o1) one_pw hM0
  have hF2 := hF.below o1
  have bt2 : Below w.heap.size w (w1.alloc (.cells #[.int .u32 1] 46)) := bt.trans (o1.mono bt.size)
  have HM2 := HM1.below o1
  clear b0 HM0 b1 hF bt HM1 o1
  go_wp2_with fail
  refine hr2.mono ?_
  rintro e w2 ⟨rp, rfl, hP, b2⟩
  clear hr2
  have hF3 := hF2.below b2
  have HM3 := HM2.below b2
  have bt3 : Below w.heap.size w w2 := bt2.trans (b2.mono bt2.size)
  have HS : Hid (∃ P, P = A ^ (n.toNat / 2 ^ L) % M ∧ Num w2 rp P) := ⟨_, rfl, by rw [Nat.div_eq_of_lt ba, Int.pow_zero]; exact hP⟩
  have HF3 : Hid (Num w2 rf (A % M)) := hF3
  have HMM : Hid (Num w (.slice a' km cap') M) := HM
  have HB3 : Hid (Below w.heap.size w w2) := bt3
  clear hF2 HM2 b2 bt2 hP hF3 HM3 bt3 HM HA
  go_wp2_with (go_at_call 37; refine (hlen _).mono ?_; rintro e w' ⟨rfl, rfl⟩)
  clear hlen
  go_loopw [10, 11] (fun p i wr => ∃ j : Nat, j ≤ L ∧ i = .int .i64 ((j : Int) - 1) ∧ Hid (∃ P, P = A ^ (n.toNat / 2 ^ j) % M ∧ Num wr p P) ∧ Hid (Num wr rf (A % M)) ∧ Hid (Below w.heap.size w wr)) (fun _ i _ => (intOf i + 1).toNat)
  case atStart => exact ⟨L, Nat.le_refl _, rfl, HS.out, HF3.out, HB3.out⟩
  case round =>
    obtain ⟨j, hj, rfl, HP, HF, HB⟩ := hrel
    by_cases hlt : 0 < j
    · obtain ⟨t, rfl⟩ : ∃ t, j = t + 1 := ⟨j - 1, by omega⟩
      obtain ⟨P, eP, hP⟩ := HP.out
      have p0 : 0 ≤ P := by rw [eP]; exact Int.emod_nonneg _ (by omega)
      have p1 : P < M := by rw [eP]; exact Int.emod_lt_of_pos _ hM0
      have q0 : 0 ≤ A % M := Int.emod_nonneg _ (by omega)
      have q1 : A % M < M := Int.emod_lt_of_pos _ hM0
      have lP : P < pw 400 := by omega
      have lF : A % M < pw 400 := by omega
      have hp := product_num u10 u10 P P wr hP hP (lt_pw lP (by omega)) (lt_pw lP (by omega))
      have i0 : ((t + 1 : Nat) : Int) - 1 = (t : Int) := by omega
      have i1 : 0 ≤ (t : Int) := by omega
      have i2 : (t : Int) ≤ 63 := by omega
      have hdiv : n / 2 ^ t = ((n.toNat / 2 ^ t : Nat) : Int) := by
        rw [Int.natCast_ediv, Int.toNat_of_nonneg n0]; simp
      have hdl : n.toNat / 2 ^ t ≤ n.toNat := Nat.div_le_self _ _
      have hhalf : n.toNat / 2 ^ (t + 1) = n.toNat / 2 ^ t / 2 := by rw [Nat.pow_succ, Nat.div_div_eq_div_mul]
      rw [hhalf] at eP
      obtain ⟨k, hk⟩ : ∃ k, n.toNat / 2 ^ t = k := ⟨_, rfl⟩
      rw [hk] at hdiv eP hdl
      have hand := i64_and1 (k : Int) (by omega) (by omega)
      have HMw := fun w3 (b : Below wr.heap.size wr w3) => (HMM.out.below HB.out).below b
      have HFw := fun w3 (b : Below wr.heap.size wr w3) => HF.out.below b
      have HBw := fun w3 (b : Below wr.heap.size wr w3) => HB.out.trans (b.mono HB.out.size)
      have HK : Hid (n.toNat / 2 ^ t = k) := hk
      clear HP HF HB hP hk hhalf hdl
      rw [i0]
      go_wp2_with fail
      refine hp.mono ?_
      rintro e w3 ⟨r3, rfl, h3, b3⟩
      clear hp
      have hr := rest_num r3 _ (P * P) M w3 h3 (HMw w3 b3) (lt_pw (mul_pw p0 lP lP) (by omega)) hM0
      clear h3
      go_wp2_with fail
      refine hr.mono ?_
      rintro e w4 ⟨r4, rfl, h4, b4⟩
      clear hr
      have b34 : Below wr.heap.size wr w4 := b3.trans (b4.mono b3.size)
      have e4 : P * P % M = A ^ (2 * (k / 2)) % M := by rw [eP]; exact pow_even A M (k / 2)
      rw [e4] at h4
      clear b3 b4 e4 eP
      by_cases hbit : k % 2 = 1
      · have hb : ((k : Int) % 2 == 1) = true := by simp; omega
        have p40 : 0 ≤ A ^ (2 * (k / 2)) % M := Int.emod_nonneg _ (by omega)
        have p41 : A ^ (2 * (k / 2)) % M < pw 400 := by have := Int.emod_lt_of_pos (A ^ (2 * (k / 2))) hM0; omega
        have hp2 := product_num r4 rf _ _ w4 h4 (HFw w4 b34) (lt_pw p41 (by omega)) (lt_pw lF (by omega))
        clear h4
        go_wp2_with fail
        refine hp2.mono ?_
        rintro e w5 ⟨r5, rfl, h5, b5⟩
        clear hp2
        have b35 : Below wr.heap.size wr w5 := b34.trans (b5.mono b34.size)
        have hr3 := rest_num r5 _ _ M w5 h5 (HMw w5 b35) (lt_pw (mul_pw p40 p41 lF) (by omega)) hM0
        clear h5 b5 b34
        go_wp2_with fail
        refine hr3.mono ?_
        rintro e w6 ⟨r6, rfl, h6, b6⟩
        clear hr3
        have b36 : Below wr.heap.size wr w6 := b35.trans (b6.mono b35.size)
        rw [pow_odd, show 2 * (k / 2) + 1 = k by omega] at h6
        have HR : Hid (∃ P, P = A ^ (n.toNat / 2 ^ t) % M ∧ Num w6 r6 P) := ⟨_, rfl, by rw [HK.out]; exact h6⟩
        have HF6 : Hid (Num w6 rf (A % M)) := HFw w6 b36
        have HB6 : Hid (Below w.heap.size w w6) := HBw w6 b36
        clear h6 b35 b36 b6 HMw HFw HBw
        go_wp2
        go_roundw
        case rel => exact ⟨t, by omega, by go_num, HR.out, HF6.out, HB6.out⟩
        case measure => simp [intOf]
      · have hb : ((k : Int) % 2 == 1) = false := by simp; omega
        rw [show 2 * (k / 2) = k by omega] at h4
        have HR : Hid (∃ P, P = A ^ (n.toNat / 2 ^ t) % M ∧ Num w4 r4 P) := ⟨_, rfl, by rw [HK.out]; exact h4⟩
        have HF6 : Hid (Num w4 rf (A % M)) := HFw w4 b34
        have HB6 : Hid (Below w.heap.size w w4) := HBw w4 b34
        clear h4 b34 HMw HFw HBw
        go_wp2
        go_roundw
        case rel => exact ⟨t, by omega, by go_num, HR.out, HF6.out, HB6.out⟩
        case measure => simp [intOf]
    · have e : j = 0 := by omega
      subst e
      have HE : Hid (Num wr u10 (A ^ n.toNat % M)) := by
        obtain ⟨P, eP, hP⟩ := HP.out
        rw [Nat.pow_zero, Nat.div_one] at eP
        rw [← eP]; exact hP
      clear HP
      go_wp2
      go_ret2
      exact ⟨_, rfl, HE.out, HB.out⟩
end Go.Proofs.Ytmhplblmabiekaa
