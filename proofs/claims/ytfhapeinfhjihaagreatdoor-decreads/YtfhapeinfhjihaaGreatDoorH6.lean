/-
  What dec.small, dec.Small and ref3.Small answer. No condition.
-/
import Derived.Test.YtfhapeinfhjihaaGreatDoorH5
import Derived.Test.YtfhapeinfhjihaaGreatDoorS14
import Derived.Test.YtfhapeinfhjihaaGreatDoorA9
namespace Go.Proofs.YtfhapeinfhjihaaGreatDoor
open Go.RowKit
attribute [local go_sem] setCell_drewN alloc_drewN

theorem pow10_le {a b : Nat} (h : a ≤ b) : (10 : Int) ^ a ≤ 10 ^ b := pow_mono10 h
theorem dec_le (s : ByteArray) (hd : Digits s) (hs : s.size ≤ 10) (k : Nat) (hk : k ≤ s.size) : 0 ≤ dec (dig s) k ∧ dec (dig s) k ≤ 10000000000 := by
  have h1 := dec_bd (dig s) k (fun i hi => by have := hd i (by omega); unfold dig; omega)
  have h2 := pow10_le (show k ≤ 10 by omega)
  have h3 : (10 : Int) ^ 10 = 10000000000 := by decide
  omega
theorem mul_le (s : ByteArray) (hd : Digits s) (E : Nat) (hs : s.size + E ≤ 10) (j : Nat) (hj : j ≤ E) : 0 ≤ dec (dig s) s.size * 10 ^ j ∧ dec (dig s) s.size * 10 ^ j ≤ 10000000000 := by
  have h1 := dec_bd (dig s) s.size (fun i hi => by have := hd i hi; unfold dig; omega)
  have hp := pow_pos10 j
  have h2 : dec (dig s) s.size * 10 ^ j ≤ 10 ^ s.size * 10 ^ j := Int.mul_le_mul_of_nonneg_right (by omega) (by omega)
  rw [← Int.pow_add] at h2
  have h3 := pow10_le (show s.size + j ≤ 10 by omega)
  have h4 : (10 : Int) ^ 10 = 10000000000 := by decide
  exact ⟨Int.mul_nonneg h1.1 (by omega), by omega⟩

set_option maxRecDepth 100000 in
set_option maxHeartbeats 1600000 in
theorem small_any (n : Bool) (s : ByteArray) (e : Int) (E : Nat) (w : World) (he : e = (E : Int)) (hd : Digits s) (hs : s.size + E ≤ 10) :
    Calls Tryz.prog 31 #[.agg #[.bool n, .string s, .int .i64 e]] w fun r w' => r = .returned (.int .i64 (dec (dig s) s.size * 10 ^ E)) ∧ Below w.heap.size w w' := by
  subst he
  have HB : Hid (∀ k, k ≤ s.size → 0 ≤ dec (dig s) k ∧ dec (dig s) k ≤ 10000000000) := fun k hk => dec_le s hd (by omega) k hk
  have HM : Hid (∀ j, j ≤ E → 0 ≤ dec (dig s) s.size * 10 ^ j ∧ dec (dig s) s.size * 10 ^ j ≤ 10000000000) := fun j hj => mul_le s hd E hs j hj
  have HD : Hid (Digits s) := hd
  have hsz : (s.size : Int) ≤ 10 := by omega
  have hEz : (E : Int) ≤ 10 := by omega
  obtain ⟨R, HR⟩ : ∃ R, Hid (dec (dig s) s.size * 10 ^ E = R) := ⟨_, rfl⟩
  rw [HR.out]
  clear hd hs
  go_enter Tryz.func31, Tryz.ntmps31
  go_wp2_with fail
  go_loop [3, 8] (fun v i => ∃ k : Nat, k ≤ s.size ∧ i = .int .i64 k ∧ v = .int .i64 (dec (dig s) k)) (fun _ i => s.size - (intOf i).toNat)
  case atStart => exact ⟨0, Nat.zero_le _, rfl, rfl⟩
  case round =>
    obtain ⟨k, hk, rfl, rfl⟩ := hrel
    have hb := HB.out k hk
    by_cases hlt : k < s.size
    · have hI : (k : Int) < (s.size : Int) := by omega
      have hc := cx_at s k hlt
      have hd := HD.out k hlt
      have HE : Hid (dec (dig s) (k + 1) = dec (dig s) k * 10 + (cx s k - 48)) := rfl
      rw [show chr s k = cx s k from rfl] at hd
      generalize cx s k = y at *
      generalize hz : dec (dig s) k = z at *
      clear hz
      go_wp2
      go_round
      case rel => exact ⟨k + 1, by omega, by go_num, by rw [HE.out]⟩
      case measure => simp [intOf] <;> omega
    · have ek : k = s.size := by omega
      subst ek
      have kd : decide (s.size < s.size) = false := decide_eq_false hlt
      clear hlt kd
      go_wp2_with fail
      go_loop [3, 23] (fun v i => ∃ j : Nat, j ≤ E ∧ i = .int .i64 j ∧ v = .int .i64 (dec (dig s) s.size * 10 ^ j)) (fun _ i => E - (intOf i).toNat)
      case atStart => exact ⟨0, Nat.zero_le _, rfl, by simp⟩
      case round =>
        obtain ⟨j, hj, rfl, rfl⟩ := hrel
        have hm := HM.out j hj
        by_cases hlt : j < E
        · have hI : (j : Int) < (E : Int) := by omega
          have HE : Hid (dec (dig s) s.size * 10 ^ (j + 1) = dec (dig s) s.size * 10 ^ j * 10) := by
            show _ = _
            rw [Int.pow_succ, Int.mul_assoc]
          generalize hz : dec (dig s) s.size * 10 ^ j = z at *
          clear hz
          go_wp2
          go_round
          case rel => exact ⟨j + 1, by omega, by go_num, by rw [HE.out]⟩
          case measure => simp [intOf] <;> omega
        · have ej : j = E := by omega
          subst ej
          rw [HR.out] at hm ⊢
          go_wp2
          go_ret
          exact ⟨rfl, bl_a (Below.refl _ _) _⟩

def smallR (n : Bool) (s : ByteArray) (e : Int) : Int × Bool :=
  if wholeB n s e = false then (0, false) else if n = true then (0, false) else if 10 < (s.size : Int) + e then (0, false) else
  if 1000000000 < dec (dig s) s.size * 10 ^ e.toNat then (0, false) else (dec (dig s) s.size * 10 ^ e.toNat, true)
theorem whole_parts {n : Bool} {s : ByteArray} {e : Int} (h : wholeB n s e = true) : 0 ≤ e ∧ s.size ≤ 65536 ∧ -1000000 ≤ e ∧ e ≤ 1000000 ∧ Digits s := by
  obtain ⟨hg, he⟩ : goodB n s e = true ∧ decide (0 ≤ e) = true := by unfold wholeB at h; simpa using h
  have he := of_decide_eq_true he
  by_cases h0 : s.size = 0
  · have := good_empty (n := n) (e := e) h0
    rw [hg] at this
    obtain ⟨_, rfl⟩ := of_decide_eq_true this.symm
    exact ⟨he, by omega, by omega, by omega, fun i hi => absurd hi (by omega)⟩
  · have hgs := good_some (n := n) (e := e) h0
    rw [hg] at hgs
    obtain ⟨hd, hx⟩ : digB s = true ∧ decide (-1000000 ≤ e ∧ e ≤ 1000000) = true := by simpa using hgs.symm
    have hx := of_decide_eq_true hx
    have d := (digB_iff s h0).1 hd
    exact ⟨he, d.1, hx.1, hx.2, fun i hi => d.2.1 i hi⟩

theorem tup_ib {a b : Int} {x y : Bool} (h : (a, x) = (b, y)) : Ending.returned (.tuple #[.int .i64 a, .bool x]) = .returned (.tuple #[.int .i64 b, .bool y]) := by
  obtain ⟨rfl, rfl⟩ := Prod.mk.inj h
  rfl

set_option maxRecDepth 100000 in
set_option maxHeartbeats 1600000 in
theorem Small_any (n : Bool) (s : ByteArray) (e : Int) (w : World) (hs : s.size ≤ maxLen) :
    Calls Tryz.prog 10 #[.agg #[.bool n, .string s, .int .i64 e]] w fun r w' => r = .returned (.tuple #[.int .i64 (smallR n s e).1, .bool (smallR n s e).2]) ∧ Below w.heap.size w w' := by
  have h1 := fun w => whole_any n s e w hs
  unfold smallR
  cases hw : wholeB n s e
  · rw [if_pos rfl]
    rw [hw] at h1
    clear hw hs
    go_enter Tryz.func10, Tryz.ntmps10
    go_wp2_with (first | (go_at_call 14; refine (h1 _).mono ?_; rintro r w1 ⟨rfl, hb1⟩; obtain ⟨kc, kz⟩ := keep1w hb1))
    go_ret2
    exact ⟨rfl, (by with_reducible repeat (first | exact Below.refl _ _ | refine bl_t ?_ hb9 | refine bl_t ?_ hb3 | refine bl_t ?_ hb2 | refine bl_t ?_ hb1 | refine bl_d ?_ | refine bl_n ?_ _ | refine bl_a ?_ _))⟩
  · rw [if_neg (by simp)]
    rw [hw] at h1
    obtain ⟨he0, hs6, he1, he2, hd⟩ := whole_parts hw
    have h2 := fun w => height_any n s e w hs6 he1 he2
    cases n
    · rw [if_neg (by simp)]
      by_cases hh : 10 < (s.size : Int) + e
      · rw [if_pos hh]
        clear hw hs hd
        generalize (s.size : Int) + e = H at *
        go_enter Tryz.func10, Tryz.ntmps10
        go_wp2_with (first | (go_at_call 14; refine (h1 _).mono ?_; rintro r w1 ⟨rfl, hb1⟩; obtain ⟨kc, kz⟩ := keep1w hb1) | (go_at_call 30; refine (h2 _).mono ?_; rintro r w2 ⟨rfl, rfl⟩))
        go_ret2
        exact ⟨rfl, (by with_reducible repeat (first | exact Below.refl _ _ | refine bl_t ?_ hb9 | refine bl_t ?_ hb3 | refine bl_t ?_ hb2 | refine bl_t ?_ hb1 | refine bl_d ?_ | refine bl_n ?_ _ | refine bl_a ?_ _))⟩
      · rw [if_neg hh]
        have h3 := fun w => small_any false s e e.toNat w (by omega) hd (by omega)
        have hb := mul_le s hd e.toNat (by omega) e.toNat (Nat.le_refl _)
        generalize dec (dig s) s.size * 10 ^ e.toNat = R at *
        clear hw hs hd
        by_cases hR : 1000000000 < R
        · rw [if_pos hR]
          generalize (s.size : Int) + e = H at *
          go_enter Tryz.func10, Tryz.ntmps10
          go_wp2_with (first | (go_at_call 14; refine (h1 _).mono ?_; rintro r w1 ⟨rfl, hb1⟩; obtain ⟨kc, kz⟩ := keep1w hb1) | (go_at_call 30; refine (h2 _).mono ?_; rintro r w2 ⟨rfl, rfl⟩) | (go_at_call 31; refine (h3 _).mono ?_; rintro r w3 ⟨rfl, hb3⟩))
          go_ret2
          exact ⟨rfl, (by with_reducible repeat (first | exact Below.refl _ _ | refine bl_t ?_ hb9 | refine bl_t ?_ hb3 | refine bl_t ?_ hb2 | refine bl_t ?_ hb1 | refine bl_d ?_ | refine bl_n ?_ _ | refine bl_a ?_ _))⟩
        · rw [if_neg hR]
          generalize (s.size : Int) + e = H at *
          go_enter Tryz.func10, Tryz.ntmps10
          go_wp2_with (first | (go_at_call 14; refine (h1 _).mono ?_; rintro r w1 ⟨rfl, hb1⟩; obtain ⟨kc, kz⟩ := keep1w hb1) | (go_at_call 30; refine (h2 _).mono ?_; rintro r w2 ⟨rfl, rfl⟩) | (go_at_call 31; refine (h3 _).mono ?_; rintro r w3 ⟨rfl, hb3⟩))
          go_ret2
          exact ⟨rfl, (by with_reducible repeat (first | exact Below.refl _ _ | refine bl_t ?_ hb9 | refine bl_t ?_ hb3 | refine bl_t ?_ hb2 | refine bl_t ?_ hb1 | refine bl_d ?_ | refine bl_n ?_ _ | refine bl_a ?_ _))⟩
    · rw [if_pos rfl]
      clear hw hs hd
      generalize (s.size : Int) + e = H at *
      go_enter Tryz.func10, Tryz.ntmps10
      go_wp2_with (first | (go_at_call 14; refine (h1 _).mono ?_; rintro r w1 ⟨rfl, hb1⟩; obtain ⟨kc, kz⟩ := keep1w hb1) | (go_at_call 30; refine (h2 _).mono ?_; rintro r w2 ⟨rfl, rfl⟩))
      go_ret2
      exact ⟨rfl, (by with_reducible repeat (first | exact Below.refl _ _ | refine bl_t ?_ hb9 | refine bl_t ?_ hb3 | refine bl_t ?_ hb2 | refine bl_t ?_ hb1 | refine bl_d ?_ | refine bl_n ?_ _ | refine bl_a ?_ _))⟩

set_option maxRecDepth 100000 in
set_option maxHeartbeats 3200000 in
theorem rSmall_any (n : Bool) (s : ByteArray) (e : Int) (w : World) (hs : s.size ≤ maxLen) :
    Calls Tryz.prog 11 #[.agg #[.bool n, .string s, .int .i64 e]] w fun r w' => r = .returned (.tuple #[.int .i64 (smallR n s e).1, .bool (smallR n s e).2]) ∧ Below w.heap.size w w' := by
  have h1 := fun w => rwhole_any n s e w hs
  unfold smallR
  cases hw : wholeB n s e
  · rw [if_pos rfl]
    rw [hw] at h1
    clear hw hs
    go_enter Tryz.func11, Tryz.ntmps11
    go_wp2_with (go_at_call 15; refine (h1 _).mono ?_; rintro r w1 ⟨rfl, hb1⟩; obtain ⟨kc, kz⟩ := keep1w hb1)
    go_ret2
    exact ⟨rfl, bl_t (bl_a (Below.refl _ _) _) hb1⟩
  · rw [if_neg (by simp)]
    rw [hw] at h1
    obtain ⟨he0, hs6, he1, he2, hd⟩ := whole_parts hw
    have hsI : (s.size : Int) ≤ 65536 := by omega
    cases n
    · rw [if_neg (by simp)]
      by_cases hh : 10 < (s.size : Int) + e
      · rw [if_pos hh]
        clear hw hs hd
        go_enter Tryz.func11, Tryz.ntmps11
        go_wp2_with (go_at_call 15; refine (h1 _).mono ?_; rintro r w1 ⟨rfl, hb1⟩; obtain ⟨kc, kz⟩ := keep1w hb1)
        go_ret2
        exact ⟨rfl, bl_t (bl_a (Below.refl _ _) _) hb1⟩
      · rw [if_neg hh]
        obtain ⟨E, hE⟩ : ∃ E : Nat, e = (E : Int) := ⟨e.toNat, by omega⟩
        subst hE
        rw [Int.toNat_natCast]
        have hsE : s.size + E ≤ 10 := by omega
        have HB : Hid (∀ k, k ≤ s.size → 0 ≤ dec (dig s) k ∧ dec (dig s) k ≤ 10000000000) := fun k hk => dec_le s hd (by omega) k hk
        have HM : Hid (∀ j, j ≤ E → 0 ≤ dec (dig s) s.size * 10 ^ j ∧ dec (dig s) s.size * 10 ^ j ≤ 10000000000) := fun j hj => mul_le s hd E hsE j hj
        have HD : Hid (Digits s) := hd
        have hh2 : decide (10 < (s.size : Int) + (E : Int)) = false := decide_eq_false hh
        obtain ⟨R, HR⟩ : ∃ R, Hid (dec (dig s) s.size * 10 ^ E = R) := ⟨_, rfl⟩
        rw [HR.out]
        obtain ⟨RV, HRV⟩ : ∃ RV : Int × Bool, Hid ((if 1000000000 < R then (0, false) else (R, true)) = RV) := ⟨_, rfl⟩
        rw [HRV.out]
        clear hw hs hd hh hs6
        go_enter Tryz.func11, Tryz.ntmps11
        go_wp2_with (go_at_call 15; refine (h1 _).mono ?_; rintro r w1 ⟨rfl, hb1⟩; obtain ⟨kc, kz⟩ := keep1w hb1)
        clear hh2
        go_loop [4, 5] (fun v i => ∃ k : Nat, k ≤ s.size ∧ i = .int .i64 k ∧ v = .int .i64 (dec (dig s) k)) (fun _ i => s.size - (intOf i).toNat)
        case atStart => exact ⟨0, Nat.zero_le _, rfl, rfl⟩
        case round =>
          obtain ⟨k, hk, rfl, rfl⟩ := hrel
          have hb := HB.out k hk
          by_cases hlt : k < s.size
          · have hI : (k : Int) < (s.size : Int) := by omega
            have hc := cx_at s k hlt
            have hd := HD.out k hlt
            have HE : Hid (dec (dig s) (k + 1) = 10 * dec (dig s) k + (cx s k - 48)) := by
              show dec (dig s) k * 10 + (cx s k - 48) = _
              omega
            rw [show chr s k = cx s k from rfl] at hd
            generalize cx s k = y at *
            generalize hz : dec (dig s) k = z at *
            clear hz
            go_wp2
            go_round
            case rel => exact ⟨k + 1, by omega, by go_num, by rw [HE.out]⟩
            case measure => simp [intOf] <;> omega
          · have ek : k = s.size := by omega
            subst ek
            clear hlt
            go_wp2_with fail
            go_loop [4, 6] (fun v i => ∃ j : Nat, j ≤ E ∧ i = .int .i64 j ∧ v = .int .i64 (dec (dig s) s.size * 10 ^ j)) (fun _ i => E - (intOf i).toNat)
            case atStart => exact ⟨0, Nat.zero_le _, rfl, by simp⟩
            case round =>
              obtain ⟨j, hj, rfl, rfl⟩ := hrel
              have hm := HM.out j hj
              by_cases hlt : j < E
              · have hI : (j : Int) < (E : Int) := by omega
                have HE : Hid (dec (dig s) s.size * 10 ^ (j + 1) = 10 * (dec (dig s) s.size * 10 ^ j)) := by
                  show _ = _
                  rw [Int.pow_succ, ← Int.mul_assoc, Int.mul_comm]
                generalize hz : dec (dig s) s.size * 10 ^ j = z at *
                clear hz
                go_wp2
                go_round
                case rel => exact ⟨j + 1, by omega, by go_num, by rw [HE.out]⟩
                case measure => simp [intOf] <;> omega
              · have ej : j = E := by omega
                subst ej
                rw [HR.out] at hm ⊢
                by_cases hR : 1000000000 < R
                · have HV := HRV.out
                  rw [if_pos hR] at HV
                  subst HV
                  go_wp2
                  go_ret2
                  exact ⟨rfl, bl_t (bl_a (Below.refl _ _) _) hb1⟩
                · have HV := HRV.out
                  rw [if_neg hR] at HV
                  subst HV
                  go_wp2
                  go_ret2
                  exact ⟨rfl, bl_t (bl_a (Below.refl _ _) _) hb1⟩
    · rw [if_pos rfl]
      clear hw hs hd
      go_enter Tryz.func11, Tryz.ntmps11
      go_wp2_with (go_at_call 15; refine (h1 _).mono ?_; rintro r w1 ⟨rfl, hb1⟩; obtain ⟨kc, kz⟩ := keep1w hb1)
      go_ret2
      exact ⟨rfl, bl_t (bl_a (Below.refl _ _) _) hb1⟩
end Go.Proofs.YtfhapeinfhjihaaGreatDoor
