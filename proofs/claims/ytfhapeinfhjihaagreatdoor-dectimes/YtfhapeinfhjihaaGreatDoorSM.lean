/-
  A prime taken out of a number, and what that says of multiples: plain mathematics. No condition.
  What dec.without answers: a prime taken out of a number as often as it is there, but at most that often. Conditions: the number is above nought and has at most 1000 limbs.
  What dec.withoutTens and dec.divides answer. Conditions: numbers of at most 1000 limbs, exponents that may be.
-/
import Derived.Test.YtfhapeinfhjihaaGreatDoorL4
import Derived.Test.YtfhapeinfhjihaaGreatDoorS16
import Derived.Test.YtfhapeinfhjihaaGreatDoorNE
namespace Go.Proofs.YtfhapeinfhjihaaGreatDoor

/-- Of A the prime p has been taken out, k times; m times are left of t. -/
def St (p A : Int) (t : Nat) (C : Int) (m : Nat) : Prop := ∃ k : Nat, k + m = t ∧ A = C * p ^ k ∧ 0 < C
def Out (p A : Int) (t : Nat) (C : Int) : Prop := ∃ k : Nat, k ≤ t ∧ A = C * p ^ k ∧ 0 < C ∧ (k = t ∨ C % p ≠ 0)
theorem St.zero {p A : Int} (t : Nat) (h : 0 < A) : St p A t A t := ⟨0, by omega, by simp, h⟩
theorem pos_of {p Q C : Int} (hp : 0 < p) (h : C = Q * p) (hC : 0 < C) : 0 < Q := by
  rcases Int.lt_trichotomy Q 0 with a | a | a
  · have := Int.mul_neg_of_neg_of_pos a hp; omega
  · subst a; simp at h; omega
  · exact a
theorem ppow_pos {p : Int} (hp : 0 < p) (k : Nat) : 0 < p ^ k := by
  induction k with
  | zero => simp
  | succ k ih => rw [Int.pow_succ]; exact Int.mul_pos ih hp
theorem St.many {p A P Q C : Int} {t m T : Nat} (hp : 0 < p) (h : St p A t C m) (hm : T ≤ m) (hP : P = p ^ T) (he : C = Q * P) : St p A t Q (m - T) := by
  obtain ⟨k, hk, hA, hC⟩ := h
  refine ⟨k + T, by omega, ?_, pos_of (hP ▸ ppow_pos hp T) he hC⟩
  rw [hA, he, hP, Int.pow_add, Int.mul_assoc, Int.mul_comm (p ^ T)]
theorem St.one {p A Q C : Int} {t m : Nat} (hp : 0 < p) (h : St p A t C (m + 1)) (he : C = Q * p) : St p A t Q m := by
  have := h.many (P := p) (T := 1) hp (by omega) (by rw [Int.pow_succ, Int.pow_zero, Int.one_mul]) he
  simpa using this
theorem St.le {p A C : Int} {t m : Nat} (hp : 0 < p) (h : St p A t C m) : C ≤ A ∧ 0 < C := by
  obtain ⟨k, _, hA, hC⟩ := h
  have h1 : 1 ≤ p ^ k := by have := ppow_pos hp k; omega
  have := Int.mul_le_mul_of_nonneg_left h1 (Int.le_of_lt hC)
  rw [Int.mul_one] at this
  exact ⟨by omega, hC⟩
theorem St.done {p A C : Int} {t : Nat} (h : St p A t C 0) : Out p A t C := by
  obtain ⟨k, hk, hA, hC⟩ := h
  exact ⟨k, by omega, hA, hC, .inl (by omega)⟩
theorem St.stop {p A C : Int} {t m : Nat} (h : St p A t C m) (hr : C % p ≠ 0) : Out p A t C := by
  obtain ⟨k, hk, hA, hC⟩ := h
  exact ⟨k, by omega, hA, hC, .inr hr⟩
/-- A divisor that serves in another one's place where the dividend has t tens more. -/
def Tens (B : Int) (t : Nat) (C : Int) : Prop := 0 < C ∧ C ≤ B ∧ ∀ A : Int, (∃ q, B * q = A * 10 ^ t) ↔ ∃ q, C * q = A
theorem mod_left {B C x m : Int} (h : B = C * x) (hB : B % m ≠ 0) : C % m ≠ 0 := by
  intro e
  apply hB
  rw [h, Int.mul_emod, e]; simp
theorem Out.le {p A C : Int} {t : Nat} (hp : 0 < p) (h : Out p A t C) : C ≤ A ∧ 0 < C := by
  obtain ⟨k, hk, hA, hC, _⟩ := h
  exact (St.le (t := t) (m := t - k) hp ⟨k, by omega, hA, hC⟩)
theorem tens_five {B C : Int} {t : Nat} (h2 : B % 2 = 1) (h : Out 5 B t C) : Tens B t C := by
  have hl := h.le (by omega)
  obtain ⟨k, hk, hA, hC, hr⟩ := h
  refine ⟨hC, hl.1, fun A => taken_out (p := 5) (o := 2) (by omega) (by omega) hA hk (fun q a hq => dvd_two ?_ hq) ?_⟩
  · have := mod_left hA (m := 2) (by omega)
    omega
  · rcases hr with hr | hr
    · exact .inl hr
    · exact .inr fun q a hq => dvd_five hr hq
theorem tens_two {B C : Int} {t : Nat} (h5 : B % 5 ≠ 0) (h : Out 2 B t C) : Tens B t C := by
  have hl := h.le (by omega)
  obtain ⟨k, hk, hA, hC, hr⟩ := h
  refine ⟨hC, hl.1, fun A => taken_out (p := 2) (o := 5) (by omega) (by omega) hA hk (fun q a hq => dvd_five (mod_left hA h5) hq) ?_⟩
  rcases hr with hr | hr
  · exact .inl hr
  · exact .inr fun q a hq => dvd_two (by omega) hq
theorem tens_none {B : Int} (t : Nat) (hB : 0 < B) (h2 : B % 2 = 1) (h5 : B % 5 ≠ 0) : Tens B t B :=
  ⟨hB, Int.le_refl _, fun A => taken_out (p := 5) (o := 2) (k := 0) (by omega) (by omega) (by simp) (Nat.zero_le _) (fun q a hq => dvd_two h2 hq) (.inr fun q a hq => dvd_five h5 hq)⟩
/-- Is A, with t tens more, a multiple of B? -/
def multB (A B : Int) (t : Nat) : Bool := decide (A * 10 ^ t % B = 0)
theorem ex_mod {A B : Int} : (∃ q, B * q = A) ↔ A % B = 0 := by
  constructor
  · rintro ⟨q, rfl⟩; exact Int.mul_emod_right B q
  · intro h
    exact ⟨A / B, Int.mul_ediv_cancel' (Int.dvd_of_emod_eq_zero h)⟩
theorem mult_by {A B C R : Int} {t : Nat} (h : Tens B t C) (hR : R = A % C) : decide (R = 0) = multB A B t := by
  unfold multB
  rw [decide_eq_decide, hR, ← ex_mod, ← ex_mod]
  exact (h.2.2 A).symm
theorem mult_ref {A B p R : Int} {t : Nat} (hp : p = 10 ^ t % B) (hR : R = A * p % B) : decide (R = 0) = multB A B t := by
  unfold multB
  rw [decide_eq_decide, hR, hp, Int.mul_emod, Int.emod_emod, ← Int.mul_emod]
end Go.Proofs.YtfhapeinfhjihaaGreatDoor

namespace Go.Proofs.YtfhapeinfhjihaaGreatDoor
open Go.RowKit
attribute [local go_sem] setCell_drewN alloc_drewN

theorem Num.len2 {w : World} {v : Value} {R : Int} (h : Num w v R) : ∃ a n cap, v = .slice a n cap ∧ (R = 0 ↔ n = 0) := by
  obtain ⟨a, n, cap, rfl, hl⟩ := h.len
  refine ⟨a, n, cap, rfl, ?_⟩
  by_cases z : R = 0
  · rw [decide_eq_true z] at hl
    have := eq_of_beq hl
    exact ⟨fun _ => by omega, fun _ => z⟩
  · rw [decide_eq_false z] at hl
    have := beq_eq_false_iff_ne.1 hl
    exact ⟨fun h => absurd h z, fun h => absurd (by omega : (n : Int) = 0) this⟩

set_option maxRecDepth 100000 in
set_option maxHeartbeats 3200000 in
theorem without_any (v : Value) (A p P : Int) (T t : Nat) (w : World) (h0 : Num w v A) (hA : A < pw 1000) (hA0 : 0 < A) (hp : 1 < p) (hp9 : p < 1000000000) (hP0 : 0 < P) (hP9 : P < 1000000000) (hP : P = p ^ T) (hT0 : 0 < T) (hT : T ≤ 100) (ht : t ≤ 2000000) :
    Calls Tryz.prog 86 #[v, .agg #[.int .u32 p, .int .u32 P, .int .i64 (T : Int)], .int .i64 (t : Int)] w fun e w' => ∃ r C, e = .returned r ∧ Num w' r C ∧ Out p A t C ∧ Below w.heap.size w w' := by
  have hdP := fun v C w (h : Num w v C) (hC : C < pw 1000) => div_num v (.slice (some ⟨w.heap.size, 0, none⟩) 1 1) C P (w.alloc (.cells #[.int .u32 P] 76)) (h.below (one_below w _)) (num_lit1 w P hP0 hP9) hC hP0
  have hdp := fun v C w (h : Num w v C) (hC : C < pw 1000) => div_num v (.slice (some ⟨w.heap.size, 0, none⟩) 1 1) C p (w.alloc (.cells #[.int .u32 p] 76)) (h.below (one_below w _)) (num_lit1 w p (by omega) hp9) hC (by omega)
  have HS0 : Hid (St p A t A t ∧ Num (w.alloc (.cells #[.int .u32 p, .int .u32 P, .int .i64 (T : Int)] 155)) v A) := ⟨St.zero t hA0, h0.below (one_below w _)⟩
  have HP : Hid (P = p ^ T) := hP
  obtain ⟨va, vn, vc, rfl, _⟩ := h0.len2
  clear h0 hP
  go_enter Tryz.func86, Tryz.ntmps86
  go_wp2_with fail
  go_loopw [0, 2] (fun a i wx => ∃ (m : Nat) (C : Int), m ≤ 2000000 ∧ i = .int .i64 (m : Int) ∧ Hid (St p A t C m ∧ Num wx a C) ∧ Hid (Below (w.alloc (.cells #[.int .u32 p, .int .u32 P, .int .i64 (T : Int)] 155)).heap.size (w.alloc (.cells #[.int .u32 p, .int .u32 P, .int .i64 (T : Int)] 155)) wx)) (fun _ i _ => (intOf i).toNat)
  case atStart => exact ⟨t, A, ht, rfl, HS0.out, Below.refl _ _⟩
  case round =>
    clear HS0
    obtain ⟨m, C, hm2, rfl, HSx, HBx⟩ := hrel
    have hc : ∀ o, wr.cell? ⟨w.heap.size, o, none⟩ = #[Value.int .u32 p, .int .u32 P, .int .i64 (T : Int)][o]? := fun o => by rw [HBx.out.cell (p := ⟨w.heap.size, o, none⟩) (by simp)]; simp [go_sem]
    by_cases hmT : T ≤ m
    · have hmI : (T : Int) ≤ (m : Int) := by omega
      have hle := HSx.out.1.le (by omega)
      have hd := hdP _ C wr HSx.out.2 (by omega)
      go_wp2_with fail
      refine hd.mono ?_
      rintro e w2 ⟨rq, rr, rfl, ⟨Q, R, hQ, hR, hE1, hE2, hE3⟩, hb2⟩
      obtain ⟨ra, rn, rc, rfl, hrn⟩ := hR.len2
      have HB2 : Hid (Below (w.alloc (.cells #[.int .u32 p, .int .u32 P, .int .i64 (T : Int)] 155)).heap.size (w.alloc (.cells #[.int .u32 p, .int .u32 P, .int .i64 (T : Int)] 155)) w2) := bl_t (bl_a HBx.out _) hb2
      have hc2 : ∀ o, w2.cell? ⟨w.heap.size, o, none⟩ = #[Value.int .u32 p, .int .u32 P, .int .i64 (T : Int)][o]? := fun o => by rw [HB2.out.cell (p := ⟨w.heap.size, o, none⟩) (by simp)]; simp [go_sem]
      clear hd hc
      by_cases hR0 : R = 0
      · have e0 := hrn.1 hR0
        subst e0
        have HS2 : Hid (St p A t Q (m - T)) := (HSx.out.1.many (by omega) hmT HP.out (by omega))
        have HQ : Hid (Num w2 rq Q) := hQ
        clear hR hrn hE1 hE2 hE3 hR0 hQ hle
        obtain ⟨qa, qn, qc, rfl, _⟩ := HQ.out.len2
        go_wp2_with fail
        go_quiet (fail)
        all_goals
          go_wp2
          go_roundw
          case rel => exact ⟨m - T, Q, by omega, by rw [Int.natCast_sub hmT], ⟨HS2.out, HQ.out.below (bl_n (Below.refl _ _) _)⟩, bl_n HB2.out _⟩
          case measure => simp [intOf]; omega
      · have hn0 : decide (0 < rn) = true := decide_eq_true (by
          have : rn ≠ 0 := fun h => hR0 (hrn.2 h)
          omega)
        have HSy : Hid (St p A t C m ∧ Num w2 u0 C) := ⟨HSx.out.1, HSx.out.2.below (bl_t (bl_a (Below.refl _ _) _) hb2)⟩
        clear hR hrn hE1 hE2 hE3 hR0 hle hc2 hb2 HSx HBx
        have HSx := HSy
        have HBx := HB2
        clear HSy HB2
        go_wp2_with fail
        clear hn0 hmI
        go_loopw [0, 2] (fun a i wx => ∃ (m : Nat) (C : Int), m ≤ 2000000 ∧ i = .int .i64 (m : Int) ∧ Hid (St p A t C m ∧ Num wx a C) ∧ Hid (Below (w.alloc (.cells #[.int .u32 p, .int .u32 P, .int .i64 (T : Int)] 155)).heap.size (w.alloc (.cells #[.int .u32 p, .int .u32 P, .int .i64 (T : Int)] 155)) wx)) (fun _ i _ => (intOf i).toNat)
        case atStart => exact ⟨m, C, hm2, rfl, HSx.out, HBx.out⟩
        case round =>
          clear HSx HBx
          obtain ⟨m, C, hm2, rfl, HSx, HBx⟩ := hrel
          by_cases hm0 : 0 < m
          · obtain ⟨j, rfl⟩ : ∃ j, m = j + 1 := ⟨m - 1, by omega⟩
            have hmI : (0 : Int) < ((j + 1 : Nat) : Int) := by omega
            have hc : ∀ o, wr.cell? ⟨w.heap.size, o, none⟩ = #[Value.int .u32 p, .int .u32 P, .int .i64 (T : Int)][o]? := fun o => by rw [HBx.out.cell (p := ⟨w.heap.size, o, none⟩) (by simp)]; simp [go_sem]
            have hle := HSx.out.1.le (by omega)
            have hd := hdp _ C wr HSx.out.2 (by omega)
            go_wp2_with fail
            refine hd.mono ?_
            rintro e w3 ⟨rq, rr, rfl, ⟨Q, R, hQ, hR, hE1, hE2, hE3⟩, hb3⟩
            obtain ⟨ra, rn, rc, rfl, hrn⟩ := hR.len2
            clear hd hc
            by_cases hR0 : R = 0
            · have e0 := hrn.1 hR0
              subst e0
              have HS2 : Hid (St p A t Q j) := (HSx.out.1.one (by omega) (by omega))
              have HQ : Hid (Num w3 rq Q) := hQ
              clear hR hrn hE1 hE2 hE3 hR0 hQ hle
              go_wp2
              go_roundw
              case rel => exact ⟨j, Q, by omega, by go_num, ⟨HS2.out, HQ.out⟩, bl_t (bl_a HBx.out _) hb3⟩
              case measure => simp [intOf]
            · have hn0 : decide (0 < rn) = true := decide_eq_true (by
                have : rn ≠ 0 := fun h => hR0 (hrn.2 h)
                omega)
              have HO : Hid (Out p A t C) := HSx.out.1.stop (by
                intro h
                rw [(divides_eq hE1 hE2 hE3).2] at hR0
                exact hR0 h)
              clear hR hrn hE1 hE2 hE3 hR0 hle
              go_wp2
              go_ret
              exact ⟨_, C, rfl, HSx.out.2.below (bl_t (bl_a (Below.refl _ _) _) hb3), HO.out, below_from_alloc (bl_t (bl_a HBx.out _) hb3)⟩
          · obtain rfl : m = 0 := by omega
            go_wp2
            go_ret
            exact ⟨_, C, rfl, HSx.out.2, HSx.out.1.done, below_from_alloc HBx.out⟩
    · have hmI : ¬ (T : Int) ≤ (m : Int) := by omega
      go_wp2_with fail
      clear hc
      go_loopw [0, 2] (fun a i wx => ∃ (m : Nat) (C : Int), m ≤ 2000000 ∧ i = .int .i64 (m : Int) ∧ Hid (St p A t C m ∧ Num wx a C) ∧ Hid (Below (w.alloc (.cells #[.int .u32 p, .int .u32 P, .int .i64 (T : Int)] 155)).heap.size (w.alloc (.cells #[.int .u32 p, .int .u32 P, .int .i64 (T : Int)] 155)) wx)) (fun _ i _ => (intOf i).toNat)
      case atStart => exact ⟨m, C, hm2, rfl, HSx.out, HBx.out⟩
      case round =>
        clear HSx HBx
        obtain ⟨m, C, hm2, rfl, HSx, HBx⟩ := hrel
        by_cases hm0 : 0 < m
        · obtain ⟨j, rfl⟩ : ∃ j, m = j + 1 := ⟨m - 1, by omega⟩
          have hmI : (0 : Int) < ((j + 1 : Nat) : Int) := by omega
          have hc : ∀ o, wr.cell? ⟨w.heap.size, o, none⟩ = #[Value.int .u32 p, .int .u32 P, .int .i64 (T : Int)][o]? := fun o => by rw [HBx.out.cell (p := ⟨w.heap.size, o, none⟩) (by simp)]; simp [go_sem]
          have hle := HSx.out.1.le (by omega)
          have hd := hdp _ C wr HSx.out.2 (by omega)
          go_wp2_with fail
          refine hd.mono ?_
          rintro e w3 ⟨rq, rr, rfl, ⟨Q, R, hQ, hR, hE1, hE2, hE3⟩, hb3⟩
          obtain ⟨ra, rn, rc, rfl, hrn⟩ := hR.len2
          clear hd hc
          by_cases hR0 : R = 0
          · have e0 := hrn.1 hR0
            subst e0
            have HS2 : Hid (St p A t Q j) := (HSx.out.1.one (by omega) (by omega))
            have HQ : Hid (Num w3 rq Q) := hQ
            clear hR hrn hE1 hE2 hE3 hR0 hQ hle
            go_wp2
            go_roundw
            case rel => exact ⟨j, Q, by omega, by go_num, ⟨HS2.out, HQ.out⟩, bl_t (bl_a HBx.out _) hb3⟩
            case measure => simp [intOf]
          · have hn0 : decide (0 < rn) = true := decide_eq_true (by
              have : rn ≠ 0 := fun h => hR0 (hrn.2 h)
              omega)
            have HO : Hid (Out p A t C) := HSx.out.1.stop (by
              intro h
              rw [(divides_eq hE1 hE2 hE3).2] at hR0
              exact hR0 h)
            clear hR hrn hE1 hE2 hE3 hR0 hle
            go_wp2
            go_ret
            exact ⟨_, C, rfl, HSx.out.2.below (bl_t (bl_a (Below.refl _ _) _) hb3), HO.out, below_from_alloc (bl_t (bl_a HBx.out _) hb3)⟩
        · obtain rfl : m = 0 := by omega
          go_wp2
          go_ret
          exact ⟨_, C, rfl, HSx.out.2, HSx.out.1.done, below_from_alloc HBx.out⟩
end Go.Proofs.YtfhapeinfhjihaaGreatDoor

namespace Go.Proofs.YtfhapeinfhjihaaGreatDoor
open Go.RowKit
attribute [local go_sem] setCell_drewN alloc_drewN

theorem dec_last (s : ByteArray) (h1 : 1 ≤ s.size) : dec (dig s) s.size = dec (dig s) (s.size - 1) * 10 + (cx s (s.size - 1) - 48) := by
  obtain ⟨n, hn⟩ : ∃ n, s.size = n + 1 := ⟨s.size - 1, by omega⟩
  rw [hn]
  show dec (dig s) n * 10 + dig s n = _
  rw [show n + 1 - 1 = n by omega]
  rfl
theorem dec_nonneg (s : ByteArray) (hd : Digits s) (k : Nat) (hk : k ≤ s.size) : 0 ≤ dec (dig s) k :=
  (dec_bd (dig s) k (fun i hi => by have := hd i (by omega); unfold dig; omega)).1

set_option maxRecDepth 100000 in
set_option maxHeartbeats 1600000 in
theorem withoutTens_any (s : ByteArray) (t : Nat) (w : World) (h1 : 1 ≤ s.size) (h2 : s.size ≤ 1048576) (hd : Digits s) (hl : cx s (s.size - 1) ≠ 48) (ht : t ≤ 2000000) (hA : dec (dig s) s.size < pw 1000) :
    Calls Tryz.prog 64 #[.string s, .int .i64 (t : Int)] w fun e w' => ∃ r C, e = .returned r ∧ Num w' r C ∧ Tens (dec (dig s) s.size) t C ∧ Below w.heap.size w w' := by
  have hlast := dec_last s h1
  have hnn := dec_nonneg s hd (s.size - 1) (by omega)
  have hc := hd (s.size - 1) (by omega)
  rw [show chr s (s.size - 1) = cx s (s.size - 1) from rfl] at hc
  by_cases hpl : cx s (s.size - 1) = 49 ∨ cx s (s.size - 1) = 51 ∨ cx s (s.size - 1) = 55 ∨ cx s (s.size - 1) = 57
  · refine (withoutTens_plain s t w h1 h2 hd hpl).mono ?_
    rintro e w' ⟨r, rfl, hN, hb⟩
    exact ⟨r, _, rfl, hN, tens_none t (by omega) (by omega) (by omega), hb⟩
  · have ho := of_ok s w h1 h2 hd
    have hp1 : s.size - 1 < s.size := by omega
    have hx1 := cx_at s (s.size - 1) hp1
    have ez : ((s.size : Int) - 1).toNat = s.size - 1 := by omega
    have i0 : (0 : Int) < (s.size : Int) := by omega
    have i1 : (s.size : Int) ≤ 1048576 := by omega
    by_cases h5 : cx s (s.size - 1) = 53
    · have HT : Hid (∀ C, Out 5 (dec (dig s) s.size) t C → Tens (dec (dig s) s.size) t C) := fun C hC => tens_five (by omega) hC
      have hA0 : 0 < dec (dig s) s.size := by omega
      rw [h5] at hx1
      clear hlast hnn hc hpl h5 hl hd
      generalize dec (dig s) s.size = A at *
      have hw := fun v w h => without_any v A 5 244140625 12 t w h hA hA0 (by decide) (by decide) (by decide) (by decide) (by decide) (by decide) (by decide) ht
      clear hA0 hA
      go_enter Tryz.func64, Tryz.ntmps64
      go_wp2_with (first | (go_at_call 20; refine ho.mono ?_; rintro e w1 ⟨r, rfl, hN, hb⟩) | (go_at_call 86; refine (hw _ _ hN).mono ?_; rintro e w2 ⟨r2, C, rfl, hN2, hO, hb2⟩))
      go_ret
      exact ⟨_, C, rfl, hN2, HT.out C hO, bl_t hb hb2⟩
    · have HT : Hid (∀ C, Out 2 (dec (dig s) s.size) t C → Tens (dec (dig s) s.size) t C) := fun C hC => tens_two (by omega) hC
      have hA0 : 0 < dec (dig s) s.size := by omega
      have hev : cx s (s.size - 1) = 50 ∨ cx s (s.size - 1) = 52 ∨ cx s (s.size - 1) = 54 ∨ cx s (s.size - 1) = 56 := by omega
      clear hlast hnn hc hpl h5 hl hd
      generalize dec (dig s) s.size = A at *
      have hw := fun v w h => without_any v A 2 536870912 29 t w h hA hA0 (by decide) (by decide) (by decide) (by decide) (by decide) (by decide) (by decide) ht
      clear hA0 hA
      rcases hev with hev | hev | hev | hev
      all_goals
        rw [hev] at hx1
        clear hev
        go_enter Tryz.func64, Tryz.ntmps64
        go_wp2_with (first | (go_at_call 20; refine ho.mono ?_; rintro e w1 ⟨r, rfl, hN, hb⟩) | (go_at_call 86; refine (hw _ _ hN).mono ?_; rintro e w2 ⟨r2, C, rfl, hN2, hO, hb2⟩))
        go_ret
        exact ⟨_, C, rfl, hN2, HT.out C hO, bl_t hb hb2⟩

set_option maxRecDepth 100000 in
set_option maxHeartbeats 1600000 in
theorem divides_some (n m : Bool) (s t : ByteArray) (e f : Int) (q : Nat) (w : World) (hz : eqD m t f false ⟨#[]⟩ 0 = false) (e0 : -1000000 ≤ e) (e1 : e ≤ 1000000) (f0 : -1000000 ≤ f) (f1 : f ≤ 1000000) (hef : f - e = (q : Int))
    (s1 : 1 ≤ s.size) (s2 : s.size ≤ 1048576) (sd : Digits s) (t1 : 1 ≤ t.size) (t2 : t.size ≤ 1048576) (td : Digits t) (hl : cx s (s.size - 1) ≠ 48)
    (hA : dec (dig t) t.size < pw 1000) (hB : dec (dig s) s.size < pw 1000) :
    Calls Tryz.prog 37 #[.agg #[.bool n, .string s, .int .i64 e], .agg #[.bool m, .string t, .int .i64 f]] w fun r w' => r = .returned (.bool (multB (dec (dig t) t.size) (dec (dig s) s.size) q)) ∧ Below w.heap.size w w' := by
  have hq := eqIn_dec m t f false ⟨#[]⟩ 0
  rw [hz] at hq
  have h1 := fun w => of_ok t w t1 t2 td
  have h2 := fun w => withoutTens_any s q w s1 s2 sd hl (by omega) hB
  have h3 := fun v0 v1 C w h0 h1 hC => div_num v0 v1 (dec (dig t) t.size) C w h0 h1 hA hC
  have HM : Hid (∀ C Q R, Tens (dec (dig s) s.size) q C → dec (dig t) t.size = Q * C + R → 0 ≤ R → R < C → decide (R = 0) = multB (dec (dig t) t.size) (dec (dig s) s.size) q) := fun C Q R hT a b c => mult_by hT (divides_eq a b c).2
  have HP : Hid (∀ C, Tens (dec (dig s) s.size) q C → 0 < C) := fun C h => h.1
  clear sd td hl hz
  generalize multB (dec (dig t) t.size) (dec (dig s) s.size) q = res at *
  generalize dec (dig t) t.size = A at *
  generalize dec (dig s) s.size = B at *
  go_enter Tryz.func37, Tryz.ntmps37
  go_wp2_with fail
  go_region_with (go_at_call 32; refine (nought_any _).mono ?_; rintro r w' ⟨rfl, rfl⟩)
  all_goals (try go_wp2_with fail)
  all_goals
    refine (h1 _).mono ?_
    rintro r w1 ⟨r1, rfl, hN1, hb1⟩
    have hS : Below (w.alloc (.cells #[.bool n, .string s, .int .i64 e] 23)).heap.size (w.alloc (.cells #[.bool n, .string s, .int .i64 e] 23)) w1 := (by with_reducible repeat (first | exact Below.refl _ _ | refine bl_t ?_ hb1 |  refine bl_d ?_ | refine bl_n ?_ _ | refine bl_a ?_ _ | refine bl_s ?_ (by omega) _))
    have hk1 := fun o => hS.cell (p := ⟨w.heap.size, o, none⟩) (by simp)
    go_wp2_with fail
    refine (h2 _).mono ?_
    rintro r w2 ⟨r2, C, rfl, hN2, hT2, hb2⟩
    go_wp2_with fail
    refine (h3 _ _ C _ (hN1.below hb2) hN2 (HP.out C hT2)).mono ?_
    rintro r w3 ⟨q3, r3, rfl, ⟨Q, R, _, hR, hE⟩, hb3⟩
    obtain ⟨a, k, cap, rfl, hlen⟩ := hR.len
    rw [HM.out C Q R hT2 hE.1 hE.2.1 hE.2.2] at hlen
    clear hT2
    go_wp2
    go_ret
    exact ⟨rfl, (by with_reducible repeat (first | exact Below.refl _ _ | refine bl_t ?_ hb3 | refine bl_t ?_ hb2 | refine bl_t ?_ hb1 |  refine bl_d ?_ | refine bl_n ?_ _ | refine bl_a ?_ _ | refine bl_s ?_ (by omega) _))⟩

set_option maxRecDepth 100000 in
set_option maxHeartbeats 800000 in
theorem divides_zero (n m : Bool) (s t : ByteArray) (e f : Int) (w : World) (hz : eqD m t f false ⟨#[]⟩ 0 = true) (e0 : -1000000 ≤ e) (e1 : e ≤ 1000000) (f0 : -1000000 ≤ f) (f1 : f ≤ 1000000) :
    Calls Tryz.prog 37 #[.agg #[.bool n, .string s, .int .i64 e], .agg #[.bool m, .string t, .int .i64 f]] w fun r w' => r = .returned (.bool true) ∧ Below w.heap.size w w' := by
  have hq := eqIn_dec m t f false ⟨#[]⟩ 0
  rw [hz] at hq
  clear hz
  go_enter Tryz.func37, Tryz.ntmps37
  go_wp2_with fail
  go_region_with (go_at_call 32; refine (nought_any _).mono ?_; rintro r w' ⟨rfl, rfl⟩)
  all_goals (try go_wp2)
  all_goals go_ret
  all_goals exact ⟨rfl, (by with_reducible repeat (first | exact Below.refl _ _ | refine bl_d ?_ | refine bl_n ?_ _ | refine bl_a ?_ _ | refine bl_s ?_ (by omega) _))⟩
end Go.Proofs.YtfhapeinfhjihaaGreatDoor
