/-
  What nat.column, nat.product and nat.Mul answer. Conditions: the numbers have at most 1000 limbs each.
-/
import Derived.Test.YtfhapeinfhjihaaGreatDoorA5
namespace Go.Proofs.YtfhapeinfhjihaaGreatDoor
open Go.RowKit

/-- The products of two limbs whose places make up p, of the first k limbs. -/
def colk (F G : Nat → Int) (p : Nat) : Nat → Int
  | 0 => 0
  | k + 1 => colk F G p k + (if k ≤ p then F k * G (p - k) else 0)
theorem val_add (f g : Nat → Int) (n : Nat) : val (fun p => f p + g p) n = val f n + val g n := by
  induction n with
  | zero => rfl
  | succ n ih => rw [val_succ, val_succ, val_succ, ih, Int.add_mul]; omega
theorem val_null (n : Nat) : val (fun _ => 0) n = 0 := by
  induction n with
  | zero => rfl
  | succ n ih => rw [val_succ, ih]; simp
theorem val_shift (x : Int) (G : Nat → Int) (k r : Nat) : val (fun p => if k ≤ p then x * G (p - k) else 0) (k + r) = x * pw k * val G r := by
  induction r with
  | zero =>
    rw [Nat.add_zero, val_trim (Nat.zero_le _) (fun i _ hi => if_neg (by omega))]
    simp [val_zero]
  | succ r ih =>
    rw [← Nat.add_assoc, val_succ, ih, val_succ]
    simp only [Nat.le_add_right, if_true, Nat.add_sub_cancel_left]
    rw [pw_add, Int.mul_add]
    congr 1
    rw [Int.mul_assoc, Int.mul_assoc, Int.mul_left_comm (G r)]
theorem col_val (F G : Nat → Int) (m N k : Nat) (hz : ∀ i, m ≤ i → G i = 0) (hN : k + m ≤ N) : val (fun p => colk F G p k) N = val F k * val G m := by
  induction k with
  | zero => simp [colk, val_null, val_zero]
  | succ k ih =>
    have e : (fun p => colk F G p (k + 1)) = (fun p => colk F G p k + (if k ≤ p then F k * G (p - k) else 0)) := rfl
    rw [e, val_add, ih (by omega)]
    obtain ⟨r, rfl⟩ : ∃ r, N = k + r := ⟨N - k, by omega⟩
    rw [val_shift, val_succ, Int.add_mul, val_trim (show m ≤ r by omega) (fun i hi _ => hz i hi)]
theorem limb_z (n : Nat) (f : Nat → Int) (i : Nat) (h : n ≤ i) : limb n f i = 0 := by simp [limb, show ¬ i < n by omega]
theorem mul9 (x y : Int) (x0 : 0 ≤ x) (x1 : x < 1000000000) (y0 : 0 ≤ y) (y1 : y < 1000000000) : 0 ≤ x * y ∧ x * y ≤ 999999998000000001 := by
  refine ⟨Int.mul_nonneg x0 y0, ?_⟩
  have h1 : x * y ≤ 999999999 * y := Int.mul_le_mul_of_nonneg_right (by omega) y0
  omega
theorem colk_bd {F G : Nat → Int} (hF : All9 F) (hG : All9 G) (p k : Nat) : 0 ≤ colk F G p k ∧ colk F G p k ≤ k * 999999998000000001 := by
  induction k with
  | zero => simp [colk]
  | succ k ih =>
    have h := mul9 (F k) (G (p - k)) (hF k).1 (hF k).2 (hG (p - k)).1 (hG (p - k)).2
    unfold colk
    split
    · omega
    · omega
/-- Places ahead of where the products begin count nothing. -/
theorem colk_ahead (n m : Nat) (f g : Nat → Int) (p k : Nat) (h : k + m ≤ p + 1) : colk (limb n f) (limb m g) p k = 0 := by
  induction k with
  | zero => rfl
  | succ k ih =>
    unfold colk
    rw [ih (by omega), if_pos (by omega), limb_z m g (p - k) (by omega)]
    simp
theorem colk_past (F G : Nat → Int) (p k j : Nat) (h : p + 1 ≤ k) : colk F G p (k + j) = colk F G p k := by
  induction j with
  | zero => rfl
  | succ j ih =>
    rw [← Nat.add_assoc]
    show colk F G p (k + j) + _ = _
    rw [ih, if_neg (by omega)]; omega

set_option maxHeartbeats 800000 in
theorem column_at (b off n cap b' off' m cap' p fr : Nat) (f g : Nat → Int) (s : Int) (w : World) (hL : Lies w b off n f) (hL' : Lies w b' off' m g) (hf : Limbs n f) (hg : Limbs m g) (hn : n ≤ 1000) (hm : m ≤ 1000) (hp : p < n + m)
    (s0 : 0 ≤ s) (s1 : s ≤ 1000000000000) (hfr : (fr = 0 ∧ ¬ (0 : Int) < (p : Int) - (m : Int) + 1) ∨ ((fr : Int) = (p : Int) - (m : Int) + 1 ∧ (0 : Int) < (p : Int) - (m : Int) + 1)) :
    Calls Tryz.prog 69 #[.slice (some ⟨b, off, none⟩) n cap, .slice (some ⟨b', off', none⟩) m cap', .int .i64 p, .int .u64 s] w fun e w' => ∃ lo, ∃ sq, e = .returned (.tuple #[.int .u64 lo, .int .u64 sq]) ∧
      (lo + sq * 1000000000000000000 = s + colk (limb n f) (limb m g) p n ∧ 0 ≤ lo ∧ lo < 8000000000000000000 ∧ 0 ≤ sq) ∧ ∃ q, w' = w.drewN q := by
  have HF : Hid (Limbs n f) := hf
  have HG : Hid (Limbs m g) := hg
  have HL : Hid (Lies w b off n f) := hL
  have HL' : Hid (Lies w b' off' m g) := hL'
  have HA : Hid (colk (limb n f) (limb m g) p fr = 0) := by
    show colk (limb n f) (limb m g) p fr = 0
    rcases hfr with ⟨rfl, _⟩ | ⟨e, _⟩
    · rfl
    · exact colk_ahead n m f g p fr (by omega)
  have hfn : fr ≤ n := by omega
  have hfp : fr ≤ p + 1 := by omega
  have hfm : p + 1 ≤ fr + m := by omega
  have hst : ∃ d : Bool, decide ((0 : Int) < (p : Int) - (m : Int) + 1) = d ∧ (d = true → (fr : Int) = (p : Int) - (m : Int) + 1) ∧ (d = false → fr = 0) := by
    rcases hfr with ⟨e, h⟩ | ⟨e, h⟩
    · exact ⟨false, decide_eq_false h, fun h => by (cases h), fun _ => e⟩
    · exact ⟨true, decide_eq_true h, fun _ => e, fun h => by (cases h)⟩
  clear hf hg hL hL'
  have main : ∀ d : Bool, decide ((0 : Int) < (p : Int) - (m : Int) + 1) = d → (d = true → (fr : Int) = (p : Int) - (m : Int) + 1) → (d = false → fr = 0) →
      Calls Tryz.prog 69 #[.slice (some ⟨b, off, none⟩) n cap, .slice (some ⟨b', off', none⟩) m cap', .int .i64 p, .int .u64 s] w fun e w' => ∃ lo, ∃ sq, e = .returned (.tuple #[.int .u64 lo, .int .u64 sq]) ∧
      (lo + sq * 1000000000000000000 = s + colk (limb n f) (limb m g) p n ∧ 0 ≤ lo ∧ lo < 8000000000000000000 ∧ 0 ≤ sq) ∧ ∃ q, w' = w.drewN q := by
    intro d hd
    cases d
    · intro _ h0
      have H0 : Hid (fr = 0) := h0 rfl
      clear h0
      have hd0 : ¬ (0 : Int) < (p : Int) - (m : Int) + 1 := of_decide_eq_false hd
      clear hfr hst hd
      go_enter Tryz.func69, Tryz.ntmps69
      go_wp2
      have HX : Hid (fr = fr) := rfl
      go_loopw [10, 11, 13] (fun lo sq i wr => ∃ (L S : Int) (k : Nat), lo = .int .u64 L ∧ sq = .int .u64 S ∧ i = .int .i64 k ∧ fr ≤ k ∧ k ≤ n ∧ k ≤ p + 1 ∧ Hid (L + S * 1000000000000000000 = s + colk (limb n f) (limb m g) p k) ∧ 0 ≤ L ∧ L < 8000000000000000000 ∧ 0 ≤ S ∧ ∃ q, wr = w.drewN q) (fun _ _ i _ => n - (intOf i).toNat)
      case atStart => exact ⟨s, 0, fr, rfl, rfl, by (have := H0.out; first | (rw [this]; rfl) | (simp only [Value.int.injEq, true_and]; omega)), Nat.le_refl _, hfn, hfp, by show s + 0 * 1000000000000000000 = _; rw [HA.out]; omega, s0, by omega, by omega, 0, rfl⟩
      case round =>
        obtain ⟨L, S, k, rfl, rfl, rfl, k0, k1, k2, HE, l0, l1, t0, q, rfl⟩ := hrel
        have t1 : S ≤ 2000 := by
          have h1 := HE.out
          have h2 := (colk_bd (limb_all HF.out) (limb_all HG.out) p k).2
          omega
        by_cases hlt : k < n
        · have i1 : (k : Int) < (n : Int) := by omega
          by_cases hlp : k ≤ p
          · have i2 : (k : Int) ≤ (p : Int) := by omega
            have c1 := HL.out.cell k hlt
            have c2 := HL'.out.cell (p - k) (by omega)
            have ez : ((p : Int) - (k : Int)).toNat = p - k := by omega
            have i3 : (p : Int) - (k : Int) < (m : Int) := by omega
            have bP := mul9 (f k) (g (p - k)) (HF.out k hlt).1 (HF.out k hlt).2 (HG.out (p - k) (by omega)).1 (HG.out (p - k) (by omega)).2
            have bx := HF.out k hlt
            have bg := HG.out (p - k) (by omega)
            have eP : colk (limb n f) (limb m g) p (k + 1) = colk (limb n f) (limb m g) p k + f k * g (p - k) := by
              show colk (limb n f) (limb m g) p k + _ = _
              rw [if_pos hlp]; simp [limb, hlt, show p - k < m by omega]
            obtain ⟨P, hP⟩ : ∃ P, f k * g (p - k) = P := ⟨_, rfl⟩
            rw [hP] at eP bP
            have HE2 : Hid (L + P + S * 1000000000000000000 = s + colk (limb n f) (limb m g) p (k + 1)) := by
              show L + P + S * 1000000000000000000 = s + colk (limb n f) (limb m g) p (k + 1)
              have := HE.out
              rw [eP]; omega
            generalize f k = x at *
            generalize g (p - k) = y at *
            obtain ⟨P0, P1⟩ := bP
            clear HE eP HX
            by_cases hr : L + P < 8000000000000000000
            · go_wp2_with fail
              go_quiet (fail)
              go_wp2
              go_roundw
              case rel => exact ⟨L + P, S, k + 1, by go_num, rfl, by go_num, by omega, by omega, by omega, HE2, by omega, by omega, t0, _, rfl⟩
              case measure => simp [intOf]; omega
            · go_wp2_with fail
              go_quiet (fail)
              go_wp2
              go_roundw
              case rel => exact ⟨L + P - 8000000000000000000, S + 8, k + 1, by go_num, by go_num, by go_num, by omega, by omega, by omega, by (show L + P - 8000000000000000000 + (S + 8) * 1000000000000000000 = _; have := HE2.out; omega), by omega, by omega, by omega, _, rfl⟩
              case measure => simp [intOf]; omega
          · have i2 : ¬ (k : Int) ≤ (p : Int) := by omega
            have e : k = p + 1 := by omega
            have HE2 : Hid (L + S * 1000000000000000000 = s + colk (limb n f) (limb m g) p n) := by
              have h1 := HE.out
              have h2 := colk_past (limb n f) (limb m g) p k (n - k) (by omega)
              rw [show k + (n - k) = n by omega] at h2
              show L + S * 1000000000000000000 = s + colk (limb n f) (limb m g) p n
              rw [h2]; exact h1
            clear HE e HX
            go_wp2
            go_ret2
            exact ⟨_, _, rfl, ⟨HE2.out, l0, l1, t0⟩, _, rfl⟩
        · have e : k = n := by omega
          subst e
          clear HX
          go_wp2
          go_ret2
          exact ⟨_, _, rfl, ⟨HE.out, l0, l1, t0⟩, _, rfl⟩
    · intro h0 _
      have H0 : Hid ((fr : Int) = (p : Int) - (m : Int) + 1) := h0 rfl
      clear h0
      have hd0 : (0 : Int) < (p : Int) - (m : Int) + 1 := of_decide_eq_true hd
      clear hfr hst hd
      go_enter Tryz.func69, Tryz.ntmps69
      go_wp2
      have HX : Hid (fr = fr) := rfl
      go_loopw [10, 11, 13] (fun lo sq i wr => ∃ (L S : Int) (k : Nat), lo = .int .u64 L ∧ sq = .int .u64 S ∧ i = .int .i64 k ∧ fr ≤ k ∧ k ≤ n ∧ k ≤ p + 1 ∧ Hid (L + S * 1000000000000000000 = s + colk (limb n f) (limb m g) p k) ∧ 0 ≤ L ∧ L < 8000000000000000000 ∧ 0 ≤ S ∧ ∃ q, wr = w.drewN q) (fun _ _ i _ => n - (intOf i).toNat)
      case atStart => exact ⟨s, 0, fr, rfl, rfl, by (have := H0.out; first | (rw [this]; rfl) | (simp only [Value.int.injEq, true_and]; omega)), Nat.le_refl _, hfn, hfp, by show s + 0 * 1000000000000000000 = _; rw [HA.out]; omega, s0, by omega, by omega, 0, rfl⟩
      case round =>
        obtain ⟨L, S, k, rfl, rfl, rfl, k0, k1, k2, HE, l0, l1, t0, q, rfl⟩ := hrel
        have t1 : S ≤ 2000 := by
          have h1 := HE.out
          have h2 := (colk_bd (limb_all HF.out) (limb_all HG.out) p k).2
          omega
        by_cases hlt : k < n
        · have i1 : (k : Int) < (n : Int) := by omega
          by_cases hlp : k ≤ p
          · have i2 : (k : Int) ≤ (p : Int) := by omega
            have c1 := HL.out.cell k hlt
            have c2 := HL'.out.cell (p - k) (by omega)
            have ez : ((p : Int) - (k : Int)).toNat = p - k := by omega
            have i3 : (p : Int) - (k : Int) < (m : Int) := by omega
            have bP := mul9 (f k) (g (p - k)) (HF.out k hlt).1 (HF.out k hlt).2 (HG.out (p - k) (by omega)).1 (HG.out (p - k) (by omega)).2
            have bx := HF.out k hlt
            have bg := HG.out (p - k) (by omega)
            have eP : colk (limb n f) (limb m g) p (k + 1) = colk (limb n f) (limb m g) p k + f k * g (p - k) := by
              show colk (limb n f) (limb m g) p k + _ = _
              rw [if_pos hlp]; simp [limb, hlt, show p - k < m by omega]
            obtain ⟨P, hP⟩ : ∃ P, f k * g (p - k) = P := ⟨_, rfl⟩
            rw [hP] at eP bP
            have HE2 : Hid (L + P + S * 1000000000000000000 = s + colk (limb n f) (limb m g) p (k + 1)) := by
              show L + P + S * 1000000000000000000 = s + colk (limb n f) (limb m g) p (k + 1)
              have := HE.out
              rw [eP]; omega
            generalize f k = x at *
            generalize g (p - k) = y at *
            obtain ⟨P0, P1⟩ := bP
            clear HE eP HX
            by_cases hr : L + P < 8000000000000000000
            · go_wp2_with fail
              go_quiet (fail)
              go_wp2
              go_roundw
              case rel => exact ⟨L + P, S, k + 1, by go_num, rfl, by go_num, by omega, by omega, by omega, HE2, by omega, by omega, t0, _, rfl⟩
              case measure => simp [intOf]; omega
            · go_wp2_with fail
              go_quiet (fail)
              go_wp2
              go_roundw
              case rel => exact ⟨L + P - 8000000000000000000, S + 8, k + 1, by go_num, by go_num, by go_num, by omega, by omega, by omega, by (show L + P - 8000000000000000000 + (S + 8) * 1000000000000000000 = _; have := HE2.out; omega), by omega, by omega, by omega, _, rfl⟩
              case measure => simp [intOf]; omega
          · have i2 : ¬ (k : Int) ≤ (p : Int) := by omega
            have e : k = p + 1 := by omega
            have HE2 : Hid (L + S * 1000000000000000000 = s + colk (limb n f) (limb m g) p n) := by
              have h1 := HE.out
              have h2 := colk_past (limb n f) (limb m g) p k (n - k) (by omega)
              rw [show k + (n - k) = n by omega] at h2
              show L + S * 1000000000000000000 = s + colk (limb n f) (limb m g) p n
              rw [h2]; exact h1
            clear HE e HX
            go_wp2
            go_ret2
            exact ⟨_, _, rfl, ⟨HE2.out, l0, l1, t0⟩, _, rfl⟩
        · have e : k = n := by omega
          subst e
          clear HX
          go_wp2
          go_ret2
          exact ⟨_, _, rfl, ⟨HE.out, l0, l1, t0⟩, _, rfl⟩
  obtain ⟨d, h1, h2, h3⟩ := hst
  exact main d h1 h2 h3
end Go.Proofs.YtfhapeinfhjihaaGreatDoor
