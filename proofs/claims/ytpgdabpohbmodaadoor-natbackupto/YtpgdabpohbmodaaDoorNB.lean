/-
  What nat.sum, nat.difference, nat.Add and nat.Sub answer. Conditions: the numbers' limbs together take at most 2^47 bytes.
  What nat.column, nat.product and nat.Mul answer. Conditions: the numbers have at most 1000 limbs each.
  What nat.product and nat.Mul answer. Conditions: the numbers have at most 1000 limbs each.
  What nat.dividedByLimb answers. Conditions: the divisor is a limb that is not nought.
-/
import Derived.Test.YtpgdabpohbmodaaDoorNA
namespace Go.Proofs.YtpgdabpohbmodaaDoor
open Go.RowKit

theorem limb_val {n N : Nat} {f : Nat → Int} (h : n ≤ N) : val (limb n f) N = val f n := by
  rw [val_trim h (fun i hi _ => by simp [limb, show ¬ i < n by omega])]
  exact val_congr (fun i hi => by simp [limb, hi])
theorem step_mul (d n x p : Int) (h : d + n * 1000000000 = x) : d * p + n * (p * 1000000000) = x * p := by
  subst h; rw [Int.add_mul, Int.mul_assoc, Int.mul_comm 1000000000 p]
theorem sum_val {f g : Nat → Int} (N k : Nat) (hk : k ≤ N) : val (outs dS nS f g N) k + carr nS f g k * pw k = val f k + val g k := by
  induction k with
  | zero => simp [val_zero, carr]
  | succ k ih =>
    have h1 := ih (by omega)
    have e1 : outs dS nS f g N k = dS (f k) (g k) (carr nS f g k) := by simp [outs, show k < N by omega]
    have e2 : carr nS f g (k + 1) = nS (f k) (g k) (carr nS f g k) := rfl
    have h2 := step_mul (dS (f k) (g k) (carr nS f g k)) (nS (f k) (g k) (carr nS f g k)) (f k + g k + carr nS f g k) (pw k) (by unfold dS nS; omega)
    rw [Int.add_mul, Int.add_mul] at h2
    rw [val_succ, val_succ, val_succ, pw_succ, e1, e2]
    omega
theorem dif_val {f g : Nat → Int} (N k : Nat) (hk : k ≤ N) : val (outs dD nD f g N) k + val g k = val f k + carr nD f g k * pw k := by
  induction k with
  | zero => simp [val_zero, carr]
  | succ k ih =>
    have h1 := ih (by omega)
    have e1 : outs dD nD f g N k = dD (f k) (g k) (carr nD f g k) := by simp [outs, show k < N by omega]
    have e2 : carr nD f g (k + 1) = nD (f k) (g k) (carr nD f g k) := rfl
    have h2 := step_mul (dD (f k) (g k) (carr nD f g k)) (- nD (f k) (g k) (carr nD f g k)) (f k - g k - carr nD f g k) (pw k) (by unfold dD nD; omega)
    rw [Int.sub_mul, Int.sub_mul, Int.neg_mul] at h2
    rw [val_succ, val_succ, val_succ, pw_succ, e1, e2]
    omega
theorem all_limbs {f : Nat → Int} (h : All9 f) (n : Nat) : Limbs n f := fun i _ => h i
theorem sum_fits {n m : Nat} {f g : Nat → Int} (hf : Limbs n f) (hg : Limbs m g) : val (outs dS nS (limb n f) (limb m g) (max n m + 1)) (max n m + 1) = val f n + val g m := by
  have h1 := sum_val (f := limb n f) (g := limb m g) (max n m + 1) (max n m + 1) (Nat.le_refl _)
  rw [limb_val (show n ≤ max n m + 1 by omega), limb_val (show m ≤ max n m + 1 by omega)] at h1
  have h2 := val_nonneg (all_limbs (outs_bd stepsS (limb_all hf) (limb_all hg) (max n m + 1)) (max n m + 1))
  have h3 := carr_bd stepsS (limb_all hf) (limb_all hg) (max n m + 1)
  have h4 := val_lt hf
  have h5 := val_lt hg
  have h6 := pw_mono (show n ≤ max n m by omega)
  have h7 := pw_mono (show m ≤ max n m by omega)
  have h8 := pw_succ (max n m)
  have h9 := pw_pos (max n m)
  rcases (show carr nS (limb n f) (limb m g) (max n m + 1) = 0 ∨ carr nS (limb n f) (limb m g) (max n m + 1) = 1 by omega) with e | e
  · rw [e] at h1; omega
  · rw [e] at h1; omega
theorem dif_fits {n m : Nat} {f g : Nat → Int} (hf : Limbs n f) (hg : Limbs m g) (hm : m ≤ n) (hle : val g m ≤ val f n) : val (outs dD nD (limb n f) (limb m g) n) n = val f n - val g m := by
  have h1 := dif_val (f := limb n f) (g := limb m g) n n (Nat.le_refl _)
  rw [limb_val (Nat.le_refl n), limb_val hm] at h1
  have h2 := val_lt (all_limbs (outs_bd stepsD (limb_all hf) (limb_all hg) n) n)
  have h3 := carr_bd stepsD (limb_all hf) (limb_all hg) n
  rcases (show carr nD (limb n f) (limb m g) n = 0 ∨ carr nD (limb n f) (limb m g) n = 1 by omega) with e | e
  · rw [e] at h1; omega
  · rw [e] at h1; omega

/-- A block of one number, of the call's own. -/
theorem one_block (w : World) (x : Int) : (w.alloc (.cells #[.int .u64 x] 51)).heap[w.heap.size]? = some (.cells #[.int .u64 x] 51 (0, 0)) := heap_alloc_new w _
theorem one_below (w : World) (o : Obj) : Below w.heap.size w (w.alloc o) := (Below.refl _ _).alloc (Nat.le_refl _) _

/-- What nat.upward leaves at its end, as a number. -/
theorem num_of_trim {w : World} {r : Value} {N : Nat} {g : Nat → Int} {V : Int} (hb : All9 g) (h : ∃ m', Row w r m' g ∧ Trims N g m') (hV : val g N = V) : Num w r V := by
  obtain ⟨m', hr, ht⟩ := h
  obtain ⟨c1, c2⟩ := ht.can (all_limbs hb _)
  exact ⟨m', _, hr, c1, by rw [c2, hV]⟩

theorem sum_up (v0 v1 : Value) (n m N : Nat) (f g : Nat → Int) (w : World) (h0 : Row w v0 n f) (h1 : Row w v1 m g) (hf : Limbs n f) (hg : Limbs m g) (hn : n ≤ 35184372088832) (hm : m ≤ 35184372088832) (hN : N = max n m + 1) :
    Calls Tryd.prog 39 #[.int .i64 N, v0, v1, .func (.func 40) #[] #[.pointer (some ⟨w.heap.size, 0, none⟩)]] (w.alloc (.cells #[.int .u64 0] 51)) fun e w' => ∃ r, e = .returned r ∧ Num w' r (val f n + val g m) ∧ Below w.heap.size w w' := by
  refine (upwardS_any v0 v1 n m N w.heap.size f g w _ (one_below w _) h0 h1 hf hg (one_block w 0) (Nat.le_refl _) (by omega)).mono ?_
  rintro e w' ⟨r, rfl, hr, hbl⟩
  subst hN
  exact ⟨r, rfl, num_of_trim (outs_bd stepsS (limb_all hf) (limb_all hg) _) hr (sum_fits hf hg), hbl⟩

set_option maxHeartbeats 400000 in
theorem sum_any (v0 v1 : Value) (n m : Nat) (f g : Nat → Int) (w : World) (h0 : Row w v0 n f) (h1 : Row w v1 m g) (hf : Limbs n f) (hg : Limbs m g) (hn : n ≤ 35184372088832) (hm : m ≤ 35184372088832) :
    Calls Tryd.prog 28 #[v0, v1] w fun e w' => ∃ r, e = .returned r ∧ Num w' r (val f n + val g m) ∧ Below w.heap.size w w' := by
  obtain ⟨a, cap, rfl, _⟩ := h0.shape
  obtain ⟨a', cap', rfl, _⟩ := h1.shape
  by_cases hle : n < m
  · have hu := sum_up _ _ n m (m + 1) f g w h0 h1 hf hg hn hm (by omega)
    rw [show ((m + 1 : Nat) : Int) = (m : Int) + 1 from by omega] at hu
    have hI : (n : Int) < (m : Int) := by omega
    clear h0 h1 hf hg
    go_enter Tryd.func28, Tryd.ntmps28
    go_wp2_with fail
    refine hu.mono ?_
    rintro e w' ⟨r, rfl, hr, hbl⟩
    go_wp2
    go_ret
    exact ⟨_, rfl, hr, hbl⟩
  · have hu := sum_up _ _ n m (n + 1) f g w h0 h1 hf hg hn hm (by omega)
    rw [show ((n + 1 : Nat) : Int) = (n : Int) + 1 from by omega] at hu
    have hI : ¬ (n : Int) < (m : Int) := by omega
    clear h0 h1 hf hg
    go_enter Tryd.func28, Tryd.ntmps28
    go_wp2_with fail
    refine hu.mono ?_
    rintro e w' ⟨r, rfl, hr, hbl⟩
    go_wp2
    go_ret
    exact ⟨_, rfl, hr, hbl⟩

/-- The numbers' slices in a row of slices: what nat.checked is handed. -/
theorem checked_new (v0 v1 : Value) (n m : Nat) (f g : Nat → Int) (w : World) (h0 : Row w v0 n f) (h1 : Row w v1 m g) :
    (Can n f → Can m g → Calls Tryd.prog 25 #[.slice (some ⟨w.heap.size, 0, none⟩) 2 2] (w.alloc (.cells #[v0, v1] 22)) fun e w' => e = .returned (.int .i64 0) ∧ w.alloc (.cells #[v0, v1] 22) = w') ∧
    (¬ (Can n f ∧ Can m g) → Calls Tryd.prog 25 #[.slice (some ⟨w.heap.size, 0, none⟩) 2 2] (w.alloc (.cells #[v0, v1] 22)) fun e w' => e = .returned (.int .i64 2) ∧ w.alloc (.cells #[v0, v1] 22) = w') := by
  have c0 : (w.alloc (.cells #[v0, v1] 22)).cell? ⟨w.heap.size, 0, none⟩ = some v0 := by simp
  have c1 : (w.alloc (.cells #[v0, v1] 22)).cell? ⟨w.heap.size, 1, none⟩ = some v1 := by simp
  exact ⟨fun k0 k1 => checked_ok v0 v1 n m _ f g _ c0 c1 (h0.alloc _) (h1.alloc _) k0 k1, fun k => checked_bad v0 v1 n m _ f g _ c0 c1 (h0.alloc _) (h1.alloc _) k⟩

theorem below_from_alloc {w w' : World} {o : Obj} (h : Below (w.alloc o).heap.size (w.alloc o) w') : Below w.heap.size w w' :=
  ((Below.refl _ _).alloc (Nat.le_refl _) o).trans (h.mono (by simp))

set_option maxHeartbeats 400000 in
theorem add_ok (v0 v1 : Value) (A B : Int) (n m : Nat) (f g : Nat → Int) (w : World) (h0 : Row w v0 n f) (h1 : Row w v1 m g) (hf : Can n f) (hg : Can m g) (eA : val f n = A) (eB : val g m = B) (hn : n ≤ 35184372088832) (hm : m ≤ 35184372088832) :
    Calls Tryd.prog 20 #[v0, v1] w fun e w' => ∃ r, e = .returned (.tuple #[r, .int .i64 0]) ∧ Num w' r (A + B) ∧ Below w.heap.size w w' := by
  have hk := (checked_new v0 v1 n m f g w h0 h1).1 hf hg
  have hs := sum_any v0 v1 n m f g _ (h0.alloc (.cells #[v0, v1] 22)) (h1.alloc _) hf.1 hg.1 hn hm
  rw [eA, eB] at hs
  obtain ⟨a, cap, rfl, _⟩ := h0.shape
  obtain ⟨a', cap', rfl, _⟩ := h1.shape
  clear h0 h1 hf hg eA eB
  generalize A + B = V at *
  go_enter Tryd.func20, Tryd.ntmps20
  go_wp2_with fail
  refine hk.mono ?_
  rintro e w' ⟨rfl, rfl⟩
  go_wp2_with fail
  refine hs.mono ?_
  rintro e w' ⟨r, rfl, hr, hbl⟩
  go_wp2
  go_ret2
  exact ⟨_, rfl, hr, (below_from_alloc hbl)⟩

set_option maxHeartbeats 400000 in
theorem add_bad (v0 v1 : Value) (n m : Nat) (f g : Nat → Int) (w : World) (h0 : Row w v0 n f) (h1 : Row w v1 m g) (hk0 : ¬ (Can n f ∧ Can m g)) :
    Calls Tryd.prog 20 #[v0, v1] w fun e w' => e = .returned (.tuple #[.slice none 0 0, .int .i64 2]) ∧ Below w.heap.size w w' := by
  have hk := (checked_new v0 v1 n m f g w h0 h1).2 hk0
  obtain ⟨a, cap, rfl, _⟩ := h0.shape
  obtain ⟨a', cap', rfl, _⟩ := h1.shape
  have hbl : Below w.heap.size w (w.alloc (.cells #[.slice a n cap, .slice a' m cap'] 22)) := (Below.refl _ _).alloc (Nat.le_refl _) _
  clear h0 h1 hk0
  go_enter Tryd.func20, Tryd.ntmps20
  go_wp2_with fail
  refine hk.mono ?_
  rintro e w' ⟨rfl, rfl⟩
  go_wp2
  go_ret2
  exact ⟨rfl, hbl⟩

theorem cmpI_lt (a b : Int) : decide (cmpI a b < 0) = decide (a < b) := by
  unfold cmpI
  by_cases h : a < b
  · simp [h]
  · by_cases e : a = b
    · simp [e]
    · simp [h, e]

end Go.Proofs.YtpgdabpohbmodaaDoor

namespace Go.Proofs.YtpgdabpohbmodaaDoor
open Go.RowKit

/-- The products of two limbs whose places make up p, of the first k limbs. -/
def colk (F G : Nat → Int) (p : Nat) : Nat → Int
  | 0 => 0
  | k + 1 => colk F G p k + (if k ≤ p then F k * G (p - k) else 0)
theorem val_add (f g : Nat → Int) (n : Nat) : val (fun p => f p + g p) n = val f n + val g n := by
  induction n with
  | zero => rfl
  | succ n ih => rw [val_succ, val_succ, val_succ, ih, Int.add_mul]; omega
theorem val_null (n : Nat) : val (fun _ => 0) n = 0 := by
  induction n with
  | zero => rfl
  | succ n ih => rw [val_succ, ih]; simp
theorem val_shift (x : Int) (G : Nat → Int) (k r : Nat) : val (fun p => if k ≤ p then x * G (p - k) else 0) (k + r) = x * pw k * val G r := by
  induction r with
  | zero =>
    rw [Nat.add_zero, val_trim (Nat.zero_le _) (fun i _ hi => if_neg (by omega))]
    simp [val_zero]
  | succ r ih =>
    rw [← Nat.add_assoc, val_succ, ih, val_succ]
    simp only [Nat.le_add_right, if_true, Nat.add_sub_cancel_left]
    rw [pw_add, Int.mul_add]
    congr 1
    rw [Int.mul_assoc, Int.mul_assoc, Int.mul_left_comm (G r)]
theorem col_val (F G : Nat → Int) (m N k : Nat) (hz : ∀ i, m ≤ i → G i = 0) (hN : k + m ≤ N) : val (fun p => colk F G p k) N = val F k * val G m := by
  induction k with
  | zero => simp [colk, val_null, val_zero]
  | succ k ih =>
    have e : (fun p => colk F G p (k + 1)) = (fun p => colk F G p k + (if k ≤ p then F k * G (p - k) else 0)) := rfl
    rw [e, val_add, ih (by omega)]
    obtain ⟨r, rfl⟩ : ∃ r, N = k + r := ⟨N - k, by omega⟩
    rw [val_shift, val_succ, Int.add_mul, val_trim (show m ≤ r by omega) (fun i hi _ => hz i hi)]
theorem limb_z (n : Nat) (f : Nat → Int) (i : Nat) (h : n ≤ i) : limb n f i = 0 := by simp [limb, show ¬ i < n by omega]
theorem mul9 (x y : Int) (x0 : 0 ≤ x) (x1 : x < 1000000000) (y0 : 0 ≤ y) (y1 : y < 1000000000) : 0 ≤ x * y ∧ x * y ≤ 999999998000000001 := by
  refine ⟨Int.mul_nonneg x0 y0, ?_⟩
  have h1 : x * y ≤ 999999999 * y := Int.mul_le_mul_of_nonneg_right (by omega) y0
  omega
theorem colk_bd {F G : Nat → Int} (hF : All9 F) (hG : All9 G) (p k : Nat) : 0 ≤ colk F G p k ∧ colk F G p k ≤ k * 999999998000000001 := by
  induction k with
  | zero => simp [colk]
  | succ k ih =>
    have h := mul9 (F k) (G (p - k)) (hF k).1 (hF k).2 (hG (p - k)).1 (hG (p - k)).2
    unfold colk
    split
    · omega
    · omega
/-- Places ahead of where the products begin count nothing. -/
theorem colk_ahead (n m : Nat) (f g : Nat → Int) (p k : Nat) (h : k + m ≤ p + 1) : colk (limb n f) (limb m g) p k = 0 := by
  induction k with
  | zero => rfl
  | succ k ih =>
    unfold colk
    rw [ih (by omega), if_pos (by omega), limb_z m g (p - k) (by omega)]
    simp
theorem colk_past (F G : Nat → Int) (p k j : Nat) (h : p + 1 ≤ k) : colk F G p (k + j) = colk F G p k := by
  induction j with
  | zero => rfl
  | succ j ih =>
    rw [← Nat.add_assoc]
    show colk F G p (k + j) + _ = _
    rw [ih, if_neg (by omega)]; omega

set_option maxHeartbeats 800000 in
theorem column_at (b off n cap b' off' m cap' p fr : Nat) (f g : Nat → Int) (s : Int) (w : World) (hL : Lies w b off n f) (hL' : Lies w b' off' m g) (hf : Limbs n f) (hg : Limbs m g) (hn : n ≤ 1000) (hm : m ≤ 1000) (hp : p < n + m)
    (s0 : 0 ≤ s) (s1 : s ≤ 1000000000000) (hfr : (fr = 0 ∧ ¬ (0 : Int) < (p : Int) - (m : Int) + 1) ∨ ((fr : Int) = (p : Int) - (m : Int) + 1 ∧ (0 : Int) < (p : Int) - (m : Int) + 1)) :
    Calls Tryd.prog 35 #[.slice (some ⟨b, off, none⟩) n cap, .slice (some ⟨b', off', none⟩) m cap', .int .i64 p, .int .u64 s] w fun e w' => ∃ lo, ∃ sq, e = .returned (.tuple #[.int .u64 lo, .int .u64 sq]) ∧
      (lo + sq * 1000000000000000000 = s + colk (limb n f) (limb m g) p n ∧ 0 ≤ lo ∧ lo < 8000000000000000000 ∧ 0 ≤ sq) ∧ ∃ q, w' = w.drewN q := by
  have HF : Hid (Limbs n f) := hf
  have HG : Hid (Limbs m g) := hg
  have HL : Hid (Lies w b off n f) := hL
  have HL' : Hid (Lies w b' off' m g) := hL'
  have HA : Hid (colk (limb n f) (limb m g) p fr = 0) := by
    show colk (limb n f) (limb m g) p fr = 0
    rcases hfr with ⟨rfl, _⟩ | ⟨e, _⟩
    · rfl
    · exact colk_ahead n m f g p fr (by omega)
  have hfn : fr ≤ n := by omega
  have hfp : fr ≤ p + 1 := by omega
  have hfm : p + 1 ≤ fr + m := by omega
  have hst : ∃ d : Bool, decide ((0 : Int) < (p : Int) - (m : Int) + 1) = d ∧ (d = true → (fr : Int) = (p : Int) - (m : Int) + 1) ∧ (d = false → fr = 0) := by
    rcases hfr with ⟨e, h⟩ | ⟨e, h⟩
    · exact ⟨false, decide_eq_false h, fun h => by (cases h), fun _ => e⟩
    · exact ⟨true, decide_eq_true h, fun _ => e, fun h => by (cases h)⟩
  clear hf hg hL hL'
  have main : ∀ d : Bool, decide ((0 : Int) < (p : Int) - (m : Int) + 1) = d → (d = true → (fr : Int) = (p : Int) - (m : Int) + 1) → (d = false → fr = 0) →
      Calls Tryd.prog 35 #[.slice (some ⟨b, off, none⟩) n cap, .slice (some ⟨b', off', none⟩) m cap', .int .i64 p, .int .u64 s] w fun e w' => ∃ lo, ∃ sq, e = .returned (.tuple #[.int .u64 lo, .int .u64 sq]) ∧
      (lo + sq * 1000000000000000000 = s + colk (limb n f) (limb m g) p n ∧ 0 ≤ lo ∧ lo < 8000000000000000000 ∧ 0 ≤ sq) ∧ ∃ q, w' = w.drewN q := by
    intro d hd
    cases d
    · intro _ h0
      have H0 : Hid (fr = 0) := h0 rfl
      clear h0
      have hd0 : ¬ (0 : Int) < (p : Int) - (m : Int) + 1 := of_decide_eq_false hd
      clear hfr hst hd
      go_enter Tryd.func35, Tryd.ntmps35
      go_wp2
      have HX : Hid (fr = fr) := rfl
      go_loopw [10, 11, 13] (fun lo sq i wr => ∃ (L S : Int) (k : Nat), lo = .int .u64 L ∧ sq = .int .u64 S ∧ i = .int .i64 k ∧ fr ≤ k ∧ k ≤ n ∧ k ≤ p + 1 ∧ Hid (L + S * 1000000000000000000 = s + colk (limb n f) (limb m g) p k) ∧ 0 ≤ L ∧ L < 8000000000000000000 ∧ 0 ≤ S ∧ ∃ q, wr = w.drewN q) (fun _ _ i _ => n - (intOf i).toNat)
      case atStart => exact ⟨s, 0, fr, rfl, rfl, by (have := H0.out; first | (rw [this]; rfl) | (simp only [Value.int.injEq, true_and]; omega)), Nat.le_refl _, hfn, hfp, by show s + 0 * 1000000000000000000 = _; rw [HA.out]; omega, s0, by omega, by omega, 0, rfl⟩
      case round =>
        obtain ⟨L, S, k, rfl, rfl, rfl, k0, k1, k2, HE, l0, l1, t0, q, rfl⟩ := hrel
        have t1 : S ≤ 2000 := by
          have h1 := HE.out
          have h2 := (colk_bd (limb_all HF.out) (limb_all HG.out) p k).2
          omega
        by_cases hlt : k < n
        · have i1 : (k : Int) < (n : Int) := by omega
          by_cases hlp : k ≤ p
          · have i2 : (k : Int) ≤ (p : Int) := by omega
            have c1 := HL.out.cell k hlt
            have c2 := HL'.out.cell (p - k) (by omega)
            have ez : ((p : Int) - (k : Int)).toNat = p - k := by omega
            have i3 : (p : Int) - (k : Int) < (m : Int) := by omega
            have bP := mul9 (f k) (g (p - k)) (HF.out k hlt).1 (HF.out k hlt).2 (HG.out (p - k) (by omega)).1 (HG.out (p - k) (by omega)).2
            have bx := HF.out k hlt
            have bg := HG.out (p - k) (by omega)
            have eP : colk (limb n f) (limb m g) p (k + 1) = colk (limb n f) (limb m g) p k + f k * g (p - k) := by
              show colk (limb n f) (limb m g) p k + _ = _
              rw [if_pos hlp]; simp [limb, hlt, show p - k < m by omega]
            obtain ⟨P, hP⟩ : ∃ P, f k * g (p - k) = P := ⟨_, rfl⟩
            rw [hP] at eP bP
            have HE2 : Hid (L + P + S * 1000000000000000000 = s + colk (limb n f) (limb m g) p (k + 1)) := by
              show L + P + S * 1000000000000000000 = s + colk (limb n f) (limb m g) p (k + 1)
              have := HE.out
              rw [eP]; omega
            generalize f k = x at *
            generalize g (p - k) = y at *
            obtain ⟨P0, P1⟩ := bP
            clear HE eP HX
            by_cases hr : L + P < 8000000000000000000
            · go_wp2_with fail
              go_quiet (fail)
              go_wp2
              go_roundw
              case rel => exact ⟨L + P, S, k + 1, by go_num, rfl, by go_num, by omega, by omega, by omega, HE2, by omega, by omega, t0, _, rfl⟩
              case measure => simp [intOf]; omega
            · go_wp2_with fail
              go_quiet (fail)
              go_wp2
              go_roundw
              case rel => exact ⟨L + P - 8000000000000000000, S + 8, k + 1, by go_num, by go_num, by go_num, by omega, by omega, by omega, by (show L + P - 8000000000000000000 + (S + 8) * 1000000000000000000 = _; have := HE2.out; omega), by omega, by omega, by omega, _, rfl⟩
              case measure => simp [intOf]; omega
          · have i2 : ¬ (k : Int) ≤ (p : Int) := by omega
            have e : k = p + 1 := by omega
            have HE2 : Hid (L + S * 1000000000000000000 = s + colk (limb n f) (limb m g) p n) := by
              have h1 := HE.out
              have h2 := colk_past (limb n f) (limb m g) p k (n - k) (by omega)
              rw [show k + (n - k) = n by omega] at h2
              show L + S * 1000000000000000000 = s + colk (limb n f) (limb m g) p n
              rw [h2]; exact h1
            clear HE e HX
            go_wp2
            go_ret2
            exact ⟨_, _, rfl, ⟨HE2.out, l0, l1, t0⟩, _, rfl⟩
        · have e : k = n := by omega
          subst e
          clear HX
          go_wp2
          go_ret2
          exact ⟨_, _, rfl, ⟨HE.out, l0, l1, t0⟩, _, rfl⟩
    · intro h0 _
      have H0 : Hid ((fr : Int) = (p : Int) - (m : Int) + 1) := h0 rfl
      clear h0
      have hd0 : (0 : Int) < (p : Int) - (m : Int) + 1 := of_decide_eq_true hd
      clear hfr hst hd
      go_enter Tryd.func35, Tryd.ntmps35
      go_wp2
      have HX : Hid (fr = fr) := rfl
      go_loopw [10, 11, 13] (fun lo sq i wr => ∃ (L S : Int) (k : Nat), lo = .int .u64 L ∧ sq = .int .u64 S ∧ i = .int .i64 k ∧ fr ≤ k ∧ k ≤ n ∧ k ≤ p + 1 ∧ Hid (L + S * 1000000000000000000 = s + colk (limb n f) (limb m g) p k) ∧ 0 ≤ L ∧ L < 8000000000000000000 ∧ 0 ≤ S ∧ ∃ q, wr = w.drewN q) (fun _ _ i _ => n - (intOf i).toNat)
      case atStart => exact ⟨s, 0, fr, rfl, rfl, by (have := H0.out; first | (rw [this]; rfl) | (simp only [Value.int.injEq, true_and]; omega)), Nat.le_refl _, hfn, hfp, by show s + 0 * 1000000000000000000 = _; rw [HA.out]; omega, s0, by omega, by omega, 0, rfl⟩
      case round =>
        obtain ⟨L, S, k, rfl, rfl, rfl, k0, k1, k2, HE, l0, l1, t0, q, rfl⟩ := hrel
        have t1 : S ≤ 2000 := by
          have h1 := HE.out
          have h2 := (colk_bd (limb_all HF.out) (limb_all HG.out) p k).2
          omega
        by_cases hlt : k < n
        · have i1 : (k : Int) < (n : Int) := by omega
          by_cases hlp : k ≤ p
          · have i2 : (k : Int) ≤ (p : Int) := by omega
            have c1 := HL.out.cell k hlt
            have c2 := HL'.out.cell (p - k) (by omega)
            have ez : ((p : Int) - (k : Int)).toNat = p - k := by omega
            have i3 : (p : Int) - (k : Int) < (m : Int) := by omega
            have bP := mul9 (f k) (g (p - k)) (HF.out k hlt).1 (HF.out k hlt).2 (HG.out (p - k) (by omega)).1 (HG.out (p - k) (by omega)).2
            have bx := HF.out k hlt
            have bg := HG.out (p - k) (by omega)
            have eP : colk (limb n f) (limb m g) p (k + 1) = colk (limb n f) (limb m g) p k + f k * g (p - k) := by
              show colk (limb n f) (limb m g) p k + _ = _
              rw [if_pos hlp]; simp [limb, hlt, show p - k < m by omega]
            obtain ⟨P, hP⟩ : ∃ P, f k * g (p - k) = P := ⟨_, rfl⟩
            rw [hP] at eP bP
            have HE2 : Hid (L + P + S * 1000000000000000000 = s + colk (limb n f) (limb m g) p (k + 1)) := by
              show L + P + S * 1000000000000000000 = s + colk (limb n f) (limb m g) p (k + 1)
              have := HE.out
              rw [eP]; omega
            generalize f k = x at *
            generalize g (p - k) = y at *
            obtain ⟨P0, P1⟩ := bP
            clear HE eP HX
            by_cases hr : L + P < 8000000000000000000
            · go_wp2_with fail
              go_quiet (fail)
              go_wp2
              go_roundw
              case rel => exact ⟨L + P, S, k + 1, by go_num, rfl, by go_num, by omega, by omega, by omega, HE2, by omega, by omega, t0, _, rfl⟩
              case measure => simp [intOf]; omega
            · go_wp2_with fail
              go_quiet (fail)
              go_wp2
              go_roundw
              case rel => exact ⟨L + P - 8000000000000000000, S + 8, k + 1, by go_num, by go_num, by go_num, by omega, by omega, by omega, by (show L + P - 8000000000000000000 + (S + 8) * 1000000000000000000 = _; have := HE2.out; omega), by omega, by omega, by omega, _, rfl⟩
              case measure => simp [intOf]; omega
          · have i2 : ¬ (k : Int) ≤ (p : Int) := by omega
            have e : k = p + 1 := by omega
            have HE2 : Hid (L + S * 1000000000000000000 = s + colk (limb n f) (limb m g) p n) := by
              have h1 := HE.out
              have h2 := colk_past (limb n f) (limb m g) p k (n - k) (by omega)
              rw [show k + (n - k) = n by omega] at h2
              show L + S * 1000000000000000000 = s + colk (limb n f) (limb m g) p n
              rw [h2]; exact h1
            clear HE e HX
            go_wp2
            go_ret2
            exact ⟨_, _, rfl, ⟨HE2.out, l0, l1, t0⟩, _, rfl⟩
        · have e : k = n := by omega
          subst e
          clear HX
          go_wp2
          go_ret2
          exact ⟨_, _, rfl, ⟨HE.out, l0, l1, t0⟩, _, rfl⟩
  obtain ⟨d, h1, h2, h3⟩ := hst
  exact main d h1 h2 h3
end Go.Proofs.YtpgdabpohbmodaaDoor

namespace Go.Proofs.YtpgdabpohbmodaaDoor
open Go.RowKit

set_option maxHeartbeats 800000 in
theorem column_none (a a' : Option Addr) (n cap m cap' p : Nat) (s : Int) (w : World) (hn : n ≤ 1000) (hm : m ≤ 1000) (hp : p < n + m) (h : n = 0 ∨ m = 0) :
    Calls Tryd.prog 35 #[.slice a n cap, .slice a' m cap', .int .i64 p, .int .u64 s] w fun e w' => e = .returned (.tuple #[.int .u64 s, .int .u64 0]) ∧ w = w' := by
  by_cases hd : (0 : Int) < (p : Int) - (m : Int) + 1
  · by_cases hlt : (p : Int) - (m : Int) + 1 < (n : Int)
    · have hx : ¬ (p : Int) - (m : Int) + 1 ≤ (p : Int) := by omega
      go_enter Tryd.func35, Tryd.ntmps35
      go_wp2
      refine wp_loop_rounds 1 ?_
      rw [rounds_succ]
      go_wp2
      go_ret2
      exact ⟨rfl, rfl⟩
    · go_enter Tryd.func35, Tryd.ntmps35
      go_wp2
      refine wp_loop_rounds 1 ?_
      rw [rounds_succ]
      go_wp2
      go_ret2
      exact ⟨rfl, rfl⟩
  · have hlt : ¬ (0 : Int) < (n : Int) := by omega
    go_enter Tryd.func35, Tryd.ntmps35
    go_wp2
    refine wp_loop_rounds 1 ?_
    rw [rounds_succ]
    go_wp2
    go_ret2
    exact ⟨rfl, rfl⟩

theorem colk_null (n m : Nat) (f g : Nat → Int) (p k : Nat) (h : n = 0 ∨ m = 0) : colk (limb n f) (limb m g) p k = 0 := by
  induction k with
  | zero => rfl
  | succ k ih =>
    unfold colk
    rw [ih]
    rcases h with rfl | rfl
    · simp [limb_z]
    · simp [limb_z]

theorem column_any (v0 v1 : Value) (n m p : Nat) (f g : Nat → Int) (s : Int) (w : World) (h0 : Row w v0 n f) (h1 : Row w v1 m g) (hf : Limbs n f) (hg : Limbs m g) (hn : n ≤ 1000) (hm : m ≤ 1000) (hp : p < n + m) (s0 : 0 ≤ s) (s1 : s ≤ 1000000000000) :
    Calls Tryd.prog 35 #[v0, v1, .int .i64 p, .int .u64 s] w fun e w' => ∃ lo, ∃ sq, e = .returned (.tuple #[.int .u64 lo, .int .u64 sq]) ∧
      (lo + sq * 1000000000000000000 = s + colk (limb n f) (limb m g) p n ∧ 0 ≤ lo ∧ lo < 8000000000000000000 ∧ 0 ≤ sq) ∧ ∃ q, w' = w.drewN q := by
  by_cases h : n = 0 ∨ m = 0
  · obtain ⟨a, cap, rfl, _⟩ := h0.shape
    obtain ⟨a', cap', rfl, _⟩ := h1.shape
    refine (column_none a a' n cap m cap' p s w hn hm hp h).mono ?_
    rintro e w' ⟨rfl, rfl⟩
    refine ⟨s, 0, rfl, ⟨?_, s0, by omega, by omega⟩, 0, rfl⟩
    rw [colk_null n m f g p n h]; omega
  · obtain ⟨b, off, cap, rfl, _, _, hL⟩ := h0.lies (by omega)
    obtain ⟨b', off', cap', rfl, _, _, hL'⟩ := h1.lies (by omega)
    refine column_at b off n cap b' off' m cap' p (if (0 : Int) < (p : Int) - (m : Int) + 1 then p + 1 - m else 0) f g s w hL hL' hf hg hn hm hp s0 s1 ?_
    by_cases hd : (0 : Int) < (p : Int) - (m : Int) + 1
    · rw [if_pos hd]; exact .inr ⟨by omega, hd⟩
    · rw [if_neg hd]; exact .inl ⟨rfl, hd⟩

/-- The columns of a product. -/
def cols (n m : Nat) (f g : Nat → Int) : Nat → Int := fun p => colk (limb n f) (limb m g) p n
def null : Nat → Int := fun _ => 0
theorem nS_bd (n : Nat) (x c : Int) (h : 0 ≤ x ∧ x ≤ n * 999999998000000001) (hc : 0 ≤ c ∧ c ≤ n * 1000000000) : 0 ≤ nS x 0 c ∧ nS x 0 c ≤ n * 1000000000 := by
  unfold nS
  omega
theorem prod_carr {n m : Nat} {f g : Nat → Int} (hf : Limbs n f) (hg : Limbs m g) (k : Nat) : 0 ≤ carr nS (cols n m f g) null k ∧ carr nS (cols n m f g) null k ≤ n * 1000000000 := by
  induction k with
  | zero => show (0 : Int) ≤ 0 ∧ (0 : Int) ≤ _; omega
  | succ k ih => exact nS_bd n (cols n m f g k) _ (colk_bd (limb_all hf) (limb_all hg) k n) ih
theorem prod_outs {n m : Nat} {f g : Nat → Int} (N : Nat) : All9 (outs dS nS (cols n m f g) null N) := by
  intro i
  unfold outs
  split
  · unfold dS; omega
  · omega
theorem prod_val {n m : Nat} {f g : Nat → Int} (hf : Limbs n f) (hg : Limbs m g) : val (outs dS nS (cols n m f g) null (n + m)) (n + m) = val f n * val g m := by
  have h1 := sum_val (f := cols n m f g) (g := null) (n + m) (n + m) (Nat.le_refl _)
  have h2 : val (cols n m f g) (n + m) = val f n * val g m := by
    have := col_val (limb n f) (limb m g) m (n + m) n (fun i hi => limb_z m g i hi) (Nat.le_refl _)
    rw [limb_val (Nat.le_refl _), limb_val (Nat.le_refl _)] at this
    exact this
  have h3 : val null (n + m) = 0 := val_null _
  rw [h2, h3] at h1
  have h4 := val_nonneg (all_limbs (prod_outs (n := n) (m := m) (f := f) (g := g) (n + m)) (n + m))
  have h5 := (prod_carr hf hg (n + m)).1
  have h6 : val f n * val g m < pw (n + m) := by
    rw [pw_add]
    have a1 := val_nonneg hf
    have a2 := val_lt hf
    have a3 := val_nonneg hg
    have a4 := val_lt hg
    have b1 : val f n * val g m ≤ val f n * pw m := Int.mul_le_mul_of_nonneg_left (by omega) a1
    have b2 : val f n * pw m < pw n * pw m := Int.mul_lt_mul_of_pos_right a2 (by have := pw_pos m; omega)
    omega
  generalize carr nS (cols n m f g) null (n + m) = c at *
  by_cases e : c = 0
  · rw [e] at h1; omega
  · have : 1 * pw (n + m) ≤ c * pw (n + m) := Int.mul_le_mul_of_nonneg_right (by omega) (by have := pw_pos (n + m); omega)
    omega

set_option maxHeartbeats 800000 in
theorem product_any (v0 v1 : Value) (n m : Nat) (f g : Nat → Int) (w : World) (h0 : Row w v0 n f) (h1 : Row w v1 m g) (hf : Limbs n f) (hg : Limbs m g) (hn : n ≤ 1000) (hm : m ≤ 1000) :
    Calls Tryd.prog 26 #[v0, v1] w fun e w' => ∃ r, e = .returned r ∧ Num w' r (val f n * val g m) ∧ Below w.heap.size w w' := by
  have hmk := make_row w (n + m) (by omega)
  have HO : Hid (Own (w.alloc (.cells (madeCells #[.int .u32 0] (n + m)) 39)) w.heap.size w.heap.size (n + m) (fun _ => 0)) := make_own w w.heap.size (n + m) (Nat.le_refl _) (by unfold maxLen; omega)
  have HB : Hid (Below w.heap.size w (w.alloc (.cells (madeCells #[.int .u32 0] (n + m)) 39))) := one_below w _
  have HV : Hid (val (outs dS nS (cols n m f g) null (n + m)) (n + m) = val f n * val g m) := prod_val hf hg
  rw [show ((n + m : Nat) : Int) = (n : Int) + (m : Int) from by omega] at hmk
  obtain ⟨a, cap, e0, _⟩ := h0.shape
  obtain ⟨a', cap', e1, _⟩ := h1.shape
  have H0 : Hid (Row w v0 n f) := h0
  have H1 : Hid (Row w v1 m g) := h1
  have HF : Hid (Limbs n f) := hf
  have HG : Hid (Limbs m g) := hg
  clear h0 h1 hf hg
  subst e0 e1
  go_enter Tryd.func26, Tryd.ntmps26
  go_wp2
  clear hmk
  go_loopw [6, 18] (fun cy i wr => ∃ k : Nat, k ≤ n + m ∧ cy = .int .u64 (carr nS (cols n m f g) null k) ∧ i = .int .i64 k ∧ Hid (Own wr w.heap.size w.heap.size (n + m) (outs dS nS (cols n m f g) null k)) ∧ Hid (Below w.heap.size w wr)) (fun _ i _ => n + m - (intOf i).toNat)
  case atStart => exact ⟨0, Nat.zero_le _, rfl, rfl, HO.out, HB.out⟩
  case round =>
    obtain ⟨k, hk, rfl, rfl, HO2, HB2⟩ := hrel
    by_cases hlt : k < n + m
    · have hI : (k : Int) < (n : Int) + (m : Int) := by omega
      have bc := prod_carr HF.out HG.out k
      have hc := column_any _ _ n m k f g (carr nS (cols n m f g) null k) wr (H0.out.below HB2.out) (H1.out.below HB2.out) HF.out HG.out hn hm hlt bc.1 (by omega)
      have HN : Hid (carr nS (cols n m f g) null (k + 1) = nS (cols n m f g k) 0 (carr nS (cols n m f g) null k)) := rfl
      have HD : Hid (upd (outs dS nS (cols n m f g) null k) k (dS (cols n m f g k) 0 (carr nS (cols n m f g) null k)) = outs dS nS (cols n m f g) null (k + 1)) := outs_succ _ _ _ _ _
      have eC : cols n m f g k = colk (limb n f) (limb m g) k n := rfl
      rw [← eC] at hc
      have bcol := (colk_bd (limb_all HF.out) (limb_all HG.out) k n).2
      rw [← eC] at bcol
      clear eC
      generalize carr nS (cols n m f g) null k = c at *
      generalize cols n m f g k = x at *
      go_wp2_with fail
      refine hc.mono ?_
      rintro e w' ⟨lo, sq, rfl, ⟨he, l0, l1, t0⟩, q, rfl⟩
      have eD : Hid (lo % 1000000000 = dS x 0 c) := by show lo % 1000000000 = dS x 0 c; unfold dS; omega
      have eN : Hid (lo / 1000000000 + sq * 1000000000 = nS x 0 c) := by show lo / 1000000000 + sq * 1000000000 = nS x 0 c; unfold nS; omega
      have HO3 : Hid (Own (wr.drewN q) w.heap.size w.heap.size (n + m) (outs dS nS (cols n m f g) null k)) := HO2.out
      have HB3 : Hid (Below w.heap.size w (wr.drewN q)) := below_drewN HB2.out q
      have c3 := HO3.out.cell k hlt
      have f3 := HO3.out.free k
      have HO4 : Hid (Own ((wr.drewN q).setCell ⟨w.heap.size, k, none⟩ (.int .u32 (lo % 1000000000))) w.heap.size w.heap.size (n + m) (outs dS nS (cols n m f g) null (k + 1))) := by
        have := HO3.out.stored k (lo % 1000000000)
        rw [eD.out, HD.out] at this
        rw [← eD.out] at this
        exact this
      have HB4 : Hid (Below w.heap.size w ((wr.drewN q).setCell ⟨w.heap.size, k, none⟩ (.int .u32 (lo % 1000000000)))) := HB3.out.setCell (Nat.le_refl _) _
      have tq : sq ≤ 1001 := by omega
      have HC : Hid (carr nS (cols n m f g) null (k + 1) = lo / 1000000000 + sq * 1000000000) := by show carr nS (cols n m f g) null (k + 1) = _; rw [HN.out, eN.out]
      clear hc HO2 HB2 HO3 HB3 HD HN eD eN he bcol
      generalize outs dS nS (cols n m f g) null k k = z at *
      go_wp2
      go_roundw
      case rel => exact ⟨k + 1, by omega, by rw [HC.out], by go_num, HO4, HB4⟩
      case measure => simp [intOf]; omega
    · have e : k = n + m := by omega
      subst e
      have bds := prod_outs (n := n) (m := m) (f := f) (g := g) (n + m)
      have ht := trimmed_any _ (n + m) _ wr (HO2.out.row (fun i => (bds i).1) (fun i => by have := (bds i).2; omega) (by unfold maxLen; omega))
      clear bds
      generalize carr nS (cols n m f g) null (n + m) = c at *
      go_wp2_with fail
      refine ht.mono ?_
      rintro e w' ⟨r, rfl, hr, rfl⟩
      clear ht
      go_wp2
      go_ret
      exact ⟨_, rfl, num_of_trim (prod_outs _) hr HV.out, HB2.out⟩

set_option maxHeartbeats 400000 in
theorem mul_ok (v0 v1 : Value) (A B : Int) (n m : Nat) (f g : Nat → Int) (w : World) (h0 : Row w v0 n f) (h1 : Row w v1 m g) (hf : Can n f) (hg : Can m g) (eA : val f n = A) (eB : val g m = B) (hn : n ≤ 1000) (hm : m ≤ 1000) :
    Calls Tryd.prog 18 #[v0, v1] w fun e w' => ∃ r, e = .returned (.tuple #[r, .int .i64 0]) ∧ Num w' r (A * B) ∧ Below w.heap.size w w' := by
  have hk := (checked_new v0 v1 n m f g w h0 h1).1 hf hg
  have hs := product_any v0 v1 n m f g _ (h0.alloc (.cells #[v0, v1] 22)) (h1.alloc _) hf.1 hg.1 hn hm
  rw [eA, eB] at hs
  obtain ⟨a, cap, rfl, _⟩ := h0.shape
  obtain ⟨a', cap', rfl, _⟩ := h1.shape
  clear h0 h1 hf hg eA eB
  generalize A * B = V at *
  go_enter Tryd.func18, Tryd.ntmps18
  go_wp2_with fail
  refine hk.mono ?_
  rintro e w' ⟨rfl, rfl⟩
  go_wp2_with fail
  refine hs.mono ?_
  rintro e w' ⟨r, rfl, hr, hbl⟩
  go_wp2
  go_ret2
  exact ⟨_, rfl, hr, below_from_alloc hbl⟩
end Go.Proofs.YtpgdabpohbmodaaDoor

namespace Go.Proofs.YtpgdabpohbmodaaDoor
open Go.RowKit

set_option maxHeartbeats 400000 in
theorem joinL_any (x r y : Int) (c cb : Nat) (w : World) (hc : w.heap[c]? = some (.cells #[.int .u64 r] 51 (0, 0))) (hcb : w.heap[cb]? = some (.cells #[.int .u64 y] 51 (0, 0))) (hne : cb ≠ c) (x0 : 0 ≤ x) (x1 : x < 1000000000) (y0 : 0 < y) (y1 : y < 1000000000) (r0 : 0 ≤ r) (r1 : r < y) :
    Calls Tryd.prog 52 #[.int .u64 x, .pointer (some ⟨c, 0, none⟩), .pointer (some ⟨cb, 0, none⟩)] w fun e w' => e = .returned (.int .u64 ((r * 1000000000 + x) / y)) ∧ w' = w.setCell ⟨c, 0, none⟩ (.int .u64 ((r * 1000000000 + x) % y)) := by
  have cc := cell_of_one hc
  have cf := free_of_one hc
  have bb := cell_of_one hcb
  have yz : (y == 0) = false := by simp; omega
  have ez : (w.setCell ⟨c, 0, none⟩ (.int .u64 ((r * 1000000000 + x) % y))).cell? ⟨cb, 0, none⟩ = some (.int .u64 y) := by
    rw [cell_of_one (t := 51)]
    rw [Below.heap_setCell _ _ _ _ (by simpa using hne)]; exact hcb
  have em : (r * 1000000000 + x).tmod y = (r * 1000000000 + x) % y := Int.tmod_eq_emod_of_nonneg (by omega)
  have ed : (r * 1000000000 + x).tdiv y = (r * 1000000000 + x) / y := Int.tdiv_eq_ediv_of_nonneg (by omega)
  have m0 := Int.emod_nonneg (r * 1000000000 + x) (show y ≠ 0 by omega)
  have m1 := Int.emod_lt_of_pos (r * 1000000000 + x) y0
  have d0 : 0 ≤ (r * 1000000000 + x) / y := Int.ediv_nonneg (by omega) (by omega)
  have d1 : (r * 1000000000 + x) / y ≤ r * 1000000000 + x := Int.ediv_le_self _ (by omega)
  clear hc hcb
  go_enter Tryd.func52, Tryd.ntmps52
  go_wp2
  go_ret
  exact ⟨rfl, rfl⟩

theorem val_upd (g : Nat → Int) (n t : Nat) (q : Int) (ht : t < n) (h0 : g t = 0) : val (upd g t q) n = val g n + q * pw t := by
  induction n with
  | zero => omega
  | succ n ih =>
    rw [val_succ, val_succ]
    by_cases e : t = n
    · subst e
      rw [val_congr (f := upd g t q) (g := g) (fun i hi => by simp [upd, show ¬ i = t by omega])]
      simp [upd, h0]
    · rw [ih (by omega)]
      simp only [upd, show ¬ n = t by omega, if_false]
      omega
theorem div_step (p x y r q r' V W : Int) (h : r * 1000000000 + x = q * y + r') (hV : W = x * p + V * y + p * 1000000000 * r) : W = (V + q * p) * y + p * r' := by
  have h1 : p * (r * 1000000000 + x) = p * (q * y + r') := by rw [h]
  rw [hV]
  simp only [Int.mul_add, Int.mul_comm, Int.mul_left_comm] at h1 ⊢
  omega
theorem upd_all {g : Nat → Int} (h : All9 g) (t : Nat) (q : Int) (q0 : 0 ≤ q) (q1 : q < 1000000000) : All9 (upd g t q) := by
  intro i
  unfold upd
  split
  · exact ⟨q0, q1⟩
  · exact h i

set_option maxHeartbeats 800000 in
theorem downward_any (v0 : Value) (n c cb : Nat) (f : Nat → Int) (y : Int) (w0 w : World) (hB : Below w0.heap.size w0 w) (h0 : Row w0 v0 n f) (hf : Limbs n f) (y0 : 0 < y) (y1 : y < 1000000000)
    (hc : w.heap[c]? = some (.cells #[.int .u64 0] 51 (0, 0))) (hcb : w.heap[cb]? = some (.cells #[.int .u64 y] 51 (0, 0))) (hne : cb ≠ c) (hcB : w0.heap.size ≤ c) (hn : 4 * n ≤ 281474976710656) :
    Calls Tryd.prog 51 #[v0, .func (.func 52) #[] #[.pointer (some ⟨c, 0, none⟩), .pointer (some ⟨cb, 0, none⟩)]] w fun e w' => ∃ r, e = .returned r ∧
      (∃ Q R, Num w' r Q ∧ w'.heap[c]? = some (.cells #[.int .u64 R] 51 (0, 0)) ∧ val f n = Q * y + R ∧ 0 ≤ R ∧ R < y) ∧ Below w0.heap.size w0 w' := by
  have hmk := make_row w n hn
  have lc : c < w.heap.size := lt_of_block hc
  have lcb : cb < w.heap.size := lt_of_block hcb
  have HO : Hid (Own (w.alloc (.cells (madeCells #[.int .u32 0] n) 39)) w.heap.size w.heap.size n (fun _ => 0)) := make_own w w.heap.size n (Nat.le_refl _) (by unfold maxLen; omega)
  have HC : Hid ((w.alloc (.cells (madeCells #[.int .u32 0] n) 39)).heap[c]? = some (.cells #[.int .u64 0] 51 (0, 0))) := by
    show (w.alloc _).heap[c]? = _
    rw [Below.heap_alloc _ _ _ lc]; exact hc
  have HCB : Hid ((w.alloc (.cells (madeCells #[.int .u32 0] n) 39)).heap[cb]? = some (.cells #[.int .u64 y] 51 (0, 0))) := by
    show (w.alloc _).heap[cb]? = _
    rw [Below.heap_alloc _ _ _ lcb]; exact hcb
  have HB : Hid (Below w0.heap.size w0 (w.alloc (.cells (madeCells #[.int .u32 0] n) 39))) := hB.alloc hB.size _
  have hz := hB.size
  have hm : n ≤ maxLen := by unfold maxLen; omega
  obtain ⟨a, cap, e0, _⟩ := h0.shape
  have H0 : Hid (Row w0 v0 n f) := h0
  have HF : Hid (Limbs n f) := hf
  clear hc hcb h0 hf
  subst e0
  go_enter Tryd.func51, Tryd.ntmps51
  go_wp2
  clear hmk
  go_loopw [6] (fun i wr => ∃ j : Nat, j ≤ n ∧ i = .int .i64 ((j : Int) - 1) ∧ Hid (∃ g r, Own wr w.heap.size w.heap.size n g ∧ All9 g ∧ (∀ i, i < j → g i = 0) ∧ wr.heap[c]? = some (.cells #[.int .u64 r] 51 (0, 0)) ∧ 0 ≤ r ∧ r < y ∧ val f n = val f j + val g n * y + pw j * r) ∧ Hid (wr.heap[cb]? = some (.cells #[.int .u64 y] 51 (0, 0))) ∧ Hid (Below w0.heap.size w0 wr)) (fun i _ => (intOf i + 1).toNat)
  case atStart => exact ⟨n, Nat.le_refl _, rfl, ⟨_, 0, HO.out, fun _ => by (show (0 : Int) ≤ 0 ∧ (0 : Int) < _; omega), fun _ _ => rfl, HC.out, by omega, y0, by rw [val_null]; simp⟩, HCB.out, HB.out⟩
  case round =>
    obtain ⟨j, hj, rfl, HI, HCB2, HB2⟩ := hrel
    obtain ⟨g, r, o2, a9, gz, c2, r0, r1, ev⟩ := HI.out
    by_cases hlt : 0 < j
    · obtain ⟨t, rfl⟩ : ∃ t, j = t + 1 := ⟨j - 1, by omega⟩
      obtain ⟨b, off, cap', eS, _, _, hL⟩ := (H0.out.below HB2.out).lies (by omega)
      obtain ⟨rfl, rfl⟩ : a = some ⟨b, off, none⟩ ∧ cap = cap' := by simpa using eS
      have c1 := hL.cell t (by omega)
      have bx := HF.out t (by omega)
      have hd := joinL_any (f t) r y c cb wr c2 HCB2.out hne bx.1 bx.2 y0 y1 r0 r1
      have ediv := Int.mul_ediv_add_emod (r * 1000000000 + f t) y
      have m0 := Int.emod_nonneg (r * 1000000000 + f t) (show y ≠ 0 by omega)
      have m1 := Int.emod_lt_of_pos (r * 1000000000 + f t) y0
      have d0 : 0 ≤ (r * 1000000000 + f t) / y := Int.ediv_nonneg (by omega) (by omega)
      have d1 : (r * 1000000000 + f t) / y < 1000000000 := Int.ediv_lt_of_lt_mul y0 (by omega)
      rw [val_succ, pw_succ] at ev
      generalize (r * 1000000000 + f t) / y = q at *
      generalize (r * 1000000000 + f t) % y = r' at *
      have o3 : Own (wr.setCell ⟨c, 0, none⟩ (.int .u64 r')) w.heap.size w.heap.size n g := ownsRow_setCell_below o2 (by simpa using lc) _
      have c3 : (wr.setCell ⟨c, 0, none⟩ (.int .u64 r')).heap[c]? = some (.cells #[.int .u64 r'] 51 (0, 0)) := one_setCell c2
      have cb3 : (wr.setCell ⟨c, 0, none⟩ (.int .u64 r')).heap[cb]? = some (.cells #[.int .u64 y] 51 (0, 0)) := by rw [Below.heap_setCell _ _ _ _ (by simpa using hne)]; exact HCB2.out
      have b3 : Below w0.heap.size w0 (wr.setCell ⟨c, 0, none⟩ (.int .u64 r')) := HB2.out.setCell (by simpa using hcB) _
      obtain ⟨w3, hw3⟩ : ∃ w3, w3 = wr.setCell ⟨c, 0, none⟩ (.int .u64 r') := ⟨_, rfl⟩
      rw [← hw3] at o3 c3 cb3 b3 hd
      have k3 := o3.cell t (by omega)
      have f3 := o3.free t
      have HI2 : Hid (∃ g r, Own (w3.setCell ⟨w.heap.size, t, none⟩ (.int .u32 q)) w.heap.size w.heap.size n g ∧ All9 g ∧ (∀ i, i < t → g i = 0) ∧ (w3.setCell ⟨w.heap.size, t, none⟩ (.int .u32 q)).heap[c]? = some (.cells #[.int .u64 r] 51 (0, 0)) ∧ 0 ≤ r ∧ r < y ∧ val f n = val f t + val g n * y + pw t * r) := by
        refine ⟨upd g t q, r', o3.stored t q, upd_all a9 t q d0 d1, fun i hi => ?_, ?_, m0, m1, ?_⟩
        · rw [show upd g t q i = g i by simp [upd, show ¬ i = t by omega]]; exact gz i (by omega)
        · rw [Below.heap_setCell _ _ _ _ (by simp; omega)]; exact c3
        · rw [val_upd g n t q (by omega) (gz t (by omega))]
          have := div_step (pw t) (f t) y r q r' (val g n) (val f n - val f t) (by rw [← ediv, Int.mul_comm y q]) (by rw [ev]; omega)
          omega
      have HCB4 : Hid ((w3.setCell ⟨w.heap.size, t, none⟩ (.int .u32 q)).heap[cb]? = some (.cells #[.int .u64 y] 51 (0, 0))) := by
        show (w3.setCell ⟨w.heap.size, t, none⟩ (.int .u32 q)).heap[cb]? = _
        rw [Below.heap_setCell _ _ _ _ (by simp; omega)]; exact cb3
      have HB4 : Hid (Below w0.heap.size w0 (w3.setCell ⟨w.heap.size, t, none⟩ (.int .u32 q))) := b3.setCell (by simpa using hz) _
      have i0 : ((t + 1 : Nat) : Int) - 1 = (t : Int) := by omega
      have i1 : (t : Int) < (n : Int) := by omega
      clear hw3 HI HCB2 HB2 o2 a9 gz c2 ev o3 c3 cb3 b3 ediv
      generalize f t = x at *
      generalize g t = z at *
      rw [i0]
      go_wp2_with fail
      refine hd.mono ?_
      rintro e w' ⟨rfl, rfl⟩
      clear hd
      go_wp2
      go_roundw
      case rel => exact ⟨t, by omega, by go_num, HI2, HCB4, HB4⟩
      case measure => simp [intOf]
    · have e : j = 0 := by omega
      subst e
      have hrow := o2.row (fun i => (a9 i).1) (fun i => by have := (a9 i).2; omega) hm
      have ht := trimmed_any _ n _ wr hrow
      have HE : Hid (∀ rv, (∃ m', Row wr rv m' g ∧ Trims n g m') → (∃ Q R, Num wr rv Q ∧ wr.heap[c]? = some (.cells #[.int .u64 R] 51 (0, 0)) ∧ val f n = Q * y + R ∧ 0 ≤ R ∧ R < y)) := by
        intro rv h
        refine ⟨val g n, r, num_of_trim a9 h rfl, c2, ?_, r0, r1⟩
        rw [val_zero, pw_zero] at ev; omega
      clear HI o2 a9 gz c2 ev hrow
      go_wp2_with fail
      refine ht.mono ?_
      rintro e w' ⟨rv, rfl, hr, rfl⟩
      clear ht
      go_wp2
      go_ret
      exact ⟨_, rfl, HE.out _ hr, HB2.out⟩

/-- One limb as a number. -/
theorem num_one (w : World) (x : Int) (x0 : 0 ≤ x) (x1 : x < 1000000000) : Row (w.alloc (.cells #[.int .u32 x] 39)) (.slice (some ⟨w.heap.size, 0, none⟩) 1 1) 1 (fun _ => x) :=
  .inr ⟨_, 0, 1, rfl, Nat.le_refl _, by simp [maxLen], ⟨fun i hi => by
    match i, hi with
    | 0, _ => simp, fun _ => x0, fun _ => by omega⟩⟩

set_option maxHeartbeats 800000 in
theorem byLimb_any (v0 : Value) (n : Nat) (f : Nat → Int) (y : Int) (w : World) (h0 : Row w v0 n f) (hf : Limbs n f) (y0 : 0 < y) (y1 : y < 1000000000) (hn : 4 * n ≤ 281474976710656) :
    Calls Tryd.prog 37 #[v0, .int .u64 y] w fun e w' => ∃ rq, ∃ rr, e = .returned (.tuple #[rq, rr]) ∧ (∃ Q R, Num w' rq Q ∧ Num w' rr R ∧ val f n = Q * y + R ∧ 0 ≤ R ∧ R < y) ∧ Below w.heap.size w w' := by
  have b1 : Below w.heap.size w (w.alloc (.cells #[.int .u64 y] 51)) := one_below w _
  have b2 : Below w.heap.size w ((w.alloc (.cells #[.int .u64 y] 51)).alloc (.cells #[.int .u64 0] 51)) := b1.alloc b1.size _
  have k2 := heap_alloc_new (w.alloc (.cells #[.int .u64 y] 51)) (.cells #[.int .u64 0] 51)
  have k1 : ((w.alloc (.cells #[.int .u64 y] 51)).alloc (.cells #[.int .u64 0] 51)).heap[w.heap.size]? = some (.cells #[.int .u64 y] 51 (0, 0)) := by
    rw [Below.heap_alloc _ _ _ (by simp)]; exact heap_alloc_new w _
  have hs : (w.alloc (.cells #[.int .u64 y] 51)).heap.size = w.heap.size + 1 := by simp
  rw [hs] at k2
  have hd := downward_any v0 n (w.heap.size + 1) w.heap.size f y w _ b2 h0 hf y0 y1 k2 k1 (by omega) (by omega) hn
  obtain ⟨a, cap, rfl, _⟩ := h0.shape
  clear b1 b2 k1 k2 h0 hf hs
  go_enter Tryd.func37, Tryd.ntmps37
  go_wp2_with fail
  refine hd.mono ?_
  rintro e w3 ⟨rq, rfl, ⟨Q, R, hq, hc, hv, R0, R1⟩, hb3⟩
  have cc := cell_of_one hc
  have ht := trimmed_any _ 1 _ (w3.alloc (.cells #[.int .u32 R] 39)) (num_one w3 R R0 (by omega))
  have HQ : Hid (Num w3 rq Q) := hq
  have HV : Hid (val f n = Q * y + R) := hv
  clear hd hc hq hv
  go_wp2_with fail
  refine ht.mono ?_
  rintro e w4 ⟨rr, rfl, hr, rfl⟩
  go_wp2
  go_ret2
  refine ⟨_, _, rfl, ⟨Q, R, HQ.out.below (one_below w3 _), num_of_trim (g := fun _ => R) (N := 1) (fun _ => ⟨R0, show R < 1000000000 by omega⟩) hr (by simp [val, pw_zero]), HV.out, R0, R1⟩, hb3.alloc hb3.size _⟩
end Go.Proofs.YtpgdabpohbmodaaDoor
