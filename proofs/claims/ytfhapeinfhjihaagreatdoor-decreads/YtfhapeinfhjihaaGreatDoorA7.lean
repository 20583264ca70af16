/-
  What nat.product and nat.Mul answer. Conditions: the numbers have at most 1000 limbs each.
-/
import Derived.Test.YtfhapeinfhjihaaGreatDoorA6
namespace Go.Proofs.YtfhapeinfhjihaaGreatDoor
open Go.RowKit

set_option maxHeartbeats 800000 in
theorem column_none (a a' : Option Addr) (n cap m cap' p : Nat) (s : Int) (w : World) (hn : n ≤ 1000) (hm : m ≤ 1000) (hp : p < n + m) (h : n = 0 ∨ m = 0) :
    Calls Tryz.prog 69 #[.slice a n cap, .slice a' m cap', .int .i64 p, .int .u64 s] w fun e w' => e = .returned (.tuple #[.int .u64 s, .int .u64 0]) ∧ w = w' := by
  by_cases hd : (0 : Int) < (p : Int) - (m : Int) + 1
  · by_cases hlt : (p : Int) - (m : Int) + 1 < (n : Int)
    · have hx : ¬ (p : Int) - (m : Int) + 1 ≤ (p : Int) := by omega
      go_enter Tryz.func69, Tryz.ntmps69
      go_wp2
      refine wp_loop_rounds 1 ?_
      rw [rounds_succ]
      go_wp2
      go_ret2
      exact ⟨rfl, rfl⟩
    · go_enter Tryz.func69, Tryz.ntmps69
      go_wp2
      refine wp_loop_rounds 1 ?_
      rw [rounds_succ]
      go_wp2
      go_ret2
      exact ⟨rfl, rfl⟩
  · have hlt : ¬ (0 : Int) < (n : Int) := by omega
    go_enter Tryz.func69, Tryz.ntmps69
    go_wp2
    refine wp_loop_rounds 1 ?_
    rw [rounds_succ]
    go_wp2
    go_ret2
    exact ⟨rfl, rfl⟩

theorem colk_null (n m : Nat) (f g : Nat → Int) (p k : Nat) (h : n = 0 ∨ m = 0) : colk (limb n f) (limb m g) p k = 0 := by
  induction k with
  | zero => rfl
  | succ k ih =>
    unfold colk
    rw [ih]
    rcases h with rfl | rfl
    · simp [limb_z]
    · simp [limb_z]

theorem column_any (v0 v1 : Value) (n m p : Nat) (f g : Nat → Int) (s : Int) (w : World) (h0 : Row w v0 n f) (h1 : Row w v1 m g) (hf : Limbs n f) (hg : Limbs m g) (hn : n ≤ 1000) (hm : m ≤ 1000) (hp : p < n + m) (s0 : 0 ≤ s) (s1 : s ≤ 1000000000000) :
    Calls Tryz.prog 69 #[v0, v1, .int .i64 p, .int .u64 s] w fun e w' => ∃ lo, ∃ sq, e = .returned (.tuple #[.int .u64 lo, .int .u64 sq]) ∧
      (lo + sq * 1000000000000000000 = s + colk (limb n f) (limb m g) p n ∧ 0 ≤ lo ∧ lo < 8000000000000000000 ∧ 0 ≤ sq) ∧ ∃ q, w' = w.drewN q := by
  by_cases h : n = 0 ∨ m = 0
  · obtain ⟨a, cap, rfl, _⟩ := h0.shape
    obtain ⟨a', cap', rfl, _⟩ := h1.shape
    refine (column_none a a' n cap m cap' p s w hn hm hp h).mono ?_
    rintro e w' ⟨rfl, rfl⟩
    refine ⟨s, 0, rfl, ⟨?_, s0, by omega, by omega⟩, 0, rfl⟩
    rw [colk_null n m f g p n h]; omega
  · obtain ⟨b, off, cap, rfl, _, _, hL⟩ := h0.lies (by omega)
    obtain ⟨b', off', cap', rfl, _, _, hL'⟩ := h1.lies (by omega)
    refine column_at b off n cap b' off' m cap' p (if (0 : Int) < (p : Int) - (m : Int) + 1 then p + 1 - m else 0) f g s w hL hL' hf hg hn hm hp s0 s1 ?_
    by_cases hd : (0 : Int) < (p : Int) - (m : Int) + 1
    · rw [if_pos hd]; exact .inr ⟨by omega, hd⟩
    · rw [if_neg hd]; exact .inl ⟨rfl, hd⟩

/-- The columns of a product. -/
def cols (n m : Nat) (f g : Nat → Int) : Nat → Int := fun p => colk (limb n f) (limb m g) p n
def null : Nat → Int := fun _ => 0
theorem nS_bd (n : Nat) (x c : Int) (h : 0 ≤ x ∧ x ≤ n * 999999998000000001) (hc : 0 ≤ c ∧ c ≤ n * 1000000000) : 0 ≤ nS x 0 c ∧ nS x 0 c ≤ n * 1000000000 := by
  unfold nS
  omega
theorem prod_carr {n m : Nat} {f g : Nat → Int} (hf : Limbs n f) (hg : Limbs m g) (k : Nat) : 0 ≤ carr nS (cols n m f g) null k ∧ carr nS (cols n m f g) null k ≤ n * 1000000000 := by
  induction k with
  | zero => show (0 : Int) ≤ 0 ∧ (0 : Int) ≤ _; omega
  | succ k ih => exact nS_bd n (cols n m f g k) _ (colk_bd (limb_all hf) (limb_all hg) k n) ih
theorem prod_outs {n m : Nat} {f g : Nat → Int} (N : Nat) : All9 (outs dS nS (cols n m f g) null N) := by
  intro i
  unfold outs
  split
  · unfold dS; omega
  · omega
theorem prod_val {n m : Nat} {f g : Nat → Int} (hf : Limbs n f) (hg : Limbs m g) : val (outs dS nS (cols n m f g) null (n + m)) (n + m) = val f n * val g m := by
  have h1 := sum_val (f := cols n m f g) (g := null) (n + m) (n + m) (Nat.le_refl _)
  have h2 : val (cols n m f g) (n + m) = val f n * val g m := by
    have := col_val (limb n f) (limb m g) m (n + m) n (fun i hi => limb_z m g i hi) (Nat.le_refl _)
    rw [limb_val (Nat.le_refl _), limb_val (Nat.le_refl _)] at this
    exact this
  have h3 : val null (n + m) = 0 := val_null _
  rw [h2, h3] at h1
  have h4 := val_nonneg (all_limbs (prod_outs (n := n) (m := m) (f := f) (g := g) (n + m)) (n + m))
  have h5 := (prod_carr hf hg (n + m)).1
  have h6 : val f n * val g m < pw (n + m) := by
    rw [pw_add]
    have a1 := val_nonneg hf
    have a2 := val_lt hf
    have a3 := val_nonneg hg
    have a4 := val_lt hg
    have b1 : val f n * val g m ≤ val f n * pw m := Int.mul_le_mul_of_nonneg_left (by omega) a1
    have b2 : val f n * pw m < pw n * pw m := Int.mul_lt_mul_of_pos_right a2 (by have := pw_pos m; omega)
    omega
  generalize carr nS (cols n m f g) null (n + m) = c at *
  by_cases e : c = 0
  · rw [e] at h1; omega
  · have : 1 * pw (n + m) ≤ c * pw (n + m) := Int.mul_le_mul_of_nonneg_right (by omega) (by have := pw_pos (n + m); omega)
    omega

set_option maxHeartbeats 800000 in
theorem product_any (v0 v1 : Value) (n m : Nat) (f g : Nat → Int) (w : World) (h0 : Row w v0 n f) (h1 : Row w v1 m g) (hf : Limbs n f) (hg : Limbs m g) (hn : n ≤ 1000) (hm : m ≤ 1000) :
    Calls Tryz.prog 47 #[v0, v1] w fun e w' => ∃ r, e = .returned r ∧ Num w' r (val f n * val g m) ∧ Below w.heap.size w w' := by
  have hmk := make_row w (n + m) (by omega)
  have HO : Hid (Own (w.alloc (.cells (madeCells #[.int .u32 0] (n + m)) 76)) w.heap.size w.heap.size (n + m) (fun _ => 0)) := make_own w w.heap.size (n + m) (Nat.le_refl _) (by unfold maxLen; omega)
  have HB : Hid (Below w.heap.size w (w.alloc (.cells (madeCells #[.int .u32 0] (n + m)) 76))) := one_below w _
  have HV : Hid (val (outs dS nS (cols n m f g) null (n + m)) (n + m) = val f n * val g m) := prod_val hf hg
  rw [show ((n + m : Nat) : Int) = (n : Int) + (m : Int) from by omega] at hmk
  obtain ⟨a, cap, e0, _⟩ := h0.shape
  obtain ⟨a', cap', e1, _⟩ := h1.shape
  have H0 : Hid (Row w v0 n f) := h0
  have H1 : Hid (Row w v1 m g) := h1
  have HF : Hid (Limbs n f) := hf
  have HG : Hid (Limbs m g) := hg
  clear h0 h1 hf hg
  subst e0 e1
  go_enter Tryz.func47, Tryz.ntmps47
  go_wp2
  clear hmk
  go_loopw [6, 18] (fun cy i wr => ∃ k : Nat, k ≤ n + m ∧ cy = .int .u64 (carr nS (cols n m f g) null k) ∧ i = .int .i64 k ∧ Hid (Own wr w.heap.size w.heap.size (n + m) (outs dS nS (cols n m f g) null k)) ∧ Hid (Below w.heap.size w wr)) (fun _ i _ => n + m - (intOf i).toNat)
  case atStart => exact ⟨0, Nat.zero_le _, rfl, rfl, HO.out, HB.out⟩
  case round =>
    obtain ⟨k, hk, rfl, rfl, HO2, HB2⟩ := hrel
    by_cases hlt : k < n + m
    · have hI : (k : Int) < (n : Int) + (m : Int) := by omega
      have bc := prod_carr HF.out HG.out k
      have hc := column_any _ _ n m k f g (carr nS (cols n m f g) null k) wr (H0.out.below HB2.out) (H1.out.below HB2.out) HF.out HG.out hn hm hlt bc.1 (by omega)
      have HN : Hid (carr nS (cols n m f g) null (k + 1) = nS (cols n m f g k) 0 (carr nS (cols n m f g) null k)) := rfl
      have HD : Hid (upd (outs dS nS (cols n m f g) null k) k (dS (cols n m f g k) 0 (carr nS (cols n m f g) null k)) = outs dS nS (cols n m f g) null (k + 1)) := outs_succ _ _ _ _ _
      have eC : cols n m f g k = colk (limb n f) (limb m g) k n := rfl
      rw [← eC] at hc
      have bcol := (colk_bd (limb_all HF.out) (limb_all HG.out) k n).2
      rw [← eC] at bcol
      clear eC
      generalize carr nS (cols n m f g) null k = c at *
      generalize cols n m f g k = x at *
      go_wp2_with fail
      refine hc.mono ?_
      rintro e w' ⟨lo, sq, rfl, ⟨he, l0, l1, t0⟩, q, rfl⟩
      have eD : Hid (lo % 1000000000 = dS x 0 c) := by show lo % 1000000000 = dS x 0 c; unfold dS; omega
      have eN : Hid (lo / 1000000000 + sq * 1000000000 = nS x 0 c) := by show lo / 1000000000 + sq * 1000000000 = nS x 0 c; unfold nS; omega
      have HO3 : Hid (Own (wr.drewN q) w.heap.size w.heap.size (n + m) (outs dS nS (cols n m f g) null k)) := HO2.out
      have HB3 : Hid (Below w.heap.size w (wr.drewN q)) := below_drewN HB2.out q
      have c3 := HO3.out.cell k hlt
      have f3 := HO3.out.free k
      have HO4 : Hid (Own ((wr.drewN q).setCell ⟨w.heap.size, k, none⟩ (.int .u32 (lo % 1000000000))) w.heap.size w.heap.size (n + m) (outs dS nS (cols n m f g) null (k + 1))) := by
        have := HO3.out.stored k (lo % 1000000000)
        rw [eD.out, HD.out] at this
        rw [← eD.out] at this
        exact this
      have HB4 : Hid (Below w.heap.size w ((wr.drewN q).setCell ⟨w.heap.size, k, none⟩ (.int .u32 (lo % 1000000000)))) := HB3.out.setCell (Nat.le_refl _) _
      have tq : sq ≤ 1001 := by omega
      have HC : Hid (carr nS (cols n m f g) null (k + 1) = lo / 1000000000 + sq * 1000000000) := by show carr nS (cols n m f g) null (k + 1) = _; rw [HN.out, eN.out]
      clear hc HO2 HB2 HO3 HB3 HD HN eD eN he bcol
      generalize outs dS nS (cols n m f g) null k k = z at *
      go_wp2
      go_roundw
      case rel => exact ⟨k + 1, by omega, by rw [HC.out], by go_num, HO4, HB4⟩
      case measure => simp [intOf]; omega
    · have e : k = n + m := by omega
      subst e
      have bds := prod_outs (n := n) (m := m) (f := f) (g := g) (n + m)
      have ht := trimmed_any _ (n + m) _ wr (HO2.out.row (fun i => (bds i).1) (fun i => by have := (bds i).2; omega) (by unfold maxLen; omega))
      clear bds
      generalize carr nS (cols n m f g) null (n + m) = c at *
      go_wp2_with fail
      refine ht.mono ?_
      rintro e w' ⟨r, rfl, hr, rfl⟩
      clear ht
      go_wp2
      go_ret
      exact ⟨_, rfl, num_of_trim (prod_outs _) hr HV.out, HB2.out⟩

set_option maxHeartbeats 400000 in
theorem mul_ok (v0 v1 : Value) (A B : Int) (n m : Nat) (f g : Nat → Int) (w : World) (h0 : Row w v0 n f) (h1 : Row w v1 m g) (hf : Can n f) (hg : Can m g) (eA : val f n = A) (eB : val g m = B) (hn : n ≤ 1000) (hm : m ≤ 1000) :
    Calls Tryz.prog 21 #[v0, v1] w fun e w' => ∃ r, e = .returned (.tuple #[r, .int .i64 0]) ∧ Num w' r (A * B) ∧ Below w.heap.size w w' := by
  have hk := (checked_new v0 v1 n m f g w h0 h1).1 hf hg
  have hs := product_any v0 v1 n m f g _ (h0.alloc (.cells #[v0, v1] 45)) (h1.alloc _) hf.1 hg.1 hn hm
  rw [eA, eB] at hs
  obtain ⟨a, cap, rfl, _⟩ := h0.shape
  obtain ⟨a', cap', rfl, _⟩ := h1.shape
  clear h0 h1 hf hg eA eB
  generalize A * B = V at *
  go_enter Tryz.func21, Tryz.ntmps21
  go_wp2_with fail
  refine hk.mono ?_
  rintro e w' ⟨rfl, rfl⟩
  go_wp2_with fail
  refine hs.mono ?_
  rintro e w' ⟨r, rfl, hr, hbl⟩
  go_wp2
  go_ret2
  exact ⟨_, rfl, hr, below_from_alloc hbl⟩
end Go.Proofs.YtfhapeinfhjihaaGreatDoor
