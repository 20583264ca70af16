/-
  What nat.sum, nat.difference, nat.Add and nat.Sub answer. Conditions: the numbers' limbs together take at most 2^47 bytes.
-/
import Derived.Test.YtmhplblmabiekaaA4
namespace Go.Proofs.Ytmhplblmabiekaa
open Go.RowKit

theorem limb_val {n N : Nat} {f : Nat → Int} (h : n ≤ N) : val (limb n f) N = val f n := by
  rw [val_trim h (fun i hi _ => by simp [limb, show ¬ i < n by omega])]
  exact val_congr (fun i hi => by simp [limb, hi])
theorem step_mul (d n x p : Int) (h : d + n * 1000000000 = x) : d * p + n * (p * 1000000000) = x * p := by
  subst h; rw [Int.add_mul, Int.mul_assoc, Int.mul_comm 1000000000 p]
theorem sum_val {f g : Nat → Int} (N k : Nat) (hk : k ≤ N) : val (outs dS nS f g N) k + carr nS f g k * pw k = val f k + val g k := by
  induction k with
  | zero => simp [val_zero, carr]
  | succ k ih =>
    have h1 := ih (by omega)
    have e1 : outs dS nS f g N k = dS (f k) (g k) (carr nS f g k) := by simp [outs, show k < N by omega]
    have e2 : carr nS f g (k + 1) = nS (f k) (g k) (carr nS f g k) := rfl
    have h2 := step_mul (dS (f k) (g k) (carr nS f g k)) (nS (f k) (g k) (carr nS f g k)) (f k + g k + carr nS f g k) (pw k) (by unfold dS nS; omega)
    rw [Int.add_mul, Int.add_mul] at h2
    rw [val_succ, val_succ, val_succ, pw_succ, e1, e2]
    omega
theorem dif_val {f g : Nat → Int} (N k : Nat) (hk : k ≤ N) : val (outs dD nD f g N) k + val g k = val f k + carr nD f g k * pw k := by
  induction k with
  | zero => simp [val_zero, carr]
  | succ k ih =>
    have h1 := ih (by omega)
    have e1 : outs dD nD f g N k = dD (f k) (g k) (carr nD f g k) := by simp [outs, show k < N by omega]
    have e2 : carr nD f g (k + 1) = nD (f k) (g k) (carr nD f g k) := rfl
    have h2 := step_mul (dD (f k) (g k) (carr nD f g k)) (- nD (f k) (g k) (carr nD f g k)) (f k - g k - carr nD f g k) (pw k) (by unfold dD nD; omega)
    rw [Int.sub_mul, Int.sub_mul, Int.neg_mul] at h2
    rw [val_succ, val_succ, val_succ, pw_succ, e1, e2]
    omega
theorem all_limbs {f : Nat → Int} (h : All9 f) (n : Nat) : Limbs n f := fun i _ => h i
theorem sum_fits {n m : Nat} {f g : Nat → Int} (hf : Limbs n f) (hg : Limbs m g) : val (outs dS nS (limb n f) (limb m g) (max n m + 1)) (max n m + 1) = val f n + val g m := by
  have h1 := sum_val (f := limb n f) (g := limb m g) (max n m + 1) (max n m + 1) (Nat.le_refl _)
  rw [limb_val (show n ≤ max n m + 1 by omega), limb_val (show m ≤ max n m + 1 by omega)] at h1
  have h2 := val_nonneg (all_limbs (outs_bd stepsS (limb_all hf) (limb_all hg) (max n m + 1)) (max n m + 1))
  have h3 := carr_bd stepsS (limb_all hf) (limb_all hg) (max n m + 1)
  have h4 := val_lt hf
  have h5 := val_lt hg
  have h6 := pw_mono (show n ≤ max n m by omega)
  have h7 := pw_mono (show m ≤ max n m by omega)
  have h8 := pw_succ (max n m)
  have h9 := pw_pos (max n m)
  rcases (show carr nS (limb n f) (limb m g) (max n m + 1) = 0 ∨ carr nS (limb n f) (limb m g) (max n m + 1) = 1 by omega) with e | e
  · rw [e] at h1; omega
  · rw [e] at h1; omega
theorem dif_fits {n m : Nat} {f g : Nat → Int} (hf : Limbs n f) (hg : Limbs m g) (hm : m ≤ n) (hle : val g m ≤ val f n) : val (outs dD nD (limb n f) (limb m g) n) n = val f n - val g m := by
  have h1 := dif_val (f := limb n f) (g := limb m g) n n (Nat.le_refl _)
  rw [limb_val (Nat.le_refl n), limb_val hm] at h1
  have h2 := val_lt (all_limbs (outs_bd stepsD (limb_all hf) (limb_all hg) n) n)
  have h3 := carr_bd stepsD (limb_all hf) (limb_all hg) n
  rcases (show carr nD (limb n f) (limb m g) n = 0 ∨ carr nD (limb n f) (limb m g) n = 1 by omega) with e | e
  · rw [e] at h1; omega
  · rw [e] at h1; omega

/-- A block of one number, of the call's own. -/
theorem one_block (w : World) (x : Int) : (w.alloc (.cells #[.int .u64 x] 51)).heap[w.heap.size]? = some (.cells #[.int .u64 x] 51 (0, 0)) := heap_alloc_new w _
theorem one_below (w : World) (o : Obj) : Below w.heap.size w (w.alloc o) := (Below.refl _ _).alloc (Nat.le_refl _) _

/-- What nat.upward leaves at its end, as a number. -/
theorem num_of_trim {w : World} {r : Value} {N : Nat} {g : Nat → Int} {V : Int} (hb : All9 g) (h : ∃ m', Row w r m' g ∧ Trims N g m') (hV : val g N = V) : Num w r V := by
  obtain ⟨m', hr, ht⟩ := h
  obtain ⟨c1, c2⟩ := ht.can (all_limbs hb _)
  exact ⟨m', _, hr, c1, by rw [c2, hV]⟩

theorem sum_up (v0 v1 : Value) (n m N : Nat) (f g : Nat → Int) (w : World) (h0 : Row w v0 n f) (h1 : Row w v1 m g) (hf : Limbs n f) (hg : Limbs m g) (hn : n ≤ 35184372088832) (hm : m ≤ 35184372088832) (hN : N = max n m + 1) :
    Calls Try.prog 42 #[.int .i64 N, v0, v1, .func (.func 43) #[] #[.pointer (some ⟨w.heap.size, 0, none⟩)]] (w.alloc (.cells #[.int .u64 0] 51)) fun e w' => ∃ r, e = .returned r ∧ Num w' r (val f n + val g m) ∧ Below w.heap.size w w' := by
  refine (upwardS_any v0 v1 n m N w.heap.size f g w _ (one_below w _) h0 h1 hf hg (one_block w 0) (Nat.le_refl _) (by omega)).mono ?_
  rintro e w' ⟨r, rfl, hr, hbl⟩
  subst hN
  exact ⟨r, rfl, num_of_trim (outs_bd stepsS (limb_all hf) (limb_all hg) _) hr (sum_fits hf hg), hbl⟩

set_option maxHeartbeats 400000 in
theorem sum_any (v0 v1 : Value) (n m : Nat) (f g : Nat → Int) (w : World) (h0 : Row w v0 n f) (h1 : Row w v1 m g) (hf : Limbs n f) (hg : Limbs m g) (hn : n ≤ 35184372088832) (hm : m ≤ 35184372088832) :
    Calls Try.prog 28 #[v0, v1] w fun e w' => ∃ r, e = .returned r ∧ Num w' r (val f n + val g m) ∧ Below w.heap.size w w' := by
  obtain ⟨a, cap, rfl, _⟩ := h0.shape
  obtain ⟨a', cap', rfl, _⟩ := h1.shape
  by_cases hle : n < m
  · have hu := sum_up _ _ n m (m + 1) f g w h0 h1 hf hg hn hm (by omega)
    rw [show ((m + 1 : Nat) : Int) = (m : Int) + 1 from by omega] at hu
    have hI : (n : Int) < (m : Int) := by omega
    clear h0 h1 hf hg
    go_enter Try.func28, Try.ntmps28
    go_wp2_with fail
    refine hu.mono ?_
    rintro e w' ⟨r, rfl, hr, hbl⟩
    go_wp2
    go_ret
    exact ⟨_, rfl, hr, hbl⟩
  · have hu := sum_up _ _ n m (n + 1) f g w h0 h1 hf hg hn hm (by omega)
    rw [show ((n + 1 : Nat) : Int) = (n : Int) + 1 from by omega] at hu
    have hI : ¬ (n : Int) < (m : Int) := by omega
    clear h0 h1 hf hg
    go_enter Try.func28, Try.ntmps28
    go_wp2_with fail
    refine hu.mono ?_
    rintro e w' ⟨r, rfl, hr, hbl⟩
    go_wp2
    go_ret
    exact ⟨_, rfl, hr, hbl⟩

set_option maxHeartbeats 400000 in
theorem difference_any (v0 v1 : Value) (n m : Nat) (f g : Nat → Int) (w : World) (h0 : Row w v0 n f) (h1 : Row w v1 m g) (hf : Can n f) (hg : Can m g) (hn : n ≤ 35184372088832) (hle : val g m ≤ val f n) :
    Calls Try.prog 30 #[v0, v1] w fun e w' => ∃ r, e = .returned r ∧ Num w' r (val f n - val g m) ∧ Below w.heap.size w w' := by
  have hmn : m ≤ n := by
    by_cases z : m ≤ n
    · exact z
    · have := can_less hf.1 hg (by omega); omega
  have hu0 := upwardD_any v0 v1 n m n w.heap.size f g w _ (one_below w _) h0 h1 hf.1 hg.1 (one_block w 0) (Nat.le_refl _) (by omega)
  have hu : Calls Try.prog 42 #[.int .i64 n, v0, v1, .func (.func 44) #[] #[.pointer (some ⟨w.heap.size, 0, none⟩)]] (w.alloc (.cells #[.int .u64 0] 51)) fun e w' => ∃ r, e = .returned r ∧ Num w' r (val f n - val g m) ∧ Below w.heap.size w w' := by
    refine hu0.mono ?_
    rintro e w' ⟨r, rfl, hr, hbl⟩
    exact ⟨r, rfl, num_of_trim (outs_bd stepsD (limb_all hf.1) (limb_all hg.1) _) hr (dif_fits hf.1 hg.1 hmn hle), hbl⟩
  obtain ⟨a, cap, rfl, _⟩ := h0.shape
  obtain ⟨a', cap', rfl, _⟩ := h1.shape
  clear h0 h1 hf hg hu0 hle
  generalize val f n - val g m = V at *
  go_enter Try.func30, Try.ntmps30
  go_wp2_with fail
  refine hu.mono ?_
  rintro e w' ⟨r, rfl, hr, hbl⟩
  go_wp2
  go_ret
  exact ⟨_, rfl, hr, hbl⟩

/-- The numbers' slices in a row of slices: what nat.checked is handed. -/
theorem checked_new (v0 v1 : Value) (n m : Nat) (f g : Nat → Int) (w : World) (h0 : Row w v0 n f) (h1 : Row w v1 m g) :
    (Can n f → Can m g → Calls Try.prog 24 #[.slice (some ⟨w.heap.size, 0, none⟩) 2 2] (w.alloc (.cells #[v0, v1] 22)) fun e w' => e = .returned (.int .i64 0) ∧ w.alloc (.cells #[v0, v1] 22) = w') ∧
    (¬ (Can n f ∧ Can m g) → Calls Try.prog 24 #[.slice (some ⟨w.heap.size, 0, none⟩) 2 2] (w.alloc (.cells #[v0, v1] 22)) fun e w' => e = .returned (.int .i64 2) ∧ w.alloc (.cells #[v0, v1] 22) = w') := by
  have c0 : (w.alloc (.cells #[v0, v1] 22)).cell? ⟨w.heap.size, 0, none⟩ = some v0 := by simp
  have c1 : (w.alloc (.cells #[v0, v1] 22)).cell? ⟨w.heap.size, 1, none⟩ = some v1 := by simp
  exact ⟨fun k0 k1 => checked_ok v0 v1 n m _ f g _ c0 c1 (h0.alloc _) (h1.alloc _) k0 k1, fun k => checked_bad v0 v1 n m _ f g _ c0 c1 (h0.alloc _) (h1.alloc _) k⟩

theorem below_from_alloc {w w' : World} {o : Obj} (h : Below (w.alloc o).heap.size (w.alloc o) w') : Below w.heap.size w w' :=
  ((Below.refl _ _).alloc (Nat.le_refl _) o).trans (h.mono (by simp))

set_option maxHeartbeats 400000 in
theorem add_ok (v0 v1 : Value) (A B : Int) (n m : Nat) (f g : Nat → Int) (w : World) (h0 : Row w v0 n f) (h1 : Row w v1 m g) (hf : Can n f) (hg : Can m g) (eA : val f n = A) (eB : val g m = B) (hn : n ≤ 35184372088832) (hm : m ≤ 35184372088832) :
    Calls Try.prog 11 #[v0, v1] w fun e w' => ∃ r, e = .returned (.tuple #[r, .int .i64 0]) ∧ Num w' r (A + B) ∧ Below w.heap.size w w' := by
  have hk := (checked_new v0 v1 n m f g w h0 h1).1 hf hg
  have hs := sum_any v0 v1 n m f g _ (h0.alloc (.cells #[v0, v1] 22)) (h1.alloc _) hf.1 hg.1 hn hm
  rw [eA, eB] at hs
  obtain ⟨a, cap, rfl, _⟩ := h0.shape
  obtain ⟨a', cap', rfl, _⟩ := h1.shape
  clear h0 h1 hf hg eA eB
  generalize A + B = V at *
  go_enter Try.func11, Try.ntmps11
  go_wp2_with fail
  refine hk.mono ?_
  rintro e w' ⟨rfl, rfl⟩
  go_wp2_with fail
  refine hs.mono ?_
  rintro e w' ⟨r, rfl, hr, hbl⟩
  go_wp2
  go_ret2
  exact ⟨_, rfl, hr, (below_from_alloc hbl)⟩

set_option maxHeartbeats 400000 in
theorem add_bad (v0 v1 : Value) (n m : Nat) (f g : Nat → Int) (w : World) (h0 : Row w v0 n f) (h1 : Row w v1 m g) (hk0 : ¬ (Can n f ∧ Can m g)) :
    Calls Try.prog 11 #[v0, v1] w fun e w' => e = .returned (.tuple #[.slice none 0 0, .int .i64 2]) ∧ Below w.heap.size w w' := by
  have hk := (checked_new v0 v1 n m f g w h0 h1).2 hk0
  obtain ⟨a, cap, rfl, _⟩ := h0.shape
  obtain ⟨a', cap', rfl, _⟩ := h1.shape
  have hbl : Below w.heap.size w (w.alloc (.cells #[.slice a n cap, .slice a' m cap'] 22)) := (Below.refl _ _).alloc (Nat.le_refl _) _
  clear h0 h1 hk0
  go_enter Try.func11, Try.ntmps11
  go_wp2_with fail
  refine hk.mono ?_
  rintro e w' ⟨rfl, rfl⟩
  go_wp2
  go_ret2
  exact ⟨rfl, hbl⟩

theorem cmpI_lt (a b : Int) : decide (cmpI a b < 0) = decide (a < b) := by
  unfold cmpI
  by_cases h : a < b
  · simp [h]
  · by_cases e : a = b
    · simp [e]
    · simp [h, e]
set_option maxHeartbeats 400000 in
theorem sub_ok (v0 v1 : Value) (A B : Int) (n m : Nat) (f g : Nat → Int) (w : World) (h0 : Row w v0 n f) (h1 : Row w v1 m g) (hf : Can n f) (hg : Can m g) (eA : val f n = A) (eB : val g m = B) (hn : n ≤ 35184372088832) (hle : B ≤ A) :
    Calls Try.prog 13 #[v0, v1] w fun e w' => ∃ r, e = .returned (.tuple #[r, .int .i64 0]) ∧ Num w' r (A - B) ∧ Below w.heap.size w w' := by
  have hk := (checked_new v0 v1 n m f g w h0 h1).1 hf hg
  have hc := compared_any v0 v1 n m f g _ (h0.alloc (.cells #[v0, v1] 22)) (h1.alloc _) hf hg
  have hs := fun q => difference_any v0 v1 n m f g _ ((h0.alloc (.cells #[v0, v1] 22)).drewN q) ((h1.alloc _).drewN q) hf hg hn (by omega)
  rw [eA, eB] at hc hs
  have hlt : decide (cmpI A B < 0) = false := by rw [cmpI_lt]; exact decide_eq_false (by omega)
  obtain ⟨a, cap, rfl, _⟩ := h0.shape
  obtain ⟨a', cap', rfl, _⟩ := h1.shape
  clear h0 h1 hf hg eA eB
  generalize A - B = V at *
  generalize cmpI A B = C at *
  go_enter Try.func13, Try.ntmps13
  go_wp2_with fail
  refine hk.mono ?_
  rintro e w' ⟨rfl, rfl⟩
  go_wp2_with fail
  refine hc.mono ?_
  rintro e w' ⟨rfl, q, rfl⟩
  have hs := hs q
  go_wp2_with fail
  refine hs.mono ?_
  rintro e w' ⟨r, rfl, hr, hbl⟩
  go_wp2
  go_ret2
  exact ⟨_, rfl, hr, below_from_alloc ((below_drewN (Below.refl _ _) q).trans hbl)⟩
end Go.Proofs.Ytmhplblmabiekaa
