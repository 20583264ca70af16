/-
  What ref.Compare, Sub, Mul, Div and Power answer, of numbers and of what is none, and what nat's calls refuse. Conditions: the numbers have at most 400 limbs.
-/
import Derived.Test.YtmhplblmabiekaaR4
import Derived.Test.YtmhplblmabiekaaP1
namespace Go.Proofs.Ytmhplblmabiekaa
open Go.RowKit

theorem pow_mod (y M : Int) (k : Nat) : (y % M) ^ k % M = y ^ k % M := by
  induction k with
  | zero => simp
  | succ k ih => rw [Int.pow_succ, Int.pow_succ, Int.mul_emod, ih, Int.emod_emod, ← Int.mul_emod]
theorem sq_pow (x : Int) (k : Nat) : (x * x) ^ k = x ^ (2 * k) := by
  induction k with
  | zero => simp
  | succ k ih => rw [Int.pow_succ, ih, show 2 * (k + 1) = 2 * k + 1 + 1 by omega, Int.pow_succ, Int.pow_succ, Int.mul_assoc]
theorem pw_even (o x M : Int) (k : Nat) : (o * ((x * x) % M) ^ k) % M = (o * x ^ (2 * k)) % M := by
  rw [Int.mul_emod, pow_mod, ← Int.mul_emod, sq_pow]
theorem pw_odd (o x M : Int) (k : Nat) : (((o * x) % M) * ((x * x) % M) ^ k) % M = (o * x ^ (2 * k + 1)) % M := by
  rw [Int.mul_emod, pow_mod, Int.emod_emod, ← Int.mul_emod, sq_pow, Int.pow_succ, Int.mul_comm (x ^ (2 * k)) x, ← Int.mul_assoc]

set_option maxHeartbeats 400000 in
theorem rcompare_bad (v0 v1 : Value) (n m : Nat) (f g : Nat → Int) (w : World) (h0 : Row w v0 n f) (h1 : Row w v1 m g) (hk : ¬ (Can n f ∧ Can m g)) :
    Calls Try.prog 10 #[v0, v1] w fun e w' => e = .returned (.tuple #[.int .i64 0, .int .i64 2]) ∧ w = w' := by
  by_cases c0 : Can n f
  · have k0 := rcheck_ok v0 n f w h0 c0
    have k1 := rcheck_bad v1 m g w h1 (fun c1 => hk ⟨c0, c1⟩)
    obtain ⟨a, cap, rfl, _⟩ := h0.shape
    obtain ⟨a', cap', rfl, _⟩ := h1.shape
    clear h0 h1 c0 hk
    go_enter Try.func10, Try.ntmps10
    go_wp2_with fail
    refine k0.mono ?_
    rintro e w' ⟨rfl, rfl⟩
    go_wp2_with fail
    refine k1.mono ?_
    rintro e w' ⟨rfl, rfl⟩
    go_wp2
    go_ret2
    exact ⟨rfl, rfl⟩
  · have k0 := rcheck_bad v0 n f w h0 c0
    obtain ⟨a, cap, rfl, _⟩ := h0.shape
    obtain ⟨a', cap', rfl, _⟩ := h1.shape
    clear h0 h1 c0 hk
    go_enter Try.func10, Try.ntmps10
    go_wp2_with fail
    refine k0.mono ?_
    rintro e w' ⟨rfl, rfl⟩
    go_wp2
    go_ret2
    exact ⟨rfl, rfl⟩

set_option maxHeartbeats 400000 in
theorem radd_bad (v0 v1 : Value) (n m : Nat) (f g : Nat → Int) (w : World) (h0 : Row w v0 n f) (h1 : Row w v1 m g) (hk : ¬ (Can n f ∧ Can m g)) :
    Calls Try.prog 12 #[v0, v1] w fun e w' => e = .returned (.tuple #[.slice none 0 0, .int .i64 2]) ∧ w = w' := by
  by_cases c0 : Can n f
  · have k0 := rcheck_ok v0 n f w h0 c0
    have k1 := rcheck_bad v1 m g w h1 (fun c1 => hk ⟨c0, c1⟩)
    obtain ⟨a, cap, rfl, _⟩ := h0.shape
    obtain ⟨a', cap', rfl, _⟩ := h1.shape
    clear h0 h1 c0 hk
    go_enter Try.func12, Try.ntmps12
    go_wp2_with fail
    refine k0.mono ?_
    rintro e w' ⟨rfl, rfl⟩
    go_wp2_with fail
    refine k1.mono ?_
    rintro e w' ⟨rfl, rfl⟩
    go_wp2
    go_ret2
    exact ⟨rfl, rfl⟩
  · have k0 := rcheck_bad v0 n f w h0 c0
    obtain ⟨a, cap, rfl, _⟩ := h0.shape
    obtain ⟨a', cap', rfl, _⟩ := h1.shape
    clear h0 h1 c0 hk
    go_enter Try.func12, Try.ntmps12
    go_wp2_with fail
    refine k0.mono ?_
    rintro e w' ⟨rfl, rfl⟩
    go_wp2
    go_ret2
    exact ⟨rfl, rfl⟩

set_option maxHeartbeats 400000 in
theorem rsub_bad (v0 v1 : Value) (n m : Nat) (f g : Nat → Int) (w : World) (h0 : Row w v0 n f) (h1 : Row w v1 m g) (hk : ¬ (Can n f ∧ Can m g)) :
    Calls Try.prog 14 #[v0, v1] w fun e w' => e = .returned (.tuple #[.slice none 0 0, .int .i64 2]) ∧ w = w' := by
  by_cases c0 : Can n f
  · have k0 := rcheck_ok v0 n f w h0 c0
    have k1 := rcheck_bad v1 m g w h1 (fun c1 => hk ⟨c0, c1⟩)
    obtain ⟨a, cap, rfl, _⟩ := h0.shape
    obtain ⟨a', cap', rfl, _⟩ := h1.shape
    clear h0 h1 c0 hk
    go_enter Try.func14, Try.ntmps14
    go_wp2_with fail
    refine k0.mono ?_
    rintro e w' ⟨rfl, rfl⟩
    go_wp2_with fail
    refine k1.mono ?_
    rintro e w' ⟨rfl, rfl⟩
    go_wp2
    go_ret2
    exact ⟨rfl, rfl⟩
  · have k0 := rcheck_bad v0 n f w h0 c0
    obtain ⟨a, cap, rfl, _⟩ := h0.shape
    obtain ⟨a', cap', rfl, _⟩ := h1.shape
    clear h0 h1 c0 hk
    go_enter Try.func14, Try.ntmps14
    go_wp2_with fail
    refine k0.mono ?_
    rintro e w' ⟨rfl, rfl⟩
    go_wp2
    go_ret2
    exact ⟨rfl, rfl⟩

set_option maxHeartbeats 400000 in
theorem rmul_bad (v0 v1 : Value) (n m : Nat) (f g : Nat → Int) (w : World) (h0 : Row w v0 n f) (h1 : Row w v1 m g) (hk : ¬ (Can n f ∧ Can m g)) :
    Calls Try.prog 17 #[v0, v1] w fun e w' => e = .returned (.tuple #[.slice none 0 0, .int .i64 2]) ∧ w = w' := by
  by_cases c0 : Can n f
  · have k0 := rcheck_ok v0 n f w h0 c0
    have k1 := rcheck_bad v1 m g w h1 (fun c1 => hk ⟨c0, c1⟩)
    obtain ⟨a, cap, rfl, _⟩ := h0.shape
    obtain ⟨a', cap', rfl, _⟩ := h1.shape
    clear h0 h1 c0 hk
    go_enter Try.func17, Try.ntmps17
    go_wp2_with fail
    refine k0.mono ?_
    rintro e w' ⟨rfl, rfl⟩
    go_wp2_with fail
    refine k1.mono ?_
    rintro e w' ⟨rfl, rfl⟩
    go_wp2
    go_ret2
    exact ⟨rfl, rfl⟩
  · have k0 := rcheck_bad v0 n f w h0 c0
    obtain ⟨a, cap, rfl, _⟩ := h0.shape
    obtain ⟨a', cap', rfl, _⟩ := h1.shape
    clear h0 h1 c0 hk
    go_enter Try.func17, Try.ntmps17
    go_wp2_with fail
    refine k0.mono ?_
    rintro e w' ⟨rfl, rfl⟩
    go_wp2
    go_ret2
    exact ⟨rfl, rfl⟩

set_option maxHeartbeats 400000 in
theorem rdiv_bad (v0 v1 : Value) (n m : Nat) (f g : Nat → Int) (w : World) (h0 : Row w v0 n f) (h1 : Row w v1 m g) (hk : ¬ (Can n f ∧ Can m g)) :
    Calls Try.prog 19 #[v0, v1] w fun e w' => e = .returned (.tuple #[.slice none 0 0, .slice none 0 0, .int .i64 2]) ∧ w = w' := by
  by_cases c0 : Can n f
  · have k0 := rcheck_ok v0 n f w h0 c0
    have k1 := rcheck_bad v1 m g w h1 (fun c1 => hk ⟨c0, c1⟩)
    obtain ⟨a, cap, rfl, _⟩ := h0.shape
    obtain ⟨a', cap', rfl, _⟩ := h1.shape
    clear h0 h1 c0 hk
    go_enter Try.func19, Try.ntmps19
    go_wp2_with fail
    refine k0.mono ?_
    rintro e w' ⟨rfl, rfl⟩
    go_wp2_with fail
    refine k1.mono ?_
    rintro e w' ⟨rfl, rfl⟩
    go_wp2
    go_ret3
    exact ⟨rfl, rfl⟩
  · have k0 := rcheck_bad v0 n f w h0 c0
    obtain ⟨a, cap, rfl, _⟩ := h0.shape
    obtain ⟨a', cap', rfl, _⟩ := h1.shape
    clear h0 h1 c0 hk
    go_enter Try.func19, Try.ntmps19
    go_wp2_with fail
    refine k0.mono ?_
    rintro e w' ⟨rfl, rfl⟩
    go_wp2
    go_ret3
    exact ⟨rfl, rfl⟩

set_option maxHeartbeats 400000 in
theorem rpower_bad (v0 v1 : Value) (n m : Nat) (f g : Nat → Int) (nn : Int) (w : World) (h0 : Row w v0 n f) (h1 : Row w v1 m g) (hk : ¬ (Can n f ∧ Can m g)) :
    Calls Try.prog 21 #[v0, .int .i64 nn, v1] w fun e w' => e = .returned (.tuple #[.slice none 0 0, .int .i64 2]) ∧ w = w' := by
  by_cases c0 : Can n f
  · have k0 := rcheck_ok v0 n f w h0 c0
    have k1 := rcheck_bad v1 m g w h1 (fun c1 => hk ⟨c0, c1⟩)
    obtain ⟨a, cap, rfl, _⟩ := h0.shape
    obtain ⟨a', cap', rfl, _⟩ := h1.shape
    clear h0 h1 c0 hk
    go_enter Try.func21, Try.ntmps21
    go_wp2_with fail
    refine k0.mono ?_
    rintro e w' ⟨rfl, rfl⟩
    go_wp2_with fail
    refine k1.mono ?_
    rintro e w' ⟨rfl, rfl⟩
    go_wp2
    go_ret2
    exact ⟨rfl, rfl⟩
  · have k0 := rcheck_bad v0 n f w h0 c0
    obtain ⟨a, cap, rfl, _⟩ := h0.shape
    obtain ⟨a', cap', rfl, _⟩ := h1.shape
    clear h0 h1 c0 hk
    go_enter Try.func21, Try.ntmps21
    go_wp2_with fail
    refine k0.mono ?_
    rintro e w' ⟨rfl, rfl⟩
    go_wp2
    go_ret2
    exact ⟨rfl, rfl⟩

set_option maxHeartbeats 400000 in
theorem ncompare_bad (v0 v1 : Value) (n m : Nat) (f g : Nat → Int) (w : World) (h0 : Row w v0 n f) (h1 : Row w v1 m g) (hk0 : ¬ (Can n f ∧ Can m g)) :
    Calls Try.prog 9 #[v0, v1] w fun e w' => e = .returned (.tuple #[.int .i64 0, .int .i64 2]) ∧ Below w.heap.size w w' := by
  have hk := (checked_new v0 v1 n m f g w h0 h1).2 hk0
  obtain ⟨a, cap, rfl, _⟩ := h0.shape
  obtain ⟨a', cap', rfl, _⟩ := h1.shape
  have hbl : Below w.heap.size w (w.alloc (.cells #[.slice a n cap, .slice a' m cap'] 22)) := one_below w _
  clear h0 h1 hk0
  go_enter Try.func9, Try.ntmps9
  go_wp2_with fail
  refine hk.mono ?_
  rintro e w' ⟨rfl, rfl⟩
  go_wp2
  go_ret2
  exact ⟨rfl, hbl⟩

set_option maxHeartbeats 400000 in
theorem nsub_bad (v0 v1 : Value) (n m : Nat) (f g : Nat → Int) (w : World) (h0 : Row w v0 n f) (h1 : Row w v1 m g) (hk0 : ¬ (Can n f ∧ Can m g)) :
    Calls Try.prog 13 #[v0, v1] w fun e w' => e = .returned (.tuple #[.slice none 0 0, .int .i64 2]) ∧ Below w.heap.size w w' := by
  have hk := (checked_new v0 v1 n m f g w h0 h1).2 hk0
  obtain ⟨a, cap, rfl, _⟩ := h0.shape
  obtain ⟨a', cap', rfl, _⟩ := h1.shape
  have hbl : Below w.heap.size w (w.alloc (.cells #[.slice a n cap, .slice a' m cap'] 22)) := one_below w _
  clear h0 h1 hk0
  go_enter Try.func13, Try.ntmps13
  go_wp2_with fail
  refine hk.mono ?_
  rintro e w' ⟨rfl, rfl⟩
  go_wp2
  go_ret2
  exact ⟨rfl, hbl⟩

set_option maxHeartbeats 400000 in
theorem nmul_bad (v0 v1 : Value) (n m : Nat) (f g : Nat → Int) (w : World) (h0 : Row w v0 n f) (h1 : Row w v1 m g) (hk0 : ¬ (Can n f ∧ Can m g)) :
    Calls Try.prog 16 #[v0, v1] w fun e w' => e = .returned (.tuple #[.slice none 0 0, .int .i64 2]) ∧ Below w.heap.size w w' := by
  have hk := (checked_new v0 v1 n m f g w h0 h1).2 hk0
  obtain ⟨a, cap, rfl, _⟩ := h0.shape
  obtain ⟨a', cap', rfl, _⟩ := h1.shape
  have hbl : Below w.heap.size w (w.alloc (.cells #[.slice a n cap, .slice a' m cap'] 22)) := one_below w _
  clear h0 h1 hk0
  go_enter Try.func16, Try.ntmps16
  go_wp2_with fail
  refine hk.mono ?_
  rintro e w' ⟨rfl, rfl⟩
  go_wp2
  go_ret2
  exact ⟨rfl, hbl⟩

set_option maxHeartbeats 400000 in
theorem ndiv_bad (v0 v1 : Value) (n m : Nat) (f g : Nat → Int) (w : World) (h0 : Row w v0 n f) (h1 : Row w v1 m g) (hk0 : ¬ (Can n f ∧ Can m g)) :
    Calls Try.prog 18 #[v0, v1] w fun e w' => e = .returned (.tuple #[.slice none 0 0, .slice none 0 0, .int .i64 2]) ∧ Below w.heap.size w w' := by
  have hk := (checked_new v0 v1 n m f g w h0 h1).2 hk0
  obtain ⟨a, cap, rfl, _⟩ := h0.shape
  obtain ⟨a', cap', rfl, _⟩ := h1.shape
  have hbl : Below w.heap.size w (w.alloc (.cells #[.slice a n cap, .slice a' m cap'] 22)) := one_below w _
  clear h0 h1 hk0
  go_enter Try.func18, Try.ntmps18
  go_wp2_with fail
  refine hk.mono ?_
  rintro e w' ⟨rfl, rfl⟩
  go_wp2
  go_ret3
  exact ⟨rfl, hbl⟩

set_option maxHeartbeats 400000 in
theorem npower_bad (v0 v1 : Value) (n m : Nat) (f g : Nat → Int) (nn : Int) (w : World) (h0 : Row w v0 n f) (h1 : Row w v1 m g) (hk0 : ¬ (Can n f ∧ Can m g)) :
    Calls Try.prog 20 #[v0, .int .i64 nn, v1] w fun e w' => e = .returned (.tuple #[.slice none 0 0, .int .i64 2]) ∧ Below w.heap.size w w' := by
  have hk := (checked_new v0 v1 n m f g w h0 h1).2 hk0
  obtain ⟨a, cap, rfl, _⟩ := h0.shape
  obtain ⟨a', cap', rfl, _⟩ := h1.shape
  have hbl : Below w.heap.size w (w.alloc (.cells #[.slice a n cap, .slice a' m cap'] 22)) := one_below w _
  clear h0 h1 hk0
  go_enter Try.func20, Try.ntmps20
  go_wp2_with fail
  refine hk.mono ?_
  rintro e w' ⟨rfl, rfl⟩
  go_wp2
  go_ret2
  exact ⟨rfl, hbl⟩

set_option maxRecDepth 100000 in
set_option maxHeartbeats 800000 in
theorem rcompare_ok (v0 v1 : Value) (A B : Int) (n m : Nat) (f g : Nat → Int) (w : World) (h0 : Row w v0 n f) (h1 : Row w v1 m g) (c0 : Can n f) (c1 : Can m g) (e0 : val f n = A) (e1 : val g m = B) :
    Calls Try.prog 10 #[v0, v1] w fun e w' => e = .returned (.tuple #[.int .i64 (cmpI A B), .int .i64 0]) ∧ Below w.heap.size w w' := by
  have k0 := rcheck_ok v0 n f w h0 c0
  have k1 := rcheck_ok v1 m g w h1 c1
  have hA : Num w v0 A := ⟨n, f, h0, c0, e0⟩
  have hB : Num w v1 B := ⟨m, g, h1, c1, e1⟩
  obtain ⟨a, cap, rfl, _⟩ := h0.shape
  obtain ⟨a', cap', rfl, _⟩ := h1.shape
  have hc := rcompare_num _ _ A B w hA hB
  obtain ⟨C, hC⟩ : ∃ C, cmpI A B = C := ⟨_, rfl⟩
  rw [hC] at hc ⊢
  clear hC
  clear h0 h1 c0 c1 e0 e1
  go_enter Try.func10, Try.ntmps10
  go_wp2_with fail
  refine k0.mono ?_
  rintro e w' ⟨rfl, rfl⟩
  go_wp2_with fail
  refine k1.mono ?_
  rintro e w' ⟨rfl, rfl⟩
  clear k0 k1
  go_wp2_with fail
  refine hc.mono ?_
  rintro e w' ⟨rfl, q, rfl⟩
  clear hc
  go_wp2
  go_ret2
  exact ⟨rfl, below_drewN (Below.refl _ _) q⟩

set_option maxRecDepth 100000 in
set_option maxHeartbeats 800000 in
theorem rsub_less (v0 v1 : Value) (A B : Int) (n m : Nat) (f g : Nat → Int) (w : World) (h0 : Row w v0 n f) (h1 : Row w v1 m g) (c0 : Can n f) (c1 : Can m g) (e0 : val f n = A) (e1 : val g m = B) (hlt : A < B) :
    Calls Try.prog 14 #[v0, v1] w fun e w' => e = .returned (.tuple #[.slice none 0 0, .int .i64 2]) ∧ Below w.heap.size w w' := by
  have k0 := rcheck_ok v0 n f w h0 c0
  have k1 := rcheck_ok v1 m g w h1 c1
  have hA : Num w v0 A := ⟨n, f, h0, c0, e0⟩
  have hB : Num w v1 B := ⟨m, g, h1, c1, e1⟩
  obtain ⟨a, cap, rfl, _⟩ := h0.shape
  obtain ⟨a', cap', rfl, _⟩ := h1.shape
  have hc := rcompare_num _ _ A B w hA hB
  have hl : decide (cmpI A B < 0) = true := by rw [cmpI_lt]; exact decide_eq_true hlt
  generalize cmpI A B = C at *
  clear h0 h1 c0 c1 e0 e1
  go_enter Try.func14, Try.ntmps14
  go_wp2_with fail
  refine k0.mono ?_
  rintro e w' ⟨rfl, rfl⟩
  go_wp2_with fail
  refine k1.mono ?_
  rintro e w' ⟨rfl, rfl⟩
  clear k0 k1
  go_wp2_with fail
  refine hc.mono ?_
  rintro e w' ⟨rfl, q, rfl⟩
  clear hc
  go_wp2
  go_ret2
  exact ⟨rfl, below_drewN (Below.refl _ _) q⟩

set_option maxRecDepth 100000 in
set_option maxHeartbeats 800000 in
theorem rsub_ok (v0 v1 : Value) (A B : Int) (n m : Nat) (f g : Nat → Int) (w : World) (h0 : Row w v0 n f) (h1 : Row w v1 m g) (c0 : Can n f) (c1 : Can m g) (e0 : val f n = A) (e1 : val g m = B) (hA9 : A < pw 400) (hle : B ≤ A) :
    Calls Try.prog 14 #[v0, v1] w fun e w' => ∃ r, e = .returned (.tuple #[r, .int .i64 0]) ∧ Num w' r (A - B) ∧ Below w.heap.size w w' := by
  have k0 := rcheck_ok v0 n f w h0 c0
  have k1 := rcheck_ok v1 m g w h1 c1
  have hA : Num w v0 A := ⟨n, f, h0, c0, e0⟩
  have hB : Num w v1 B := ⟨m, g, h1, c1, e1⟩
  obtain ⟨a, cap, rfl, _⟩ := h0.shape
  obtain ⟨a', cap', rfl, _⟩ := h1.shape
  have hc := rcompare_num _ _ A B w hA hB
  have hl : decide (cmpI A B < 0) = false := by rw [cmpI_lt]; exact decide_eq_false (by omega)
  generalize cmpI A B = C at *
  have hs := fun q => rsub_n _ _ A B (w.drewN q) (hA.below (below_drewN (Below.refl _ _) q)) (hB.below (below_drewN (Below.refl _ _) q)) (lt_pw hA9 (by omega)) hle
  clear h0 h1 c0 c1 e0 e1
  go_enter Try.func14, Try.ntmps14
  go_wp2_with fail
  refine k0.mono ?_
  rintro e w' ⟨rfl, rfl⟩
  go_wp2_with fail
  refine k1.mono ?_
  rintro e w' ⟨rfl, rfl⟩
  clear k0 k1
  go_wp2_with fail
  refine hc.mono ?_
  rintro e w' ⟨rfl, q, rfl⟩
  have hs := hs q
  clear hc
  go_wp2_with fail
  refine hs.mono ?_
  rintro e w2 ⟨r, rfl, ⟨hr, _⟩, b2⟩
  clear hs
  go_wp2
  go_ret2
  exact ⟨_, rfl, hr, (below_drewN (Below.refl _ _) q).trans b2⟩

set_option maxRecDepth 100000 in
set_option maxHeartbeats 800000 in
theorem rmul_ok (v0 v1 : Value) (A B : Int) (n m : Nat) (f g : Nat → Int) (w : World) (h0 : Row w v0 n f) (h1 : Row w v1 m g) (c0 : Can n f) (c1 : Can m g) (e0 : val f n = A) (e1 : val g m = B) (hA9 : A < pw 400) (hB9 : B < pw 400) :
    Calls Try.prog 17 #[v0, v1] w fun e w' => ∃ r, e = .returned (.tuple #[r, .int .i64 0]) ∧ Num w' r (A * B) ∧ Below w.heap.size w w' := by
  have k0 := rcheck_ok v0 n f w h0 c0
  have k1 := rcheck_ok v1 m g w h1 c1
  have hA : Num w v0 A := ⟨n, f, h0, c0, e0⟩
  have hB : Num w v1 B := ⟨m, g, h1, c1, e1⟩
  obtain ⟨a, cap, rfl, _⟩ := h0.shape
  obtain ⟨a', cap', rfl, _⟩ := h1.shape
  have hs := rmul_num _ _ A B w hA hB (lt_pw hA9 (by omega)) (lt_pw hB9 (by omega))
  clear h0 h1 c0 c1 e0 e1
  go_enter Try.func17, Try.ntmps17
  go_wp2_with fail
  refine k0.mono ?_
  rintro e w' ⟨rfl, rfl⟩
  go_wp2_with fail
  refine k1.mono ?_
  rintro e w' ⟨rfl, rfl⟩
  clear k0 k1
  go_wp2_with fail
  refine hs.mono ?_
  rintro e w2 ⟨r, rfl, hr, b2⟩
  clear hs
  go_wp2
  go_ret2
  exact ⟨_, rfl, hr, b2⟩

set_option maxRecDepth 100000 in
set_option maxHeartbeats 800000 in
theorem rdiv_zero (v0 v1 : Value) (A B : Int) (n m : Nat) (f g : Nat → Int) (w : World) (h0 : Row w v0 n f) (h1 : Row w v1 m g) (c0 : Can n f) (c1 : Can m g) (e0 : val f n = A) (e1 : val g m = B) (hz : m = 0) :
    Calls Try.prog 19 #[v0, v1] w fun e w' => e = .returned (.tuple #[.slice none 0 0, .slice none 0 0, .int .i64 20]) ∧ w = w' := by
  have k0 := rcheck_ok v0 n f w h0 c0
  have k1 := rcheck_ok v1 m g w h1 c1
  have hA : Num w v0 A := ⟨n, f, h0, c0, e0⟩
  have hB : Num w v1 B := ⟨m, g, h1, c1, e1⟩
  obtain ⟨a, cap, rfl, _⟩ := h0.shape
  obtain ⟨a', cap', rfl, _⟩ := h1.shape
  subst hz
  clear h0 h1 c0 c1 e0 e1
  go_enter Try.func19, Try.ntmps19
  go_wp2_with fail
  refine k0.mono ?_
  rintro e w' ⟨rfl, rfl⟩
  go_wp2_with fail
  refine k1.mono ?_
  rintro e w' ⟨rfl, rfl⟩
  clear k0 k1
  go_wp2
  go_ret3
  exact ⟨rfl, rfl⟩

set_option maxRecDepth 100000 in
set_option maxHeartbeats 800000 in
theorem rdiv_ok (v0 v1 : Value) (A B : Int) (n m : Nat) (f g : Nat → Int) (w : World) (h0 : Row w v0 n f) (h1 : Row w v1 m g) (c0 : Can n f) (c1 : Can m g) (e0 : val f n = A) (e1 : val g m = B) (hA9 : A < pw 400) (hB9 : B < pw 400) (hB0 : 0 < B) :
    Calls Try.prog 19 #[v0, v1] w fun e w' => ∃ rq, ∃ rr, e = .returned (.tuple #[rq, rr, .int .i64 0]) ∧ Divides w' rq rr A B ∧ Below w.heap.size w w' := by
  have k0 := rcheck_ok v0 n f w h0 c0
  have k1 := rcheck_ok v1 m g w h1 c1
  have hA : Num w v0 A := ⟨n, f, h0, c0, e0⟩
  have hB : Num w v1 B := ⟨m, g, h1, c1, e1⟩
  obtain ⟨a, cap, rfl, _⟩ := h0.shape
  obtain ⟨a', cap', rfl, _⟩ := h1.shape
  have hz : ((m : Int) == 0) = false := beq_eq_false_iff_ne.2 (by have := num_pos_len c1 hB0 e1; omega)
  have hs := rdiv_num _ _ A B w hA hB (lt_pw hA9 (by omega)) hB0 hB9
  clear h0 h1 c0 c1 e0 e1
  go_enter Try.func19, Try.ntmps19
  go_wp2_with fail
  refine k0.mono ?_
  rintro e w' ⟨rfl, rfl⟩
  go_wp2_with fail
  refine k1.mono ?_
  rintro e w' ⟨rfl, rfl⟩
  clear k0 k1
  go_wp2_with fail
  refine hs.mono ?_
  rintro e w2 ⟨rq, rr, rfl, hr, b2⟩
  clear hs
  go_wp2
  go_ret3
  exact ⟨_, _, rfl, hr, b2⟩

set_option maxRecDepth 100000 in
set_option maxHeartbeats 800000 in
theorem rpower_zero (v0 v1 : Value) (A B : Int) (n m : Nat) (f g : Nat → Int) (nn : Int) (w : World) (h0 : Row w v0 n f) (h1 : Row w v1 m g) (c0 : Can n f) (c1 : Can m g) (e0 : val f n = A) (e1 : val g m = B) (hz : m = 0) :
    Calls Try.prog 21 #[v0, .int .i64 nn, v1] w fun e w' => e = .returned (.tuple #[.slice none 0 0, .int .i64 20]) ∧ w = w' := by
  have k0 := rcheck_ok v0 n f w h0 c0
  have k1 := rcheck_ok v1 m g w h1 c1
  have hA : Num w v0 A := ⟨n, f, h0, c0, e0⟩
  have hB : Num w v1 B := ⟨m, g, h1, c1, e1⟩
  obtain ⟨a, cap, rfl, _⟩ := h0.shape
  obtain ⟨a', cap', rfl, _⟩ := h1.shape
  subst hz
  clear h0 h1 c0 c1 e0 e1
  go_enter Try.func21, Try.ntmps21
  go_wp2_with fail
  refine k0.mono ?_
  rintro e w' ⟨rfl, rfl⟩
  go_wp2_with fail
  refine k1.mono ?_
  rintro e w' ⟨rfl, rfl⟩
  clear k0 k1
  go_wp2
  go_ret2
  exact ⟨rfl, rfl⟩

set_option maxRecDepth 100000 in
set_option maxHeartbeats 800000 in
theorem rpower_neg (v0 v1 : Value) (A B : Int) (n m : Nat) (f g : Nat → Int) (nn : Int) (w : World) (h0 : Row w v0 n f) (h1 : Row w v1 m g) (c0 : Can n f) (c1 : Can m g) (e0 : val f n = A) (e1 : val g m = B) (hz : 0 < m) (hn : nn < 0) :
    Calls Try.prog 21 #[v0, .int .i64 nn, v1] w fun e w' => e = .returned (.tuple #[.slice none 0 0, .int .i64 2]) ∧ w = w' := by
  have k0 := rcheck_ok v0 n f w h0 c0
  have k1 := rcheck_ok v1 m g w h1 c1
  have hA : Num w v0 A := ⟨n, f, h0, c0, e0⟩
  have hB : Num w v1 B := ⟨m, g, h1, c1, e1⟩
  obtain ⟨a, cap, rfl, _⟩ := h0.shape
  obtain ⟨a', cap', rfl, _⟩ := h1.shape
  have hmz : ((m : Int) == 0) = false := beq_eq_false_iff_ne.2 (by omega)
  clear h0 h1 c0 c1 e0 e1
  go_enter Try.func21, Try.ntmps21
  go_wp2_with fail
  refine k0.mono ?_
  rintro e w' ⟨rfl, rfl⟩
  go_wp2_with fail
  refine k1.mono ?_
  rintro e w' ⟨rfl, rfl⟩
  clear k0 k1
  go_wp2
  go_ret2
  exact ⟨rfl, rfl⟩

set_option maxHeartbeats 400000 in
theorem npower_zero (v0 v1 : Value) (n m : Nat) (f g : Nat → Int) (nn : Int) (w : World) (h0 : Row w v0 n f) (h1 : Row w v1 m g) (c0 : Can n f) (c1 : Can m g) (hz : m = 0) :
    Calls Try.prog 20 #[v0, .int .i64 nn, v1] w fun e w' => e = .returned (.tuple #[.slice none 0 0, .int .i64 20]) ∧ Below w.heap.size w w' := by
  have hk := (checked_new v0 v1 n m f g w h0 h1).1 c0 c1
  have hmz : ((m : Int) == 0) = true := by simp [hz]
  clear hz
  obtain ⟨a, cap, rfl, _⟩ := h0.shape
  obtain ⟨a', cap', rfl, _⟩ := h1.shape
  have hbl : Below w.heap.size w (w.alloc (.cells #[.slice a n cap, .slice a' m cap'] 22)) := one_below w _
  clear h0 h1 c0 c1
  go_enter Try.func20, Try.ntmps20
  go_wp2_with fail
  refine hk.mono ?_
  rintro e w' ⟨rfl, rfl⟩
  go_wp2
  go_ret2
  exact ⟨rfl, hbl⟩

set_option maxHeartbeats 400000 in
theorem npower_neg (v0 v1 : Value) (n m : Nat) (f g : Nat → Int) (nn : Int) (w : World) (h0 : Row w v0 n f) (h1 : Row w v1 m g) (c0 : Can n f) (c1 : Can m g) (hz : 0 < m) (hn : nn < 0) :
    Calls Try.prog 20 #[v0, .int .i64 nn, v1] w fun e w' => e = .returned (.tuple #[.slice none 0 0, .int .i64 2]) ∧ Below w.heap.size w w' := by
  have hk := (checked_new v0 v1 n m f g w h0 h1).1 c0 c1
  have hmz : ((m : Int) == 0) = false := beq_eq_false_iff_ne.2 (by omega)
  obtain ⟨a, cap, rfl, _⟩ := h0.shape
  obtain ⟨a', cap', rfl, _⟩ := h1.shape
  have hbl : Below w.heap.size w (w.alloc (.cells #[.slice a n cap, .slice a' m cap'] 22)) := one_below w _
  clear h0 h1 c0 c1
  go_enter Try.func20, Try.ntmps20
  go_wp2_with fail
  refine hk.mono ?_
  rintro e w' ⟨rfl, rfl⟩
  go_wp2
  go_ret2
  exact ⟨rfl, hbl⟩

set_option maxHeartbeats 400000 in
theorem nsub_less (v0 v1 : Value) (n m : Nat) (f g : Nat → Int) (w : World) (h0 : Row w v0 n f) (h1 : Row w v1 m g) (c0 : Can n f) (c1 : Can m g) (hlt : val f n < val g m) :
    Calls Try.prog 13 #[v0, v1] w fun e w' => e = .returned (.tuple #[.slice none 0 0, .int .i64 2]) ∧ Below w.heap.size w w' := by
  have hk := (checked_new v0 v1 n m f g w h0 h1).1 c0 c1
  have hc := compared_any v0 v1 n m f g _ (h0.alloc (.cells #[v0, v1] 22)) (h1.alloc _) c0 c1
  have hl : decide (cmpI (val f n) (val g m) < 0) = true := by rw [cmpI_lt]; exact decide_eq_true hlt
  generalize cmpI (val f n) (val g m) = C at *
  obtain ⟨a, cap, rfl, _⟩ := h0.shape
  obtain ⟨a', cap', rfl, _⟩ := h1.shape
  have hbl : Below w.heap.size w (w.alloc (.cells #[.slice a n cap, .slice a' m cap'] 22)) := one_below w _
  clear h0 h1 c0 c1
  go_enter Try.func13, Try.ntmps13
  go_wp2_with fail
  refine hk.mono ?_
  rintro e w' ⟨rfl, rfl⟩
  go_wp2_with fail
  refine hc.mono ?_
  rintro e w' ⟨rfl, q, rfl⟩
  go_wp2
  go_ret2
  exact ⟨rfl, below_drewN hbl q⟩

set_option maxRecDepth 100000 in
set_option maxHeartbeats 1600000 in
theorem rpower_ok (v0 v1 : Value) (A M : Int) (n m : Nat) (f g : Nat → Int) (nn : Int) (w : World) (h0 : Row w v0 n f) (h1 : Row w v1 m g) (c0 : Can n f) (c1 : Can m g) (e0 : val f n = A) (e1 : val g m = M) (hA9 : A < pw 400) (hM9 : M < pw 400) (hM0 : 0 < M) (n0 : 0 ≤ nn) (n1 : nn < 9223372036854775808) :
    Calls Try.prog 21 #[v0, .int .i64 nn, v1] w fun e w' => ∃ r, e = .returned (.tuple #[r, .int .i64 0]) ∧ Num w' r (A ^ nn.toNat % M) ∧ Below w.heap.size w w' := by
  have k0 := rcheck_ok v0 n f w h0 c0
  have k1 := rcheck_ok v1 m g w h1 c1
  have hA : Num w v0 A := ⟨n, f, h0, c0, e0⟩
  have hM : Num w v1 M := ⟨m, g, h1, c1, e1⟩
  have hmz : ((m : Int) == 0) = false := beq_eq_false_iff_ne.2 (by have := num_pos_len c1 hM0 e1; omega)
  obtain ⟨a, cap, rfl, _⟩ := h0.shape
  obtain ⟨a', cap', rfl, _⟩ := h1.shape
  clear h0 h1 c0 c1 e0 e1
  have N0 : ¬ nn < 0 := by omega
  have o1 := one_below w (.cells #[.int .u32 1] 46)
  have hd1 := rdiv_num _ _ 1 M _ (num_lit1 w 1 (by omega) (by omega)) (hM.below o1) (by have := pw_mono (show 2 ≤ 900 by omega); have h2 : pw 2 = 1000000000000000000 := (by decide); omega) hM0 hM9
  obtain ⟨E, hE⟩ : ∃ E, A ^ nn.toNat % M = E := ⟨_, rfl⟩
  rw [hE]
  have HEE : Hid (A ^ nn.toNat % M = E) := hE
  clear hE
  go_enter Try.func21, Try.ntmps21
  go_wp2_with fail
  refine k0.mono ?_
  rintro e w' ⟨rfl, rfl⟩
  go_wp2_with fail
  refine k1.mono ?_
  rintro e w' ⟨rfl, rfl⟩
  clear k0 k1
  go_wp2_with fail
  refine hd1.mono ?_
  rintro e w1 ⟨q1, r1, rfl, ⟨Q1, R1, _, hR1, eD1, p1, s1⟩, b1⟩
  clear hd1
  rw [(divides_eq eD1 p1 s1).2] at hR1
  have b01 : Below w.heap.size w w1 := o1.trans (b1.mono o1.size)
  have hd2 := rdiv_num _ _ A M w1 (hA.below b01) (hM.below b01) (lt_pw hA9 (by omega)) hM0 hM9
  clear eD1 p1 s1 b1 o1
  go_wp2_with fail
  refine hd2.mono ?_
  rintro e w2 ⟨q2, r2, rfl, ⟨Q2, R2, _, hR2, eD2, p2, s2⟩, b2⟩
  clear hd2
  rw [(divides_eq eD2 p2 s2).2] at hR2
  have b02 : Below w.heap.size w w2 := b01.trans (b2.mono b01.size)
  have HS : Hid (∃ o x, Num w2 r1 o ∧ Num w2 r2 x ∧ 0 ≤ o ∧ o < M ∧ 0 ≤ x ∧ x < M ∧ o * x ^ nn.toNat % M = E ∧ Below w.heap.size w w2) :=
    ⟨_, _, hR1.below b2, hR2, Int.emod_nonneg _ (by omega), Int.emod_lt_of_pos _ hM0, Int.emod_nonneg _ (by omega), Int.emod_lt_of_pos _ hM0, by rw [Int.mul_emod, Int.emod_emod, pow_mod, ← Int.mul_emod, Int.one_mul]; exact HEE.out, b02⟩
  have HMM : Hid (Num w (.slice a' m cap') M) := hM
  clear eD2 p2 s2 b2 b01 b02 hR1 hR2 hA hM
  go_wp2
  go_loopw [9, 11, 1] (fun vo vx i wr => ∃ k : Nat, k ≤ nn.toNat ∧ i = .int .i64 k ∧ Hid (∃ o x, Num wr vo o ∧ Num wr vx x ∧ 0 ≤ o ∧ o < M ∧ 0 ≤ x ∧ x < M ∧ o * x ^ k % M = E ∧ Below w.heap.size w wr)) (fun _ _ i _ => (intOf i).toNat)
  case atStart => exact ⟨nn.toNat, Nat.le_refl _, by rw [Int.toNat_of_nonneg n0], HS.out⟩
  case round =>
    obtain ⟨k, hk, rfl, HI⟩ := hrel
    obtain ⟨o, x, ho, hx, o0, o1, x0, x1, hev, hb⟩ := HI.out
    by_cases hlt : 0 < k
    · have hIk : (0 : Int) < (k : Int) := by omega
      have lo : o < pw 400 := by omega
      have lx : x < pw 400 := by omega
      have HMw := fun w3 (b : Below wr.heap.size wr w3) => (HMM.out.below hb).below b
      have HBw := fun w3 (b : Below wr.heap.size wr w3) => hb.trans (b.mono hb.size)
      obtain ⟨h2, hh2⟩ : ∃ h2, k / 2 = h2 := ⟨_, rfl⟩
      have ed : (k : Int) / 2 = (h2 : Int) := by omega
      have etd : (k : Int).tdiv 2 = (h2 : Int) := by rw [Int.tdiv_eq_ediv_of_nonneg (by omega)]; exact ed
      have hb2 : (h2 : Int) < 9223372036854775808 := by omega
      have hk2 : k = 2 * h2 ∨ k = 2 * h2 + 1 := by omega
      have HK2 : Hid (k / 2 = h2) := hh2
      clear hh2
      by_cases hbit : k % 2 = 1
      · have hbI : ((k : Int) % 2 == 1) = true := by simp; omega
        have h1 := rmul_num u9 u11 o x wr ho hx (lt_pw lo (by omega)) (lt_pw lx (by omega))
        have HX : Hid (Num wr u11 x) := hx
        have HEV : Hid (o * x ^ k % M = E) := hev
        clear HI ho hx hev
        go_wp2_with fail
        refine h1.mono ?_
        rintro e w3 ⟨r3, rfl, h3, b3⟩
        clear h1
        have h4 := rdiv_num r3 _ (o * x) M w3 h3 (HMw w3 b3) (lt_pw (mul_pw o0 lo lx) (by omega)) hM0 hM9
        clear h3
        go_wp2_with fail
        refine h4.mono ?_
        rintro e w4 ⟨q4, r4, rfl, ⟨Q4, R4, _, hR4, eD4, p4, s4⟩, b4⟩
        clear h4
        rw [(divides_eq eD4 p4 s4).2] at hR4
        have b34 : Below wr.heap.size wr w4 := b3.trans (b4.mono b3.size)
        have h5 := rmul_num u11 u11 x x w4 (HX.out.below b34) (HX.out.below b34) (lt_pw lx (by omega)) (lt_pw lx (by omega))
        clear b3 b4 eD4 p4 s4
        go_wp2_with fail
        refine h5.mono ?_
        rintro e w5 ⟨r5, rfl, h5', b5⟩
        clear h5
        have b35 : Below wr.heap.size wr w5 := b34.trans (b5.mono b34.size)
        have hR5 := hR4.below b5
        have h6 := rdiv_num r5 _ (x * x) M w5 h5' (HMw w5 b35) (lt_pw (mul_pw x0 lx lx) (by omega)) hM0 hM9
        clear b34 b5 h5' hR4
        go_wp2_with fail
        refine h6.mono ?_
        rintro e w6 ⟨q6, r6, rfl, ⟨Q6, R6, _, hR6, eD6, p6, s6⟩, b6⟩
        clear h6
        rw [(divides_eq eD6 p6 s6).2] at hR6
        have b36 : Below wr.heap.size wr w6 := b35.trans (b6.mono b35.size)
        have HR : Hid (∃ o x, Num w6 r4 o ∧ Num w6 r6 x ∧ 0 ≤ o ∧ o < M ∧ 0 ≤ x ∧ x < M ∧ o * x ^ h2 % M = E ∧ Below w.heap.size w w6) :=
          ⟨_, _, hR5.below b6, hR6, Int.emod_nonneg _ (by omega), Int.emod_lt_of_pos _ hM0, Int.emod_nonneg _ (by omega), Int.emod_lt_of_pos _ hM0, by rw [pw_odd, show 2 * h2 + 1 = k by omega]; exact HEV.out, HBw w6 b36⟩
        clear HMw HBw b35 b6 b36 hR5 hR6 eD6 p6 s6 HX
        go_wp2
        go_roundw
        case rel => exact ⟨h2, by omega, by (first | rfl | rw [ed] | rw [etd]), HR.out⟩
        case measure => simp [intOf] <;> omega
      · have hbI : ((k : Int) % 2 == 1) = false := by simp; omega
        have h5 := rmul_num u11 u11 x x wr hx hx (lt_pw lx (by omega)) (lt_pw lx (by omega))
        have HX : Hid (Num wr u9 o) := ho
        have HEV : Hid (o * x ^ k % M = E) := hev
        clear HI ho hx hev
        go_wp2_with fail
        refine h5.mono ?_
        rintro e w5 ⟨r5, rfl, h5', b5⟩
        clear h5
        have h6 := rdiv_num r5 _ (x * x) M w5 h5' (HMw w5 b5) (lt_pw (mul_pw x0 lx lx) (by omega)) hM0 hM9
        clear h5'
        go_wp2_with fail
        refine h6.mono ?_
        rintro e w6 ⟨q6, r6, rfl, ⟨Q6, R6, _, hR6, eD6, p6, s6⟩, b6⟩
        clear h6
        rw [(divides_eq eD6 p6 s6).2] at hR6
        have b36 : Below wr.heap.size wr w6 := b5.trans (b6.mono b5.size)
        have HR : Hid (∃ o x, Num w6 u9 o ∧ Num w6 r6 x ∧ 0 ≤ o ∧ o < M ∧ 0 ≤ x ∧ x < M ∧ o * x ^ h2 % M = E ∧ Below w.heap.size w w6) :=
          ⟨_, _, HX.out.below b36, hR6, o0, o1, Int.emod_nonneg _ (by omega), Int.emod_lt_of_pos _ hM0, by rw [pw_even, show 2 * h2 = k by omega]; exact HEV.out, HBw w6 b36⟩
        clear HMw HBw b5 b6 b36 hR6 eD6 p6 s6 HX
        go_wp2
        go_roundw
        case rel => exact ⟨h2, by omega, by (first | rfl | rw [ed] | rw [etd]), HR.out⟩
        case measure => simp [intOf] <;> omega
    · have e : k = 0 := by omega
      subst e
      have HE : Hid (Num wr u9 E) := by
        rw [Int.pow_zero, Int.mul_one, Int.emod_eq_of_lt o0 o1] at hev
        show Num wr u9 E
        rw [← hev]; exact ho
      clear HI ho hx hev
      go_wp2
      go_ret2
      exact ⟨_, rfl, HE.out, hb⟩
end Go.Proofs.Ytmhplblmabiekaa
