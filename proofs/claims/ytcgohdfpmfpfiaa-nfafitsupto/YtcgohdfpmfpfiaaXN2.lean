/-
  The counter's sum and product. Conditions: nothing is below 0.
-/
import Derived.Test.YtcgohdfpmfpfiaaXN1
import Derived.Test.YtcgohdfpmfpfiaaXR1
import Derived.BigQuiet
namespace Go.Proofs.Ytcgohdfpmfpfiaa
open Go.RowKit
attribute [local go_sem] setCell_drewN alloc_drewN

set_option maxRecDepth 100000 in
set_option maxHeartbeats 800000 in
theorem plus_any (L a b : Int) (hL0 : 0 ≤ L) (hL : L ≤ 9223372036854775807) (ha : 0 ≤ a) (hb : 0 ≤ b) (w : World) :
    Calls Try.prog 22 #[.agg #[.int .i64 L], .int .i64 a, .int .i64 b] w fun r w' => r = .returned (.int .i64 (min (a + b) L)) ∧ Below w.heap.size w w' := by
  obtain ⟨P, hP⟩ : ∃ P : Ending → World → Prop, P = fun r w' => r = .returned (.int .i64 (min (a + b) L)) ∧ Below w.heap.size w w' := ⟨_, rfl⟩
  rw [← hP]
  have HP := hid_intro hP
  clear hP
  go_enter Try.func22, Try.ntmps22
  by_cases h1 : a ≥ L
  · have HE : Hid (min (a + b) L = L) := hid_intro (by omega)
    go_wp2_with fail
    rw [HP.out, HE.out]
    exact ⟨rfl, vb_a (Below.refl _ _) _⟩
  · by_cases h2 : b ≥ L - a
    · have HE : Hid (min (a + b) L = L) := hid_intro (by omega)
      go_wp2_with fail
      rw [HP.out, HE.out]
      exact ⟨rfl, vb_a (Below.refl _ _) _⟩
    · have HE : Hid (min (a + b) L = a + b) := hid_intro (by omega)
      go_wp2_with fail
      rw [HP.out, HE.out]
      exact ⟨rfl, vb_a (Below.refl _ _) _⟩
set_option maxRecDepth 100000 in
set_option maxHeartbeats 800000 in
theorem times_any (L n a : Int) (hL0 : 0 ≤ L) (hL : L ≤ 9223372036854775807) (hn : 0 ≤ n) (ha : 0 ≤ a) (w : World) :
    Calls Try.prog 31 #[.agg #[.int .i64 L], .int .i64 n, .int .i64 a] w fun r w' => r = .returned (.int .i64 (min (n * a) L)) ∧ Below w.heap.size w w' := by
  obtain ⟨P, hP⟩ : ∃ P : Ending → World → Prop, P = fun r w' => r = .returned (.int .i64 (min (n * a) L)) ∧ Below w.heap.size w w' := ⟨_, rfl⟩
  rw [← hP]
  have HP := hid_intro hP
  clear hP
  go_enter Try.func31, Try.ntmps31
  by_cases h1 : n > 0
  · have hq0 : 0 ≤ L / n := Int.ediv_nonneg hL0 hn
    have hq1 : L / n ≤ L := Int.ediv_le_self _ hL0
    have hiff : L / n < a ↔ L < a * n := Int.ediv_lt_iff_lt_mul h1
    have hz : ¬ n = 0 := by omega
    by_cases h2 : a > L / n
    · have HE : Hid (min (n * a) L = L) := hid_intro (by have := hiff.1 h2; rw [Int.mul_comm] at this; omega)
      go_wp2_with fail
      rw [HP.out, HE.out]
      exact ⟨rfl, vb_a (Below.refl _ _) _⟩
    · have HE : Hid (min (n * a) L = n * a) := hid_intro (by have : ¬ L < a * n := fun h => h2 (hiff.2 h); rw [Int.mul_comm] at this; omega)
      have hm : n * a ≤ 9223372036854775807 := by have : ¬ L < a * n := fun h => h2 (hiff.2 h); rw [Int.mul_comm] at this; omega
      have hm0 : 0 ≤ n * a := Int.mul_nonneg hn ha
      go_wp2_with fail
      rw [HP.out, HE.out]
      exact ⟨rfl, vb_a (Below.refl _ _) _⟩
  · obtain rfl : n = 0 := by omega
    have HE : Hid (min (0 * a) L = 0) := hid_intro (by rw [Int.zero_mul]; omega)
    go_wp2_with fail
    rw [HP.out, HE.out]
    exact ⟨rfl, vb_a (Below.refl _ _) _⟩
end Go.Proofs.Ytcgohdfpmfpfiaa
