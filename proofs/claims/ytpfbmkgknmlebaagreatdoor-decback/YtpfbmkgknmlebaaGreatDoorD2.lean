/-
  The arithmetic of a division of two words by one: each half of the quotient is guessed by the divisor's higher half and mended. No condition.
-/
import Derived.Test.YtpfbmkgknmlebaaGreatDoorM0
namespace Go.Proofs.YtpfbmkgknmlebaaGreatDoor

theorem dv_mul (q r u y1 y0 : Int) (h : u = q * y1 + r) : q * (y1 * 4294967296 + y0) = (u - r) * 4294967296 + q * y0 := by
  subst h
  rw [Int.mul_add, show q * y1 + r - r = q * y1 by omega, Int.mul_assoc]
theorem dv_exit (q r u y1 y0 d Y : Int) (h : u = q * y1 + r) (hY : Y = y1 * 4294967296 + y0) (hp : 0 < Y) (ht : q * y0 ≤ 4294967296 * r + d) : q ≤ (u * 4294967296 + d) / Y := by
  rw [Int.le_ediv_iff_mul_le hp, hY, dv_mul q r u y1 y0 h]
  omega
theorem dv_more (q r u y1 y0 d Y : Int) (h : u = q * y1 + r) (hY : Y = y1 * 4294967296 + y0) (hp : 0 < Y) (ht : 4294967296 * r + d < q * y0) : (u * 4294967296 + d) / Y ≤ q - 1 := by
  have : (u * 4294967296 + d) / Y < q := by
    rw [Int.ediv_lt_iff_lt_mul hp, hY, dv_mul q r u y1 y0 h]
    omega
  omega
theorem dv_small (u d Y : Int) (hp : 0 < Y) (hu : u < Y) (hd : d < 4294967296) : (u * 4294967296 + d) / Y < 4294967296 := by
  rw [Int.ediv_lt_iff_lt_mul hp]
  omega
theorem dv_big (q u d Y : Int) (hp : 0 < Y) (hu : u < Y) (hd : d < 4294967296) (hq : 4294967296 ≤ q) : (u * 4294967296 + d) / Y ≤ q - 1 := by
  have := dv_small u d Y hp hu hd
  omega
theorem dv_break (q r u y1 y0 d Y : Int) (h : u = q * y1 + r) (hY : Y = y1 * 4294967296 + y0) (hp : 0 < Y) (q1 : q ≤ 4294967296) (hr : 4294967296 ≤ r) (b0 : 0 ≤ y0) (b1 : y0 < 4294967296) (hd : 0 ≤ d) : q ≤ (u * 4294967296 + d) / Y := by
  refine dv_exit q r u y1 y0 d Y h hY hp ?_
  have : q * y0 ≤ 4294967296 * y0 := Int.mul_le_mul_of_nonneg_right q1 b0
  omega
/-- The first guess. -/
theorem dv_first (u y1 y0 d Y : Int) (hY : Y = y1 * 4294967296 + y0) (hu0 : 0 ≤ u) (hu : u < Y) (hy : 2147483648 ≤ y1) (b0 : 0 ≤ y0) (b1 : y0 < 4294967296) (hd0 : 0 ≤ d) (hd : d < 4294967296) :
    (u * 4294967296 + d) / Y ≤ u / y1 ∧ u / y1 ≤ 4294967297 ∧ 0 ≤ u / y1 ∧ 0 ≤ u - u / y1 * y1 ∧ u - u / y1 * y1 < y1 := by
  have e := Int.mul_ediv_add_emod u y1
  have m0 := Int.emod_nonneg u (show y1 ≠ 0 by omega)
  have m1 := Int.emod_lt_of_pos u (show 0 < y1 by omega)
  rw [Int.mul_comm] at e
  have q0 : 0 ≤ u / y1 := Int.ediv_nonneg hu0 (by omega)
  refine ⟨?_, ?_, q0, by omega, by omega⟩
  · have : (u * 4294967296 + d) / Y < u / y1 + 1 := by
      rw [Int.ediv_lt_iff_lt_mul (by omega), hY, Int.add_mul, dv_mul (u / y1) (u % y1) u y1 y0 (by omega)]
      have := Int.mul_nonneg q0 b0
      omega
    omega
  · have : u / y1 < 4294967298 := by
      rw [Int.ediv_lt_iff_lt_mul (by omega)]
      omega
    omega
/-- What is left is below the divisor, and fits into one word. -/
theorem dv_rest (u d Y q : Int) (hp : 0 < Y) (hq : q = (u * 4294967296 + d) / Y) : 0 ≤ u * 4294967296 + d - q * Y ∧ u * 4294967296 + d - q * Y < Y := by
  have e := Int.mul_ediv_add_emod (u * 4294967296 + d) Y
  have m0 := Int.emod_nonneg (u * 4294967296 + d) (show Y ≠ 0 by omega)
  have m1 := Int.emod_lt_of_pos (u * 4294967296 + d) hp
  rw [Int.mul_comm] at e
  subst hq
  omega
/-- Both halves together. -/
theorem dv_whole (X y Y P u un10 q1 q0 v : Int) (hP : 0 < P) (hY : Y = y * P) (hy : 0 < y) (hX : X * P = u * 18446744073709551616 + un10)
    (hp : 0 < Y) (hv : v = u * 4294967296 + un10 / 4294967296 - q1 * Y) (hq0 : q0 = (v * 4294967296 + un10 % 4294967296) / Y) : q1 * 4294967296 + q0 = X / y := by
  obtain ⟨a0, a1⟩ := dv_rest v (un10 % 4294967296) Y q0 hp hq0
  have e1 : X * P = (q1 * 4294967296 + q0) * Y + (v * 4294967296 + un10 % 4294967296 - q0 * Y) := by
    rw [hX, Int.add_mul, Int.mul_assoc, Int.mul_comm 4294967296 Y, ← Int.mul_assoc]
    omega
  generalize v * 4294967296 + un10 % 4294967296 - q0 * Y = r at *
  generalize q1 * 4294967296 + q0 = q at *
  have l1 : q ≤ X / y := by
    rw [Int.le_ediv_iff_mul_le hy]
    refine Int.le_of_mul_le_mul_right (a := P) ?_ hP
    rw [Int.mul_assoc, ← hY]; omega
  have l2 : X / y < q + 1 := by
    rw [Int.ediv_lt_iff_lt_mul hy]
    refine Int.lt_of_mul_lt_mul_right (a := P) ?_ (by omega)
    rw [Int.mul_assoc, ← hY, Int.add_mul]; omega
  omega
/-- .. and the rest. -/
theorem dv_mod (X y Y P u un10 q1 q0 v : Int) (hP : 0 < P) (hY : Y = y * P) (hX : X * P = u * 18446744073709551616 + un10)
    (hv : v = u * 4294967296 + un10 / 4294967296 - q1 * Y) (hQ : q1 * 4294967296 + q0 = X / y) : (v * 4294967296 + un10 % 4294967296 - q0 * Y) / P = X % y := by
  have e1 : X * P = (q1 * 4294967296 + q0) * Y + (v * 4294967296 + un10 % 4294967296 - q0 * Y) := by
    rw [hX, Int.add_mul, Int.mul_assoc, Int.mul_comm 4294967296 Y, ← Int.mul_assoc]
    omega
  rw [hQ, hY, ← Int.mul_assoc] at e1
  have e2 : v * 4294967296 + un10 % 4294967296 - q0 * (y * P) = (X - X / y * y) * P := by rw [Int.sub_mul]; omega
  rw [hY, e2, Int.mul_ediv_cancel _ (by omega)]
  have := Int.mul_ediv_add_emod X y
  rw [Int.mul_comm] at this
  omega
end Go.Proofs.YtpfbmkgknmlebaaGreatDoor
