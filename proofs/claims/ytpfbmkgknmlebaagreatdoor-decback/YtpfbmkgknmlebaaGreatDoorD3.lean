/-
  Masks, sums of bits and words moved up, for the division of two words by one. No condition.
-/
import Derived.Test.YtpfbmkgknmlebaaGreatDoorD1
import Derived.Test.YtpfbmkgknmlebaaGreatDoorD2
import Derived.Laws.Bits64b
namespace Go.Proofs.YtpfbmkgknmlebaaGreatDoor
open Go.RowKit

theorem u64_mask (a : Int) (h0 : 0 ≤ a) (h1 : a < 18446744073709551616) : bits .and .u64 a 4294967295 = a % 4294967296 := by
  obtain ⟨n, rfl⟩ := Int.eq_ofNat_of_zero_le h0
  have h := bits_and_u64_nat n 4294967295 (by omega) (by omega)
  have e : n &&& 4294967295 = n % 4294967296 := Nat.and_two_pow_sub_one_eq_mod n 32
  rw [e] at h
  rw [show ((n : Int)) % 4294967296 = ((n % 4294967296 : Nat) : Int) by omega]
  exact h
theorem u64_or (a b : Int) (s : Nat) (h0 : 0 ≤ a) (b0 : 0 ≤ b) (b1 : b < 2 ^ s) (hs : a * 2 ^ s + b < 18446744073709551616) : bits .or .u64 (a * 2 ^ s) b = a * 2 ^ s + b := by
  obtain ⟨n, rfl⟩ := Int.eq_ofNat_of_zero_le h0
  obtain ⟨m, rfl⟩ := Int.eq_ofNat_of_zero_le b0
  have e1 : (n : Int) * 2 ^ s = ((n * 2 ^ s : Nat) : Int) := by simp
  have e2 : m < 2 ^ s := by
    have : ((2 ^ s : Nat) : Int) = (2 : Int) ^ s := by simp
    omega
  rw [e1] at hs ⊢
  have h := bits_or_u64_nat (n * 2 ^ s) m (by omega) (by omega)
  rw [Nat.mul_comm n, ← Nat.two_pow_add_eq_or_of_lt e2] at h
  rw [Nat.mul_comm n, h]
  simp
/-- A word moved up by s bits, in two words. -/
theorem word_up (lo : Int) (s : Nat) (hs : s ≤ 63) : lo * 2 ^ s = lo / 2 ^ (64 - s) * 18446744073709551616 + lo * 2 ^ s % 18446744073709551616 := by
  have e : (18446744073709551616 : Int) = 2 ^ (64 - s) * 2 ^ s := by rw [← Int.pow_add, show 64 - s + s = 64 by omega]; rfl
  have h := Int.mul_ediv_add_emod (lo * 2 ^ s) 18446744073709551616
  have h2 : lo * 2 ^ s / 18446744073709551616 = lo / 2 ^ (64 - s) := by
    rw [e]
    exact Int.mul_ediv_mul_of_pos_left _ _ (Int.pow_pos (by decide))
  rw [h2, Int.mul_comm] at h
  omega

theorem ret2_fst {k : IntKind} {a b : Int} {v : Value} (h : a = b) : Ending.returned (.tuple #[.int k a, v]) = .returned (.tuple #[.int k b, v]) := by rw [h]

end Go.Proofs.YtpfbmkgknmlebaaGreatDoor
