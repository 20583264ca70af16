/-
  What ref.Good and ref.Points answer: the same good beginning, and the same code points. Conditions: the text is at most 2^44 bytes long.
-/
import Derived.Test.YtngpkgmgjbahgaaDoorUC2
namespace Go.Proofs.YtngpkgmgjbahgaaDoor
open Go.RowKit

theorem i64_or_add (X Y : Int) (i : Nat) (h0 : 0 ≤ X) (h1 : 0 ≤ Y) (hx : X.toNat % 2 ^ i = 0) (hy : Y.toNat < 2 ^ i) (hs : X + Y < 4611686018427387904) : bits .or .i64 X Y = X + Y := by
  obtain ⟨a, rfl⟩ := Int.eq_ofNat_of_zero_le h0
  obtain ⟨b, rfl⟩ := Int.eq_ofNat_of_zero_le h1
  have := i64_or_nat a b i (by simpa using hx) (by simpa using hy) (by omega)
  simpa using this
theorem i64_and31 (x : Int) (h0 : 0 ≤ x) (h : x < 4611686018427387904) : bits .and .i64 x 31 = x % 32 := by
  obtain ⟨a, rfl⟩ := Int.eq_ofNat_of_zero_le h0
  show IntKind.i64.wrap ((BitVec.ofInt 64 (a : Int) &&& BitVec.ofInt 64 ((31 : Nat) : Int)).toNat : Int) = _
  rw [BitVec.toNat_and, ofInt_u64 a (by omega), ofInt_u64 31 (by omega), nat_mask5]
  rw [Lib.wrap_i64_small _ (by omega)]
  omega
theorem i64_and15 (x : Int) (h0 : 0 ≤ x) (h : x < 4611686018427387904) : bits .and .i64 x 15 = x % 16 := by
  obtain ⟨a, rfl⟩ := Int.eq_ofNat_of_zero_le h0
  show IntKind.i64.wrap ((BitVec.ofInt 64 (a : Int) &&& BitVec.ofInt 64 ((15 : Nat) : Int)).toNat : Int) = _
  rw [BitVec.toNat_and, ofInt_u64 a (by omega), ofInt_u64 15 (by omega), nat_mask4]
  rw [Lib.wrap_i64_small _ (by omega)]
  omega
theorem i64_and7 (x : Int) (h0 : 0 ≤ x) (h : x < 4611686018427387904) : bits .and .i64 x 7 = x % 8 := by
  obtain ⟨a, rfl⟩ := Int.eq_ofNat_of_zero_le h0
  show IntKind.i64.wrap ((BitVec.ofInt 64 (a : Int) &&& BitVec.ofInt 64 ((7 : Nat) : Int)).toNat : Int) = _
  rw [BitVec.toNat_and, ofInt_u64 a (by omega), ofInt_u64 7 (by omega), nat_mask3]
  rw [Lib.wrap_i64_small _ (by omega)]
  omega
end Go.Proofs.YtngpkgmgjbahgaaDoor
