/-
  What bits.Len64, bits.LeadingZeros64 and bits.Len answer: how many bits a number has. No condition but the numbers' own kind.
-/
import Derived.Test.YtpfbmkgknmlebaaGreatDoorA1
import Derived.Lib.Strings
import Derived.Lib.Slices
import Derived.Lib.Small
import Derived.Lib.Walk
import Derived.Lib.BitFns
import Derived.Deep.Light
namespace Go.Proofs.YtpfbmkgknmlebaaGreatDoor
open Go.RowKit

/-- One of the eight ways: k bits are cut off, a byte is left. -/
theorem len_way (x : Int) (k : Nat) (b : Int) (hb0 : 0 ≤ b) (hb1 : b ≤ 255) (he : b.toNat = x.toNat / 2 ^ k) (hs : k = 0 ∨ 2 ^ k ≤ x.toNat) (hx : x.toNat < 2 ^ 64) : (Lib.bitLen x.toNat : Int) = (k : Int) + Lib.len8 b ∧ 0 ≤ Lib.len8 b ∧ Lib.len8 b ≤ 8 := by
  have l := Lib.bitLen_le8' b hb0 hb1
  rw [Lib.len8_of b hb0 hb1]
  refine ⟨?_, by omega, by omega⟩
  rcases hs with rfl | hs
  · rw [he]; simp
  · rw [Lib.bitLen_shift k x.toNat hs hx, he]; omega

set_option maxRecDepth 100000 in
theorem tab_size : (Lib.len8tab.size : Int) = 256 := by
  have : Lib.len8tab.size = 256 := by decide
  omega
theorem tab_get (y : Int) (h : y.toNat < Lib.len8tab.size) : ((Lib.len8tab[y.toNat]'h).toNat : Int) = Lib.len8 y := by
  unfold Lib.len8
  rw [getElem?_pos Lib.len8tab y.toNat h]
  rfl
theorem len_end (x : Int) (k : Nat) (b : Int) (hb0 : 0 ≤ b) (hb1 : b ≤ 255) (he : b.toNat = x.toNat / 2 ^ k) (hs : k = 0 ∨ 2 ^ k ≤ x.toNat) (hx : x.toNat < 2 ^ 64) : wrap64 ((k : Int) + wrap64 (Lib.len8 b)) = (Lib.bitLen x.toNat : Int) := by
  have hk : k < 64 := by
    rcases hs with h | h
    · omega
    · exact (Nat.pow_lt_pow_iff_right (by decide)).1 (Nat.lt_of_le_of_lt h hx)
  obtain ⟨a, b, c⟩ := len_way x k b hb0 hb1 he hs hx
  rw [a]
  unfold wrap64
  omega
set_option maxHeartbeats 4000000 in
set_option maxRecDepth 100000 in
theorem len64_any (x : Int) (w : World) (h0 : 0 ≤ x) (h1 : x ≤ 18446744073709551615) :
    Calls Tryz.prog 115 #[.int .u64 x] w fun e w' => e = .returned (.int .i64 (Lib.bitLen x.toNat)) ∧ w = w' := by
  have hs := tab_size
  go_enter Tryz.func115, Tryz.ntmps115
  go_wp2
  all_goals (go_ret; refine ⟨congrArg Ending.returned (congrArg (Value.int IntKind.i64) ?_), rfl⟩; go_light)
  all_goals first
    | (rw [tab_get (x / 4294967296 / 65536 / 256) _]; exact len_end x 56 (x / 4294967296 / 65536 / 256) (by omega) (by omega) (by omega) (.inr (by omega)) (by omega))
    | (rw [tab_get (x / 4294967296 / 65536) _]; exact len_end x 48 (x / 4294967296 / 65536) (by omega) (by omega) (by omega) (.inr (by omega)) (by omega))
    | (rw [tab_get (x / 4294967296 / 256) _]; exact len_end x 40 (x / 4294967296 / 256) (by omega) (by omega) (by omega) (.inr (by omega)) (by omega))
    | (rw [tab_get (x / 4294967296) _]; exact len_end x 32 (x / 4294967296) (by omega) (by omega) (by omega) (.inr (by omega)) (by omega))
    | (rw [tab_get (x / 65536 / 256) _]; exact len_end x 24 (x / 65536 / 256) (by omega) (by omega) (by omega) (.inr (by omega)) (by omega))
    | (rw [tab_get (x / 65536) _]; exact len_end x 16 (x / 65536) (by omega) (by omega) (by omega) (.inr (by omega)) (by omega))
    | (rw [tab_get (x / 256) _]; exact len_end x 8 (x / 256) (by omega) (by omega) (by omega) (.inr (by omega)) (by omega))
    | (rw [tab_get (x) _]; have hz := len_end x 0 (x) (by omega) (by omega) (by simp) (.inl rfl) (by omega); simpa using hz)
    | (rw [tab_get (x) _]; have hz := len_end x 0 (x) (by omega) (by omega) (by simp) (.inl rfl) (by omega); have hw := len_way x 0 x (by omega) (by omega) (by simp) (.inl rfl) (by omega); unfold wrap64 at *; omega)

theorem bits_aux (f x : Nat) (h : x < 2 ^ f) : x < 2 ^ Lib.bitLenAux f x ∧ (0 < x → 2 ^ Lib.bitLenAux f x ≤ 2 * x) ∧ Lib.bitLenAux f x ≤ f := by
  induction f generalizing x with
  | zero => simp [Lib.bitLenAux] at *; omega
  | succ f ih =>
    unfold Lib.bitLenAux
    by_cases z : x = 0
    · simp [z]
    · rw [if_neg z]
      have := ih (x / 2) (by rw [Nat.pow_succ] at h; omega)
      rw [Nat.add_comm 1, Nat.pow_succ]
      refine ⟨by omega, fun _ => ?_, by omega⟩
      by_cases z2 : x / 2 = 0
      · have e : Lib.bitLenAux f (x / 2) = 0 := by rw [z2]; cases f <;> simp [Lib.bitLenAux]
        rw [e]; omega
      · have := this.2.1 (by omega); omega
/-- A number that is not nought, moved up until its highest bit is the 64th. -/
theorem lead_any (y : Int) (w : World) (h0 : 0 < y) (h1 : y ≤ 18446744073709551615) : ∃ s : Nat, s ≤ 63 ∧ 9223372036854775808 ≤ y * 2 ^ s ∧ y * 2 ^ s < 18446744073709551616 ∧
    Calls Tryz.prog 139 #[.int .u64 y] w fun e w' => e = .returned (.int .i64 s) ∧ w = w' := by
  have hl := len64_any y w (by omega) h1
  obtain ⟨a, b, c⟩ := bits_aux 64 y.toNat (by omega)
  have e : Lib.bitLen y.toNat = Lib.bitLenAux 64 y.toNat := rfl
  rw [e] at hl
  obtain ⟨L, hL⟩ : ∃ L, Lib.bitLenAux 64 y.toNat = L := ⟨_, rfl⟩
  rw [hL] at hl a b c
  have b := b (by omega)
  clear e hL
  have hL0 : 0 < L := by
    by_cases z : L = 0
    · subst z; simp at a; omega
    · omega
  have hp : (2 : Nat) ^ L * 2 ^ (64 - L) = 2 ^ 64 := by rw [← Nat.pow_add, show L + (64 - L) = 64 by omega]
  have hpos : 0 < (2 : Nat) ^ (64 - L) := Nat.two_pow_pos _
  have k1 : y.toNat * 2 ^ (64 - L) < 2 ^ L * 2 ^ (64 - L) := Nat.mul_lt_mul_of_pos_right a hpos
  have k2 : 2 ^ L * 2 ^ (64 - L) ≤ 2 * y.toNat * 2 ^ (64 - L) := Nat.mul_le_mul_right _ b
  rw [Nat.mul_assoc] at k2
  have ec : y * 2 ^ (64 - L) = ((y.toNat * 2 ^ (64 - L) : Nat) : Int) := by
    rw [Int.natCast_mul, Int.toNat_of_nonneg (by omega)]; simp
  refine ⟨64 - L, by omega, by rw [ec]; omega, by rw [ec]; omega, ?_⟩
  have es : ((64 - L : Nat) : Int) = 64 - (L : Int) := by omega
  rw [es]
  clear ec k1 k2 hp hpos es a b
  go_enter Tryz.func139, Tryz.ntmps139
  go_wp2_with (go_at_call 115; refine hl.mono ?_; rintro e w' ⟨rfl, rfl⟩)
  go_ret
  exact ⟨rfl, rfl⟩
end Go.Proofs.YtpfbmkgknmlebaaGreatDoor
