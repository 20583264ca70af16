/-
  What bits.Len64, bits.LeadingZeros64 and bits.Len answer: how many bits a number has. No condition but the numbers' own kind.
  The arithmetic of a division of two words by one: each half of the quotient is guessed by the divisor's higher half and mended. No condition.
  Masks, sums of bits and words moved up, for the division of two words by one. No condition.
  What bits.Div64 answers: the quotient of two words by one that is greater than the higher. No condition else.
-/
import Derived.Test.YtpfbmkgknmlebaaGreatDoorNA
import Derived.Lib.Strings
import Derived.Lib.Slices
import Derived.Lib.Small
import Derived.Lib.Walk
import Derived.Lib.BitFns
import Derived.Deep.Light
import Derived.Laws.Bits64b
namespace Go.Proofs.YtpfbmkgknmlebaaGreatDoor
open Go.RowKit

/-- One of the eight ways: k bits are cut off, a byte is left. -/
theorem len_way (x : Int) (k : Nat) (b : Int) (hb0 : 0 ≤ b) (hb1 : b ≤ 255) (he : b.toNat = x.toNat / 2 ^ k) (hs : k = 0 ∨ 2 ^ k ≤ x.toNat) (hx : x.toNat < 2 ^ 64) : (Lib.bitLen x.toNat : Int) = (k : Int) + Lib.len8 b ∧ 0 ≤ Lib.len8 b ∧ Lib.len8 b ≤ 8 := by
  have l := Lib.bitLen_le8' b hb0 hb1
  rw [Lib.len8_of b hb0 hb1]
  refine ⟨?_, by omega, by omega⟩
  rcases hs with rfl | hs
  · rw [he]; simp
  · rw [Lib.bitLen_shift k x.toNat hs hx, he]; omega

set_option maxRecDepth 100000 in
theorem tab_size : (Lib.len8tab.size : Int) = 256 := by
  have : Lib.len8tab.size = 256 := by decide
  omega
theorem tab_get (y : Int) (h : y.toNat < Lib.len8tab.size) : ((Lib.len8tab[y.toNat]'h).toNat : Int) = Lib.len8 y := by
  unfold Lib.len8
  rw [getElem?_pos Lib.len8tab y.toNat h]
  rfl
theorem len_end (x : Int) (k : Nat) (b : Int) (hb0 : 0 ≤ b) (hb1 : b ≤ 255) (he : b.toNat = x.toNat / 2 ^ k) (hs : k = 0 ∨ 2 ^ k ≤ x.toNat) (hx : x.toNat < 2 ^ 64) : wrap64 ((k : Int) + wrap64 (Lib.len8 b)) = (Lib.bitLen x.toNat : Int) := by
  have hk : k < 64 := by
    rcases hs with h | h
    · omega
    · exact (Nat.pow_lt_pow_iff_right (by decide)).1 (Nat.lt_of_le_of_lt h hx)
  obtain ⟨a, b, c⟩ := len_way x k b hb0 hb1 he hs hx
  rw [a]
  unfold wrap64
  omega
set_option maxHeartbeats 4000000 in
set_option maxRecDepth 100000 in
theorem len64_any (x : Int) (w : World) (h0 : 0 ≤ x) (h1 : x ≤ 18446744073709551615) :
    Calls Tryz.prog 115 #[.int .u64 x] w fun e w' => e = .returned (.int .i64 (Lib.bitLen x.toNat)) ∧ w = w' := by
  have hs := tab_size
  go_enter Tryz.func115, Tryz.ntmps115
  go_wp2
  all_goals (go_ret; refine ⟨congrArg Ending.returned (congrArg (Value.int IntKind.i64) ?_), rfl⟩; go_light)
  all_goals first
    | (rw [tab_get (x / 4294967296 / 65536 / 256) _]; exact len_end x 56 (x / 4294967296 / 65536 / 256) (by omega) (by omega) (by omega) (.inr (by omega)) (by omega))
    | (rw [tab_get (x / 4294967296 / 65536) _]; exact len_end x 48 (x / 4294967296 / 65536) (by omega) (by omega) (by omega) (.inr (by omega)) (by omega))
    | (rw [tab_get (x / 4294967296 / 256) _]; exact len_end x 40 (x / 4294967296 / 256) (by omega) (by omega) (by omega) (.inr (by omega)) (by omega))
    | (rw [tab_get (x / 4294967296) _]; exact len_end x 32 (x / 4294967296) (by omega) (by omega) (by omega) (.inr (by omega)) (by omega))
    | (rw [tab_get (x / 65536 / 256) _]; exact len_end x 24 (x / 65536 / 256) (by omega) (by omega) (by omega) (.inr (by omega)) (by omega))
    | (rw [tab_get (x / 65536) _]; exact len_end x 16 (x / 65536) (by omega) (by omega) (by omega) (.inr (by omega)) (by omega))
    | (rw [tab_get (x / 256) _]; exact len_end x 8 (x / 256) (by omega) (by omega) (by omega) (.inr (by omega)) (by omega))
    | (rw [tab_get (x) _]; have hz := len_end x 0 (x) (by omega) (by omega) (by simp) (.inl rfl) (by omega); simpa using hz)
    | (rw [tab_get (x) _]; have hz := len_end x 0 (x) (by omega) (by omega) (by simp) (.inl rfl) (by omega); have hw := len_way x 0 x (by omega) (by omega) (by simp) (.inl rfl) (by omega); unfold wrap64 at *; omega)

theorem bits_aux (f x : Nat) (h : x < 2 ^ f) : x < 2 ^ Lib.bitLenAux f x ∧ (0 < x → 2 ^ Lib.bitLenAux f x ≤ 2 * x) ∧ Lib.bitLenAux f x ≤ f := by
  induction f generalizing x with
  | zero => simp [Lib.bitLenAux] at *; omega
  | succ f ih =>
    unfold Lib.bitLenAux
    by_cases z : x = 0
    · simp [z]
    · rw [if_neg z]
      have := ih (x / 2) (by rw [Nat.pow_succ] at h; omega)
      rw [Nat.add_comm 1, Nat.pow_succ]
      refine ⟨by omega, fun _ => ?_, by omega⟩
      by_cases z2 : x / 2 = 0
      · have e : Lib.bitLenAux f (x / 2) = 0 := by rw [z2]; cases f <;> simp [Lib.bitLenAux]
        rw [e]; omega
      · have := this.2.1 (by omega); omega
/-- A number that is not nought, moved up until its highest bit is the 64th. -/
theorem lead_any (y : Int) (w : World) (h0 : 0 < y) (h1 : y ≤ 18446744073709551615) : ∃ s : Nat, s ≤ 63 ∧ 9223372036854775808 ≤ y * 2 ^ s ∧ y * 2 ^ s < 18446744073709551616 ∧
    Calls Tryz.prog 139 #[.int .u64 y] w fun e w' => e = .returned (.int .i64 s) ∧ w = w' := by
  have hl := len64_any y w (by omega) h1
  obtain ⟨a, b, c⟩ := bits_aux 64 y.toNat (by omega)
  have e : Lib.bitLen y.toNat = Lib.bitLenAux 64 y.toNat := rfl
  rw [e] at hl
  obtain ⟨L, hL⟩ : ∃ L, Lib.bitLenAux 64 y.toNat = L := ⟨_, rfl⟩
  rw [hL] at hl a b c
  have b := b (by omega)
  clear e hL
  have hL0 : 0 < L := by
    by_cases z : L = 0
    · subst z; simp at a; omega
    · omega
  have hp : (2 : Nat) ^ L * 2 ^ (64 - L) = 2 ^ 64 := by rw [← Nat.pow_add, show L + (64 - L) = 64 by omega]
  have hpos : 0 < (2 : Nat) ^ (64 - L) := Nat.two_pow_pos _
  have k1 : y.toNat * 2 ^ (64 - L) < 2 ^ L * 2 ^ (64 - L) := Nat.mul_lt_mul_of_pos_right a hpos
  have k2 : 2 ^ L * 2 ^ (64 - L) ≤ 2 * y.toNat * 2 ^ (64 - L) := Nat.mul_le_mul_right _ b
  rw [Nat.mul_assoc] at k2
  have ec : y * 2 ^ (64 - L) = ((y.toNat * 2 ^ (64 - L) : Nat) : Int) := by
    rw [Int.natCast_mul, Int.toNat_of_nonneg (by omega)]; simp
  refine ⟨64 - L, by omega, by rw [ec]; omega, by rw [ec]; omega, ?_⟩
  have es : ((64 - L : Nat) : Int) = 64 - (L : Int) := by omega
  rw [es]
  clear ec k1 k2 hp hpos es a b
  go_enter Tryz.func139, Tryz.ntmps139
  go_wp2_with (go_at_call 115; refine hl.mono ?_; rintro e w' ⟨rfl, rfl⟩)
  go_ret
  exact ⟨rfl, rfl⟩
end Go.Proofs.YtpfbmkgknmlebaaGreatDoor

namespace Go.Proofs.YtpfbmkgknmlebaaGreatDoor

theorem dv_mul (q r u y1 y0 : Int) (h : u = q * y1 + r) : q * (y1 * 4294967296 + y0) = (u - r) * 4294967296 + q * y0 := by
  subst h
  rw [Int.mul_add, show q * y1 + r - r = q * y1 by omega, Int.mul_assoc]
theorem dv_exit (q r u y1 y0 d Y : Int) (h : u = q * y1 + r) (hY : Y = y1 * 4294967296 + y0) (hp : 0 < Y) (ht : q * y0 ≤ 4294967296 * r + d) : q ≤ (u * 4294967296 + d) / Y := by
  rw [Int.le_ediv_iff_mul_le hp, hY, dv_mul q r u y1 y0 h]
  omega
theorem dv_more (q r u y1 y0 d Y : Int) (h : u = q * y1 + r) (hY : Y = y1 * 4294967296 + y0) (hp : 0 < Y) (ht : 4294967296 * r + d < q * y0) : (u * 4294967296 + d) / Y ≤ q - 1 := by
  have : (u * 4294967296 + d) / Y < q := by
    rw [Int.ediv_lt_iff_lt_mul hp, hY, dv_mul q r u y1 y0 h]
    omega
  omega
theorem dv_small (u d Y : Int) (hp : 0 < Y) (hu : u < Y) (hd : d < 4294967296) : (u * 4294967296 + d) / Y < 4294967296 := by
  rw [Int.ediv_lt_iff_lt_mul hp]
  omega
theorem dv_big (q u d Y : Int) (hp : 0 < Y) (hu : u < Y) (hd : d < 4294967296) (hq : 4294967296 ≤ q) : (u * 4294967296 + d) / Y ≤ q - 1 := by
  have := dv_small u d Y hp hu hd
  omega
theorem dv_break (q r u y1 y0 d Y : Int) (h : u = q * y1 + r) (hY : Y = y1 * 4294967296 + y0) (hp : 0 < Y) (q1 : q ≤ 4294967296) (hr : 4294967296 ≤ r) (b0 : 0 ≤ y0) (b1 : y0 < 4294967296) (hd : 0 ≤ d) : q ≤ (u * 4294967296 + d) / Y := by
  refine dv_exit q r u y1 y0 d Y h hY hp ?_
  have : q * y0 ≤ 4294967296 * y0 := Int.mul_le_mul_of_nonneg_right q1 b0
  omega
/-- The first guess. -/
theorem dv_first (u y1 y0 d Y : Int) (hY : Y = y1 * 4294967296 + y0) (hu0 : 0 ≤ u) (hu : u < Y) (hy : 2147483648 ≤ y1) (b0 : 0 ≤ y0) (b1 : y0 < 4294967296) (hd0 : 0 ≤ d) (hd : d < 4294967296) :
    (u * 4294967296 + d) / Y ≤ u / y1 ∧ u / y1 ≤ 4294967297 ∧ 0 ≤ u / y1 ∧ 0 ≤ u - u / y1 * y1 ∧ u - u / y1 * y1 < y1 := by
  have e := Int.mul_ediv_add_emod u y1
  have m0 := Int.emod_nonneg u (show y1 ≠ 0 by omega)
  have m1 := Int.emod_lt_of_pos u (show 0 < y1 by omega)
  rw [Int.mul_comm] at e
  have q0 : 0 ≤ u / y1 := Int.ediv_nonneg hu0 (by omega)
  refine ⟨?_, ?_, q0, by omega, by omega⟩
  · have : (u * 4294967296 + d) / Y < u / y1 + 1 := by
      rw [Int.ediv_lt_iff_lt_mul (by omega), hY, Int.add_mul, dv_mul (u / y1) (u % y1) u y1 y0 (by omega)]
      have := Int.mul_nonneg q0 b0
      omega
    omega
  · have : u / y1 < 4294967298 := by
      rw [Int.ediv_lt_iff_lt_mul (by omega)]
      omega
    omega
/-- What is left is below the divisor, and fits into one word. -/
theorem dv_rest (u d Y q : Int) (hp : 0 < Y) (hq : q = (u * 4294967296 + d) / Y) : 0 ≤ u * 4294967296 + d - q * Y ∧ u * 4294967296 + d - q * Y < Y := by
  have e := Int.mul_ediv_add_emod (u * 4294967296 + d) Y
  have m0 := Int.emod_nonneg (u * 4294967296 + d) (show Y ≠ 0 by omega)
  have m1 := Int.emod_lt_of_pos (u * 4294967296 + d) hp
  rw [Int.mul_comm] at e
  subst hq
  omega
/-- Both halves together. -/
theorem dv_whole (X y Y P u un10 q1 q0 v : Int) (hP : 0 < P) (hY : Y = y * P) (hy : 0 < y) (hX : X * P = u * 18446744073709551616 + un10)
    (hp : 0 < Y) (hv : v = u * 4294967296 + un10 / 4294967296 - q1 * Y) (hq0 : q0 = (v * 4294967296 + un10 % 4294967296) / Y) : q1 * 4294967296 + q0 = X / y := by
  obtain ⟨a0, a1⟩ := dv_rest v (un10 % 4294967296) Y q0 hp hq0
  have e1 : X * P = (q1 * 4294967296 + q0) * Y + (v * 4294967296 + un10 % 4294967296 - q0 * Y) := by
    rw [hX, Int.add_mul, Int.mul_assoc, Int.mul_comm 4294967296 Y, ← Int.mul_assoc]
    omega
  generalize v * 4294967296 + un10 % 4294967296 - q0 * Y = r at *
  generalize q1 * 4294967296 + q0 = q at *
  have l1 : q ≤ X / y := by
    rw [Int.le_ediv_iff_mul_le hy]
    refine Int.le_of_mul_le_mul_right (a := P) ?_ hP
    rw [Int.mul_assoc, ← hY]; omega
  have l2 : X / y < q + 1 := by
    rw [Int.ediv_lt_iff_lt_mul hy]
    refine Int.lt_of_mul_lt_mul_right (a := P) ?_ (by omega)
    rw [Int.mul_assoc, ← hY, Int.add_mul]; omega
  omega
/-- .. and the rest. -/
theorem dv_mod (X y Y P u un10 q1 q0 v : Int) (hP : 0 < P) (hY : Y = y * P) (hX : X * P = u * 18446744073709551616 + un10)
    (hv : v = u * 4294967296 + un10 / 4294967296 - q1 * Y) (hQ : q1 * 4294967296 + q0 = X / y) : (v * 4294967296 + un10 % 4294967296 - q0 * Y) / P = X % y := by
  have e1 : X * P = (q1 * 4294967296 + q0) * Y + (v * 4294967296 + un10 % 4294967296 - q0 * Y) := by
    rw [hX, Int.add_mul, Int.mul_assoc, Int.mul_comm 4294967296 Y, ← Int.mul_assoc]
    omega
  rw [hQ, hY, ← Int.mul_assoc] at e1
  have e2 : v * 4294967296 + un10 % 4294967296 - q0 * (y * P) = (X - X / y * y) * P := by rw [Int.sub_mul]; omega
  rw [hY, e2, Int.mul_ediv_cancel _ (by omega)]
  have := Int.mul_ediv_add_emod X y
  rw [Int.mul_comm] at this
  omega
end Go.Proofs.YtpfbmkgknmlebaaGreatDoor

namespace Go.Proofs.YtpfbmkgknmlebaaGreatDoor
open Go.RowKit

theorem u64_mask (a : Int) (h0 : 0 ≤ a) (h1 : a < 18446744073709551616) : bits .and .u64 a 4294967295 = a % 4294967296 := by
  obtain ⟨n, rfl⟩ := Int.eq_ofNat_of_zero_le h0
  have h := bits_and_u64_nat n 4294967295 (by omega) (by omega)
  have e : n &&& 4294967295 = n % 4294967296 := Nat.and_two_pow_sub_one_eq_mod n 32
  rw [e] at h
  rw [show ((n : Int)) % 4294967296 = ((n % 4294967296 : Nat) : Int) by omega]
  exact h
theorem u64_or (a b : Int) (s : Nat) (h0 : 0 ≤ a) (b0 : 0 ≤ b) (b1 : b < 2 ^ s) (hs : a * 2 ^ s + b < 18446744073709551616) : bits .or .u64 (a * 2 ^ s) b = a * 2 ^ s + b := by
  obtain ⟨n, rfl⟩ := Int.eq_ofNat_of_zero_le h0
  obtain ⟨m, rfl⟩ := Int.eq_ofNat_of_zero_le b0
  have e1 : (n : Int) * 2 ^ s = ((n * 2 ^ s : Nat) : Int) := by simp
  have e2 : m < 2 ^ s := by
    have : ((2 ^ s : Nat) : Int) = (2 : Int) ^ s := by simp
    omega
  rw [e1] at hs ⊢
  have h := bits_or_u64_nat (n * 2 ^ s) m (by omega) (by omega)
  rw [Nat.mul_comm n, ← Nat.two_pow_add_eq_or_of_lt e2] at h
  rw [Nat.mul_comm n, h]
  simp
/-- A word moved up by s bits, in two words. -/
theorem word_up (lo : Int) (s : Nat) (hs : s ≤ 63) : lo * 2 ^ s = lo / 2 ^ (64 - s) * 18446744073709551616 + lo * 2 ^ s % 18446744073709551616 := by
  have e : (18446744073709551616 : Int) = 2 ^ (64 - s) * 2 ^ s := by rw [← Int.pow_add, show 64 - s + s = 64 by omega]; rfl
  have h := Int.mul_ediv_add_emod (lo * 2 ^ s) 18446744073709551616
  have h2 : lo * 2 ^ s / 18446744073709551616 = lo / 2 ^ (64 - s) := by
    rw [e]
    exact Int.mul_ediv_mul_of_pos_left _ _ (Int.pow_pos (by decide))
  rw [h2, Int.mul_comm] at h
  omega

theorem ret2_fst {k : IntKind} {a b : Int} {v : Value} (h : a = b) : Ending.returned (.tuple #[.int k a, v]) = .returned (.tuple #[.int k b, v]) := by rw [h]

end Go.Proofs.YtpfbmkgknmlebaaGreatDoor

namespace Go.Proofs.YtpfbmkgknmlebaaGreatDoor
open Go.RowKit

set_option maxRecDepth 100000 in
set_option maxHeartbeats 8000000 in
theorem div64_far (hi lo y : Int) (w : World) (h0 : 0 < hi) (h1 : hi < y) (l0 : 0 ≤ lo) (l1 : lo < 18446744073709551616) (y1 : y < 18446744073709551616) :
    Calls Tryz.prog 137 #[.int .u64 hi, .int .u64 lo, .int .u64 y] w fun e w' => e = .returned (.tuple #[.int .u64 ((hi * 18446744073709551616 + lo) / y), .int .u64 ((hi * 18446744073709551616 + lo) % y)]) ∧ w = w' := by
  obtain ⟨s, hs, a0, a1, hl⟩ := lead_any y w (by omega) (by omega)
  have y0 : 0 < y := by omega
  obtain ⟨P, hP⟩ : ∃ P : Int, (2 : Int) ^ s = P := ⟨_, rfl⟩
  have pP : 0 < P := by rw [← hP]; exact Int.pow_pos (by decide)
  have wu := word_up lo s hs
  obtain ⟨P2, hP2⟩ : ∃ P2 : Int, (2 : Int) ^ (64 - s) = P2 := ⟨_, rfl⟩
  have pP2 : 0 < P2 := by rw [← hP2]; exact Int.pow_pos (by decide)
  have L0 : 0 ≤ lo / P2 := Int.ediv_nonneg l0 (by omega)
  have L1 : lo / P2 < P := by
    rw [Int.ediv_lt_iff_lt_mul pP2, ← hP, ← hP2, ← Int.pow_add, show s + (64 - s) = 64 by omega]
    exact l1
  have hu0 : (hi + 1) * P ≤ y * P := Int.mul_le_mul_of_nonneg_right (by omega) (by omega)
  rw [Int.add_mul] at hu0
  have hH0 : 0 ≤ hi * P := Int.mul_nonneg (by omega) (by omega)
  have hor := u64_or hi (lo / P2) s (by omega) L0 (by rw [hP]; exact L1) (by rw [hP]; rw [hP] at a1; omega)
  rw [hP] at hor wu a0 a1
  rw [hP2] at wu
  obtain ⟨QQ, hQQ⟩ : ∃ Q, (hi * 18446744073709551616 + lo) / y = Q := ⟨_, rfl⟩
  rw [hQQ]
  have HQQ : Hid ((hi * 18446744073709551616 + lo) / y = QQ) := hQQ
  obtain ⟨RR, hRR⟩ : ∃ R, (hi * 18446744073709551616 + lo) % y = R := ⟨_, rfl⟩
  rw [hRR]
  have HRR : Hid ((hi * 18446744073709551616 + lo) % y = RR) := hRR
  clear hRR
  obtain ⟨Y, hY⟩ : ∃ Y, y * P = Y := ⟨_, rfl⟩
  obtain ⟨H1, hH1⟩ : ∃ H, hi * P = H := ⟨_, rfl⟩
  obtain ⟨l2, hl2⟩ : ∃ l, lo / P2 = l := ⟨_, rfl⟩
  obtain ⟨loP, hloP⟩ : ∃ x, lo * P = x := ⟨_, rfl⟩
  obtain ⟨un10, h10⟩ : ∃ x, IntKind.u64.wrap loP = x := ⟨_, rfl⟩
  rw [hloP] at wu
  have h10' : loP % 18446744073709551616 = un10 := by rw [← h10, IntKind.wrap_u64]
  rw [h10', hl2] at wu
  rw [hY] at a0 a1 hu0
  rw [hH1] at hor hu0 hH0
  rw [hl2] at hor L0 L1
  have n10a : 0 ≤ un10 := by omega
  have n10b : un10 < 18446744073709551616 := by omega
  have mk1 := u64_mask Y (by omega) a1
  have mk2 := u64_mask un10 n10a n10b
  obtain ⟨u, hu⟩ : ∃ u, H1 + l2 = u := ⟨_, rfl⟩
  rw [hu] at hor
  have u0 : 0 ≤ u := by omega
  have u1 : u < Y := by omega
  have HX : Hid ((hi * 18446744073709551616 + lo) * P = u * 18446744073709551616 + un10) := by
    show (hi * 18446744073709551616 + lo) * P = u * 18446744073709551616 + un10
    rw [Int.add_mul, Int.mul_assoc, Int.mul_comm 18446744073709551616 P, ← Int.mul_assoc, hH1, hloP, wu, ← hu, Int.add_mul]
    omega
  have HY : Hid (y * P = Y) := hY
  obtain ⟨z1, hz1⟩ : ∃ z, Y / 4294967296 = z := ⟨_, rfl⟩
  obtain ⟨z0, hz0⟩ : ∃ z, Y % 4294967296 = z := ⟨_, rfl⟩
  obtain ⟨d1, h10d1⟩ : ∃ z, un10 / 4294967296 = z := ⟨_, rfl⟩
  obtain ⟨d0, h10d0⟩ : ∃ z, un10 % 4294967296 = z := ⟨_, rfl⟩
  rw [hz0] at mk1
  rw [h10d0] at mk2
  have HZ : Hid (Y = z1 * 4294967296 + z0) := by show Y = _; omega
  have z1a : 2147483648 ≤ z1 := by omega
  have z1b : z1 < 4294967296 := by omega
  have z0a : 0 ≤ z0 := by omega
  have z0b : z0 < 4294967296 := by omega
  have d1a : 0 ≤ d1 := by omega
  have d1b : d1 < 4294967296 := by omega
  have d0a : 0 ≤ d0 := by omega
  have d0b : d0 < 4294967296 := by omega
  have Yp : 0 < Y := by omega
  have zz : (z1 == 0) = false := beq_eq_false_iff_ne.2 (by omega)
  have yz : (y == 0) = false := beq_eq_false_iff_ne.2 (by omega)
  have hz : (hi == 0) = false := beq_eq_false_iff_ne.2 (by omega)
  have yh : ¬ y ≤ hi := by omega
  have hsI : (64 - (s : Int)).toNat = 64 - s := by omega
  have hH2 : H1 < 18446744073709551616 := by omega
  clear wu h10' hu hQQ hz0 hu0 L1 pP2
  have fiA := dv_first u z1 z0 d1 Y HZ.out u0 u1 z1a z0a z0b d1a d1b
  have tdA : u.tdiv z1 = u / z1 := Int.tdiv_eq_ediv_of_nonneg u0
  obtain ⟨q1, hq1⟩ : ∃ q1, u / z1 = q1 := ⟨_, rfl⟩
  rw [hq1] at fiA tdA
  obtain ⟨M0, hM0⟩ : ∃ M0, q1 * z1 = M0 := ⟨_, rfl⟩
  obtain ⟨faA, fbA, fcA, fdA, feA⟩ := fiA
  have HM0 : Hid (q1 * z1 = M0) := hM0
  rw [hM0] at fdA feA
  have m0A : 0 ≤ M0 := by rw [← hM0]; exact Int.mul_nonneg fcA (by omega)
  have FAA : Hid ((u * 4294967296 + d1) / Y ≤ q1) := faA
  clear faA hq1
  go_enter Tryz.func137, Tryz.ntmps137
  go_wp2_with (go_at_call 139; refine hl.mono ?_; rintro e w' ⟨rfl, rfl⟩)
  clear hl
  go_loop [15, 16] (fun a b => ∃ q r : Int, a = .int .u64 q ∧ b = .int .u64 r ∧ Hid (u = q * z1 + r) ∧ 0 ≤ r ∧ r < 4294967296 ∧ Hid ((u * 4294967296 + d1) / Y ≤ q) ∧ 0 ≤ q ∧ q ≤ 4294967297) (fun a _ => (intOf a).toNat)
  case atStart => exact ⟨q1, u - M0, rfl, rfl, (by show u = q1 * z1 + (u - M0); rw [HM0.out]; omega), by omega, by omega, FAA.out, fcA, fbA⟩
  case round =>
    obtain ⟨qA, rA, rfl, rfl, HQ, r0, r1, HL, qaA, qbA⟩ := hrel
    have HQ' : Hid (u = (qA - 1) * z1 + (rA + z1)) := by show u = (qA - 1) * z1 + (rA + z1); rw [Int.sub_mul]; have := HQ.out; omega
    by_cases hbA : 4294967296 ≤ qA
    · have HM : Hid ((u * 4294967296 + d1) / Y ≤ qA - 1) := dv_big qA u d1 Y Yp u1 d1b hbA
      by_cases hrA : 4294967296 ≤ rA + z1
      · have HEA : Hid (qA - 1 = (u * 4294967296 + d1) / Y) := by
          have k1 := dv_break (qA - 1) (rA + z1) u z1 z0 d1 Y HQ'.out HZ.out Yp (by omega) hrA z0a z0b d1a
          have k2 := HM.out
          show qA - 1 = _
          omega
        clear HQ HQ' HL HM
        have ks : (qA - 1) < 4294967296 := by rw [HEA.out]; exact dv_small u d1 Y Yp u1 d1b
        have kp : 0 ≤ (qA - 1) := by rw [HEA.out]; exact Int.ediv_nonneg (by omega) (by omega)
        obtain ⟨vr0, vr1⟩ := dv_rest u d1 Y (qA - 1) Yp HEA.out
        obtain ⟨M1, hM1⟩ : ∃ M, (qA - 1) * Y = M := ⟨_, rfl⟩
        rw [hM1] at vr0 vr1
        obtain ⟨v, hv⟩ : ∃ v, u * 4294967296 + d1 - M1 = v := ⟨_, rfl⟩
        obtain ⟨A1, hA1⟩ : ∃ A, IntKind.u64.wrap (u * 4294967296) = A := ⟨_, rfl⟩
        obtain ⟨A2, hA2⟩ : ∃ A, IntKind.u64.wrap (A1 + d1) = A := ⟨_, rfl⟩
        obtain ⟨A3, hA3⟩ : ∃ A, IntKind.u64.wrap M1 = A := ⟨_, rfl⟩
        have hA4 : IntKind.u64.wrap (A2 - A3) = v := by
          rw [IntKind.wrap_u64] at hA1 hA2 hA3 ⊢
          omega
        have HV : Hid (v = u * 4294967296 + un10 / 4294967296 - (qA - 1) * Y) := by show v = _; rw [h10d1, hM1]; exact hv.symm
        rw [hv] at vr0 vr1
        have v0 : 0 ≤ v := vr0
        have v1 : v < Y := vr1
        clear hv vr0 vr1

        have fiB := dv_first v z1 z0 d0 Y HZ.out v0 v1 z1a z0a z0b d0a d0b
        have tdB : v.tdiv z1 = v / z1 := Int.tdiv_eq_ediv_of_nonneg v0
        obtain ⟨q2, hq2⟩ : ∃ q2, v / z1 = q2 := ⟨_, rfl⟩
        rw [hq2] at fiB tdB
        obtain ⟨M2, hM2⟩ : ∃ M2, q2 * z1 = M2 := ⟨_, rfl⟩
        obtain ⟨faB, fbB, fcB, fdB, feB⟩ := fiB
        have HM2 : Hid (q2 * z1 = M2) := hM2
        rw [hM2] at fdB feB
        have m0B : 0 ≤ M2 := by rw [← hM2]; exact Int.mul_nonneg fcB (by omega)
        have FAB : Hid ((v * 4294967296 + d0) / Y ≤ q2) := faB
        clear faB hq2

        go_wp2

        go_loop [18, 16] (fun a b => ∃ q r : Int, a = .int .u64 q ∧ b = .int .u64 r ∧ Hid (v = q * z1 + r) ∧ 0 ≤ r ∧ r < 4294967296 ∧ Hid ((v * 4294967296 + d0) / Y ≤ q) ∧ 0 ≤ q ∧ q ≤ 4294967297) (fun a _ => (intOf a).toNat)
        case atStart => exact ⟨q2, v - M2, rfl, rfl, (by show v = q2 * z1 + (v - M2); rw [HM2.out]; omega), by omega, by omega, FAB.out, fcB, fbB⟩
        case round =>
          obtain ⟨qB, rB, rfl, rfl, HQ, r0, r1, HL, qaB, qbB⟩ := hrel
          have HQ' : Hid (v = (qB - 1) * z1 + (rB + z1)) := by show v = (qB - 1) * z1 + (rB + z1); rw [Int.sub_mul]; have := HQ.out; omega
          by_cases hbB : 4294967296 ≤ qB
          · have HM : Hid ((v * 4294967296 + d0) / Y ≤ qB - 1) := dv_big qB v d0 Y Yp v1 d0b hbB
            by_cases hrB : 4294967296 ≤ rB + z1
            · have HEB : Hid (qB - 1 = (v * 4294967296 + d0) / Y) := by
                have k1 := dv_break (qB - 1) (rB + z1) v z1 z0 d0 Y HQ'.out HZ.out Yp (by omega) hrB z0a z0b d0a
                have k2 := HM.out
                show qB - 1 = _
                omega
              clear HQ HQ' HL HM
              have kks : (qB - 1) < 4294967296 := by rw [HEB.out]; exact dv_small v d0 Y Yp v1 d0b
              have kkp : 0 ≤ (qB - 1) := by rw [HEB.out]; exact Int.ediv_nonneg (by omega) (by omega)
              have HD : Hid ((qA - 1) * 4294967296 + (qB - 1) = QQ) := by
                have := dv_whole (hi * 18446744073709551616 + lo) y Y P u un10 (qA - 1) (qB - 1) v pP HY.out.symm y0 HX.out Yp HV.out (by rw [h10d0]; exact HEB.out)
                exact this.trans HQQ.out
              have dm := dv_mod (hi * 18446744073709551616 + lo) y Y P u un10 (qA - 1) (qB - 1) v pP HY.out.symm HX.out HV.out (HD.out.trans HQQ.out.symm)
              rw [h10d0, HRR.out] at dm
              obtain ⟨wr0, wr1⟩ := dv_rest v d0 Y (qB - 1) Yp HEB.out
              obtain ⟨M3, hM3⟩ : ∃ M, (qB - 1) * Y = M := ⟨_, rfl⟩
              rw [hM3] at wr0 wr1 dm
              obtain ⟨r2, hr2⟩ : ∃ r, v * 4294967296 + d0 - M3 = r := ⟨_, rfl⟩
              obtain ⟨A5, hA5⟩ : ∃ A, IntKind.u64.wrap (v * 4294967296) = A := ⟨_, rfl⟩
              obtain ⟨A6, hA6⟩ : ∃ A, IntKind.u64.wrap (A5 + d0) = A := ⟨_, rfl⟩
              obtain ⟨A7, hA7⟩ : ∃ A, IntKind.u64.wrap M3 = A := ⟨_, rfl⟩
              have hA8 : IntKind.u64.wrap (A6 - A7) = r2 := by
                rw [IntKind.wrap_u64] at hA5 hA6 hA7 ⊢
                omega
              rw [hr2] at wr0 wr1 dm
              clear hr2
              go_wp2
              go_ret2
              exact ⟨ret2_int HD.out rfl, rfl⟩
            · clear HQ HL
              go_wp2
              go_round
              case rel => exact ⟨qB - 1, rB + z1, rfl, rfl, HQ'.out, by omega, by omega, HM.out, by omega, by omega⟩
              case measure => simp [intOf]; omega
          · obtain ⟨PrB, hPrB⟩ : ∃ Pr, qB * z0 = Pr := ⟨_, rfl⟩
            have pr0B : 0 ≤ PrB := by rw [← hPrB]; exact Int.mul_nonneg qaB z0a
            have pr1B : PrB ≤ 18446744065119617025 := by
              rw [← hPrB]
              have k1 : qB * z0 ≤ qB * 4294967295 := Int.mul_le_mul_of_nonneg_left (by omega) qaB
              omega
            by_cases htB : 4294967296 * rB + d0 < PrB
            · have HM : Hid ((v * 4294967296 + d0) / Y ≤ qB - 1) := dv_more qB rB v z1 z0 d0 Y HQ.out HZ.out Yp (by rw [hPrB]; exact htB)
              have qpB : 1 ≤ qB := by
                by_cases z : 1 ≤ qB
                · exact z
                · have e : qB = 0 := by omega
                  rw [e, Int.zero_mul] at hPrB; omega
              by_cases hrB : 4294967296 ≤ rB + z1
              · have HEB : Hid (qB - 1 = (v * 4294967296 + d0) / Y) := by
                  have k1 := dv_break (qB - 1) (rB + z1) v z1 z0 d0 Y HQ'.out HZ.out Yp (by omega) hrB z0a z0b d0a
                  have k2 := HM.out
                  show qB - 1 = _
                  omega
                clear HQ HQ' HL HM
                have kks : (qB - 1) < 4294967296 := by rw [HEB.out]; exact dv_small v d0 Y Yp v1 d0b
                have kkp : 0 ≤ (qB - 1) := by rw [HEB.out]; exact Int.ediv_nonneg (by omega) (by omega)
                have HD : Hid ((qA - 1) * 4294967296 + (qB - 1) = QQ) := by
                  have := dv_whole (hi * 18446744073709551616 + lo) y Y P u un10 (qA - 1) (qB - 1) v pP HY.out.symm y0 HX.out Yp HV.out (by rw [h10d0]; exact HEB.out)
                  exact this.trans HQQ.out
                have dm := dv_mod (hi * 18446744073709551616 + lo) y Y P u un10 (qA - 1) (qB - 1) v pP HY.out.symm HX.out HV.out (HD.out.trans HQQ.out.symm)
                rw [h10d0, HRR.out] at dm
                obtain ⟨wr0, wr1⟩ := dv_rest v d0 Y (qB - 1) Yp HEB.out
                obtain ⟨M3, hM3⟩ : ∃ M, (qB - 1) * Y = M := ⟨_, rfl⟩
                rw [hM3] at wr0 wr1 dm
                obtain ⟨r2, hr2⟩ : ∃ r, v * 4294967296 + d0 - M3 = r := ⟨_, rfl⟩
                obtain ⟨A5, hA5⟩ : ∃ A, IntKind.u64.wrap (v * 4294967296) = A := ⟨_, rfl⟩
                obtain ⟨A6, hA6⟩ : ∃ A, IntKind.u64.wrap (A5 + d0) = A := ⟨_, rfl⟩
                obtain ⟨A7, hA7⟩ : ∃ A, IntKind.u64.wrap M3 = A := ⟨_, rfl⟩
                have hA8 : IntKind.u64.wrap (A6 - A7) = r2 := by
                  rw [IntKind.wrap_u64] at hA5 hA6 hA7 ⊢
                  omega
                rw [hr2] at wr0 wr1 dm
                clear hr2
                go_wp2
                go_ret2
                exact ⟨ret2_int HD.out rfl, rfl⟩
              · clear HQ HL
                go_wp2
                go_round
                case rel => exact ⟨qB - 1, rB + z1, rfl, rfl, HQ'.out, by omega, by omega, HM.out, by omega, by omega⟩
                case measure => simp [intOf]; omega
            · have HEB : Hid (qB = (v * 4294967296 + d0) / Y) := by
                have k1 := dv_exit qB rB v z1 z0 d0 Y HQ.out HZ.out Yp (by rw [hPrB]; omega)
                have k2 := HL.out
                show qB = _
                omega
              clear HQ HQ' HL
              have kks : qB < 4294967296 := by rw [HEB.out]; exact dv_small v d0 Y Yp v1 d0b
              have kkp : 0 ≤ qB := by rw [HEB.out]; exact Int.ediv_nonneg (by omega) (by omega)
              have HD : Hid ((qA - 1) * 4294967296 + qB = QQ) := by
                have := dv_whole (hi * 18446744073709551616 + lo) y Y P u un10 (qA - 1) qB v pP HY.out.symm y0 HX.out Yp HV.out (by rw [h10d0]; exact HEB.out)
                exact this.trans HQQ.out
              have dm := dv_mod (hi * 18446744073709551616 + lo) y Y P u un10 (qA - 1) qB v pP HY.out.symm HX.out HV.out (HD.out.trans HQQ.out.symm)
              rw [h10d0, HRR.out] at dm
              obtain ⟨wr0, wr1⟩ := dv_rest v d0 Y qB Yp HEB.out
              obtain ⟨M3, hM3⟩ : ∃ M, qB * Y = M := ⟨_, rfl⟩
              rw [hM3] at wr0 wr1 dm
              obtain ⟨r2, hr2⟩ : ∃ r, v * 4294967296 + d0 - M3 = r := ⟨_, rfl⟩
              obtain ⟨A5, hA5⟩ : ∃ A, IntKind.u64.wrap (v * 4294967296) = A := ⟨_, rfl⟩
              obtain ⟨A6, hA6⟩ : ∃ A, IntKind.u64.wrap (A5 + d0) = A := ⟨_, rfl⟩
              obtain ⟨A7, hA7⟩ : ∃ A, IntKind.u64.wrap M3 = A := ⟨_, rfl⟩
              have hA8 : IntKind.u64.wrap (A6 - A7) = r2 := by
                rw [IntKind.wrap_u64] at hA5 hA6 hA7 ⊢
                omega
              rw [hr2] at wr0 wr1 dm
              clear hr2
              go_wp2
              go_ret2
              exact ⟨ret2_int HD.out rfl, rfl⟩
      · clear HQ HL
        go_wp2
        go_round
        case rel => exact ⟨qA - 1, rA + z1, rfl, rfl, HQ'.out, by omega, by omega, HM.out, by omega, by omega⟩
        case measure => simp [intOf]; omega
    · obtain ⟨PrA, hPrA⟩ : ∃ Pr, qA * z0 = Pr := ⟨_, rfl⟩
      have pr0A : 0 ≤ PrA := by rw [← hPrA]; exact Int.mul_nonneg qaA z0a
      have pr1A : PrA ≤ 18446744065119617025 := by
        rw [← hPrA]
        have k1 : qA * z0 ≤ qA * 4294967295 := Int.mul_le_mul_of_nonneg_left (by omega) qaA
        omega
      by_cases htA : 4294967296 * rA + d1 < PrA
      · have HM : Hid ((u * 4294967296 + d1) / Y ≤ qA - 1) := dv_more qA rA u z1 z0 d1 Y HQ.out HZ.out Yp (by rw [hPrA]; exact htA)
        have qpA : 1 ≤ qA := by
          by_cases z : 1 ≤ qA
          · exact z
          · have e : qA = 0 := by omega
            rw [e, Int.zero_mul] at hPrA; omega
        by_cases hrA : 4294967296 ≤ rA + z1
        · have HEA : Hid (qA - 1 = (u * 4294967296 + d1) / Y) := by
            have k1 := dv_break (qA - 1) (rA + z1) u z1 z0 d1 Y HQ'.out HZ.out Yp (by omega) hrA z0a z0b d1a
            have k2 := HM.out
            show qA - 1 = _
            omega
          clear HQ HQ' HL HM
          have ks : (qA - 1) < 4294967296 := by rw [HEA.out]; exact dv_small u d1 Y Yp u1 d1b
          have kp : 0 ≤ (qA - 1) := by rw [HEA.out]; exact Int.ediv_nonneg (by omega) (by omega)
          obtain ⟨vr0, vr1⟩ := dv_rest u d1 Y (qA - 1) Yp HEA.out
          obtain ⟨M1, hM1⟩ : ∃ M, (qA - 1) * Y = M := ⟨_, rfl⟩
          rw [hM1] at vr0 vr1
          obtain ⟨v, hv⟩ : ∃ v, u * 4294967296 + d1 - M1 = v := ⟨_, rfl⟩
          obtain ⟨A1, hA1⟩ : ∃ A, IntKind.u64.wrap (u * 4294967296) = A := ⟨_, rfl⟩
          obtain ⟨A2, hA2⟩ : ∃ A, IntKind.u64.wrap (A1 + d1) = A := ⟨_, rfl⟩
          obtain ⟨A3, hA3⟩ : ∃ A, IntKind.u64.wrap M1 = A := ⟨_, rfl⟩
          have hA4 : IntKind.u64.wrap (A2 - A3) = v := by
            rw [IntKind.wrap_u64] at hA1 hA2 hA3 ⊢
            omega
          have HV : Hid (v = u * 4294967296 + un10 / 4294967296 - (qA - 1) * Y) := by show v = _; rw [h10d1, hM1]; exact hv.symm
          rw [hv] at vr0 vr1
          have v0 : 0 ≤ v := vr0
          have v1 : v < Y := vr1
          clear hv vr0 vr1

          have fiB := dv_first v z1 z0 d0 Y HZ.out v0 v1 z1a z0a z0b d0a d0b
          have tdB : v.tdiv z1 = v / z1 := Int.tdiv_eq_ediv_of_nonneg v0
          obtain ⟨q2, hq2⟩ : ∃ q2, v / z1 = q2 := ⟨_, rfl⟩
          rw [hq2] at fiB tdB
          obtain ⟨M2, hM2⟩ : ∃ M2, q2 * z1 = M2 := ⟨_, rfl⟩
          obtain ⟨faB, fbB, fcB, fdB, feB⟩ := fiB
          have HM2 : Hid (q2 * z1 = M2) := hM2
          rw [hM2] at fdB feB
          have m0B : 0 ≤ M2 := by rw [← hM2]; exact Int.mul_nonneg fcB (by omega)
          have FAB : Hid ((v * 4294967296 + d0) / Y ≤ q2) := faB
          clear faB hq2

          go_wp2

          go_loop [18, 16] (fun a b => ∃ q r : Int, a = .int .u64 q ∧ b = .int .u64 r ∧ Hid (v = q * z1 + r) ∧ 0 ≤ r ∧ r < 4294967296 ∧ Hid ((v * 4294967296 + d0) / Y ≤ q) ∧ 0 ≤ q ∧ q ≤ 4294967297) (fun a _ => (intOf a).toNat)
          case atStart => exact ⟨q2, v - M2, rfl, rfl, (by show v = q2 * z1 + (v - M2); rw [HM2.out]; omega), by omega, by omega, FAB.out, fcB, fbB⟩
          case round =>
            obtain ⟨qB, rB, rfl, rfl, HQ, r0, r1, HL, qaB, qbB⟩ := hrel
            have HQ' : Hid (v = (qB - 1) * z1 + (rB + z1)) := by show v = (qB - 1) * z1 + (rB + z1); rw [Int.sub_mul]; have := HQ.out; omega
            by_cases hbB : 4294967296 ≤ qB
            · have HM : Hid ((v * 4294967296 + d0) / Y ≤ qB - 1) := dv_big qB v d0 Y Yp v1 d0b hbB
              by_cases hrB : 4294967296 ≤ rB + z1
              · have HEB : Hid (qB - 1 = (v * 4294967296 + d0) / Y) := by
                  have k1 := dv_break (qB - 1) (rB + z1) v z1 z0 d0 Y HQ'.out HZ.out Yp (by omega) hrB z0a z0b d0a
                  have k2 := HM.out
                  show qB - 1 = _
                  omega
                clear HQ HQ' HL HM
                have kks : (qB - 1) < 4294967296 := by rw [HEB.out]; exact dv_small v d0 Y Yp v1 d0b
                have kkp : 0 ≤ (qB - 1) := by rw [HEB.out]; exact Int.ediv_nonneg (by omega) (by omega)
                have HD : Hid ((qA - 1) * 4294967296 + (qB - 1) = QQ) := by
                  have := dv_whole (hi * 18446744073709551616 + lo) y Y P u un10 (qA - 1) (qB - 1) v pP HY.out.symm y0 HX.out Yp HV.out (by rw [h10d0]; exact HEB.out)
                  exact this.trans HQQ.out
                have dm := dv_mod (hi * 18446744073709551616 + lo) y Y P u un10 (qA - 1) (qB - 1) v pP HY.out.symm HX.out HV.out (HD.out.trans HQQ.out.symm)
                rw [h10d0, HRR.out] at dm
                obtain ⟨wr0, wr1⟩ := dv_rest v d0 Y (qB - 1) Yp HEB.out
                obtain ⟨M3, hM3⟩ : ∃ M, (qB - 1) * Y = M := ⟨_, rfl⟩
                rw [hM3] at wr0 wr1 dm
                obtain ⟨r2, hr2⟩ : ∃ r, v * 4294967296 + d0 - M3 = r := ⟨_, rfl⟩
                obtain ⟨A5, hA5⟩ : ∃ A, IntKind.u64.wrap (v * 4294967296) = A := ⟨_, rfl⟩
                obtain ⟨A6, hA6⟩ : ∃ A, IntKind.u64.wrap (A5 + d0) = A := ⟨_, rfl⟩
                obtain ⟨A7, hA7⟩ : ∃ A, IntKind.u64.wrap M3 = A := ⟨_, rfl⟩
                have hA8 : IntKind.u64.wrap (A6 - A7) = r2 := by
                  rw [IntKind.wrap_u64] at hA5 hA6 hA7 ⊢
                  omega
                rw [hr2] at wr0 wr1 dm
                clear hr2
                go_wp2
                go_ret2
                exact ⟨ret2_int HD.out rfl, rfl⟩
              · clear HQ HL
                go_wp2
                go_round
                case rel => exact ⟨qB - 1, rB + z1, rfl, rfl, HQ'.out, by omega, by omega, HM.out, by omega, by omega⟩
                case measure => simp [intOf]; omega
            · obtain ⟨PrB, hPrB⟩ : ∃ Pr, qB * z0 = Pr := ⟨_, rfl⟩
              have pr0B : 0 ≤ PrB := by rw [← hPrB]; exact Int.mul_nonneg qaB z0a
              have pr1B : PrB ≤ 18446744065119617025 := by
                rw [← hPrB]
                have k1 : qB * z0 ≤ qB * 4294967295 := Int.mul_le_mul_of_nonneg_left (by omega) qaB
                omega
              by_cases htB : 4294967296 * rB + d0 < PrB
              · have HM : Hid ((v * 4294967296 + d0) / Y ≤ qB - 1) := dv_more qB rB v z1 z0 d0 Y HQ.out HZ.out Yp (by rw [hPrB]; exact htB)
                have qpB : 1 ≤ qB := by
                  by_cases z : 1 ≤ qB
                  · exact z
                  · have e : qB = 0 := by omega
                    rw [e, Int.zero_mul] at hPrB; omega
                by_cases hrB : 4294967296 ≤ rB + z1
                · have HEB : Hid (qB - 1 = (v * 4294967296 + d0) / Y) := by
                    have k1 := dv_break (qB - 1) (rB + z1) v z1 z0 d0 Y HQ'.out HZ.out Yp (by omega) hrB z0a z0b d0a
                    have k2 := HM.out
                    show qB - 1 = _
                    omega
                  clear HQ HQ' HL HM
                  have kks : (qB - 1) < 4294967296 := by rw [HEB.out]; exact dv_small v d0 Y Yp v1 d0b
                  have kkp : 0 ≤ (qB - 1) := by rw [HEB.out]; exact Int.ediv_nonneg (by omega) (by omega)
                  have HD : Hid ((qA - 1) * 4294967296 + (qB - 1) = QQ) := by
                    have := dv_whole (hi * 18446744073709551616 + lo) y Y P u un10 (qA - 1) (qB - 1) v pP HY.out.symm y0 HX.out Yp HV.out (by rw [h10d0]; exact HEB.out)
                    exact this.trans HQQ.out
                  have dm := dv_mod (hi * 18446744073709551616 + lo) y Y P u un10 (qA - 1) (qB - 1) v pP HY.out.symm HX.out HV.out (HD.out.trans HQQ.out.symm)
                  rw [h10d0, HRR.out] at dm
                  obtain ⟨wr0, wr1⟩ := dv_rest v d0 Y (qB - 1) Yp HEB.out
                  obtain ⟨M3, hM3⟩ : ∃ M, (qB - 1) * Y = M := ⟨_, rfl⟩
                  rw [hM3] at wr0 wr1 dm
                  obtain ⟨r2, hr2⟩ : ∃ r, v * 4294967296 + d0 - M3 = r := ⟨_, rfl⟩
                  obtain ⟨A5, hA5⟩ : ∃ A, IntKind.u64.wrap (v * 4294967296) = A := ⟨_, rfl⟩
                  obtain ⟨A6, hA6⟩ : ∃ A, IntKind.u64.wrap (A5 + d0) = A := ⟨_, rfl⟩
                  obtain ⟨A7, hA7⟩ : ∃ A, IntKind.u64.wrap M3 = A := ⟨_, rfl⟩
                  have hA8 : IntKind.u64.wrap (A6 - A7) = r2 := by
                    rw [IntKind.wrap_u64] at hA5 hA6 hA7 ⊢
                    omega
                  rw [hr2] at wr0 wr1 dm
                  clear hr2
                  go_wp2
                  go_ret2
                  exact ⟨ret2_int HD.out rfl, rfl⟩
                · clear HQ HL
                  go_wp2
                  go_round
                  case rel => exact ⟨qB - 1, rB + z1, rfl, rfl, HQ'.out, by omega, by omega, HM.out, by omega, by omega⟩
                  case measure => simp [intOf]; omega
              · have HEB : Hid (qB = (v * 4294967296 + d0) / Y) := by
                  have k1 := dv_exit qB rB v z1 z0 d0 Y HQ.out HZ.out Yp (by rw [hPrB]; omega)
                  have k2 := HL.out
                  show qB = _
                  omega
                clear HQ HQ' HL
                have kks : qB < 4294967296 := by rw [HEB.out]; exact dv_small v d0 Y Yp v1 d0b
                have kkp : 0 ≤ qB := by rw [HEB.out]; exact Int.ediv_nonneg (by omega) (by omega)
                have HD : Hid ((qA - 1) * 4294967296 + qB = QQ) := by
                  have := dv_whole (hi * 18446744073709551616 + lo) y Y P u un10 (qA - 1) qB v pP HY.out.symm y0 HX.out Yp HV.out (by rw [h10d0]; exact HEB.out)
                  exact this.trans HQQ.out
                have dm := dv_mod (hi * 18446744073709551616 + lo) y Y P u un10 (qA - 1) qB v pP HY.out.symm HX.out HV.out (HD.out.trans HQQ.out.symm)
                rw [h10d0, HRR.out] at dm
                obtain ⟨wr0, wr1⟩ := dv_rest v d0 Y qB Yp HEB.out
                obtain ⟨M3, hM3⟩ : ∃ M, qB * Y = M := ⟨_, rfl⟩
                rw [hM3] at wr0 wr1 dm
                obtain ⟨r2, hr2⟩ : ∃ r, v * 4294967296 + d0 - M3 = r := ⟨_, rfl⟩
                obtain ⟨A5, hA5⟩ : ∃ A, IntKind.u64.wrap (v * 4294967296) = A := ⟨_, rfl⟩
                obtain ⟨A6, hA6⟩ : ∃ A, IntKind.u64.wrap (A5 + d0) = A := ⟨_, rfl⟩
                obtain ⟨A7, hA7⟩ : ∃ A, IntKind.u64.wrap M3 = A := ⟨_, rfl⟩
                have hA8 : IntKind.u64.wrap (A6 - A7) = r2 := by
                  rw [IntKind.wrap_u64] at hA5 hA6 hA7 ⊢
                  omega
                rw [hr2] at wr0 wr1 dm
                clear hr2
                go_wp2
                go_ret2
                exact ⟨ret2_int HD.out rfl, rfl⟩
        · clear HQ HL
          go_wp2
          go_round
          case rel => exact ⟨qA - 1, rA + z1, rfl, rfl, HQ'.out, by omega, by omega, HM.out, by omega, by omega⟩
          case measure => simp [intOf]; omega
      · have HEA : Hid (qA = (u * 4294967296 + d1) / Y) := by
          have k1 := dv_exit qA rA u z1 z0 d1 Y HQ.out HZ.out Yp (by rw [hPrA]; omega)
          have k2 := HL.out
          show qA = _
          omega
        clear HQ HQ' HL
        have ks : qA < 4294967296 := by rw [HEA.out]; exact dv_small u d1 Y Yp u1 d1b
        have kp : 0 ≤ qA := by rw [HEA.out]; exact Int.ediv_nonneg (by omega) (by omega)
        obtain ⟨vr0, vr1⟩ := dv_rest u d1 Y qA Yp HEA.out
        obtain ⟨M1, hM1⟩ : ∃ M, qA * Y = M := ⟨_, rfl⟩
        rw [hM1] at vr0 vr1
        obtain ⟨v, hv⟩ : ∃ v, u * 4294967296 + d1 - M1 = v := ⟨_, rfl⟩
        obtain ⟨A1, hA1⟩ : ∃ A, IntKind.u64.wrap (u * 4294967296) = A := ⟨_, rfl⟩
        obtain ⟨A2, hA2⟩ : ∃ A, IntKind.u64.wrap (A1 + d1) = A := ⟨_, rfl⟩
        obtain ⟨A3, hA3⟩ : ∃ A, IntKind.u64.wrap M1 = A := ⟨_, rfl⟩
        have hA4 : IntKind.u64.wrap (A2 - A3) = v := by
          rw [IntKind.wrap_u64] at hA1 hA2 hA3 ⊢
          omega
        have HV : Hid (v = u * 4294967296 + un10 / 4294967296 - qA * Y) := by show v = _; rw [h10d1, hM1]; exact hv.symm
        rw [hv] at vr0 vr1
        have v0 : 0 ≤ v := vr0
        have v1 : v < Y := vr1
        clear hv vr0 vr1

        have fiB := dv_first v z1 z0 d0 Y HZ.out v0 v1 z1a z0a z0b d0a d0b
        have tdB : v.tdiv z1 = v / z1 := Int.tdiv_eq_ediv_of_nonneg v0
        obtain ⟨q2, hq2⟩ : ∃ q2, v / z1 = q2 := ⟨_, rfl⟩
        rw [hq2] at fiB tdB
        obtain ⟨M2, hM2⟩ : ∃ M2, q2 * z1 = M2 := ⟨_, rfl⟩
        obtain ⟨faB, fbB, fcB, fdB, feB⟩ := fiB
        have HM2 : Hid (q2 * z1 = M2) := hM2
        rw [hM2] at fdB feB
        have m0B : 0 ≤ M2 := by rw [← hM2]; exact Int.mul_nonneg fcB (by omega)
        have FAB : Hid ((v * 4294967296 + d0) / Y ≤ q2) := faB
        clear faB hq2

        go_wp2

        go_loop [18, 16] (fun a b => ∃ q r : Int, a = .int .u64 q ∧ b = .int .u64 r ∧ Hid (v = q * z1 + r) ∧ 0 ≤ r ∧ r < 4294967296 ∧ Hid ((v * 4294967296 + d0) / Y ≤ q) ∧ 0 ≤ q ∧ q ≤ 4294967297) (fun a _ => (intOf a).toNat)
        case atStart => exact ⟨q2, v - M2, rfl, rfl, (by show v = q2 * z1 + (v - M2); rw [HM2.out]; omega), by omega, by omega, FAB.out, fcB, fbB⟩
        case round =>
          obtain ⟨qB, rB, rfl, rfl, HQ, r0, r1, HL, qaB, qbB⟩ := hrel
          have HQ' : Hid (v = (qB - 1) * z1 + (rB + z1)) := by show v = (qB - 1) * z1 + (rB + z1); rw [Int.sub_mul]; have := HQ.out; omega
          by_cases hbB : 4294967296 ≤ qB
          · have HM : Hid ((v * 4294967296 + d0) / Y ≤ qB - 1) := dv_big qB v d0 Y Yp v1 d0b hbB
            by_cases hrB : 4294967296 ≤ rB + z1
            · have HEB : Hid (qB - 1 = (v * 4294967296 + d0) / Y) := by
                have k1 := dv_break (qB - 1) (rB + z1) v z1 z0 d0 Y HQ'.out HZ.out Yp (by omega) hrB z0a z0b d0a
                have k2 := HM.out
                show qB - 1 = _
                omega
              clear HQ HQ' HL HM
              have kks : (qB - 1) < 4294967296 := by rw [HEB.out]; exact dv_small v d0 Y Yp v1 d0b
              have kkp : 0 ≤ (qB - 1) := by rw [HEB.out]; exact Int.ediv_nonneg (by omega) (by omega)
              have HD : Hid (qA * 4294967296 + (qB - 1) = QQ) := by
                have := dv_whole (hi * 18446744073709551616 + lo) y Y P u un10 qA (qB - 1) v pP HY.out.symm y0 HX.out Yp HV.out (by rw [h10d0]; exact HEB.out)
                exact this.trans HQQ.out
              have dm := dv_mod (hi * 18446744073709551616 + lo) y Y P u un10 qA (qB - 1) v pP HY.out.symm HX.out HV.out (HD.out.trans HQQ.out.symm)
              rw [h10d0, HRR.out] at dm
              obtain ⟨wr0, wr1⟩ := dv_rest v d0 Y (qB - 1) Yp HEB.out
              obtain ⟨M3, hM3⟩ : ∃ M, (qB - 1) * Y = M := ⟨_, rfl⟩
              rw [hM3] at wr0 wr1 dm
              obtain ⟨r2, hr2⟩ : ∃ r, v * 4294967296 + d0 - M3 = r := ⟨_, rfl⟩
              obtain ⟨A5, hA5⟩ : ∃ A, IntKind.u64.wrap (v * 4294967296) = A := ⟨_, rfl⟩
              obtain ⟨A6, hA6⟩ : ∃ A, IntKind.u64.wrap (A5 + d0) = A := ⟨_, rfl⟩
              obtain ⟨A7, hA7⟩ : ∃ A, IntKind.u64.wrap M3 = A := ⟨_, rfl⟩
              have hA8 : IntKind.u64.wrap (A6 - A7) = r2 := by
                rw [IntKind.wrap_u64] at hA5 hA6 hA7 ⊢
                omega
              rw [hr2] at wr0 wr1 dm
              clear hr2
              go_wp2
              go_ret2
              exact ⟨ret2_int HD.out rfl, rfl⟩
            · clear HQ HL
              go_wp2
              go_round
              case rel => exact ⟨qB - 1, rB + z1, rfl, rfl, HQ'.out, by omega, by omega, HM.out, by omega, by omega⟩
              case measure => simp [intOf]; omega
          · obtain ⟨PrB, hPrB⟩ : ∃ Pr, qB * z0 = Pr := ⟨_, rfl⟩
            have pr0B : 0 ≤ PrB := by rw [← hPrB]; exact Int.mul_nonneg qaB z0a
            have pr1B : PrB ≤ 18446744065119617025 := by
              rw [← hPrB]
              have k1 : qB * z0 ≤ qB * 4294967295 := Int.mul_le_mul_of_nonneg_left (by omega) qaB
              omega
            by_cases htB : 4294967296 * rB + d0 < PrB
            · have HM : Hid ((v * 4294967296 + d0) / Y ≤ qB - 1) := dv_more qB rB v z1 z0 d0 Y HQ.out HZ.out Yp (by rw [hPrB]; exact htB)
              have qpB : 1 ≤ qB := by
                by_cases z : 1 ≤ qB
                · exact z
                · have e : qB = 0 := by omega
                  rw [e, Int.zero_mul] at hPrB; omega
              by_cases hrB : 4294967296 ≤ rB + z1
              · have HEB : Hid (qB - 1 = (v * 4294967296 + d0) / Y) := by
                  have k1 := dv_break (qB - 1) (rB + z1) v z1 z0 d0 Y HQ'.out HZ.out Yp (by omega) hrB z0a z0b d0a
                  have k2 := HM.out
                  show qB - 1 = _
                  omega
                clear HQ HQ' HL HM
                have kks : (qB - 1) < 4294967296 := by rw [HEB.out]; exact dv_small v d0 Y Yp v1 d0b
                have kkp : 0 ≤ (qB - 1) := by rw [HEB.out]; exact Int.ediv_nonneg (by omega) (by omega)
                have HD : Hid (qA * 4294967296 + (qB - 1) = QQ) := by
                  have := dv_whole (hi * 18446744073709551616 + lo) y Y P u un10 qA (qB - 1) v pP HY.out.symm y0 HX.out Yp HV.out (by rw [h10d0]; exact HEB.out)
                  exact this.trans HQQ.out
                have dm := dv_mod (hi * 18446744073709551616 + lo) y Y P u un10 qA (qB - 1) v pP HY.out.symm HX.out HV.out (HD.out.trans HQQ.out.symm)
                rw [h10d0, HRR.out] at dm
                obtain ⟨wr0, wr1⟩ := dv_rest v d0 Y (qB - 1) Yp HEB.out
                obtain ⟨M3, hM3⟩ : ∃ M, (qB - 1) * Y = M := ⟨_, rfl⟩
                rw [hM3] at wr0 wr1 dm
                obtain ⟨r2, hr2⟩ : ∃ r, v * 4294967296 + d0 - M3 = r := ⟨_, rfl⟩
                obtain ⟨A5, hA5⟩ : ∃ A, IntKind.u64.wrap (v * 4294967296) = A := ⟨_, rfl⟩
                obtain ⟨A6, hA6⟩ : ∃ A, IntKind.u64.wrap (A5 + d0) = A := ⟨_, rfl⟩
                obtain ⟨A7, hA7⟩ : ∃ A, IntKind.u64.wrap M3 = A := ⟨_, rfl⟩
                have hA8 : IntKind.u64.wrap (A6 - A7) = r2 := by
                  rw [IntKind.wrap_u64] at hA5 hA6 hA7 ⊢
                  omega
                rw [hr2] at wr0 wr1 dm
                clear hr2
                go_wp2
                go_ret2
                exact ⟨ret2_int HD.out rfl, rfl⟩
              · clear HQ HL
                go_wp2
                go_round
                case rel => exact ⟨qB - 1, rB + z1, rfl, rfl, HQ'.out, by omega, by omega, HM.out, by omega, by omega⟩
                case measure => simp [intOf]; omega
            · have HEB : Hid (qB = (v * 4294967296 + d0) / Y) := by
                have k1 := dv_exit qB rB v z1 z0 d0 Y HQ.out HZ.out Yp (by rw [hPrB]; omega)
                have k2 := HL.out
                show qB = _
                omega
              clear HQ HQ' HL
              have kks : qB < 4294967296 := by rw [HEB.out]; exact dv_small v d0 Y Yp v1 d0b
              have kkp : 0 ≤ qB := by rw [HEB.out]; exact Int.ediv_nonneg (by omega) (by omega)
              have HD : Hid (qA * 4294967296 + qB = QQ) := by
                have := dv_whole (hi * 18446744073709551616 + lo) y Y P u un10 qA qB v pP HY.out.symm y0 HX.out Yp HV.out (by rw [h10d0]; exact HEB.out)
                exact this.trans HQQ.out
              have dm := dv_mod (hi * 18446744073709551616 + lo) y Y P u un10 qA qB v pP HY.out.symm HX.out HV.out (HD.out.trans HQQ.out.symm)
              rw [h10d0, HRR.out] at dm
              obtain ⟨wr0, wr1⟩ := dv_rest v d0 Y qB Yp HEB.out
              obtain ⟨M3, hM3⟩ : ∃ M, qB * Y = M := ⟨_, rfl⟩
              rw [hM3] at wr0 wr1 dm
              obtain ⟨r2, hr2⟩ : ∃ r, v * 4294967296 + d0 - M3 = r := ⟨_, rfl⟩
              obtain ⟨A5, hA5⟩ : ∃ A, IntKind.u64.wrap (v * 4294967296) = A := ⟨_, rfl⟩
              obtain ⟨A6, hA6⟩ : ∃ A, IntKind.u64.wrap (A5 + d0) = A := ⟨_, rfl⟩
              obtain ⟨A7, hA7⟩ : ∃ A, IntKind.u64.wrap M3 = A := ⟨_, rfl⟩
              have hA8 : IntKind.u64.wrap (A6 - A7) = r2 := by
                rw [IntKind.wrap_u64] at hA5 hA6 hA7 ⊢
                omega
              rw [hr2] at wr0 wr1 dm
              clear hr2
              go_wp2
              go_ret2
              exact ⟨ret2_int HD.out rfl, rfl⟩
end Go.Proofs.YtpfbmkgknmlebaaGreatDoor
