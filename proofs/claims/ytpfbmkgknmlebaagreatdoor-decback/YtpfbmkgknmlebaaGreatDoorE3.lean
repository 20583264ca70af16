/-
  What bits.Mul64, bits.Add64 and bits.Div64 answer where nat.guess calls them. Conditions: the numbers' own.
-/
import Derived.Test.YtpfbmkgknmlebaaGreatDoorD4
import Derived.Test.YtpfbmkgknmlebaaGreatDoorE2
import Derived.Shelf.Spec.BitsCarry
namespace Go.Proofs.YtpfbmkgknmlebaaGreatDoor
open Go.RowKit

set_option maxRecDepth 100000 in
set_option maxHeartbeats 800000 in
theorem div64_near (lo y : Int) (w : World) (y0 : 0 < y) (l0 : 0 ≤ lo) (l1 : lo < 18446744073709551616) (y1 : y < 18446744073709551616) :
    Calls Tryz.prog 137 #[.int .u64 0, .int .u64 lo, .int .u64 y] w fun e w' => e = .returned (.tuple #[.int .u64 (lo / y), .int .u64 (lo % y)]) ∧ ∃ q, w' = w.drewN q := by
  have yz : (y == 0) = false := beq_eq_false_iff_ne.2 (by omega)
  have yh : ¬ y ≤ 0 := by omega
  have em : lo.tmod y = lo % y := Int.tmod_eq_emod_of_nonneg l0
  have ed : lo.tdiv y = lo / y := Int.tdiv_eq_ediv_of_nonneg l0
  have m0 := Int.emod_nonneg lo (show y ≠ 0 by omega)
  have m1 := Int.emod_lt_of_pos lo y0
  have d0 : 0 ≤ lo / y := Int.ediv_nonneg l0 (by omega)
  have d1 : lo / y ≤ lo := Int.ediv_le_self _ (by omega)
  go_enter Tryz.func137, Tryz.ntmps137
  go_wp2_with fail
  go_quiet (fail)
  go_wp2
  go_ret2
  exact ⟨rfl, _, rfl⟩
theorem div64_any (hi lo y : Int) (w : World) (h0 : 0 ≤ hi) (h1 : hi < y) (l0 : 0 ≤ lo) (l1 : lo < 18446744073709551616) (y1 : y < 18446744073709551616) :
    Calls Tryz.prog 137 #[.int .u64 hi, .int .u64 lo, .int .u64 y] w fun e w' => e = .returned (.tuple #[.int .u64 ((hi * 18446744073709551616 + lo) / y), .int .u64 ((hi * 18446744073709551616 + lo) % y)]) ∧ ∃ q, w' = w.drewN q := by
  by_cases z : hi = 0
  · subst z
    have := div64_near lo y w (by omega) l0 l1 y1
    simpa using this
  · refine (div64_far hi lo y w (by omega) h1 l0 l1 y1).mono ?_
    rintro e w' ⟨rfl, rfl⟩
    exact ⟨rfl, 0, rfl⟩

set_option maxRecDepth 100000 in
set_option maxHeartbeats 800000 in
theorem mul64_sq (x : Int) (w : World) (x0 : 0 ≤ x) (x1 : x < 1000000000) :
    Calls Tryz.prog 135 #[.int .u64 x, .int .u64 1000000000000000000] w fun e w' => (∃ hi lo, e = .returned (.tuple #[.int .u64 hi, .int .u64 lo]) ∧ hi * 18446744073709551616 + lo = x * 1000000000000000000 ∧ 0 ≤ hi ∧ 0 ≤ lo ∧ lo < 18446744073709551616) ∧ w = w' := by
  have mk0 := u64_mask x x0 (by omega)
  have mk1 := u64_mask 1000000000000000000 (by omega) (by omega)
  have e0 : x % 4294967296 = x := by omega
  have e1 : x / 4294967296 = 0 := by omega
  rw [e0] at mk0
  rw [show (1000000000000000000 : Int) % 4294967296 = 2808348672 by decide] at mk1
  have mk2 := u64_mask (x * 2808348672 / 4294967296) (by omega) (by omega)
  obtain ⟨t1, ht1⟩ : ∃ t, x * 2808348672 / 4294967296 % 4294967296 = t := ⟨_, rfl⟩
  rw [ht1] at mk2
  go_enter Tryz.func135, Tryz.ntmps135
  go_wp2
  go_ret2
  refine ⟨⟨_, _, rfl, ?_⟩, rfl⟩
  rw [IntKind.wrap_u64]
  clear mk0 mk1 mk2 e0 e1
  omega
theorem add64_any (x y : Int) (x0 : 0 ≤ x) (y0 : 0 ≤ y) (w : World) : (callFunc 136 #[.int .u64 x, .int .u64 y, .int .u64 0]).run Tryz.prog w =
    .ok (.value (.tuple #[.int .u64 ((x + y) % 18446744073709551616), .int .u64 ((x + y) / 18446744073709551616)])) w := by
  rw [run_callFunc_extern Tryz.func136 (by kernel_rfl) (by kernel_rfl) (by kernel_rfl) (e := add64Entry) (by kernel_rfl), run_add64 x y 0 x0 y0 (by omega) (by omega)]
  simp only [Result.andThen, Int.add_zero]

set_option maxRecDepth 100000 in
set_option maxHeartbeats 1600000 in
theorem guess_any (b off cap b' off' cap' m : Nat) (f g : Nat → Int) (w : World) (hL : Lies w b off (m + 1) f) (hL' : Lies w b' off' m g) (hf : Limbs (m + 1) f) (hg : Limbs m g) (h2 : 2 ≤ m) (hm : m ≤ 4611686018427387904) (hz : g (m - 1) ≠ 0) :
    Calls Tryz.prog 129 #[.slice (some ⟨b, off, none⟩) (m + 1) cap, .slice (some ⟨b', off', none⟩) m cap'] w fun e w' => e = .returned (.int .u64 ((f m * 1000000000000000000 + f (m - 1) * 1000000000 + f (m - 2)) / (g (m - 1) * 1000000000 + g (m - 2) + 1))) ∧ ∃ q, w' = w.drewN q := by
  have c0 := hL.cell m (by omega)
  have c1 := hL.cell (m - 1) (by omega)
  have c2 := hL.cell (m - 2) (by omega)
  have k1 := hL'.cell (m - 1) (by omega)
  have k2 := hL'.cell (m - 2) (by omega)
  have f0 := hf m (by omega)
  have f1 := hf (m - 1) (by omega)
  have f2 := hf (m - 2) (by omega)
  have g1 := hg (m - 1) (by omega)
  have g2 := hg (m - 2) (by omega)
  have hm1 := mul64_sq (f m) w f0.1 f0.2
  clear hL hL' hf hg
  generalize f m = x0 at *
  generalize f (m - 1) = x1 at *
  generalize f (m - 2) = x2 at *
  generalize g (m - 1) = z1 at *
  generalize g (m - 2) = z2 at *
  have hd := fun hi lo h0 h1 l0 l1 w => div64_any hi lo (z1 * 1000000000 + z2 + 1) w h0 h1 l0 l1 (by omega)
  have ha := fun lo l0 w => add64_any lo (x1 * 1000000000 + x2) l0 (by omega) w
  obtain ⟨T, hT⟩ : ∃ T, (x0 * 1000000000000000000 + x1 * 1000000000 + x2) / (z1 * 1000000000 + z2 + 1) = T := ⟨_, rfl⟩
  rw [hT]
  have HT : Hid ((x0 * 1000000000000000000 + x1 * 1000000000 + x2) / (z1 * 1000000000 + z2 + 1) = T) := hT
  clear hT
  have i1 : ((m : Int) - 1).toNat = m - 1 := by omega
  have i2 : ((m : Int) - 2).toNat = m - 2 := by omega
  have j1 : (m : Int) < (m : Int) + 1 := by omega
  have j2 : 0 ≤ (m : Int) - 2 := by omega
  go_enter Tryz.func129, Tryz.ntmps129
  go_wp2_with fail
  refine hm1.mono ?_
  rintro e w' ⟨⟨hi, lo, rfl, he, hi0, lo0, lo1⟩, rfl⟩
  have ha := ha lo lo0
  have hd := hd (hi + (lo + (x1 * 1000000000 + x2)) / 18446744073709551616) ((lo + (x1 * 1000000000 + x2)) % 18446744073709551616) (by omega) (by omega) (by omega) (by omega)
  rw [show (hi + (lo + (x1 * 1000000000 + x2)) / 18446744073709551616) * 18446744073709551616 + (lo + (x1 * 1000000000 + x2)) % 18446744073709551616 = x0 * 1000000000000000000 + x1 * 1000000000 + x2 by omega] at hd
  have hi1 : hi ≤ 60000000 := by omega
  clear hm1 he
  rw [HT.out] at hd
  generalize (x0 * 1000000000000000000 + x1 * 1000000000 + x2) % (z1 * 1000000000 + z2 + 1) = T2 at *
  obtain ⟨v, hv⟩ : ∃ v, x1 * 1000000000 + x2 = v := ⟨_, rfl⟩
  rw [hv] at ha hd
  have v0 : 0 ≤ v := by omega
  have v1 : v < 1000000000000000000 := by omega
  obtain ⟨A, hA⟩ : ∃ A, (lo + v) % 18446744073709551616 = A := ⟨_, rfl⟩
  obtain ⟨C, hC⟩ : ∃ C, (lo + v) / 18446744073709551616 = C := ⟨_, rfl⟩
  rw [hA, hC] at ha hd
  have C0 : 0 ≤ C := by omega
  have C1 : C ≤ 1 := by omega
  clear hA hC
  go_wp2_with fail
  go_quiet (fail)
  go_wp2_with fail
  go_quiet ((go_at_call 137; exact (hd _).mono (by rintro e w' ⟨rfl, q, rfl⟩; exact ⟨rfl, _, by rw [World.drewN_drewN, Nat.add_assoc]⟩)))
  go_wp2
  go_ret
  exact ⟨rfl, _, by rw [World.drewN_drewN]⟩
end Go.Proofs.YtpfbmkgknmlebaaGreatDoor
