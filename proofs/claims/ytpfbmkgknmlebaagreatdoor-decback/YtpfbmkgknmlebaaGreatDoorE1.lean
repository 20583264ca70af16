/-
  What nat.take leaves of a row of limbs: the number less another one as many times as it is told. Conditions: the row is not less than that; it lies in a block of its own.
-/
import Derived.Test.YtpfbmkgknmlebaaGreatDoorA10
namespace Go.Proofs.YtpfbmkgknmlebaaGreatDoor
open Go.RowKit

/-- A part of a row of the call's own, from a place on: what lies there is worth. -/
def sh (f : Nat → Int) (k : Nat) : Nat → Int := fun i => f (k + i)
/-- What nat.take does limb by limb: p is what is left to take off behind k limbs. -/
theorem take_step (V T F t p x b lo bo : Int) (k : Nat) (hI : V + F * t = T + bo * pw k) (hp : b * t + bo = p) (hlo : p % 1000000000 = lo) :
    (x < lo → V + (x + 1000000000 - lo) * pw k + (F + b * pw k) * t = T + x * pw k + (p / 1000000000 + 1) * pw (k + 1)) ∧
    (¬ x < lo → V + (x - lo) * pw k + (F + b * pw k) * t = T + x * pw k + (p / 1000000000) * pw (k + 1)) := by
  have e : p / 1000000000 * 1000000000 + lo = p := by omega
  generalize p / 1000000000 = Q at *
  rw [pw_succ]
  generalize pw k = P at *
  have e2 : Q * 1000000000 * P + lo * P = b * t * P + bo * P := by rw [← Int.add_mul, ← Int.add_mul, e, hp]
  have e3 : (F + b * P) * t = F * t + b * t * P := by rw [Int.add_mul, Int.mul_right_comm]
  have e4 : Q * (P * 1000000000) = Q * 1000000000 * P := by rw [Int.mul_comm P, ← Int.mul_assoc]
  constructor
  · intro _
    rw [Int.sub_mul, Int.add_mul x, Int.add_mul Q, e3, e4]; omega
  · intro _
    rw [Int.sub_mul, e3, e4]; omega
end Go.Proofs.YtpfbmkgknmlebaaGreatDoor
