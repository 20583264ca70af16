/-
  Digits as lists of bytes: the number that they are, how they compare, and what a text of a number is read as. No condition.
-/
import Derived.Lib.Bytealg
import Derived.Lib.Strings
import Derived.Lib.TrimByte
import Derived.Lib.ItoaNum
import Derived.Lib.Small
namespace Go.Proofs.YtfhapeinfhjihaaGreatDoor

/-- A digit. -/
def isD (c : UInt8) : Bool := decide (48 ≤ c.toNat ∧ c.toNat ≤ 57)
/-- The number that digits are, read on from a. -/
def numF (a : Int) : List UInt8 → Int
  | [] => a
  | c :: t => numF (a * 10 + ((c.toNat : Int) - 48)) t
def num (l : List UInt8) : Int := numF 0 l
theorem numF_add (l : List UInt8) (a : Int) : numF a l = a * 10 ^ l.length + num l := by
  induction l generalizing a with
  | nil => simp [num, numF]
  | cons c t ih =>
    simp only [num, numF, List.length_cons]
    rw [ih, ih (0 * 10 + ((c.toNat : Int) - 48)), Int.pow_succ]
    rw [Int.add_mul, Int.zero_mul, Int.zero_add, Int.mul_assoc, Int.mul_comm 10 (10 ^ t.length)]
    omega
theorem num_cons (c : UInt8) (t : List UInt8) : num (c :: t) = ((c.toNat : Int) - 48) * 10 ^ t.length + num t := by
  rw [num, numF, numF_add]; simp
theorem num_append (a b : List UInt8) : num (a ++ b) = num a * 10 ^ b.length + num b := by
  induction a with
  | nil => simp [num, numF]
  | cons c t ih =>
    rw [List.cons_append, num_cons, ih, num_cons, List.length_append, Int.pow_add, Int.add_mul, Int.mul_assoc]
    omega
theorem isD_iff (c : UInt8) : isD c = true ↔ 48 ≤ c.toNat ∧ c.toNat ≤ 57 := by simp [isD]
theorem pow_pos10 (n : Nat) : (0 : Int) < 10 ^ n := by
  induction n with
  | zero => decide
  | succ n ih => rw [Int.pow_succ]; omega
theorem num_nonneg {l : List UInt8} (h : l.all isD = true) : 0 ≤ num l := by
  induction l with
  | nil => decide
  | cons c t ih =>
    simp only [List.all_cons, Bool.and_eq_true] at h
    have h1 := (isD_iff c).1 h.1
    have h2 := ih h.2
    have h3 := Int.mul_nonneg (show (0 : Int) ≤ (c.toNat : Int) - 48 by omega) (Int.le_of_lt (pow_pos10 t.length))
    rw [num_cons]; omega
theorem num_lt {l : List UInt8} (h : l.all isD = true) : num l < 10 ^ l.length := by
  induction l with
  | nil => decide
  | cons c t ih =>
    simp only [List.all_cons, Bool.and_eq_true] at h
    have h1 := (isD_iff c).1 h.1
    have h2 := ih h.2
    have h3 : ((c.toNat : Int) - 48) * 10 ^ t.length ≤ 9 * 10 ^ t.length := Int.mul_le_mul_of_nonneg_right (by omega) (Int.le_of_lt (pow_pos10 _))
    rw [num_cons, List.length_cons, Int.pow_succ]; omega
/-- Digits that a number other than nought may have, at their end. -/
def EndOK (l : List UInt8) : Prop := ∀ c, l.getLast? = some c → c.toNat ≠ 48
theorem EndOK.tail {c : UInt8} {t : List UInt8} (h : EndOK (c :: t)) : EndOK t := by
  intro d hd
  cases t with
  | nil => simp at hd
  | cons e u => exact h d (by simpa using hd)
theorem num_pos {l : List UInt8} (h : l.all isD = true) (he : EndOK l) (h0 : l ≠ []) : 0 < num l := by
  induction l with
  | nil => exact absurd rfl h0
  | cons c t ih =>
    have h' := h
    simp only [List.all_cons, Bool.and_eq_true] at h
    have h1 := (isD_iff c).1 h.1
    rw [num_cons]
    cases t with
    | nil =>
      have := he c rfl
      simp [num, numF]; omega
    | cons d u =>
      have h2 := ih h.2 he.tail (by simp)
      have h3 := Int.mul_nonneg (show (0 : Int) ≤ (c.toNat : Int) - 48 by omega) (Int.le_of_lt (pow_pos10 (d :: u).length))
      omega
/-- -1, 0, 1: how two numbers stand. -/
def sg (x y : Int) : Int := if x < y then -1 else if y < x then 1 else 0
/-- Digits one under the other, from the first on, compare as the numbers do that they are with noughts behind. -/
theorem compareB_num (a b : List UInt8) (m : Nat) (ha : a.all isD = true) (hb : b.all isD = true) (ea : EndOK a) (eb : EndOK b) (la : a.length ≤ m) (lb : b.length ≤ m) :
    Lib.compareBytes a b = sg (num a * 10 ^ (m - a.length)) (num b * 10 ^ (m - b.length)) := by
  induction a generalizing b m with
  | nil =>
    cases b with
    | nil => simp [Lib.compareBytes, sg, num, numF]
    | cons d u =>
      have h := Int.mul_pos (num_pos hb eb (by simp)) (pow_pos10 (m - (d :: u).length))
      simp only [Lib.compareBytes, sg]
      have z : num ([] : List UInt8) = 0 := rfl
      rw [z, Int.zero_mul, if_pos h]
  | cons c t ih =>
    cases b with
    | nil =>
      have h := Int.mul_pos (num_pos ha ea (by simp)) (pow_pos10 (m - (c :: t).length))
      simp only [Lib.compareBytes, sg]
      have z : num ([] : List UInt8) = 0 := rfl
      rw [z, Int.zero_mul, if_neg (by omega), if_pos h]
    | cons d u =>
      simp only [List.all_cons, Bool.and_eq_true] at ha hb
      have c1 := (isD_iff c).1 ha.1
      have d1 := (isD_iff d).1 hb.1
      simp only [List.length_cons] at la lb
      obtain ⟨k, rfl⟩ : ∃ k, m = k + 1 := ⟨m - 1, by omega⟩
      have e1 : k + 1 - (t.length + 1) = k - t.length := by omega
      have e2 : k + 1 - (u.length + 1) = k - u.length := by omega
      have p1 : (10 : Int) ^ t.length * 10 ^ (k - t.length) = 10 ^ k := by rw [← Int.pow_add]; congr 1; omega
      have p2 : (10 : Int) ^ u.length * 10 ^ (k - u.length) = 10 ^ k := by rw [← Int.pow_add]; congr 1; omega
      have t0 := Int.mul_nonneg (num_nonneg ha.2) (Int.le_of_lt (pow_pos10 (k - t.length)))
      have u0 := Int.mul_nonneg (num_nonneg hb.2) (Int.le_of_lt (pow_pos10 (k - u.length)))
      have t1 : num t * 10 ^ (k - t.length) < 10 ^ t.length * 10 ^ (k - t.length) := Int.mul_lt_mul_of_pos_right (num_lt ha.2) (pow_pos10 _)
      have u1 : num u * 10 ^ (k - u.length) < 10 ^ u.length * 10 ^ (k - u.length) := Int.mul_lt_mul_of_pos_right (num_lt hb.2) (pow_pos10 _)
      rw [p1] at t1
      rw [p2] at u1
      have key := ih u k ha.2 hb.2 ea.tail eb.tail (by omega) (by omega)
      have f1 : num (c :: t) * 10 ^ (k + 1 - (c :: t).length) = ((c.toNat : Int) - 48) * 10 ^ k + num t * 10 ^ (k - t.length) := by
        rw [num_cons, List.length_cons, e1, Int.add_mul, Int.mul_assoc, p1]
      have f2 : num (d :: u) * 10 ^ (k + 1 - (d :: u).length) = ((d.toNat : Int) - 48) * 10 ^ k + num u * 10 ^ (k - u.length) := by
        rw [num_cons, List.length_cons, e2, Int.add_mul, Int.mul_assoc, p2]
      rw [f1, f2]
      have pk := pow_pos10 k
      generalize num t * 10 ^ (k - t.length) = x at *
      generalize num u * 10 ^ (k - u.length) = y at *
      generalize (10 : Int) ^ k = p at *
      rw [Lib.compareBytes]
      by_cases l : c < d
      · have l' : c.toNat < d.toNat := UInt8.lt_iff_toNat_lt.1 l
        have : ((c.toNat : Int) - 48 + 1) * p ≤ ((d.toNat : Int) - 48) * p := Int.mul_le_mul_of_nonneg_right (by omega) (by omega)
        rw [Int.add_mul] at this
        rw [if_pos l, sg, if_pos (by omega)]
      · by_cases l2 : d < c
        · have l' : d.toNat < c.toNat := UInt8.lt_iff_toNat_lt.1 l2
          have : ((d.toNat : Int) - 48 + 1) * p ≤ ((c.toNat : Int) - 48) * p := Int.mul_le_mul_of_nonneg_right (by omega) (by omega)
          rw [Int.add_mul] at this
          rw [if_neg l, if_pos l2, sg, if_neg (by omega), if_pos (by omega)]
        · have e : c.toNat = d.toNat := by
            have n1 : ¬ c.toNat < d.toNat := fun h => l (UInt8.lt_iff_toNat_lt.2 h)
            have n2 : ¬ d.toNat < c.toNat := fun h => l2 (UInt8.lt_iff_toNat_lt.2 h)
            omega
          rw [if_neg l, if_neg l2, key, e]
          unfold sg
          by_cases z : x < y
          · rw [if_pos z, if_pos (by omega)]
          · by_cases z2 : y < x
            · rw [if_neg z, if_pos z2, if_neg (by omega), if_pos (by omega)]
            · rw [if_neg z, if_neg z2, if_neg (by omega), if_neg (by omega)]
end Go.Proofs.YtfhapeinfhjihaaGreatDoor
