/-
  Digits as lists of bytes: the number that they are, how they compare, and what a text of a number is read as. No condition.
  What a text is read as: its parts, its number, or why it is none; and that a number's text is read as it. No condition.
-/
import Derived.Lib.Bytealg
import Derived.Lib.Strings
import Derived.Lib.TrimByte
import Derived.Lib.ItoaNum
import Derived.Lib.Small
namespace Go.Proofs.YtlahlnocjfphjaaGreatDoor

/-- A digit. -/
def isD (c : UInt8) : Bool := decide (48 ≤ c.toNat ∧ c.toNat ≤ 57)
/-- The number that digits are, read on from a. -/
def numF (a : Int) : List UInt8 → Int
  | [] => a
  | c :: t => numF (a * 10 + ((c.toNat : Int) - 48)) t
def num (l : List UInt8) : Int := numF 0 l
theorem numF_add (l : List UInt8) (a : Int) : numF a l = a * 10 ^ l.length + num l := by
  induction l generalizing a with
  | nil => simp [num, numF]
  | cons c t ih =>
    simp only [num, numF, List.length_cons]
    rw [ih, ih (0 * 10 + ((c.toNat : Int) - 48)), Int.pow_succ]
    rw [Int.add_mul, Int.zero_mul, Int.zero_add, Int.mul_assoc, Int.mul_comm 10 (10 ^ t.length)]
    omega
theorem num_cons (c : UInt8) (t : List UInt8) : num (c :: t) = ((c.toNat : Int) - 48) * 10 ^ t.length + num t := by
  rw [num, numF, numF_add]; simp
theorem num_append (a b : List UInt8) : num (a ++ b) = num a * 10 ^ b.length + num b := by
  induction a with
  | nil => simp [num, numF]
  | cons c t ih =>
    rw [List.cons_append, num_cons, ih, num_cons, List.length_append, Int.pow_add, Int.add_mul, Int.mul_assoc]
    omega
theorem isD_iff (c : UInt8) : isD c = true ↔ 48 ≤ c.toNat ∧ c.toNat ≤ 57 := by simp [isD]
theorem pow_pos10 (n : Nat) : (0 : Int) < 10 ^ n := by
  induction n with
  | zero => decide
  | succ n ih => rw [Int.pow_succ]; omega
theorem num_nonneg {l : List UInt8} (h : l.all isD = true) : 0 ≤ num l := by
  induction l with
  | nil => decide
  | cons c t ih =>
    simp only [List.all_cons, Bool.and_eq_true] at h
    have h1 := (isD_iff c).1 h.1
    have h2 := ih h.2
    have h3 := Int.mul_nonneg (show (0 : Int) ≤ (c.toNat : Int) - 48 by omega) (Int.le_of_lt (pow_pos10 t.length))
    rw [num_cons]; omega
theorem num_lt {l : List UInt8} (h : l.all isD = true) : num l < 10 ^ l.length := by
  induction l with
  | nil => decide
  | cons c t ih =>
    simp only [List.all_cons, Bool.and_eq_true] at h
    have h1 := (isD_iff c).1 h.1
    have h2 := ih h.2
    have h3 : ((c.toNat : Int) - 48) * 10 ^ t.length ≤ 9 * 10 ^ t.length := Int.mul_le_mul_of_nonneg_right (by omega) (Int.le_of_lt (pow_pos10 _))
    rw [num_cons, List.length_cons, Int.pow_succ]; omega
/-- Digits that a number other than nought may have, at their end. -/
def EndOK (l : List UInt8) : Prop := ∀ c, l.getLast? = some c → c.toNat ≠ 48
theorem EndOK.tail {c : UInt8} {t : List UInt8} (h : EndOK (c :: t)) : EndOK t := by
  intro d hd
  cases t with
  | nil => simp at hd
  | cons e u => exact h d (by simpa using hd)
theorem num_pos {l : List UInt8} (h : l.all isD = true) (he : EndOK l) (h0 : l ≠ []) : 0 < num l := by
  induction l with
  | nil => exact absurd rfl h0
  | cons c t ih =>
    have h' := h
    simp only [List.all_cons, Bool.and_eq_true] at h
    have h1 := (isD_iff c).1 h.1
    rw [num_cons]
    cases t with
    | nil =>
      have := he c rfl
      simp [num, numF]; omega
    | cons d u =>
      have h2 := ih h.2 he.tail (by simp)
      have h3 := Int.mul_nonneg (show (0 : Int) ≤ (c.toNat : Int) - 48 by omega) (Int.le_of_lt (pow_pos10 (d :: u).length))
      omega
/-- -1, 0, 1: how two numbers stand. -/
def sg (x y : Int) : Int := if x < y then -1 else if y < x then 1 else 0
/-- Digits one under the other, from the first on, compare as the numbers do that they are with noughts behind. -/
theorem compareB_num (a b : List UInt8) (m : Nat) (ha : a.all isD = true) (hb : b.all isD = true) (ea : EndOK a) (eb : EndOK b) (la : a.length ≤ m) (lb : b.length ≤ m) :
    Lib.compareBytes a b = sg (num a * 10 ^ (m - a.length)) (num b * 10 ^ (m - b.length)) := by
  induction a generalizing b m with
  | nil =>
    cases b with
    | nil => simp [Lib.compareBytes, sg, num, numF]
    | cons d u =>
      have h := Int.mul_pos (num_pos hb eb (by simp)) (pow_pos10 (m - (d :: u).length))
      simp only [Lib.compareBytes, sg]
      have z : num ([] : List UInt8) = 0 := rfl
      rw [z, Int.zero_mul, if_pos h]
  | cons c t ih =>
    cases b with
    | nil =>
      have h := Int.mul_pos (num_pos ha ea (by simp)) (pow_pos10 (m - (c :: t).length))
      simp only [Lib.compareBytes, sg]
      have z : num ([] : List UInt8) = 0 := rfl
      rw [z, Int.zero_mul, if_neg (by omega), if_pos h]
    | cons d u =>
      simp only [List.all_cons, Bool.and_eq_true] at ha hb
      have c1 := (isD_iff c).1 ha.1
      have d1 := (isD_iff d).1 hb.1
      simp only [List.length_cons] at la lb
      obtain ⟨k, rfl⟩ : ∃ k, m = k + 1 := ⟨m - 1, by omega⟩
      have e1 : k + 1 - (t.length + 1) = k - t.length := by omega
      have e2 : k + 1 - (u.length + 1) = k - u.length := by omega
      have p1 : (10 : Int) ^ t.length * 10 ^ (k - t.length) = 10 ^ k := by rw [← Int.pow_add]; congr 1; omega
      have p2 : (10 : Int) ^ u.length * 10 ^ (k - u.length) = 10 ^ k := by rw [← Int.pow_add]; congr 1; omega
      have t0 := Int.mul_nonneg (num_nonneg ha.2) (Int.le_of_lt (pow_pos10 (k - t.length)))
      have u0 := Int.mul_nonneg (num_nonneg hb.2) (Int.le_of_lt (pow_pos10 (k - u.length)))
      have t1 : num t * 10 ^ (k - t.length) < 10 ^ t.length * 10 ^ (k - t.length) := Int.mul_lt_mul_of_pos_right (num_lt ha.2) (pow_pos10 _)
      have u1 : num u * 10 ^ (k - u.length) < 10 ^ u.length * 10 ^ (k - u.length) := Int.mul_lt_mul_of_pos_right (num_lt hb.2) (pow_pos10 _)
      rw [p1] at t1
      rw [p2] at u1
      have key := ih u k ha.2 hb.2 ea.tail eb.tail (by omega) (by omega)
      have f1 : num (c :: t) * 10 ^ (k + 1 - (c :: t).length) = ((c.toNat : Int) - 48) * 10 ^ k + num t * 10 ^ (k - t.length) := by
        rw [num_cons, List.length_cons, e1, Int.add_mul, Int.mul_assoc, p1]
      have f2 : num (d :: u) * 10 ^ (k + 1 - (d :: u).length) = ((d.toNat : Int) - 48) * 10 ^ k + num u * 10 ^ (k - u.length) := by
        rw [num_cons, List.length_cons, e2, Int.add_mul, Int.mul_assoc, p2]
      rw [f1, f2]
      have pk := pow_pos10 k
      generalize num t * 10 ^ (k - t.length) = x at *
      generalize num u * 10 ^ (k - u.length) = y at *
      generalize (10 : Int) ^ k = p at *
      rw [Lib.compareBytes]
      by_cases l : c < d
      · have l' : c.toNat < d.toNat := UInt8.lt_iff_toNat_lt.1 l
        have : ((c.toNat : Int) - 48 + 1) * p ≤ ((d.toNat : Int) - 48) * p := Int.mul_le_mul_of_nonneg_right (by omega) (by omega)
        rw [Int.add_mul] at this
        rw [if_pos l, sg, if_pos (by omega)]
      · by_cases l2 : d < c
        · have l' : d.toNat < c.toNat := UInt8.lt_iff_toNat_lt.1 l2
          have : ((d.toNat : Int) - 48 + 1) * p ≤ ((c.toNat : Int) - 48) * p := Int.mul_le_mul_of_nonneg_right (by omega) (by omega)
          rw [Int.add_mul] at this
          rw [if_neg l, if_pos l2, sg, if_neg (by omega), if_pos (by omega)]
        · have e : c.toNat = d.toNat := by
            have n1 : ¬ c.toNat < d.toNat := fun h => l (UInt8.lt_iff_toNat_lt.2 h)
            have n2 : ¬ d.toNat < c.toNat := fun h => l2 (UInt8.lt_iff_toNat_lt.2 h)
            omega
          rw [if_neg l, if_neg l2, key, e]
          unfold sg
          by_cases z : x < y
          · rw [if_pos z, if_pos (by omega)]
          · by_cases z2 : y < x
            · rw [if_neg z, if_pos z2, if_neg (by omega), if_pos (by omega)]
            · rw [if_neg z, if_neg z2, if_neg (by omega), if_neg (by omega)]
end Go.Proofs.YtlahlnocjfphjaaGreatDoor

namespace Go.Proofs.YtlahlnocjfphjaaGreatDoor

/-- A number: below nought, digits, exponent. -/
structure D3 where
  neg : Bool
  dg : List UInt8
  ex : Int
/-- Digits that a number other than nought may have. -/
def DigOK (l : List UInt8) : Prop := l ≠ [] ∧ l.length ≤ 65536 ∧ l.all isD = true ∧ l.head? ≠ some 48 ∧ l.getLast? ≠ some 48
/-- A number that may be. -/
def Good (d : D3) : Prop := (d.dg = [] ∧ d.neg = false ∧ d.ex = 0) ∨ (DigOK d.dg ∧ -1000000 ≤ d.ex ∧ d.ex ≤ 1000000)
instance (l : List UInt8) : Decidable (DigOK l) := by unfold DigOK; infer_instance
instance (d : D3) : Decidable (Good d) := by unfold Good; infer_instance
def zeroD : D3 := ⟨false, [], 0⟩
structure P3 where
  neg : Bool
  int : List UInt8
  frac : List UInt8
  minus : Bool
  exp : List UInt8

def tw (l : List UInt8) : List UInt8 := l.takeWhile isD
def dw (l : List UInt8) : List UInt8 := l.dropWhile isD
/-- A point and digits, or nothing. -/
def fracL (l : List UInt8) : Option (List UInt8 × List UInt8) :=
  if l.head? = some 46 then (if tw l.tail = [] then none else some (tw l.tail, dw l.tail)) else some ([], l)
def signL (l : List UInt8) : List UInt8 := if l.head? = some 43 ∨ l.head? = some 45 then l.tail else l
/-- An exponent, or nothing. -/
def expL (l : List UInt8) : Option (Bool × List UInt8 × List UInt8) :=
  if l.head? = some 101 ∨ l.head? = some 69 then
    (if tw (signL l.tail) = [] then none else some (decide (l.tail.head? = some 45), tw (signL l.tail), dw (signL l.tail)))
  else some (false, [], l)
def minusL (l : List UInt8) : List UInt8 := if l.head? = some 45 then l.tail else l
/-- What stands behind the digits ahead of the point. -/
def behindL (neg : Bool) (w l : List UInt8) : Option (P3 × List UInt8) :=
  match fracL l with
  | none => none
  | some (f, l3) => match expL l3 with
    | none => none
    | some (m, x, r) => some (⟨neg, w, f, m, x⟩, r)
/-- The parts, with what is left, where a nought ahead of all ends the digits. -/
def splitL (l : List UInt8) : Option (P3 × List UInt8) :=
  if (minusL l).head? = some 48 then behindL (decide (l.head? = some 45)) [48] (minusL l).tail
  else if tw (minusL l) = [] then none else behindL (decide (l.head? = some 45)) (tw (minusL l)) (dw (minusL l))
def wholeL (x : Option (P3 × List UInt8)) : Option P3 :=
  match x with
  | none => none
  | some (p, r) => if r = [] then some p else none
/-- The parts, where all digits are taken and a nought ahead of others is none. -/
def cutL (l : List UInt8) : Option P3 :=
  if tw (minusL l) = [] ∨ (1 < (tw (minusL l)).length ∧ (tw (minusL l)).head? = some 48) then none
  else wholeL (behindL (decide (l.head? = some 45)) (tw (minusL l)) (dw (minusL l)))

theorem fracL_digit (c : UInt8) (t : List UInt8) (h : isD c = true) : fracL (c :: t) = some ([], c :: t) := by
  have := (isD_iff c).1 h
  unfold fracL
  rw [if_neg]
  intro e
  rw [List.head?_cons] at e
  have e := congrArg UInt8.toNat (Option.some.inj e)
  simp at e; omega
theorem expL_digit (c : UInt8) (t : List UInt8) (h : isD c = true) : expL (c :: t) = some (false, [], c :: t) := by
  have := (isD_iff c).1 h
  unfold expL
  rw [if_neg]
  intro e
  rw [List.head?_cons] at e
  rcases e with e | e
  · have e := congrArg UInt8.toNat (Option.some.inj e)
    simp at e; omega
  · have e := congrArg UInt8.toNat (Option.some.inj e)
    simp at e; omega
theorem split_cut (l : List UInt8) : wholeL (splitL l) = cutL l := by
  unfold splitL cutL
  generalize decide (l.head? = some 45) = neg
  generalize minusL l = u
  cases u with
  | nil => simp [tw, wholeL]
  | cons c t =>
    by_cases hc : c = 48
    · subst hc
      have d48 : isD 48 = true := by decide
      have e1 : tw (48 :: t) = 48 :: tw t := by simp [tw, d48]
      have e2 : dw (48 :: t) = dw t := by simp [dw, d48]
      rw [if_pos (by rfl), e1, e2]
      cases t with
      | nil => simp [tw, dw]
      | cons d u =>
        by_cases hd : isD d = true
        · have e3 : tw (d :: u) = d :: tw u := by simp [tw, hd]
          rw [if_pos (by right; rw [e3]; simp), List.tail_cons]
          unfold behindL
          rw [fracL_digit d u hd]
          simp only [expL_digit d u hd, wholeL]
          simp
        · have e3 : tw (d :: u) = [] := by simp [tw, hd]
          have e4 : dw (d :: u) = d :: u := by simp [dw, hd]
          rw [e3, e4, if_neg (by simp), List.tail_cons]
    · have h1 : ¬ (c :: t).head? = some 48 := by simp [hc]
      rw [if_neg h1]
      by_cases h2 : tw (c :: t) = []
      · rw [if_pos h2, if_pos (.inl h2)]; rfl
      · rw [if_neg h2, if_neg]
        intro h
        rcases h with h | ⟨_, h⟩
        · exact h2 h
        · by_cases hd : isD c = true
          · have e3 : tw (c :: t) = c :: tw t := by simp [tw, hd]
            rw [e3] at h
            simp [hc] at h
          · have e3 : tw (c :: t) = [] := by simp [tw, hd]
            exact h2 e3

/-- The number of parts, where the exponent's digits count up to C. -/
def expOf (C : Int) (p : P3) : Int := if p.minus = true then -(min (num p.exp) C) else min (num p.exp) C
def allOf (p : P3) : List UInt8 := p.int ++ p.frac
def upOf (p : P3) : List UInt8 := Lib.trimRightB (allOf p) 48
def dgOf (p : P3) : List UInt8 := Lib.trimLeftB (upOf p) 48
def exOf (C : Int) (p : P3) : Int := expOf C p - p.frac.length + (allOf p).length - (upOf p).length
def valueL (C : Int) (p : P3) : Option D3 :=
  if 65536 < (allOf p).length then none
  else if dgOf p = [] then some zeroD
  else if exOf C p < -1000000 ∨ 1000000 < exOf C p then none
  else some ⟨p.neg, dgOf p, exOf C p⟩
def parseL (l : List UInt8) : Int × D3 :=
  match cutL l with
  | none => (30, zeroD)
  | some p => match valueL 1131072 p with
    | none => (31, zeroD)
    | some d => (0, d)

theorem trimRight_le (l : List UInt8) (c : UInt8) : (Lib.trimRightB l c).length ≤ l.length := by
  unfold Lib.trimRightB
  rw [List.length_reverse]
  exact Nat.le_trans (List.dropWhile_suffix _).length_le (by simp)
/-- However far the digits behind the e are counted, it is the same. -/
theorem value_cap (C : Int) (hC : 1131072 ≤ C) (p : P3) : valueL C p = valueL 1131072 p := by
  unfold valueL
  by_cases h1 : 65536 < (allOf p).length
  · rw [if_pos h1, if_pos h1]
  · rw [if_neg h1, if_neg h1]
    by_cases h2 : dgOf p = []
    · rw [if_pos h2, if_pos h2]
    · rw [if_neg h2, if_neg h2]
      have l1 : p.frac.length ≤ (allOf p).length := by unfold allOf; simp
      have l2 : (upOf p).length ≤ (allOf p).length := trimRight_le _ _
      by_cases h3 : num p.exp ≤ 1131072
      · have e : exOf C p = exOf 1131072 p := by
          unfold exOf expOf
          rw [Int.min_eq_left (by omega), Int.min_eq_left h3]
        rw [e]
      · have a1 : 1131072 ≤ min (num p.exp) C := by omega
        have a2 : min (num p.exp) 1131072 = 1131072 := Int.min_eq_right (by omega)
        rw [if_pos, if_pos]
        · unfold exOf expOf
          rw [a2]
          split <;> omega
        · unfold exOf expOf
          split <;> omega
end Go.Proofs.YtlahlnocjfphjaaGreatDoor
