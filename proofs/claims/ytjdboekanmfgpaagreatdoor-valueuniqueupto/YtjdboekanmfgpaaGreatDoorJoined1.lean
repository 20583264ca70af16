/-
  Digits as lists of bytes: the number that they are, how they compare, and what a text of a number is read as. No condition.
  What a text is read as: its parts, its number, or why it is none; and that a number's text is read as it. No condition.
  A number's text is read as the number; what a text is read as may be; numbers compare as their values do. No condition.
-/
import Derived.Lib.Bytealg
import Derived.Lib.Strings
import Derived.Lib.TrimByte
import Derived.Lib.ItoaNum
import Derived.Lib.Small
namespace Go.Proofs.YtjdboekanmfgpaaGreatDoor

/-- A digit. -/
def isD (c : UInt8) : Bool := decide (48 ≤ c.toNat ∧ c.toNat ≤ 57)
/-- The number that digits are, read on from a. -/
def numF (a : Int) : List UInt8 → Int
 | [] => a
 | c :: t => numF (a * 10 + ((c.toNat : Int) - 48)) t
def num (l : List UInt8) : Int := numF 0 l
theorem numF_add (l : List UInt8) (a : Int) : numF a l = a * 10 ^ l.length + num l := by
 induction l generalizing a with
 | nil => simp [num, numF]
 | cons c t ih =>
  simp only [num, numF, List.length_cons]
  rw [ih, ih (0 * 10 + ((c.toNat : Int) - 48)), Int.pow_succ]
  rw [Int.add_mul, Int.zero_mul, Int.zero_add, Int.mul_assoc, Int.mul_comm 10 (10 ^ t.length)]
  omega
theorem num_cons (c : UInt8) (t : List UInt8) : num (c :: t) = ((c.toNat : Int) - 48) * 10 ^ t.length + num t := by
 rw [num, numF, numF_add]; simp
theorem num_append (a b : List UInt8) : num (a ++ b) = num a * 10 ^ b.length + num b := by
 induction a with
 | nil => simp [num, numF]
 | cons c t ih =>
  rw [List.cons_append, num_cons, ih, num_cons, List.length_append, Int.pow_add, Int.add_mul, Int.mul_assoc]
  omega
theorem isD_iff (c : UInt8) : isD c = true ↔ 48 ≤ c.toNat ∧ c.toNat ≤ 57 := by simp [isD]
theorem pow_pos10 (n : Nat) : (0 : Int) < 10 ^ n := by
 induction n with
 | zero => decide
 | succ n ih => rw [Int.pow_succ]; omega
theorem num_nonneg {l : List UInt8} (h : l.all isD = true) : 0 ≤ num l := by
 induction l with
 | nil => decide
 | cons c t ih =>
  simp only [List.all_cons, Bool.and_eq_true] at h
  have h1 := (isD_iff c).1 h.1
  have h2 := ih h.2
  have h3 := Int.mul_nonneg (show (0 : Int) ≤ (c.toNat : Int) - 48 by omega) (Int.le_of_lt (pow_pos10 t.length))
  rw [num_cons]; omega
theorem num_lt {l : List UInt8} (h : l.all isD = true) : num l < 10 ^ l.length := by
 induction l with
 | nil => decide
 | cons c t ih =>
  simp only [List.all_cons, Bool.and_eq_true] at h
  have h1 := (isD_iff c).1 h.1
  have h2 := ih h.2
  have h3 : ((c.toNat : Int) - 48) * 10 ^ t.length ≤ 9 * 10 ^ t.length := Int.mul_le_mul_of_nonneg_right (by omega) (Int.le_of_lt (pow_pos10 _))
  rw [num_cons, List.length_cons, Int.pow_succ]; omega
/-- Digits that a number other than nought may have, at their end. -/
def EndOK (l : List UInt8) : Prop := ∀ c, l.getLast? = some c → c.toNat ≠ 48
theorem EndOK.tail {c : UInt8} {t : List UInt8} (h : EndOK (c :: t)) : EndOK t := by
 intro d hd
 cases t with
 | nil => simp at hd
 | cons e u => exact h d (by simpa using hd)
theorem num_pos {l : List UInt8} (h : l.all isD = true) (he : EndOK l) (h0 : l ≠ []) : 0 < num l := by
 induction l with
 | nil => exact absurd rfl h0
 | cons c t ih =>
  have h' := h
  simp only [List.all_cons, Bool.and_eq_true] at h
  have h1 := (isD_iff c).1 h.1
  rw [num_cons]
  cases t with
  | nil =>
   have := he c rfl
   simp [num, numF]; omega
  | cons d u =>
   have h2 := ih h.2 he.tail (by simp)
   have h3 := Int.mul_nonneg (show (0 : Int) ≤ (c.toNat : Int) - 48 by omega) (Int.le_of_lt (pow_pos10 (d :: u).length))
   omega
/-- -1, 0, 1: how two numbers stand. -/
def sg (x y : Int) : Int := if x < y then -1 else if y < x then 1 else 0
/-- Digits one under the other, from the first on, compare as the numbers do that they are with noughts behind. -/
theorem compareB_num (a b : List UInt8) (m : Nat) (ha : a.all isD = true) (hb : b.all isD = true) (ea : EndOK a) (eb : EndOK b) (la : a.length ≤ m) (lb : b.length ≤ m) :
  Lib.compareBytes a b = sg (num a * 10 ^ (m - a.length)) (num b * 10 ^ (m - b.length)) := by
 induction a generalizing b m with
 | nil =>
  cases b with
  | nil => simp [Lib.compareBytes, sg, num, numF]
  | cons d u =>
   have h := Int.mul_pos (num_pos hb eb (by simp)) (pow_pos10 (m - (d :: u).length))
   simp only [Lib.compareBytes, sg]
   have z : num ([] : List UInt8) = 0 := rfl
   rw [z, Int.zero_mul, if_pos h]
 | cons c t ih =>
  cases b with
  | nil =>
   have h := Int.mul_pos (num_pos ha ea (by simp)) (pow_pos10 (m - (c :: t).length))
   simp only [Lib.compareBytes, sg]
   have z : num ([] : List UInt8) = 0 := rfl
   rw [z, Int.zero_mul, if_neg (by omega), if_pos h]
  | cons d u =>
   simp only [List.all_cons, Bool.and_eq_true] at ha hb
   have c1 := (isD_iff c).1 ha.1
   have d1 := (isD_iff d).1 hb.1
   simp only [List.length_cons] at la lb
   obtain ⟨k, rfl⟩ : ∃ k, m = k + 1 := ⟨m - 1, by omega⟩
   have e1 : k + 1 - (t.length + 1) = k - t.length := by omega
   have e2 : k + 1 - (u.length + 1) = k - u.length := by omega
   have p1 : (10 : Int) ^ t.length * 10 ^ (k - t.length) = 10 ^ k := by rw [← Int.pow_add]; congr 1; omega
   have p2 : (10 : Int) ^ u.length * 10 ^ (k - u.length) = 10 ^ k := by rw [← Int.pow_add]; congr 1; omega
   have t0 := Int.mul_nonneg (num_nonneg ha.2) (Int.le_of_lt (pow_pos10 (k - t.length)))
   have u0 := Int.mul_nonneg (num_nonneg hb.2) (Int.le_of_lt (pow_pos10 (k - u.length)))
   have t1 : num t * 10 ^ (k - t.length) < 10 ^ t.length * 10 ^ (k - t.length) := Int.mul_lt_mul_of_pos_right (num_lt ha.2) (pow_pos10 _)
   have u1 : num u * 10 ^ (k - u.length) < 10 ^ u.length * 10 ^ (k - u.length) := Int.mul_lt_mul_of_pos_right (num_lt hb.2) (pow_pos10 _)
   rw [p1] at t1
   rw [p2] at u1
   have key := ih u k ha.2 hb.2 ea.tail eb.tail (by omega) (by omega)
   have f1 : num (c :: t) * 10 ^ (k + 1 - (c :: t).length) = ((c.toNat : Int) - 48) * 10 ^ k + num t * 10 ^ (k - t.length) := by
    rw [num_cons, List.length_cons, e1, Int.add_mul, Int.mul_assoc, p1]
   have f2 : num (d :: u) * 10 ^ (k + 1 - (d :: u).length) = ((d.toNat : Int) - 48) * 10 ^ k + num u * 10 ^ (k - u.length) := by
    rw [num_cons, List.length_cons, e2, Int.add_mul, Int.mul_assoc, p2]
   rw [f1, f2]
   have pk := pow_pos10 k
   generalize num t * 10 ^ (k - t.length) = x at *
   generalize num u * 10 ^ (k - u.length) = y at *
   generalize (10 : Int) ^ k = p at *
   rw [Lib.compareBytes]
   by_cases l : c < d
   ·have l' : c.toNat < d.toNat := UInt8.lt_iff_toNat_lt.1 l
    have : ((c.toNat : Int) - 48 + 1) * p ≤ ((d.toNat : Int) - 48) * p := Int.mul_le_mul_of_nonneg_right (by omega) (by omega)
    rw [Int.add_mul] at this
    rw [if_pos l, sg, if_pos (by omega)]
   ·by_cases l2 : d < c
    ·have l' : d.toNat < c.toNat := UInt8.lt_iff_toNat_lt.1 l2
     have : ((d.toNat : Int) - 48 + 1) * p ≤ ((c.toNat : Int) - 48) * p := Int.mul_le_mul_of_nonneg_right (by omega) (by omega)
     rw [Int.add_mul] at this
     rw [if_neg l, if_pos l2, sg, if_neg (by omega), if_pos (by omega)]
    ·have e : c.toNat = d.toNat := by
      have n1 : ¬ c.toNat < d.toNat := fun h => l (UInt8.lt_iff_toNat_lt.2 h)
      have n2 : ¬ d.toNat < c.toNat := fun h => l2 (UInt8.lt_iff_toNat_lt.2 h)
      omega
     rw [if_neg l, if_neg l2, key, e]
     unfold sg
     by_cases z : x < y
     ·rw [if_pos z, if_pos (by omega)]
     ·by_cases z2 : y < x
      ·rw [if_neg z, if_pos z2, if_neg (by omega), if_pos (by omega)]
      ·rw [if_neg z, if_neg z2, if_neg (by omega), if_neg (by omega)]
end Go.Proofs.YtjdboekanmfgpaaGreatDoor

namespace Go.Proofs.YtjdboekanmfgpaaGreatDoor

/-- A number: below nought, digits, exponent. -/
structure D3 where
 neg : Bool
 dg : List UInt8
 ex : Int
/-- Digits that a number other than nought may have. -/
def DigOK (l : List UInt8) : Prop := l ≠ [] ∧ l.length ≤ 65536 ∧ l.all isD = true ∧ l.head? ≠ some 48 ∧ l.getLast? ≠ some 48
/-- A number that may be. -/
def Good (d : D3) : Prop := (d.dg = [] ∧ d.neg = false ∧ d.ex = 0) ∨ (DigOK d.dg ∧ -1000000 ≤ d.ex ∧ d.ex ≤ 1000000)
instance (l : List UInt8) : Decidable (DigOK l) := by unfold DigOK; infer_instance
instance (d : D3) : Decidable (Good d) := by unfold Good; infer_instance
def zeroD : D3 := ⟨false, [], 0⟩
structure P3 where
 neg : Bool
 int : List UInt8
 frac : List UInt8
 minus : Bool
 exp : List UInt8

def tw (l : List UInt8) : List UInt8 := l.takeWhile isD
def dw (l : List UInt8) : List UInt8 := l.dropWhile isD
/-- A point and digits, or nothing. -/
def fracL (l : List UInt8) : Option (List UInt8 × List UInt8) :=
 if l.head? = some 46 then (if tw l.tail = [] then none else some (tw l.tail, dw l.tail)) else some ([], l)
def signL (l : List UInt8) : List UInt8 := if l.head? = some 43 ∨ l.head? = some 45 then l.tail else l
/-- An exponent, or nothing. -/
def expL (l : List UInt8) : Option (Bool × List UInt8 × List UInt8) :=
 if l.head? = some 101 ∨ l.head? = some 69 then
  (if tw (signL l.tail) = [] then none else some (decide (l.tail.head? = some 45), tw (signL l.tail), dw (signL l.tail)))
 else some (false, [], l)
def minusL (l : List UInt8) : List UInt8 := if l.head? = some 45 then l.tail else l
/-- What stands behind the digits ahead of the point. -/
def behindL (neg : Bool) (w l : List UInt8) : Option (P3 × List UInt8) :=
 match fracL l with
 | none => none
 | some (f, l3) => match expL l3 with
  | none => none
  | some (m, x, r) => some (⟨neg, w, f, m, x⟩, r)
/-- The parts, with what is left, where a nought ahead of all ends the digits. -/
def splitL (l : List UInt8) : Option (P3 × List UInt8) :=
 if (minusL l).head? = some 48 then behindL (decide (l.head? = some 45)) [48] (minusL l).tail
 else if tw (minusL l) = [] then none else behindL (decide (l.head? = some 45)) (tw (minusL l)) (dw (minusL l))
def wholeL (x : Option (P3 × List UInt8)) : Option P3 :=
 match x with
 | none => none
 | some (p, r) => if r = [] then some p else none
/-- The parts, where all digits are taken and a nought ahead of others is none. -/
def cutL (l : List UInt8) : Option P3 :=
 if tw (minusL l) = [] ∨ (1 < (tw (minusL l)).length ∧ (tw (minusL l)).head? = some 48) then none
 else wholeL (behindL (decide (l.head? = some 45)) (tw (minusL l)) (dw (minusL l)))

theorem fracL_digit (c : UInt8) (t : List UInt8) (h : isD c = true) : fracL (c :: t) = some ([], c :: t) := by
 have := (isD_iff c).1 h
 unfold fracL
 rw [if_neg]
 intro e
 rw [List.head?_cons] at e
 have e := congrArg UInt8.toNat (Option.some.inj e)
 simp at e; omega
theorem expL_digit (c : UInt8) (t : List UInt8) (h : isD c = true) : expL (c :: t) = some (false, [], c :: t) := by
 have := (isD_iff c).1 h
 unfold expL
 rw [if_neg]
 intro e
 rw [List.head?_cons] at e
 rcases e with e | e
 ·have e := congrArg UInt8.toNat (Option.some.inj e)
  simp at e; omega
 ·have e := congrArg UInt8.toNat (Option.some.inj e)
  simp at e; omega
theorem split_cut (l : List UInt8) : wholeL (splitL l) = cutL l := by
 unfold splitL cutL
 generalize decide (l.head? = some 45) = neg
 generalize minusL l = u
 cases u with
 | nil => simp [tw, wholeL]
 | cons c t =>
  by_cases hc : c = 48
  ·subst hc
   have d48 : isD 48 = true := by decide
   have e1 : tw (48 :: t) = 48 :: tw t := by simp [tw, d48]
   have e2 : dw (48 :: t) = dw t := by simp [dw, d48]
   rw [if_pos (by rfl), e1, e2]
   cases t with
   | nil => simp [tw, dw]
   | cons d u =>
    by_cases hd : isD d = true
    ·have e3 : tw (d :: u) = d :: tw u := by simp [tw, hd]
     rw [if_pos (by right; rw [e3]; simp), List.tail_cons]
     unfold behindL
     rw [fracL_digit d u hd]
     simp only [expL_digit d u hd, wholeL]
     simp
    ·have e3 : tw (d :: u) = [] := by simp [tw, hd]
     have e4 : dw (d :: u) = d :: u := by simp [dw, hd]
     rw [e3, e4, if_neg (by simp), List.tail_cons]
  ·have h1 : ¬ (c :: t).head? = some 48 := by simp [hc]
   rw [if_neg h1]
   by_cases h2 : tw (c :: t) = []
   ·rw [if_pos h2, if_pos (.inl h2)]; rfl
   ·rw [if_neg h2, if_neg]
    intro h
    rcases h with h | ⟨_, h⟩
    ·exact h2 h
    ·by_cases hd : isD c = true
     ·have e3 : tw (c :: t) = c :: tw t := by simp [tw, hd]
      rw [e3] at h
      simp [hc] at h
     ·have e3 : tw (c :: t) = [] := by simp [tw, hd]
      exact h2 e3

/-- The number of parts, where the exponent's digits count up to C. -/
def expOf (C : Int) (p : P3) : Int := if p.minus = true then -(min (num p.exp) C) else min (num p.exp) C
def allOf (p : P3) : List UInt8 := p.int ++ p.frac
def upOf (p : P3) : List UInt8 := Lib.trimRightB (allOf p) 48
def dgOf (p : P3) : List UInt8 := Lib.trimLeftB (upOf p) 48
def exOf (C : Int) (p : P3) : Int := expOf C p - p.frac.length + (allOf p).length - (upOf p).length
def valueL (C : Int) (p : P3) : Option D3 :=
 if 65536 < (allOf p).length then none
 else if dgOf p = [] then some zeroD
 else if exOf C p < -1000000 ∨ 1000000 < exOf C p then none
 else some ⟨p.neg, dgOf p, exOf C p⟩
def parseL (l : List UInt8) : Int × D3 :=
 match cutL l with
 | none => (30, zeroD)
 | some p => match valueL 1131072 p with
  | none => (31, zeroD)
  | some d => (0, d)

theorem trimRight_le (l : List UInt8) (c : UInt8) : (Lib.trimRightB l c).length ≤ l.length := by
 unfold Lib.trimRightB
 rw [List.length_reverse]
 exact Nat.le_trans (List.dropWhile_suffix _).length_le (by simp)
/-- However far the digits behind the e are counted, it is the same. -/
theorem value_cap (C : Int) (hC : 1131072 ≤ C) (p : P3) : valueL C p = valueL 1131072 p := by
 unfold valueL
 by_cases h1 : 65536 < (allOf p).length
 ·rw [if_pos h1, if_pos h1]
 ·rw [if_neg h1, if_neg h1]
  by_cases h2 : dgOf p = []
  ·rw [if_pos h2, if_pos h2]
  ·rw [if_neg h2, if_neg h2]
   have l1 : p.frac.length ≤ (allOf p).length := by unfold allOf; simp
   have l2 : (upOf p).length ≤ (allOf p).length := trimRight_le _ _
   by_cases h3 : num p.exp ≤ 1131072
   ·have e : exOf C p = exOf 1131072 p := by
     unfold exOf expOf
     rw [Int.min_eq_left (by omega), Int.min_eq_left h3]
    rw [e]
   ·have a1 : 1131072 ≤ min (num p.exp) C := by omega
    have a2 : min (num p.exp) 1131072 = 1131072 := Int.min_eq_right (by omega)
    rw [if_pos, if_pos]
    ·unfold exOf expOf
     rw [a2]
     split <;> omega
    ·unfold exOf expOf
     split <;> omega
end Go.Proofs.YtjdboekanmfgpaaGreatDoor

namespace Go.Proofs.YtjdboekanmfgpaaGreatDoor

theorem tw_all (l : List UInt8) : (tw l).all isD = true := by
 induction l with
 | nil => rfl
 | cons c t ih =>
  by_cases h : isD c = true
  ·simp only [tw, List.takeWhile_cons, h, if_true, List.all_cons, Bool.true_and]; exact ih
  ·simp [tw, h]
theorem tw_append (l r : List UInt8) (h : l.all isD = true) (hr : ∀ c, r.head? = some c → isD c = false) : tw (l ++ r) = l ∧ dw (l ++ r) = r := by
 induction l with
 | nil =>
  cases r with
  | nil => exact ⟨rfl, rfl⟩
  | cons c t => have := hr c rfl; simp [tw, dw, this]
 | cons c t ih =>
  simp only [List.all_cons, Bool.and_eq_true] at h
  have := ih h.2
  simp only [List.cons_append, tw, dw, List.takeWhile_cons, List.dropWhile_cons, h.1, if_true]
  exact ⟨by rw [show List.takeWhile isD (t ++ r) = t from this.1], this.2⟩
theorem trimRight_id (l : List UInt8) (h : l.getLast? ≠ some 48) : Lib.trimRightB l 48 = l := by
 unfold Lib.trimRightB
 rw [← List.head?_reverse] at h
 cases e : l.reverse with
 | nil => rw [List.dropWhile_nil]; have := congrArg List.reverse e; simpa using this.symm
 | cons c t =>
  rw [e] at h
  have hc : ¬ c = 48 := by simpa using h
  have : (c == 48) = false := by simpa using hc
  rw [List.dropWhile_cons, this]
  simp only [Bool.false_eq_true, if_false]
  rw [← e, List.reverse_reverse]
theorem trimLeft_id (l : List UInt8) (h : l.head? ≠ some 48) : Lib.trimLeftB l 48 = l := by
 unfold Lib.trimLeftB
 cases l with
 | nil => rfl
 | cons c t =>
  have hc : ¬ c = 48 := by simpa using h
  have : (c == 48) = false := by simpa using hc
  rw [List.dropWhile_cons, this]
  simp
theorem dropWhile_head (l : List UInt8) : (l.dropWhile (· == 48)).head? ≠ some 48 := by
 induction l with
 | nil => simp
 | cons c t ih =>
  by_cases h : c = 48
  ·simp [h]; simpa using ih
  ·simp [h]
theorem trimRight_last (l : List UInt8) : (Lib.trimRightB l 48).getLast? ≠ some 48 := by
 unfold Lib.trimRightB
 rw [List.getLast?_reverse]
 exact dropWhile_head _
theorem trimLeft_last (l : List UInt8) (h : l.getLast? ≠ some 48) : (Lib.trimLeftB l 48).getLast? ≠ some 48 := by
 unfold Lib.trimLeftB
 induction l with
 | nil => simp
 | cons c t ih =>
  by_cases e : c = 48
  ·cases t with
   | nil => subst e; exact absurd rfl h
   | cons d u =>
    have := ih (by simpa using h)
    rw [e, List.dropWhile_cons]; simpa using this
  ·rw [List.dropWhile_cons, show (c == 48) = false by simpa using e]; simpa using h
theorem all_dropWhile (l : List UInt8) (p : UInt8 → Bool) (h : l.all isD = true) : (l.dropWhile p).all isD = true := by
 rw [List.all_eq_true] at h ⊢
 intro x hx
 exact h x ((List.dropWhile_sublist p).subset hx)
theorem all_reverse (l : List UInt8) (h : l.all isD = true) : l.reverse.all isD = true := by
 rw [List.all_reverse]; exact h
/-- Parts that are digits. -/
def PD (p : P3) : Prop := p.int.all isD = true ∧ p.frac.all isD = true ∧ p.exp.all isD = true
theorem fracL_pd {l f r : List UInt8} (h : fracL l = some (f, r)) : f.all isD = true := by
 unfold fracL at h
 split at h
 ·split at h
  ·cases h
  ·simp only [Option.some.injEq, Prod.mk.injEq] at h; rw [← h.1]; exact tw_all _
 ·simp only [Option.some.injEq, Prod.mk.injEq] at h; rw [← h.1]; rfl
theorem expL_pd {l x r : List UInt8} {m : Bool} (h : expL l = some (m, x, r)) : x.all isD = true := by
 unfold expL at h
 split at h
 ·split at h
  ·cases h
  ·simp only [Option.some.injEq, Prod.mk.injEq] at h; rw [← h.2.1]; exact tw_all _
 ·simp only [Option.some.injEq, Prod.mk.injEq] at h; rw [← h.2.1]; rfl
theorem behindL_pd {neg : Bool} {w l r : List UInt8} {p : P3} (hw : w.all isD = true) (h : behindL neg w l = some (p, r)) : PD p := by
 unfold behindL at h
 split at h
 ·cases h
 ·rename_i f l3 hf
  split at h
  ·cases h
  ·rename_i m x r' hx
   simp only [Option.some.injEq, Prod.mk.injEq] at h
   rw [← h.1]
   exact ⟨hw, fracL_pd hf, expL_pd hx⟩
theorem cutL_pd {l : List UInt8} {p : P3} (h : cutL l = some p) : PD p := by
 unfold cutL at h
 split at h
 ·cases h
 ·unfold wholeL at h
  split at h
  ·cases h
  ·rename_i p' r hb
   split at h
   ·cases h; exact behindL_pd (tw_all _) hb
   ·cases h
theorem value_good {p : P3} {d : D3} {C : Int} (hp : PD p) (h : valueL C p = some d) : Good d := by
 unfold valueL at h
 split at h
 ·cases h
 ·rename_i h1
  split at h
  ·cases h; exact .inl ⟨rfl, rfl, rfl⟩
  ·rename_i h2
   split at h
   ·cases h
   ·rename_i h3
    cases h
    have ha : (allOf p).all isD = true := by unfold allOf; rw [List.all_append, hp.1, hp.2.1]; rfl
    have hu : (upOf p).all isD = true := all_reverse _ (all_dropWhile _ _ (all_reverse _ ha))
    have l1 : (upOf p).length ≤ (allOf p).length := trimRight_le _ _
    have l2 : (dgOf p).length ≤ (upOf p).length := (List.dropWhile_suffix _).length_le
    refine .inr ⟨⟨h2, by show (dgOf p).length ≤ 65536; omega, all_dropWhile _ _ hu, dropWhile_head _, trimLeft_last _ (trimRight_last _)⟩, ?_, ?_⟩
    ·show -1000000 ≤ exOf C p; omega
    ·show exOf C p ≤ 1000000; omega
theorem parse_good {l : List UInt8} (h : (parseL l).1 = 0) : Good (parseL l).2 := by
 unfold parseL at h ⊢
 cases hc : cutL l with
 | none => rw [hc] at h; exact absurd h (by decide)
 | some p =>
  rw [hc] at h
  cases hv : valueL 1131072 p with
  | none => simp only [hv] at h; exact absurd h (by decide)
  | some d => simp only [hv]; exact value_good (cutL_pd hc) hv
theorem parse_bad {l : List UInt8} (h : (parseL l).1 ≠ 0) : (parseL l).2 = zeroD := by
 unfold parseL at h ⊢
 cases hc : cutL l with
 | none => rfl
 | some p =>
  rw [hc] at h
  cases hv : valueL 1131072 p with
  | none => simp only [hv]
  | some d => simp only [hv] at h; exact absurd rfl h

theorem decDigits_all (n : Nat) : (Lib.decDigits n).all isD = true ∧ num (Lib.decDigits n) = n ∧ Lib.decDigits n ≠ [] := by
 induction n using Nat.strongRecOn with
 | _ n ih =>
  rw [Lib.decDigits]
  have key : ∀ k, k < 10 → isD (UInt8.ofNat (48 + k)) = true ∧ ((UInt8.ofNat (48 + k)).toNat : Int) - 48 = k := fun k hk => by
   have : (UInt8.ofNat (48 + k)).toNat = 48 + k := by simp; omega
   rw [isD_iff, this]; omega
  by_cases h : n < 10
  ·rw [dif_pos h]
   have := key n h
   refine ⟨by rw [List.all_cons, this.1]; rfl, ?_, by simp⟩
   rw [num_cons, this.2]; simp [num, numF]
  ·rw [dif_neg h]
   have i := ih (n / 10) (by omega)
   have := key (n % 10) (by omega)
   refine ⟨by rw [List.all_append, i.1, List.all_cons, this.1]; rfl, ?_, by simp⟩
   rw [num_append, i.2.1, num_cons, this.2]
   simp [num, numF]; omega

/-- A number's text. -/
def sufL (e : Int) : List UInt8 := if e = 0 then [] else 101 :: Lib.itoa e
def textL (d : D3) : List UInt8 := if d.dg = [] then [48] else (if d.neg = true then 45 :: d.dg else d.dg) ++ sufL d.ex
theorem suf_head (e : Int) (c : UInt8) (h : (sufL e).head? = some c) : c = 101 := by
 unfold sufL at h
 split at h
 ·simp at h
 ·simpa using h.symm
theorem suf_exp (e : Int) : ∃ m x, expL (sufL e) = some (m, x, []) ∧ (-1000000 ≤ e → e ≤ 1000000 → (if m = true then -(min (num x) 1131072) else min (num x) 1131072) = e) := by
 unfold sufL
 by_cases h : e = 0
 ·rw [if_pos h]
  exact ⟨false, [], rfl, fun _ _ => by rw [h]; decide⟩
 ·rw [if_neg h]
  unfold expL
  rw [if_pos (by simp)]
  by_cases hn : e < 0
  ·have hs : Lib.itoa e = 45 :: Lib.decDigits e.natAbs := by rw [Lib.itoa, if_pos hn]
   obtain ⟨d1, d2, d3⟩ := decDigits_all e.natAbs
   have e1 : signL (List.tail (101 :: Lib.itoa e)) = Lib.decDigits e.natAbs := by rw [List.tail_cons, hs]; simp [signL]
   have e2 := tw_append (Lib.decDigits e.natAbs) [] d1 (by simp)
   rw [List.append_nil] at e2
   rw [e1, e2.1, e2.2, if_neg d3]
   refine ⟨_, _, rfl, fun _ _ => ?_⟩
   rw [List.tail_cons, hs, d2]
   simp only [List.head?_cons, decide_true, if_true]
   omega
  ·have hs : Lib.itoa e = Lib.decDigits e.toNat := by rw [Lib.itoa, if_neg hn]
   obtain ⟨d1, d2, d3⟩ := decDigits_all e.toNat
   have hh : ∀ c, (Lib.decDigits e.toNat).head? = some c → isD c = true := fun c hc => by
    cases hx : Lib.decDigits e.toNat with
    | nil => exact absurd hx d3
    | cons a b =>
     rw [hx] at hc d1
     simp only [List.all_cons, Bool.and_eq_true] at d1
     simp only [List.head?_cons, Option.some.injEq] at hc
     rw [← hc]; exact d1.1
   have n43 : ¬ (Lib.decDigits e.toNat).head? = some 43 := fun hc => absurd (hh _ hc) (by decide)
   have n45 : ¬ (Lib.decDigits e.toNat).head? = some 45 := fun hc => absurd (hh _ hc) (by decide)
   have e1 : signL (List.tail (101 :: Lib.itoa e)) = Lib.decDigits e.toNat := by rw [List.tail_cons, hs]; simp [signL, n43, n45]
   have e2 := tw_append (Lib.decDigits e.toNat) [] d1 (by simp)
   rw [List.append_nil] at e2
   rw [e1, e2.1, e2.2, if_neg d3]
   refine ⟨_, _, rfl, fun _ _ => ?_⟩
   rw [List.tail_cons, hs, d2]
   simp only [n45, decide_false, Bool.false_eq_true, if_false]
   omega
theorem parse_text (d : D3) (h : Good d) : parseL (textL d) = (0, d) := by
 obtain ⟨neg, l, e⟩ := d
 rcases h with ⟨h1, h2, h3⟩ | ⟨⟨h1, h2, h3, h4, h5⟩, h6, h7⟩
 ·simp only at h1 h2 h3
  subst h1; subst h2; subst h3
  rfl
 ·simp only at h1 h2 h3 h4 h5 h6 h7
  obtain ⟨m, x, hx, hv⟩ := suf_exp e
  have hv := hv h6 h7
  have hm : minusL (textL ⟨neg, l, e⟩) = l ++ sufL e ∧ decide ((textL ⟨neg, l, e⟩).head? = some 45) = neg := by
   unfold textL
   simp only [h1, if_false]
   cases neg
   ·simp only [Bool.false_eq_true, if_false]
    cases l with
    | nil => exact absurd rfl h1
    | cons c t =>
     have : ¬ c = 45 := fun hc => by subst hc; simp at h3; exact absurd h3.1 (by decide)
     simp [minusL, this]
   ·simp [minusL]
  have ht := tw_append l (sufL e) h3 (fun c hc => by rw [suf_head e c hc]; decide)
  have hf : fracL (sufL e) = some ([], sufL e) := by
   unfold fracL
   rw [if_neg]
   intro hc
   have := suf_head e _ hc
   exact absurd this (by decide)
  have hb : behindL neg l (sufL e) = some (⟨neg, l, [], m, x⟩, []) := by
   unfold behindL
   simp only [hf, hx]
  have hc : cutL (textL ⟨neg, l, e⟩) = some ⟨neg, l, [], m, x⟩ := by
   unfold cutL
   rw [hm.1, hm.2, ht.1, ht.2, if_neg, hb]
   ·simp [wholeL]
   ·intro hh
    rcases hh with hh | ⟨_, hh⟩
    ·exact h1 hh
    ·exact h4 hh
  have ha : allOf ⟨neg, l, [], m, x⟩ = l := by simp [allOf]
  have hu : upOf ⟨neg, l, [], m, x⟩ = l := by rw [upOf, ha, trimRight_id l h5]
  have hd : dgOf ⟨neg, l, [], m, x⟩ = l := by rw [dgOf, hu, trimLeft_id l h4]
  have he : exOf 1131072 ⟨neg, l, [], m, x⟩ = e := by
   unfold exOf expOf
   rw [ha, hu]
   simp only [List.length_nil]
   rw [hv]; omega
  have hval : valueL 1131072 ⟨neg, l, [], m, x⟩ = some ⟨neg, l, e⟩ := by
   unfold valueL
   rw [ha, hd, he, if_neg (by omega), if_neg h1, if_neg (by omega)]
  unfold parseL
  rw [hc]
  simp only [hval]
end Go.Proofs.YtjdboekanmfgpaaGreatDoor
