/-
  What a text is read as: its parts, its number, or why it is none; and that a number's text is read as it. No condition.
-/
import Derived.Test.YtfhapeinfhjihaaGreatDoorL1
namespace Go.Proofs.YtfhapeinfhjihaaGreatDoor

/-- A number: below nought, digits, exponent. -/
structure D3 where
  neg : Bool
  dg : List UInt8
  ex : Int
/-- Digits that a number other than nought may have. -/
def DigOK (l : List UInt8) : Prop := l ≠ [] ∧ l.length ≤ 65536 ∧ l.all isD = true ∧ l.head? ≠ some 48 ∧ l.getLast? ≠ some 48
/-- A number that may be. -/
def Good (d : D3) : Prop := (d.dg = [] ∧ d.neg = false ∧ d.ex = 0) ∨ (DigOK d.dg ∧ -1000000 ≤ d.ex ∧ d.ex ≤ 1000000)
instance (l : List UInt8) : Decidable (DigOK l) := by unfold DigOK; infer_instance
instance (d : D3) : Decidable (Good d) := by unfold Good; infer_instance
def zeroD : D3 := ⟨false, [], 0⟩
structure P3 where
  neg : Bool
  int : List UInt8
  frac : List UInt8
  minus : Bool
  exp : List UInt8

def tw (l : List UInt8) : List UInt8 := l.takeWhile isD
def dw (l : List UInt8) : List UInt8 := l.dropWhile isD
/-- A point and digits, or nothing. -/
def fracL (l : List UInt8) : Option (List UInt8 × List UInt8) :=
  if l.head? = some 46 then (if tw l.tail = [] then none else some (tw l.tail, dw l.tail)) else some ([], l)
def signL (l : List UInt8) : List UInt8 := if l.head? = some 43 ∨ l.head? = some 45 then l.tail else l
/-- An exponent, or nothing. -/
def expL (l : List UInt8) : Option (Bool × List UInt8 × List UInt8) :=
  if l.head? = some 101 ∨ l.head? = some 69 then
    (if tw (signL l.tail) = [] then none else some (decide (l.tail.head? = some 45), tw (signL l.tail), dw (signL l.tail)))
  else some (false, [], l)
def minusL (l : List UInt8) : List UInt8 := if l.head? = some 45 then l.tail else l
/-- What stands behind the digits ahead of the point. -/
def behindL (neg : Bool) (w l : List UInt8) : Option (P3 × List UInt8) :=
  match fracL l with
  | none => none
  | some (f, l3) => match expL l3 with
    | none => none
    | some (m, x, r) => some (⟨neg, w, f, m, x⟩, r)
/-- The parts, with what is left, where a nought ahead of all ends the digits. -/
def splitL (l : List UInt8) : Option (P3 × List UInt8) :=
  if (minusL l).head? = some 48 then behindL (decide (l.head? = some 45)) [48] (minusL l).tail
  else if tw (minusL l) = [] then none else behindL (decide (l.head? = some 45)) (tw (minusL l)) (dw (minusL l))
def wholeL (x : Option (P3 × List UInt8)) : Option P3 :=
  match x with
  | none => none
  | some (p, r) => if r = [] then some p else none
/-- The parts, where all digits are taken and a nought ahead of others is none. -/
def cutL (l : List UInt8) : Option P3 :=
  if tw (minusL l) = [] ∨ (1 < (tw (minusL l)).length ∧ (tw (minusL l)).head? = some 48) then none
  else wholeL (behindL (decide (l.head? = some 45)) (tw (minusL l)) (dw (minusL l)))

theorem fracL_digit (c : UInt8) (t : List UInt8) (h : isD c = true) : fracL (c :: t) = some ([], c :: t) := by
  have := (isD_iff c).1 h
  unfold fracL
  rw [if_neg]
  intro e
  rw [List.head?_cons] at e
  have e := congrArg UInt8.toNat (Option.some.inj e)
  simp at e; omega
theorem expL_digit (c : UInt8) (t : List UInt8) (h : isD c = true) : expL (c :: t) = some (false, [], c :: t) := by
  have := (isD_iff c).1 h
  unfold expL
  rw [if_neg]
  intro e
  rw [List.head?_cons] at e
  rcases e with e | e
  · have e := congrArg UInt8.toNat (Option.some.inj e)
    simp at e; omega
  · have e := congrArg UInt8.toNat (Option.some.inj e)
    simp at e; omega
theorem split_cut (l : List UInt8) : wholeL (splitL l) = cutL l := by
  unfold splitL cutL
  generalize decide (l.head? = some 45) = neg
  generalize minusL l = u
  cases u with
  | nil => simp [tw, wholeL]
  | cons c t =>
    by_cases hc : c = 48
    · subst hc
      have d48 : isD 48 = true := by decide
      have e1 : tw (48 :: t) = 48 :: tw t := by simp [tw, d48]
      have e2 : dw (48 :: t) = dw t := by simp [dw, d48]
      rw [if_pos (by rfl), e1, e2]
      cases t with
      | nil => simp [tw, dw]
      | cons d u =>
        by_cases hd : isD d = true
        · have e3 : tw (d :: u) = d :: tw u := by simp [tw, hd]
          rw [if_pos (by right; rw [e3]; simp), List.tail_cons]
          unfold behindL
          rw [fracL_digit d u hd]
          simp only [expL_digit d u hd, wholeL]
          simp
        · have e3 : tw (d :: u) = [] := by simp [tw, hd]
          have e4 : dw (d :: u) = d :: u := by simp [dw, hd]
          rw [e3, e4, if_neg (by simp), List.tail_cons]
    · have h1 : ¬ (c :: t).head? = some 48 := by simp [hc]
      rw [if_neg h1]
      by_cases h2 : tw (c :: t) = []
      · rw [if_pos h2, if_pos (.inl h2)]; rfl
      · rw [if_neg h2, if_neg]
        intro h
        rcases h with h | ⟨_, h⟩
        · exact h2 h
        · by_cases hd : isD c = true
          · have e3 : tw (c :: t) = c :: tw t := by simp [tw, hd]
            rw [e3] at h
            simp [hc] at h
          · have e3 : tw (c :: t) = [] := by simp [tw, hd]
            exact h2 e3

/-- The number of parts, where the exponent's digits count up to C. -/
def expOf (C : Int) (p : P3) : Int := if p.minus = true then -(min (num p.exp) C) else min (num p.exp) C
def allOf (p : P3) : List UInt8 := p.int ++ p.frac
def upOf (p : P3) : List UInt8 := Lib.trimRightB (allOf p) 48
def dgOf (p : P3) : List UInt8 := Lib.trimLeftB (upOf p) 48
def exOf (C : Int) (p : P3) : Int := expOf C p - p.frac.length + (allOf p).length - (upOf p).length
def valueL (C : Int) (p : P3) : Option D3 :=
  if 65536 < (allOf p).length then none
  else if dgOf p = [] then some zeroD
  else if exOf C p < -1000000 ∨ 1000000 < exOf C p then none
  else some ⟨p.neg, dgOf p, exOf C p⟩
def parseL (l : List UInt8) : Int × D3 :=
  match cutL l with
  | none => (30, zeroD)
  | some p => match valueL 1131072 p with
    | none => (31, zeroD)
    | some d => (0, d)

theorem trimRight_le (l : List UInt8) (c : UInt8) : (Lib.trimRightB l c).length ≤ l.length := by
  unfold Lib.trimRightB
  rw [List.length_reverse]
  exact Nat.le_trans (List.dropWhile_suffix _).length_le (by simp)
/-- However far the digits behind the e are counted, it is the same. -/
theorem value_cap (C : Int) (hC : 1131072 ≤ C) (p : P3) : valueL C p = valueL 1131072 p := by
  unfold valueL
  by_cases h1 : 65536 < (allOf p).length
  · rw [if_pos h1, if_pos h1]
  · rw [if_neg h1, if_neg h1]
    by_cases h2 : dgOf p = []
    · rw [if_pos h2, if_pos h2]
    · rw [if_neg h2, if_neg h2]
      have l1 : p.frac.length ≤ (allOf p).length := by unfold allOf; simp
      have l2 : (upOf p).length ≤ (allOf p).length := trimRight_le _ _
      by_cases h3 : num p.exp ≤ 1131072
      · have e : exOf C p = exOf 1131072 p := by
          unfold exOf expOf
          rw [Int.min_eq_left (by omega), Int.min_eq_left h3]
        rw [e]
      · have a1 : 1131072 ≤ min (num p.exp) C := by omega
        have a2 : min (num p.exp) 1131072 = 1131072 := Int.min_eq_right (by omega)
        rw [if_pos, if_pos]
        · unfold exOf expOf
          rw [a2]
          split <;> omega
        · unfold exOf expOf
          split <;> omega
end Go.Proofs.YtfhapeinfhjihaaGreatDoor
