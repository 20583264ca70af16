/-
  The counts behind an atom, as numbers: what number, take and fail leave against what the counts are read as. No condition.
-/
import Derived.Test.YthbbkcdlcpbepaaGreatDoorJoined12
import Derived.Test.YthbbkcdlcpbepaaGreatDoorJoined30
namespace Go.Proofs.YthbbkcdlcpbepaaGreatDoor
open Go.RowKit

theorem swB1 {c : Int} {S : List Int} {a : Nat} (hc : c ≠ -1) : startsW [c] (S.drop a) = decide (pk S a = c) := by
  by_cases h : a < S.length
  · rw [drop_at h]; simp only [startsW, Bool.and_true]
    by_cases e : pk S a = c <;> simp [e]
  · rw [drop_out (by omega), pk_out (by omega)]
    simp only [startsW]
    exact (decide_eq_false (fun e => hc e.symm)).symm
theorem swB2 {c d : Int} {S : List Int} {a : Nat} (hc : c ≠ -1) (hd : d ≠ -1) : startsW [c, d] (S.drop a) = (decide (pk S a = c) && decide (pk S (a + 1) = d)) := by
  by_cases h : a < S.length
  · rw [drop_at h]
    have := swB1 (c := d) (S := S) (a := a + 1) hd
    simp only [startsW] at this ⊢
    rw [this]
    by_cases e : pk S a = c <;> simp [e]
  · rw [drop_out (by omega), pk_out (by omega)]
    simp only [startsW]
    rw [decide_eq_false (fun e => hc e.symm)]; rfl
/-- What the counts in braces come to: the numbers and the place, or it failed. -/
def CntF (S : List Int) (b : Nat) (bad : Bool) (low high : Int) (aT : Nat) : Bool → Prop
  | false => bad = false ∧ countsL (S.drop b) = some ((low, high), S.drop aT)
  | true => bad = true ∨ countsL (S.drop b) = none
theorem NumQ.none_of {S : List Int} {a : Nat} {bad : Bool} {x : Int} {a' : Nat} {b' : Bool} (h : NumQ S a bad x a' b') (hx : x < 0) : countL (S.drop a) = none := by
  obtain ⟨_, _, _, h⟩ := h
  cases e : countL (S.drop a) with
  | none => rfl
  | some y =>
    obtain ⟨n, l'⟩ := y
    rw [e] at h
    simp only at h
    omega
theorem NumQ.case {S : List Int} {a : Nat} {bad : Bool} {x : Int} {a' : Nat} {b' : Bool} (h : NumQ S a bad x a' b') (hx : 0 ≤ x) : (countL (S.drop a) = some (x, S.drop a') ∧ b' = bad ∧ isDig (pk S a) = true ∧ a < a' ∧ a' ≤ S.length) ∨ (countL (S.drop a) = none ∧ b' = true ∧ isDig (pk S a) = true) := by
  obtain ⟨_, _, _, h⟩ := h
  cases e : countL (S.drop a) with
  | none =>
    rw [e] at h
    simp only at h
    rcases h with ⟨h, _⟩ | ⟨h1, _, h3⟩
    · omega
    · exact Or.inr ⟨rfl, h1, h3⟩
  | some y =>
    obtain ⟨n, l'⟩ := y
    rw [e] at h
    simp only at h
    obtain ⟨rfl, h1, h2, h3, h4, h5⟩ := h
    refine Or.inl ⟨by rw [h2], h5, ?_, h3, h4⟩
    cases hd : isDig (pk S a)
    · exfalso
      have : countL (S.drop a) = none := by
        rw [drop_at (by omega)]; simp only [countL, hd]; rfl
      rw [this] at e; simp at e
    · rfl
theorem cnt_n {S : List Int} {b : Nat} {bad : Bool} {low high : Int} {aT : Nat} (h : countL (S.drop b) = none) : CntF S b bad low high aT true := Or.inr (by unfold countsL; rw [h])
/-- No comma, a closing brace. -/
theorem cnt_a {S : List Int} {b : Nat} {bad : Bool} {x : Int} {a1 : Nat} {b1 : Bool} (h : NumQ S b bad x a1 b1) (hx : 0 ≤ x) (hq : pk S a1 = 125) : CntF S b bad x x (a1 + 1) b1 := by
  rcases h.case hx with ⟨e, rfl, _⟩ | ⟨e, rfl, _⟩
  · cases b1
    · refine ⟨rfl, ?_⟩
      unfold countsL; rw [e]; simp only
      rw [swB1 (by omega), decide_eq_true hq, if_pos rfl, List.drop_drop]
    · exact Or.inl rfl
  · exact cnt_n e
/-- No comma, no closing brace. -/
theorem cnt_b {S : List Int} {b : Nat} {bad : Bool} {x high : Int} {a1 aT : Nat} {b1 : Bool} (h : NumQ S b bad x a1 b1) (hx : 0 ≤ x) (hc : pk S a1 ≠ 44) (hq : pk S a1 ≠ 125) : CntF S b bad x high aT true := by
  rcases h.case hx with ⟨e, rfl, _⟩ | ⟨e, rfl, _⟩
  · refine Or.inr ?_
    unfold countsL; rw [e]; simp only
    rw [swB1 (by omega), swB2 (by omega) (by omega), swB1 (by omega), decide_eq_false hq, decide_eq_false hc]; rfl
  · exact cnt_n e
theorem cnt_comma {S : List Int} {b : Nat} {x : Int} {a1 : Nat} (e : countL (S.drop b) = some (x, S.drop a1)) (hc : pk S a1 = 44) : countsL (S.drop b) = if pk S (a1 + 1) = 125 then some ((x, -1), S.drop (a1 + 2)) else match countL (S.drop (a1 + 1)) with
    | none => none
    | some (y, l2) => if startsW [125] l2 = true then (if y < x then none else some ((x, y), l2.drop 1)) else none := by
  unfold countsL; rw [e]; simp only
  rw [swB1 (by omega), swB2 (by omega) (by omega), swB1 (by omega), decide_eq_false (by omega), decide_eq_true hc]
  by_cases h : pk S (a1 + 1) = 125
  · rw [decide_eq_true h, if_pos h]; simp [List.drop_drop]
  · rw [decide_eq_false h, if_neg h]
    simp only [Bool.false_eq_true, reduceIte, Bool.and_false, List.drop_drop]
    cases countL (S.drop (a1 + 1)) with
    | none => rfl
    | some y => rfl
/-- A comma; the second number below the first. -/
theorem cnt_c {S : List Int} {b : Nat} {bad : Bool} {x y high : Int} {a1 a3 aT : Nat} {b1 b3 : Bool} (h : NumQ S b bad x a1 b1) (h2 : NumQ S (a1 + 1) b1 y a3 b3) (hx : 0 ≤ x) (hc : pk S a1 = 44) (hy : 0 ≤ y) (hlt : y < x) : CntF S b bad x high aT true := by
  rcases h.case hx with ⟨e, rfl, _⟩ | ⟨e, rfl, _⟩
  · refine Or.inr ?_
    rw [cnt_comma e hc]
    rcases h2.case hy with ⟨e2, _, hd, _⟩ | ⟨e2, _, hd⟩
    · rw [if_neg (by rw [isDig_iff] at hd; omega), e2]
      simp only [if_pos hlt]
      split <;> rfl
    · rw [if_neg (by rw [isDig_iff] at hd; omega), e2]
  · exact cnt_n e
/-- A comma and a closing brace. -/
theorem cnt_d {S : List Int} {b : Nat} {bad : Bool} {x y : Int} {a1 a3 : Nat} {b1 b3 : Bool} (h : NumQ S b bad x a1 b1) (h2 : NumQ S (a1 + 1) b1 y a3 b3) (hx : 0 ≤ x) (hc : pk S a1 = 44) (hy : ¬ (0 ≤ y ∧ y < x)) (hq : pk S a3 = 125) : CntF S b bad x y (a3 + 1) b3 := by
  rcases h.case hx with ⟨e, rfl, _⟩ | ⟨e, rfl, _⟩
  · by_cases hy0 : 0 ≤ y
    · rcases h2.case hy0 with ⟨e2, rfl, hd, _⟩ | ⟨e2, rfl, hd⟩
      · cases b3
        · refine ⟨rfl, ?_⟩
          rw [cnt_comma e hc, if_neg (by rw [isDig_iff] at hd; omega), e2]
          simp only
          rw [swB1 (by omega), decide_eq_true hq, if_pos rfl, if_neg (by omega), List.drop_drop]
        · exact Or.inl rfl
      · refine Or.inr ?_
        rw [cnt_comma e hc, if_neg (by rw [isDig_iff] at hd; omega), e2]
    · obtain ⟨h3, h4, h5, h6⟩ := h2
      rw [NumQ.none_of ⟨h3, h4, h5, h6⟩ (by omega)] at h6
      simp only at h6
      rcases h6 with ⟨rfl, rfl, rfl, _⟩ | ⟨_, h7, _⟩
      · cases b3
        · refine ⟨rfl, ?_⟩
          rw [cnt_comma e hc, if_pos hq]
        · exact Or.inl rfl
      · omega
  · have : b3 = true := h2.2.2.1 rfl
    subst this
    exact cnt_n e
/-- A comma and no closing brace. -/
theorem cnt_e {S : List Int} {b : Nat} {bad : Bool} {x y high : Int} {a1 a3 aT : Nat} {b1 b3 : Bool} (h : NumQ S b bad x a1 b1) (h2 : NumQ S (a1 + 1) b1 y a3 b3) (hx : 0 ≤ x) (hc : pk S a1 = 44) (hq : pk S a3 ≠ 125) : CntF S b bad x high aT true := by
  rcases h.case hx with ⟨e, rfl, _⟩ | ⟨e, rfl, _⟩
  · refine Or.inr ?_
    rw [cnt_comma e hc]
    by_cases hy0 : 0 ≤ y
    · rcases h2.case hy0 with ⟨e2, _, hd, _⟩ | ⟨e2, _, hd⟩
      · rw [if_neg (by rw [isDig_iff] at hd; omega), e2]
        simp only
        rw [swB1 (by omega), decide_eq_false hq]; rfl
      · rw [if_neg (by rw [isDig_iff] at hd; omega), e2]
    · obtain ⟨h3, h4, h5, h6⟩ := h2
      have e3 := NumQ.none_of ⟨h3, h4, h5, h6⟩ (by omega)
      rw [e3] at h6
      simp only at h6
      rcases h6 with ⟨_, rfl, _, _⟩ | ⟨_, h7, _⟩
      · rw [if_neg hq, e3]
      · omega
  · exact cnt_n e
/-- What count comes to: the numbers and the place, or it failed. -/
def TailF (S : List Int) (a : Nat) (bad : Bool) (x : RX) (low high : Int) (aT : Nat) : Bool → Prop
  | false => bad = false ∧ countedL x (S.drop a) = some (lazyX x low high (S.drop aT))
  | true => bad = true ∨ countedL x (S.drop a) = none
theorem tail_b {S : List Int} {a aT : Nat} {bad bT : Bool} {x : RX} {low high : Int} (hq : pk S a = 123) (h : CntF S (a + 1) bad low high aT bT) : TailF S a bad x low high aT bT := by
  have e : countedL x (S.drop a) = match countsL (S.drop (a + 1)) with
    | none => none
    | some (ab, l1) => some (lazyX x ab.1 ab.2 l1) := by
    unfold countedL
    rw [swB1 (by omega), swB1 (by omega), swB1 (by omega), swB1 (by omega), decide_eq_false (by omega), decide_eq_false (by omega), decide_eq_false (by omega), decide_eq_true hq, List.drop_drop]; rfl
  cases bT
  · obtain ⟨h1, h2⟩ := h
    exact ⟨h1, by rw [e, h2]⟩
  · rcases h with h | h
    · exact Or.inl h
    · exact Or.inr (by rw [e, h])
theorem tail_s {S : List Int} {a : Nat} {bad : Bool} {x : RX} {low high : Int} (h : (pk S a = 42 ∧ low = 0 ∧ high = -1) ∨ (pk S a = 43 ∧ low = 1 ∧ high = -1) ∨ (pk S a = 63 ∧ low = 0 ∧ high = 1)) : TailF S a bad x low high (a + 1) bad := by
  cases bad
  · refine ⟨rfl, ?_⟩
    unfold countedL
    rcases h with ⟨h, rfl, rfl⟩ | ⟨h, rfl, rfl⟩ | ⟨h, rfl, rfl⟩
    · rw [swB1 (by omega), decide_eq_true h, if_pos rfl, List.drop_drop]
    · rw [swB1 (by omega), swB1 (by omega), decide_eq_false (by omega), decide_eq_true h, if_neg (by simp), if_pos rfl, List.drop_drop]
    · rw [swB1 (by omega), swB1 (by omega), swB1 (by omega), decide_eq_false (by omega), decide_eq_false (by omega), decide_eq_true h, if_neg (by simp), if_neg (by simp), if_pos rfl, List.drop_drop]
  · exact Or.inl rfl
theorem tail_0 {S : List Int} {a : Nat} {x : RX} (h1 : pk S a ≠ 42) (h2 : pk S a ≠ 43) (h3 : pk S a ≠ 63) (h4 : pk S a ≠ 123) : countedL x (S.drop a) = some (x, S.drop a) := by
  unfold countedL
  rw [swB1 (by omega), swB1 (by omega), swB1 (by omega), swB1 (by omega), decide_eq_false h1, decide_eq_false h2, decide_eq_false h3, decide_eq_false h4]; rfl
theorem lazy_at {S : List Int} {aT : Nat} {x : RX} {low high : Int} : lazyX x low high (S.drop aT) = (.mk 5 [] low high (decide (pk S aT = 63)) [x], S.drop (tk S aT 63)) := by
  unfold lazyX tk
  rw [swB1 (by omega)]
  by_cases h : pk S aT = 63
  · rw [decide_eq_true h, if_pos rfl, if_pos h, List.drop_drop]
  · rw [decide_eq_false h, if_neg (by simp), if_neg h]
end Go.Proofs.YthbbkcdlcpbepaaGreatDoor
