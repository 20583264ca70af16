/-
  Which trees may be, said twice: as the program asks it, and as the document's answer does. No condition.
  How many states a tree has, and counting them up to a limit. No condition.
-/
import Derived.Test.YtcgohdfpmfpfiaaX2
namespace Go.Proofs.Ytcgohdfpmfpfiaa

/-- Is the range at a place as it may be behind the one ahead of it? -/
def rgAt (l : List (Int × Int)) (i : Nat) : Prop := (0 ≤ (ra l i).1 ∧ (ra l i).1 ≤ (ra l i).2 ∧ (ra l i).2 ≤ 1114111) ∧ (i = 0 ∨ (ra l (i - 1)).2 + 1 < (ra l i).1)
instance (l : List (Int × Int)) (i : Nat) : Decidable (rgAt l i) := by unfold rgAt; exact inferInstance
/-- The document's answer: are ranges a set? -/
def rgB (l : List (Int × Int)) : Bool := decide (∀ i, i < l.length → rgAt l i)
theorem rg_can : ∀ (l : List (Int × Int)), (∀ i, i < l.length → rgAt l i) ↔ Can l
  | [] => ⟨fun _ => Can.nil, fun _ i h => by simp at h⟩
  | [r] => by
    constructor
    · intro h
      exact Can.cons (h 0 (by simp)).1 Can.nil (fun x hx => by simp at hx)
    · intro h i hi
      obtain rfl : i = 0 := by simp at hi; omega
      cases h with
      | cons h _ _ => exact ⟨h, Or.inl rfl⟩
  | r :: s :: l => by
    have ih := rg_can (s :: l)
    have er : ∀ i, ra (r :: s :: l) (i + 1) = ra (s :: l) i := fun i => rfl
    constructor
    · intro h
      have h0 := (h 0 (by simp)).1
      have h1 := h 1 (by simp)
      have hc : Can (s :: l) := ih.1 (fun i hi => by
        have := h (i + 1) (by simp only [List.length_cons] at hi ⊢; omega)
        refine ⟨this.1, ?_⟩
        cases i with
        | zero => exact Or.inl rfl
        | succ i =>
          rcases this.2 with h | h
          · omega
          · exact Or.inr h)
      have hrs : r.2 + 1 < s.1 := by
        rcases h1.2 with h | h
        · omega
        · exact h
      refine Can.cons h0 hc (fun x hx => ?_)
      cases hc with
      | cons hs _ hn =>
        rcases List.mem_cons.1 hx with rfl | hx
        · exact hrs
        · have := hn x hx
          have := hs.2.1
          omega
    · intro h i hi
      cases h with
      | cons hr hc hn =>
        cases i with
        | zero => exact ⟨hr, Or.inl rfl⟩
        | succ i =>
          have := ih.2 hc i (by simpa using hi)
          refine ⟨this.1, Or.inr ?_⟩
          cases i with
          | zero => exact hn s (by simp)
          | succ i =>
            rcases this.2 with h | h
            · omega
            · exact h
theorem rg_set (l : List (Int × Int)) : rgB l = decide (mergeL l = l) := by
  unfold rgB
  rw [decide_eq_decide, rg_can]
  exact ⟨merge_set, fun h => h ▸ merge_can l⟩

/-- A node without a count. -/
def noCnt (lo hi : Int) (z : Bool) : Bool := decide (lo = 0) && decide (hi = 0) && !z
/-- A node's count. -/
def hasCnt (lo hi : Int) : Bool := decide (0 ≤ lo) && decide (lo ≤ 1000) && (decide (hi = -1) || (decide (lo ≤ hi) && decide (hi ≤ 1000)))
/-- The program's question: has a node what its kind has, and nothing else? n: how many parts. -/
def ownB (k : Int) (r : List (Int × Int)) (lo hi : Int) (z : Bool) (n : Nat) : Bool :=
  if k = 1 ∨ k = 6 ∨ k = 7 ∨ k = 8 ∨ k = 9 then decide (n = 0) && decide (r.length = 0) && noCnt lo hi z
  else if k = 2 then decide (n = 0) && decide (mergeL r = r) && noCnt lo hi z
  else if k = 3 ∨ k = 4 then decide (2 ≤ n) && decide (r.length = 0) && noCnt lo hi z
  else if k = 5 then decide (n = 1) && decide (r.length = 0) && hasCnt lo hi
  else false
def mayB : Nat → RX → Bool
  | 0, _ => false
  | d + 1, .mk k r lo hi z s => ownB k r lo hi z s.length && s.all (mayB d)
/-- The document's question. -/
def kindB (k : Int) (lo hi : Int) (n : Nat) : Bool :=
  if k = 3 ∨ k = 4 then !decide (n < 2)
  else if k = 5 then !(decide (n ≠ 1) || decide (lo < 0) || decide (lo > 1000) || decide (hi < -1) || decide (hi > 1000) || (decide (hi ≥ 0) && decide (hi < lo)))
  else if k = 2 ∨ k = 1 ∨ k = 6 ∨ k = 7 ∨ k = 8 ∨ k = 9 then !decide (n > 0)
  else false
def headB (k : Int) (r : List (Int × Int)) (lo hi : Int) (z : Bool) : Bool :=
  !((decide (k ≠ 2) && decide (r.length > 0)) || (decide (k ≠ 5) && (decide (lo ≠ 0) || decide (hi ≠ 0) || z)) || !rgB r)
def rightB : Nat → RX → Bool
  | 0, _ => false
  | d + 1, .mk k r lo hi z s => headB k r lo hi z && kindB k lo hi s.length && s.all (rightB d)
theorem own_right (k : Int) (r : List (Int × Int)) (lo hi : Int) (z : Bool) (n : Nat) : ownB k r lo hi z n = (headB k r lo hi z && kindB k lo hi n) := by
  have h0 : r.length = 0 → rgB r = true := fun h => by
    obtain rfl : r = [] := List.eq_nil_of_length_eq_zero h
    rw [rg_set]; rfl
  have hs := rg_set r
  have hm : decide (mergeL r = r) = rgB r := hs.symm
  unfold ownB headB kindB noCnt hasCnt
  rw [hm]
  clear hm hs
  by_cases c5 : k = 5
  · subst c5
    by_cases hr : r.length = 0
    · rw [h0 hr]
      rw [Bool.eq_iff_iff]
      simp [hr]
      omega
    · rw [Bool.eq_iff_iff]
      simp [hr]
  · by_cases c34 : k = 3 ∨ k = 4
    · have a1 : ¬ (k = 1 ∨ k = 6 ∨ k = 7 ∨ k = 8 ∨ k = 9) := by omega
      have a2 : ¬ k = 2 := by omega
      rw [if_neg a1, if_neg a2, if_pos c34, if_pos c34]
      by_cases hr : r.length = 0
      · rw [h0 hr, Bool.eq_iff_iff]
        cases z <;> by_cases hlo : lo = 0 <;> by_cases hhi : hi = 0 <;> simp [hr, a2, c5, hlo, hhi]
      · rw [Bool.eq_iff_iff]
        simp [hr, a2]
    · by_cases c2 : k = 2
      · subst c2
        rw [Bool.eq_iff_iff]
        cases rgB r <;> cases z <;> by_cases hlo : lo = 0 <;> by_cases hhi : hi = 0 <;> simp [hlo, hhi]
      · by_cases c1 : k = 1 ∨ k = 6 ∨ k = 7 ∨ k = 8 ∨ k = 9
        · rw [if_pos c1, if_neg c34, if_neg c5, if_pos (by omega)]
          by_cases hr : r.length = 0
          · rw [h0 hr, Bool.eq_iff_iff]
            cases z <;> by_cases hlo : lo = 0 <;> by_cases hhi : hi = 0 <;> simp [hr, c2, c5, hlo, hhi]
          · rw [Bool.eq_iff_iff]
            simp [hr, c2]
        · rw [if_neg c1, if_neg c2, if_neg c34, if_neg c5, if_neg c34, if_neg c5, if_neg (by omega)]
          simp
theorem may_right : ∀ (d : Nat) (x : RX), mayB d x = rightB d x
  | 0, _ => rfl
  | d + 1, .mk k r lo hi z s => by
    have e : (mayB d) = (rightB d) := funext (may_right d)
    simp only [mayB, rightB]
    rw [own_right, e]
end Go.Proofs.Ytcgohdfpmfpfiaa

namespace Go.Proofs.Ytcgohdfpmfpfiaa

mutual
/-- A tree's states, without the last one. -/
def szX : RX → Nat
  | .mk k _ lo hi _ s =>
    if k = 1 then 0
    else if k = 3 then szL s
    else if k = 4 then szL s + (s.length - 1) * 2
    else if k = 5 then (if hi = -1 then lo.toNat * szL s + (szL s + 2) else lo.toNat * szL s + (hi - lo).toNat * (szL s + 1))
    else 1
def szL : List RX → Nat
  | [] => 0
  | x :: l => szX x + szL l
end
theorem szL_append : ∀ (l m : List RX), szL (l ++ m) = szL l + szL m
  | [], m => by simp [szL]
  | x :: l, m => by simp only [List.cons_append, szL, szL_append l m]; omega
theorem szL_take (l : List RX) (i : Nat) (h : i < l.length) : szL (l.take (i + 1)) = szL (l.take i) + szX l[i] := by
  rw [List.take_add_one, List.getElem?_eq_getElem h, szL_append]
  simp [szL]
/-- What the counter's sum is. -/
theorem cap_plus (a b L : Nat) : min (min a L + min b L) L = min (a + b) L := by omega
theorem cap_times (n a L : Nat) : min (n * min a L) L = min (n * a) L := by
  by_cases h : a ≤ L
  · rw [Nat.min_eq_left h]
  · have hL : L ≤ a := by omega
    rw [Nat.min_eq_right hL]
    cases n with
    | zero => simp
    | succ n =>
      have h1 : L ≤ (n + 1) * L := by rw [Nat.succ_mul]; omega
      have h2 : (n + 1) * L ≤ (n + 1) * a := Nat.mul_le_mul_left _ hL
      omega
/-- The question of the counter's product. -/
theorem times_lt (n a L : Nat) (hn : 0 < n) : L / n < a ↔ L < n * a := by
  rw [Nat.div_lt_iff_lt_mul hn, Nat.mul_comm]
/-- Right trees: what the counting leans on. -/
theorem right_parts {d : Nat} {k : Int} {r : List (Int × Int)} {lo hi : Int} {z : Bool} {s : List RX} (h : rightB d (.mk k r lo hi z s) = true) :
    (∃ e, d = e + 1 ∧ ∀ x ∈ s, rightB e x = true) ∧ (k = 4 → 2 ≤ s.length) ∧ (k = 5 → s.length = 1 ∧ 0 ≤ lo ∧ lo ≤ 1000 ∧ (hi = -1 ∨ lo ≤ hi ∧ hi ≤ 1000)) := by
  cases d with
  | zero => simp [rightB] at h
  | succ d =>
    simp only [rightB, Bool.and_eq_true, List.all_eq_true] at h
    obtain ⟨⟨_, hk⟩, ha⟩ := h
    refine ⟨⟨d, rfl, ha⟩, fun e => ?_, fun e => ?_⟩
    · subst e
      simp [kindB] at hk
      omega
    · subst e
      simp [kindB] at hk
      omega
end Go.Proofs.Ytcgohdfpmfpfiaa
