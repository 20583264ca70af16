/-
  How many states a tree has, and counting them up to a limit. No condition.
-/
import Derived.Test.YtcgohdfpmfpfiaaXQ1
namespace Go.Proofs.Ytcgohdfpmfpfiaa

mutual
/-- A tree's states, without the last one. -/
def szX : RX → Nat
  | .mk k _ lo hi _ s =>
    if k = 1 then 0
    else if k = 3 then szL s
    else if k = 4 then szL s + (s.length - 1) * 2
    else if k = 5 then (if hi = -1 then lo.toNat * szL s + (szL s + 2) else lo.toNat * szL s + (hi - lo).toNat * (szL s + 1))
    else 1
def szL : List RX → Nat
  | [] => 0
  | x :: l => szX x + szL l
end
theorem szL_append : ∀ (l m : List RX), szL (l ++ m) = szL l + szL m
  | [], m => by simp [szL]
  | x :: l, m => by simp only [List.cons_append, szL, szL_append l m]; omega
theorem szL_take (l : List RX) (i : Nat) (h : i < l.length) : szL (l.take (i + 1)) = szL (l.take i) + szX l[i] := by
  rw [List.take_add_one, List.getElem?_eq_getElem h, szL_append]
  simp [szL]
/-- What the counter's sum is. -/
theorem cap_plus (a b L : Nat) : min (min a L + min b L) L = min (a + b) L := by omega
theorem cap_times (n a L : Nat) : min (n * min a L) L = min (n * a) L := by
  by_cases h : a ≤ L
  · rw [Nat.min_eq_left h]
  · have hL : L ≤ a := by omega
    rw [Nat.min_eq_right hL]
    cases n with
    | zero => simp
    | succ n =>
      have h1 : L ≤ (n + 1) * L := by rw [Nat.succ_mul]; omega
      have h2 : (n + 1) * L ≤ (n + 1) * a := Nat.mul_le_mul_left _ hL
      omega
/-- The question of the counter's product. -/
theorem times_lt (n a L : Nat) (hn : 0 < n) : L / n < a ↔ L < n * a := by
  rw [Nat.div_lt_iff_lt_mul hn, Nat.mul_comm]
/-- Right trees: what the counting leans on. -/
theorem right_parts {d : Nat} {k : Int} {r : List (Int × Int)} {lo hi : Int} {z : Bool} {s : List RX} (h : rightB d (.mk k r lo hi z s) = true) :
    (∃ e, d = e + 1 ∧ ∀ x ∈ s, rightB e x = true) ∧ (k = 4 → 2 ≤ s.length) ∧ (k = 5 → s.length = 1 ∧ 0 ≤ lo ∧ lo ≤ 1000 ∧ (hi = -1 ∨ lo ≤ hi ∧ hi ≤ 1000)) := by
  cases d with
  | zero => simp [rightB] at h
  | succ d =>
    simp only [rightB, Bool.and_eq_true, List.all_eq_true] at h
    obtain ⟨⟨_, hk⟩, ha⟩ := h
    refine ⟨⟨d, rfl, ha⟩, fun e => ?_, fun e => ?_⟩
    · subst e
      simp [kindB] at hk
      omega
    · subst e
      simp [kindB] at hk
      omega
end Go.Proofs.Ytcgohdfpmfpfiaa
