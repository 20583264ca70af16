/-
  Edges of numbers and of their places in a rising list: the same ways, cycles and ranks; raised till nothing rises, just then there is no cycle. No condition.
-/
import Derived.Test.YtnlgeiofkfkhbaaJoined8
namespace Go.Proofs.Ytnlgeiofkfkhbaa.Lg
/-- The counting edges' numbers. -/
def Cy (es : List (Nat × Nat)) : Prop := ∃ v y, y ∈ rowOf es v ∧ Rch (rowOf es) y v
/-- Raised till nothing rises there is no cycle, and else there is one. -/
theorem raised_iff {es : List (Nat × Nat)} {m : Nat} (h : Cy es ∨ ∃ M, Rank (rowOf es) M) (hE : ∀ e ∈ es, e.1 < m ∧ e.2 < m) : (raised es (m + 1) (fun _ => 0) = none ↔ Cy es) := by
 constructor
 ·intro h1
  rcases h with h | ⟨M, hM⟩
  ·exact h
  ·rw [raised_topo hE hM] at h1; cases h1
 ·rintro ⟨v, y, hy, hr⟩
  exact raised_none hy hr
/-- The net: the numbers that have edges, or all, rising; its edges by their places. -/
structure Net (es : List (Nat × Nat)) (nums : List Nat) : Prop where
 nd : nums.Nodup
 all : ∀ e ∈ es, e.1 ∈ nums ∧ e.2 ∈ nums
def pl (nums : List Nat) (es : List (Nat × Nat)) : List (Nat × Nat) := es.map fun e => (nums.idxOf e.1, nums.idxOf e.2)
theorem pl_lt {nums : List Nat} {es : List (Nat × Nat)} (h : Net es nums) : ∀ e ∈ pl nums es, e.1 < nums.length ∧ e.2 < nums.length := by
 intro e he
 unfold pl at he
 obtain ⟨d, hd, rfl⟩ := List.mem_map.1 he
 exact ⟨List.idxOf_lt_length_of_mem (h.all d hd).1, List.idxOf_lt_length_of_mem (h.all d hd).2⟩
theorem idx_inj {nums : List Nat} {a b : Nat} (ha : a ∈ nums) (hb : b ∈ nums) (h : nums.idxOf a = nums.idxOf b) : a = b := by
 have h1 := List.getElem_idxOf (List.idxOf_lt_length_of_mem ha)
 have h2 := List.getElem_idxOf (List.idxOf_lt_length_of_mem hb)
 rw [← h1, ← h2]
 congr 1
theorem pl_row {nums : List Nat} {es : List (Nat × Nat)} (h : Net es nums) {a y : Nat} (ha : a ∈ nums) : y ∈ rowOf (pl nums es) (nums.idxOf a) ↔ ∃ b ∈ nums, b ∈ rowOf es a ∧ nums.idxOf b = y := by
 rw [mem_rowOf]
 unfold pl
 rw [List.mem_map]
 constructor
 ·rintro ⟨⟨c, d⟩, hd, e⟩
  injection e with e1 e2
  simp only at e1 e2
  obtain rfl := idx_inj (h.all _ hd).1 ha e1
  exact ⟨d, (h.all _ hd).2, mem_rowOf.2 hd, e2⟩
 ·rintro ⟨b, hb, hm, rfl⟩
  exact ⟨(a, b), mem_rowOf.1 hm, rfl⟩
theorem pl_reach {nums : List Nat} {es : List (Nat × Nat)} (h : Net es nums) {a b : Nat} (hr : Rch (rowOf es) a b) : a ∈ nums → b ∈ nums ∧ Rch (rowOf (pl nums es)) (nums.idxOf a) (nums.idxOf b) := by
 induction hr with
 | refl => exact fun ha => ⟨ha, .refl _⟩
 | step hb _ ih =>
  intro ha
  have hbm := (h.all _ (mem_rowOf.1 hb)).2
  obtain ⟨h1, h2⟩ := ih hbm
  exact ⟨h1, .step ((pl_row h ha).2 ⟨_, hbm, hb, rfl⟩) h2⟩
theorem pl_back {nums : List Nat} {es : List (Nat × Nat)} (h : Net es nums) {p q : Nat} (hr : Rch (rowOf (pl nums es)) p q) : ∀ a ∈ nums, nums.idxOf a = p → ∃ b ∈ nums, nums.idxOf b = q ∧ Rch (rowOf es) a b := by
 induction hr with
 | refl => exact fun a ha e => ⟨a, ha, e, .refl _⟩
 | step hb _ ih =>
  intro a ha e
  subst e
  obtain ⟨b, hbm, hbr, rfl⟩ := (pl_row h ha).1 hb
  obtain ⟨c, hc, e2, h2⟩ := ih b hbm rfl
  exact ⟨c, hc, e2, .step hbr h2⟩
theorem pl_cy {nums : List Nat} {es : List (Nat × Nat)} (h : Net es nums) : Cy (pl nums es) ↔ Cy es := by
 constructor
 ·rintro ⟨v, y, hy, hr⟩
  have hlt := (pl_lt h (v, y) (mem_rowOf.1 hy)).1
  have hv : nums.idxOf nums[v] = v := by
   have h1 : nums[v] ∈ nums := List.getElem_mem hlt
   have h2 := List.getElem_idxOf (List.idxOf_lt_length_of_mem h1)
   exact (List.getElem_inj h.nd).1 h2
  rw [← hv] at hy
  obtain ⟨b, hb, hbr, rfl⟩ := (pl_row h (List.getElem_mem hlt)).1 hy
  obtain ⟨c, hc, e, h2⟩ := pl_back h hr b hb rfl
  rw [← hv] at e
  obtain rfl := idx_inj hc (List.getElem_mem hlt) e
  exact ⟨_, b, hbr, h2⟩
 ·rintro ⟨v, y, hy, hr⟩
  have ha := h.all _ (mem_rowOf.1 hy)
  exact ⟨_, _, (pl_row h ha.1).2 ⟨y, ha.2, hy, rfl⟩, (pl_reach h hr ha.2).2⟩
/-- Ranks of places are ranks of numbers. -/
theorem pl_rank {nums : List Nat} {es : List (Nat × Nat)} (h : Net es nums) {L : Nat → Nat} (hL : ∀ p, p < nums.length → (∀ y ∈ rowOf (pl nums es) p, L y < L p) ∧ (L p = 0 ∨ ∃ y ∈ rowOf (pl nums es) p, L p = L y + 1)) : Rank (rowOf es) (fun a => if a ∈ nums then L (nums.idxOf a) else 0) := by
 refine ⟨fun v y hy => ?_, fun v => ?_⟩
 ·have ha := h.all _ (mem_rowOf.1 hy)
  simp only [if_pos ha.1, if_pos ha.2]
  exact (hL _ (List.idxOf_lt_length_of_mem ha.1)).1 _ ((pl_row h ha.1).2 ⟨y, ha.2, hy, rfl⟩)
 ·by_cases hv : v ∈ nums
  ·simp only [if_pos hv]
   rcases (hL _ (List.idxOf_lt_length_of_mem hv)).2 with e | ⟨y, hy, e⟩
   ·exact .inl e
   ·obtain ⟨b, hb, hbr, rfl⟩ := (pl_row h hv).1 hy
    exact .inr ⟨b, hbr, by simp only [if_pos hb]; exact e⟩
  ·exact .inl (by simp only [if_neg hv])
end Go.Proofs.Ytnlgeiofkfkhbaa.Lg
