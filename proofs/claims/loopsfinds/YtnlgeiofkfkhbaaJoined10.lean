/-
  Parts: one least number each; a cycle, if two numbers have one part or one an edge to itself; turned round nothing of it changes; parts of places are parts of numbers. No condition.
-/
import Derived.Test.YtnlgeiofkfkhbaaJoined9
namespace Go.Proofs.Ytnlgeiofkfkhbaa.Lg
/-- Each leads to the other one. -/
def Mut (R : Nat → List Nat) (a b : Nat) : Prop := Rch R a b ∧ Rch R b a
theorem Mut.refl (R : Nat → List Nat) (a : Nat) : Mut R a a := ⟨.refl a, .refl a⟩
theorem Mut.symm {R : Nat → List Nat} {a b : Nat} (h : Mut R a b) : Mut R b a := ⟨h.2, h.1⟩
theorem Mut.trans {R : Nat → List Nat} {a b c : Nat} (h : Mut R a b) (k : Mut R b c) : Mut R a c := ⟨h.1.trans k.1, k.2.trans h.2⟩
/-- The least of a part. -/
def IsPart (R : Nat → List Nat) (P : Nat → Nat) : Prop := ∀ v, Mut R (P v) v ∧ ∀ k, Mut R k v → P v ≤ k
theorem IsPart.eq {R : Nat → List Nat} {P Q : Nat → Nat} (h : IsPart R P) (k : IsPart R Q) : P = Q := funext fun v => Nat.le_antisymm ((h v).2 _ (k v).1) ((k v).2 _ (h v).1)
theorem IsPart.le {R : Nat → List Nat} {P : Nat → Nat} (h : IsPart R P) (v : Nat) : P v ≤ v := (h v).2 v (Mut.refl R v)
theorem IsPart.idem {R : Nat → List Nat} {P : Nat → Nat} (h : IsPart R P) (v : Nat) : P (P v) = P v :=
 Nat.le_antisymm (h.le _) ((h v).2 _ ((h (P v)).1.trans (h v).1))
/-- A cycle, if two numbers have one part, or one an edge to itself. -/
theorem IsPart.two {es : List (Nat × Nat)} {P : Nat → Nat} (h : IsPart (rowOf es) P) : Cy es ↔ (∃ v, P v ≠ v) ∨ ∃ v, (v, v) ∈ es := by
 constructor
 ·rintro ⟨v, y, hy, hr⟩
  by_cases e : y = v
  ·subst e; exact .inr ⟨y, mem_rowOf.1 hy⟩
  ·have hm : Mut (rowOf es) v y := ⟨.one hy, hr⟩
   rcases Nat.lt_or_gt_of_ne e with k | k
   ·exact .inl ⟨v, by have := (h v).2 y hm.symm; omega⟩
   ·exact .inl ⟨y, by have := (h y).2 v hm; omega⟩
 ·rintro (⟨v, hv⟩ | ⟨v, hv⟩)
  ·obtain ⟨h1, h2⟩ := (h v).1
   generalize hp : P v = p at *
   cases h2 with
   | refl => exact absurd rfl hv
   | step hb t => exact ⟨v, _, hb, t.trans h1⟩
  ·exact ⟨v, v, mem_rowOf.2 hv, .refl v⟩
/-- Turned round nothing of it changes. -/
theorem turn_cy {es et : List (Nat × Nat)} (h : ∀ a b, (a, b) ∈ et ↔ (b, a) ∈ es) : Cy et ↔ Cy es := by
 have key : ∀ {es et : List (Nat × Nat)}, (∀ a b, (a, b) ∈ et ↔ (b, a) ∈ es) → Cy et → Cy es := by
  intro es et h
  rintro ⟨v, y, hy, hr⟩
  have hT : ∀ a b, b ∈ rowOf et a ↔ a ∈ rowOf es b := fun a b => by rw [mem_rowOf, mem_rowOf]; exact h a b
  exact ⟨y, v, (hT v y).1 hy, turn_reach hT hr⟩
 exact ⟨key h, key (fun a b => (h b a).symm)⟩
theorem turn_part {es et : List (Nat × Nat)} (h : ∀ a b, (a, b) ∈ et ↔ (b, a) ∈ es) {P : Nat → Nat} (hP : IsPart (rowOf es) P) : IsPart (rowOf et) P := by
 have hT : ∀ a b, b ∈ rowOf et a ↔ a ∈ rowOf es b := fun a b => by rw [mem_rowOf, mem_rowOf]; exact h a b
 have hT' : ∀ a b, b ∈ rowOf es a ↔ a ∈ rowOf et b := fun a b => (hT b a).symm
 exact fun v => ⟨⟨turn_reach hT' (hP v).1.2, turn_reach hT' (hP v).1.1⟩, fun k hk => (hP v).2 k ⟨turn_reach hT hk.2, turn_reach hT hk.1⟩⟩
/-- Numbers that rise. -/
def Rise (l : List Nat) : Prop := ∀ i j (hi : i < l.length) (hj : j < l.length), i < j → l[i] < l[j]
theorem Rise.le {l : List Nat} (h : Rise l) {i j : Nat} (hi : i < l.length) (hj : j < l.length) (k : i ≤ j) : l[i] ≤ l[j] := by
 rcases Nat.lt_or_eq_of_le k with e | e
 ·exact Nat.le_of_lt (h i j hi hj e)
 ·subst e; exact Nat.le_refl _
theorem idx_self {nums : List Nat} (hn : nums.Nodup) {p : Nat} (hp : p < nums.length) : nums.idxOf nums[p] = p :=
 (List.getElem_inj hn).1 (List.getElem_idxOf (List.idxOf_lt_length_of_mem (List.getElem_mem hp)))
/-- Parts of places are parts of numbers. -/
theorem pl_part {nums : List Nat} {es : List (Nat × Nat)} (h : Net es nums) (hr : Rise nums) {q : Nat → Nat} (hq : ∀ p, p < nums.length → q p < nums.length ∧ Mut (rowOf (pl nums es)) (q p) p ∧ ∀ k, k < nums.length → Mut (rowOf (pl nums es)) k p → q p ≤ k) :
  IsPart (rowOf es) (fun a => if a ∈ nums then nums.getD (q (nums.idxOf a)) 0 else a) := by
 intro v
 by_cases hv : v ∈ nums
 ·have hlt := List.idxOf_lt_length_of_mem hv
  obtain ⟨h1, h2, h3⟩ := hq _ hlt
  have e : nums.getD (q (nums.idxOf v)) 0 = nums[q (nums.idxOf v)] := by rw [List.getD_eq_getElem?_getD, List.getElem?_eq_getElem h1]; rfl
  simp only [if_pos hv, e]
  have hm : nums[q (nums.idxOf v)] ∈ nums := List.getElem_mem h1
  have hback : ∀ a b, a ∈ nums → b ∈ nums → Rch (rowOf (pl nums es)) (nums.idxOf a) (nums.idxOf b) → Rch (rowOf es) a b := fun a b ha hb k => by
   obtain ⟨c, hc, e, k2⟩ := pl_back h k a ha rfl
   obtain rfl := idx_inj hc hb e
   exact k2
  have hs := idx_self h.nd h1
  refine ⟨⟨hback _ _ hm hv (by rw [hs]; exact h2.1), hback _ _ hv hm (by rw [hs]; exact h2.2)⟩, fun k hk => ?_⟩
  have hkm : k ∈ nums := (pl_reach h hk.2 hv).1
  have hkl := List.idxOf_lt_length_of_mem hkm
  have hle := h3 _ hkl ⟨(pl_reach h hk.1 hkm).2, (pl_reach h hk.2 hv).2⟩
  have := hr.le h1 hkl hle
  rw [List.getElem_idxOf hkl] at this
  exact this
 ·simp only [if_neg hv]
  refine ⟨Mut.refl _ _, fun k hk => ?_⟩
  cases hk.2 with
  | refl => exact Nat.le_refl _
  | step hb _ => exact absurd (h.all _ (mem_rowOf.1 hb)).1 hv
end Go.Proofs.Ytnlgeiofkfkhbaa.Lg
