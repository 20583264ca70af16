/-
  Parts, as they are put place by place: which numbers have which part. No condition.
-/
import Derived.Test.YtnlgeiofkfkhbaaJoined10
namespace Go.Proofs.Ytnlgeiofkfkhbaa.Lg
/-- So far: what is in no part that has come has its own number; all else the least of its part. -/
def PtOK (R : Nat → List Nat) (nums don : List Nat) (P : Nat → Nat) : Prop :=
 (∀ x, (∀ p, p < nums.length → nums.getD p 0 = x → p ∉ don) → P x = x) ∧
 (∀ p, p < nums.length → p ∈ don → ∃ q, q < nums.length ∧ Mut R q p ∧ (∀ k, k < nums.length → Mut R k p → q ≤ k) ∧ P (nums.getD p 0) = nums.getD q 0)
theorem PtOK.start (R : Nat → List Nat) (nums : List Nat) : PtOK R nums [] (fun x => x) := ⟨fun _ _ => rfl, fun p _ h => by simp at h⟩
theorem getD_inj {nums : List Nat} (hn : nums.Nodup) {p q : Nat} (hp : p < nums.length) (hq : q < nums.length) (h : nums.getD p 0 = nums.getD q 0) : p = q := by
 rw [List.getD_eq_getElem?_getD, List.getD_eq_getElem?_getD, List.getElem?_eq_getElem hp, List.getElem?_eq_getElem hq] at h
 exact (List.getElem_inj hn).1 h
/-- A part more. -/
theorem PtOK.step {R : Nat → List Nat} {nums don D : List Nat} {P : Nat → Nat} {r q : Nat} (hn : nums.Nodup) (h : PtOK R nums don P) (hD : ∀ x, x ∈ D ↔ Rch R x r ∧ Rch R r x) (hl : ∀ x ∈ D, x < nums.length) (hq : q ∈ D) (hm : ∀ y ∈ D, q ≤ y) :
  PtOK R nums (don ++ D) (fun x => if x ∈ D.map (fun p => nums.getD p 0) then nums.getD q 0 else P x) := by
 have key : ∀ p, p < nums.length → nums.getD p 0 ∈ D.map (fun p => nums.getD p 0) → p ∈ D := by
  intro p hp hx
  obtain ⟨p', hp', e⟩ := List.mem_map.1 hx
  have := getD_inj hn (hl p' hp') hp e
  exact this ▸ hp'
 refine ⟨fun x hx => ?_, fun p hp hpd => ?_⟩
 ·have hxn : x ∉ D.map (fun p => nums.getD p 0) := by
   intro k
   obtain ⟨p, hp, e⟩ := List.mem_map.1 k
   exact hx p (hl p hp) e (List.mem_append_right _ hp)
  simp only [if_neg hxn]
  exact h.1 x fun p hp e hpd => hx p hp e (List.mem_append_left _ hpd)
 ·by_cases k : p ∈ D
  ·have hx : nums.getD p 0 ∈ D.map (fun p => nums.getD p 0) := List.mem_map.2 ⟨p, k, rfl⟩
   have hp1 := (hD p).1 k
   have hq1 := (hD q).1 hq
   refine ⟨q, hl q hq, ⟨hq1.1.trans hp1.2, hp1.1.trans hq1.2⟩, fun y hy hmut => hm y ((hD y).2 ⟨hmut.1.trans hp1.1, hp1.2.trans hmut.2⟩), ?_⟩
   simp only [if_pos hx]
  ·have hx : nums.getD p 0 ∉ D.map (fun p => nums.getD p 0) := fun hx => k (key p hp hx)
   have hpd' : p ∈ don := by
    rcases List.mem_append.1 hpd with h | h
    ·exact h
    ·exact absurd h k
   obtain ⟨q', h1, h2, h3, h4⟩ := h.2 p hp hpd'
   exact ⟨q', h1, h2, h3, by simp only [if_neg hx]; exact h4⟩
/-- When all have come. -/
theorem PtOK.done {es : List (Nat × Nat)} {nums don : List Nat} {P : Nat → Nat} (hN : Net es nums) (hr : Rise nums) (h : PtOK (rowOf (pl nums es)) nums don P) (hall : ∀ p, p < nums.length → p ∈ don) : IsPart (rowOf es) P := by
 have hch : ∀ p, ∃ q, p < nums.length → q < nums.length ∧ Mut (rowOf (pl nums es)) q p ∧ (∀ k, k < nums.length → Mut (rowOf (pl nums es)) k p → q ≤ k) ∧ P (nums.getD p 0) = nums.getD q 0 := by
  intro p
  by_cases hp : p < nums.length
  ·obtain ⟨q, h1⟩ := h.2 p hp (hall p hp)
   exact ⟨q, fun _ => h1⟩
  ·exact ⟨0, fun h => absurd h hp⟩
 obtain ⟨q, hq⟩ := Classical.axiomOfChoice hch
 have hip := pl_part hN hr (q := q) (fun p hp => ⟨(hq p hp).1, (hq p hp).2.1, (hq p hp).2.2.1⟩)
 have e : P = fun a => if a ∈ nums then nums.getD (q (nums.idxOf a)) 0 else a := by
  funext a
  by_cases ha : a ∈ nums
  ·have hp := List.idxOf_lt_length_of_mem ha
   have := (hq _ hp).2.2.2
   have e2 : nums.getD (nums.idxOf a) 0 = a := by rw [List.getD_eq_getElem?_getD, List.getElem?_eq_getElem hp]; exact List.getElem_idxOf hp
   rw [e2] at this
   simp only [if_pos ha]
   exact this
  ·simp only [if_neg ha]
   refine h.1 a fun p hp e => absurd ?_ ha
   rw [← e, List.getD_eq_getElem?_getD, List.getElem?_eq_getElem hp]
   exact List.getElem_mem hp
 rw [e]
 exact hip
end Go.Proofs.Ytnlgeiofkfkhbaa.Lg
