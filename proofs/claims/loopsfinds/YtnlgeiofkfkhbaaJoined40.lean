/-
  The parts as eachPart puts them, as mathematics. No condition.
-/
import Derived.Test.YtnlgeiofkfkhbaaJoined37
import Derived.Test.YtnlgeiofkfkhbaaJoined39
namespace Go.Proofs.Ytnlgeiofkfkhbaa
open Lg

/-- What some items, backward, have given: who is in, the parts. -/
inductive Prun (T : Nat → List Nat) (m : Nat) : List Nat → List Nat → List (List Nat) → Prop
 | nil : Prun T m [] [] []
 | skip {l don : List Nat} {Ls : List (List Nat)} {r : Nat} : Prun T m l don Ls → top T false m r don = .ok (don ++ []) → Prun T m (l ++ [r]) don Ls
 | new {l don D : List Nat} {Ls : List (List Nat)} {r : Nat} : Prun T m l don Ls → D ≠ [] → top T false m r don = .ok (don ++ D) → Prun T m (l ++ [r]) (don ++ D) (Ls ++ [D])
/-- What the parts' numbers are set to. -/
inductive Pset (nums : List Nat) : List (List Nat) → (Nat → Nat) → Prop
 | nil : Pset nums [] (fun x => x)
 | snoc {Ls : List (List Nat)} {D : List Nat} {P : Nat → Nat} {q : Nat} : Pset nums Ls P → q ∈ D → (∀ y ∈ D, q ≤ y) → Pset nums (Ls ++ [D]) (fun x => if x ∈ D.map (fun p => nums.getD p 0) then nums.getD q 0 else P x)
theorem Pset.last {nums : List Nat} {Ls : List (List Nat)} {D : List Nat} {P : Nat → Nat} (h : Pset nums (Ls ++ [D]) P) : ∃ P0 q, Pset nums Ls P0 ∧ q ∈ D ∧ (∀ y ∈ D, q ≤ y) ∧ P = fun x => if x ∈ D.map (fun p => nums.getD p 0) then nums.getD q 0 else P0 x := by
 generalize hL : Ls ++ [D] = L at h
 cases h with
 | nil => simp at hL
 | snoc h1 h2 h3 =>
  obtain ⟨rfl, hD⟩ := List.append_inj' hL rfl
  injection hD with hD
  subst hD
  exact ⟨_, _, h1, h2, h3, rfl⟩
theorem Prun.says {R T : Nat → List Nat} {m : Nat} {fin nums : List Nat} (hn : nums.Nodup) (hm : m = nums.length) (hR : ∀ v, ∀ t ∈ R v, t < m) (hTl : ∀ v, ∀ t ∈ T v, t < m) (hT : ∀ a b, b ∈ T a ↔ a ∈ R b) (hf : Fin R m false fin) (hall : ∀ x, x < m → x ∈ fin) :
  ∀ {l don : List Nat} {Ls : List (List Nat)}, Prun T m l don Ls → ∀ A, fin = A ++ l.reverse → ∀ P, Pset nums Ls P → Peel R T m A don ∧ PtOK R nums don P := by
 intro l don Ls h
 induction h with
 | nil =>
  intro A hA P hP
  simp at hA
  subst hA
  generalize hL : ([] : List (List Nat)) = L at hP
  cases hP with
  | nil => exact ⟨Peel.start hall, PtOK.start R nums⟩
  | snoc _ _ _ => simp at hL
 | @skip l don Ls r hp ht ih =>
  intro A hA P hP
  rw [List.reverse_append] at hA
  obtain ⟨h1, h2⟩ := ih (A ++ [r]) (by rw [hA]; simp) P hP
  refine ⟨h1.skip ?_, h2⟩
  obtain ⟨D, e1, _, e3⟩ := top_says hTl (Nat.le_refl m) h1.fin (hf.flt r (by rw [hA]; simp))
  rw [ht] at e1
  injection e1 with e1
  rw [List.append_nil] at e1
  rw [← e1] at e3
  exact e3
 | @new l don D Ls r hp hD ht ih =>
  intro A hA P hP
  rw [List.reverse_append] at hA
  obtain ⟨P0, q, q1, q2, q3, rfl⟩ := hP.last
  obtain ⟨h1, h2⟩ := ih (A ++ [r]) (by rw [hA]; simp) P0 q1
  have hrm : r < m := hf.flt r (by rw [hA]; simp)
  have hr : r ∉ don := fun h => hD (top_in h ht)
  have hpo := top_post hTl (Nat.le_refl m) h1.fin hrm hr ht
  obtain ⟨g1, g2⟩ := part_scc hR hT hf (B := l.reverse) (by rw [hA]; simp) h1 hr hpo
  exact ⟨g2, h2.step hn g1 (fun x hx => hm ▸ g2.fin.flt x (by simp [hx])) q2 q3⟩
/-- When all items are over, it is the document's parts. -/
theorem Prun.done {R T : Nat → List Nat} {m : Nat} {fin nums don : List Nat} {Ls : List (List Nat)} {P : Nat → Nat} (hn : nums.Nodup) (hm : m = nums.length) (hR : ∀ v, ∀ t ∈ R v, t < m) (hTl : ∀ v, ∀ t ∈ T v, t < m) (hT : ∀ a b, b ∈ T a ↔ a ∈ R b) (hf : Fin R m false fin) (hall : ∀ x, x < m → x ∈ fin) (h : Prun T m fin.reverse don Ls) (hP : Pset nums Ls P) : PtOK R nums don P ∧ ∀ p, p < nums.length → p ∈ don := by
 obtain ⟨h1, h2⟩ := Prun.says hn hm hR hTl hT hf hall h [] (by simp) P hP
 exact ⟨h2, fun p hp => h1.rest p (by omega) (by simp)⟩
end Go.Proofs.Ytnlgeiofkfkhbaa
