/-
  The document's ranks as they lie in memory: the counting edges as pairs, what a round does edge by edge. No condition.
-/
import Derived.Test.YtnlgeiofkfkhbaaJoined5
import Derived.Test.YtnlgeiofkfkhbaaJoined10
namespace Go.Proofs.Ytnlgeiofkfkhbaa
open Go.RowKit Go.Maps Lg
attribute [local go_sem] setCell_drewN alloc_drewN

/-- The counting edges. -/
def prs (n : Int) (E : List Ed) : List (Nat × Nat) := (E.filter (cnt n)).map fun e => (e.f.toNat, e.t.toNat)
theorem prs_snoc {n : Int} {E : List Ed} {i : Nat} (h : i < E.length) : prs n (E.take (i + 1)) = prs n (E.take i) ++ (if cnt n E[i] = true then [(E[i].f.toNat, E[i].t.toNat)] else []) := by
 unfold prs
 rw [List.take_succ_eq_append_getElem h, List.filter_append, List.map_append]
 congr 1
 by_cases k : cnt n E[i] = true
 ·rw [if_pos k]; simp [k]
 ·rw [if_neg k]; simp [k]
theorem cnt_in {n : Int} {e : Ed} (h : cnt n e = true) : (0 ≤ e.f ∧ e.f < n) ∧ 0 ≤ e.t ∧ e.t < n := by
 unfold cnt at h
 simp only [Bool.and_eq_true, decide_eq_true_eq] at h
 exact ⟨h.1.2, h.2⟩
theorem prs_lt {n : Int} {E : List Ed} : ∀ e ∈ prs n E, e.1 < n.toNat ∧ e.2 < n.toNat := by
 intro e he
 unfold prs at he
 obtain ⟨d, hd, rfl⟩ := List.mem_map.1 he
 have := cnt_in (List.mem_filter.1 hd).2
 exact ⟨by show d.f.toNat < _; omega, by show d.t.toNat < _; omega⟩
theorem prs_len (n : Int) (E : List Ed) : (prs n E).length ≤ E.length := by
 unfold prs
 rw [List.length_map]
 exact List.length_filter_le _ _
theorem relax_snoc : ∀ (es : List (Nat × Nat)) (L : Nat → Nat) (e : Nat × Nat), relax L (es ++ [e]) = (if relax L es e.1 < relax L es e.2 + 1 then upd1 (relax L es) e.1 (relax L es e.2 + 1) else relax L es)
 | [], _, _ => rfl
 | _ :: es, _, e => relax_snoc es _ e
theorem relax_up {B : Nat} : ∀ (es : List (Nat × Nat)) (L : Nat → Nat), (∀ x, L x ≤ B) → ∀ x, relax L es x ≤ B + es.length
 | [], _, h, x => h x
 | e :: es, L, h, x => by
  unfold relax
  have := relax_up (B := B + 1) es (if L e.1 < L e.2 + 1 then upd1 L e.1 (L e.2 + 1) else L) (fun x => by
   split
   ·unfold upd1
    split
    ·have := h e.2; omega
    ·have := h x; omega
   ·have := h x; omega) x
  rw [List.length_cons]
  omega
theorem still_snoc {L : Nat → Nat} {es : List (Nat × Nat)} {e : Nat × Nat} : still L (es ++ [e]) ↔ still L es ∧ L e.2 < L e.1 := by
 unfold still
 constructor
 ·exact fun h => ⟨fun x hx => h x (by simp [hx]), h e (by simp)⟩
 ·rintro ⟨h1, h2⟩ x hx
  rcases List.mem_append.1 hx with hx | hx
  ·exact h1 x hx
  ·have : x = e := by simpa using hx
   subst this; exact h2
/-- A row of ranks. -/
def outL (L : Nat → Nat) (N : Nat) : List Int := (List.range N).map fun (k : Nat) => (L k : Int)
theorem outL_len (L : Nat → Nat) (N : Nat) : (outL L N).length = N := by simp [outL]
theorem outL_at (L : Nat → Nat) {N k : Nat} (h : k < N) : ia (outL L N) k = (L k : Int) := by
 unfold ia outL
 rw [List.getD_eq_getElem?_getD, List.getElem?_eq_getElem (by simpa using h)]
 simp
theorem outL_0 (N : Nat) : outL (fun _ => 0) N = List.replicate N 0 := by
 apply List.ext_getElem (by simp [outL])
 intro i h1 h2
 simp [outL]
theorem outL_set (L : Nat → Nat) {N k : Nat} (r : Nat) : (outL L N).set k (r : Int) = outL (upd1 L k r) N := by
 apply List.ext_getElem (by simp [outL])
 intro j h1 h2
 rw [List.getElem_set]
 simp only [outL, List.getElem_map, List.getElem_range, upd1]
 by_cases e : k = j
 ·subst e; simp
 ·rw [if_neg e, if_neg (fun h => e h.symm)]
/-- Within a round, behind i edges. -/
structure Rn (n : Int) (E : List Ed) (L : Nat → Nat) (B i : Nat) (M : Nat → Nat) (s : Bool) : Prop where
 m : M = relax L (prs n (E.take i))
 st : s = decide (still L (prs n (E.take i)))
 b : ∀ x, M x ≤ B + i
theorem Rn.start {n : Int} {E : List Ed} {L : Nat → Nat} {B : Nat} (h : ∀ x, L x ≤ B) : Rn n E L B 0 L true := ⟨rfl, by simp [prs, still], fun x => h x⟩
theorem Rn.no {n : Int} {E : List Ed} {L M : Nat → Nat} {B i : Nat} {s : Bool} (h : Rn n E L B i M s) (hi : i < E.length) (hc : cnt n E[i] = false) : Rn n E L B (i + 1) M s := by
 have e : prs n (E.take (i + 1)) = prs n (E.take i) := by rw [prs_snoc hi, hc]; simp
 exact ⟨by rw [e]; exact h.m, by rw [e]; exact h.st, fun x => Nat.le_succ_of_le (h.b x)⟩
theorem Rn.keep {n : Int} {E : List Ed} {L M : Nat → Nat} {B i : Nat} {s : Bool} (h : Rn n E L B i M s) (hi : i < E.length) (hc : cnt n E[i] = true) (hk : ¬ M E[i].f.toNat < M E[i].t.toNat + 1) : Rn n E L B (i + 1) M s := by
 have e : prs n (E.take (i + 1)) = prs n (E.take i) ++ [(E[i].f.toNat, E[i].t.toNat)] := by rw [prs_snoc hi, if_pos hc]
 refine ⟨?_, ?_, fun x => Nat.le_succ_of_le (h.b x)⟩
 ·rw [e, relax_snoc, ← h.m, if_neg hk]
 ·rw [e, h.st]
  by_cases hs : still L (prs n (E.take i))
  ·have hm := h.m
   rw [relax_still hs] at hm
   subst hm
   rw [decide_eq_true hs, decide_eq_true (still_snoc.2 ⟨hs, by show M E[i].t.toNat < M E[i].f.toNat; omega⟩)]
  ·rw [decide_eq_false hs, decide_eq_false (fun k => hs (still_snoc.1 k).1)]
theorem Rn.set {n : Int} {E : List Ed} {L M : Nat → Nat} {B i : Nat} {s : Bool} (h : Rn n E L B i M s) (hi : i < E.length) (hc : cnt n E[i] = true) (hk : M E[i].f.toNat < M E[i].t.toNat + 1) : Rn n E L B (i + 1) (upd1 M E[i].f.toNat (M E[i].t.toNat + 1)) false := by
 have e : prs n (E.take (i + 1)) = prs n (E.take i) ++ [(E[i].f.toNat, E[i].t.toNat)] := by rw [prs_snoc hi, if_pos hc]
 refine ⟨?_, ?_, fun x => ?_⟩
 ·rw [e, relax_snoc, ← h.m, if_pos hk]
 ·rw [e]
  refine (decide_eq_false fun k => ?_).symm
  obtain ⟨k1, k2⟩ := still_snoc.1 k
  have hm := h.m
  rw [relax_still k1] at hm
  subst hm
  have k2 : M E[i].t.toNat < M E[i].f.toNat := k2
  omega
 ·unfold upd1
  split
  ·have := h.b E[i].t.toNat; omega
  ·have := h.b x; omega
/-- At a round's end. -/
theorem Rn.yes {n : Int} {E : List Ed} {L M : Nat → Nat} {B i k : Nat} (h : Rn n E L B i M true) (hi : E.length ≤ i) : M = L ∧ Lg.raised (prs n E) (k + 1) L = some L := by
 have e : E.take i = E := List.take_of_length_le hi
 have hs := h.st
 rw [e] at hs
 have hst : still L (prs n E) := by simpa using hs.symm
 refine ⟨by rw [h.m, e, relax_still hst], ?_⟩
 unfold Lg.raised
 rw [if_pos hst]
theorem Rn.more {n : Int} {E : List Ed} {L M : Nat → Nat} {B i k : Nat} (h : Rn n E L B i M false) (hi : E.length ≤ i) : Lg.raised (prs n E) (k + 1) L = Lg.raised (prs n E) k M := by
 have e : E.take i = E := List.take_of_length_le hi
 have hs := h.st
 rw [e] at hs
 have hst : ¬ still L (prs n E) := by simpa using hs.symm
 show (if still L (prs n E) then _ else _) = _
 rw [if_neg hst, h.m, e]
end Go.Proofs.Ytnlgeiofkfkhbaa
