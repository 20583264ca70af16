/-
  Rows of the call's own in a row: made, and appended to; the net's edges, one by one. Conditions: at most 2^20 edges.
-/
import Derived.Test.YtnlgeiofkfkhbaaJoined21
namespace Go.Proofs.Ytnlgeiofkfkhbaa
open Go.RowKit Go.Maps Lg
attribute [local go_sem] setCell_drewN alloc_drewN

theorem infoRow : (Try.prog.info? 23).map (fun i => (i.zero, i.size, i.bytes)) = some (some (.slice none 0 0), 1, 24) := by kernel_rfl
def nils (n : Nat) : List Value := List.replicate n (.slice none 0 0)
/-- 'make([][]int, n)'. -/
theorem wpList_make_r {w : World} {ops : Array Oper} {rest : List Oper} {o : Oper} {a : Act} {Q : Exit → Act → World → Prop} (hg : o.guard = none) (l c : Operand) (hop : o.op = Op.makeSlice 34 l c) (n : Nat) (hl : a.eval l = .int .i64 (n : Int)) (hc : a.eval c = .int .i64 (n : Int)) (hn : n ≤ 1099511627776)
  (h : wpList Try.prog ops Q rest (a.put o.dst (.slice (some ⟨w.heap.size, 0, none⟩) n n)) (w.alloc (.cells (nils n).toArray 23))) : wpList Try.prog ops Q (o :: rest) a w := by
 obtain ⟨i0, hi, hz0, hz1, hz2⟩ := info_parts infoRow
 refine wpList_plain hg fun K hK' => ?_
 have hrun := run_make (P := Try.prog) w 34 23 i0 (.slice none 0 0) Try.underlying34 hi hz0 .i64 .i64 n n (by omega) (Int.le_refl _) (by rw [hz2]; omega) (by omega)
 simp only [Int.toNat_natCast, hz1, Nat.mul_one] at hrun
 have e : madeCells (Value.slice none 0 0).cells n = (nils n).toArray := by
  apply Array.toList_inj.1
  rw [show (Value.slice none 0 0).cells = #[Value.slice none 0 0] from rfl, toList_madeCells_one]
  rfl
 rw [e] at hrun
 unfold Oper.wp
 simp [execOp, hop, hl, hc, hrun, Result.andThen]
 exact hK' _ _ h
/-- Rows of the call's own in a row. -/
def OM (w : World) (B g m : Nat) (R : Nat → List Nat) : Prop := ∃ vs : List Value, vs.length = m ∧ Bk w g vs.toArray ∧ g < B ∧ (∀ i (h : i < vs.length), OwnI w B vs[i] (il (R i))) ∧ ∀ i j (hi : i < vs.length) (hj : j < vs.length), i ≠ j → ∀ b, vs[i].ownBlock = some b → vs[j].ownBlock ≠ some b
theorem OM.made (w : World) (m : Nat) : OM (w.alloc (.cells (nils m).toArray 23)) (w.heap.size + 1) w.heap.size m (fun _ => []) := by
 have hn : ∀ i (h : i < (nils m).length), (nils m)[i] = .slice none 0 0 := fun i h => by simp [nils]
 exact ⟨nils m, by simp [nils], Bk.new _ _ _, by omega, fun i hi => by rw [hn i hi]; exact OwnI.nil _ _, fun i j hi hj _ b e => by rw [hn i hi] at e; cases e⟩
theorem OM.bel {w w' : World} {B g m : Nat} {R : Nat → List Nat} (h : OM w B g m R) (hb : Below w.heap.size w w') : OM w' B g m R := by
 obtain ⟨vs, h1, h2, h3, h4, h5⟩ := h
 exact ⟨vs, h1, h2.bel hb, h3, fun i hi => (h4 i hi).bel hb, h5⟩
theorem OM.mx {w : World} {B g m : Nat} {R : Nat → List Nat} (h : OM w B g m R) : MX w (fun _ => False) g m R := by
 obtain ⟨vs, h1, h2, h3, h4, h5⟩ := h
 exact ⟨vs, h1, h2, fun h => h, fun i hi => (h4 i hi).ii _ (fun b _ h => h)⟩
/-- A number more in one of the rows. -/
def updR (R : Nat → List Nat) (p t : Nat) : Nat → List Nat := fun x => if x = p then R p ++ [t] else R x
theorem OM.app {w : World} {B g m p t : Nat} {R : Nat → List Nat} (h : OM w B g m R) (hp : p < m) : ∃ v, (∃ ao n c, v = .slice ao n c) ∧ w.cell? ⟨g, p, none⟩ = some v ∧ w.frozen? ⟨g, p, none⟩ = false ∧ OwnI w B v (il (R p)) ∧ v.ownBlock ≠ some g ∧
  ∀ (g' cap : Nat) (wc w2 : World), Below w.heap.size w wc → OwnI w2 B (.slice (some ⟨g', 0, none⟩) ((il (R p)).length + 1) cap) (il (R p) ++ [(t : Int)]) → wc.grownBy w2 v.ownBlock → (v.ownBlock = some g' ∨ w.heap.size ≤ g') →
   OM (w2.setCell ⟨g, p, none⟩ (.slice (some ⟨g', 0, none⟩) ((il (R p)).length + 1) cap)) B g m (updR R p t) ∧ But (fun b => b = g ∨ B ≤ b) w (w2.setCell ⟨g, p, none⟩ (.slice (some ⟨g', 0, none⟩) ((il (R p)).length + 1) cap)) := by
 obtain ⟨vs, h1, h2, h3, h4, h5⟩ := h
 subst h1
 have hgo : vs[p].ownBlock ≠ some g := fun e => by have := ((h4 p hp).lt e).1; omega
 refine ⟨vs[p], ?_, by rw [h2.cell p]; simp [hp], h2.frz p, h4 p hp, hgo, fun g' cap wc w2 hb ho hg hl => ?_⟩
 ·obtain ⟨ao, c, e, _⟩ := (h4 p hp).form
  exact ⟨_, _, _, e⟩
 have hbut : But (fun b => vs[p].ownBlock = some b) w w2 := (But.ofBelow hb).grown hg (fun b e => Or.inl e)
 refine ⟨⟨vs.set p (.slice (some ⟨g', 0, none⟩) ((il (R p)).length + 1) cap), by simp, ?_, h3, fun i hi => ?_, fun i j hi hj hne b => ?_⟩, ?_⟩
 rotate_right 1
 ·have hm : But (fun b => b = g ∨ B ≤ b) w w2 := hbut.more (fun b h => Or.inr ((h4 p hp).lt h).1)
  exact hm.set (p := ⟨g, p, none⟩) (Or.inl (Or.inl rfl)) _
 ·exact (h2.but hbut hgo).set p _ (by rw [List.setIfInBounds_toArray])
 ·rw [List.getElem_set]
  unfold updR
  by_cases e : p = i
  ·rw [if_pos e, if_pos e.symm, il_append]
   exact ho.set _ _ h3
  ·rw [if_neg e, if_neg (fun h => e h.symm)]
   have hi' : i < vs.length := by simpa using hi
   exact ((h4 i hi').but hbut (fun b hb h => h5 i p hi' hp (fun h => e h.symm) b hb h)).set _ _ h3
 ·have hi' : i < vs.length := by simpa using hi
  have hj' : j < vs.length := by simpa using hj
  rw [List.getElem_set, List.getElem_set]
  by_cases e : p = i
  ·rw [if_pos e, if_neg (fun h => hne (e ▸ h))]
   intro hb hjb
   simp only [Value.ownBlock, Option.some.injEq] at hb
   subst hb
   rcases hl with h | h
   ·exact h5 p j hp hj' (e ▸ hne) _ h hjb
   ·have := ((h4 j hj').lt hjb).2; omega
  ·rw [if_neg e]
   intro hb
   by_cases e2 : p = j
   ·rw [if_pos e2]
    intro hjb
    simp only [Value.ownBlock, Option.some.injEq] at hjb
    subst hjb
    rcases hl with h | h
    ·exact h5 p i hp hi' e _ h hb
    ·have := ((h4 i hi').lt hb).2; omega
   ·rw [if_neg e2]
    exact h5 i j hi' hj' hne b hb
theorem row_snoc {es : List (Nat × Nat)} {a b : Nat} : rowOf (es ++ [(a, b)]) = updR (rowOf es) a b := by
 funext v
 unfold rowOf updR
 rw [List.filter_append, List.map_append]
 by_cases e : v = a
 ·subst e; simp
 ·rw [if_neg e]
  have : ¬ a = v := fun h => e h.symm
  simp [this]
end Go.Proofs.Ytnlgeiofkfkhbaa
