/-
  Alternatives as they are put: jumps that are turned at the end; rows of functions. No condition.
  A choice of parts, compiled. Conditions: there is room; at most 2^20 parts.
  The states of a tree at another place; where they lead to. No condition.
  A row of states put again, moved along. Conditions: there is room; numbers of at most 65536; at most 2^40 ranges.
-/
import Derived.Test.YtcgohdfpmfpfiaaXB2
import Derived.Deep.AppendLies
import Derived.Test.YtcgohdfpmfpfiaaXB1
namespace Go.Proofs.Ytcgohdfpmfpfiaa
open Go.RowKit
attribute [local go_sem] setCell_drewN alloc_drewN

/-- The parts ahead of the last one, the first j jumps turned to e. -/
def altM : List RX → Nat → Nat → Nat → List ST
  | [], _, _, _ => []
  | x :: l, n, e, j => (⟨2, [], (n : Int) + 1, ((n + szX x + 2 : Nat) : Int)⟩ :: (bld x (n + 1) ++ [if j = 0 then ⟨2, [], ((n + szX x + 2 : Nat) : Int), 0⟩ else ⟨2, [], (e : Int), (e : Int)⟩])) ++ altM l (n + szX x + 2) e (j - 1)
theorem altM_len : ∀ (l : List RX), (∀ x ∈ l, ∀ n, (bld x n).length = szX x) → ∀ n e j, (altM l n e j).length = szL l + 2 * l.length
  | [], _, _, _, _ => rfl
  | x :: l, h, n, e, j => by
    rw [altM, List.length_append, altM_len l (fun y hy => h y (by simp [hy]))]
    simp only [List.length_cons, List.length_append, List.length_nil, h x (by simp), szL]
    omega
theorem altM_snoc : ∀ (l : List RX) (x : RX) (n e : Nat), altM (l ++ [x]) n e 0 = altM l n e 0 ++ (⟨2, [], ((n + szL l + 2 * l.length : Nat) : Int) + 1, ((n + szL l + 2 * l.length + szX x + 2 : Nat) : Int)⟩ :: (bld x (n + szL l + 2 * l.length + 1) ++ [⟨2, [], ((n + szL l + 2 * l.length + szX x + 2 : Nat) : Int), 0⟩]))
  | [], x, n, e => by simp [altM, szL]
  | y :: l, x, n, e => by
    rw [List.cons_append, altM, altM, altM_snoc l x (n + szX y + 2) e]
    have e1 : n + szX y + 2 + szL l + 2 * l.length = n + szL (y :: l) + 2 * (y :: l).length := by simp only [szL, List.length_cons]; omega
    rw [e1, List.append_assoc]
theorem bldA_snoc : ∀ (l : List RX) (y : RX) (n e : Nat), bldA (l ++ [y]) n e = altM l n e l.length ++ bld y (n + szL l + 2 * l.length)
  | [], y, n, e => by simp [bldA, altM, szL]
  | x :: l, y, n, e => by
    rw [List.cons_append, bldA, if_neg (by simp), bldA_snoc l y (n + szX x + 2) e, altM]
    have e1 : n + szX x + 2 + szL l + 2 * l.length = n + szL (x :: l) + 2 * (x :: l).length := by simp only [szL, List.length_cons]; omega
    rw [e1]
    simp
/-- Where the jump of part j stands. -/
def jat (l : List RX) (j : Nat) : Nat := szL (l.take (j + 1)) + 2 * j + 1
theorem jat_0 (x : RX) (l : List RX) : jat (x :: l) 0 = szX x + 1 := by simp [jat, szL]
theorem jat_s (x : RX) (l : List RX) (j : Nat) : jat (x :: l) (j + 1) = szX x + 2 + jat l j := by simp only [jat, List.take_succ_cons, szL]; omega
theorem altM_turn : ∀ (l : List RX), (∀ x ∈ l, ∀ n, (bld x n).length = szX x) → ∀ n e j, j < l.length →
    (∃ a, (altM l n e j)[jat l j]? = some ⟨2, [], a, 0⟩) ∧ (altM l n e j).set (jat l j) ⟨2, [], (e : Int), (e : Int)⟩ = altM l n e (j + 1)
  | [], _, _, _, j, hj => by simp at hj
  | x :: l, h, n, e, 0, _ => by
    have hx := h x (by simp) (n + 1)
    have hl : (⟨2, [], (n : Int) + 1, ((n + szX x + 2 : Nat) : Int)⟩ :: bld x (n + 1) : List ST).length = szX x + 1 := by simp [hx]
    rw [jat_0, altM, altM, if_pos rfl, if_neg (by omega)]
    rw [← List.cons_append, List.append_assoc, ← hl]
    refine ⟨⟨((n + szX x + 2 : Nat) : Int), by rw [List.getElem?_append_right (Nat.le_refl _), Nat.sub_self]; rfl⟩, ?_⟩
    rw [List.set_append_right _ _ (Nat.le_refl _), Nat.sub_self]
    show (⟨2, [], (n : Int) + 1, ((n + szX x + 2 : Nat) : Int)⟩ :: bld x (n + 1) : List ST) ++ (⟨2, [], (e : Int), (e : Int)⟩ :: altM l (n + szX x + 2) e 0) = (⟨2, [], (n : Int) + 1, ((n + szX x + 2 : Nat) : Int)⟩ :: (bld x (n + 1) ++ [⟨2, [], (e : Int), (e : Int)⟩]) : List ST) ++ altM l (n + szX x + 2) e 0
    rw [List.cons_append, List.cons_append, List.append_assoc]; rfl
  | x :: l, h, n, e, j + 1, hj => by
    have hx := h x (by simp) (n + 1)
    obtain ⟨⟨a, h1⟩, h2⟩ := altM_turn l (fun y hy => h y (by simp [hy])) (n + szX x + 2) e j (by simpa using hj)
    rw [jat_s, altM, altM, if_neg (by omega), if_neg (by omega)]
    have hl : (⟨2, [], (n : Int) + 1, ((n + szX x + 2 : Nat) : Int)⟩ :: (bld x (n + 1) ++ [⟨2, [], (e : Int), (e : Int)⟩]) : List ST).length = szX x + 2 := by simp [hx]
    rw [← hl]
    refine ⟨⟨a, ?_⟩, ?_⟩
    · rw [List.getElem?_append_right (Nat.le_add_right _ _), Nat.add_sub_cancel_left]
      exact h1
    · rw [List.set_append_right _ _ (Nat.le_add_right _ _), Nat.add_sub_cancel_left]
      have e1 : j + 1 - 1 = j := rfl
      have e2 : j + 1 + 1 - 1 = j + 1 := rfl
      rw [e1, e2, h2]
/-- A jump of the list turned. -/
theorem setAB_alt (L : List ST) (l : List RX) (T : List ST) (hs : ∀ x ∈ l, ∀ n, (bld x n).length = szX x) (e j : Nat) (hj : j < l.length) (he : (L ++ altM l L.length e j ++ T).length = e) :
    setAB (L ++ altM l L.length e j ++ T) (L.length + jat l j) = L ++ altM l L.length e (j + 1) ++ T := by
  obtain ⟨⟨a, h1⟩, h2⟩ := altM_turn l hs L.length e j hj
  have hlt : jat l j < (altM l L.length e j).length := (List.getElem?_eq_some_iff.1 h1).1
  unfold setAB
  rw [he]
  have hsa : sa (L ++ altM l L.length e j ++ T) (L.length + jat l j) = ⟨2, [], a, 0⟩ := by
    unfold sa
    rw [List.getD_eq_getElem?_getD, List.append_assoc, List.getElem?_append_right (Nat.le_add_right _ _), Nat.add_sub_cancel_left, List.getElem?_append_left hlt, h1]; rfl
  rw [hsa, List.append_assoc, List.set_append_right _ _ (Nat.le_add_right _ _), Nat.add_sub_cancel_left, List.set_append_left _ _ hlt]
  have : (ST.goAB ⟨2, [], a, 0⟩ (e : Int)) = ⟨2, [], (e : Int), (e : Int)⟩ := rfl
  rw [this, h2, List.append_assoc]
/-- A fork of the list turned. -/
theorem setB_at (A : List ST) (f : ST) (R : List ST) : setB (A ++ f :: R) A.length = A ++ (f.goB ((A ++ f :: R).length : Int) :: R) := by
  unfold setB
  have hsa : sa (A ++ f :: R) A.length = f := by
    unfold sa; rw [List.getD_eq_getElem?_getD, List.getElem?_append_right (Nat.le_refl _)]; simp
  rw [hsa, List.set_append_right _ _ (Nat.le_refl _)]
  simp
theorem own_but {w w' : World} {B : Nat} {e : TypeId} {v : Value} {n : Nat} {xs : List Value} {X : Nat → Prop} (h : w.ownsRow B e 1 v n xs) (hb : But X w w') (hX : ∀ k, v.ownBlock = some k → ¬ X k) : w'.ownsRow B e 1 v n xs := by
  refine ⟨h.1, ?_⟩
  rcases h.2 with h' | ⟨g, c, cur, rfl, hb', hg, hrest⟩
  · exact Or.inl h'
  · exact Or.inr ⟨g, c, cur, rfl, hb', (hb.block g (h.lt g rfl).2 (hX g rfl)).trans hg, hrest⟩
/-- The block of a row, as a list. -/
def zb (v : Value) : List Nat := match v.ownBlock with | some k => [k] | none => []
theorem LZ.sub {w : World} {lb sb cap : Nat} {Z Z' : List Nat} {L : List ST} (h : LZ w lb sb cap Z L) (hs : ∀ z ∈ Z', z ∈ Z) : LZ w lb sb cap Z' L := by
  obtain ⟨M, f0, f1, f2, f3, f4, f5, f6, f7⟩ := h
  exact ⟨M, f0, f1, f2, f3, f4, fun p hp => (f5 p hp).weak (fun b hb => by
    rcases hb with h | h | h
    · exact Or.inl h
    · exact Or.inr (Or.inl h)
    · exact Or.inr (Or.inr (hs _ h))), f6, fun y hy => f7 y (hs y hy)⟩
theorem LZ.apart2 {w w' : World} {lb sb cap : Nat} {Z : List Nat} {L : List ST} (h : LZ w lb sb cap Z L) {Y : Nat → Prop} (hb : But Y w w') (hY : ∀ b, Y b → b ∈ Z ∨ w.heap.size ≤ b) (z : Nat) (h1 : w.heap.size ≤ z) (h2 : z < w'.heap.size) : LZ w' lb sb cap (z :: Z) L := by
  have hlt := h.lt
  obtain ⟨M', f0, f1, f2, f3, f4, f5, f6, f7⟩ := h
  have h : LZ w lb sb cap Z L := ⟨M', f0, f1, f2, f3, f4, f5, f6, f7⟩
  have e2 : w'.heap[sb]? = w.heap[sb]? := hb.block sb hlt.2 (fun hy => by rcases hY _ hy with h | h; exact (f7 _ h).2.2 rfl; omega)
  obtain ⟨M, e0, e1, e1', e3, e4, e5, e6, e7⟩ := h.carry hb hY
  refine ⟨M', f0, e1, e1', e3, ⟨f4.1, ?_⟩, fun p hp => (f5 p hp).carry (fun b hx hl => ⟨hb.block b hl (fun hy => by rcases hY _ hy with h | h; exact hx (Or.inr (Or.inr h)); omega), fun hy => ?_⟩), e6, fun y hy => ?_⟩
  · rcases f4.2 with h | ⟨g, c, cur, e, hb', hg, hrest⟩
    · exact Or.inl h
    · refine Or.inr ⟨g, c, cur, e, hb', ?_, hrest⟩
      obtain rfl : sb = g := by injection e with e _ _; injection e with e; injection e
      rw [e2]; exact hg
  · rcases hy with hy | hy | hy
    · exact hx (Or.inl hy)
    · exact hx (Or.inr (Or.inl hy))
    · rcases List.mem_cons.1 hy with hy | hy
      · omega
      · exact hx (Or.inr (Or.inr hy))
  · rcases List.mem_cons.1 hy with hy | hy
    · subst hy; exact ⟨h2, by omega, by omega⟩
    · exact e7 y hy
/-- A function more in a row of functions. -/
theorem wpList_append_fnJ {w : World} {ops : Array Oper} {rest : List Oper} {o : Oper} {a : Act} {Q : Exit → Act → World → Prop} (hgd : o.guard = none) (s x : Operand)
    (ho : o.op = .call { callee := .builtin .append, args := #[s, x], argTypes := #[68, 68] }) (B : Nat) (v : Value) (n : Nat) (F : List Value) (hs : a.eval s = v) (hown : w.ownsRow B 1 1 v n F) (hB : B ≤ w.heap.size) (hn : n ≤ 1048576) (f : Value) (hf : f.oneCell' = true)
    (t : Nat) (ht : w.heap.size = t) (hx : a.eval x = .slice (some ⟨t, 0, none⟩) 1 1)
    (h : ∀ v' w', w'.ownsRow B 1 1 v' (n + 1) (F ++ [f]) → (w.alloc (.cells #[f] 1)).grownBy w' v.ownBlock → (∀ g, v'.ownBlock = some g → v.ownBlock = some g ∨ w.heap.size ≤ g) → wpList Try.prog ops Q rest (a.put o.dst v') w') :
    wpList Try.prog ops Q (o :: rest) a (w.alloc (.cells #[f] 1)) := by
  subst ht
  obtain ⟨i0, hi, hz0, hz1, hz2⟩ := info_parts infoFn
  refine wpList_append_lies _ hgd s x 68 ho B 1 i0 .nilFunc 1 8 Try.underlying68 hi hz0 hz1 hz2 rfl (by decide) v n F hs (hown.alloc _) ⟨w.heap.size, 0, none⟩ 1 1 [f] hx rfl ?_ ?_ (by omega) (by unfold maxLen; omega) (by omega) (by simp; omega) _ rfl ?_
  · intro j u hj
    match j, hj with
    | 0, hj => simp at hj; subst hj; simp [Addr.add, go_sem]
  · intro u hu
    simp at hu
    subst hu
    exact hf
  · intro g c w' h1 h2 h3 _
    refine h _ w' h1 h2 (fun g' hg' => ?_)
    obtain rfl : g = g' := by simpa [Value.ownBlock] using hg'
    rcases h3 with h3 | h3
    · exact .inl h3
    · exact .inr (by simp at h3; omega)
end Go.Proofs.Ytcgohdfpmfpfiaa

namespace Go.Proofs.Ytcgohdfpmfpfiaa
open Go.RowKit
attribute [local go_sem] setCell_drewN alloc_drewN

theorem zb_none : zb (.slice none 0 0) = [] := rfl
theorem zb_mem {v : Value} {z : Nat} (h : z ∈ zb v) : v.ownBlock = some z := by
  unfold zb at h
  cases hv : v.ownBlock with
  | none => rw [hv] at h; simp at h
  | some k => rw [hv] at h; simp at h; rw [h]
theorem zb_some {v : Value} {z : Nat} (h : v.ownBlock = some z) : zb v = [z] := by unfold zb; rw [h]
/-- The list behind an append to a row that is set apart. -/
theorem LZ.appended {w w' : World} {lb sb cap : Nat} {Z : List Nat} {L : List ST} {v v' : Value} {o : Obj} (h : LZ w lb sb cap (zb v ++ Z) L) (hg : (w.alloc o).grownBy w' v.ownBlock) (hv : ∀ g, v'.ownBlock = some g → v.ownBlock = some g ∨ w.heap.size ≤ g) (hlt : ∀ g, v'.ownBlock = some g → g < w'.heap.size) :
    LZ w' lb sb cap (zb v' ++ Z) L := by
  have hb : But (fun b => v.ownBlock = some b) w w' := ((But.refl _ w).alloc o).grown hg (fun b e => Or.inl e)
  have hY : ∀ b, (fun b => v.ownBlock = some b) b → b ∈ zb v ++ Z ∨ w.heap.size ≤ b := fun b e => Or.inl (by rw [zb_some e]; simp)
  cases hv' : v'.ownBlock with
  | none => exact (h.carry hb hY).sub (fun z hz => by
      unfold zb at hz; rw [hv'] at hz; simp at hz; exact List.mem_append_right _ hz)
  | some g =>
    rcases hv g hv' with h1 | h1
    · rw [zb_some hv', ← zb_some h1]; exact h.carry hb hY
    · exact (h.apart2 hb hY g h1 (hlt g hv')).sub (fun z hz => by
        rw [zb_some hv'] at hz
        simp only [List.mem_append, List.mem_cons, List.not_mem_nil, or_false] at hz ⊢
        rcases hz with hz | hz
        · exact Or.inl hz
        · exact Or.inr (Or.inr hz))
/-- The jumps that wait. -/
def Wait (w : World) (lb sb : Nat) (v : Value) (F : List Value) (n : Nat) (l : List RX) (j : Nat) : Prop :=
  ∀ i, i < j → ∃ p1 q1, F[i]? = some (.func (.func 57) #[] #[.pointer (some ⟨p1, 0, none⟩), .pointer (some ⟨q1, 0, none⟩)]) ∧ Cap w lb sb p1 q1 (n + jat l i) ∧ p1 ∉ zb v ∧ q1 ∉ zb v
theorem Wait.but {w w' : World} {lb sb : Nat} {v : Value} {F : List Value} {n : Nat} {l : List RX} {j : Nat} (h : Wait w lb sb v F n l j) (hb : But (two lb sb) w w') : Wait w' lb sb v F n l j := fun i hi => by
  obtain ⟨p1, q1, h1, h2, h3⟩ := h i hi
  exact ⟨p1, q1, h1, h2.but hb, h3⟩
/-- A variable of a closure that an append does not touch. -/
theorem Cap.app {w w' : World} {lb sb p q i : Nat} {v : Value} {o : Obj} (h : Cap w lb sb p q i) (hg : (w.alloc o).grownBy w' v.ownBlock) (h1 : p ∉ zb v) (h2 : q ∉ zb v) : Cap w' lb sb p q i := by
  obtain ⟨c1, c2, c3, c4⟩ := h
  have l1 := World.block_lt_of_cell? w _ c1
  have l2 := World.block_lt_of_cell? w _ c2
  have ha : Below w.heap.size w (w.alloc o) := vb_a (Below.refl _ _) _
  have b1 : w'.heap[p]? = w.heap[p]? := (hg.block p (Nat.lt_of_lt_of_le l1 ha.size) (fun e => h1 (by rw [zb_some e.symm]; simp))).trans (ha.block p l1)
  have b2 : w'.heap[q]? = w.heap[q]? := (hg.block q (Nat.lt_of_lt_of_le l2 ha.size) (fun e => h2 (by rw [zb_some e.symm]; simp))).trans (ha.block q l2)
  exact ⟨(World.cell?_of_block (w := w) (w' := w') b1).trans c1, (World.cell?_of_block (w := w) (w' := w') b2).trans c2, c3, c4⟩
theorem Cap.lt {w : World} {lb sb p q i : Nat} (h : Cap w lb sb p q i) : p < w.heap.size ∧ q < w.heap.size := ⟨World.block_lt_of_cell? w _ h.1, World.block_lt_of_cell? w _ h.2.1⟩
/-- A part more. -/
theorem alt_step (L : List ST) (l : List RX) (x : RX) (EE : Nat) (hs : ∀ y ∈ l, ∀ n, (bld y n).length = szX y) (hx : ∀ n, (bld x n).length = szX x) :
    setB (((L ++ altM l L.length EE 0 ++ [⟨2, [], ((L ++ altM l L.length EE 0).length : Int) + 1, 0⟩]) ++ bld x (L ++ altM l L.length EE 0 ++ [⟨2, [], ((L ++ altM l L.length EE 0).length : Int) + 1, 0⟩] : List ST).length) ++ [⟨2, [], (((L ++ altM l L.length EE 0 ++ [⟨2, [], ((L ++ altM l L.length EE 0).length : Int) + 1, 0⟩]) ++ bld x (L ++ altM l L.length EE 0 ++ [⟨2, [], ((L ++ altM l L.length EE 0).length : Int) + 1, 0⟩] : List ST).length : List ST).length : Int) + 1, 0⟩]) (L ++ altM l L.length EE 0).length
      = L ++ altM (l ++ [x]) L.length EE 0 := by
  have hA : (L ++ altM l L.length EE 0).length = L.length + szL l + 2 * l.length := by rw [List.length_append, altM_len l hs]; omega
  have e2 : ((L ++ altM l L.length EE 0) ++ [⟨2, [], ((L ++ altM l L.length EE 0).length : Int) + 1, 0⟩] : List ST).length = L.length + szL l + 2 * l.length + 1 := by rw [List.length_append, hA]; rfl
  rw [altM_snoc, ← List.append_assoc]
  generalize L ++ altM l L.length EE 0 = A at *
  rw [e2]
  have e3 : ((A ++ [⟨2, [], (A.length : Int) + 1, 0⟩]) ++ bld x (L.length + szL l + 2 * l.length + 1) : List ST).length = L.length + szL l + 2 * l.length + szX x + 1 := by rw [List.length_append, e2, hx]; omega
  rw [e3, List.append_assoc, List.append_assoc]
  have e4 : (A ++ ([⟨2, [], (A.length : Int) + 1, 0⟩] ++ (bld x (L.length + szL l + 2 * l.length + 1) ++ [⟨2, [], ((L.length + szL l + 2 * l.length + szX x + 1 : Nat) : Int) + 1, 0⟩])) : List ST) = A ++ ⟨2, [], (A.length : Int) + 1, 0⟩ :: (bld x (L.length + szL l + 2 * l.length + 1) ++ [⟨2, [], ((L.length + szL l + 2 * l.length + szX x + 1 : Nat) : Int) + 1, 0⟩]) := rfl
  rw [e4, setB_at]
  have e5 : ((A ++ ⟨2, [], (A.length : Int) + 1, 0⟩ :: (bld x (L.length + szL l + 2 * l.length + 1) ++ [⟨2, [], ((L.length + szL l + 2 * l.length + szX x + 1 : Nat) : Int) + 1, 0⟩]) : List ST).length : Int) = ((L.length + szL l + 2 * l.length + szX x + 2 : Nat) : Int) := by
    simp only [List.length_append, List.length_cons, List.length_nil, hx, hA]; omega
  rw [e5, hA]
  have e6 : (((L.length + szL l + 2 * l.length + szX x + 1 : Nat) : Int) + 1) = ((L.length + szL l + 2 * l.length + szX x + 2 : Nat) : Int) := by omega
  rw [e6]; rfl
/-- The jumps that wait, behind an append. -/
theorem Wait.app {w w' : World} {lb sb : Nat} {v v' : Value} {F : List Value} {n : Nat} {l : List RX} {j : Nat} {o : Obj} (h : Wait w lb sb v F n l j) (hg : (w.alloc o).grownBy w' v.ownBlock) (hv : ∀ g, v'.ownBlock = some g → v.ownBlock = some g ∨ w.heap.size ≤ g) (hF : F.length = j)
    (p q : Nat) (hc : Cap w lb sb p q (n + jat l j)) (h1 : p ∉ zb v) (h2 : q ∉ zb v) : Wait w' lb sb v' (F ++ [.func (.func 57) #[] #[.pointer (some ⟨p, 0, none⟩), .pointer (some ⟨q, 0, none⟩)]]) n l (j + 1) := fun i hi => by
  have out : ∀ x, x ∉ zb v → x < w.heap.size → x ∉ zb v' := fun x hx hl hm => by
    rcases hv x (zb_mem hm) with e | e
    · exact hx (by rw [zb_some e]; simp)
    · omega
  by_cases e : i = j
  · subst e
    exact ⟨p, q, by rw [List.getElem?_append_right (by omega), hF, Nat.sub_self]; rfl, hc.app hg h1 h2, out p h1 hc.lt.1, out q h2 hc.lt.2⟩
  · obtain ⟨p1, q1, f1, f2, f3, f4⟩ := h i (by omega)
    exact ⟨p1, q1, by rw [List.getElem?_append_left (by omega)]; exact f1, f2.app hg f3 f4, out p1 f3 f2.lt.1, out q1 f4 f2.lt.2⟩
set_option maxRecDepth 100000 in
set_option maxHeartbeats 6400000 in
theorem choice1_any (lb sb cap : Nat) (s : List RX) (ao : Option Addr) (cp : Nat) (G : Nat → Nat → Value) (w : World) (hp : PartsOK w lb sb cap s ao cp G) (h2 : 2 ≤ s.length) (hsm : s.length ≤ 1048576) (p q r0 : Nat) (Z : List Nat) (L : List ST)
    (c1 : w.cell? ⟨p, 0, none⟩ = some (.slice ao s.length cp)) (c2 : w.cell? ⟨q, 0, none⟩ = some (.int .i64 ((s.length : Int) - 1))) (c3 : w.cell? ⟨r0, 0, none⟩ = some (.pointer (some ⟨lb, 0, none⟩)))
    (np : ¬ two lb sb p) (nq : ¬ two lb sb q) (nr : ¬ two lb sb r0) (h : LZ w lb sb cap Z L) (hroom : L.length + (szL s + (s.length - 1) * 2) ≤ cap) :
    Calls Try.prog 43 #[.pointer (some ⟨p, 0, none⟩), .pointer (some ⟨q, 0, none⟩), .pointer (some ⟨r0, 0, none⟩)] w fun e w' => e = .returned (.tuple #[]) ∧ LZ w' lb sb cap Z (L ++ bldA s L.length (L.length + (szL s + (s.length - 1) * 2))) ∧ But (two lb sb) w w' := by
  obtain ⟨b, off, rfl, hnb, hcells⟩ := hp.cells.resolve_left (fun e => by rw [e] at h2; simp at h2)
  have hlI : (s.length : Int) ≤ 9223372036854775807 := by omega
  have hcp := hp.len
  obtain ⟨l, hl⟩ : ∃ l, s.take (s.length - 1) = l := ⟨_, rfl⟩
  have hlen : l.length = s.length - 1 := by rw [← hl, List.length_take]; omega
  have hlast : s.length - 1 < s.length := by omega
  have hsl : s = l ++ [s[s.length - 1]] := by
    rw [← hl]
    have := List.take_append_getElem hlast
    rw [this, List.take_of_length_le (by omega)]
  have hszs : szL s = szL l + szX s[s.length - 1] := by
    have := szL_take s (s.length - 1) hlast
    rw [hl, List.take_of_length_le (by omega)] at this
    exact this
  have hlsz : ∀ x ∈ l, ∀ n, (bld x n).length = szX x := fun x hx => hp.sz x (by rw [← hl] at hx; exact List.mem_of_mem_take hx)
  have hlj : ∀ j, j < l.length → ∃ hj : j < s.length, l[j]? = some s[j] := fun j hj => (fun hjs => ⟨hjs, (by have := List.getElem?_take (l := s) (i := s.length - 1) (j := j); rw [hl, if_pos (by omega), List.getElem?_eq_getElem hjs] at this; exact this)⟩) (by omega)
  obtain ⟨EE, hEE⟩ : ∃ EE, (L.length + (szL s + (s.length - 1) * 2)) = EE := ⟨_, rfl⟩
  obtain ⟨P, hP⟩ : ∃ P : Ending → World → Prop, P = fun e w' => e = .returned (.tuple #[]) ∧ LZ w' lb sb cap Z (L ++ bldA s L.length (L.length + (szL s + (s.length - 1) * 2))) ∧ But (two lb sb) w w' := ⟨_, rfl⟩
  rw [← hP]
  have HP := hid_intro hP
  clear hP
  have HS : Hid (∀ w', But (two lb sb) w w' → w'.cell? ⟨p, 0, none⟩ = some (.slice (some ⟨b, off, none⟩) s.length cp) ∧ w'.cell? ⟨q, 0, none⟩ = some (.int .i64 ((s.length : Int) - 1)) ∧ w'.cell? ⟨r0, 0, none⟩ = some (.pointer (some ⟨lb, 0, none⟩))) := hid_intro (fun w' hb => ⟨cell_but c1 np hb, cell_but c2 nq hb, cell_but c3 nr hb⟩)
  have HPO := hid_intro hp
  have HH := hid_intro h
  have HM := hid_intro (And.intro hroom (And.intro hsm (And.intro h2 (And.intro hlen (And.intro hszs (And.intro hlsz (And.intro hlj (And.intro hsl hEE))))))))
  have hI2 : (1 : Int) ≤ (s.length : Int) - 1 := by omega
  have hI3 : (s.length : Int) - 1 ≤ (cp : Int) := by omega
  have hI5 : (0 : Int) ≤ (s.length : Int) - 1 := by omega
  have hlc : (l.length : Int) = (s.length : Int) - 1 := by omega
  clear hp c1 c2 c3 np nq nr h hroom hcells hl hsl hszs hlsz hlj hEE hcp hsm
  obtain ⟨y1, y2, y3⟩ := HS.out w (But.refl _ _)
  go_enter Try.func43, Try.ntmps43
  go_wp2_with fail
  clear y1 y2 y3
  go_loopg [3, 13] (s.length - 1) (fun m v3 s13 wr => ∃ (j : Nat) (F : List Value), j ≤ s.length - 1 ∧ m = s.length - 1 - j ∧ s13 = .int .i64 (j : Int) ∧ Hid (wr.ownsRow w.heap.size 1 1 v3 j F ∧ Wait wr lb sb v3 F L.length l j ∧ LZ wr lb sb cap (zb v3 ++ Z) (L ++ altM (l.take j) L.length EE 0) ∧ But (two lb sb) w wr))
  case atStart => exact ⟨0, [], Nat.zero_le _, rfl, rfl, World.ownsRow_nil _ _ _ _, fun i hi => absurd hi (by omega), by rw [zb_none]; simpa [altM] using HH.out, But.refl _ _⟩
  case round =>
    obtain ⟨j, F, hj, rfl, rfl, HI⟩ := hrel
    by_cases hlt : j < s.length - 1
    · have hjs : j < s.length := by omega
      have hJ : (j : Int) < ((s.length - 1 : Nat) : Int) := by omega
      have hJ2 : (j : Int) < (s.length : Int) - 1 := by omega
      obtain ⟨c_p, c_q, c_s⟩ := HS.out wr HI.out.2.2.2
      have HPR := hid_intro (HPO.out.but HI.out.2.2.2)
      obtain ⟨b', off', eb, _, h3⟩ := HPR.out.cells.resolve_left (fun e => by rw [e] at hjs; exact absurd hjs (by simp))
      injection eb with eb
      injection eb with eb1 eb2 _
      subst eb1 eb2
      have g0 : wr.cell? ⟨b, off + j * 6, none⟩ = some (G j 0) := h3 j hjs 0 (by omega)
      have g1 := h3 j hjs 1 (by omega)
      have g2 := h3 j hjs 2 (by omega)
      have g3 := h3 j hjs 3 (by omega)
      have g4 := h3 j hjs 4 (by omega)
      have g5 := h3 j hjs 5 (by omega)
      have hpart := fun w' hb => HPR.out.part j hjs w' hb
      obtain ⟨x0, x1, x2, x3, x4, x5, x6, x7, x8, x9, e0, e1, e2, e3, e4, e5⟩ := HPR.out.six j hjs
      rw [e0] at g0
      rw [e1] at g1
      rw [e2] at g2
      rw [e3] at g3
      rw [e4] at g4
      rw [e5] at g5
      rw [e0, e1, e2, e3, e4, e5] at hpart
      clear e0 e1 e2 e3 e4 e5 h3
      have hlt2 : (L ++ altM (l.take j) L.length EE 0).length = L.length + szL (l.take j) + 2 * j := by
        rw [List.length_append, altM_len _ (fun x hx => HM.out.2.2.2.2.2.1 x (List.mem_of_mem_take hx)), List.length_take]
        have := HM.out.2.2.2.1
        omega
      have hszj : szL (l.take (j + 1)) = szL (l.take j) + szX s[j] := by
        have hjl : j < l.length := by have := HM.out.2.2.2.1; omega
        have := szL_take l j hjl
        have e := (HM.out.2.2.2.2.2.2.1 j hjl)
        obtain ⟨_, e⟩ := e
        rw [List.getElem?_eq_getElem hjl] at e
        injection e with e
        rw [e] at this
        exact this
      have hrm : L.length + szL (l.take j) + 2 * j + szX s[j] + 2 ≤ cap := by
        have h1 := szL_le l (j + 1)
        have := HM.out.1
        have := HM.out.2.2.2.2.1
        have := HM.out.2.2.2.1
        omega
      have HLN := hid_intro (And.intro hlt2 (And.intro hszj hrm))
      obtain ⟨V, hV⟩ : ∃ V, wr.alloc (.cells #[.int .i64 x0, .slice x1 x2 x3, .int .i64 x4, .int .i64 x5, .bool x6, .slice x7 x8 x9] 32) = V := ⟨_, rfl⟩
      have hbV : Below wr.heap.size wr V := hV ▸ vb_a (Below.refl _ _) _
      have kV : Bk V wr.heap.size #[.int .i64 x0, .slice x1 x2 x3, .int .i64 x4, .int .i64 x5, .bool x6, .slice x7 x8 x9] := hV ▸ Bk.new _ _ _
      have hwV : But (two lb sb) w V := HI.out.2.2.2.below hbV
      have hltV := HI.out.2.2.1.lt
      have hnX : ¬ two lb sb wr.heap.size := fun e => by rcases e with e | e <;> omega
      have HX : Hid (∀ w', But (two lb sb) V w' → w'.cell? ⟨r0, 0, none⟩ = some (.pointer (some ⟨lb, 0, none⟩)) ∧ w'.cell? ⟨wr.heap.size, 0, none⟩ = some (.int .i64 x0) ∧ w'.cell? ⟨wr.heap.size, 1, none⟩ = some (.slice x1 x2 x3) ∧ w'.cell? ⟨wr.heap.size, 2, none⟩ = some (.int .i64 x4) ∧ w'.cell? ⟨wr.heap.size, 3, none⟩ = some (.int .i64 x5) ∧ w'.cell? ⟨wr.heap.size, 4, none⟩ = some (.bool x6) ∧ w'.cell? ⟨wr.heap.size, 5, none⟩ = some (.slice x7 x8 x9)) := hid_intro (fun w' hb => by
        obtain ⟨a0, a1, a2, a3, a4, a5⟩ := kV.c6
        exact ⟨(HS.out w' (hwV.trans hb)).2.2, cell_but a0 hnX hb, cell_but a1 hnX hb, cell_but a2 hnX hb, cell_but a3 hnX hb, cell_but a4 hnX hb, cell_but a5 hnX hb⟩)
      have hfork := forkZ_any lb sb cap _ _ V (HI.out.2.2.1.below hbV) (by rw [hlt2]; omega)
      have HPA := hid_intro (fun w' (hb : But (two lb sb) V w') => hpart w' ((But.ofBelow hbV).trans hb))
      obtain ⟨s0, _⟩ := HX.out V (But.refl _ _)
      have s1 : (wr.alloc (.cells #[.int .i64 x0, .slice x1 x2 x3, .int .i64 x4, .int .i64 x5, .bool x6, .slice x7 x8 x9] 32)).cell? ⟨r0, 0, none⟩ = some (.pointer (some ⟨lb, 0, none⟩)) := hV ▸ s0
      have HB0 : Hid (∀ k, u3.ownBlock = some k → w.heap.size ≤ k ∧ k < wr.heap.size) := hid_intro (fun k hk => HI.out.1.lt k hk)
      have HLT0 : Hid (lb < w.heap.size ∧ sb < w.heap.size) := hid_intro HH.out.lt
      have HBV := hid_intro hbV
      have HV := hid_intro hV
      have HWV := hid_intro hwV
      clear hV hbV kV hwV hnX s0 hpart HPR hltV hlt2 hszj hrm
      go_wp2_with fail
      rw [HV.out]
      refine hfork.mono ?_; rintro e w1 ⟨p0, q0, rfl, hp0, hq0, hcap0, hls1, hbt1⟩
      clear g0 g1 g2 g3 g4 g5 c_p c_q c_s s1 hfork
      obtain ⟨s1, y0, y1, y2, y3, y4, y5⟩ := HX.out w1 hbt1
      have hpart1 := HPA.out w1 hbt1
      have HC0 := hid_intro hcap0
      have HPQ := hid_intro (And.intro hp0 hq0)
      have HL1 := hid_intro hls1
      have HB1 := hid_intro hbt1
      clear hcap0 hls1 hbt1 hp0 hq0
      go_wp2_with fail
      refine hpart1.mono ?_; rintro e w2 ⟨v2, rfl, hfn, hb2⟩
      obtain ⟨fnum, caps, rfl, hent, hcall0⟩ := hfn
      have hcall := hcall0 w2 _ _ (But.refl _ _) (HL1.out.below hb2) (by have := HLN.out; rw [List.length_append, this.1]; simp; omega)
      have HB2 := hid_intro (HB1.out.trans (But.ofBelow hb2))
      have HC2 := hid_intro (HC0.out.below hb2)
      clear hpart1 hcall0 hb2 s1 y0 y1 y2 y3 y4 y5 HB1 HL1 HC0
      go_wp2_with fail
      refine hcall.mono ?_; rintro e w3 ⟨rfl, hls3, hbt3⟩
      have hsz3 : (bld s[j] ((L ++ altM (l.take j) L.length EE 0 ++ [⟨2, [], ((L ++ altM (l.take j) L.length EE 0).length : Int) + 1, 0⟩] : List ST).length)).length = szX s[j] := HPO.out.sz _ (List.getElem_mem hjs) _
      have hjump := jumpZ_any lb sb cap _ _ w3 hls3 (by have := HLN.out; rw [List.length_append, hsz3, List.length_append, this.1]; simp; omega)
      have HSZ3 := hid_intro hsz3
      have HB3 := hid_intro (HB2.out.trans hbt3)
      have HC3 := hid_intro (HC2.out.but hbt3)
      have HSI3 : Hid (V.heap.size ≤ w3.heap.size) := hid_intro HB3.out.size
      obtain ⟨s1, _⟩ := HX.out w3 HB3.out
      clear hcall hls3 hbt3 HB2 HC2 hent hsz3
      go_wp2_with fail
      refine hjump.mono ?_; rintro e w4 ⟨p4, q4, rfl, hp4, hq4, hcap4, hls4, hbt4⟩
      have HC4 := hid_intro (HC3.out.but hbt4)
      have HB4 := hid_intro (HB3.out.trans hbt4)
      have HL4 := hid_intro hls4
      have HK4 := hid_intro (And.intro hcap4 (And.intro hp4 hq4))
      have HNT : Hid (∀ k, u3.ownBlock = some k → ¬ two lb sb k) := hid_intro (fun k hk e => by have := HB0.out k hk; have := HLT0.out; rcases e with e | e <;> omega)
      have HOW4 : Hid (w4.ownsRow w.heap.size 1 1 u3 j F) := hid_intro (own_but (own_but HI.out.1 (But.ofBelow (X := two lb sb) HBV.out) HNT.out) HB4.out HNT.out)
      have HSI4 : Hid (w.heap.size ≤ w4.heap.size) := hid_intro (HWV.out.trans HB4.out).size
      have HJM : Hid (j ≤ 1048576) := hid_intro (by have := HM.out.2.1; omega)
      clear hjump hcap4 hp4 hq4 hls4 hbt4 HC3 HB3 s1
      go_wp2_with (at_builtin; refine wpList_append_fnJ rfl _ _ rfl w.heap.size u3 j F rfl HOW4.out HSI4.out HJM.out _ rfl _ rfl rfl ?_; intro v5 w5 ho5 hg5 hv5)
      have hnz : ∀ x, V.heap.size ≤ x → x ∉ zb u3 := fun x hx hm => by have := (HB0.out x (zb_mem hm)).2; have := HBV.out.size; omega
      have hwt := (HI.out.2.1.but ((But.ofBelow HBV.out).trans HB4.out)).app hg5 hv5 (by have := HOW4.out.1; omega) p4 q4 (by
        have h := HK4.out.1
        have e : ((L ++ altM (l.take j) L.length EE 0 ++ [⟨2, [], ((L ++ altM (l.take j) L.length EE 0).length : Int) + 1, 0⟩]) ++ bld s[j] ((L ++ altM (l.take j) L.length EE 0 ++ [⟨2, [], ((L ++ altM (l.take j) L.length EE 0).length : Int) + 1, 0⟩] : List ST).length) : List ST).length = L.length + jat l j := by
          rw [List.length_append, HSZ3.out, List.length_append, HLN.out.1]
          unfold jat
          have := HLN.out.2.1
          simp
          omega
        rw [e] at h
        exact h) (hnz _ (Nat.le_trans HSI3.out HK4.out.2.1)) (hnz _ (Nat.le_trans HSI3.out HK4.out.2.2))
      have hcap5 := HC4.out.app hg5 (hnz _ HPQ.out.1) (hnz _ HPQ.out.2)
      have hls5 := HL4.out.appended hg5 hv5 (fun g hg => (ho5.lt g hg).2)
      have hb5 : But (two lb sb) w w5 := ((HWV.out.trans HB4.out).alloc _).grown hg5 (fun b e => Or.inr (HB0.out b e).1)
      have hcall := fork1Z_any lb sb cap p0 q0 _ (zb v5 ++ Z) _ w5 hls5 hcap5 (by simp)
      have HO5 := hid_intro ho5
      have HWT := hid_intro hwt
      have HB5 := hid_intro hb5
      clear hwt hcap5 hls5 hb5 ho5 hg5 hv5 hnz HB4 HC4 HL4 HK4 HOW4 HSI4 HJM HNT
      go_wp2_with fail
      refine hcall.mono ?_; rintro e w6 ⟨rfl, hls6, hbt6⟩
      have HJ : Hid (w6.ownsRow w.heap.size 1 1 v5 (j + 1) (F ++ [.func (.func 57) #[] #[.pointer (some ⟨p4, 0, none⟩), .pointer (some ⟨q4, 0, none⟩)]]) ∧ Wait w6 lb sb v5 (F ++ [.func (.func 57) #[] #[.pointer (some ⟨p4, 0, none⟩), .pointer (some ⟨q4, 0, none⟩)]]) L.length l (j + 1) ∧ LZ w6 lb sb cap (zb v5 ++ Z) (L ++ altM (l.take (j + 1)) L.length EE 0) ∧ But (two lb sb) w w6) := hid_intro
        ⟨own_but HO5.out hbt6 (fun k hk e => by have := (HO5.out.lt k hk).1; have := HLT0.out; rcases e with e | e <;> omega), HWT.out.but hbt6, by
          rw [alt_step L (l.take j) s[j] EE (fun x hx => HM.out.2.2.2.2.2.1 x (List.mem_of_mem_take hx)) (fun n => HPO.out.sz _ (List.getElem_mem hjs) n)] at hls6
          have hjl : j < l.length := by have := HM.out.2.2.2.1; omega
          obtain ⟨_, e⟩ := HM.out.2.2.2.2.2.2.1 j hjl
          have et : l.take (j + 1) = l.take j ++ [s[j]] := by rw [List.take_add_one, e]; rfl
          rw [et]; exact hls6, HB5.out.trans hbt6⟩
      clear hcall hls6 hbt6 HB5 HX HWV HV HI HPQ HPA HO5 HWT HLN HSZ3 HB0 HLT0 HBV HSI3
      go_wp2_with fail
      go_roundg (s.length - 1 - (j + 1))
      case measure => omega
      case rel => exact ⟨j + 1, _, by omega, rfl, by simp, HJ⟩
    · have hjl : j = s.length - 1 := by omega
      subst hjl
      have hJ : ¬ ((s.length - 1 : Nat) : Int) < ((s.length - 1 : Nat) : Int) := by omega
      obtain ⟨hrow, hwait, hls, hbt⟩ := HI.out
      obtain ⟨fb, fc, efb, hfl⟩ : ∃ fb fc, u3 = .slice (some ⟨fb, 0, none⟩) (s.length - 1) fc ∧ s.length - 1 ≤ fc := by
        rcases hrow.2 with ⟨_, e⟩ | ⟨g, c, cur, e, _, _, hc, _⟩
        · omega
        · exact ⟨g, c, e, hc⟩
      subst efb
      have hlast : s.length - 1 < s.length := by omega
      have HPR := hid_intro (HPO.out.but hbt)
      obtain ⟨b', off', eb, hnb', h3⟩ := HPR.out.cells.resolve_left (fun e => by rw [e] at hlast; exact absurd hlast (by simp))
      injection eb with eb
      injection eb with eb1 eb2 _
      subst eb1 eb2
      obtain ⟨x0, x1, x2, x3, x4, x5, x6, x7, x8, x9, e0, e1, e2, e3, e4, e5⟩ := HPR.out.six (s.length - 1) hlast
      have hpart := fun w' hb => HPR.out.part (s.length - 1) hlast w' hb
      rw [e0, e1, e2, e3, e4, e5] at hpart
      have hI6 : ((s.length : Int) - 1) < (s.length : Int) := by omega
      have hI7 : ((s.length : Int) - 1).toNat = s.length - 1 := by omega
      have hI8 : (1 : Int) ≤ (s.length : Int) := by omega
      have HS2 : Hid (∀ w', But (two lb sb) wr w' → (w'.cell? ⟨p, 0, none⟩ = some (.slice (some ⟨b, off, none⟩) s.length cp) ∧ w'.cell? ⟨q, 0, none⟩ = some (.int .i64 ((s.length : Int) - 1)) ∧ w'.cell? ⟨r0, 0, none⟩ = some (.pointer (some ⟨lb, 0, none⟩))) ∧ w'.cell? ⟨b, off + (s.length - 1) * 6, none⟩ = some (.int .i64 x0) ∧ w'.cell? ⟨b, off + (s.length - 1) * 6 + 1, none⟩ = some (.slice x1 x2 x3) ∧ w'.cell? ⟨b, off + (s.length - 1) * 6 + 2, none⟩ = some (.int .i64 x4) ∧ w'.cell? ⟨b, off + (s.length - 1) * 6 + 3, none⟩ = some (.int .i64 x5) ∧ w'.cell? ⟨b, off + (s.length - 1) * 6 + 4, none⟩ = some (.bool x6) ∧ w'.cell? ⟨b, off + (s.length - 1) * 6 + 5, none⟩ = some (.slice x7 x8 x9)) := hid_intro (fun w' hb => by
        obtain ⟨k1, k2, k3⟩ := HS.out w' (hbt.trans hb)
        have g : ∀ j, j < 6 → w'.cell? ⟨b, off + (s.length - 1) * 6 + j, none⟩ = some (G (s.length - 1) j) := fun j hj => cell_but (h3 (s.length - 1) hlast j hj) hnb' hb
        exact ⟨⟨k1, k2, k3⟩, (g 0 (by omega)).trans (by rw [e0]), (g 1 (by omega)).trans (by rw [e1]), (g 2 (by omega)).trans (by rw [e2]), (g 3 (by omega)).trans (by rw [e3]), (g 4 (by omega)).trans (by rw [e4]), (g 5 (by omega)).trans (by rw [e5])⟩)
      have hlA : (L ++ altM l L.length EE 0).length = L.length + szL l + 2 * (s.length - 1) := by
        rw [List.length_append, altM_len l HM.out.2.2.2.2.2.1, HM.out.2.2.2.1]; omega
      have htk : l.take (s.length - 1) = l := List.take_of_length_le (by have := HM.out.2.2.2.1; omega)
      rw [htk] at hls
      have HCL : Hid (∀ w' n caps, Below wr.heap.size wr w' → (∀ w2 Z L, But (two lb sb) w' w2 → LZ w2 lb sb cap Z L → L.length + szX s[s.length - 1] ≤ cap → Calls Try.prog n caps w2 fun e w3 => e = .returned (.tuple #[]) ∧ LZ w3 lb sb cap Z (L ++ bld s[s.length - 1] L.length) ∧ But (two lb sb) w2 w3) → Calls Try.prog n caps w' fun e w3 => e = .returned (.tuple #[]) ∧ LZ w3 lb sb cap (zb (.slice (some ⟨fb, 0, none⟩) (s.length - 1) fc) ++ Z) (L ++ altM l L.length EE 0 ++ bld s[s.length - 1] (L.length + szL l + 2 * (s.length - 1))) ∧ But (two lb sb) w' w3) := hid_intro (fun w' n caps hb hc => by
        have := hc w' _ _ (But.refl _ _) (hls.below hb) (by
          rw [hlA]
          have := HM.out.1
          have := HM.out.2.2.2.2.1
          omega)
        rw [hlA] at this
        exact this)
      have HPA := hid_intro (fun w' (hb : Below wr.heap.size wr w') => hpart w' (But.ofBelow hb))
      have HR := hid_intro (And.intro hrow (And.intro hwait hbt))
      have HLA := hid_intro hlA
      have HYL : Hid (∀ n, (bld s[s.length - 1] n).length = szX s[s.length - 1]) := hid_intro (fun n => HPO.out.sz _ (List.getElem_mem hlast) n)
      clear hrow hwait hls hbt hpart HI HPR h3 hnb' e0 e1 e2 e3 e4 e5 hlA htk hfl
      go_wp2_with fail
      go_region_held3 (fun w' => (w'.cell? ⟨p, 0, none⟩ = some (.slice (some ⟨b, off, none⟩) s.length cp) ∧ w'.cell? ⟨q, 0, none⟩ = some (.int .i64 ((s.length : Int) - 1)) ∧ w'.cell? ⟨r0, 0, none⟩ = some (.pointer (some ⟨lb, 0, none⟩))) ∧ w'.cell? ⟨b, off + (s.length - 1) * 6, none⟩ = some (.int .i64 x0) ∧ w'.cell? ⟨b, off + (s.length - 1) * 6 + 1, none⟩ = some (.slice x1 x2 x3) ∧ w'.cell? ⟨b, off + (s.length - 1) * 6 + 2, none⟩ = some (.int .i64 x4) ∧ w'.cell? ⟨b, off + (s.length - 1) * 6 + 3, none⟩ = some (.int .i64 x5) ∧ w'.cell? ⟨b, off + (s.length - 1) * 6 + 4, none⟩ = some (.bool x6) ∧ w'.cell? ⟨b, off + (s.length - 1) * 6 + 5, none⟩ = some (.slice x7 x8 x9)) (first | (refine HS2.out _ ?_; with_reducible repeat (first | exact But.refl _ _ | refine But.drew ?_ | refine But.trans ?_ hbt5 | refine But.below ?_ hb4)) | fail) (first | (go_at_call 27; refine (HPA.out _ ?_).mono ?_; (with_reducible repeat (first | exact Below.refl _ _ | refine vb_d ?_)); rintro e w4 ⟨v4, rfl, hfn, hb4⟩; obtain ⟨fnum, caps, rfl, hent, hcall0⟩ := hfn) | (refine (HCL.out _ _ _ ?_ hcall0).mono ?_; (with_reducible repeat (first | exact Below.refl _ _ | refine vb_d ?_ | refine vb_t ?_ hb4)); rintro e w5 ⟨rfl, hls5, hbt5⟩) | fail)
      all_goals
        have hb5 : But (two lb sb) wr w5 := by with_reducible repeat (first | exact But.refl _ _ | refine But.drew ?_ | refine But.trans ?_ hbt5 | refine But.below ?_ hb4)
        have hnt : ∀ k, (Value.slice (some ⟨fb, 0, none⟩) (s.length - 1) fc).ownBlock = some k → ¬ two lb sb k := fun k hk e => by
          have := (HR.out.1.lt k hk).1
          have := HH.out.lt
          rcases e with e | e <;> omega
        have HRW : Hid (∀ wx, But (two lb sb) w5 wx → ∀ i, i < s.length - 1 → ∃ p1 q1, wx.cell? ⟨fb, i, none⟩ = some (.func (.func 57) #[] #[.pointer (some ⟨p1, 0, none⟩), .pointer (some ⟨q1, 0, none⟩)]) ∧ Cap wx lb sb p1 q1 (L.length + jat l i)) := hid_intro (fun wx hb i hi => by
          have ho := own_but HR.out.1 (hb5.trans hb) hnt
          obtain ⟨p1, q1, f1, f2, _⟩ := (HR.out.2.1.but (hb5.trans hb)) i hi
          exact ⟨p1, q1, (ho.cellAt i (by omega)).trans f1, f2⟩)
        have HB5 := hid_intro (HR.out.2.2.trans hb5)
        have HL5 := hid_intro hls5
        have hlt1 : (0 : Int) ≤ ((s.length - 1 : Nat) : Int) := by omega
        clear hb5 hls5 hbt5 hcall0 hent hb4 HPA HCL HS2 HR HS HPO hnt
        go_wp2_with fail
        go_loopg [40] (s.length - 1) (fun m s40 wx => ∃ i : Nat, i ≤ s.length - 1 ∧ m = s.length - 1 - i ∧ s40 = .int .i64 (i : Int) ∧ Hid (LZ wx lb sb cap (zb (.slice (some ⟨fb, 0, none⟩) (s.length - 1) fc) ++ Z) (L ++ altM l L.length EE i ++ bld s[s.length - 1] (L.length + szL l + 2 * (s.length - 1))) ∧ But (two lb sb) w5 wx))
        case atStart => exact ⟨0, Nat.zero_le _, rfl, rfl, HL5.out, But.refl _ _⟩
        case round =>
          obtain ⟨i, hi, rfl, rfl, HE⟩ := hrel
          by_cases hlt : i < s.length - 1
          · have hJ3 : (i : Int) < ((s.length - 1 : Nat) : Int) := by omega
            obtain ⟨p1, q1, cf, hcap⟩ := HRW.out _ HE.out.2 i hlt
            have hll := HM.out.2.2.2.1
            have hlsz := HM.out.2.2.2.2.2.1
            have hal := altM_len l hlsz L.length EE i
            have hyl := HYL.out (L.length + szL l + 2 * (s.length - 1))
            have htot : (L ++ altM l L.length EE i ++ bld s[s.length - 1] (L.length + szL l + 2 * (s.length - 1))).length = EE := by
              rw [List.length_append, List.length_append, hal, hyl, ← HM.out.2.2.2.2.2.2.2.2, HM.out.2.2.2.2.1, hll]; omega
            have hjt : L.length + jat l i < (L ++ altM l L.length EE i ++ bld s[s.length - 1] (L.length + szL l + 2 * (s.length - 1))).length := by
              obtain ⟨⟨a, h1⟩, _⟩ := altM_turn l hlsz L.length EE i (by omega)
              have := (List.getElem?_eq_some_iff.1 h1).1
              rw [List.length_append, List.length_append]; omega
            have hcall := jump1Z_any lb sb cap p1 q1 _ _ _ _ HE.out.1 hcap hjt
            rw [setAB_alt L l _ hlsz EE i (by omega) htot] at hcall
            clear hcap hll hlsz hal hyl htot hjt
            go_wp2_with fail
            refine hcall.mono ?_; rintro e w6 ⟨rfl, hls6, hbt6⟩
            have HE2 := hid_intro (And.intro hls6 (HE.out.2.trans hbt6))
            clear hcall hls6 hbt6 cf
            go_wp2_with fail
            go_roundg (s.length - 1 - (i + 1))
            case measure => omega
            case rel => exact ⟨i + 1, by omega, rfl, by simp, HE2⟩
          · have hjl : i = s.length - 1 := by omega
            subst hjl
            go_wp2_with fail
            go_end0
            rw [HP.out]
            refine ⟨rfl, ?_, HB5.out.trans HE.out.2⟩
            have h := HE.out.1.sub (Z' := Z) (fun z hz => List.mem_append_right _ hz)
            have e1 : bldA s L.length EE = altM l L.length EE (s.length - 1) ++ bld s[s.length - 1] (L.length + szL l + 2 * (s.length - 1)) := by
              have e0 := bldA_snoc l s[s.length - 1] L.length EE
              rw [← HM.out.2.2.2.2.2.2.2.1, HM.out.2.2.2.1] at e0
              exact e0
            rw [HM.out.2.2.2.2.2.2.2.2, e1, ← List.append_assoc]
            exact h
end Go.Proofs.Ytcgohdfpmfpfiaa

namespace Go.Proofs.Ytcgohdfpmfpfiaa

/-- A state moved along. -/
def shiftS (d : Int) (s : ST) : ST := ⟨s.k, s.r, s.a + d, if s.k = 2 then s.b + d else s.b⟩
theorem rep_shift (g g' : Nat → List ST) (q d : Nat) (h : ∀ n, g' (n + d) = (g n).map (shiftS (d : Int))) : ∀ c n, rep g' q (n + d) c = (rep g q n c).map (shiftS (d : Int))
  | 0, _ => rfl
  | c + 1, n => by
    rw [rep, rep, List.map_append, h, show n + d + q = n + q + d by omega, rep_shift g g' q d h c (n + q)]
theorem bldL_shift {l : List RX} {d : Nat} (h : ∀ x ∈ l, ∀ n, bld x (n + d) = (bld x n).map (shiftS (d : Int))) : ∀ n, bldL l (n + d) = (bldL l n).map (shiftS (d : Int)) := by
  induction l with
  | nil => intro n; rfl
  | cons x l ih =>
    intro n
    rw [bldL, bldL, List.map_append, h x (by simp), show n + d + szX x = n + szX x + d by omega, ih (fun y hy => h y (by simp [hy]))]
theorem bldA_shift {l : List RX} {d : Nat} (h : ∀ x ∈ l, ∀ n, bld x (n + d) = (bld x n).map (shiftS (d : Int))) : ∀ n e, bldA l (n + d) (e + d) = (bldA l n e).map (shiftS (d : Int)) := by
  induction l with
  | nil => intro n e; rfl
  | cons x l ih =>
    intro n e
    rw [bldA, bldA, List.map_append, show n + d + szX x + 2 = n + szX x + 2 + d by omega, ih (fun y hy => h y (by simp [hy]))]
    congr 1
    by_cases h0 : l.length = 0
    · rw [if_pos h0, if_pos h0, h x (by simp)]
    · rw [if_neg h0, if_neg h0, show n + d + 1 = n + 1 + d by omega, h x (by simp)]
      simp [shiftS]
      omega
theorem bld_shift (d : Nat) : ∀ (t : RX) (n : Nat), bld t (n + d) = (bld t n).map (shiftS (d : Int)) := by
  intro t
  induction t using RX.ind with
  | h k r lo hi z s ih =>
    intro n
    have hL := bldL_shift (d := d) ih
    have hA := bldA_shift (d := d) ih
    by_cases c5 : k = 5
    · subst c5
      rw [bld_5, bld_5]
      by_cases hh : hi = -1
      · rw [if_pos hh, if_pos hh, List.map_append, rep_shift (bldL s) (bldL s) (szL s) d hL, show n + d + lo.toNat * szL s + 1 = n + lo.toNat * szL s + 1 + d by omega]
        congr 1
        rw [List.map_append, List.map_cons, hL]
        generalize lo.toNat * szL s = m
        simp [shiftS]
        omega
      · rw [if_neg hh, if_neg hh, List.map_append, rep_shift (bldL s) (bldL s) (szL s) d hL, show n + d + lo.toNat * szL s = n + lo.toNat * szL s + d by omega]
        congr 1
        refine rep_shift _ _ _ d (fun p => ?_) _ _
        rw [List.map_cons, show p + d + 1 = p + 1 + d by omega, hL]
        generalize lo.toNat * szL s = m
        generalize (hi - lo).toNat * (szL s + 1) = m2
        simp [shiftS]
        omega
    · rw [bld, bld]
      by_cases c2 : k = 2
      · rw [if_pos c2, if_pos c2]; simp [shiftS]; omega
      · rw [if_neg c2, if_neg c2]
        by_cases c6 : k = 6
        · rw [if_pos c6, if_pos c6]; simp [shiftS]; omega
        · rw [if_neg c6, if_neg c6]
          by_cases c7 : k = 7
          · rw [if_pos c7, if_pos c7]; simp [shiftS]; omega
          · rw [if_neg c7, if_neg c7]
            by_cases c8 : k = 8
            · rw [if_pos c8, if_pos c8]; simp [shiftS]; omega
            · rw [if_neg c8, if_neg c8]
              by_cases c9 : k = 9
              · rw [if_pos c9, if_pos c9]; simp [shiftS]; omega
              · rw [if_neg c9, if_neg c9]
                by_cases c3 : k = 3
                · rw [if_pos c3, if_pos c3]; exact hL n
                · rw [if_neg c3, if_neg c3]
                  by_cases c4 : k = 4
                  · rw [if_pos c4, if_pos c4, show n + d + (szL s + (s.length - 1) * 2) = n + (szL s + (s.length - 1) * 2) + d by omega]; exact hA _ _
                  · rw [if_neg c4, if_neg c4, if_neg c5, if_neg c5]; rfl
/-- Where a state of a tree may lead to. -/
def GoodS (M : Nat) (s : ST) : Prop := 1 ≤ s.k ∧ s.k ≤ 6 ∧ 0 ≤ s.a ∧ s.a ≤ (M : Int) ∧ 0 ≤ s.b ∧ s.b ≤ (M : Int) ∧ (s.k ≠ 2 → s.b = 0) ∧ (s.k ≠ 1 → s.r = []) ∧ rgB s.r = true
theorem GoodS.mono {M N : Nat} {s : ST} (h : GoodS M s) (hl : M ≤ N) : GoodS N s := by
  obtain ⟨h1, h2, h3, h4, h5, h6, h7⟩ := h
  exact ⟨h1, h2, h3, by omega, h5, by omega, h7⟩
theorem rg_nil : rgB [] = true := by decide
theorem good_fork (a b : Int) (M : Nat) (h : 0 ≤ a ∧ a ≤ (M : Int) ∧ 0 ≤ b ∧ b ≤ (M : Int)) : GoodS M ⟨2, [], a, b⟩ :=
  ⟨by simp, by simp, h.1, h.2.1, h.2.2.1, h.2.2.2, fun h => absurd rfl h, fun _ => rfl, rg_nil⟩
theorem good_rep (g : Nat → List ST) (q M : Nat) (h : ∀ n, n + q ≤ M → ∀ s ∈ g n, GoodS M s) : ∀ c n, n + c * q ≤ M → ∀ s ∈ rep g q n c, GoodS M s
  | 0, _, _, s, hs => by simp [rep] at hs
  | c + 1, n, hM, s, hs => by
    rw [Nat.succ_mul] at hM
    rcases List.mem_append.1 hs with hs | hs
    · exact h n (by omega) s hs
    · exact good_rep g q M h c (n + q) (by omega) s hs
theorem good_L {l : List RX} {M : Nat} (h : ∀ x ∈ l, ∀ n, n + szX x ≤ M → ∀ s ∈ bld x n, GoodS M s) : ∀ n, n + szL l ≤ M → ∀ s ∈ bldL l n, GoodS M s := by
  induction l with
  | nil => intro n _ s hs; simp [bldL] at hs
  | cons x l ih =>
    intro n hM s hs
    simp only [szL] at hM
    rcases List.mem_append.1 hs with hs | hs
    · exact h x (by simp) n (by omega) s hs
    · exact ih (fun y hy => h y (by simp [hy])) (n + szX x) (by omega) s hs
theorem good_A {l : List RX} {M : Nat} (h : ∀ x ∈ l, ∀ n, n + szX x ≤ M → ∀ s ∈ bld x n, GoodS M s) : ∀ n e, e ≤ M → n + (szL l + (l.length - 1) * 2) ≤ M → ∀ s ∈ bldA l n e, GoodS M s := by
  induction l with
  | nil => intro n e _ _ s hs; simp [bldA] at hs
  | cons x l ih =>
    intro n e he hM s hs
    simp only [szL, List.length_cons] at hM
    rw [bldA] at hs
    rcases List.mem_append.1 hs with hs | hs
    · by_cases h0 : l.length = 0
      · rw [if_pos h0] at hs
        exact h x (by simp) n (by omega) s hs
      · rw [if_neg h0] at hs
        rcases List.mem_cons.1 hs with rfl | hs
        · exact good_fork _ _ _ (by omega)
        · rcases List.mem_append.1 hs with hs | hs
          · exact h x (by simp) (n + 1) (by omega) s hs
          · obtain rfl := List.mem_singleton.1 hs
            exact good_fork _ _ _ (by omega)
    · by_cases h0 : l.length = 0
      · obtain rfl : l = [] := List.eq_nil_of_length_eq_zero h0
        simp [bldA] at hs
      · exact ih (fun y hy => h y (by simp [hy])) (n + szX x + 2) e he (by omega) s hs
/-- The states of a right tree. -/
theorem bld_good : ∀ (t : RX) (d : Nat), rightB d t = true → ∀ (M n : Nat), n + szX t ≤ M → ∀ s ∈ bld t n, GoodS M s := by
  intro t
  induction t using RX.ind with
  | h k r lo hi z s ih =>
    intro d hr M n hM st hst
    obtain ⟨⟨e, rfl, hre⟩, hk4, hk5⟩ := right_parts hr
    have hrg : rgB r = true := by
      simp only [rightB, Bool.and_eq_true] at hr
      have := hr.1.1
      unfold headB at this
      cases hb : rgB r
      · rw [hb] at this; simp at this
      · rfl
    have hs : ∀ x ∈ s, ∀ n, n + szX x ≤ M → ∀ st ∈ bld x n, GoodS M st := fun x hx n hn => ih x hx e (hre x hx) M n hn
    have one : ∀ (k' : Int), 1 ≤ k' → k' ≤ 6 → k' ≠ 2 → n + 1 ≤ M → GoodS M ⟨k', [], (n : Int) + 1, 0⟩ := fun k' h1 h2 _ h4 => ⟨h1, h2, (by show (0 : Int) ≤ (n : Int) + 1; omega), (by show (n : Int) + 1 ≤ (M : Int); omega), Int.le_refl _, (by show (0 : Int) ≤ (M : Int); omega), fun _ => rfl, fun _ => rfl, rg_nil⟩
    by_cases c5 : k = 5
    · subst c5
      obtain ⟨_, hlo, _, hhi⟩ := hk5 rfl
      rw [szX_5] at hM
      rw [bld_5] at hst
      have hL : ∀ n, n + szL s ≤ M → ∀ st ∈ bldL s n, GoodS M st := good_L hs
      by_cases hh : hi = -1
      · rw [if_pos hh] at hst hM
        rcases List.mem_append.1 hst with hst | hst
        · exact good_rep _ _ M hL _ _ (by omega) st hst
        · rcases List.mem_append.1 hst with hst | hst
          · rcases List.mem_cons.1 hst with rfl | hst
            · exact good_fork _ _ _ (by omega)
            · exact hL _ (by omega) st hst
          · obtain rfl := List.mem_singleton.1 hst
            exact good_fork _ _ _ (by omega)
      · rw [if_neg hh] at hst hM
        rcases List.mem_append.1 hst with hst | hst
        · exact good_rep _ _ M hL _ _ (by omega) st hst
        · refine good_rep _ _ M (fun p hp st hst => ?_) _ _ (by omega) st hst
          rcases List.mem_cons.1 hst with rfl | hst
          · exact good_fork _ _ _ (by omega)
          · exact hL _ (by omega) st hst
    · rw [bld] at hst
      rw [szX] at hM
      by_cases c1 : k = 1
      · subst c1; simp at hst
      · rw [if_neg c1] at hM
        by_cases c3 : k = 3
        · subst c3; simp at hst hM; exact good_L hs n hM st hst
        · by_cases c4 : k = 4
          · subst c4; simp at hst hM; exact good_A hs n _ (by omega) hM st hst
          · rw [if_neg c3, if_neg c4, if_neg c5] at hM
            rw [if_neg c3, if_neg c4, if_neg c5] at hst
            by_cases c2 : k = 2
            · rw [if_pos c2] at hst
              obtain rfl := List.mem_singleton.1 hst
              exact ⟨by simp, by simp, (by show (0 : Int) ≤ (n : Int) + 1; omega), (by show (n : Int) + 1 ≤ (M : Int); omega), Int.le_refl _, (by show (0 : Int) ≤ (M : Int); omega), fun _ => rfl, fun h => absurd rfl h, hrg⟩
            · rw [if_neg c2] at hst
              by_cases c6 : k = 6
              · rw [if_pos c6] at hst; obtain rfl := List.mem_singleton.1 hst; exact one 3 (by omega) (by omega) (by omega) hM
              · rw [if_neg c6] at hst
                by_cases c7 : k = 7
                · rw [if_pos c7] at hst; obtain rfl := List.mem_singleton.1 hst; exact one 4 (by omega) (by omega) (by omega) hM
                · rw [if_neg c7] at hst
                  by_cases c8 : k = 8
                  · rw [if_pos c8] at hst; obtain rfl := List.mem_singleton.1 hst; exact one 5 (by omega) (by omega) (by omega) hM
                  · rw [if_neg c8] at hst
                    by_cases c9 : k = 9
                    · rw [if_pos c9] at hst; obtain rfl := List.mem_singleton.1 hst; exact one 6 (by omega) (by omega) (by omega) hM
                    · rw [if_neg c9] at hst; simp at hst
end Go.Proofs.Ytcgohdfpmfpfiaa

namespace Go.Proofs.Ytcgohdfpmfpfiaa
open Go.RowKit
attribute [local go_sem] setCell_drewN alloc_drewN

/-- Where a row of q states that begins at a place lies. -/
def rof (q a : Nat) : Nat := if q = 0 then 0 else a * 4
theorem wrap64_of {n : Int} (h1 : -9223372036854775808 ≤ n) (h2 : n ≤ 9223372036854775807) : wrap64 n = n := by unfold wrap64; omega
set_option maxRecDepth 100000 in
set_option maxHeartbeats 6400000 in
theorem again_any (lb sb cap : Nat) (Z : List Nat) (L : List ST) (w : World) (h : LZ w lb sb cap Z L) (a q : Nat) (haq : a + q ≤ L.length) (hroom : L.length + q ≤ cap)
    (hbd : ∀ s ∈ (L.drop a).take q, 0 ≤ s.a ∧ s.a ≤ 65536 ∧ 0 ≤ s.b ∧ s.b ≤ 65536 ∧ s.r.length ≤ 1099511627776) :
    Calls Try.prog 59 #[.pointer (some ⟨lb, 0, none⟩), .slice (some ⟨sb, rof q a, none⟩) q q, .int .i64 (a : Int)] w fun e w' => e = .returned (.tuple #[]) ∧ LZ w' lb sb cap Z (L ++ ((L.drop a).take q).map (shiftS ((L.length : Int) - (a : Int)))) ∧ But (two lb sb) w w' := by
  have hlen := h.len
  have hnx := nextZ_any lb sb cap Z L w h
  obtain ⟨P, hP⟩ : ∃ P : Ending → World → Prop, P = fun e w' => e = .returned (.tuple #[]) ∧ LZ w' lb sb cap Z (L ++ ((L.drop a).take q).map (shiftS ((L.length : Int) - (a : Int)))) ∧ But (two lb sb) w w' := ⟨_, rfl⟩
  rw [← hP]
  have HP := hid_intro hP
  clear hP
  obtain ⟨D, hDe⟩ : ∃ D, (L.length : Int) - (a : Int) = D := ⟨_, rfl⟩
  have hwr : wrap64 ((L.length : Int) - (a : Int)) = D := by rw [wrap64_of (by omega) (by omega)]; exact hDe
  have hD : 0 ≤ D ∧ D ≤ 65536 := by omega
  have HH := hid_intro h
  have HM := hid_intro (And.intro haq (And.intro hroom hbd))
  have hqI : (q : Int) ≤ 65536 := by omega
  have HRF : Hid (q ≠ 0 → rof q a = a * 4) := hid_intro (fun hq => if_neg hq)
  generalize rof q a = ro at *
  clear h haq hroom hbd hlen
  rw [hDe] at HP
  clear hDe
  go_enter Try.func59, Try.ntmps59
  go_wp2_with fail
  refine hnx.mono ?_; rintro e w0 ⟨rfl, hb0⟩
  have HB0 := hid_intro hb0
  clear hnx hb0
  go_wp2_with fail
  rw [hwr]
  clear hwr
  go_loopg [15] q (fun m s15 wr => ∃ i : Nat, i ≤ q ∧ m = q - i ∧ s15 = .int .i64 (i : Int) ∧ Hid (LZ wr lb sb cap Z (L ++ ((L.drop a).take i).map (shiftS D)) ∧ But (two lb sb) w wr))
  case atStart => exact ⟨0, Nat.zero_le _, rfl, rfl, by simpa using HH.out.below HB0.out, But.ofBelow HB0.out⟩
  case round =>
    obtain ⟨i, hi, rfl, rfl, HZ⟩ := hrel
    by_cases hlt : i < q
    · have hJ : (i : Int) < (q : Int) := by omega
      obtain rfl : ro = a * 4 := HRF.out (by omega)
      have hai : a + i < L.length := by have := HM.out.1; omega
      have hln : (L ++ ((L.drop a).take i).map (shiftS D)).length = L.length + i := by
        rw [List.length_append, List.length_map, List.length_take, List.length_drop]
        omega
      have hsa : sa (L ++ ((L.drop a).take i).map (shiftS D)) (a + i) = sa L (a + i) := by
        unfold sa; rw [List.getD_eq_getElem?_getD, List.getD_eq_getElem?_getD, List.getElem?_append_left hai]
      have hget : (L.drop a)[i]? = some (sa L (a + i)) := by
        rw [List.getElem?_drop, sa_get hai]; exact List.getElem?_eq_getElem hai
      have hmem : sa L (a + i) ∈ (L.drop a).take q := List.mem_of_getElem? (i := i) (by rw [List.getElem?_take, if_pos hlt]; exact hget)
      have htk : (L.drop a).take (i + 1) = (L.drop a).take i ++ [sa L (a + i)] := by rw [List.take_add_one, hget]; rfl
      have hbs := HM.out.2.2 _ hmem
      obtain ⟨⟨rv, g0, g1, g2, g3, hRx⟩, _⟩ := HZ.out.1.at (a + i) (by rw [hln]; omega)
      rw [hsa] at g0 g2 g3 hRx
      have e4 : (a + i) * 4 = a * 4 + i * 4 := by omega
      rw [e4] at g0 g1 g2 g3
      have HRO : Hid (L.length + i + 1 ≤ cap) := hid_intro (by have := HM.out.2.1; omega)
      have HLN := hid_intro hln
      obtain ⟨ao, cc, rfl, _⟩ := hRx.shape
      generalize sa L (a + i) = x at *
      obtain ⟨K, r, A, B⟩ := x
      dsimp only at *
      have hwA : wrap64 (A + D) = A + D := wrap64_of (by omega) (by omega)
      have hwB : wrap64 (B + D) = B + D := wrap64_of (by omega) (by omega)
      have hrl := hbs.2.2.2.2
      clear hbs hmem hget hsa e4 hai hln
      by_cases k2 : K = 2
      · subst k2
        have HTK : Hid ((L.drop a).take (i + 1) = (L.drop a).take i ++ [⟨2, r, A, B⟩]) := hid_intro htk
        clear htk
        obtain ⟨V, hV⟩ : ∃ V, wr.alloc (.cells #[.int .i64 2, .slice ao r.length cc, .int .i64 (A + D), .int .i64 (B + D)] 40) = V := ⟨_, rfl⟩
        have hbV : Below wr.heap.size wr V := hV ▸ vb_a (Below.refl _ _) _
        have kV : Bk V wr.heap.size #[.int .i64 2, .slice ao r.length cc, .int .i64 (A + D), .int .i64 (B + D)] := hV ▸ Bk.new _ _ _
        have hcl := clone_any r (.slice ao r.length cc) _ V (hRx.kept hbV) hrl
        have HV := hid_intro hV
        have HBV := hid_intro hbV
        have HKV := hid_intro kV
        clear hV hbV kV
        go_wp2_with fail
        rw [HV.out]
        refine hcl.mono ?_; rintro e w3 ⟨v3, rfl, ho3, hb3⟩
        obtain ⟨ao3, c3, rfl⟩ := ho3.shape
        have k3 := HKV.out.bel hb3
        have d1 := k3.cell 1
        have z1 := k3.frz 1
        obtain ⟨V2, hV2⟩ : ∃ V2, w3.setCell ⟨wr.heap.size, 1, none⟩ (.slice ao3 r.length c3) = V2 := ⟨_, rfl⟩
        have hbw3 : Below wr.heap.size wr w3 := vb_t HBV.out hb3
        have hb2 : Below wr.heap.size wr V2 := hV2 ▸ vb_s hbw3 (Nat.le_refl _) _
        have k2 : Bk V2 wr.heap.size #[.int .i64 2, .slice ao3 r.length c3, .int .i64 (A + D), .int .i64 (B + D)] := hV2 ▸ k3.set 1 _ rfl
        have ho2 : OwnR V2 wr.heap.size (.slice ao3 r.length c3) r := by
          rw [← hV2]
          exact (OwnR.away (ho3.mono HBV.out.size) (fun e => by have := (ho3.lt _ e).1; have h9 : wr.heap.size < V.heap.size := HKV.out.lt; simp at this; omega) _)
        have HV2 := hid_intro hV2
        have HB2 := hid_intro hb2
        have HO2 := hid_intro ho2
        have HLZ := hid_intro HZ.out.1
        obtain ⟨M, hM, _, _, _, hown, hRs, _, _⟩ := HZ.out.1
        have hown2 : ∀ w', Below wr.heap.size wr w' → w'.ownsRow 0 40 4 (.slice (some ⟨sb, 0, none⟩) (L.length + i) cap) (L.length + i) (flatS M) := fun w' hb => by
          have := hown.kept (w' := w') (row := none) ⟨hb.os, hb.tape, hb.output, hb.size, fun b hl _ => hb.block b hl⟩ (Or.inr (fun e => by cases e))
          rw [HLN.out] at this
          exact this
        have HO := hid_intro hown2
        have HMR := hid_intro (And.intro hM hRs)
        have HS : Hid (∀ w', But (fun b => b = sb) wr w' → w'.cell? ⟨lb, 0, none⟩ = some (.slice (some ⟨sb, 0, none⟩) (L.length + i) cap) ∧ w'.frozen? ⟨lb, 0, none⟩ = false) := hid_intro (fun w' hb => by
          have hc := HLZ.out.cell
          have e := hb.block lb HLZ.out.lt.1 HLZ.out.ne
          rw [HLN.out] at hc
          exact ⟨(World.cell?_of_block (w := wr) (w' := w') e).trans hc.1, by rw [← hc.2]; simp only [World.frozen?, e]⟩)
        obtain ⟨l2, z2⟩ := HS.out V2 (But.ofBelow hb2)
        have l3 : ∀ o, (V2.alloc o).cell? ⟨lb, 0, none⟩ = some (.slice (some ⟨sb, 0, none⟩) (L.length + i) cap) := fun o => (HS.out _ (But.ofBelow (vb_a hb2 o))).1
        have m0 := k2.cell 0
        have m1 := k2.cell 1
        have m2 := k2.cell 2
        have m3 := k2.cell 3
        have n0 : ∀ o, (V2.alloc o).cell? ⟨wr.heap.size, 0, none⟩ = some (.int .i64 2) := fun o => (k2.al o).cell 0
        have n1 : ∀ o, (V2.alloc o).cell? ⟨wr.heap.size, 1, none⟩ = some (.slice ao3 r.length c3) := fun o => (k2.al o).cell 1
        have n2 : ∀ o, (V2.alloc o).cell? ⟨wr.heap.size, 2, none⟩ = some (.int .i64 (A + D)) := fun o => (k2.al o).cell 2
        have n3 : ∀ o, (V2.alloc o).cell? ⟨wr.heap.size, 3, none⟩ = some (.int .i64 (B + D)) := fun o => (k2.al o).cell 3
        clear hV2 hbw3 hb2 k2 ho2 hM hRs hown hown2 hcl ho3 hb3 k3 hRx
        go_wp2_with fail
        rw [HV2.out]
        clear d1 z1 g0 g1 g2 g3
        go_region_law (first | (refine step_append_st (by rfl) _ _ (by rfl) sb (L.length + i) cap (flatS M) (by rfl) V2.heap.size (.int .i64 2) (.slice ao3 r.length c3) (.int .i64 (A + D)) (.int .i64 (B + D)) (by rfl) HRO.out ⟨rfl, rfl, rfl, rfl⟩ ?_ ?_ ?_; (with_reducible repeat (first | exact Bk.new _ _ _ | refine Bk.dw ?_)); (refine HO.out _ (vb_t HB2.out ?_); with_reducible repeat (first | exact Below.refl _ _ | refine vb_d ?_ | refine vb_a ?_ _)); intro w6 ho6 hg6; have hB6 : But (fun b => b = sb) wr w6 := But.grown (But.ofBelow (vb_t HB2.out (by with_reducible repeat (first | exact Below.refl _ _ | refine vb_d ?_ | refine vb_a ?_ _)))) hg6 (fun b e => by injection e with e; exact Or.inl e.symm); obtain ⟨l6, z6⟩ := HS.out w6 hB6) | fail)
        all_goals
          have hput := LZ.put (w := wr) (lb := lb) (sb := sb) (cap := cap) (Z := Z) ⟨2, r, A + D, (B + D)⟩ (.slice ao3 r.length c3) M HMR.out.1 HLZ.out HMR.out.2 (vb_t HB2.out (by with_reducible repeat (first | exact Below.refl _ _ | refine vb_d ?_ | refine vb_a ?_ _))) hg6 (by rw [HLN.out]; exact ho6) (Or.inl (OwnR.below (w := V2) HO2.out (by with_reducible repeat (first | exact Below.refl _ _ | refine vb_d ?_ | refine vb_a ?_ _))))
          rw [HLN.out] at hput
          have HPU := hid_intro hput
          clear hput ho6 hg6 hB6 l6 z6 l2 z2 l3 m0 m1 m2 m3 n0 n1 n2 n3 HS HO HMR HLZ HO2 HB2 HV2 HKV HBV HV
          go_wp2_with fail
          go_roundg (q - (i + 1))
          case measure => omega
          case rel => exact ⟨i + 1, by omega, rfl, by simp, by
            rw [HTK.out, List.map_append, ← List.append_assoc]
            exact HPU.out.1, HZ.out.2.trans HPU.out.2⟩
      · have HTK : Hid ((L.drop a).take (i + 1) = (L.drop a).take i ++ [⟨K, r, A, B⟩]) := hid_intro htk
        have HK2 : Hid (shiftS D ⟨K, r, A, B⟩ = ⟨K, r, A + D, B⟩) := hid_intro (by unfold shiftS; dsimp only; rw [if_neg k2])
        clear htk
        obtain ⟨V, hV⟩ : ∃ V, wr.alloc (.cells #[.int .i64 K, .slice ao r.length cc, .int .i64 (A + D), .int .i64 B] 40) = V := ⟨_, rfl⟩
        have hbV : Below wr.heap.size wr V := hV ▸ vb_a (Below.refl _ _) _
        have kV : Bk V wr.heap.size #[.int .i64 K, .slice ao r.length cc, .int .i64 (A + D), .int .i64 B] := hV ▸ Bk.new _ _ _
        have hcl := clone_any r (.slice ao r.length cc) _ V (hRx.kept hbV) hrl
        have HV := hid_intro hV
        have HBV := hid_intro hbV
        have HKV := hid_intro kV
        clear hV hbV kV
        go_wp2_with fail
        rw [HV.out]
        refine hcl.mono ?_; rintro e w3 ⟨v3, rfl, ho3, hb3⟩
        obtain ⟨ao3, c3, rfl⟩ := ho3.shape
        have k3 := HKV.out.bel hb3
        have d1 := k3.cell 1
        have z1 := k3.frz 1
        obtain ⟨V2, hV2⟩ : ∃ V2, w3.setCell ⟨wr.heap.size, 1, none⟩ (.slice ao3 r.length c3) = V2 := ⟨_, rfl⟩
        have hbw3 : Below wr.heap.size wr w3 := vb_t HBV.out hb3
        have hb2 : Below wr.heap.size wr V2 := hV2 ▸ vb_s hbw3 (Nat.le_refl _) _
        have k2 : Bk V2 wr.heap.size #[.int .i64 K, .slice ao3 r.length c3, .int .i64 (A + D), .int .i64 B] := hV2 ▸ k3.set 1 _ rfl
        have ho2 : OwnR V2 wr.heap.size (.slice ao3 r.length c3) r := by
          rw [← hV2]
          exact (OwnR.away (ho3.mono HBV.out.size) (fun e => by have := (ho3.lt _ e).1; have h9 : wr.heap.size < V.heap.size := HKV.out.lt; simp at this; omega) _)
        have HV2 := hid_intro hV2
        have HB2 := hid_intro hb2
        have HO2 := hid_intro ho2
        have HLZ := hid_intro HZ.out.1
        obtain ⟨M, hM, _, _, _, hown, hRs, _, _⟩ := HZ.out.1
        have hown2 : ∀ w', Below wr.heap.size wr w' → w'.ownsRow 0 40 4 (.slice (some ⟨sb, 0, none⟩) (L.length + i) cap) (L.length + i) (flatS M) := fun w' hb => by
          have := hown.kept (w' := w') (row := none) ⟨hb.os, hb.tape, hb.output, hb.size, fun b hl _ => hb.block b hl⟩ (Or.inr (fun e => by cases e))
          rw [HLN.out] at this
          exact this
        have HO := hid_intro hown2
        have HMR := hid_intro (And.intro hM hRs)
        have HS : Hid (∀ w', But (fun b => b = sb) wr w' → w'.cell? ⟨lb, 0, none⟩ = some (.slice (some ⟨sb, 0, none⟩) (L.length + i) cap) ∧ w'.frozen? ⟨lb, 0, none⟩ = false) := hid_intro (fun w' hb => by
          have hc := HLZ.out.cell
          have e := hb.block lb HLZ.out.lt.1 HLZ.out.ne
          rw [HLN.out] at hc
          exact ⟨(World.cell?_of_block (w := wr) (w' := w') e).trans hc.1, by rw [← hc.2]; simp only [World.frozen?, e]⟩)
        obtain ⟨l2, z2⟩ := HS.out V2 (But.ofBelow hb2)
        have l3 : ∀ o, (V2.alloc o).cell? ⟨lb, 0, none⟩ = some (.slice (some ⟨sb, 0, none⟩) (L.length + i) cap) := fun o => (HS.out _ (But.ofBelow (vb_a hb2 o))).1
        have m0 := k2.cell 0
        have m1 := k2.cell 1
        have m2 := k2.cell 2
        have m3 := k2.cell 3
        have n0 : ∀ o, (V2.alloc o).cell? ⟨wr.heap.size, 0, none⟩ = some (.int .i64 K) := fun o => (k2.al o).cell 0
        have n1 : ∀ o, (V2.alloc o).cell? ⟨wr.heap.size, 1, none⟩ = some (.slice ao3 r.length c3) := fun o => (k2.al o).cell 1
        have n2 : ∀ o, (V2.alloc o).cell? ⟨wr.heap.size, 2, none⟩ = some (.int .i64 (A + D)) := fun o => (k2.al o).cell 2
        have n3 : ∀ o, (V2.alloc o).cell? ⟨wr.heap.size, 3, none⟩ = some (.int .i64 B) := fun o => (k2.al o).cell 3
        clear hV2 hbw3 hb2 k2 ho2 hM hRs hown hown2 hcl ho3 hb3 k3 hRx
        go_wp2_with fail
        rw [HV2.out]
        clear d1 z1 g0 g1 g2 g3
        go_region_law (first | (refine step_append_st (by rfl) _ _ (by rfl) sb (L.length + i) cap (flatS M) (by rfl) V2.heap.size (.int .i64 K) (.slice ao3 r.length c3) (.int .i64 (A + D)) (.int .i64 B) (by rfl) HRO.out ⟨rfl, rfl, rfl, rfl⟩ ?_ ?_ ?_; (with_reducible repeat (first | exact Bk.new _ _ _ | refine Bk.dw ?_)); (refine HO.out _ (vb_t HB2.out ?_); with_reducible repeat (first | exact Below.refl _ _ | refine vb_d ?_ | refine vb_a ?_ _)); intro w6 ho6 hg6; have hB6 : But (fun b => b = sb) wr w6 := But.grown (But.ofBelow (vb_t HB2.out (by with_reducible repeat (first | exact Below.refl _ _ | refine vb_d ?_ | refine vb_a ?_ _)))) hg6 (fun b e => by injection e with e; exact Or.inl e.symm); obtain ⟨l6, z6⟩ := HS.out w6 hB6) | fail)
        all_goals
          have hput := LZ.put (w := wr) (lb := lb) (sb := sb) (cap := cap) (Z := Z) ⟨K, r, A + D, B⟩ (.slice ao3 r.length c3) M HMR.out.1 HLZ.out HMR.out.2 (vb_t HB2.out (by with_reducible repeat (first | exact Below.refl _ _ | refine vb_d ?_ | refine vb_a ?_ _))) hg6 (by rw [HLN.out]; exact ho6) (Or.inl (OwnR.below (w := V2) HO2.out (by with_reducible repeat (first | exact Below.refl _ _ | refine vb_d ?_ | refine vb_a ?_ _))))
          rw [HLN.out] at hput
          have HPU := hid_intro hput
          clear hput ho6 hg6 hB6 l6 z6 l2 z2 l3 m0 m1 m2 m3 n0 n1 n2 n3 HS HO HMR HLZ HO2 HB2 HV2 HKV HBV HV
          go_wp2_with fail
          go_roundg (q - (i + 1))
          case measure => omega
          case rel => exact ⟨i + 1, by omega, rfl, by simp, by
            rw [HTK.out, List.map_append, List.map_singleton, HK2.out, ← List.append_assoc]
            exact HPU.out.1, HZ.out.2.trans HPU.out.2⟩
    · have hJ : ¬ (i : Int) < (q : Int) := by omega
      have hiq : i = q := by omega
      go_wp2_with fail
      go_end0
      rw [HP.out]
      have := HZ.out
      rw [hiq] at this
      exact ⟨rfl, this⟩
end Go.Proofs.Ytcgohdfpmfpfiaa
