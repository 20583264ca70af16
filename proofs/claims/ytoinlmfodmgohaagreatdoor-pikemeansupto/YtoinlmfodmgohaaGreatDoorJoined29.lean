/-
  Alternatives as they are put: jumps that are turned at the end; rows of functions. No condition.
-/
import Derived.Test.YtoinlmfodmgohaaGreatDoorJoined28
import Derived.Deep.AppendLies
namespace Go.Proofs.YtoinlmfodmgohaaGreatDoor
open Go.RowKit
attribute [local go_sem] setCell_drewN alloc_drewN

/-- The parts ahead of the last one, the first j jumps turned to e. -/
def altM : List RX → Nat → Nat → Nat → List ST
  | [], _, _, _ => []
  | x :: l, n, e, j => (⟨2, [], (n : Int) + 1, ((n + szX x + 2 : Nat) : Int)⟩ :: (bld x (n + 1) ++ [if j = 0 then ⟨2, [], ((n + szX x + 2 : Nat) : Int), 0⟩ else ⟨2, [], (e : Int), (e : Int)⟩])) ++ altM l (n + szX x + 2) e (j - 1)
theorem altM_len : ∀ (l : List RX), (∀ x ∈ l, ∀ n, (bld x n).length = szX x) → ∀ n e j, (altM l n e j).length = szL l + 2 * l.length
  | [], _, _, _, _ => rfl
  | x :: l, h, n, e, j => by
    rw [altM, List.length_append, altM_len l (fun y hy => h y (by simp [hy]))]
    simp only [List.length_cons, List.length_append, List.length_nil, h x (by simp), szL]
    omega
theorem altM_snoc : ∀ (l : List RX) (x : RX) (n e : Nat), altM (l ++ [x]) n e 0 = altM l n e 0 ++ (⟨2, [], ((n + szL l + 2 * l.length : Nat) : Int) + 1, ((n + szL l + 2 * l.length + szX x + 2 : Nat) : Int)⟩ :: (bld x (n + szL l + 2 * l.length + 1) ++ [⟨2, [], ((n + szL l + 2 * l.length + szX x + 2 : Nat) : Int), 0⟩]))
  | [], x, n, e => by simp [altM, szL]
  | y :: l, x, n, e => by
    rw [List.cons_append, altM, altM, altM_snoc l x (n + szX y + 2) e]
    have e1 : n + szX y + 2 + szL l + 2 * l.length = n + szL (y :: l) + 2 * (y :: l).length := by simp only [szL, List.length_cons]; omega
    rw [e1, List.append_assoc]
theorem bldA_snoc : ∀ (l : List RX) (y : RX) (n e : Nat), bldA (l ++ [y]) n e = altM l n e l.length ++ bld y (n + szL l + 2 * l.length)
  | [], y, n, e => by simp [bldA, altM, szL]
  | x :: l, y, n, e => by
    rw [List.cons_append, bldA, if_neg (by simp), bldA_snoc l y (n + szX x + 2) e, altM]
    have e1 : n + szX x + 2 + szL l + 2 * l.length = n + szL (x :: l) + 2 * (x :: l).length := by simp only [szL, List.length_cons]; omega
    rw [e1]
    simp
/-- Where the jump of part j stands. -/
def jat (l : List RX) (j : Nat) : Nat := szL (l.take (j + 1)) + 2 * j + 1
theorem jat_0 (x : RX) (l : List RX) : jat (x :: l) 0 = szX x + 1 := by simp [jat, szL]
theorem jat_s (x : RX) (l : List RX) (j : Nat) : jat (x :: l) (j + 1) = szX x + 2 + jat l j := by simp only [jat, List.take_succ_cons, szL]; omega
theorem altM_turn : ∀ (l : List RX), (∀ x ∈ l, ∀ n, (bld x n).length = szX x) → ∀ n e j, j < l.length →
    (∃ a, (altM l n e j)[jat l j]? = some ⟨2, [], a, 0⟩) ∧ (altM l n e j).set (jat l j) ⟨2, [], (e : Int), (e : Int)⟩ = altM l n e (j + 1)
  | [], _, _, _, j, hj => by simp at hj
  | x :: l, h, n, e, 0, _ => by
    have hx := h x (by simp) (n + 1)
    have hl : (⟨2, [], (n : Int) + 1, ((n + szX x + 2 : Nat) : Int)⟩ :: bld x (n + 1) : List ST).length = szX x + 1 := by simp [hx]
    rw [jat_0, altM, altM, if_pos rfl, if_neg (by omega)]
    rw [← List.cons_append, List.append_assoc, ← hl]
    refine ⟨⟨((n + szX x + 2 : Nat) : Int), by rw [List.getElem?_append_right (Nat.le_refl _), Nat.sub_self]; rfl⟩, ?_⟩
    rw [List.set_append_right _ _ (Nat.le_refl _), Nat.sub_self]
    show (⟨2, [], (n : Int) + 1, ((n + szX x + 2 : Nat) : Int)⟩ :: bld x (n + 1) : List ST) ++ (⟨2, [], (e : Int), (e : Int)⟩ :: altM l (n + szX x + 2) e 0) = (⟨2, [], (n : Int) + 1, ((n + szX x + 2 : Nat) : Int)⟩ :: (bld x (n + 1) ++ [⟨2, [], (e : Int), (e : Int)⟩]) : List ST) ++ altM l (n + szX x + 2) e 0
    rw [List.cons_append, List.cons_append, List.append_assoc]; rfl
  | x :: l, h, n, e, j + 1, hj => by
    have hx := h x (by simp) (n + 1)
    obtain ⟨⟨a, h1⟩, h2⟩ := altM_turn l (fun y hy => h y (by simp [hy])) (n + szX x + 2) e j (by simpa using hj)
    rw [jat_s, altM, altM, if_neg (by omega), if_neg (by omega)]
    have hl : (⟨2, [], (n : Int) + 1, ((n + szX x + 2 : Nat) : Int)⟩ :: (bld x (n + 1) ++ [⟨2, [], (e : Int), (e : Int)⟩]) : List ST).length = szX x + 2 := by simp [hx]
    rw [← hl]
    refine ⟨⟨a, ?_⟩, ?_⟩
    · rw [List.getElem?_append_right (Nat.le_add_right _ _), Nat.add_sub_cancel_left]
      exact h1
    · rw [List.set_append_right _ _ (Nat.le_add_right _ _), Nat.add_sub_cancel_left]
      have e1 : j + 1 - 1 = j := rfl
      have e2 : j + 1 + 1 - 1 = j + 1 := rfl
      rw [e1, e2, h2]
/-- A jump of the list turned. -/
theorem setAB_alt (L : List ST) (l : List RX) (T : List ST) (hs : ∀ x ∈ l, ∀ n, (bld x n).length = szX x) (e j : Nat) (hj : j < l.length) (he : (L ++ altM l L.length e j ++ T).length = e) :
    setAB (L ++ altM l L.length e j ++ T) (L.length + jat l j) = L ++ altM l L.length e (j + 1) ++ T := by
  obtain ⟨⟨a, h1⟩, h2⟩ := altM_turn l hs L.length e j hj
  have hlt : jat l j < (altM l L.length e j).length := (List.getElem?_eq_some_iff.1 h1).1
  unfold setAB
  rw [he]
  have hsa : sa (L ++ altM l L.length e j ++ T) (L.length + jat l j) = ⟨2, [], a, 0⟩ := by
    unfold sa
    rw [List.getD_eq_getElem?_getD, List.append_assoc, List.getElem?_append_right (Nat.le_add_right _ _), Nat.add_sub_cancel_left, List.getElem?_append_left hlt, h1]; rfl
  rw [hsa, List.append_assoc, List.set_append_right _ _ (Nat.le_add_right _ _), Nat.add_sub_cancel_left, List.set_append_left _ _ hlt]
  have : (ST.goAB ⟨2, [], a, 0⟩ (e : Int)) = ⟨2, [], (e : Int), (e : Int)⟩ := rfl
  rw [this, h2, List.append_assoc]
/-- A fork of the list turned. -/
theorem setB_at (A : List ST) (f : ST) (R : List ST) : setB (A ++ f :: R) A.length = A ++ (f.goB ((A ++ f :: R).length : Int) :: R) := by
  unfold setB
  have hsa : sa (A ++ f :: R) A.length = f := by
    unfold sa; rw [List.getD_eq_getElem?_getD, List.getElem?_append_right (Nat.le_refl _)]; simp
  rw [hsa, List.set_append_right _ _ (Nat.le_refl _)]
  simp
theorem own_but {w w' : World} {B : Nat} {e : TypeId} {v : Value} {n : Nat} {xs : List Value} {X : Nat → Prop} (h : w.ownsRow B e 1 v n xs) (hb : But X w w') (hX : ∀ k, v.ownBlock = some k → ¬ X k) : w'.ownsRow B e 1 v n xs := by
  refine ⟨h.1, ?_⟩
  rcases h.2 with h' | ⟨g, c, cur, rfl, hb', hg, hrest⟩
  · exact Or.inl h'
  · exact Or.inr ⟨g, c, cur, rfl, hb', (hb.block g (h.lt g rfl).2 (hX g rfl)).trans hg, hrest⟩
/-- The block of a row, as a list. -/
def zb (v : Value) : List Nat := match v.ownBlock with | some k => [k] | none => []
theorem LZ.sub {w : World} {lb sb cap : Nat} {Z Z' : List Nat} {L : List ST} (h : LZ w lb sb cap Z L) (hs : ∀ z ∈ Z', z ∈ Z) : LZ w lb sb cap Z' L := by
  obtain ⟨M, f0, f1, f2, f3, f4, f5, f6, f7⟩ := h
  exact ⟨M, f0, f1, f2, f3, f4, fun p hp => (f5 p hp).weak (fun b hb => by
    rcases hb with h | h | h
    · exact Or.inl h
    · exact Or.inr (Or.inl h)
    · exact Or.inr (Or.inr (hs _ h))), f6, fun y hy => f7 y (hs y hy)⟩
theorem LZ.apart2 {w w' : World} {lb sb cap : Nat} {Z : List Nat} {L : List ST} (h : LZ w lb sb cap Z L) {Y : Nat → Prop} (hb : But Y w w') (hY : ∀ b, Y b → b ∈ Z ∨ w.heap.size ≤ b) (z : Nat) (h1 : w.heap.size ≤ z) (h2 : z < w'.heap.size) : LZ w' lb sb cap (z :: Z) L := by
  have hlt := h.lt
  obtain ⟨M', f0, f1, f2, f3, f4, f5, f6, f7⟩ := h
  have h : LZ w lb sb cap Z L := ⟨M', f0, f1, f2, f3, f4, f5, f6, f7⟩
  have e2 : w'.heap[sb]? = w.heap[sb]? := hb.block sb hlt.2 (fun hy => by rcases hY _ hy with h | h; exact (f7 _ h).2.2 rfl; omega)
  obtain ⟨M, e0, e1, e1', e3, e4, e5, e6, e7⟩ := h.carry hb hY
  refine ⟨M', f0, e1, e1', e3, ⟨f4.1, ?_⟩, fun p hp => (f5 p hp).carry (fun b hx hl => ⟨hb.block b hl (fun hy => by rcases hY _ hy with h | h; exact hx (Or.inr (Or.inr h)); omega), fun hy => ?_⟩), e6, fun y hy => ?_⟩
  · rcases f4.2 with h | ⟨g, c, cur, e, hb', hg, hrest⟩
    · exact Or.inl h
    · refine Or.inr ⟨g, c, cur, e, hb', ?_, hrest⟩
      obtain rfl : sb = g := by injection e with e _ _; injection e with e; injection e
      rw [e2]; exact hg
  · rcases hy with hy | hy | hy
    · exact hx (Or.inl hy)
    · exact hx (Or.inr (Or.inl hy))
    · rcases List.mem_cons.1 hy with hy | hy
      · omega
      · exact hx (Or.inr (Or.inr hy))
  · rcases List.mem_cons.1 hy with hy | hy
    · subst hy; exact ⟨h2, by omega, by omega⟩
    · exact e7 y hy
/-- A function more in a row of functions. -/
theorem wpList_append_fnJ {w : World} {ops : Array Oper} {rest : List Oper} {o : Oper} {a : Act} {Q : Exit → Act → World → Prop} (hgd : o.guard = none) (s x : Operand)
    (ho : o.op = .call { callee := .builtin .append, args := #[s, x], argTypes := #[140, 140] }) (B : Nat) (v : Value) (n : Nat) (F : List Value) (hs : a.eval s = v) (hown : w.ownsRow B 1 1 v n F) (hB : B ≤ w.heap.size) (hn : n ≤ 1048576) (f : Value) (hf : f.oneCell' = true)
    (t : Nat) (ht : w.heap.size = t) (hx : a.eval x = .slice (some ⟨t, 0, none⟩) 1 1)
    (h : ∀ v' w', w'.ownsRow B 1 1 v' (n + 1) (F ++ [f]) → (w.alloc (.cells #[f] 1)).grownBy w' v.ownBlock → (∀ g, v'.ownBlock = some g → v.ownBlock = some g ∨ w.heap.size ≤ g) → wpList Tryz.prog ops Q rest (a.put o.dst v') w') :
    wpList Tryz.prog ops Q (o :: rest) a (w.alloc (.cells #[f] 1)) := by
  subst ht
  obtain ⟨i0, hi, hz0, hz1, hz2⟩ := info_parts infoFn
  refine wpList_append_lies _ hgd s x 140 ho B 1 i0 .nilFunc 1 8 Tryz.underlying140 hi hz0 hz1 hz2 rfl (by decide) v n F hs (hown.alloc _) ⟨w.heap.size, 0, none⟩ 1 1 [f] hx rfl ?_ ?_ (by omega) (by unfold maxLen; omega) (by omega) (by simp; omega) _ rfl ?_
  · intro j u hj
    match j, hj with
    | 0, hj => simp at hj; subst hj; simp [Addr.add, go_sem]
  · intro u hu
    simp at hu
    subst hu
    exact hf
  · intro g c w' h1 h2 h3 _
    refine h _ w' h1 h2 (fun g' hg' => ?_)
    obtain rfl : g = g' := by simpa [Value.ownBlock] using hg'
    rcases h3 with h3 | h3
    · exact .inl h3
    · exact .inr (by simp at h3; omega)
end Go.Proofs.YtoinlmfodmgohaaGreatDoor
