/-
  The list of states that a tree is compiled into: as it lies in memory; a state more in it. Conditions: there is room.
-/
import Derived.Test.YtcgohdfpmfpfiaaXS0
import Derived.Test.YtcgohdfpmfpfiaaXR2
import Derived.Lib.SliceRun
import Derived.OwnWalk
import Derived.Laws.OwnMore
import Derived.Laws.AppendOwnNone
import Derived.Deep.RegionHeld3
namespace Go.Proofs.Ytcgohdfpmfpfiaa
open Go.RowKit
attribute [local go_sem] setCell_drewN alloc_drewN

/-- The cells of a row of states, with the values of their ranges. -/
def flatS (M : List (ST × Value)) : List Value := M.flatMap fun p => [.int .i64 p.1.k, p.2, .int .i64 p.1.a, .int .i64 p.1.b]
theorem flatS_len (M : List (ST × Value)) : (flatS M).length = M.length * 4 := by
  induction M with
  | nil => rfl
  | cons p M ih => simp only [flatS, List.flatMap_cons, List.length_append, List.length_cons, List.length_nil] at ih ⊢; omega
theorem flatS_append (M N : List (ST × Value)) : flatS (M ++ N) = flatS M ++ flatS N := by simp [flatS]
theorem flatS_at (M : List (ST × Value)) : ∀ (i : Nat) (h : i < M.length), (flatS M)[i * 4]? = some (.int .i64 M[i].1.k) ∧ (flatS M)[i * 4 + 1]? = some M[i].2 ∧ (flatS M)[i * 4 + 2]? = some (.int .i64 M[i].1.a) ∧ (flatS M)[i * 4 + 3]? = some (.int .i64 M[i].1.b) := by
  induction M with
  | nil => intro i h; simp at h
  | cons p M ih =>
    intro i h
    cases i with
    | zero => exact ⟨rfl, rfl, rfl, rfl⟩
    | succ i =>
      have e : ∀ j, (flatS (p :: M))[(i + 1) * 4 + j]? = (flatS M)[i * 4 + j]? := fun j => by
        have e1 : (i + 1) * 4 + j = (i * 4 + j) + 4 := by omega
        rw [e1]; rfl
      have := ih i (by simpa using h)
      exact ⟨(e 0).trans this.1, (e 1).trans this.2.1, (e 2).trans this.2.2.1, (e 3).trans this.2.2.2⟩
/-- The two blocks of a list. -/
def two (lb sb : Nat) : Nat → Prop := fun b => b = lb ∨ b = sb
/-- The list at lb, its states in the block sb. -/
def LS (w : World) (lb sb cap : Nat) (L : List ST) : Prop :=
  ∃ M : List (ST × Value), M.map Prod.fst = L ∧ w.cell? ⟨lb, 0, none⟩ = some (.slice (some ⟨sb, 0, none⟩) L.length cap) ∧ w.frozen? ⟨lb, 0, none⟩ = false ∧ lb ≠ sb ∧
    w.ownsRow 0 40 4 (.slice (some ⟨sb, 0, none⟩) L.length cap) L.length (flatS M) ∧ (∀ p ∈ M, RI w (two lb sb) p.1.r p.2) ∧ cap ≤ 65536
theorem LS.lt {w : World} {lb sb cap : Nat} {L : List ST} (h : LS w lb sb cap L) : lb < w.heap.size ∧ sb < w.heap.size := by
  obtain ⟨M, _, h1, _, _, h4, _⟩ := h
  exact ⟨World.block_lt_of_cell? w _ h1, (h4.lt sb rfl).2⟩
theorem LS.ne {w : World} {lb sb cap : Nat} {L : List ST} (h : LS w lb sb cap L) : lb ≠ sb := by
  obtain ⟨M, _, h1, _, h3, h4, _⟩ := h
  exact h3
theorem LS.len {w : World} {lb sb cap : Nat} {L : List ST} (h : LS w lb sb cap L) : L.length ≤ cap ∧ cap ≤ 65536 := by
  obtain ⟨M, _, h1, _, h3, h4, h5, h6⟩ := h
  refine ⟨?_, h6⟩
  rcases h4.2 with ⟨e, _⟩ | ⟨g, c, cur, e, _, _, hc, _⟩
  · cases e
  · injection e with _ _ e; omega
theorem LS.cell {w : World} {lb sb cap : Nat} {L : List ST} (h : LS w lb sb cap L) : w.cell? ⟨lb, 0, none⟩ = some (.slice (some ⟨sb, 0, none⟩) L.length cap) ∧ w.frozen? ⟨lb, 0, none⟩ = false := by
  obtain ⟨M, _, h1, h2, _⟩ := h
  exact ⟨h1, h2⟩
/-- Nothing but other blocks has changed. -/
theorem LS.carry {w w' : World} {lb sb cap : Nat} {L : List ST} (h : LS w lb sb cap L) {Y : Nat → Prop} (hb : But Y w w') (hY : ∀ b, Y b → w.heap.size ≤ b) : LS w' lb sb cap L := by
  have hlt := h.lt
  obtain ⟨M, h0, h1, h2, h3, h4, h5, h6⟩ := h
  have e1 : w'.heap[lb]? = w.heap[lb]? := hb.block lb hlt.1 (fun hy => by have := hY _ hy; omega)
  have e2 : w'.heap[sb]? = w.heap[sb]? := hb.block sb hlt.2 (fun hy => by have := hY _ hy; omega)
  refine ⟨M, h0, (World.cell?_of_block (w := w) (w' := w') e1).trans h1, ?_, h3, ?_, fun p hp => (h5 p hp).carry (fun b hx hl => ⟨hb.block b hl (fun hy => by have := hY _ hy; omega), hx⟩), h6⟩
  · rw [← h2]; simp only [World.frozen?, e1]
  · refine ⟨h4.1, ?_⟩
    rcases h4.2 with h | ⟨g, c, cur, e, hb', hg, hrest⟩
    · exact Or.inl h
    · refine Or.inr ⟨g, c, cur, e, hb', ?_, hrest⟩
      obtain rfl : sb = g := by injection e with e _ _; injection e with e; injection e
      rw [e2]; exact hg
theorem LS.below {w w' : World} {lb sb cap : Nat} {L : List ST} (h : LS w lb sb cap L) (hb : Below w.heap.size w w') : LS w' lb sb cap L :=
  h.carry (Y := fun _ => False) (But.ofBelow hb) (fun _ hf => hf.elim)
theorem infoState : (Try.prog.info? 40).map (fun i => (i.zero, i.size, i.bytes)) = some (some (.agg #[.int .i64 0, .slice none 0 0, .int .i64 0, .int .i64 0]), 4, 48) := by kernel_rfl
/-- Append of a state where there is room, in a region that draws. -/
theorem step_append_st {w : World} {ops : Array Oper} {o : Oper} {a : Act} {K : Act → World → Prop} {Q : Exit → Act → World → Prop} {E : Prop} (hgd : o.guard = none) (s x : Operand)
    (ho : o.op = .call { callee := .builtin .append, args := #[s, x], argTypes := #[22, 22] }) (sb n cap : Nat) (xs : List Value) (hs : a.eval s = .slice (some ⟨sb, 0, none⟩) n cap)
    (t : Nat) (c0 c1 c2 c3 : Value) (hx : a.eval x = .slice (some ⟨t, 0, none⟩) 1 1) (hroom : n + 1 ≤ cap) (hone : c0.oneCell' = true ∧ c1.oneCell' = true ∧ c2.oneCell' = true ∧ c3.oneCell' = true)
    (hT : Bk w t #[c0, c1, c2, c3]) (hown : w.ownsRow 0 40 4 (.slice (some ⟨sb, 0, none⟩) n cap) n xs)
    (h : ∀ w', w'.ownsRow 0 40 4 (.slice (some ⟨sb, 0, none⟩) (n + 1) cap) (n + 1) (xs ++ [c0, c1, c2, c3]) → w.grownBy w' (some sb) → K (a.put o.dst (.slice (some ⟨sb, 0, none⟩) (n + 1) cap)) w') :
    if Region.wanted o (yielded ops a.tmps) = true then Oper.wp Try.prog o a w K Q else E := by
  have hw : Region.wanted o (yielded ops a.tmps) = true := by simp [Region.wanted, hgd]
  rw [if_pos hw]
  obtain ⟨i0, hi, hz0, hz1, hz2⟩ := info_parts infoState
  obtain ⟨w', hrun, r1, r2⟩ := run_append_fits (P := Try.prog) w 0 22 o.type 40 i0 4 Try.underlying22 hi hz1 sb n cap xs hown ⟨t, 0, none⟩ 1 1 [c0, c1, c2, c3] rfl (fun j u hj => by
    rw [add_at, hT.cell]
    match j, hj with
    | 0, hj => exact hj
    | 1, hj => exact hj
    | 2, hj => exact hj
    | 3, hj => exact hj) (fun u hu => by
    simp at hu
    rcases hu with rfl | rfl | rfl | rfl
    · exact hone.1
    · exact hone.2.1
    · exact hone.2.2.1
    · exact hone.2.2.2) hroom
  unfold Oper.wp
  simp [execOp, ho, resolve, invoke, builtin, hs, hx, hrun, Result.andThen]
  exact h w' r1 r2
set_option maxRecDepth 100000 in
theorem next_any (lb sb cap : Nat) (L : List ST) (w : World) (h : LS w lb sb cap L) :
    Calls Try.prog 55 #[.pointer (some ⟨lb, 0, none⟩)] w fun r w' => r = .returned (.int .i64 (L.length : Int)) ∧ Below w.heap.size w w' := by
  have hc := h.cell.1
  go_enter Try.func55, Try.ntmps55
  go_wp2_with fail
  go_ret
  exact ⟨rfl, Below.refl _ _⟩
set_option maxRecDepth 100000 in
theorem clone_any (l : List (Int × Int)) (v : Value) (X : Nat → Prop) (w : World) (hR : RI w X l v) (hl : l.length ≤ 1099511627776) :
    Calls Try.prog 54 #[v] w fun r w' => ∃ v', r = .returned v' ∧ OwnR w' w.heap.size v' l ∧ Below w.heap.size w w' := by
  have q : ∀ (w : World) (a : Option Addr) (n c n' c' : Nat), (binOp .eql 29 (.slice a n c) (.slice none n' c')).run Try.prog w = .ok (.bool a.isNone) w := fun w a n c n' c' => Lib.run_eql_slice_nil w _ _ a n c n' c' Try.underlying29
  obtain ⟨ao, cap, rfl, h1, h2, h3, h4⟩ := hR
  cases ao with
  | none =>
    have hk : l = [] := by
      rcases h4 with h4 | ⟨b, off, h5, _⟩
      · exact h4
      · cases h5
    subst hk
    go_enter Try.func54, Try.ntmps54
    go_wp2
    go_ret
    exact ⟨_, rfl, OwnR.nil _ _, Below.refl _ _⟩
  | some a =>
    obtain ⟨i0, hi, hz0, hz1, hz2⟩ := info_parts infoRange
    have hmade : (w.alloc (.cells #[] 57)).ownsRow w.heap.size 57 2 (.slice (some ⟨w.heap.size, 0, none⟩) 0 0) 0 [] := World.ownsRow_made w #[] 0 (Nat.le_refl _) (Nat.zero_le _) rfl
    have hnews : ∀ j u, (flat l)[j]? = some u → (w.alloc (.cells #[] 57)).cell? (a.add j) = some u := fun j u hu => by
      have hj : j < l.length * 2 := by have := (List.getElem?_eq_some_iff.1 hu).1; rwa [flat_len] at this
      have hd : j / 2 < l.length := by omega
      have fa := flat_at l (j / 2) hd
      rcases h4 with h4 | ⟨b, off, h5, _, h7⟩
      · rw [h4] at hd; exact absurd hd (by simp)
      · obtain rfl := Option.some.inj h5
        have h8 := h7 (j / 2) hd
        rcases Nat.mod_two_eq_zero_or_one j with hm | hm
        · have e : j / 2 * 2 = j := by omega
          rw [e] at fa h8
          rw [add_at, World.cell?_alloc_past _ _ _ (World.block_lt_of_cell? w _ h8.1), h8.1, ← fa.1, hu]
        · have e : j / 2 * 2 + 1 = j := by omega
          have e2 : off + j / 2 * 2 + 1 = off + j := by omega
          rw [e] at fa
          rw [e2] at h8
          rw [add_at, World.cell?_alloc_past _ _ _ (World.block_lt_of_cell? w _ h8.2), h8.2, ← fa.2, hu]
    have hone : ∀ u ∈ flat l, u.oneCell' = true := fun u hu => by
      simp only [flat, List.mem_flatMap] at hu
      obtain ⟨r, _, hu⟩ := hu
      simp at hu
      rcases hu with rfl | rfl <;> rfl
    clear h1 h2 h4
    go_enter Try.func54, Try.ntmps54
    go_wp2_with (at_builtin; refine wpList_append_own _ rfl (.tmp 5) (.tmp 6) 29 rfl w.heap.size 57 i0 (.agg #[.int .i64 0, .int .i64 0]) 2 16 Try.underlying29 hi hz0 hz1 hz2 rfl (by decide) _ 0 [] rfl hmade a l.length cap (flat l) rfl (flat_len l) hnews hone (by unfold maxLen; omega) (by omega) (by simp) ?_)
    intro v' w' g1 g2 _
    have hb : Below w.heap.size w w' := (vb_a (Below.refl _ _) _).grown g2 (by simp) (fun j hj => (World.ownsRow.lt hmade j hj).1)
    have ho : OwnR w' w.heap.size v' l := ⟨by simpa using g1, h3⟩
    clear g1 g2 hnews hmade hone
    go_wp2
    go_ret
    exact ⟨_, rfl, ho, hb⟩
end Go.Proofs.Ytcgohdfpmfpfiaa
