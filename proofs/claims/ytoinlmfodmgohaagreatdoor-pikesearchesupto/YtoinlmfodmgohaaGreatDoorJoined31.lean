/-
  The list of states that a tree is compiled into: as it lies in memory; a state more in it. Conditions: there is room.
  A state more in the list. Conditions: there is room; at most 2^40 ranges.
  A fork and a jump, and what they answer, called. Conditions: there is room.
-/
import Derived.Test.YtoinlmfodmgohaaGreatDoorJoined5
import Derived.Test.YtoinlmfodmgohaaGreatDoorJoined15
import Derived.Lib.SliceRun
import Derived.OwnWalk
import Derived.Laws.OwnMore
import Derived.Laws.AppendOwnNone
import Derived.Deep.RegionHeld3
import Derived.Test.YtoinlmfodmgohaaGreatDoorJoined16
import Derived.Deep.RegionLaw
namespace Go.Proofs.YtoinlmfodmgohaaGreatDoor
open Go.RowKit
attribute [local go_sem] setCell_drewN alloc_drewN

/-- The cells of a row of states, with the values of their ranges. -/
def flatS (M : List (ST × Value)) : List Value := M.flatMap fun p => [.int .i64 p.1.k, p.2, .int .i64 p.1.a, .int .i64 p.1.b]
theorem flatS_len (M : List (ST × Value)) : (flatS M).length = M.length * 4 := by
  induction M with
  | nil => rfl
  | cons p M ih => simp only [flatS, List.flatMap_cons, List.length_append, List.length_cons, List.length_nil] at ih ⊢; omega
theorem flatS_append (M N : List (ST × Value)) : flatS (M ++ N) = flatS M ++ flatS N := by simp [flatS]
theorem flatS_at (M : List (ST × Value)) : ∀ (i : Nat) (h : i < M.length), (flatS M)[i * 4]? = some (.int .i64 M[i].1.k) ∧ (flatS M)[i * 4 + 1]? = some M[i].2 ∧ (flatS M)[i * 4 + 2]? = some (.int .i64 M[i].1.a) ∧ (flatS M)[i * 4 + 3]? = some (.int .i64 M[i].1.b) := by
  induction M with
  | nil => intro i h; simp at h
  | cons p M ih =>
    intro i h
    cases i with
    | zero => exact ⟨rfl, rfl, rfl, rfl⟩
    | succ i =>
      have e : ∀ j, (flatS (p :: M))[(i + 1) * 4 + j]? = (flatS M)[i * 4 + j]? := fun j => by
        have e1 : (i + 1) * 4 + j = (i * 4 + j) + 4 := by omega
        rw [e1]; rfl
      have := ih i (by simpa using h)
      exact ⟨(e 0).trans this.1, (e 1).trans this.2.1, (e 2).trans this.2.2.1, (e 3).trans this.2.2.2⟩
/-- The two blocks of a list. -/
def two (lb sb : Nat) : Nat → Prop := fun b => b = lb ∨ b = sb
/-- The list at lb, its states in the block sb. -/
def LS (w : World) (lb sb cap : Nat) (L : List ST) : Prop :=
  ∃ M : List (ST × Value), M.map Prod.fst = L ∧ w.cell? ⟨lb, 0, none⟩ = some (.slice (some ⟨sb, 0, none⟩) L.length cap) ∧ w.frozen? ⟨lb, 0, none⟩ = false ∧ lb ≠ sb ∧
    w.ownsRow 0 94 4 (.slice (some ⟨sb, 0, none⟩) L.length cap) L.length (flatS M) ∧ (∀ p ∈ M, RI w (two lb sb) p.1.r p.2) ∧ cap ≤ 65536
theorem LS.lt {w : World} {lb sb cap : Nat} {L : List ST} (h : LS w lb sb cap L) : lb < w.heap.size ∧ sb < w.heap.size := by
  obtain ⟨M, _, h1, _, _, h4, _⟩ := h
  exact ⟨World.block_lt_of_cell? w _ h1, (h4.lt sb rfl).2⟩
theorem LS.ne {w : World} {lb sb cap : Nat} {L : List ST} (h : LS w lb sb cap L) : lb ≠ sb := by
  obtain ⟨M, _, h1, _, h3, h4, _⟩ := h
  exact h3
theorem LS.len {w : World} {lb sb cap : Nat} {L : List ST} (h : LS w lb sb cap L) : L.length ≤ cap ∧ cap ≤ 65536 := by
  obtain ⟨M, _, h1, _, h3, h4, h5, h6⟩ := h
  refine ⟨?_, h6⟩
  rcases h4.2 with ⟨e, _⟩ | ⟨g, c, cur, e, _, _, hc, _⟩
  · cases e
  · injection e with _ _ e; omega
theorem LS.cell {w : World} {lb sb cap : Nat} {L : List ST} (h : LS w lb sb cap L) : w.cell? ⟨lb, 0, none⟩ = some (.slice (some ⟨sb, 0, none⟩) L.length cap) ∧ w.frozen? ⟨lb, 0, none⟩ = false := by
  obtain ⟨M, _, h1, h2, _⟩ := h
  exact ⟨h1, h2⟩
/-- Nothing but other blocks has changed. -/
theorem LS.carry {w w' : World} {lb sb cap : Nat} {L : List ST} (h : LS w lb sb cap L) {Y : Nat → Prop} (hb : But Y w w') (hY : ∀ b, Y b → w.heap.size ≤ b) : LS w' lb sb cap L := by
  have hlt := h.lt
  obtain ⟨M, h0, h1, h2, h3, h4, h5, h6⟩ := h
  have e1 : w'.heap[lb]? = w.heap[lb]? := hb.block lb hlt.1 (fun hy => by have := hY _ hy; omega)
  have e2 : w'.heap[sb]? = w.heap[sb]? := hb.block sb hlt.2 (fun hy => by have := hY _ hy; omega)
  refine ⟨M, h0, (World.cell?_of_block (w := w) (w' := w') e1).trans h1, ?_, h3, ?_, fun p hp => (h5 p hp).carry (fun b hx hl => ⟨hb.block b hl (fun hy => by have := hY _ hy; omega), hx⟩), h6⟩
  · rw [← h2]; simp only [World.frozen?, e1]
  · refine ⟨h4.1, ?_⟩
    rcases h4.2 with h | ⟨g, c, cur, e, hb', hg, hrest⟩
    · exact Or.inl h
    · refine Or.inr ⟨g, c, cur, e, hb', ?_, hrest⟩
      obtain rfl : sb = g := by injection e with e _ _; injection e with e; injection e
      rw [e2]; exact hg
theorem LS.below {w w' : World} {lb sb cap : Nat} {L : List ST} (h : LS w lb sb cap L) (hb : Below w.heap.size w w') : LS w' lb sb cap L :=
  h.carry (Y := fun _ => False) (But.ofBelow hb) (fun _ hf => hf.elim)
theorem infoState : (Tryz.prog.info? 94).map (fun i => (i.zero, i.size, i.bytes)) = some (some (.agg #[.int .i64 0, .slice none 0 0, .int .i64 0, .int .i64 0]), 4, 48) := by kernel_rfl
/-- Append of a state where there is room, in a region that draws. -/
theorem step_append_st {w : World} {ops : Array Oper} {o : Oper} {a : Act} {K : Act → World → Prop} {Q : Exit → Act → World → Prop} {E : Prop} (hgd : o.guard = none) (s x : Operand)
    (ho : o.op = .call { callee := .builtin .append, args := #[s, x], argTypes := #[24, 24] }) (sb n cap : Nat) (xs : List Value) (hs : a.eval s = .slice (some ⟨sb, 0, none⟩) n cap)
    (t : Nat) (c0 c1 c2 c3 : Value) (hx : a.eval x = .slice (some ⟨t, 0, none⟩) 1 1) (hroom : n + 1 ≤ cap) (hone : c0.oneCell' = true ∧ c1.oneCell' = true ∧ c2.oneCell' = true ∧ c3.oneCell' = true)
    (hT : Bk w t #[c0, c1, c2, c3]) (hown : w.ownsRow 0 94 4 (.slice (some ⟨sb, 0, none⟩) n cap) n xs)
    (h : ∀ w', w'.ownsRow 0 94 4 (.slice (some ⟨sb, 0, none⟩) (n + 1) cap) (n + 1) (xs ++ [c0, c1, c2, c3]) → w.grownBy w' (some sb) → K (a.put o.dst (.slice (some ⟨sb, 0, none⟩) (n + 1) cap)) w') :
    if Region.wanted o (yielded ops a.tmps) = true then Oper.wp Tryz.prog o a w K Q else E := by
  have hw : Region.wanted o (yielded ops a.tmps) = true := by simp [Region.wanted, hgd]
  rw [if_pos hw]
  obtain ⟨i0, hi, hz0, hz1, hz2⟩ := info_parts infoState
  obtain ⟨w', hrun, r1, r2⟩ := run_append_fits (P := Tryz.prog) w 0 24 o.type 94 i0 4 Tryz.underlying24 hi hz1 sb n cap xs hown ⟨t, 0, none⟩ 1 1 [c0, c1, c2, c3] rfl (fun j u hj => by
    rw [add_at, hT.cell]
    match j, hj with
    | 0, hj => exact hj
    | 1, hj => exact hj
    | 2, hj => exact hj
    | 3, hj => exact hj) (fun u hu => by
    simp at hu
    rcases hu with rfl | rfl | rfl | rfl
    · exact hone.1
    · exact hone.2.1
    · exact hone.2.2.1
    · exact hone.2.2.2) hroom
  unfold Oper.wp
  simp [execOp, ho, resolve, invoke, builtin, hs, hx, hrun, Result.andThen]
  exact h w' r1 r2
set_option maxRecDepth 100000 in
theorem next_any (lb sb cap : Nat) (L : List ST) (w : World) (h : LS w lb sb cap L) :
    Calls Tryz.prog 129 #[.pointer (some ⟨lb, 0, none⟩)] w fun r w' => r = .returned (.int .i64 (L.length : Int)) ∧ Below w.heap.size w w' := by
  have hc := h.cell.1
  go_enter Tryz.func129, Tryz.ntmps129
  go_wp2_with fail
  go_ret
  exact ⟨rfl, Below.refl _ _⟩
set_option maxRecDepth 100000 in
theorem clone_any (l : List (Int × Int)) (v : Value) (X : Nat → Prop) (w : World) (hR : RI w X l v) (hl : l.length ≤ 1099511627776) :
    Calls Tryz.prog 128 #[v] w fun r w' => ∃ v', r = .returned v' ∧ OwnR w' w.heap.size v' l ∧ Below w.heap.size w w' := by
  have q : ∀ (w : World) (a : Option Addr) (n c n' c' : Nat), (binOp .eql 22 (.slice a n c) (.slice none n' c')).run Tryz.prog w = .ok (.bool a.isNone) w := fun w a n c n' c' => Lib.run_eql_slice_nil w _ _ a n c n' c' Tryz.underlying22
  obtain ⟨ao, cap, rfl, h1, h2, h3, h4⟩ := hR
  cases ao with
  | none =>
    have hk : l = [] := by
      rcases h4 with h4 | ⟨b, off, h5, _⟩
      · exact h4
      · cases h5
    subst hk
    go_enter Tryz.func128, Tryz.ntmps128
    go_wp2
    go_ret
    exact ⟨_, rfl, OwnR.nil _ _, Below.refl _ _⟩
  | some a =>
    obtain ⟨i0, hi, hz0, hz1, hz2⟩ := info_parts infoRange
    have hmade : (w.alloc (.cells #[] 40)).ownsRow w.heap.size 40 2 (.slice (some ⟨w.heap.size, 0, none⟩) 0 0) 0 [] := World.ownsRow_made w #[] 0 (Nat.le_refl _) (Nat.zero_le _) rfl
    have hnews : ∀ j u, (flat l)[j]? = some u → (w.alloc (.cells #[] 40)).cell? (a.add j) = some u := fun j u hu => by
      have hj : j < l.length * 2 := by have := (List.getElem?_eq_some_iff.1 hu).1; rwa [flat_len] at this
      have hd : j / 2 < l.length := by omega
      have fa := flat_at l (j / 2) hd
      rcases h4 with h4 | ⟨b, off, h5, _, h7⟩
      · rw [h4] at hd; exact absurd hd (by simp)
      · obtain rfl := Option.some.inj h5
        have h8 := h7 (j / 2) hd
        rcases Nat.mod_two_eq_zero_or_one j with hm | hm
        · have e : j / 2 * 2 = j := by omega
          rw [e] at fa h8
          rw [add_at, World.cell?_alloc_past _ _ _ (World.block_lt_of_cell? w _ h8.1), h8.1, ← fa.1, hu]
        · have e : j / 2 * 2 + 1 = j := by omega
          have e2 : off + j / 2 * 2 + 1 = off + j := by omega
          rw [e] at fa
          rw [e2] at h8
          rw [add_at, World.cell?_alloc_past _ _ _ (World.block_lt_of_cell? w _ h8.2), h8.2, ← fa.2, hu]
    have hone : ∀ u ∈ flat l, u.oneCell' = true := fun u hu => by
      simp only [flat, List.mem_flatMap] at hu
      obtain ⟨r, _, hu⟩ := hu
      simp at hu
      rcases hu with rfl | rfl <;> rfl
    clear h1 h2 h4
    go_enter Tryz.func128, Tryz.ntmps128
    go_wp2_with (at_builtin; refine wpList_append_own _ rfl (.tmp 5) (.tmp 6) 22 rfl w.heap.size 40 i0 (.agg #[.int .i64 0, .int .i64 0]) 2 16 Tryz.underlying22 hi hz0 hz1 hz2 rfl (by decide) _ 0 [] rfl hmade a l.length cap (flat l) rfl (flat_len l) hnews hone (by unfold maxLen; omega) (by omega) (by simp) ?_)
    intro v' w' g1 g2 _
    have hb : Below w.heap.size w w' := (vb_a (Below.refl _ _) _).grown g2 (by simp) (fun j hj => (World.ownsRow.lt hmade j hj).1)
    have ho : OwnR w' w.heap.size v' l := ⟨by simpa using g1, h3⟩
    clear g1 g2 hnews hmade hone
    go_wp2
    go_ret
    exact ⟨_, rfl, ho, hb⟩
end Go.Proofs.YtoinlmfodmgohaaGreatDoor

namespace Go.Proofs.YtoinlmfodmgohaaGreatDoor
open Go.RowKit
attribute [local go_sem] setCell_drewN alloc_drewN

theorem flatS_one (s : ST) (v : Value) : flatS [(s, v)] = [.int .i64 s.k, v, .int .i64 s.a, .int .i64 s.b] := rfl
/-- What the list is once its slice was stored. -/
theorem LS.put {w w5 w6 : World} {lb sb cap : Nat} {L : List ST} (s : ST) (v : Value) (M : List (ST × Value)) (hM : M.map Prod.fst = L) (h : LS w lb sb cap L) (hR : ∀ p ∈ M, RI w (two lb sb) p.1.r p.2)
    (h5 : Below w.heap.size w w5) (hg : w5.grownBy w6 (some sb)) (ho : w6.ownsRow 0 94 4 (.slice (some ⟨sb, 0, none⟩) (L.length + 1) cap) (L.length + 1) (flatS M ++ [.int .i64 s.k, v, .int .i64 s.a, .int .i64 s.b]))
    (hv : OwnR w5 w.heap.size v s.r ∨ (v = .slice none 0 0 ∧ s.r = [])) :
    LS (w6.setCell ⟨lb, 0, none⟩ (.slice (some ⟨sb, 0, none⟩) (L.length + 1) cap)) lb sb cap (L ++ [s]) ∧ But (two lb sb) w (w6.setCell ⟨lb, 0, none⟩ (.slice (some ⟨sb, 0, none⟩) (L.length + 1) cap)) := by
  have hlt := h.lt
  have hne := h.ne
  have hlen := h.len
  have hc := h.cell
  have hB6 : But (two lb sb) w w6 := (But.ofBelow h5).grown hg (fun b e => by injection e with e; exact Or.inl (Or.inr e.symm))
  have hB : But (two lb sb) w (w6.setCell ⟨lb, 0, none⟩ (.slice (some ⟨sb, 0, none⟩) (L.length + 1) cap)) := hB6.set (Or.inl (Or.inl rfl)) _
  refine ⟨?_, hB⟩
  have e6 : w6.heap[lb]? = w.heap[lb]? := (hg.block lb (Nat.lt_of_lt_of_le hlt.1 h5.size) (fun e => hne (by injection e))).trans (h5.block lb hlt.1)
  have hc6 : w6.cell? ⟨lb, 0, none⟩ = some (.slice (some ⟨sb, 0, none⟩) L.length cap) := (World.cell?_of_block (w := w) (w' := w6) e6).trans hc.1
  have hkeep : ∀ b, ¬ two lb sb b → b < w5.heap.size → (w6.setCell ⟨lb, 0, none⟩ (.slice (some ⟨sb, 0, none⟩) (L.length + 1) cap)).heap[b]? = w5.heap[b]? := fun b hx hl =>
    (Below.heap_setCell w6 ⟨lb, 0, none⟩ _ b (fun e => hx (Or.inl e))).trans (hg.block b hl (fun e => hx (Or.inr (by injection e))))
  refine ⟨M ++ [(s, v)], by rw [List.map_append, hM]; rfl, ?_, ?_, hne, ?_, fun p hp => ?_, hlen.2⟩
  · rw [World.cell?_setCell_same _ _ _ hc6, List.length_append]; rfl
  · rw [World.frozen?_setCell]
    rw [← hc.2]; simp only [World.frozen?, e6]
  · rw [List.length_append, flatS_append, flatS_one]
    refine ⟨ho.1, ?_⟩
    rcases ho.2 with ⟨h, _⟩ | ⟨g, c, cur, e, hb', hg', hrest⟩
    · exact Or.inl ⟨h, by injection h⟩
    · refine Or.inr ⟨g, c, cur, e, hb', ?_, hrest⟩
      obtain rfl : sb = g := by injection e with e _ _; injection e with e; injection e
      rw [Below.heap_setCell w6 ⟨lb, 0, none⟩ _ sb (fun e => hne e.symm)]
      exact hg'
  · rcases List.mem_append.1 hp with hp | hp
    · exact (hR p hp).carry (fun b hx hl => ⟨(hkeep b hx (Nat.lt_of_lt_of_le hl h5.size)).trans (h5.block b hl), hx⟩)
    · obtain rfl : p = (s, v) := by simpa using hp
      rcases hv with hv | ⟨hv, hr⟩
      · have : RI w5 (two lb sb) s.r v := hv.ri _ (fun b hb h => by rcases h with h | h <;> omega)
        exact this.carry (fun b hx hl => ⟨hkeep b hx hl, hx⟩)
      · show RI _ _ s.r v
        rw [hv, hr]; exact RI.nil _ _
set_option maxRecDepth 100000 in
set_option maxHeartbeats 3200000 in
theorem put_any (lb sb cap : Nat) (L : List ST) (k : Int) (r : List (Int × Int)) (rv : Value) (w : World) (h : LS w lb sb cap L) (hroom : L.length + 1 ≤ cap) (X : Nat → Prop) (hR : RI w X r rv) (hl : r.length ≤ 1099511627776) :
    Calls Tryz.prog 106 #[.pointer (some ⟨lb, 0, none⟩), .int .i64 k, rv] w fun e w' => e = .returned (.tuple #[]) ∧ LS w' lb sb cap (L ++ [⟨k, r, (L.length : Int) + 1, 0⟩]) ∧ But (two lb sb) w w' := by
  have hlen := h.len
  have hc := h.cell
  have hlt := h.lt
  have hne := h.ne
  have hLI : (L.length : Int) + 1 ≤ 65536 := by omega
  obtain ⟨M, hM, hx1, hx2, hx3, hown, hRs, hx4⟩ := h
  clear hx1 hx2 hx3 hx4
  have h : LS w lb sb cap L := ⟨M, hM, hc.1, hc.2, hne, hown, hRs, hlen.2⟩
  obtain ⟨P, hP⟩ : ∃ P : Ending → World → Prop, P = fun e w' => e = .returned (.tuple #[]) ∧ LS w' lb sb cap (L ++ [⟨k, r, (L.length : Int) + 1, 0⟩]) ∧ But (two lb sb) w w' := ⟨_, rfl⟩
  rw [← hP]
  have HP := hid_intro hP
  clear hP
  have HCL : Hid (∀ w', Below w.heap.size w w' → Calls Tryz.prog 128 #[rv] w' fun e w2 => ∃ v', e = .returned v' ∧ OwnR w2 w'.heap.size v' r ∧ Below w'.heap.size w' w2) := hid_intro (fun w' hb => clone_any r rv X w' (hR.kept hb) hl)
  have HNX : Hid (∀ w', Below w.heap.size w w' → Calls Tryz.prog 129 #[.pointer (some ⟨lb, 0, none⟩)] w' fun e w2 => e = .returned (.int .i64 (L.length : Int)) ∧ Below w'.heap.size w' w2) := hid_intro (fun w' hb => next_any lb sb cap L w' (h.below hb))
  have HS : Hid (∀ w', But (fun b => b = sb) w w' → w'.cell? ⟨lb, 0, none⟩ = some (.slice (some ⟨sb, 0, none⟩) L.length cap) ∧ w'.frozen? ⟨lb, 0, none⟩ = false) := hid_intro (fun w' hb => by
    have e := hb.block lb hlt.1 hne
    exact ⟨(World.cell?_of_block (w := w) (w' := w') e).trans hc.1, by rw [← hc.2]; simp only [World.frozen?, e]⟩)
  have HO : Hid (∀ w', Below w.heap.size w w' → w'.ownsRow 0 94 4 (.slice (some ⟨sb, 0, none⟩) L.length cap) L.length (flatS M)) := hid_intro (fun w' hb => hown.kept (row := none) ⟨hb.os, hb.tape, hb.output, hb.size, fun b hl _ => hb.block b hl⟩ (Or.inr (fun e => by cases e)))
  have HH := hid_intro h
  have HRM := hid_intro (And.intro hM hRs)
  have hone : Value.oneCell' (.int .i64 k) = true := rfl
  have hwr : IntKind.i64.wrap ((L.length : Int) + 1) = (L.length : Int) + 1 := by simp [IntKind.wrap, IntKind.bits, IntKind.signed]; omega
  have HRO := hid_intro hroom
  clear h hown hRs hR hM hc hl hlen hlt hne hroom hLI hone
  go_enter Tryz.func106, Tryz.ntmps106
  go_wp2_with fail
  obtain ⟨l0, z0⟩ := HS.out w (But.refl _ _)
  go_region_law (first | (go_simp; go_at_call 128; refine (HCL.out _ ?_).mono ?_; (with_reducible repeat (first | exact Below.refl _ _ | refine vb_d ?_ | refine vb_a ?_ _ | refine vb_t ?_ hb4 | refine vb_t ?_ hb3)); rintro e w3 ⟨v3, rfl, ho3, hb3⟩; obtain ⟨ao3, c3, rfl⟩ := ho3.shape; obtain ⟨l3, z3⟩ := HS.out w3 (But.ofBelow (by with_reducible repeat (first | exact Below.refl _ _ | refine vb_d ?_ | refine vb_a ?_ _ | refine vb_t ?_ hb4 | refine vb_t ?_ hb3)))) | (go_simp; go_at_call 129; refine (HNX.out _ ?_).mono ?_; (with_reducible repeat (first | exact Below.refl _ _ | refine vb_d ?_ | refine vb_a ?_ _ | refine vb_t ?_ hb4 | refine vb_t ?_ hb3)); rintro e w4 ⟨rfl, hb4⟩; obtain ⟨l4, z4⟩ := HS.out w4 (But.ofBelow (by with_reducible repeat (first | exact Below.refl _ _ | refine vb_d ?_ | refine vb_a ?_ _ | refine vb_t ?_ hb4 | refine vb_t ?_ hb3))); have l5 : ∀ o, (w4.alloc o).cell? ⟨lb, 0, none⟩ = some (.slice (some ⟨sb, 0, none⟩) L.length cap) := fun o => (HS.out _ (But.alloc (But.ofBelow (by with_reducible repeat (first | exact Below.refl _ _ | refine vb_d ?_ | refine vb_a ?_ _ | refine vb_t ?_ hb4 | refine vb_t ?_ hb3))) o)).1) | (refine step_append_st (by rfl) _ _ (by rfl) sb L.length cap (flatS M) (by rfl) w4.heap.size (.int .i64 k) (.slice ao3 r.length c3) (.int .i64 ((L.length : Int) + 1)) (.int .i64 0) (by rfl) HRO.out ⟨rfl, rfl, rfl, rfl⟩ ?_ ?_ ?_; (with_reducible repeat (first | exact Bk.new _ _ _ | refine Bk.dw ?_)); (refine HO.out _ ?_; with_reducible repeat (first | exact Below.refl _ _ | refine vb_d ?_ | refine vb_a ?_ _ | refine vb_t ?_ hb4 | refine vb_t ?_ hb3)); intro w6 ho6 hg6; have hB6 : But (fun b => b = sb) w w6 := But.grown (But.ofBelow (by with_reducible repeat (first | exact Below.refl _ _ | refine vb_d ?_ | refine vb_a ?_ _ | refine vb_t ?_ hb4 | refine vb_t ?_ hb3))) hg6 (fun b e => by injection e with e; exact Or.inl e.symm); obtain ⟨l6, z6⟩ := HS.out w6 hB6) | fail)
  all_goals
    go_end0
    rw [HP.out]
    exact ⟨rfl, LS.put ⟨k, r, (L.length : Int) + 1, 0⟩ _ M HRM.out.1 HH.out HRM.out.2 (by with_reducible repeat (first | exact Below.refl _ _ | refine vb_d ?_ | refine vb_a ?_ _ | refine vb_t ?_ hb4 | refine vb_t ?_ hb3)) hg6 ho6 (Or.inl (OwnR.below (w := w3) ho3 (by with_reducible repeat (first | exact Below.refl _ _ | refine vb_d ?_ | refine vb_a ?_ _ | refine vb_t ?_ hb4))))⟩
end Go.Proofs.YtoinlmfodmgohaaGreatDoor

namespace Go.Proofs.YtoinlmfodmgohaaGreatDoor
open Go.RowKit
attribute [local go_sem] setCell_drewN alloc_drewN

/-- Two numbers of a state turned. -/
def ST.goB (s : ST) (b : Int) : ST := { s with b := b }
def ST.goAB (s : ST) (b : Int) : ST := { s with a := b, b := b }
/-- A state of the list turned. -/
def setB (L : List ST) (i : Nat) : List ST := L.set i ((sa L i).goB (L.length : Int))
def setAB (L : List ST) (i : Nat) : List ST := L.set i ((sa L i).goAB (L.length : Int))
theorem setB_len (L : List ST) (i : Nat) : (setB L i).length = L.length := by simp [setB]
theorem setAB_len (L : List ST) (i : Nat) : (setAB L i).length = L.length := by simp [setAB]
theorem flatS_set : ∀ (M : List (ST × Value)) (i : Nat) (h : i < M.length) (x : Int), (flatS M).set (i * 4 + 3) (.int .i64 x) = flatS (M.set i (M[i].1.goB x, M[i].2)) := by
  intro M
  induction M with
  | nil => intro i h; simp at h
  | cons p M ih =>
    intro i h x
    cases i with
    | zero => rfl
    | succ i =>
      have e1 : (i + 1) * 4 + 3 = (i * 4 + 3) + 4 := by omega
      rw [e1]
      have := ih i (by simpa using h) x
      show .int .i64 p.1.k :: p.2 :: .int .i64 p.1.a :: .int .i64 p.1.b :: (flatS M).set (i * 4 + 3) (.int .i64 x) = _
      rw [this]; rfl
theorem flatS_setA : ∀ (M : List (ST × Value)) (i : Nat) (h : i < M.length) (x : Int), (flatS M).set (i * 4 + 2) (.int .i64 x) = flatS (M.set i ({ M[i].1 with a := x }, M[i].2)) := by
  intro M
  induction M with
  | nil => intro i h; simp at h
  | cons p M ih =>
    intro i h x
    cases i with
    | zero => rfl
    | succ i =>
      have e1 : (i + 1) * 4 + 2 = (i * 4 + 2) + 4 := by omega
      rw [e1]
      have := ih i (by simpa using h) x
      show .int .i64 p.1.k :: p.2 :: .int .i64 p.1.a :: .int .i64 p.1.b :: (flatS M).set (i * 4 + 2) (.int .i64 x) = _
      rw [this]; rfl
/-- A store into the number B, or A, of a state. -/
theorem LS.store {w : World} {lb sb cap : Nat} {L : List ST} (h : LS w lb sb cap L) (i : Nat) (hi : i < L.length) (x : Int) :
    LS (w.setCell ⟨sb, i * 4 + 3, none⟩ (.int .i64 x)) lb sb cap (L.set i ((sa L i).goB x)) ∧ But (two lb sb) w (w.setCell ⟨sb, i * 4 + 3, none⟩ (.int .i64 x)) := by
  have hlt := h.lt
  refine ⟨?_, (But.refl _ _).set (Or.inl (Or.inr rfl)) _⟩
  obtain ⟨M, h0, h1, h2, h3, h4, h5, h6⟩ := h
  subst h0
  have hiM : i < M.length := by simpa using hi
  rw [List.length_map] at h1 h4
  have hst := h4.stored (i * 4 + 3) (.int .i64 x)
  refine ⟨M.set i (M[i].1.goB x, M[i].2), ?_, ?_, ?_, h3, ?_, fun p hp => ?_, h6⟩
  · rw [List.map_set, sa_get hi]; simp
  · rw [World.cell?_setCell_other _ _ _ _ (by intro e; injection e with e; exact h3 e.symm), h1]; simp
  · rw [World.frozen?_setCell]; exact h2
  · rw [List.length_set, List.length_map, ← flatS_set M i hiM]
    exact hst.1
  · have hR : RI w (two lb sb) p.1.r p.2 := by
      rcases List.mem_or_eq_of_mem_set hp with hp | hp
      · exact h5 p hp
      · rw [hp]; exact h5 M[i] (List.getElem_mem hiM)
    exact hR.set (Or.inr rfl) _
theorem LS.storeA {w : World} {lb sb cap : Nat} {L : List ST} (h : LS w lb sb cap L) (i : Nat) (hi : i < L.length) (x : Int) :
    LS (w.setCell ⟨sb, i * 4 + 2, none⟩ (.int .i64 x)) lb sb cap (L.set i { sa L i with a := x }) ∧ But (two lb sb) w (w.setCell ⟨sb, i * 4 + 2, none⟩ (.int .i64 x)) := by
  have hlt := h.lt
  refine ⟨?_, (But.refl _ _).set (Or.inl (Or.inr rfl)) _⟩
  obtain ⟨M, h0, h1, h2, h3, h4, h5, h6⟩ := h
  subst h0
  have hiM : i < M.length := by simpa using hi
  rw [List.length_map] at h1 h4
  have hst := h4.stored (i * 4 + 2) (.int .i64 x)
  refine ⟨M.set i ({ M[i].1 with a := x }, M[i].2), ?_, ?_, ?_, h3, ?_, fun p hp => ?_, h6⟩
  · rw [List.map_set, sa_get hi]; simp
  · rw [World.cell?_setCell_other _ _ _ _ (by intro e; injection e with e; exact h3 e.symm), h1]; simp
  · rw [World.frozen?_setCell]; exact h2
  · rw [List.length_set, List.length_map, ← flatS_setA M i hiM]
    exact hst.1
  · have hR : RI w (two lb sb) p.1.r p.2 := by
      rcases List.mem_or_eq_of_mem_set hp with hp | hp
      · exact h5 p hp
      · rw [hp]; exact h5 M[i] (List.getElem_mem hiM)
    exact hR.set (Or.inr rfl) _
/-- The cells of a state in the list. -/
theorem LS.at {w : World} {lb sb cap : Nat} {L : List ST} (h : LS w lb sb cap L) (i : Nat) (hi : i < L.length) :
    (∃ v, w.cell? ⟨sb, i * 4, none⟩ = some (.int .i64 (sa L i).k) ∧ w.cell? ⟨sb, i * 4 + 1, none⟩ = some v ∧ w.cell? ⟨sb, i * 4 + 2, none⟩ = some (.int .i64 (sa L i).a) ∧ w.cell? ⟨sb, i * 4 + 3, none⟩ = some (.int .i64 (sa L i).b) ∧ RI w (two lb sb) (sa L i).r v) ∧ ∀ o, w.frozen? ⟨sb, o, none⟩ = false := by
  obtain ⟨M, h0, h1, h2, h3, h4, h5, h6⟩ := h
  subst h0
  have hiM : i < M.length := by simpa using hi
  rw [List.length_map] at h4
  have f := flatS_at M i hiM
  have e : sa (M.map Prod.fst) i = M[i].1 := by rw [sa_get hi]; simp
  rw [e]
  exact ⟨⟨M[i].2, (h4.cellAt _ (by omega)).trans f.1, (h4.cellAt _ (by omega)).trans f.2.1, (h4.cellAt _ (by omega)).trans f.2.2.1, (h4.cellAt _ (by omega)).trans f.2.2.2, h5 _ (List.getElem_mem hiM)⟩, fun o => h4.frozenAt o⟩
end Go.Proofs.YtoinlmfodmgohaaGreatDoor
