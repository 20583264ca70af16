/-
  The list of states with blocks that are set apart: in none of them a state's ranges lie. Conditions: there is room.
-/
import Derived.Test.YtoinlmfodmgohaaGreatDoorJoined33
namespace Go.Proofs.YtoinlmfodmgohaaGreatDoor
open Go.RowKit
attribute [local go_sem] setCell_drewN alloc_drewN

/-- The two blocks of a list, and those that are set apart. -/
def thr (lb sb : Nat) (Z : List Nat) : Nat → Prop := fun b => b = lb ∨ b = sb ∨ b ∈ Z
/-- The list at lb, its states in the block sb. -/
def LZ (w : World) (lb sb cap : Nat) (Z : List Nat) (L : List ST) : Prop :=
  ∃ M : List (ST × Value), M.map Prod.fst = L ∧ w.cell? ⟨lb, 0, none⟩ = some (.slice (some ⟨sb, 0, none⟩) L.length cap) ∧ w.frozen? ⟨lb, 0, none⟩ = false ∧ lb ≠ sb ∧
    w.ownsRow 0 94 4 (.slice (some ⟨sb, 0, none⟩) L.length cap) L.length (flatS M) ∧ (∀ p ∈ M, RI w (thr lb sb Z) p.1.r p.2) ∧ cap ≤ 65536 ∧ ∀ z ∈ Z, z < w.heap.size ∧ z ≠ lb ∧ z ≠ sb
theorem LZ.lt {w : World} {lb sb cap : Nat} {Z : List Nat} {L : List ST} (h : LZ w lb sb cap Z L) : lb < w.heap.size ∧ sb < w.heap.size := by
  obtain ⟨M, _, h1, _, _, h4, _⟩ := h
  exact ⟨World.block_lt_of_cell? w _ h1, (h4.lt sb rfl).2⟩
theorem LZ.ne {w : World} {lb sb cap : Nat} {Z : List Nat} {L : List ST} (h : LZ w lb sb cap Z L) : lb ≠ sb := by
  obtain ⟨M, _, h1, _, h3, h4, _⟩ := h
  exact h3
theorem LZ.len {w : World} {lb sb cap : Nat} {Z : List Nat} {L : List ST} (h : LZ w lb sb cap Z L) : L.length ≤ cap ∧ cap ≤ 65536 := by
  obtain ⟨M, _, h1, _, h3, h4, h5, h6, _⟩ := h
  refine ⟨?_, h6⟩
  rcases h4.2 with ⟨e, _⟩ | ⟨g, c, cur, e, _, _, hc, _⟩
  · cases e
  · injection e with _ _ e; omega
theorem LZ.cell {w : World} {lb sb cap : Nat} {Z : List Nat} {L : List ST} (h : LZ w lb sb cap Z L) : w.cell? ⟨lb, 0, none⟩ = some (.slice (some ⟨sb, 0, none⟩) L.length cap) ∧ w.frozen? ⟨lb, 0, none⟩ = false := by
  obtain ⟨M, _, h1, h2, _⟩ := h
  exact ⟨h1, h2⟩
/-- Nothing but other blocks, or what is set apart, has changed. -/
theorem LZ.carry {w w' : World} {lb sb cap : Nat} {Z : List Nat} {L : List ST} (h : LZ w lb sb cap Z L) {Y : Nat → Prop} (hb : But Y w w') (hY : ∀ b, Y b → b ∈ Z ∨ w.heap.size ≤ b) : LZ w' lb sb cap Z L := by
  have hlt := h.lt
  obtain ⟨M, h0, h1, h2, h3, h4, h5, h6, h7⟩ := h
  have e1 : w'.heap[lb]? = w.heap[lb]? := hb.block lb hlt.1 (fun hy => by rcases hY _ hy with h | h; exact (h7 _ h).2.1 rfl; omega)
  have e2 : w'.heap[sb]? = w.heap[sb]? := hb.block sb hlt.2 (fun hy => by rcases hY _ hy with h | h; exact (h7 _ h).2.2 rfl; omega)
  refine ⟨M, h0, (World.cell?_of_block (w := w) (w' := w') e1).trans h1, ?_, h3, ?_, fun p hp => (h5 p hp).carry (fun b hx hl => ⟨hb.block b hl (fun hy => by rcases hY _ hy with h | h; exact hx (Or.inr (Or.inr h)); omega), hx⟩), h6, fun z hz => ⟨Nat.lt_of_lt_of_le (h7 z hz).1 hb.size, (h7 z hz).2⟩⟩
  · rw [← h2]; simp only [World.frozen?, e1]
  · refine ⟨h4.1, ?_⟩
    rcases h4.2 with h | ⟨g, c, cur, e, hb', hg, hrest⟩
    · exact Or.inl h
    · refine Or.inr ⟨g, c, cur, e, hb', ?_, hrest⟩
      obtain rfl : sb = g := by injection e with e _ _; injection e with e; injection e
      rw [e2]; exact hg
theorem LZ.below {w w' : World} {lb sb cap : Nat} {Z : List Nat} {L : List ST} (h : LZ w lb sb cap Z L) (hb : Below w.heap.size w w') : LZ w' lb sb cap Z L :=
  h.carry (Y := fun _ => False) (But.ofBelow hb) (fun _ hf => hf.elim)
/-- A block more is set apart, if no range lies in it. -/
theorem LZ.apart {w w' : World} {lb sb cap : Nat} {Z : List Nat} {L : List ST} (h : LZ w lb sb cap Z L) (hb : Below w.heap.size w w') (z : Nat) (h1 : w.heap.size ≤ z) (h2 : z < w'.heap.size) : LZ w' lb sb cap (z :: Z) L := by
  have hlt := h.lt
  obtain ⟨M, e0, e1, e2, e3, e4, e5, e6, e7⟩ := h.below hb
  obtain ⟨M', f0, f1, f2, f3, f4, f5, f6, f7⟩ := h
  have hM : ∀ p ∈ M', RI w' (thr lb sb (z :: Z)) p.1.r p.2 := fun p hp => (f5 p hp).carry (fun b hx hl => ⟨hb.block b hl, fun hy => by
    rcases hy with hy | hy | hy
    · exact hx (Or.inl hy)
    · exact hx (Or.inr (Or.inl hy))
    · rcases List.mem_cons.1 hy with hy | hy
      · omega
      · exact hx (Or.inr (Or.inr hy))⟩)
  have ho : w'.ownsRow 0 94 4 (.slice (some ⟨sb, 0, none⟩) L.length cap) L.length (flatS M') := f4.kept (row := none) ⟨hb.os, hb.tape, hb.output, hb.size, fun b hl _ => hb.block b hl⟩ (Or.inr (fun e => by cases e))
  exact ⟨M', f0, e1, e2, e3, ho, hM, e6, fun y hy => by
    rcases List.mem_cons.1 hy with hy | hy
    · subst hy; exact ⟨h2, by omega, by omega⟩
    · exact e7 y hy⟩
theorem LZ.weak {w : World} {lb sb cap : Nat} {Z : List Nat} {z : Nat} {L : List ST} (h : LZ w lb sb cap (z :: Z) L) : LZ w lb sb cap Z L := by
  obtain ⟨M, f0, f1, f2, f3, f4, f5, f6, f7⟩ := h
  exact ⟨M, f0, f1, f2, f3, f4, fun p hp => (f5 p hp).weak (fun b hb => by
    rcases hb with h | h | h
    · exact Or.inl h
    · exact Or.inr (Or.inl h)
    · exact Or.inr (Or.inr (List.mem_cons_of_mem _ h))), f6, fun y hy => f7 y (List.mem_cons_of_mem _ hy)⟩
set_option maxRecDepth 100000 in
theorem nextZ_any (lb sb cap : Nat) (Z : List Nat) (L : List ST) (w : World) (h : LZ w lb sb cap Z L) :
    Calls Tryz.prog 129 #[.pointer (some ⟨lb, 0, none⟩)] w fun r w' => r = .returned (.int .i64 (L.length : Int)) ∧ Below w.heap.size w w' := by
  have hc := h.cell.1
  go_enter Tryz.func129, Tryz.ntmps129
  go_wp2_with fail
  go_ret
  exact ⟨rfl, Below.refl _ _⟩
/-- What the list is once its slice was stored. -/
theorem LZ.put {w w5 w6 : World} {lb sb cap : Nat} {Z : List Nat} {L : List ST} (s : ST) (v : Value) (M : List (ST × Value)) (hM : M.map Prod.fst = L) (h : LZ w lb sb cap Z L) (hR : ∀ p ∈ M, RI w (thr lb sb Z) p.1.r p.2)
    (h5 : Below w.heap.size w w5) (hg : w5.grownBy w6 (some sb)) (ho : w6.ownsRow 0 94 4 (.slice (some ⟨sb, 0, none⟩) (L.length + 1) cap) (L.length + 1) (flatS M ++ [.int .i64 s.k, v, .int .i64 s.a, .int .i64 s.b]))
    (hv : OwnR w5 w.heap.size v s.r ∨ (v = .slice none 0 0 ∧ s.r = [])) :
    LZ (w6.setCell ⟨lb, 0, none⟩ (.slice (some ⟨sb, 0, none⟩) (L.length + 1) cap)) lb sb cap Z (L ++ [s]) ∧ But (two lb sb) w (w6.setCell ⟨lb, 0, none⟩ (.slice (some ⟨sb, 0, none⟩) (L.length + 1) cap)) := by
  have hlt := h.lt
  have hne := h.ne
  have hlen := h.len
  have hc := h.cell
  have hZ : ∀ z ∈ Z, z < w.heap.size ∧ z ≠ lb ∧ z ≠ sb := by obtain ⟨_, _, _, _, _, _, _, _, h7⟩ := h; exact h7
  have hB6 : But (two lb sb) w w6 := (But.ofBelow h5).grown hg (fun b e => by injection e with e; exact Or.inl (Or.inr e.symm))
  have hB : But (two lb sb) w (w6.setCell ⟨lb, 0, none⟩ (.slice (some ⟨sb, 0, none⟩) (L.length + 1) cap)) := hB6.set (Or.inl (Or.inl rfl)) _
  refine ⟨?_, hB⟩
  have e6 : w6.heap[lb]? = w.heap[lb]? := (hg.block lb (Nat.lt_of_lt_of_le hlt.1 h5.size) (fun e => hne (by injection e))).trans (h5.block lb hlt.1)
  have hc6 : w6.cell? ⟨lb, 0, none⟩ = some (.slice (some ⟨sb, 0, none⟩) L.length cap) := (World.cell?_of_block (w := w) (w' := w6) e6).trans hc.1
  have hkeep : ∀ b, ¬ thr lb sb Z b → b < w5.heap.size → (w6.setCell ⟨lb, 0, none⟩ (.slice (some ⟨sb, 0, none⟩) (L.length + 1) cap)).heap[b]? = w5.heap[b]? := fun b hx hl =>
    (Below.heap_setCell w6 ⟨lb, 0, none⟩ _ b (fun e => hx (Or.inl e))).trans (hg.block b hl (fun e => hx (Or.inr (Or.inl (by injection e)))))
  refine ⟨M ++ [(s, v)], by rw [List.map_append, hM]; rfl, ?_, ?_, hne, ?_, fun p hp => ?_, hlen.2, fun z hz => ⟨Nat.lt_of_lt_of_le (hZ z hz).1 hB.size, (hZ z hz).2⟩⟩
  · rw [World.cell?_setCell_same _ _ _ hc6, List.length_append]; rfl
  · rw [World.frozen?_setCell]
    rw [← hc.2]; simp only [World.frozen?, e6]
  · rw [List.length_append, flatS_append, flatS_one]
    refine ⟨ho.1, ?_⟩
    rcases ho.2 with ⟨h, _⟩ | ⟨g, c, cur, e, hb', hg', hrest⟩
    · exact Or.inl ⟨h, by injection h⟩
    · refine Or.inr ⟨g, c, cur, e, hb', ?_, hrest⟩
      obtain rfl : sb = g := by injection e with e _ _; injection e with e; injection e
      rw [Below.heap_setCell w6 ⟨lb, 0, none⟩ _ sb (fun e => hne e.symm)]
      exact hg'
  · rcases List.mem_append.1 hp with hp | hp
    · exact (hR p hp).carry (fun b hx hl => ⟨(hkeep b hx (Nat.lt_of_lt_of_le hl h5.size)).trans (h5.block b hl), hx⟩)
    · obtain rfl : p = (s, v) := by simpa using hp
      rcases hv with hv | ⟨hv, hr⟩
      · have : RI w5 (thr lb sb Z) s.r v := hv.ri _ (fun b hb h => by rcases h with h | h | h; omega; omega; have := (hZ b h).1; omega)
        exact this.carry (fun b hx hl => ⟨hkeep b hx hl, hx⟩)
      · show RI _ _ s.r v
        rw [hv, hr]; exact RI.nil _ _
set_option maxRecDepth 100000 in
set_option maxHeartbeats 3200000 in
theorem putZ_any (lb sb cap : Nat) (Z : List Nat) (L : List ST) (k : Int) (r : List (Int × Int)) (rv : Value) (w : World) (h : LZ w lb sb cap Z L) (hroom : L.length + 1 ≤ cap) (X : Nat → Prop) (hR : RI w X r rv) (hl : r.length ≤ 1099511627776) :
    Calls Tryz.prog 106 #[.pointer (some ⟨lb, 0, none⟩), .int .i64 k, rv] w fun e w' => e = .returned (.tuple #[]) ∧ LZ w' lb sb cap Z (L ++ [⟨k, r, (L.length : Int) + 1, 0⟩]) ∧ But (two lb sb) w w' := by
  have hlen := h.len
  have hc := h.cell
  have hlt := h.lt
  have hne := h.ne
  have hLI : (L.length : Int) + 1 ≤ 65536 := by omega
  obtain ⟨M, hM, hx1, hx2, hx3, hown, hRs, hx4, hx5⟩ := h
  have h : LZ w lb sb cap Z L := ⟨M, hM, hc.1, hc.2, hne, hown, hRs, hlen.2, hx5⟩
  clear hx1 hx2 hx3 hx4 hx5
  obtain ⟨P, hP⟩ : ∃ P : Ending → World → Prop, P = fun e w' => e = .returned (.tuple #[]) ∧ LZ w' lb sb cap Z (L ++ [⟨k, r, (L.length : Int) + 1, 0⟩]) ∧ But (two lb sb) w w' := ⟨_, rfl⟩
  rw [← hP]
  have HP := hid_intro hP
  clear hP
  have HCL : Hid (∀ w', Below w.heap.size w w' → Calls Tryz.prog 128 #[rv] w' fun e w2 => ∃ v', e = .returned v' ∧ OwnR w2 w'.heap.size v' r ∧ Below w'.heap.size w' w2) := hid_intro (fun w' hb => clone_any r rv X w' (hR.kept hb) hl)
  have HNX : Hid (∀ w', Below w.heap.size w w' → Calls Tryz.prog 129 #[.pointer (some ⟨lb, 0, none⟩)] w' fun e w2 => e = .returned (.int .i64 (L.length : Int)) ∧ Below w'.heap.size w' w2) := hid_intro (fun w' hb => nextZ_any lb sb cap Z L w' (h.below hb))
  have HS : Hid (∀ w', But (fun b => b = sb) w w' → w'.cell? ⟨lb, 0, none⟩ = some (.slice (some ⟨sb, 0, none⟩) L.length cap) ∧ w'.frozen? ⟨lb, 0, none⟩ = false) := hid_intro (fun w' hb => by
    have e := hb.block lb hlt.1 hne
    exact ⟨(World.cell?_of_block (w := w) (w' := w') e).trans hc.1, by rw [← hc.2]; simp only [World.frozen?, e]⟩)
  have HO : Hid (∀ w', Below w.heap.size w w' → w'.ownsRow 0 94 4 (.slice (some ⟨sb, 0, none⟩) L.length cap) L.length (flatS M)) := hid_intro (fun w' hb => hown.kept (row := none) ⟨hb.os, hb.tape, hb.output, hb.size, fun b hl _ => hb.block b hl⟩ (Or.inr (fun e => by cases e)))
  have HH := hid_intro h
  have HRM := hid_intro (And.intro hM hRs)
  have hone : Value.oneCell' (.int .i64 k) = true := rfl
  have hwr : IntKind.i64.wrap ((L.length : Int) + 1) = (L.length : Int) + 1 := by simp [IntKind.wrap, IntKind.bits, IntKind.signed]; omega
  have HRO := hid_intro hroom
  clear h hown hRs hR hM hc hl hlen hlt hne hroom hLI hone
  go_enter Tryz.func106, Tryz.ntmps106
  go_wp2_with fail
  obtain ⟨l0, z0⟩ := HS.out w (But.refl _ _)
  go_region_law (first | (go_simp; go_at_call 128; refine (HCL.out _ ?_).mono ?_; (with_reducible repeat (first | exact Below.refl _ _ | refine vb_d ?_ | refine vb_a ?_ _ | refine vb_t ?_ hb4 | refine vb_t ?_ hb3)); rintro e w3 ⟨v3, rfl, ho3, hb3⟩; obtain ⟨ao3, c3, rfl⟩ := ho3.shape; obtain ⟨l3, z3⟩ := HS.out w3 (But.ofBelow (by with_reducible repeat (first | exact Below.refl _ _ | refine vb_d ?_ | refine vb_a ?_ _ | refine vb_t ?_ hb4 | refine vb_t ?_ hb3)))) | (go_simp; go_at_call 129; refine (HNX.out _ ?_).mono ?_; (with_reducible repeat (first | exact Below.refl _ _ | refine vb_d ?_ | refine vb_a ?_ _ | refine vb_t ?_ hb4 | refine vb_t ?_ hb3)); rintro e w4 ⟨rfl, hb4⟩; obtain ⟨l4, z4⟩ := HS.out w4 (But.ofBelow (by with_reducible repeat (first | exact Below.refl _ _ | refine vb_d ?_ | refine vb_a ?_ _ | refine vb_t ?_ hb4 | refine vb_t ?_ hb3))); have l5 : ∀ o, (w4.alloc o).cell? ⟨lb, 0, none⟩ = some (.slice (some ⟨sb, 0, none⟩) L.length cap) := fun o => (HS.out _ (But.alloc (But.ofBelow (by with_reducible repeat (first | exact Below.refl _ _ | refine vb_d ?_ | refine vb_a ?_ _ | refine vb_t ?_ hb4 | refine vb_t ?_ hb3))) o)).1) | (refine step_append_st (by rfl) _ _ (by rfl) sb L.length cap (flatS M) (by rfl) w4.heap.size (.int .i64 k) (.slice ao3 r.length c3) (.int .i64 ((L.length : Int) + 1)) (.int .i64 0) (by rfl) HRO.out ⟨rfl, rfl, rfl, rfl⟩ ?_ ?_ ?_; (with_reducible repeat (first | exact Bk.new _ _ _ | refine Bk.dw ?_)); (refine HO.out _ ?_; with_reducible repeat (first | exact Below.refl _ _ | refine vb_d ?_ | refine vb_a ?_ _ | refine vb_t ?_ hb4 | refine vb_t ?_ hb3)); intro w6 ho6 hg6; have hB6 : But (fun b => b = sb) w w6 := But.grown (But.ofBelow (by with_reducible repeat (first | exact Below.refl _ _ | refine vb_d ?_ | refine vb_a ?_ _ | refine vb_t ?_ hb4 | refine vb_t ?_ hb3))) hg6 (fun b e => by injection e with e; exact Or.inl e.symm); obtain ⟨l6, z6⟩ := HS.out w6 hB6) | fail)
  all_goals
    go_end0
    rw [HP.out]
    exact ⟨rfl, LZ.put ⟨k, r, (L.length : Int) + 1, 0⟩ _ M HRM.out.1 HH.out HRM.out.2 (by with_reducible repeat (first | exact Below.refl _ _ | refine vb_d ?_ | refine vb_a ?_ _ | refine vb_t ?_ hb4 | refine vb_t ?_ hb3)) hg6 ho6 (Or.inl (OwnR.below (w := w3) ho3 (by with_reducible repeat (first | exact Below.refl _ _ | refine vb_d ?_ | refine vb_a ?_ _ | refine vb_t ?_ hb4))))⟩
end Go.Proofs.YtoinlmfodmgohaaGreatDoor
