/-
  A state more in the list. Conditions: there is room; at most 2^40 ranges.
  A fork and a jump, and what they answer, called. Conditions: there is room.
-/
import Derived.Test.YtcgohdfpmfpfiaaXL1
import Derived.Test.YtcgohdfpmfpfiaaXM1
import Derived.Deep.RegionLaw
namespace Go.Proofs.Ytcgohdfpmfpfiaa
open Go.RowKit
attribute [local go_sem] setCell_drewN alloc_drewN

theorem flatS_one (s : ST) (v : Value) : flatS [(s, v)] = [.int .i64 s.k, v, .int .i64 s.a, .int .i64 s.b] := rfl
/-- What the list is once its slice was stored. -/
theorem LS.put {w w5 w6 : World} {lb sb cap : Nat} {L : List ST} (s : ST) (v : Value) (M : List (ST × Value)) (hM : M.map Prod.fst = L) (h : LS w lb sb cap L) (hR : ∀ p ∈ M, RI w (two lb sb) p.1.r p.2)
    (h5 : Below w.heap.size w w5) (hg : w5.grownBy w6 (some sb)) (ho : w6.ownsRow 0 40 4 (.slice (some ⟨sb, 0, none⟩) (L.length + 1) cap) (L.length + 1) (flatS M ++ [.int .i64 s.k, v, .int .i64 s.a, .int .i64 s.b]))
    (hv : OwnR w5 w.heap.size v s.r ∨ (v = .slice none 0 0 ∧ s.r = [])) :
    LS (w6.setCell ⟨lb, 0, none⟩ (.slice (some ⟨sb, 0, none⟩) (L.length + 1) cap)) lb sb cap (L ++ [s]) ∧ But (two lb sb) w (w6.setCell ⟨lb, 0, none⟩ (.slice (some ⟨sb, 0, none⟩) (L.length + 1) cap)) := by
  have hlt := h.lt
  have hne := h.ne
  have hlen := h.len
  have hc := h.cell
  have hB6 : But (two lb sb) w w6 := (But.ofBelow h5).grown hg (fun b e => by injection e with e; exact Or.inl (Or.inr e.symm))
  have hB : But (two lb sb) w (w6.setCell ⟨lb, 0, none⟩ (.slice (some ⟨sb, 0, none⟩) (L.length + 1) cap)) := hB6.set (Or.inl (Or.inl rfl)) _
  refine ⟨?_, hB⟩
  have e6 : w6.heap[lb]? = w.heap[lb]? := (hg.block lb (Nat.lt_of_lt_of_le hlt.1 h5.size) (fun e => hne (by injection e))).trans (h5.block lb hlt.1)
  have hc6 : w6.cell? ⟨lb, 0, none⟩ = some (.slice (some ⟨sb, 0, none⟩) L.length cap) := (World.cell?_of_block (w := w) (w' := w6) e6).trans hc.1
  have hkeep : ∀ b, ¬ two lb sb b → b < w5.heap.size → (w6.setCell ⟨lb, 0, none⟩ (.slice (some ⟨sb, 0, none⟩) (L.length + 1) cap)).heap[b]? = w5.heap[b]? := fun b hx hl =>
    (Below.heap_setCell w6 ⟨lb, 0, none⟩ _ b (fun e => hx (Or.inl e))).trans (hg.block b hl (fun e => hx (Or.inr (by injection e))))
  refine ⟨M ++ [(s, v)], by rw [List.map_append, hM]; rfl, ?_, ?_, hne, ?_, fun p hp => ?_, hlen.2⟩
  · rw [World.cell?_setCell_same _ _ _ hc6, List.length_append]; rfl
  · rw [World.frozen?_setCell]
    rw [← hc.2]; simp only [World.frozen?, e6]
  · rw [List.length_append, flatS_append, flatS_one]
    refine ⟨ho.1, ?_⟩
    rcases ho.2 with ⟨h, _⟩ | ⟨g, c, cur, e, hb', hg', hrest⟩
    · exact Or.inl ⟨h, by injection h⟩
    · refine Or.inr ⟨g, c, cur, e, hb', ?_, hrest⟩
      obtain rfl : sb = g := by injection e with e _ _; injection e with e; injection e
      rw [Below.heap_setCell w6 ⟨lb, 0, none⟩ _ sb (fun e => hne e.symm)]
      exact hg'
  · rcases List.mem_append.1 hp with hp | hp
    · exact (hR p hp).carry (fun b hx hl => ⟨(hkeep b hx (Nat.lt_of_lt_of_le hl h5.size)).trans (h5.block b hl), hx⟩)
    · obtain rfl : p = (s, v) := by simpa using hp
      rcases hv with hv | ⟨hv, hr⟩
      · have : RI w5 (two lb sb) s.r v := hv.ri _ (fun b hb h => by rcases h with h | h <;> omega)
        exact this.carry (fun b hx hl => ⟨hkeep b hx hl, hx⟩)
      · show RI _ _ s.r v
        rw [hv, hr]; exact RI.nil _ _
set_option maxRecDepth 100000 in
set_option maxHeartbeats 3200000 in
theorem put_any (lb sb cap : Nat) (L : List ST) (k : Int) (r : List (Int × Int)) (rv : Value) (w : World) (h : LS w lb sb cap L) (hroom : L.length + 1 ≤ cap) (X : Nat → Prop) (hR : RI w X r rv) (hl : r.length ≤ 1099511627776) :
    Calls Try.prog 41 #[.pointer (some ⟨lb, 0, none⟩), .int .i64 k, rv] w fun e w' => e = .returned (.tuple #[]) ∧ LS w' lb sb cap (L ++ [⟨k, r, (L.length : Int) + 1, 0⟩]) ∧ But (two lb sb) w w' := by
  have hlen := h.len
  have hc := h.cell
  have hlt := h.lt
  have hne := h.ne
  have hLI : (L.length : Int) + 1 ≤ 65536 := by omega
  obtain ⟨M, hM, hx1, hx2, hx3, hown, hRs, hx4⟩ := h
  clear hx1 hx2 hx3 hx4
  have h : LS w lb sb cap L := ⟨M, hM, hc.1, hc.2, hne, hown, hRs, hlen.2⟩
  obtain ⟨P, hP⟩ : ∃ P : Ending → World → Prop, P = fun e w' => e = .returned (.tuple #[]) ∧ LS w' lb sb cap (L ++ [⟨k, r, (L.length : Int) + 1, 0⟩]) ∧ But (two lb sb) w w' := ⟨_, rfl⟩
  rw [← hP]
  have HP := hid_intro hP
  clear hP
  have HCL : Hid (∀ w', Below w.heap.size w w' → Calls Try.prog 54 #[rv] w' fun e w2 => ∃ v', e = .returned v' ∧ OwnR w2 w'.heap.size v' r ∧ Below w'.heap.size w' w2) := hid_intro (fun w' hb => clone_any r rv X w' (hR.kept hb) hl)
  have HNX : Hid (∀ w', Below w.heap.size w w' → Calls Try.prog 55 #[.pointer (some ⟨lb, 0, none⟩)] w' fun e w2 => e = .returned (.int .i64 (L.length : Int)) ∧ Below w'.heap.size w' w2) := hid_intro (fun w' hb => next_any lb sb cap L w' (h.below hb))
  have HS : Hid (∀ w', But (fun b => b = sb) w w' → w'.cell? ⟨lb, 0, none⟩ = some (.slice (some ⟨sb, 0, none⟩) L.length cap) ∧ w'.frozen? ⟨lb, 0, none⟩ = false) := hid_intro (fun w' hb => by
    have e := hb.block lb hlt.1 hne
    exact ⟨(World.cell?_of_block (w := w) (w' := w') e).trans hc.1, by rw [← hc.2]; simp only [World.frozen?, e]⟩)
  have HO : Hid (∀ w', Below w.heap.size w w' → w'.ownsRow 0 40 4 (.slice (some ⟨sb, 0, none⟩) L.length cap) L.length (flatS M)) := hid_intro (fun w' hb => hown.kept (row := none) ⟨hb.os, hb.tape, hb.output, hb.size, fun b hl _ => hb.block b hl⟩ (Or.inr (fun e => by cases e)))
  have HH := hid_intro h
  have HRM := hid_intro (And.intro hM hRs)
  have hone : Value.oneCell' (.int .i64 k) = true := rfl
  have hwr : IntKind.i64.wrap ((L.length : Int) + 1) = (L.length : Int) + 1 := by simp [IntKind.wrap, IntKind.bits, IntKind.signed]; omega
  have HRO := hid_intro hroom
  clear h hown hRs hR hM hc hl hlen hlt hne hroom hLI hone
  go_enter Try.func41, Try.ntmps41
  go_wp2_with fail
  obtain ⟨l0, z0⟩ := HS.out w (But.refl _ _)
  go_region_law (first | (go_simp; go_at_call 54; refine (HCL.out _ ?_).mono ?_; (with_reducible repeat (first | exact Below.refl _ _ | refine vb_d ?_ | refine vb_a ?_ _ | refine vb_t ?_ hb4 | refine vb_t ?_ hb3)); rintro e w3 ⟨v3, rfl, ho3, hb3⟩; obtain ⟨ao3, c3, rfl⟩ := ho3.shape; obtain ⟨l3, z3⟩ := HS.out w3 (But.ofBelow (by with_reducible repeat (first | exact Below.refl _ _ | refine vb_d ?_ | refine vb_a ?_ _ | refine vb_t ?_ hb4 | refine vb_t ?_ hb3)))) | (go_simp; go_at_call 55; refine (HNX.out _ ?_).mono ?_; (with_reducible repeat (first | exact Below.refl _ _ | refine vb_d ?_ | refine vb_a ?_ _ | refine vb_t ?_ hb4 | refine vb_t ?_ hb3)); rintro e w4 ⟨rfl, hb4⟩; obtain ⟨l4, z4⟩ := HS.out w4 (But.ofBelow (by with_reducible repeat (first | exact Below.refl _ _ | refine vb_d ?_ | refine vb_a ?_ _ | refine vb_t ?_ hb4 | refine vb_t ?_ hb3))); have l5 : ∀ o, (w4.alloc o).cell? ⟨lb, 0, none⟩ = some (.slice (some ⟨sb, 0, none⟩) L.length cap) := fun o => (HS.out _ (But.alloc (But.ofBelow (by with_reducible repeat (first | exact Below.refl _ _ | refine vb_d ?_ | refine vb_a ?_ _ | refine vb_t ?_ hb4 | refine vb_t ?_ hb3))) o)).1) | (refine step_append_st (by rfl) _ _ (by rfl) sb L.length cap (flatS M) (by rfl) w4.heap.size (.int .i64 k) (.slice ao3 r.length c3) (.int .i64 ((L.length : Int) + 1)) (.int .i64 0) (by rfl) HRO.out ⟨rfl, rfl, rfl, rfl⟩ ?_ ?_ ?_; (with_reducible repeat (first | exact Bk.new _ _ _ | refine Bk.dw ?_)); (refine HO.out _ ?_; with_reducible repeat (first | exact Below.refl _ _ | refine vb_d ?_ | refine vb_a ?_ _ | refine vb_t ?_ hb4 | refine vb_t ?_ hb3)); intro w6 ho6 hg6; have hB6 : But (fun b => b = sb) w w6 := But.grown (But.ofBelow (by with_reducible repeat (first | exact Below.refl _ _ | refine vb_d ?_ | refine vb_a ?_ _ | refine vb_t ?_ hb4 | refine vb_t ?_ hb3))) hg6 (fun b e => by injection e with e; exact Or.inl e.symm); obtain ⟨l6, z6⟩ := HS.out w6 hB6) | fail)
  all_goals
    go_end0
    rw [HP.out]
    exact ⟨rfl, LS.put ⟨k, r, (L.length : Int) + 1, 0⟩ _ M HRM.out.1 HH.out HRM.out.2 (by with_reducible repeat (first | exact Below.refl _ _ | refine vb_d ?_ | refine vb_a ?_ _ | refine vb_t ?_ hb4 | refine vb_t ?_ hb3)) hg6 ho6 (Or.inl (OwnR.below (w := w3) ho3 (by with_reducible repeat (first | exact Below.refl _ _ | refine vb_d ?_ | refine vb_a ?_ _ | refine vb_t ?_ hb4))))⟩
end Go.Proofs.Ytcgohdfpmfpfiaa

namespace Go.Proofs.Ytcgohdfpmfpfiaa
open Go.RowKit
attribute [local go_sem] setCell_drewN alloc_drewN

/-- Two numbers of a state turned. -/
def ST.goB (s : ST) (b : Int) : ST := { s with b := b }
def ST.goAB (s : ST) (b : Int) : ST := { s with a := b, b := b }
/-- A state of the list turned. -/
def setB (L : List ST) (i : Nat) : List ST := L.set i ((sa L i).goB (L.length : Int))
def setAB (L : List ST) (i : Nat) : List ST := L.set i ((sa L i).goAB (L.length : Int))
theorem setB_len (L : List ST) (i : Nat) : (setB L i).length = L.length := by simp [setB]
theorem setAB_len (L : List ST) (i : Nat) : (setAB L i).length = L.length := by simp [setAB]
theorem flatS_set : ∀ (M : List (ST × Value)) (i : Nat) (h : i < M.length) (x : Int), (flatS M).set (i * 4 + 3) (.int .i64 x) = flatS (M.set i (M[i].1.goB x, M[i].2)) := by
  intro M
  induction M with
  | nil => intro i h; simp at h
  | cons p M ih =>
    intro i h x
    cases i with
    | zero => rfl
    | succ i =>
      have e1 : (i + 1) * 4 + 3 = (i * 4 + 3) + 4 := by omega
      rw [e1]
      have := ih i (by simpa using h) x
      show .int .i64 p.1.k :: p.2 :: .int .i64 p.1.a :: .int .i64 p.1.b :: (flatS M).set (i * 4 + 3) (.int .i64 x) = _
      rw [this]; rfl
theorem flatS_setA : ∀ (M : List (ST × Value)) (i : Nat) (h : i < M.length) (x : Int), (flatS M).set (i * 4 + 2) (.int .i64 x) = flatS (M.set i ({ M[i].1 with a := x }, M[i].2)) := by
  intro M
  induction M with
  | nil => intro i h; simp at h
  | cons p M ih =>
    intro i h x
    cases i with
    | zero => rfl
    | succ i =>
      have e1 : (i + 1) * 4 + 2 = (i * 4 + 2) + 4 := by omega
      rw [e1]
      have := ih i (by simpa using h) x
      show .int .i64 p.1.k :: p.2 :: .int .i64 p.1.a :: .int .i64 p.1.b :: (flatS M).set (i * 4 + 2) (.int .i64 x) = _
      rw [this]; rfl
/-- A store into the number B, or A, of a state. -/
theorem LS.store {w : World} {lb sb cap : Nat} {L : List ST} (h : LS w lb sb cap L) (i : Nat) (hi : i < L.length) (x : Int) :
    LS (w.setCell ⟨sb, i * 4 + 3, none⟩ (.int .i64 x)) lb sb cap (L.set i ((sa L i).goB x)) ∧ But (two lb sb) w (w.setCell ⟨sb, i * 4 + 3, none⟩ (.int .i64 x)) := by
  have hlt := h.lt
  refine ⟨?_, (But.refl _ _).set (Or.inl (Or.inr rfl)) _⟩
  obtain ⟨M, h0, h1, h2, h3, h4, h5, h6⟩ := h
  subst h0
  have hiM : i < M.length := by simpa using hi
  rw [List.length_map] at h1 h4
  have hst := h4.stored (i * 4 + 3) (.int .i64 x)
  refine ⟨M.set i (M[i].1.goB x, M[i].2), ?_, ?_, ?_, h3, ?_, fun p hp => ?_, h6⟩
  · rw [List.map_set, sa_get hi]; simp
  · rw [World.cell?_setCell_other _ _ _ _ (by intro e; injection e with e; exact h3 e.symm), h1]; simp
  · rw [World.frozen?_setCell]; exact h2
  · rw [List.length_set, List.length_map, ← flatS_set M i hiM]
    exact hst.1
  · have hR : RI w (two lb sb) p.1.r p.2 := by
      rcases List.mem_or_eq_of_mem_set hp with hp | hp
      · exact h5 p hp
      · rw [hp]; exact h5 M[i] (List.getElem_mem hiM)
    exact hR.set (Or.inr rfl) _
theorem LS.storeA {w : World} {lb sb cap : Nat} {L : List ST} (h : LS w lb sb cap L) (i : Nat) (hi : i < L.length) (x : Int) :
    LS (w.setCell ⟨sb, i * 4 + 2, none⟩ (.int .i64 x)) lb sb cap (L.set i { sa L i with a := x }) ∧ But (two lb sb) w (w.setCell ⟨sb, i * 4 + 2, none⟩ (.int .i64 x)) := by
  have hlt := h.lt
  refine ⟨?_, (But.refl _ _).set (Or.inl (Or.inr rfl)) _⟩
  obtain ⟨M, h0, h1, h2, h3, h4, h5, h6⟩ := h
  subst h0
  have hiM : i < M.length := by simpa using hi
  rw [List.length_map] at h1 h4
  have hst := h4.stored (i * 4 + 2) (.int .i64 x)
  refine ⟨M.set i ({ M[i].1 with a := x }, M[i].2), ?_, ?_, ?_, h3, ?_, fun p hp => ?_, h6⟩
  · rw [List.map_set, sa_get hi]; simp
  · rw [World.cell?_setCell_other _ _ _ _ (by intro e; injection e with e; exact h3 e.symm), h1]; simp
  · rw [World.frozen?_setCell]; exact h2
  · rw [List.length_set, List.length_map, ← flatS_setA M i hiM]
    exact hst.1
  · have hR : RI w (two lb sb) p.1.r p.2 := by
      rcases List.mem_or_eq_of_mem_set hp with hp | hp
      · exact h5 p hp
      · rw [hp]; exact h5 M[i] (List.getElem_mem hiM)
    exact hR.set (Or.inr rfl) _
/-- The cells of a state in the list. -/
theorem LS.at {w : World} {lb sb cap : Nat} {L : List ST} (h : LS w lb sb cap L) (i : Nat) (hi : i < L.length) :
    (∃ v, w.cell? ⟨sb, i * 4, none⟩ = some (.int .i64 (sa L i).k) ∧ w.cell? ⟨sb, i * 4 + 1, none⟩ = some v ∧ w.cell? ⟨sb, i * 4 + 2, none⟩ = some (.int .i64 (sa L i).a) ∧ w.cell? ⟨sb, i * 4 + 3, none⟩ = some (.int .i64 (sa L i).b) ∧ RI w (two lb sb) (sa L i).r v) ∧ ∀ o, w.frozen? ⟨sb, o, none⟩ = false := by
  obtain ⟨M, h0, h1, h2, h3, h4, h5, h6⟩ := h
  subst h0
  have hiM : i < M.length := by simpa using hi
  rw [List.length_map] at h4
  have f := flatS_at M i hiM
  have e : sa (M.map Prod.fst) i = M[i].1 := by rw [sa_get hi]; simp
  rw [e]
  exact ⟨⟨M[i].2, (h4.cellAt _ (by omega)).trans f.1, (h4.cellAt _ (by omega)).trans f.2.1, (h4.cellAt _ (by omega)).trans f.2.2.1, (h4.cellAt _ (by omega)).trans f.2.2.2, h5 _ (List.getElem_mem hiM)⟩, fun o => h4.frozenAt o⟩
end Go.Proofs.Ytcgohdfpmfpfiaa
