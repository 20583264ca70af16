/-
  A state more in the list. Conditions: there is room; at most 2^40 ranges.
  A fork and a jump, and what they answer, called. Conditions: there is room.
  A fork and a jump, and what they answer, called. Conditions: there is room.
  The part of a set: what compiles it, and that called. Conditions: there is room; at most 2^40 ranges.
-/
import Derived.Test.YtoinlmfodmgohaaGreatDoorJoined25
import Derived.Test.YtoinlmfodmgohaaGreatDoorJoined15
import Derived.Deep.RegionLaw
namespace Go.Proofs.YtoinlmfodmgohaaGreatDoor
open Go.RowKit
attribute [local go_sem] setCell_drewN alloc_drewN

theorem flatS_one (s : ST) (v : Value) : flatS [(s, v)] = [.int .i64 s.k, v, .int .i64 s.a, .int .i64 s.b] := rfl
/-- What the list is once its slice was stored. -/
theorem LS.put {w w5 w6 : World} {lb sb cap : Nat} {L : List ST} (s : ST) (v : Value) (M : List (ST × Value)) (hM : M.map Prod.fst = L) (h : LS w lb sb cap L) (hR : ∀ p ∈ M, RI w (two lb sb) p.1.r p.2)
    (h5 : Below w.heap.size w w5) (hg : w5.grownBy w6 (some sb)) (ho : w6.ownsRow 0 94 4 (.slice (some ⟨sb, 0, none⟩) (L.length + 1) cap) (L.length + 1) (flatS M ++ [.int .i64 s.k, v, .int .i64 s.a, .int .i64 s.b]))
    (hv : OwnR w5 w.heap.size v s.r ∨ (v = .slice none 0 0 ∧ s.r = [])) :
    LS (w6.setCell ⟨lb, 0, none⟩ (.slice (some ⟨sb, 0, none⟩) (L.length + 1) cap)) lb sb cap (L ++ [s]) ∧ But (two lb sb) w (w6.setCell ⟨lb, 0, none⟩ (.slice (some ⟨sb, 0, none⟩) (L.length + 1) cap)) := by
  have hlt := h.lt
  have hne := h.ne
  have hlen := h.len
  have hc := h.cell
  have hB6 : But (two lb sb) w w6 := (But.ofBelow h5).grown hg (fun b e => by injection e with e; exact Or.inl (Or.inr e.symm))
  have hB : But (two lb sb) w (w6.setCell ⟨lb, 0, none⟩ (.slice (some ⟨sb, 0, none⟩) (L.length + 1) cap)) := hB6.set (Or.inl (Or.inl rfl)) _
  refine ⟨?_, hB⟩
  have e6 : w6.heap[lb]? = w.heap[lb]? := (hg.block lb (Nat.lt_of_lt_of_le hlt.1 h5.size) (fun e => hne (by injection e))).trans (h5.block lb hlt.1)
  have hc6 : w6.cell? ⟨lb, 0, none⟩ = some (.slice (some ⟨sb, 0, none⟩) L.length cap) := (World.cell?_of_block (w := w) (w' := w6) e6).trans hc.1
  have hkeep : ∀ b, ¬ two lb sb b → b < w5.heap.size → (w6.setCell ⟨lb, 0, none⟩ (.slice (some ⟨sb, 0, none⟩) (L.length + 1) cap)).heap[b]? = w5.heap[b]? := fun b hx hl =>
    (Below.heap_setCell w6 ⟨lb, 0, none⟩ _ b (fun e => hx (Or.inl e))).trans (hg.block b hl (fun e => hx (Or.inr (by injection e))))
  refine ⟨M ++ [(s, v)], by rw [List.map_append, hM]; rfl, ?_, ?_, hne, ?_, fun p hp => ?_, hlen.2⟩
  · rw [World.cell?_setCell_same _ _ _ hc6, List.length_append]; rfl
  · rw [World.frozen?_setCell]
    rw [← hc.2]; simp only [World.frozen?, e6]
  · rw [List.length_append, flatS_append, flatS_one]
    refine ⟨ho.1, ?_⟩
    rcases ho.2 with ⟨h, _⟩ | ⟨g, c, cur, e, hb', hg', hrest⟩
    · exact Or.inl ⟨h, by injection h⟩
    · refine Or.inr ⟨g, c, cur, e, hb', ?_, hrest⟩
      obtain rfl : sb = g := by injection e with e _ _; injection e with e; injection e
      rw [Below.heap_setCell w6 ⟨lb, 0, none⟩ _ sb (fun e => hne e.symm)]
      exact hg'
  · rcases List.mem_append.1 hp with hp | hp
    · exact (hR p hp).carry (fun b hx hl => ⟨(hkeep b hx (Nat.lt_of_lt_of_le hl h5.size)).trans (h5.block b hl), hx⟩)
    · obtain rfl : p = (s, v) := by simpa using hp
      rcases hv with hv | ⟨hv, hr⟩
      · have : RI w5 (two lb sb) s.r v := hv.ri _ (fun b hb h => by rcases h with h | h <;> omega)
        exact this.carry (fun b hx hl => ⟨hkeep b hx hl, hx⟩)
      · show RI _ _ s.r v
        rw [hv, hr]; exact RI.nil _ _
set_option maxRecDepth 100000 in
set_option maxHeartbeats 3200000 in
theorem put_any (lb sb cap : Nat) (L : List ST) (k : Int) (r : List (Int × Int)) (rv : Value) (w : World) (h : LS w lb sb cap L) (hroom : L.length + 1 ≤ cap) (X : Nat → Prop) (hR : RI w X r rv) (hl : r.length ≤ 1099511627776) :
    Calls Tryz.prog 106 #[.pointer (some ⟨lb, 0, none⟩), .int .i64 k, rv] w fun e w' => e = .returned (.tuple #[]) ∧ LS w' lb sb cap (L ++ [⟨k, r, (L.length : Int) + 1, 0⟩]) ∧ But (two lb sb) w w' := by
  have hlen := h.len
  have hc := h.cell
  have hlt := h.lt
  have hne := h.ne
  have hLI : (L.length : Int) + 1 ≤ 65536 := by omega
  obtain ⟨M, hM, hx1, hx2, hx3, hown, hRs, hx4⟩ := h
  clear hx1 hx2 hx3 hx4
  have h : LS w lb sb cap L := ⟨M, hM, hc.1, hc.2, hne, hown, hRs, hlen.2⟩
  obtain ⟨P, hP⟩ : ∃ P : Ending → World → Prop, P = fun e w' => e = .returned (.tuple #[]) ∧ LS w' lb sb cap (L ++ [⟨k, r, (L.length : Int) + 1, 0⟩]) ∧ But (two lb sb) w w' := ⟨_, rfl⟩
  rw [← hP]
  have HP := hid_intro hP
  clear hP
  have HCL : Hid (∀ w', Below w.heap.size w w' → Calls Tryz.prog 128 #[rv] w' fun e w2 => ∃ v', e = .returned v' ∧ OwnR w2 w'.heap.size v' r ∧ Below w'.heap.size w' w2) := hid_intro (fun w' hb => clone_any r rv X w' (hR.kept hb) hl)
  have HNX : Hid (∀ w', Below w.heap.size w w' → Calls Tryz.prog 129 #[.pointer (some ⟨lb, 0, none⟩)] w' fun e w2 => e = .returned (.int .i64 (L.length : Int)) ∧ Below w'.heap.size w' w2) := hid_intro (fun w' hb => next_any lb sb cap L w' (h.below hb))
  have HS : Hid (∀ w', But (fun b => b = sb) w w' → w'.cell? ⟨lb, 0, none⟩ = some (.slice (some ⟨sb, 0, none⟩) L.length cap) ∧ w'.frozen? ⟨lb, 0, none⟩ = false) := hid_intro (fun w' hb => by
    have e := hb.block lb hlt.1 hne
    exact ⟨(World.cell?_of_block (w := w) (w' := w') e).trans hc.1, by rw [← hc.2]; simp only [World.frozen?, e]⟩)
  have HO : Hid (∀ w', Below w.heap.size w w' → w'.ownsRow 0 94 4 (.slice (some ⟨sb, 0, none⟩) L.length cap) L.length (flatS M)) := hid_intro (fun w' hb => hown.kept (row := none) ⟨hb.os, hb.tape, hb.output, hb.size, fun b hl _ => hb.block b hl⟩ (Or.inr (fun e => by cases e)))
  have HH := hid_intro h
  have HRM := hid_intro (And.intro hM hRs)
  have hone : Value.oneCell' (.int .i64 k) = true := rfl
  have hwr : IntKind.i64.wrap ((L.length : Int) + 1) = (L.length : Int) + 1 := by simp [IntKind.wrap, IntKind.bits, IntKind.signed]; omega
  have HRO := hid_intro hroom
  clear h hown hRs hR hM hc hl hlen hlt hne hroom hLI hone
  go_enter Tryz.func106, Tryz.ntmps106
  go_wp2_with fail
  obtain ⟨l0, z0⟩ := HS.out w (But.refl _ _)
  go_region_law (first | (go_simp; go_at_call 128; refine (HCL.out _ ?_).mono ?_; (with_reducible repeat (first | exact Below.refl _ _ | refine vb_d ?_ | refine vb_a ?_ _ | refine vb_t ?_ hb4 | refine vb_t ?_ hb3)); rintro e w3 ⟨v3, rfl, ho3, hb3⟩; obtain ⟨ao3, c3, rfl⟩ := ho3.shape; obtain ⟨l3, z3⟩ := HS.out w3 (But.ofBelow (by with_reducible repeat (first | exact Below.refl _ _ | refine vb_d ?_ | refine vb_a ?_ _ | refine vb_t ?_ hb4 | refine vb_t ?_ hb3)))) | (go_simp; go_at_call 129; refine (HNX.out _ ?_).mono ?_; (with_reducible repeat (first | exact Below.refl _ _ | refine vb_d ?_ | refine vb_a ?_ _ | refine vb_t ?_ hb4 | refine vb_t ?_ hb3)); rintro e w4 ⟨rfl, hb4⟩; obtain ⟨l4, z4⟩ := HS.out w4 (But.ofBelow (by with_reducible repeat (first | exact Below.refl _ _ | refine vb_d ?_ | refine vb_a ?_ _ | refine vb_t ?_ hb4 | refine vb_t ?_ hb3))); have l5 : ∀ o, (w4.alloc o).cell? ⟨lb, 0, none⟩ = some (.slice (some ⟨sb, 0, none⟩) L.length cap) := fun o => (HS.out _ (But.alloc (But.ofBelow (by with_reducible repeat (first | exact Below.refl _ _ | refine vb_d ?_ | refine vb_a ?_ _ | refine vb_t ?_ hb4 | refine vb_t ?_ hb3))) o)).1) | (refine step_append_st (by rfl) _ _ (by rfl) sb L.length cap (flatS M) (by rfl) w4.heap.size (.int .i64 k) (.slice ao3 r.length c3) (.int .i64 ((L.length : Int) + 1)) (.int .i64 0) (by rfl) HRO.out ⟨rfl, rfl, rfl, rfl⟩ ?_ ?_ ?_; (with_reducible repeat (first | exact Bk.new _ _ _ | refine Bk.dw ?_)); (refine HO.out _ ?_; with_reducible repeat (first | exact Below.refl _ _ | refine vb_d ?_ | refine vb_a ?_ _ | refine vb_t ?_ hb4 | refine vb_t ?_ hb3)); intro w6 ho6 hg6; have hB6 : But (fun b => b = sb) w w6 := But.grown (But.ofBelow (by with_reducible repeat (first | exact Below.refl _ _ | refine vb_d ?_ | refine vb_a ?_ _ | refine vb_t ?_ hb4 | refine vb_t ?_ hb3))) hg6 (fun b e => by injection e with e; exact Or.inl e.symm); obtain ⟨l6, z6⟩ := HS.out w6 hB6) | fail)
  all_goals
    go_end0
    rw [HP.out]
    exact ⟨rfl, LS.put ⟨k, r, (L.length : Int) + 1, 0⟩ _ M HRM.out.1 HH.out HRM.out.2 (by with_reducible repeat (first | exact Below.refl _ _ | refine vb_d ?_ | refine vb_a ?_ _ | refine vb_t ?_ hb4 | refine vb_t ?_ hb3)) hg6 ho6 (Or.inl (OwnR.below (w := w3) ho3 (by with_reducible repeat (first | exact Below.refl _ _ | refine vb_d ?_ | refine vb_a ?_ _ | refine vb_t ?_ hb4))))⟩
end Go.Proofs.YtoinlmfodmgohaaGreatDoor

namespace Go.Proofs.YtoinlmfodmgohaaGreatDoor
open Go.RowKit
attribute [local go_sem] setCell_drewN alloc_drewN

/-- Two numbers of a state turned. -/
def ST.goB (s : ST) (b : Int) : ST := { s with b := b }
def ST.goAB (s : ST) (b : Int) : ST := { s with a := b, b := b }
/-- A state of the list turned. -/
def setB (L : List ST) (i : Nat) : List ST := L.set i ((sa L i).goB (L.length : Int))
def setAB (L : List ST) (i : Nat) : List ST := L.set i ((sa L i).goAB (L.length : Int))
theorem setB_len (L : List ST) (i : Nat) : (setB L i).length = L.length := by simp [setB]
theorem setAB_len (L : List ST) (i : Nat) : (setAB L i).length = L.length := by simp [setAB]
theorem flatS_set : ∀ (M : List (ST × Value)) (i : Nat) (h : i < M.length) (x : Int), (flatS M).set (i * 4 + 3) (.int .i64 x) = flatS (M.set i (M[i].1.goB x, M[i].2)) := by
  intro M
  induction M with
  | nil => intro i h; simp at h
  | cons p M ih =>
    intro i h x
    cases i with
    | zero => rfl
    | succ i =>
      have e1 : (i + 1) * 4 + 3 = (i * 4 + 3) + 4 := by omega
      rw [e1]
      have := ih i (by simpa using h) x
      show .int .i64 p.1.k :: p.2 :: .int .i64 p.1.a :: .int .i64 p.1.b :: (flatS M).set (i * 4 + 3) (.int .i64 x) = _
      rw [this]; rfl
theorem flatS_setA : ∀ (M : List (ST × Value)) (i : Nat) (h : i < M.length) (x : Int), (flatS M).set (i * 4 + 2) (.int .i64 x) = flatS (M.set i ({ M[i].1 with a := x }, M[i].2)) := by
  intro M
  induction M with
  | nil => intro i h; simp at h
  | cons p M ih =>
    intro i h x
    cases i with
    | zero => rfl
    | succ i =>
      have e1 : (i + 1) * 4 + 2 = (i * 4 + 2) + 4 := by omega
      rw [e1]
      have := ih i (by simpa using h) x
      show .int .i64 p.1.k :: p.2 :: .int .i64 p.1.a :: .int .i64 p.1.b :: (flatS M).set (i * 4 + 2) (.int .i64 x) = _
      rw [this]; rfl
/-- A store into the number B, or A, of a state. -/
theorem LS.store {w : World} {lb sb cap : Nat} {L : List ST} (h : LS w lb sb cap L) (i : Nat) (hi : i < L.length) (x : Int) :
    LS (w.setCell ⟨sb, i * 4 + 3, none⟩ (.int .i64 x)) lb sb cap (L.set i ((sa L i).goB x)) ∧ But (two lb sb) w (w.setCell ⟨sb, i * 4 + 3, none⟩ (.int .i64 x)) := by
  have hlt := h.lt
  refine ⟨?_, (But.refl _ _).set (Or.inl (Or.inr rfl)) _⟩
  obtain ⟨M, h0, h1, h2, h3, h4, h5, h6⟩ := h
  subst h0
  have hiM : i < M.length := by simpa using hi
  rw [List.length_map] at h1 h4
  have hst := h4.stored (i * 4 + 3) (.int .i64 x)
  refine ⟨M.set i (M[i].1.goB x, M[i].2), ?_, ?_, ?_, h3, ?_, fun p hp => ?_, h6⟩
  · rw [List.map_set, sa_get hi]; simp
  · rw [World.cell?_setCell_other _ _ _ _ (by intro e; injection e with e; exact h3 e.symm), h1]; simp
  · rw [World.frozen?_setCell]; exact h2
  · rw [List.length_set, List.length_map, ← flatS_set M i hiM]
    exact hst.1
  · have hR : RI w (two lb sb) p.1.r p.2 := by
      rcases List.mem_or_eq_of_mem_set hp with hp | hp
      · exact h5 p hp
      · rw [hp]; exact h5 M[i] (List.getElem_mem hiM)
    exact hR.set (Or.inr rfl) _
theorem LS.storeA {w : World} {lb sb cap : Nat} {L : List ST} (h : LS w lb sb cap L) (i : Nat) (hi : i < L.length) (x : Int) :
    LS (w.setCell ⟨sb, i * 4 + 2, none⟩ (.int .i64 x)) lb sb cap (L.set i { sa L i with a := x }) ∧ But (two lb sb) w (w.setCell ⟨sb, i * 4 + 2, none⟩ (.int .i64 x)) := by
  have hlt := h.lt
  refine ⟨?_, (But.refl _ _).set (Or.inl (Or.inr rfl)) _⟩
  obtain ⟨M, h0, h1, h2, h3, h4, h5, h6⟩ := h
  subst h0
  have hiM : i < M.length := by simpa using hi
  rw [List.length_map] at h1 h4
  have hst := h4.stored (i * 4 + 2) (.int .i64 x)
  refine ⟨M.set i ({ M[i].1 with a := x }, M[i].2), ?_, ?_, ?_, h3, ?_, fun p hp => ?_, h6⟩
  · rw [List.map_set, sa_get hi]; simp
  · rw [World.cell?_setCell_other _ _ _ _ (by intro e; injection e with e; exact h3 e.symm), h1]; simp
  · rw [World.frozen?_setCell]; exact h2
  · rw [List.length_set, List.length_map, ← flatS_setA M i hiM]
    exact hst.1
  · have hR : RI w (two lb sb) p.1.r p.2 := by
      rcases List.mem_or_eq_of_mem_set hp with hp | hp
      · exact h5 p hp
      · rw [hp]; exact h5 M[i] (List.getElem_mem hiM)
    exact hR.set (Or.inr rfl) _
/-- The cells of a state in the list. -/
theorem LS.at {w : World} {lb sb cap : Nat} {L : List ST} (h : LS w lb sb cap L) (i : Nat) (hi : i < L.length) :
    (∃ v, w.cell? ⟨sb, i * 4, none⟩ = some (.int .i64 (sa L i).k) ∧ w.cell? ⟨sb, i * 4 + 1, none⟩ = some v ∧ w.cell? ⟨sb, i * 4 + 2, none⟩ = some (.int .i64 (sa L i).a) ∧ w.cell? ⟨sb, i * 4 + 3, none⟩ = some (.int .i64 (sa L i).b) ∧ RI w (two lb sb) (sa L i).r v) ∧ ∀ o, w.frozen? ⟨sb, o, none⟩ = false := by
  obtain ⟨M, h0, h1, h2, h3, h4, h5, h6⟩ := h
  subst h0
  have hiM : i < M.length := by simpa using hi
  rw [List.length_map] at h4
  have f := flatS_at M i hiM
  have e : sa (M.map Prod.fst) i = M[i].1 := by rw [sa_get hi]; simp
  rw [e]
  exact ⟨⟨M[i].2, (h4.cellAt _ (by omega)).trans f.1, (h4.cellAt _ (by omega)).trans f.2.1, (h4.cellAt _ (by omega)).trans f.2.2.1, (h4.cellAt _ (by omega)).trans f.2.2.2, h5 _ (List.getElem_mem hiM)⟩, fun o => h4.frozenAt o⟩
end Go.Proofs.YtoinlmfodmgohaaGreatDoor

namespace Go.Proofs.YtoinlmfodmgohaaGreatDoor
open Go.RowKit
attribute [local go_sem] setCell_drewN alloc_drewN

theorem But.setS {sb : Nat} {a w : World} (h : But (fun b => b = sb) a w) (o : Nat) (v : Value) : But (fun b => b = sb) a (w.setCell ⟨sb, o, none⟩ v) := h.set (Or.inl rfl) v
/-- The closure's two variables: the list, and the place of the state. -/
def Cap (w : World) (lb sb p q : Nat) (i : Nat) : Prop := w.cell? ⟨p, 0, none⟩ = some (.pointer (some ⟨lb, 0, none⟩)) ∧ w.cell? ⟨q, 0, none⟩ = some (.int .i64 (i : Int)) ∧ ¬ two lb sb p ∧ ¬ two lb sb q
theorem Cap.but {w w' : World} {lb sb p q i : Nat} (h : Cap w lb sb p q i) (hb : But (two lb sb) w w') : Cap w' lb sb p q i := by
  obtain ⟨h1, h2, h3, h4⟩ := h
  exact ⟨(World.cell?_of_block (w := w) (w' := w') (hb.block p (World.block_lt_of_cell? w _ h1) h3)).trans h1, (World.cell?_of_block (w := w) (w' := w') (hb.block q (World.block_lt_of_cell? w _ h2) h4)).trans h2, h3, h4⟩
theorem Cap.below {w w' : World} {lb sb p q i : Nat} (h : Cap w lb sb p q i) (hb : Below w.heap.size w w') : Cap w' lb sb p q i := h.but (But.ofBelow hb)
set_option maxRecDepth 100000 in
set_option maxHeartbeats 1600000 in
theorem fork_any (lb sb cap : Nat) (L : List ST) (w : World) (h : LS w lb sb cap L) (hroom : L.length + 1 ≤ cap) :
    Calls Tryz.prog 109 #[.pointer (some ⟨lb, 0, none⟩)] w fun e w' => ∃ p q, e = .returned (.func (.func 130) #[] #[.pointer (some ⟨p, 0, none⟩), .pointer (some ⟨q, 0, none⟩)]) ∧ Cap w' lb sb p q L.length ∧ LS w' lb sb cap (L ++ [⟨2, [], (L.length : Int) + 1, 0⟩]) ∧ But (two lb sb) w w' := by
  obtain ⟨W, hW⟩ : ∃ W, w.alloc (.cells #[.pointer (some ⟨lb, 0, none⟩)] 88) = W := ⟨_, rfl⟩
  have hbW : Below w.heap.size w W := hW ▸ vb_a (Below.refl _ _) _
  have kP : Bk W w.heap.size #[.pointer (some ⟨lb, 0, none⟩)] := hW ▸ Bk.new _ _ _
  have hn := next_any lb sb cap L W (h.below hbW)
  have c0 := kP.cell 0
  have hlt := h.lt
  obtain ⟨P, hP⟩ : ∃ P : Ending → World → Prop, P = fun e w' => ∃ p q, e = .returned (.func (.func 130) #[] #[.pointer (some ⟨p, 0, none⟩), .pointer (some ⟨q, 0, none⟩)]) ∧ Cap w' lb sb p q L.length ∧ LS w' lb sb cap (L ++ [⟨2, [], (L.length : Int) + 1, 0⟩]) ∧ But (two lb sb) w w' := ⟨_, rfl⟩
  rw [← hP]
  have HP := hid_intro hP
  have HW := hid_intro hW
  clear hP hW
  go_enter Tryz.func109, Tryz.ntmps109
  go_wp2_with fail
  rw [HW.out]
  refine hn.mono ?_; rintro e w1 ⟨rfl, hb1⟩
  obtain ⟨V, hV⟩ : ∃ V, w1.alloc (.cells #[.int .i64 (L.length : Int)] 3) = V := ⟨_, rfl⟩
  have hbV : Below w1.heap.size w1 V := hV ▸ vb_a (Below.refl _ _) _
  have kQ : Bk V w1.heap.size #[.int .i64 (L.length : Int)] := hV ▸ Bk.new _ _ _
  have kP2 : Bk V w.heap.size #[.pointer (some ⟨lb, 0, none⟩)] := (kP.bel hb1).bel hbV
  have hb0 : Below w.heap.size w V := vb_t (vb_t hbW hb1) hbV
  have hput := put_any lb sb cap L 2 [] (.slice none 0 0) V (h.below hb0) hroom (fun _ => False) (RI.nil _ _) (by simp)
  have hcap : Cap V lb sb w.heap.size w1.heap.size L.length := ⟨kP2.cell 0, kQ.cell 0, fun e => by rcases e with e | e <;> omega, fun e => by have := hb1.size; have := hbW.size; rcases e with e | e <;> omega⟩
  have c1 : (w1.alloc (.cells #[.int .i64 (L.length : Int)] 3)).cell? ⟨w.heap.size, 0, none⟩ = some (.pointer (some ⟨lb, 0, none⟩)) := hV ▸ kP2.cell 0
  have c2 := (kP.bel hb1).cell 0
  have HV := hid_intro hV
  have HC := hid_intro hcap
  have HB := hid_intro hb0
  clear hV hbV kQ kP kP2 hb0 hb1 hbW c0 hcap hlt hn hroom h
  go_wp2_with fail
  rw [HV.out]
  refine hput.mono ?_; rintro e w2 ⟨rfl, hls, hbt⟩
  clear c1 c2 hput
  go_wp2_with fail
  rw [HP.out]
  exact ⟨_, _, rfl, HC.out.but hbt, hls, (But.ofBelow HB.out).trans hbt⟩
set_option maxRecDepth 100000 in
set_option maxHeartbeats 1600000 in
theorem jump_any (lb sb cap : Nat) (L : List ST) (w : World) (h : LS w lb sb cap L) (hroom : L.length + 1 ≤ cap) :
    Calls Tryz.prog 110 #[.pointer (some ⟨lb, 0, none⟩)] w fun e w' => ∃ p q, e = .returned (.func (.func 131) #[] #[.pointer (some ⟨p, 0, none⟩), .pointer (some ⟨q, 0, none⟩)]) ∧ Cap w' lb sb p q L.length ∧ LS w' lb sb cap (L ++ [⟨2, [], (L.length : Int) + 1, 0⟩]) ∧ But (two lb sb) w w' := by
  obtain ⟨W, hW⟩ : ∃ W, w.alloc (.cells #[.pointer (some ⟨lb, 0, none⟩)] 88) = W := ⟨_, rfl⟩
  have hbW : Below w.heap.size w W := hW ▸ vb_a (Below.refl _ _) _
  have kP : Bk W w.heap.size #[.pointer (some ⟨lb, 0, none⟩)] := hW ▸ Bk.new _ _ _
  have hn := next_any lb sb cap L W (h.below hbW)
  have c0 := kP.cell 0
  have hlt := h.lt
  obtain ⟨P, hP⟩ : ∃ P : Ending → World → Prop, P = fun e w' => ∃ p q, e = .returned (.func (.func 131) #[] #[.pointer (some ⟨p, 0, none⟩), .pointer (some ⟨q, 0, none⟩)]) ∧ Cap w' lb sb p q L.length ∧ LS w' lb sb cap (L ++ [⟨2, [], (L.length : Int) + 1, 0⟩]) ∧ But (two lb sb) w w' := ⟨_, rfl⟩
  rw [← hP]
  have HP := hid_intro hP
  have HW := hid_intro hW
  clear hP hW
  go_enter Tryz.func110, Tryz.ntmps110
  go_wp2_with fail
  rw [HW.out]
  refine hn.mono ?_; rintro e w1 ⟨rfl, hb1⟩
  obtain ⟨V, hV⟩ : ∃ V, w1.alloc (.cells #[.int .i64 (L.length : Int)] 3) = V := ⟨_, rfl⟩
  have hbV : Below w1.heap.size w1 V := hV ▸ vb_a (Below.refl _ _) _
  have kQ : Bk V w1.heap.size #[.int .i64 (L.length : Int)] := hV ▸ Bk.new _ _ _
  have kP2 : Bk V w.heap.size #[.pointer (some ⟨lb, 0, none⟩)] := (kP.bel hb1).bel hbV
  have hb0 : Below w.heap.size w V := vb_t (vb_t hbW hb1) hbV
  have hput := put_any lb sb cap L 2 [] (.slice none 0 0) V (h.below hb0) hroom (fun _ => False) (RI.nil _ _) (by simp)
  have hcap : Cap V lb sb w.heap.size w1.heap.size L.length := ⟨kP2.cell 0, kQ.cell 0, fun e => by rcases e with e | e <;> omega, fun e => by have := hb1.size; have := hbW.size; rcases e with e | e <;> omega⟩
  have c1 : (w1.alloc (.cells #[.int .i64 (L.length : Int)] 3)).cell? ⟨w.heap.size, 0, none⟩ = some (.pointer (some ⟨lb, 0, none⟩)) := hV ▸ kP2.cell 0
  have c2 := (kP.bel hb1).cell 0
  have HV := hid_intro hV
  have HC := hid_intro hcap
  have HB := hid_intro hb0
  clear hV hbV kQ kP kP2 hb0 hb1 hbW c0 hcap hlt hn hroom h
  go_wp2_with fail
  rw [HV.out]
  refine hput.mono ?_; rintro e w2 ⟨rfl, hls, hbt⟩
  clear c1 c2 hput
  go_wp2_with fail
  rw [HP.out]
  exact ⟨_, _, rfl, HC.out.but hbt, hls, (But.ofBelow HB.out).trans hbt⟩
theorem setAB_set (L : List ST) (i : Nat) (hi : i < L.length) : (L.set i { sa L i with a := (L.length : Int) }).set i ((sa (L.set i { sa L i with a := (L.length : Int) }) i).goB (L.length : Int)) = setAB L i := by
  unfold setAB
  rw [List.set_set]
  congr 1
  rw [sa_get (by simpa using hi)]
  simp [ST.goAB, ST.goB]
set_option maxRecDepth 100000 in
set_option maxHeartbeats 1600000 in
theorem fork1_any (lb sb cap p q i : Nat) (L : List ST) (w : World) (h : LS w lb sb cap L) (hk : Cap w lb sb p q i) (hi : i < L.length) :
    Calls Tryz.prog 130 #[.pointer (some ⟨p, 0, none⟩), .pointer (some ⟨q, 0, none⟩)] w fun e w' => e = .returned (.tuple #[]) ∧ LS w' lb sb cap (setB L i) ∧ But (two lb sb) w w' := by
  obtain ⟨P, hP⟩ : ∃ P : Ending → World → Prop, P = fun e w' => e = .returned (.tuple #[]) ∧ LS w' lb sb cap (setB L i) ∧ But (two lb sb) w w' := ⟨_, rfl⟩
  rw [← hP]
  have HP := hid_intro hP
  clear hP
  have HNX : Hid (∀ w', Below w.heap.size w w' → Calls Tryz.prog 129 #[.pointer (some ⟨lb, 0, none⟩)] w' fun e w2 => e = .returned (.int .i64 (L.length : Int)) ∧ Below w'.heap.size w' w2) := hid_intro (fun w' hb => next_any lb sb cap L w' (h.below hb))
  have HS : Hid (∀ w', But (fun b => b = sb) w w' → w'.cell? ⟨p, 0, none⟩ = some (.pointer (some ⟨lb, 0, none⟩)) ∧ w'.cell? ⟨q, 0, none⟩ = some (.int .i64 (i : Int)) ∧ w'.cell? ⟨lb, 0, none⟩ = some (.slice (some ⟨sb, 0, none⟩) L.length cap)) := hid_intro (fun w' hb => by
    have hc := h.cell.1
    exact ⟨(World.cell?_of_block (w := w) (w' := w') (hb.block p (World.block_lt_of_cell? w _ hk.1) (fun e => hk.2.2.1 (Or.inr e)))).trans hk.1, (World.cell?_of_block (w := w) (w' := w') (hb.block q (World.block_lt_of_cell? w _ hk.2.1) (fun e => hk.2.2.2 (Or.inr e)))).trans hk.2.1, (World.cell?_of_block (w := w) (w' := w') (hb.block lb h.lt.1 h.ne)).trans hc⟩)
  have HAT : Hid (∀ w', Below w.heap.size w w' → w'.cell? ⟨sb, i * 4 + 2, none⟩ = some (.int .i64 (sa L i).a) ∧ w'.cell? ⟨sb, i * 4 + 3, none⟩ = some (.int .i64 (sa L i).b) ∧ ∀ o, w'.frozen? ⟨sb, o, none⟩ = false) := hid_intro (fun w' hb => by
    obtain ⟨⟨v, _, _, ha, hb', _⟩, hz⟩ := (h.below hb).at i hi
    exact ⟨ha, hb', hz⟩)
  have HH := hid_intro h
  have HI := hid_intro hi
  have hI : (i : Int) < (L.length : Int) := by omega
  clear h hk hi
  go_enter Tryz.func130, Tryz.ntmps130
  go_wp2_with fail
  go_region_held3 (fun w' => w'.cell? ⟨p, 0, none⟩ = some (.pointer (some ⟨lb, 0, none⟩)) ∧ w'.cell? ⟨q, 0, none⟩ = some (.int .i64 (i : Int)) ∧ w'.cell? ⟨lb, 0, none⟩ = some (.slice (some ⟨sb, 0, none⟩) L.length cap)) (first | (refine HS.out _ ?_; with_reducible repeat (first | exact But.refl _ _ | refine But.drew ?_ | refine But.below ?_ hb4 | refine But.setS ?_ _ _)) | fail) (first | (go_at_call 129; refine (HNX.out _ ?_).mono ?_; (with_reducible repeat (first | exact Below.refl _ _ | refine vb_d ?_)); rintro e w4 ⟨rfl, hb4⟩; obtain ⟨y2, y3, yz⟩ := HAT.out w4 (by with_reducible repeat (first | exact Below.refl _ _ | refine vb_d ?_ | refine vb_t ?_ hb4))) | fail)
  all_goals
    go_end0
    rw [HP.out]
    refine ⟨rfl, ?_⟩
    have h5 : Below w.heap.size w w4 := by with_reducible repeat (first | exact Below.refl _ _ | refine vb_d ?_ | refine vb_t ?_ hb4)
    have h6 := LS.store (HH.out.below h5) i HI.out (L.length : Int)
    exact ⟨h6.1, (But.ofBelow h5).trans h6.2⟩
set_option maxRecDepth 100000 in
set_option maxHeartbeats 3200000 in
theorem jump1_any (lb sb cap p q i : Nat) (L : List ST) (w : World) (h : LS w lb sb cap L) (hk : Cap w lb sb p q i) (hi : i < L.length) :
    Calls Tryz.prog 131 #[.pointer (some ⟨p, 0, none⟩), .pointer (some ⟨q, 0, none⟩)] w fun e w' => e = .returned (.tuple #[]) ∧ LS w' lb sb cap (setAB L i) ∧ But (two lb sb) w w' := by
  have hlen := h.len
  obtain ⟨P, hP⟩ : ∃ P : Ending → World → Prop, P = fun e w' => e = .returned (.tuple #[]) ∧ LS w' lb sb cap (setAB L i) ∧ But (two lb sb) w w' := ⟨_, rfl⟩
  rw [← hP]
  have HP := hid_intro hP
  clear hP
  have HNX : Hid (∀ w', Below w.heap.size w w' → Calls Tryz.prog 129 #[.pointer (some ⟨lb, 0, none⟩)] w' fun e w2 => e = .returned (.int .i64 (L.length : Int)) ∧ Below w'.heap.size w' w2) := hid_intro (fun w' hb => next_any lb sb cap L w' (h.below hb))
  have HS : Hid (∀ w', But (fun b => b = sb) w w' → w'.cell? ⟨p, 0, none⟩ = some (.pointer (some ⟨lb, 0, none⟩)) ∧ w'.cell? ⟨q, 0, none⟩ = some (.int .i64 (i : Int)) ∧ w'.cell? ⟨lb, 0, none⟩ = some (.slice (some ⟨sb, 0, none⟩) L.length cap)) := hid_intro (fun w' hb => by
    have hc := h.cell.1
    exact ⟨(World.cell?_of_block (w := w) (w' := w') (hb.block p (World.block_lt_of_cell? w _ hk.1) (fun e => hk.2.2.1 (Or.inr e)))).trans hk.1, (World.cell?_of_block (w := w) (w' := w') (hb.block q (World.block_lt_of_cell? w _ hk.2.1) (fun e => hk.2.2.2 (Or.inr e)))).trans hk.2.1, (World.cell?_of_block (w := w) (w' := w') (hb.block lb h.lt.1 h.ne)).trans hc⟩)
  have HAT : Hid (∀ w', Below w.heap.size w w' → w'.cell? ⟨sb, i * 4 + 2, none⟩ = some (.int .i64 (sa L i).a) ∧ w'.cell? ⟨sb, i * 4 + 3, none⟩ = some (.int .i64 (sa L i).b) ∧ ∀ o, w'.frozen? ⟨sb, o, none⟩ = false) := hid_intro (fun w' hb => by
    obtain ⟨⟨v, _, _, ha, hb', _⟩, hz⟩ := (h.below hb).at i hi
    exact ⟨ha, hb', hz⟩)
  have HH := hid_intro h
  have HI := hid_intro hi
  have hI : (i : Int) < (L.length : Int) := by omega
  clear h hk hi hlen
  go_enter Tryz.func131, Tryz.ntmps131
  go_wp2_with fail
  go_region_held3 (fun w' => w'.cell? ⟨p, 0, none⟩ = some (.pointer (some ⟨lb, 0, none⟩)) ∧ w'.cell? ⟨q, 0, none⟩ = some (.int .i64 (i : Int)) ∧ w'.cell? ⟨lb, 0, none⟩ = some (.slice (some ⟨sb, 0, none⟩) L.length cap)) (first | (refine HS.out _ ?_; with_reducible repeat (first | exact But.refl _ _ | refine But.drew ?_ | refine But.below ?_ hb5 | refine But.below ?_ hb4 | refine But.setS ?_ _ _)) | fail) (first | (go_at_call 129; refine (HNX.out _ ?_).mono ?_; (with_reducible repeat (first | exact Below.refl _ _ | refine vb_d ?_)); rintro e w4 ⟨rfl, hb4⟩) | (go_at_call 129; refine (HNX.out _ ?_).mono ?_; (with_reducible repeat (first | exact Below.refl _ _ | refine vb_d ?_ | refine vb_t ?_ hb4)); rintro e w5 ⟨rfl, hb5⟩; obtain ⟨y2, y3, yz⟩ := HAT.out w5 (by with_reducible repeat (first | exact Below.refl _ _ | refine vb_d ?_ | refine vb_t ?_ hb5 | refine vb_t ?_ hb4)); have x3 : ∀ v, (w5.setCell ⟨sb, i * 4 + 2, none⟩ v).cell? ⟨sb, i * 4 + 3, none⟩ = some (.int .i64 (sa L i).b) := (fun v => (World.cell?_setCell_other _ _ _ _ (by simp)).trans y3)) | fail)
  all_goals
    go_end0
    rw [HP.out]
    refine ⟨rfl, ?_⟩
    have h5 : Below w.heap.size w w5 := by with_reducible repeat (first | exact Below.refl _ _ | refine vb_d ?_ | refine vb_t ?_ hb5 | refine vb_t ?_ hb4)
    have h6 := LS.storeA (HH.out.below h5) i HI.out (L.length : Int)
    have h7 := LS.store h6.1 i (by simpa using HI.out) (L.length : Int)
    rw [setAB_set L i HI.out] at h7
    exact ⟨h7.1, (But.ofBelow h5).trans (h6.2.trans h7.2)⟩
end Go.Proofs.YtoinlmfodmgohaaGreatDoor

namespace Go.Proofs.YtoinlmfodmgohaaGreatDoor
open Go.RowKit
attribute [local go_sem] setCell_drewN alloc_drewN

/-- The three variables of a part of one state: the list, the state's kind, its ranges. -/
def Cap3 (w : World) (lb sb p q s : Nat) (k : Int) (r : List (Int × Int)) : Prop :=
  w.cell? ⟨p, 0, none⟩ = some (.pointer (some ⟨lb, 0, none⟩)) ∧ w.cell? ⟨q, 0, none⟩ = some (.int .i64 k) ∧ (∃ v, w.cell? ⟨s, 0, none⟩ = some v ∧ RI w (two lb sb) r v) ∧ ¬ two lb sb p ∧ ¬ two lb sb q ∧ ¬ two lb sb s
theorem Cap3.but {w w' : World} {lb sb p q s : Nat} {k : Int} {r : List (Int × Int)} (h : Cap3 w lb sb p q s k r) (hb : But (two lb sb) w w') : Cap3 w' lb sb p q s k r := by
  obtain ⟨h1, h2, ⟨v, h3, hR⟩, h4, h5, h6⟩ := h
  exact ⟨(World.cell?_of_block (w := w) (w' := w') (hb.block p (World.block_lt_of_cell? w _ h1) h4)).trans h1, (World.cell?_of_block (w := w) (w' := w') (hb.block q (World.block_lt_of_cell? w _ h2) h5)).trans h2,
    ⟨v, (World.cell?_of_block (w := w) (w' := w') (hb.block s (World.block_lt_of_cell? w _ h3) h6)).trans h3, hR.but hb (fun _ h => h)⟩, h4, h5, h6⟩
theorem Cap3.below {w w' : World} {lb sb p q s : Nat} {k : Int} {r : List (Int × Int)} (h : Cap3 w lb sb p q s k r) (hb : Below w.heap.size w w') : Cap3 w' lb sb p q s k r := h.but (But.ofBelow hb)
set_option maxRecDepth 100000 in
theorem single_any (lb sb : Nat) (k : Int) (r : List (Int × Int)) (v : Value) (w : World) (hlb : lb < w.heap.size ∧ sb < w.heap.size) (hR : RI w (two lb sb) r v) :
    Calls Tryz.prog 80 #[.pointer (some ⟨lb, 0, none⟩), .int .i64 k, v] w fun e w' => ∃ p q s, e = .returned (.func (.func 105) #[] #[.pointer (some ⟨p, 0, none⟩), .pointer (some ⟨q, 0, none⟩), .pointer (some ⟨s, 0, none⟩)]) ∧ Cap3 w' lb sb p q s k r ∧ Below w.heap.size w w' := by
  obtain ⟨ao, c, rfl, _⟩ := hR.shape
  obtain ⟨W, hW⟩ : ∃ W, ((w.alloc (.cells #[.pointer (some ⟨lb, 0, none⟩)] 88)).alloc (.cells #[.int .i64 k] 92)).alloc (.cells #[.slice ao r.length c] 22) = W := ⟨_, rfl⟩
  have hbW : Below w.heap.size w W := hW ▸ vb_a (vb_a (vb_a (Below.refl _ _) _) _) _
  have k1 : Bk W w.heap.size #[.pointer (some ⟨lb, 0, none⟩)] := hW ▸ ((Bk.new _ _ _).al _).al _
  have k2 : Bk W (w.heap.size + 1) #[.int .i64 k] := hW ▸ (Bk.new' _ _ _ _ (by simp)).al _
  have k3 : Bk W (w.heap.size + 2) #[.slice ao r.length c] := hW ▸ Bk.new' _ _ _ _ (by simp)
  have hc : Cap3 W lb sb w.heap.size (w.heap.size + 1) (w.heap.size + 2) k r := ⟨k1.cell 0, k2.cell 0, ⟨_, k3.cell 0, hR.kept hbW⟩, fun e => by rcases e with e | e <;> omega, fun e => by rcases e with e | e <;> omega, fun e => by rcases e with e | e <;> omega⟩
  have HC := hid_intro (And.intro hc hbW)
  have HW := hid_intro hW
  clear hc k1 k2 k3 hbW hW hR
  go_enter Tryz.func80, Tryz.ntmps80
  go_wp2_with fail
  go_ret
  rw [HW.out]
  exact ⟨_, _, _, rfl, HC.out.1, HC.out.2⟩
set_option maxRecDepth 100000 in
theorem single1_any (lb sb cap p q s : Nat) (k : Int) (r : List (Int × Int)) (L : List ST) (w : World) (h : LS w lb sb cap L) (hk : Cap3 w lb sb p q s k r) (hroom : L.length + 1 ≤ cap) (hl : r.length ≤ 1099511627776) :
    Calls Tryz.prog 105 #[.pointer (some ⟨p, 0, none⟩), .pointer (some ⟨q, 0, none⟩), .pointer (some ⟨s, 0, none⟩)] w fun e w' => e = .returned (.tuple #[]) ∧ LS w' lb sb cap (L ++ [⟨k, r, (L.length : Int) + 1, 0⟩]) ∧ But (two lb sb) w w' := by
  obtain ⟨h1, h2, ⟨v, h3, hR⟩, _⟩ := hk
  have hput := put_any lb sb cap L k r v w h hroom _ hR hl
  obtain ⟨ao, c, rfl, _⟩ := hR.shape
  clear hR h hroom hl
  go_enter Tryz.func105, Tryz.ntmps105
  go_wp2_with fail
  refine hput.mono ?_; rintro e w2 ⟨rfl, hls, hbt⟩
  go_wp2_with fail
  go_end0
  exact ⟨rfl, hls, hbt⟩
set_option maxRecDepth 100000 in
theorem partSet_any (lb sb : Nat) (r : List (Int × Int)) (v : Value) (d : Option Addr) (n c : Nat) (w : World) (hlb : lb < w.heap.size ∧ sb < w.heap.size) (hR : RI w (two lb sb) r v) :
    Calls Tryz.prog 51 #[.pointer (some ⟨lb, 0, none⟩), .agg #[.int .i64 2, v, .int .i64 0, .int .i64 0, .bool false, .slice d n c]] w fun e w' => ∃ p q s, e = .returned (.func (.func 105) #[] #[.pointer (some ⟨p, 0, none⟩), .pointer (some ⟨q, 0, none⟩), .pointer (some ⟨s, 0, none⟩)]) ∧ Cap3 w' lb sb p q s 1 r ∧ Below w.heap.size w w' := by
  obtain ⟨ao, c1, rfl, _⟩ := hR.shape
  obtain ⟨W, hW⟩ : ∃ W, w.alloc (.cells #[.int .i64 2, .slice ao r.length c1, .int .i64 0, .int .i64 0, .bool false, .slice d n c] 31) = W := ⟨_, rfl⟩
  have hbW : Below w.heap.size w W := hW ▸ vb_a (Below.refl _ _) _
  have hs := single_any lb sb 1 r (.slice ao r.length c1) W ⟨Nat.lt_of_lt_of_le hlb.1 hbW.size, Nat.lt_of_lt_of_le hlb.2 hbW.size⟩ (hR.kept hbW)
  have HW := hid_intro hW
  clear hW hR hlb
  go_enter Tryz.func51, Tryz.ntmps51
  go_wp2_with fail
  rw [HW.out]
  refine hs.mono ?_; rintro e w2 ⟨p, q, s, rfl, hc, hb2⟩
  go_wp2_with fail
  go_ret
  exact ⟨p, q, s, rfl, hc, vb_t hbW hb2⟩
set_option maxRecDepth 100000 in
set_option maxHeartbeats 1600000 in
theorem from_any (lb sb cap : Nat) (L : List ST) (w : World) (h : LS w lb sb cap L) :
    Calls Tryz.prog 52 #[.pointer (some ⟨lb, 0, none⟩), .int .i64 0] w fun e w' => e = .returned (.slice (some ⟨sb, 0, none⟩) L.length L.length) ∧ Below w.heap.size w w' := by
  have hc := h.cell.1
  have hlen := h.len
  have hLI : (L.length : Int) ≤ (cap : Int) := by omega
  clear h
  go_enter Tryz.func52, Tryz.ntmps52
  go_wp2_with fail
  go_quiet (fail)
  all_goals
    go_wp2_with fail
    go_ret
    exact ⟨rfl, by with_reducible repeat (first | exact Below.refl _ _ | refine vb_d ?_ | refine vb_n ?_ _)⟩
end Go.Proofs.YtoinlmfodmgohaaGreatDoor
