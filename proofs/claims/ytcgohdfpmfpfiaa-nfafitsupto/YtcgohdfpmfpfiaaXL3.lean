/-
  A fork and a jump, and what they answer, called. Conditions: there is room.
-/
import Derived.Test.YtcgohdfpmfpfiaaXL2
namespace Go.Proofs.Ytcgohdfpmfpfiaa
open Go.RowKit
attribute [local go_sem] setCell_drewN alloc_drewN

/-- Two numbers of a state turned. -/
def ST.goB (s : ST) (b : Int) : ST := { s with b := b }
def ST.goAB (s : ST) (b : Int) : ST := { s with a := b, b := b }
/-- A state of the list turned. -/
def setB (L : List ST) (i : Nat) : List ST := L.set i ((sa L i).goB (L.length : Int))
def setAB (L : List ST) (i : Nat) : List ST := L.set i ((sa L i).goAB (L.length : Int))
theorem setB_len (L : List ST) (i : Nat) : (setB L i).length = L.length := by simp [setB]
theorem setAB_len (L : List ST) (i : Nat) : (setAB L i).length = L.length := by simp [setAB]
theorem flatS_set : ∀ (M : List (ST × Value)) (i : Nat) (h : i < M.length) (x : Int), (flatS M).set (i * 4 + 3) (.int .i64 x) = flatS (M.set i (M[i].1.goB x, M[i].2)) := by
  intro M
  induction M with
  | nil => intro i h; simp at h
  | cons p M ih =>
    intro i h x
    cases i with
    | zero => rfl
    | succ i =>
      have e1 : (i + 1) * 4 + 3 = (i * 4 + 3) + 4 := by omega
      rw [e1]
      have := ih i (by simpa using h) x
      show .int .i64 p.1.k :: p.2 :: .int .i64 p.1.a :: .int .i64 p.1.b :: (flatS M).set (i * 4 + 3) (.int .i64 x) = _
      rw [this]; rfl
theorem flatS_setA : ∀ (M : List (ST × Value)) (i : Nat) (h : i < M.length) (x : Int), (flatS M).set (i * 4 + 2) (.int .i64 x) = flatS (M.set i ({ M[i].1 with a := x }, M[i].2)) := by
  intro M
  induction M with
  | nil => intro i h; simp at h
  | cons p M ih =>
    intro i h x
    cases i with
    | zero => rfl
    | succ i =>
      have e1 : (i + 1) * 4 + 2 = (i * 4 + 2) + 4 := by omega
      rw [e1]
      have := ih i (by simpa using h) x
      show .int .i64 p.1.k :: p.2 :: .int .i64 p.1.a :: .int .i64 p.1.b :: (flatS M).set (i * 4 + 2) (.int .i64 x) = _
      rw [this]; rfl
/-- A store into the number B, or A, of a state. -/
theorem LS.store {w : World} {lb sb cap : Nat} {L : List ST} (h : LS w lb sb cap L) (i : Nat) (hi : i < L.length) (x : Int) :
    LS (w.setCell ⟨sb, i * 4 + 3, none⟩ (.int .i64 x)) lb sb cap (L.set i ((sa L i).goB x)) ∧ But (two lb sb) w (w.setCell ⟨sb, i * 4 + 3, none⟩ (.int .i64 x)) := by
  have hlt := h.lt
  refine ⟨?_, (But.refl _ _).set (Or.inl (Or.inr rfl)) _⟩
  obtain ⟨M, h0, h1, h2, h3, h4, h5, h6⟩ := h
  subst h0
  have hiM : i < M.length := by simpa using hi
  rw [List.length_map] at h1 h4
  have hst := h4.stored (i * 4 + 3) (.int .i64 x)
  refine ⟨M.set i (M[i].1.goB x, M[i].2), ?_, ?_, ?_, h3, ?_, fun p hp => ?_, h6⟩
  · rw [List.map_set, sa_get hi]; simp
  · rw [World.cell?_setCell_other _ _ _ _ (by intro e; injection e with e; exact h3 e.symm), h1]; simp
  · rw [World.frozen?_setCell]; exact h2
  · rw [List.length_set, List.length_map, ← flatS_set M i hiM]
    exact hst.1
  · have hR : RI w (two lb sb) p.1.r p.2 := by
      rcases List.mem_or_eq_of_mem_set hp with hp | hp
      · exact h5 p hp
      · rw [hp]; exact h5 M[i] (List.getElem_mem hiM)
    exact hR.set (Or.inr rfl) _
theorem LS.storeA {w : World} {lb sb cap : Nat} {L : List ST} (h : LS w lb sb cap L) (i : Nat) (hi : i < L.length) (x : Int) :
    LS (w.setCell ⟨sb, i * 4 + 2, none⟩ (.int .i64 x)) lb sb cap (L.set i { sa L i with a := x }) ∧ But (two lb sb) w (w.setCell ⟨sb, i * 4 + 2, none⟩ (.int .i64 x)) := by
  have hlt := h.lt
  refine ⟨?_, (But.refl _ _).set (Or.inl (Or.inr rfl)) _⟩
  obtain ⟨M, h0, h1, h2, h3, h4, h5, h6⟩ := h
  subst h0
  have hiM : i < M.length := by simpa using hi
  rw [List.length_map] at h1 h4
  have hst := h4.stored (i * 4 + 2) (.int .i64 x)
  refine ⟨M.set i ({ M[i].1 with a := x }, M[i].2), ?_, ?_, ?_, h3, ?_, fun p hp => ?_, h6⟩
  · rw [List.map_set, sa_get hi]; simp
  · rw [World.cell?_setCell_other _ _ _ _ (by intro e; injection e with e; exact h3 e.symm), h1]; simp
  · rw [World.frozen?_setCell]; exact h2
  · rw [List.length_set, List.length_map, ← flatS_setA M i hiM]
    exact hst.1
  · have hR : RI w (two lb sb) p.1.r p.2 := by
      rcases List.mem_or_eq_of_mem_set hp with hp | hp
      · exact h5 p hp
      · rw [hp]; exact h5 M[i] (List.getElem_mem hiM)
    exact hR.set (Or.inr rfl) _
/-- The cells of a state in the list. -/
theorem LS.at {w : World} {lb sb cap : Nat} {L : List ST} (h : LS w lb sb cap L) (i : Nat) (hi : i < L.length) :
    (∃ v, w.cell? ⟨sb, i * 4, none⟩ = some (.int .i64 (sa L i).k) ∧ w.cell? ⟨sb, i * 4 + 1, none⟩ = some v ∧ w.cell? ⟨sb, i * 4 + 2, none⟩ = some (.int .i64 (sa L i).a) ∧ w.cell? ⟨sb, i * 4 + 3, none⟩ = some (.int .i64 (sa L i).b) ∧ RI w (two lb sb) (sa L i).r v) ∧ ∀ o, w.frozen? ⟨sb, o, none⟩ = false := by
  obtain ⟨M, h0, h1, h2, h3, h4, h5, h6⟩ := h
  subst h0
  have hiM : i < M.length := by simpa using hi
  rw [List.length_map] at h4
  have f := flatS_at M i hiM
  have e : sa (M.map Prod.fst) i = M[i].1 := by rw [sa_get hi]; simp
  rw [e]
  exact ⟨⟨M[i].2, (h4.cellAt _ (by omega)).trans f.1, (h4.cellAt _ (by omega)).trans f.2.1, (h4.cellAt _ (by omega)).trans f.2.2.1, (h4.cellAt _ (by omega)).trans f.2.2.2, h5 _ (List.getElem_mem hiM)⟩, fun o => h4.frozenAt o⟩
end Go.Proofs.Ytcgohdfpmfpfiaa
