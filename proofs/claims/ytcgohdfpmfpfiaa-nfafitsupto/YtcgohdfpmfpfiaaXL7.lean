/-
  A list of states made, and its states read as a row. No condition.
-/
import Derived.Test.YtcgohdfpmfpfiaaXL6
import Derived.Deep.Strs
namespace Go.Proofs.Ytcgohdfpmfpfiaa
open Go.RowKit Go.Deep
attribute [local go_sem] setCell_drewN alloc_drewN

theorem make_st (w : World) (c : Nat) (hc : c ≤ 65536) : (Instr.makeSlice 22 (.int .i64 0) (.int .i64 (c : Int))).run Try.prog w = .ok (.slice (some ⟨w.heap.size, 0, none⟩) 0 c) (w.alloc (.cells (madeCells #[.int .i64 0, .slice none 0 0, .int .i64 0, .int .i64 0] (c * 4)) 40)) := by
  obtain ⟨i0, hi, hz0, hz1, hz2⟩ := info_parts infoState
  have := run_make (P := Try.prog) w 22 40 i0 (.agg #[.int .i64 0, .slice none 0 0, .int .i64 0, .int .i64 0]) Try.underlying22 hi hz0 .i64 .i64 0 (c : Int) (by omega) (by omega) (by rw [hz2]; omega) (by omega)
  rw [hz1] at this
  simpa [Value.cells] using this
theorem LS.made (w : World) (c : Nat) (hc : c ≤ 65536) : LS ((w.alloc (.cells (madeCells #[.int .i64 0, .slice none 0 0, .int .i64 0, .int .i64 0] (c * 4)) 40)).alloc (.cells #[.slice (some ⟨w.heap.size, 0, none⟩) 0 c] 60)) (w.heap.size + 1) w.heap.size c [] := by
  have k : Bk ((w.alloc (.cells (madeCells #[.int .i64 0, .slice none 0 0, .int .i64 0, .int .i64 0] (c * 4)) 40)).alloc (.cells #[.slice (some ⟨w.heap.size, 0, none⟩) 0 c] 60)) (w.heap.size + 1) #[.slice (some ⟨w.heap.size, 0, none⟩) 0 c] := Bk.new' _ _ _ _ (by simp)
  have ho := World.ownsRow_made (base := 0) (e := 40) (size := 4) w (madeCells #[.int .i64 0, .slice none 0 0, .int .i64 0, .int .i64 0] (c * 4)) c (Nat.zero_le _) (by unfold maxLen; omega) (by rw [size_madeCells])
  exact ⟨[], rfl, k.cell 0, k.frz 0, by omega, ho.alloc _, fun p hp => by simp at hp, hc⟩
/-- The list's states as a row. -/
theorem LS.si {w : World} {lb sb cap : Nat} {L : List ST} (h : LS w lb sb cap L) (hok : ∀ s ∈ L, s.ok) : SI w (fun _ => False) L (.slice (some ⟨sb, 0, none⟩) L.length L.length) := by
  have hlen := h.len
  refine ⟨_, _, rfl, Nat.le_refl _, by unfold maxLen; omega, hok, ?_⟩
  by_cases hL : L = []
  · exact Or.inl hL
  right
  haveI : Inhabited Value := ⟨.nilIface⟩
  have each : ∀ i, i < L.length → ∃ v : Value, w.cell? ⟨sb, i * 4, none⟩ = some (.int .i64 (sa L i).k) ∧ w.cell? ⟨sb, i * 4 + 1, none⟩ = some v ∧ w.cell? ⟨sb, i * 4 + 2, none⟩ = some (.int .i64 (sa L i).a) ∧ w.cell? ⟨sb, i * 4 + 3, none⟩ = some (.int .i64 (sa L i).b) ∧ RI w (two lb sb) (sa L i).r v := fun i hi => (h.at i hi).1
  obtain ⟨G, hG⟩ := choose_lt each
  refine ⟨sb, 0, G, rfl, fun h => h, fun i hi => ?_⟩
  obtain ⟨h0, h1, h2, h3, hR⟩ := hG i hi
  simp only [Nat.zero_add]
  exact ⟨⟨h0, h1, h2, h3⟩, hR.weak (fun _ h => h.elim)⟩
/-- A last state, in a region that does not draw. -/
theorem wpList_append_st {w : World} {ops : Array Oper} {rest : List Oper} {o : Oper} {a : Act} {Q : Exit → Act → World → Prop} (hgd : o.guard = none) (s x : Operand)
    (ho : o.op = .call { callee := .builtin .append, args := #[s, x], argTypes := #[22, 22] }) (sb n cap : Nat) (xs : List Value) (hs : a.eval s = .slice (some ⟨sb, 0, none⟩) n cap)
    (c0 c1 c2 c3 : Value) (t : Nat) (ht : w.heap.size = t) (hx : a.eval x = .slice (some ⟨t, 0, none⟩) 1 1) (hroom : n + 1 ≤ cap) (hone : c0.oneCell' = true ∧ c1.oneCell' = true ∧ c2.oneCell' = true ∧ c3.oneCell' = true)
    (hown : w.ownsRow 0 40 4 (.slice (some ⟨sb, 0, none⟩) n cap) n xs)
    (h : ∀ w', w'.ownsRow 0 40 4 (.slice (some ⟨sb, 0, none⟩) (n + 1) cap) (n + 1) (xs ++ [c0, c1, c2, c3]) → (w.alloc (.cells #[c0, c1, c2, c3] 40)).grownBy w' (some sb) → wpList Try.prog ops Q rest (a.put o.dst (.slice (some ⟨sb, 0, none⟩) (n + 1) cap)) w') :
    wpList Try.prog ops Q (o :: rest) a (w.alloc (.cells #[c0, c1, c2, c3] 40)) := by
  subst ht
  obtain ⟨i0, hi, hz0, hz1, hz2⟩ := info_parts infoState
  have hT : Bk (w.alloc (.cells #[c0, c1, c2, c3] 40)) w.heap.size #[c0, c1, c2, c3] := Bk.new _ _ _
  exact wpList_append_fits _ hgd s x 22 ho 0 40 i0 4 Try.underlying22 hi hz1 sb n cap xs hs (hown.alloc _) ⟨w.heap.size, 0, none⟩ 1 1 [c0, c1, c2, c3] hx rfl (fun j u hj => by
    rw [add_at, hT.cell]
    match j, hj with
    | 0, hj => exact hj
    | 1, hj => exact hj
    | 2, hj => exact hj
    | 3, hj => exact hj) (fun u hu => by
    simp at hu
    rcases hu with rfl | rfl | rfl | rfl
    · exact hone.1
    · exact hone.2.1
    · exact hone.2.2.1
    · exact hone.2.2.2) hroom h
end Go.Proofs.Ytcgohdfpmfpfiaa
