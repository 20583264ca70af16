/-
  Rows of states as they lie in memory. No condition.
-/
import Derived.Test.YtcgohdfpmfpfiaaXR1
namespace Go.Proofs.Ytcgohdfpmfpfiaa
open Go.RowKit

/-- A state: its kind, its ranges, A and B. -/
structure ST where
  k : Int
  r : List (Int × Int)
  a : Int
  b : Int
deriving DecidableEq
/-- One of a row of states. -/
def sa (l : List ST) (i : Nat) : ST := l.getD i ⟨0, [], 0, 0⟩
theorem sa_get {l : List ST} {i : Nat} (h : i < l.length) : sa l i = l[i] := by
  unfold sa; rw [List.getD_eq_getElem?_getD, List.getElem?_eq_getElem h]; rfl
theorem sa_mem {l : List ST} {i : Nat} (h : i < l.length) : sa l i ∈ l := by
  rw [sa_get h]; exact List.getElem_mem h
/-- A state's numbers fit. -/
def ST.ok (s : ST) : Prop := I64 s.k ∧ I64 s.a ∧ I64 s.b
/-- A row of states in a world, outside of blocks that may be written yet. -/
def SI (w : World) (X : Nat → Prop) (l : List ST) (v : Value) : Prop :=
  ∃ ao cap, v = .slice ao l.length cap ∧ l.length ≤ cap ∧ cap ≤ maxLen ∧ (∀ s ∈ l, s.ok) ∧
    (l = [] ∨ ∃ b off, ∃ G : Nat → Value, ao = some ⟨b, off, none⟩ ∧ ¬ X b ∧ ∀ i, i < l.length → (w.cell? ⟨b, off + i * 4, none⟩ = some (.int .i64 (sa l i).k) ∧ w.cell? ⟨b, off + i * 4 + 1, none⟩ = some (G i) ∧ w.cell? ⟨b, off + i * 4 + 2, none⟩ = some (.int .i64 (sa l i).a) ∧ w.cell? ⟨b, off + i * 4 + 3, none⟩ = some (.int .i64 (sa l i).b)) ∧ RI w X (sa l i).r (G i))
theorem SI.carry {w w' : World} {X X' : Nat → Prop} {l : List ST} {v : Value} (h : SI w X l v) (hX : ∀ b, ¬ X b → b < w.heap.size → w'.heap[b]? = w.heap[b]? ∧ ¬ X' b) : SI w' X' l v := by
  obtain ⟨ao, cap, e, h1, h2, h3, h4⟩ := h
  refine ⟨ao, cap, e, h1, h2, h3, ?_⟩
  rcases h4 with h4 | ⟨b, off, G, h5, h6, h7⟩
  · exact Or.inl h4
  · by_cases hk : l = []
    · exact Or.inl hk
    have h0 : 0 < l.length := List.length_pos_iff.2 hk
    have hb : b < w.heap.size := World.block_lt_of_cell? w _ (h7 0 h0).1.1
    have hx := hX b h6 hb
    have key : ∀ o x, w.cell? ⟨b, o, none⟩ = some x → w'.cell? ⟨b, o, none⟩ = some x := fun o x hq => (World.cell?_of_block (w := w) (w' := w') hx.1).trans hq
    exact Or.inr ⟨b, off, G, h5, hx.2, fun i hi => ⟨⟨key _ _ (h7 i hi).1.1, key _ _ (h7 i hi).1.2.1, key _ _ (h7 i hi).1.2.2.1, key _ _ (h7 i hi).1.2.2.2⟩, (h7 i hi).2.carry hX⟩⟩
theorem SI.kept {w w' : World} {X : Nat → Prop} {l : List ST} {v : Value} (h : SI w X l v) (hb : Below w.heap.size w w') : SI w' X l v := h.carry fun b hx hlt => ⟨hb.block b hlt, hx⟩
theorem SI.nil (w : World) (X : Nat → Prop) : SI w X [] (.slice none 0 0) := ⟨none, 0, rfl, Nat.le_refl _, by unfold maxLen; omega, fun r hr => by simp at hr, Or.inl rfl⟩
end Go.Proofs.Ytcgohdfpmfpfiaa
