/-
  slices.Clone at texts and at values: a row of the call's own with the same cells. Conditions: at most 2^30 of them.
-/
import Derived.Test.YtkbkedknoahhgaaDoorJoined20
import Derived.Test.YtkbkedknoahhgaaDoorJoined17
import Derived.Laws.AppendOwnNone
namespace Go.Proofs.YtkbkedknoahhgaaDoor
open Go.RowKit
attribute [local go_sem] setCell_drewN alloc_drewN

/-- Lists that are not too long. -/
inductive Sm : JV → Prop
  | mk {k : Int} {n : Bool} {g : ByteArray} {e : Int} {t : ByteArray} {l : List JV} {ks : List ByteArray} (h1 : l.length ≤ 1073741824) (h2 : ks.length ≤ 1073741824) (h3 : ∀ c ∈ l, Sm c) : Sm (.mk k n g e t l ks)
theorem infoV : (Tryd.prog.info? 28).map (fun i => (i.zero, i.size, i.bytes)) = some (some (.agg #[.int .i64 0, .bool false, .string ⟨#[]⟩, .int .i64 0, .string ⟨#[]⟩, .slice none 0 0, .slice none 0 0]), 7, 104) := by kernel_rfl
theorem SI.of_own {w : World} {B : Nat} {v : Value} {ks : List ByteArray} {X : Nat → Prop} (h : w.ownsRow B 9 1 v ks.length (ks.map .string)) (hX : ∀ b, X b → b < B) (hs : ∀ s ∈ ks, s.size ≤ maxLen) : SI w X ks v := by
  have hc : ∀ g, v.ownBlock = some g → ∀ j u, (ks.map Value.string)[j]? = some u → w.cell? ((⟨g, 0, none⟩ : Addr).add j) = some u := fun g hg => World.ownsRow.cells h hg
  rcases h.2 with ⟨hv, hx⟩ | ⟨g, cap, cur, rfl, hg, _, h1, h2, _⟩
  · have : ks = [] := by simpa using hx
    subst this
    exact ⟨none, 0, hv, Nat.le_refl _, by unfold maxLen; omega, hs, .inl rfl⟩
  · refine ⟨some ⟨g, 0, none⟩, cap, rfl, h1, h2, hs, .inr ⟨g, 0, rfl, fun hx => by have := hX g hx; omega, fun i hi => ?_⟩⟩
    have := hc g rfl i (.string ks[i]) (by simp [hi])
    rw [add_at] at this
    exact this

set_option maxRecDepth 100000 in
set_option maxHeartbeats 800000 in
theorem cloneS_any (ks : List ByteArray) (v : Value) (X : Nat → Prop) (w : World) (h : SI w X ks v) (hX : ∀ b, X b → b < w.heap.size) (hl : ks.length ≤ 1073741824) :
    Calls Tryd.prog 37 #[v] w fun r w' => ∃ v', r = .returned v' ∧ SI w' X ks v' ∧ Below w.heap.size w w' := by
  have q : ∀ (w : World) (a : Option Addr) (n c n' c' : Nat), (binOp .eql 26 (.slice a n c) (.slice none n' c')).run Tryd.prog w = .ok (.bool a.isNone) w := fun w a n c n' c' => Lib.run_eql_slice_nil w _ _ a n c n' c' Tryd.underlying26
  obtain ⟨ao, cap, rfl, h1, h2, h3, h4⟩ := h
  cases ao with
  | none =>
    have hk : ks = [] := by
      rcases h4 with h4 | ⟨b, off, h5, _⟩
      · exact h4
      · cases h5
    subst hk
    go_enter Tryd.func37, Tryd.ntmps37
    go_wp2
    go_ret
    exact ⟨_, rfl, ⟨none, 0, rfl, Nat.le_refl _, by unfold maxLen; omega, h3, .inl rfl⟩, Below.refl _ _⟩
  | some a =>
    obtain ⟨i0, hi, hz0, hz1, hz2⟩ := info_parts infoS
    have hmade : (w.alloc (.cells #[] 9)).ownsRow w.heap.size 9 1 (.slice (some ⟨w.heap.size, 0, none⟩) 0 0) 0 [] := World.ownsRow_made w #[] 0 (Nat.le_refl _) (Nat.zero_le _) rfl
    have hnews : ∀ j u, (ks.map Value.string)[j]? = some u → (w.alloc (.cells #[] 9)).cell? (a.add j) = some u := fun j u hu => by
      obtain ⟨hj, rfl⟩ := List.getElem?_eq_some_iff.1 hu
      have hj' : j < ks.length := by simpa using hj
      rcases h4 with h4 | ⟨b, off, h5, _, h7⟩
      · rw [h4] at hj'; exact absurd hj' (by simp)
      · obtain rfl := Option.some.inj h5
        rw [add_at, World.cell?_alloc_past _ _ _ (World.block_lt_of_cell? w _ (h7 j hj'))]
        simp [h7 j hj']
    have hone : ∀ u ∈ ks.map Value.string, u.oneCell' = true := fun u hu => by
      obtain ⟨s, _, rfl⟩ := List.mem_map.1 hu
      rfl
    clear h1 h2 h4
    go_enter Tryd.func37, Tryd.ntmps37
    go_wp2_with (at_builtin; refine wpList_append_own _ rfl (.tmp 5) (.tmp 6) 26 rfl w.heap.size 9 i0 (.string ⟨#[]⟩) 1 16 Tryd.underlying26 hi hz0 hz1 hz2 rfl (by decide) _ 0 [] rfl hmade a ks.length cap (ks.map .string) rfl (by simp) hnews hone (by unfold maxLen; omega) (by omega) (by simp) ?_)
    intro v' w' g1 g2 _
    have hb : Below w.heap.size w w' := (bl_a (Below.refl _ _) _).grown g2 (by simp) (fun j hj => (World.ownsRow.lt hmade j hj).1)
    have hS := SI.of_own (X := X) g1 hX h3
    clear g1 g2 hnews hmade hone
    go_wp2
    go_ret
    exact ⟨_, rfl, hS, hb⟩

/-- The cells of a row of values. -/
def rowG (G : Nat → Nat → Value) (n : Nat) : List Value := (List.range (n * 7)).map fun j => G (j / 7) (j % 7)
theorem rowG_len (G : Nat → Nat → Value) (n : Nat) : (rowG G n).length = n * 7 := by simp [rowG]
theorem rowG_at (G : Nat → Nat → Value) (n i j : Nat) (hi : i < n) (hj : j < 7) : (rowG G n)[i * 7 + j]? = some (G i j) := by
  have h1 : (i * 7 + j) / 7 = i := by omega
  have h2 : (i * 7 + j) % 7 = j := by omega
  have h3 : i * 7 + j < n * 7 := by omega
  simp [rowG, h3, h1, h2]
theorem VI.one {w : World} {X : Nat → Prop} {v : JV} {f : Nat → Value} (h : VI w X v f) (j : Nat) (hj : j < 7) : (f j).oneCell' = true := by
  cases h with
  | mk ao cap G f0 f1 f2 f3 f4 f5 f6 hc hs hw hl hr =>
    obtain ⟨ko, kc, e6, _⟩ := f6
    have : j = 0 ∨ j = 1 ∨ j = 2 ∨ j = 3 ∨ j = 4 ∨ j = 5 ∨ j = 6 := by omega
    rcases this with rfl | rfl | rfl | rfl | rfl | rfl | rfl
    · rw [f0]; rfl
    · rw [f1]; rfl
    · rw [f2]; rfl
    · rw [f3]; rfl
    · rw [f4]; rfl
    · rw [f5]; rfl
    · rw [e6]; rfl

set_option maxRecDepth 100000 in
set_option maxHeartbeats 800000 in
theorem cloneV_any (l : List JV) (ao : Option Addr) (cap : Nat) (G : Nat → Nat → Value) (X : Nat → Prop) (w : World) (hr : ∀ i (h : i < l.length), VI w X l[i] (G i)) (hl : l.length ≤ 1073741824)
    (h4 : l = [] ∨ ∃ b off, ao = some ⟨b, off, none⟩ ∧ ∀ i, i < l.length → ∀ j, j < 7 → w.cell? ⟨b, off + i * 7 + j, none⟩ = some (G i j)) :
    Calls Tryd.prog 38 #[.slice ao l.length cap] w fun r w' => ∃ v', r = .returned v' ∧ w'.ownsRow w.heap.size 28 7 v' l.length (rowG G l.length) ∧ Below w.heap.size w w' := by
  have q : ∀ (w : World) (a : Option Addr) (n c n' c' : Nat), (binOp .eql 25 (.slice a n c) (.slice none n' c')).run Tryd.prog w = .ok (.bool a.isNone) w := fun w a n c n' c' => Lib.run_eql_slice_nil w _ _ a n c n' c' Tryd.underlying25
  cases ao with
  | none =>
    have hk : l = [] := by
      rcases h4 with h4 | ⟨b, off, h5, _⟩
      · exact h4
      · cases h5
    subst hk
    go_enter Tryd.func38, Tryd.ntmps38
    go_wp2
    go_ret
    exact ⟨_, rfl, World.ownsRow_nil _ _ _ _, Below.refl _ _⟩
  | some a =>
    obtain ⟨i0, hi, hz0, hz1, hz2⟩ := info_parts infoV
    have hmade : (w.alloc (.cells #[] 28)).ownsRow w.heap.size 28 7 (.slice (some ⟨w.heap.size, 0, none⟩) 0 0) 0 [] := World.ownsRow_made w #[] 0 (Nat.le_refl _) (Nat.zero_le _) rfl
    have hnews : ∀ j u, (rowG G l.length)[j]? = some u → (w.alloc (.cells #[] 28)).cell? (a.add j) = some u := fun j u hu => by
      have hj : j < l.length * 7 := by have := (List.getElem?_eq_some_iff.1 hu).1; rwa [rowG_len] at this
      have hd : j / 7 < l.length := by omega
      have hm : j % 7 < 7 := by omega
      have e : j / 7 * 7 + j % 7 = j := by omega
      have hr2 := rowG_at G l.length (j / 7) (j % 7) hd hm
      rw [e, hu] at hr2
      rcases h4 with h4 | ⟨b, off, h5, h7⟩
      · rw [h4] at hd; exact absurd hd (by simp)
      · obtain rfl := Option.some.inj h5
        have h8 := h7 (j / 7) hd (j % 7) hm
        rw [Nat.add_assoc, e] at h8
        rw [add_at, World.cell?_alloc_past _ _ _ (World.block_lt_of_cell? w _ h8), h8, hr2]
    have hone : ∀ u ∈ rowG G l.length, u.oneCell' = true := fun u hu => by
      obtain ⟨j, hj, rfl⟩ := List.mem_map.1 hu
      have hj := List.mem_range.1 hj
      exact (hr (j / 7) (by omega)).one _ (by omega)
    have hlen := rowG_len G l.length
    clear h4 hr
    go_enter Tryd.func38, Tryd.ntmps38
    go_wp2_with (at_builtin; refine wpList_append_own _ rfl (.tmp 5) (.tmp 6) 25 rfl w.heap.size 28 i0 (.agg #[.int .i64 0, .bool false, .string ⟨#[]⟩, .int .i64 0, .string ⟨#[]⟩, .slice none 0 0, .slice none 0 0]) 7 104 Tryd.underlying25 hi hz0 hz1 hz2 rfl (by decide) _ 0 [] rfl hmade a l.length cap (rowG G l.length) rfl hlen hnews hone (by unfold maxLen; omega) (by omega) (by simp) ?_)
    intro v' w' g1 g2 _
    have hb : Below w.heap.size w w' := (bl_a (Below.refl _ _) _).grown g2 (by simp) (fun j hj => (World.ownsRow.lt hmade j hj).1)
    clear g2 hnews hmade hone
    go_wp2
    go_ret
    exact ⟨_, rfl, g1, hb⟩
end Go.Proofs.YtkbkedknoahhgaaDoor
