/-
  Edges as they came in; within, counts, edge, the document's Real, Ints, upTo. Conditions: the numbers are of 64 bits.
-/
import Derived.Test.YtnlgeiofkfkhbaaJoined0
namespace Go.Proofs.Ytnlgeiofkfkhbaa
open Go.RowKit Go.Maps
attribute [local go_sem] setCell_drewN alloc_drewN

/-- An edge. -/
structure Ed where
 f : Int
 t : Int
 wd : ByteArray
 s : Bool
 dy : ByteArray
/-- Does it count? -/
def cnt (n : Int) (e : Ed) : Bool := e.s && (decide (0 ≤ e.f) && decide (e.f < n)) && (decide (0 ≤ e.t) && decide (e.t < n))
/-- Edges that came in. -/
def EdI (w : World) (v : Value) (E : List Ed) : Prop := ∃ ao cap, v = .slice ao E.length cap ∧ E.length ≤ cap ∧ cap ≤ maxLen ∧ (E = [] ∨ ∃ b off, ao = some ⟨b, off, none⟩ ∧ b < w.heap.size ∧ ∀ i (h : i < E.length),
 w.cell? ⟨b, off + i * 5, none⟩ = some (.int .i64 E[i].f) ∧ w.cell? ⟨b, off + i * 5 + 1, none⟩ = some (.int .i64 E[i].t) ∧ w.cell? ⟨b, off + i * 5 + 2, none⟩ = some (.string E[i].wd) ∧ w.cell? ⟨b, off + i * 5 + 3, none⟩ = some (.bool E[i].s) ∧ w.cell? ⟨b, off + i * 5 + 4, none⟩ = some (.string E[i].dy))
theorem EdI.below {w w' : World} {v : Value} {E : List Ed} (h : EdI w v E) (hb : Below w.heap.size w w') : EdI w' v E := by
 obtain ⟨ao, cap, e, h1, h2, h3⟩ := h
 refine ⟨ao, cap, e, h1, h2, ?_⟩
 rcases h3 with h3 | ⟨b, off, e2, hlt, hc⟩
 ·exact Or.inl h3
 ·refine Or.inr ⟨b, off, e2, Nat.lt_of_lt_of_le hlt hb.size, fun i hi => ?_⟩
  obtain ⟨k0, k1, k2, k3, k4⟩ := hc i hi
  exact ⟨(hb.cell (p := ⟨b, off + i * 5, none⟩) hlt).trans k0, (hb.cell (p := ⟨b, off + i * 5 + 1, none⟩) hlt).trans k1, (hb.cell (p := ⟨b, off + i * 5 + 2, none⟩) hlt).trans k2, (hb.cell (p := ⟨b, off + i * 5 + 3, none⟩) hlt).trans k3, (hb.cell (p := ⟨b, off + i * 5 + 4, none⟩) hlt).trans k4⟩
def edV (e : Ed) : Value := .agg #[.int .i64 e.f, .int .i64 e.t, .string e.wd, .bool e.s, .string e.dy]

set_option maxRecDepth 100000 in
theorem within_any (n k : Int) (w : World) : Calls Try.prog 37 #[.int .i64 n, .int .i64 k] w fun r w' => r = .returned (.bool (decide (0 ≤ k) && decide (k < n))) ∧ w' = w := by
 by_cases h0 : 0 ≤ k
 ·by_cases h1 : k < n
  ·have e : (decide (0 ≤ k) && decide (k < n)) = true := by simp [h0, h1]
   rw [e]
   go_enter Try.func37, Try.ntmps37
   go_wp2_with fail
   go_ret
   exact ⟨rfl, rfl⟩
  ·have e : (decide (0 ≤ k) && decide (k < n)) = false := by simp [h1]
   rw [e]
   go_enter Try.func37, Try.ntmps37
   go_wp2_with fail
   go_ret
   exact ⟨rfl, rfl⟩
 ·have e : (decide (0 ≤ k) && decide (k < n)) = false := by simp [h0]
  rw [e]
  go_enter Try.func37, Try.ntmps37
  go_wp2_with fail
  go_ret
  exact ⟨rfl, rfl⟩

set_option maxRecDepth 100000 in
theorem counts_any (n : Int) (e : Ed) (w : World) : Calls Try.prog 25 #[.int .i64 n, edV e] w fun r w' => r = .returned (.bool (cnt n e)) ∧ Below w.heap.size w w' := by
 obtain ⟨f, t, wd, s, dy⟩ := e
 unfold edV
 have hB : Below w.heap.size w (w.alloc (.cells #[.int .i64 f, .int .i64 t, .string wd, .bool s, .string dy] 32)) := vb_a (Below.refl _ _) _
 have kB := Bk.new w #[.int .i64 f, .int .i64 t, .string wd, .bool s, .string dy] 32
 have c0 := kB.cell 0
 have c1 := kB.cell 1
 have c3 := kB.cell 3
 simp only [List.getElem?_toArray, List.getElem?_cons_zero, List.getElem?_cons_succ] at c0 c1 c3
 cases s with
 | false =>
  have e : cnt n ⟨f, t, wd, false, dy⟩ = false := rfl
  rw [e]
  go_enter Try.func25, Try.ntmps25
  go_wp2_with fail
  go_ret
  exact ⟨rfl, hB⟩
 | true =>
  by_cases h0 : 0 ≤ f
  ·by_cases h1 : f < n
   ·by_cases h2 : 0 ≤ t
    ·by_cases h3 : t < n
     ·have e : cnt n ⟨f, t, wd, true, dy⟩ = true := by simp [cnt, h0, h1, h2, h3]
      rw [e]
      go_enter Try.func25, Try.ntmps25
      go_wp2_with fail
      go_ret
      exact ⟨rfl, hB⟩
     ·have e : cnt n ⟨f, t, wd, true, dy⟩ = false := by simp [cnt, h3]
      rw [e]
      go_enter Try.func25, Try.ntmps25
      go_wp2_with fail
      go_ret
      exact ⟨rfl, hB⟩
    ·have e : cnt n ⟨f, t, wd, true, dy⟩ = false := by simp [cnt, h2]
     rw [e]
     go_enter Try.func25, Try.ntmps25
     go_wp2_with fail
     go_ret
     exact ⟨rfl, hB⟩
   ·have e : cnt n ⟨f, t, wd, true, dy⟩ = false := by simp [cnt, h1]
    rw [e]
    go_enter Try.func25, Try.ntmps25
    go_wp2_with fail
    go_ret
    exact ⟨rfl, hB⟩
  ·have e : cnt n ⟨f, t, wd, true, dy⟩ = false := by simp [cnt, h0]
   rw [e]
   go_enter Try.func25, Try.ntmps25
   go_wp2_with fail
   go_ret
   exact ⟨rfl, hB⟩
end Go.Proofs.Ytnlgeiofkfkhbaa
