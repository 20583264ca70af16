/-
  What pointer.Find answers at an array of one true: what heads asks. No condition but that the value lies in memory.
-/
import Derived.Test.YtkbkedknoahhgaaDoorJoined14
namespace Go.Proofs.YtkbkedknoahhgaaDoor
open Go.RowKit
attribute [local go_sem] setCell_drewN alloc_drewN

/-- A block of seven cells that may be written. -/
structure C7 (w : World) (b : Nat) (x0 x1 x2 x3 x4 x5 x6 : Value) : Prop where
  c0 : w.cell? ⟨b, 0, none⟩ = some x0
  c1 : w.cell? ⟨b, 1, none⟩ = some x1
  c2 : w.cell? ⟨b, 2, none⟩ = some x2
  c3 : w.cell? ⟨b, 3, none⟩ = some x3
  c4 : w.cell? ⟨b, 4, none⟩ = some x4
  c5 : w.cell? ⟨b, 5, none⟩ = some x5
  c6 : w.cell? ⟨b, 6, none⟩ = some x6
  z0 : w.frozen? ⟨b, 0, none⟩ = false
  z1 : w.frozen? ⟨b, 1, none⟩ = false
  z2 : w.frozen? ⟨b, 2, none⟩ = false
  z3 : w.frozen? ⟨b, 3, none⟩ = false
  z4 : w.frozen? ⟨b, 4, none⟩ = false
  z5 : w.frozen? ⟨b, 5, none⟩ = false
  z6 : w.frozen? ⟨b, 6, none⟩ = false
theorem C7.new (w : World) (x0 x1 x2 x3 x4 x5 x6 : Value) (t : TypeId) : C7 (w.alloc (.cells #[x0, x1, x2, x3, x4, x5, x6] t)) w.heap.size x0 x1 x2 x3 x4 x5 x6 := by
  constructor <;> first | exact World.frozen?_alloc_at _ _ _ _ rfl | (rw [World.cell?_alloc_at _ _ _ _ rfl]; rfl)
theorem C7.lt {w : World} {b : Nat} {x0 x1 x2 x3 x4 x5 x6 : Value} (h : C7 w b x0 x1 x2 x3 x4 x5 x6) : b < w.heap.size := World.block_lt_of_cell? w _ h.c0
theorem C7.below {w w' : World} {b B : Nat} {x0 x1 x2 x3 x4 x5 x6 : Value} (h : C7 w b x0 x1 x2 x3 x4 x5 x6) (hb : Below B w w') (hlt : b < B) : C7 w' b x0 x1 x2 x3 x4 x5 x6 := by
  have k : ∀ o, w'.cell? ⟨b, o, none⟩ = w.cell? ⟨b, o, none⟩ := fun o => hb.cell hlt
  have f : ∀ o, w'.frozen? ⟨b, o, none⟩ = w.frozen? ⟨b, o, none⟩ := fun o => hb.frozen hlt
  exact ⟨(k _).trans h.c0, (k _).trans h.c1, (k _).trans h.c2, (k _).trans h.c3, (k _).trans h.c4, (k _).trans h.c5, (k _).trans h.c6, (f _).trans h.z0, (f _).trans h.z1, (f _).trans h.z2, (f _).trans h.z3, (f _).trans h.z4, (f _).trans h.z5, (f _).trans h.z6⟩

theorem C7.set {w : World} {b : Nat} {x0 x1 x2 x3 x4 x5 x6 : Value} (h : C7 w b x0 x1 x2 x3 x4 x5 x6) {a : Addr} {v : Value} (hne : b ≠ a.block) : C7 (w.setCell a v) b x0 x1 x2 x3 x4 x5 x6 := by
  have e := Below.heap_setCell w a v b hne
  have k : ∀ o, (w.setCell a v).cell? ⟨b, o, none⟩ = w.cell? ⟨b, o, none⟩ := fun o => World.cell?_of_block (w := w) e
  have f : ∀ o, (w.setCell a v).frozen? ⟨b, o, none⟩ = w.frozen? ⟨b, o, none⟩ := fun o => World.frozen?_of_block (w := w) e
  exact ⟨(k _).trans h.c0, (k _).trans h.c1, (k _).trans h.c2, (k _).trans h.c3, (k _).trans h.c4, (k _).trans h.c5, (k _).trans h.c6, (f _).trans h.z0, (f _).trans h.z1, (f _).trans h.z2, (f _).trans h.z3, (f _).trans h.z4, (f _).trans h.z5, (f _).trans h.z6⟩
theorem pl_0 : parseL [47, 48] = some [[48]] := by simp [parseL, partsL_cons, partsL_nil, decL_ne, decL_nil]
theorem pl_00 : parseL [47, 48, 48] = some [[48, 48]] := by simp [parseL, partsL_cons, partsL_nil, decL_ne, decL_nil]

/-- Parse at one part. -/
theorem parse_one (l p : List UInt8) (w : World) (h : parseL l = some [p]) (hl : l.length ≤ 1000) : Calls Tryd.prog 16 #[.string (bs l)] w fun r w' => ∃ b o c, r = .returned (.tuple #[.slice (some ⟨b, o, none⟩) 1 c, .int .i64 0]) ∧ w'.cell? ⟨b, o, none⟩ = some (.string (bs p)) ∧ Below w.heap.size w w' := by
  refine (parse_any (bs l) w (by rw [bs_size]; omega)).mono ?_
  rintro r w' ⟨v, rfl, hv, hb⟩
  rw [bs_list, h] at hv
  rw [bs_list, h]
  rcases hv with ⟨e, _⟩ | ⟨b, off, c, rfl, hc⟩
  · cases e
  · exact ⟨b, off, c, rfl, hc 0 (by show 0 < 1; omega), hb⟩

set_option maxRecDepth 100000 in
set_option maxHeartbeats 400000 in
theorem find_0 (b : Nat) (w : World) (hL : LF w b) : Calls Tryd.prog 8 #[fvV b, .string ⟨#[47, 48]⟩] w fun r w' => r = .returned (.tuple #[lfV, .int .i64 0]) ∧ Below w.heap.size w w' := by
  have hp : ∀ w', Calls Tryd.prog 16 #[.string ⟨#[47, 48]⟩] w' fun r w2 => ∃ b o c, r = .returned (.tuple #[.slice (some ⟨b, o, none⟩) 1 c, .int .i64 0]) ∧ w2.cell? ⟨b, o, none⟩ = some (.string ⟨#[48]⟩) ∧ Below w'.heap.size w' w2 := fun w' => parse_one [47, 48] [48] w' pl_0 (by decide)
  have hpl := fun w' => placeOf_0 b w'
  have hcp := copied_lf
  unfold fvV at hpl ⊢
  unfold lfV at hcp ⊢
  generalize hW : (w.alloc (.cells #[.int .i64 5, .bool false, .string ⟨#[]⟩, .int .i64 0, .string ⟨#[]⟩, .slice (some ⟨b, 0, none⟩) 1 1, .slice none 0 0] 28)).alloc (.cells #[.int .i64 0, .bool false, .string ⟨#[]⟩, .int .i64 0, .string ⟨#[]⟩, .slice none 0 0, .slice none 0 0] 28) = W
  have hbW : Below w.heap.size w W := by rw [← hW]; exact bl_a (bl_a (Below.refl _ _) _) _
  have hA : C7 W w.heap.size (.int .i64 5) (.bool false) (.string ⟨#[]⟩) (.int .i64 0) (.string ⟨#[]⟩) (.slice (some ⟨b, 0, none⟩) 1 1) (.slice none 0 0) := by
    rw [← hW]; exact (C7.new w _ _ _ _ _ _ _ _).below (bl_a (Below.refl _ _) _) (by simp)
  have hR : C7 W (w.heap.size + 1) (.int .i64 0) (.bool false) (.string ⟨#[]⟩) (.int .i64 0) (.string ⟨#[]⟩) (.slice none 0 0) (.slice none 0 0) := by
    rw [← hW]
    have := C7.new (w.alloc (.cells #[.int .i64 5, .bool false, .string ⟨#[]⟩, .int .i64 0, .string ⟨#[]⟩, .slice (some ⟨b, 0, none⟩) 1 1, .slice none 0 0] 28)) (.int .i64 0) (.bool false) (.string ⟨#[]⟩) (.int .i64 0) (.string ⟨#[]⟩) (.slice none 0 0) (.slice none 0 0) 28
    simpa using this
  have hLW := hL.below hbW
  have hsz : w.heap.size + 2 = W.heap.size := by rw [← hW]; simp
  go_enter Tryd.func8, Tryd.ntmps8
  go_wp2_with fail
  refine (hp _).mono ?_
  rintro r w1 ⟨b1, o1, c1, rfl, hcell, hb1⟩
  have hA1 := hA.below hb1 hA.lt
  have hR1 := hR.below hb1 hR.lt
  have hL1 := hLW.below hb1
  go_wp2_with fail
  refine wp_loop_rounds 3 ?_
  rw [rounds_succ]
  have hA1' := hA1
  have hR1' := hR1
  obtain ⟨a0, a1, a2, a3, a4, a5, a6, q0, q1, q2, q3, q4, q5, q6⟩ := hA1'
  go_wp2_with fail
  refine (hpl _).mono ?_
  rintro r w2 ⟨rfl, hb2⟩
  have hA2 := hA1.below hb2 hA1.lt
  have hR2 := hR1.below hb2 hR1.lt
  obtain ⟨l0, l1, l2, l3, l4, l5, l6⟩ := hL1.below hb2
  have hbel2 : Below w.heap.size w w2 := bl_t (bl_t hbW hb1) hb2
  have hs2 : w.heap.size + 1 < w2.heap.size := hR2.lt
  clear hA1 hR1' hR1 hL1 hcell hpl hp hLW hA hR hL a0 a1 a2 a3 a4 a5 a6 q0 q1 q2 q3 q4 q5 q6
  obtain ⟨a0, a1, a2, a3, a4, a5, a6, q0, q1, q2, q3, q4, q5, q6⟩ := hA2
  go_wp2_with fail
  rw [rounds_succ]
  go_wp2_with fail
  refine (hcp _).mono ?_
  rintro r w3 ⟨rfl, hb3⟩
  have hR3 := C7.below (b := w.heap.size + 1) (x0 := .int .i64 0) (x1 := .bool false) (x2 := .string ⟨#[]⟩) (x3 := .int .i64 0) (x4 := .string ⟨#[]⟩) (x5 := .slice none 0 0) (x6 := .slice none 0 0) (by with_reducible repeat (first | exact hR2 | refine C7.set ?_ (by simp))) hb3 (by simp; omega)
  have hbel3 : Below w.heap.size w w3 := bl_t (by with_reducible repeat (first | exact hbel2 | refine bl_s ?_ (by simp) _)) hb3
  clear hb3 hb2 hb1 hcp l0 l1 l2 l3 l4 l5 l6 a0 a1 a2 a3 a4 a5 a6 q0 q1 q2 q3 q4 q5 q6
  obtain ⟨a0, a1, a2, a3, a4, a5, a6, q0, q1, q2, q3, q4, q5, q6⟩ := hR3
  go_wp2
  refine bodyPost_ret (v := .tuple #[.agg #[.int .i64 2, .bool false, .string ⟨#[]⟩, .int .i64 0, .string ⟨#[]⟩, .slice none 0 0, .slice none 0 0], .int .i64 0]) (by simp [results, Tryd.results8, go_sem, *]) rfl ⟨rfl, ?_⟩
  with_reducible repeat (first | exact hbel3 | refine bl_s ?_ (by simp) _)

set_option maxRecDepth 100000 in
set_option maxHeartbeats 400000 in
theorem find_00 (b : Nat) (w : World) : Calls Tryd.prog 8 #[fvV b, .string ⟨#[47, 48, 48]⟩] w fun r w' => r = .returned (.tuple #[zeroV, .int .i64 71]) ∧ Below w.heap.size w w' := by
  have hp : ∀ w', Calls Tryd.prog 16 #[.string ⟨#[47, 48, 48]⟩] w' fun r w2 => ∃ b o c, r = .returned (.tuple #[.slice (some ⟨b, o, none⟩) 1 c, .int .i64 0]) ∧ w2.cell? ⟨b, o, none⟩ = some (.string ⟨#[48, 48]⟩) ∧ Below w'.heap.size w' w2 := fun w' => parse_one [47, 48, 48] [48, 48] w' pl_00 (by decide)
  have hpl := fun w' => placeOf_00 b w'
  unfold fvV at hpl ⊢
  unfold zeroV
  generalize hW : (w.alloc (.cells #[.int .i64 5, .bool false, .string ⟨#[]⟩, .int .i64 0, .string ⟨#[]⟩, .slice (some ⟨b, 0, none⟩) 1 1, .slice none 0 0] 28)).alloc (.cells #[.int .i64 0, .bool false, .string ⟨#[]⟩, .int .i64 0, .string ⟨#[]⟩, .slice none 0 0, .slice none 0 0] 28) = W
  have hbW : Below w.heap.size w W := by rw [← hW]; exact bl_a (bl_a (Below.refl _ _) _) _
  have hA : C7 W w.heap.size (.int .i64 5) (.bool false) (.string ⟨#[]⟩) (.int .i64 0) (.string ⟨#[]⟩) (.slice (some ⟨b, 0, none⟩) 1 1) (.slice none 0 0) := by
    rw [← hW]; exact (C7.new w _ _ _ _ _ _ _ _).below (bl_a (Below.refl _ _) _) (by simp)
  have hR : C7 W (w.heap.size + 1) (.int .i64 0) (.bool false) (.string ⟨#[]⟩) (.int .i64 0) (.string ⟨#[]⟩) (.slice none 0 0) (.slice none 0 0) := by
    rw [← hW]
    have := C7.new (w.alloc (.cells #[.int .i64 5, .bool false, .string ⟨#[]⟩, .int .i64 0, .string ⟨#[]⟩, .slice (some ⟨b, 0, none⟩) 1 1, .slice none 0 0] 28)) (.int .i64 0) (.bool false) (.string ⟨#[]⟩) (.int .i64 0) (.string ⟨#[]⟩) (.slice none 0 0) (.slice none 0 0) 28
    simpa using this
  go_enter Tryd.func8, Tryd.ntmps8
  go_wp2_with fail
  refine (hp _).mono ?_
  rintro r w1 ⟨b1, o1, c1, rfl, hcell, hb1⟩
  have hA1 := hA.below hb1 hA.lt
  have hR1 := hR.below hb1 hR.lt
  go_wp2_with fail
  refine wp_loop_rounds 3 ?_
  rw [rounds_succ]
  obtain ⟨a0, a1, a2, a3, a4, a5, a6, q0, q1, q2, q3, q4, q5, q6⟩ := hA1
  go_wp2_with fail
  refine (hpl _).mono ?_
  rintro r w2 ⟨rfl, hb2⟩
  have hR2 := hR1.below hb2 hR1.lt
  have hbel2 : Below w.heap.size w w2 := bl_t (bl_t hbW hb1) hb2
  clear hR1 hcell hpl hp hA hR a0 a1 a2 a3 a4 a5 a6 q0 q1 q2 q3 q4 q5 q6 hb1 hb2
  obtain ⟨a0, a1, a2, a3, a4, a5, a6, q0, q1, q2, q3, q4, q5, q6⟩ := hR2
  go_wp2
  refine bodyPost_ret (v := .tuple #[.agg #[.int .i64 0, .bool false, .string ⟨#[]⟩, .int .i64 0, .string ⟨#[]⟩, .slice none 0 0, .slice none 0 0], .int .i64 71]) (by simp [results, Tryd.results8, go_sem, *]) rfl ⟨rfl, ?_⟩
  with_reducible repeat (first | exact hbel2 | refine bl_s ?_ (by simp) _)
end Go.Proofs.YtkbkedknoahhgaaDoor
