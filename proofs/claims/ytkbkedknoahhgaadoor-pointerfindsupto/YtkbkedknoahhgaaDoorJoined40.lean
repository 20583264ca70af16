/-
  Blocks of seven cells, and a value beside a block that is written. No condition of its own.
-/
import Derived.Test.YtkbkedknoahhgaaDoorJoined28
import Derived.Deep.RegionHeld3
namespace Go.Proofs.YtkbkedknoahhgaaDoor
open Go.RowKit

theorem C7.bel {w w' : World} {b : Nat} {x0 x1 x2 x3 x4 x5 x6 : Value} (h : C7 w b x0 x1 x2 x3 x4 x5 x6) (hb : Below w.heap.size w w') : C7 w' b x0 x1 x2 x3 x4 x5 x6 := h.below hb h.lt
theorem C7.dr {w : World} {b : Nat} {x0 x1 x2 x3 x4 x5 x6 : Value} (h : C7 w b x0 x1 x2 x3 x4 x5 x6) : C7 w.drew b x0 x1 x2 x3 x4 x5 x6 := h.blk rfl
theorem C7.drN {w : World} {b : Nat} {x0 x1 x2 x3 x4 x5 x6 : Value} (h : C7 w b x0 x1 x2 x3 x4 x5 x6) (n : Nat) : C7 (w.drewN n) b x0 x1 x2 x3 x4 x5 x6 := h.blk rfl
theorem hidI {p : Prop} (h : p) : Hid p := h
theorem bl_s7 {b o : Nat} {w w' : World} {v : Value} (h : Below w.heap.size w w') (hb : w.heap.size ≤ b) : Below w.heap.size w (w'.setCell ⟨b, o, none⟩ v) := bl_s h hb v
theorem C7.got {w w' : World} (b : Nat) (x0 x1 x2 x3 x4 x5 x6 : Value) {P : Prop} (hb : Below w.heap.size w w') (h : C7 w b x0 x1 x2 x3 x4 x5 x6) (k : C7 w' b x0 x1 x2 x3 x4 x5 x6 → P) : P := k (h.bel hb)
/-- All blocks but one are as they were. -/
def Off (xb : Nat) (w w' : World) : Prop := ∀ b, b ≠ xb → b < w.heap.size → w'.heap[b]? = w.heap[b]?
theorem Off.refl (xb : Nat) (w : World) : Off xb w w := fun _ _ _ => rfl
theorem Off.set {xb : Nat} {w w' : World} (h : Off xb w w') (o : Nat) (v : Value) : Off xb w (w'.setCell ⟨xb, o, none⟩ v) := fun b hb hl => by
  rw [Below.heap_setCell _ _ _ _ hb]; exact h b hb hl
theorem Off.dr {xb : Nat} {w w' : World} (h : Off xb w w') : Off xb w w'.drew := h
theorem Off.drN {xb : Nat} {w w' : World} (h : Off xb w w') (n : Nat) : Off xb w (w'.drewN n) := h
theorem Off.al1 (xb : Nat) (w : World) (o : Obj) : Off xb w (w.alloc o) := fun b _ hl => (bl_a (Below.refl _ w) o).block b hl
theorem VI.over {w w' : World} {X : Nat → Prop} {v : JV} {f : Nat → Value} {xb : Nat} (h : VI w X v f) (ho : Off xb w w') (hx : xb < w.heap.size → X xb) : VI w' (fun _ => False) v f :=
  h.carry fun b hb hl => ⟨ho b (fun e => by subst e; exact hb (hx hl)) hl, fun h => h⟩
/-- Seven values as a function. -/
def f7 (x0 x1 x2 x3 x4 x5 x6 : Value) : Nat → Value
  | 0 => x0 | 1 => x1 | 2 => x2 | 3 => x3 | 4 => x4 | 5 => x5 | _ => x6
theorem VI.to7 {w : World} {X : Nat → Prop} {v : JV} {f : Nat → Value} (h : VI w X v f) {x0 x1 x2 x3 x4 x5 x6 : Value} (z0 : f 0 = x0) (z1 : f 1 = x1) (z2 : f 2 = x2) (z3 : f 3 = x3) (z4 : f 4 = x4) (z5 : f 5 = x5) (z6 : f 6 = x6) : VI w X v (f7 x0 x1 x2 x3 x4 x5 x6) :=
  h.congr fun j hj => by
    have : j = 0 ∨ j = 1 ∨ j = 2 ∨ j = 3 ∨ j = 4 ∨ j = 5 ∨ j = 6 := by omega
    rcases this with rfl | rfl | rfl | rfl | rfl | rfl | rfl
    · exact z0.symm
    · exact z1.symm
    · exact z2.symm
    · exact z3.symm
    · exact z4.symm
    · exact z5.symm
    · exact z6.symm
theorem C7.st {w : World} {b : Nat} {z0 z1 z2 z3 z4 z5 z6 : Value} (h : C7 w b z0 z1 z2 z3 z4 z5 z6) (x0 x1 x2 x3 x4 x5 x6 : Value) :
    C7 (((((((w.setCell ⟨b, 0, none⟩ x0).setCell ⟨b, 1, none⟩ x1).setCell ⟨b, 2, none⟩ x2).setCell ⟨b, 3, none⟩ x3).setCell ⟨b, 4, none⟩ x4).setCell ⟨b, 5, none⟩ x5).setCell ⟨b, 6, none⟩ x6) b x0 x1 x2 x3 x4 x5 x6 := by
  obtain ⟨a0, a1, a2, a3, a4, a5, a6, q0, q1, q2, q3, q4, q5, q6⟩ := h
  constructor <;> simp [go_sem, *]
theorem Off.st (w : World) (b : Nat) (x0 x1 x2 x3 x4 x5 x6 : Value) : Off b w (((((((w.setCell ⟨b, 0, none⟩ x0).setCell ⟨b, 1, none⟩ x1).setCell ⟨b, 2, none⟩ x2).setCell ⟨b, 3, none⟩ x3).setCell ⟨b, 4, none⟩ x4).setCell ⟨b, 5, none⟩ x5).setCell ⟨b, 6, none⟩ x6) :=
  ((((((((Off.refl b w).set 0 x0).set 1 x1).set 2 x2).set 3 x3).set 4 x4).set 5 x5).set 6 x6)
/-- What stands behind a Find that was stored. -/
structure Fin (W W3 : World) (xb : Nat) (T : JV) (x0 x1 x2 x3 x4 x5 x6 : Value) : Prop where
  bel : Below W.heap.size W W3
  box : C7 W3 xb x0 x1 x2 x3 x4 x5 x6
  tree : VI W3 (fun _ => False) T (f7 x0 x1 x2 x3 x4 x5 x6)
/-- The block was laid behind the call. -/
theorem Fin.late {W w4 : World} {X : Nat → Prop} {T : JV} {x0 x1 x2 x3 x4 x5 x6 : Value} (hb : Below W.heap.size W w4) (hv : VI w4 X T (f7 x0 x1 x2 x3 x4 x5 x6)) (t : TypeId) : Fin W (w4.alloc (.cells #[x0, x1, x2, x3, x4, x5, x6] t)) w4.heap.size T x0 x1 x2 x3 x4 x5 x6 :=
  ⟨bl_a hb _, C7.new _ _ _ _ _ _ _ _ _, (hv.over (Off.al1 w4.heap.size w4 _) (fun h => absurd h (Nat.lt_irrefl _)))⟩
/-- The block was laid ahead of the call. -/
theorem Fin.early {W w w' w4 : World} {b : Nat} {T : JV} {x0 x1 x2 x3 x4 x5 x6 z0 z1 z2 z3 z4 z5 z6 : Value} (hb : Below W.heap.size W w4) (hv : VI w4 (fun b => w.heap.size ≤ b ∧ b < w'.heap.size) T (f7 x0 x1 x2 x3 x4 x5 x6)) (hc : C7 w4 b z0 z1 z2 z3 z4 z5 z6) (h1 : w.heap.size ≤ W.heap.size) (h2 : W.heap.size ≤ b) (h3 : C7 w' b z0 z1 z2 z3 z4 z5 z6) :
    Fin W (((((((w4.setCell ⟨b, 0, none⟩ x0).setCell ⟨b, 1, none⟩ x1).setCell ⟨b, 2, none⟩ x2).setCell ⟨b, 3, none⟩ x3).setCell ⟨b, 4, none⟩ x4).setCell ⟨b, 5, none⟩ x5).setCell ⟨b, 6, none⟩ x6) b T x0 x1 x2 x3 x4 x5 x6 :=
  ⟨bl_s7 (bl_s7 (bl_s7 (bl_s7 (bl_s7 (bl_s7 (bl_s7 hb h2) h2) h2) h2) h2) h2) h2, hc.st _ _ _ _ _ _ _, hv.over (Off.st _ _ _ _ _ _ _ _ _) (fun _ => ⟨Nat.le_trans h1 h2, h3.lt⟩)⟩
/-- pointer.Find, where its answer lies: outside what was laid between two worlds. -/
theorem find_far (v : JV) (f : Nat → Value) (s : List UInt8) (w w' : World) (hv : VI w (fun _ => False) v f) (hs : Sm v) (hp : s.length ≤ 1099511627776) (hb : Below w.heap.size w w') :
    Calls Tryd.prog 8 #[.agg #[f 0, f 1, f 2, f 3, f 4, f 5, f 6], .string (bs s)] w' fun r w2 => ∃ x : Nat → Value, r = .returned (.tuple #[.agg #[x 0, x 1, x 2, x 3, x 4, x 5, x 6], .int .i64 (findR v s).2]) ∧ VI w2 (fun b => w.heap.size ≤ b ∧ b < w'.heap.size) (findR v s).1 x ∧ Below w'.heap.size w' w2 := by
  have := find_x v f (bs s) w' (fun b => w.heap.size ≤ b ∧ b < w'.heap.size) (fun b h => h.2) (hv.carry fun b _ hl => ⟨hb.block b hl, fun h => by omega⟩) hs (by rw [bs_size]; exact hp)
  rw [bs_list] at this
  exact this
end Go.Proofs.YtkbkedknoahhgaaDoor
