/-
  What nat.upward makes of two numbers' limbs by the function that adds, and by the one that takes off. Conditions: the limbs are below 10^9; the carry lies in a block of its own.
-/
import Derived.Test.YtfhapeinfhjihaaGreatDoorA3
namespace Go.Proofs.YtfhapeinfhjihaaGreatDoor
open Go.RowKit

theorem info46 : (Tryz.prog.info? 76).map (fun i => (i.zero, i.size, i.bytes)) = some (some (.int .u32 0), 1, 4) := by kernel_rfl
/-- Limbs as values. -/
def vals (n : Nat) (f : Nat → Int) : List Value := (List.range n).map fun i => .int .u32 (f i)
theorem vals_length (n : Nat) (f : Nat → Int) : (vals n f).length = n := by simp [vals]
theorem vals_get (n : Nat) (f : Nat → Int) (i : Nat) (h : i < n) : (vals n f)[i]? = some (.int .u32 (f i)) := by simp [vals, h]
theorem vals_congr {n : Nat} {f g : Nat → Int} (h : ∀ i, i < n → f i = g i) : vals n f = vals n g := by
  apply List.ext_getElem?
  intro j
  by_cases hj : j < n
  · rw [vals_get n f j hj, vals_get n g j hj, h j hj]
  · rw [List.getElem?_eq_none (by rw [vals_length]; omega), List.getElem?_eq_none (by rw [vals_length]; omega)]
def upd (f : Nat → Int) (k : Nat) (x : Int) : Nat → Int := fun i => if i = k then x else f i
theorem vals_set (n : Nat) (f : Nat → Int) (k : Nat) (x : Int) : (vals n f).set k (.int .u32 x) = vals n (upd f k x) := by
  apply List.ext_getElem?
  intro j
  rw [List.getElem?_set]
  by_cases hj : j < n
  · rw [vals_get n (upd f k x) j hj]
    by_cases e : k = j
    · subst e; simp [upd, vals_length, hj]
    · rw [if_neg e, vals_get n f j hj]; simp [upd, show ¬ j = k by omega]
  · rw [List.getElem?_eq_none (l := vals n (upd f k x)) (by rw [vals_length]; omega)]
    split
    · simp [vals_length]; omega
    · exact List.getElem?_eq_none (by rw [vals_length]; omega)
/-- A row of limbs of the call's own, at the head of its block. -/
def Own (w : World) (B g n : Nat) (f : Nat → Int) : Prop := w.ownsRow B 76 1 (.slice (some ⟨g, 0, none⟩) n n) n (vals n f)
theorem Own.cell {w : World} {B g n : Nat} {f : Nat → Int} (h : Own w B g n f) (i : Nat) (hi : i < n) : w.cell? ⟨g, i, none⟩ = some (.int .u32 (f i)) := by
  rw [World.ownsRow.cellAt h i (by omega), vals_get n f i hi]
theorem Own.free {w : World} {B g n : Nat} {f : Nat → Int} (h : Own w B g n f) (i : Nat) : w.frozen? ⟨g, i, none⟩ = false := World.ownsRow.frozenAt h i
theorem Own.stored {w : World} {B g n : Nat} {f : Nat → Int} (h : Own w B g n f) (k : Nat) (x : Int) : Own (w.setCell ⟨g, k, none⟩ (.int .u32 x)) B g n (upd f k x) := by
  have := (World.ownsRow.stored h k (.int .u32 x)).1
  rw [vals_set] at this
  exact this
theorem Own.block {w : World} {B g n : Nat} {f : Nat → Int} (h : Own w B g n f) : B ≤ g ∧ g < w.heap.size := World.ownsRow.lt h g rfl
theorem Own.heap {w : World} {B g n : Nat} {f : Nat → Int} (h : Own w B g n f) : ∃ cur, w.heap[g]? = some (.cells cur 76 (0, 0)) := by
  rcases h.2 with ⟨h', _⟩ | ⟨g', cap', cur, h', _, hg, _⟩
  · simp at h'
  · simp only [Value.slice.injEq, Option.some.injEq, Addr.mk.injEq, and_true, true_and] at h'
    obtain ⟨rfl, rfl⟩ := h'
    exact ⟨cur, hg⟩
theorem Own.row {w : World} {B g n : Nat} {f : Nat → Int} (h : Own w B g n f) (lo : ∀ i, 0 ≤ f i) (hi : ∀ i, f i < 4294967296) (hm : n ≤ maxLen) : Row w (.slice (some ⟨g, 0, none⟩) n n) n f :=
  .inr ⟨g, 0, n, rfl, Nat.le_refl _, hm, ⟨fun i hi => by rw [Nat.zero_add]; exact h.cell i hi, lo, hi⟩⟩
theorem make_row (w : World) (n : Nat) (h : 4 * n ≤ 281474976710656) : (Instr.makeSlice 45 (.int .i64 (n : Int)) (.int .i64 (n : Int))).run Tryz.prog w = .ok (.slice (some ⟨w.heap.size, 0, none⟩) n n) (w.alloc (.cells (madeCells #[.int .u32 0] n) 76)) := by
  obtain ⟨i0, hi, hz0, hz1, hz2⟩ := info_parts info46
  have := run_make (P := Tryz.prog) w 45 76 i0 (.int .u32 0) Tryz.underlying45 hi hz0 .i64 .i64 (n : Int) (n : Int) (by omega) (by omega) (by rw [hz2]; omega) (by omega)
  rw [hz1] at this
  simpa [Value.cells] using this
theorem make_own (w : World) (B n : Nat) (hB : B ≤ w.heap.size) (h : n ≤ maxLen) : Own (w.alloc (.cells (madeCells #[.int .u32 0] n) 76)) B w.heap.size n (fun _ => 0) := by
  have := World.ownsRow_lit (base := B) (e := 76) (size := 1) w (madeCells #[.int .u32 0] n) n hB h (by have := size_madeCells #[Value.int .u32 0] (n * 1); simpa using this)
  rw [toList_madeCells_one] at this
  have e : List.replicate n (Value.int .u32 0) = vals n (fun _ => 0) := by
    apply List.ext_getElem?
    intro j
    by_cases hj : j < n
    · rw [vals_get n _ j hj]; simp [hj]
    · rw [List.getElem?_eq_none (by simp; omega), List.getElem?_eq_none (by rw [vals_length]; omega)]
  rw [e] at this
  exact this

/-- The limbs that come out, one behind the other, with what is carried. -/
def carr (nx : Int → Int → Int → Int) (f g : Nat → Int) : Nat → Int
  | 0 => 0
  | i + 1 => nx (f i) (g i) (carr nx f g i)
def outs (d nx : Int → Int → Int → Int) (f g : Nat → Int) (k : Nat) : Nat → Int := fun i => if i < k then d (f i) (g i) (carr nx f g i) else 0
theorem outs_succ (d nx : Int → Int → Int → Int) (f g : Nat → Int) (k : Nat) : upd (outs d nx f g k) k (d (f k) (g k) (carr nx f g k)) = outs d nx f g (k + 1) := by
  funext i
  unfold upd outs
  by_cases e : i = k
  · subst e; simp
  · by_cases h : i < k
    · simp [e, h, show i < k + 1 by omega]
    · simp [e, h, show ¬ i < k + 1 by omega]
def dS (x y s : Int) : Int := (x + y + s) % 1000000000
def nS (x y s : Int) : Int := (x + y + s) / 1000000000
def dD (x y s : Int) : Int := (1000000000 + x - y - s) % 1000000000
def nD (x y s : Int) : Int := 1 - (1000000000 + x - y - s) / 1000000000
/-- What such a function must keep to. -/
structure Steps (d nx : Int → Int → Int → Int) : Prop where
  dlo : ∀ x y s, 0 ≤ x → x < 1000000000 → 0 ≤ y → y < 1000000000 → 0 ≤ s → s ≤ 1 → 0 ≤ d x y s
  dhi : ∀ x y s, 0 ≤ x → x < 1000000000 → 0 ≤ y → y < 1000000000 → 0 ≤ s → s ≤ 1 → d x y s < 1000000000
  nlo : ∀ x y s, 0 ≤ x → x < 1000000000 → 0 ≤ y → y < 1000000000 → 0 ≤ s → s ≤ 1 → 0 ≤ nx x y s
  nhi : ∀ x y s, 0 ≤ x → x < 1000000000 → 0 ≤ y → y < 1000000000 → 0 ≤ s → s ≤ 1 → nx x y s ≤ 1
theorem stepsS : Steps dS nS := ⟨fun x y s _ _ _ _ _ _ => by unfold dS; omega, fun x y s _ _ _ _ _ _ => by unfold dS; omega, fun x y s _ _ _ _ _ _ => by unfold nS; omega, fun x y s _ _ _ _ _ _ => by unfold nS; omega⟩
theorem stepsD : Steps dD nD := ⟨fun x y s _ _ _ _ _ _ => by unfold dD; omega, fun x y s _ _ _ _ _ _ => by unfold dD; omega, fun x y s _ _ _ _ _ _ => by unfold nD; omega, fun x y s _ _ _ _ _ _ => by unfold nD; omega⟩
def All9 (f : Nat → Int) : Prop := ∀ i, 0 ≤ f i ∧ f i < 1000000000
theorem carr_bd {d nx : Int → Int → Int → Int} (hS : Steps d nx) {f g : Nat → Int} (hf : All9 f) (hg : All9 g) (k : Nat) : 0 ≤ carr nx f g k ∧ carr nx f g k ≤ 1 := by
  induction k with
  | zero => simp [carr]
  | succ k ih => exact ⟨hS.nlo _ _ _ (hf k).1 (hf k).2 (hg k).1 (hg k).2 ih.1 ih.2, hS.nhi _ _ _ (hf k).1 (hf k).2 (hg k).1 (hg k).2 ih.1 ih.2⟩
theorem outs_bd {d nx : Int → Int → Int → Int} (hS : Steps d nx) {f g : Nat → Int} (hf : All9 f) (hg : All9 g) (k : Nat) : All9 (outs d nx f g k) := by
  intro i
  have := carr_bd hS hf hg i
  unfold outs
  split
  · exact ⟨hS.dlo _ _ _ (hf i).1 (hf i).2 (hg i).1 (hg i).2 this.1 this.2, hS.dhi _ _ _ (hf i).1 (hf i).2 (hg i).1 (hg i).2 this.1 this.2⟩
  · omega
theorem limb_all {n : Nat} {f : Nat → Int} (h : Limbs n f) : All9 (limb n f) := by
  intro i
  unfold limb
  split
  · exact h i (by assumption)
  · omega

end Go.Proofs.YtfhapeinfhjihaaGreatDoor
