/-
  The ends that UtfShortest tries, as they lie in memory. No condition of its own.
-/
import Derived.Test.YtibkhbmglnlgkaaDoorD1
namespace Go.Proofs.YtibkhbmglnlgkaaDoor
open Go.RowKit

/-- The ends as they lie in memory. -/
structure Ends (w : World) (H : Nat) : Prop where
  cell : ∀ e, e < 8 → w.cell? ⟨H + 1 + 1 + 1 + 1 + 1 + 1 + 1 + 1, e, none⟩ = some (.slice (some ⟨H + e, 0, none⟩) (endM e) (endM e))
  row : ∀ e, e < 8 → Row w (.slice (some ⟨H + e, 0, none⟩) (endM e) (endM e)) (endM e) (endF e)

theorem Ends.below {w w' : World} {H : Nat} (h : Ends w H) (hb : Below w.heap.size w w') : Ends w' H :=
  ⟨fun e he => by rw [hb.cell (cell_lt (h.cell e he))]; exact h.cell e he, fun e he => (h.row e he).below hb⟩

def endsWorld (w : World) : World :=
  (((((((((w).alloc (.cells #[] 5)).alloc (.cells #[.int .u8 128] 5)).alloc (.cells #[.int .u8 191] 5)).alloc (.cells #[.int .u8 160, .int .u8 128] 5)).alloc (.cells #[.int .u8 128, .int .u8 128] 5)).alloc
    (.cells #[.int .u8 144, .int .u8 128, .int .u8 128] 5)).alloc (.cells #[.int .u8 128, .int .u8 128, .int .u8 128] 5)).alloc (.cells #[.int .u8 160] 5)).alloc
    (.cells #[.slice (some ⟨w.heap.size, 0, none⟩) 0 0, .slice (some ⟨w.heap.size + 1, 0, none⟩) 1 1, .slice (some ⟨w.heap.size + 1 + 1, 0, none⟩) 1 1, .slice (some ⟨w.heap.size + 1 + 1 + 1, 0, none⟩) 2 2,
      .slice (some ⟨w.heap.size + 1 + 1 + 1 + 1, 0, none⟩) 2 2, .slice (some ⟨w.heap.size + 1 + 1 + 1 + 1 + 1, 0, none⟩) 3 3, .slice (some ⟨w.heap.size + 1 + 1 + 1 + 1 + 1 + 1, 0, none⟩) 3 3,
      .slice (some ⟨w.heap.size + 1 + 1 + 1 + 1 + 1 + 1 + 1, 0, none⟩) 1 1] 22)

theorem new_at (w : World) (C : Array Value) (t : TypeId) (j b : Nat) (v : Value) (hb : b = w.heap.size) (hv : C[j]? = some v) : (w.alloc (.cells C t)).cell? ⟨b, j, none⟩ = some v := by
  subst hb; rw [← hv]; exact World.cell?_alloc_mark w C t (0, 0) j
theorem old_at (w : World) (o : Obj) (a : Addr) (v : Value) (h : w.cell? a = some v) : (w.alloc o).cell? a = some v := by
  rw [((Below.refl w.heap.size w).alloc (Nat.le_refl _) o).cell (cell_lt h)]; exact h

theorem ends_cells (w : World) (e : Nat) (he : e < 8) : (endsWorld w).cell? ⟨w.heap.size + 1 + 1 + 1 + 1 + 1 + 1 + 1 + 1, e, none⟩ = some (.slice (some ⟨w.heap.size + e, 0, none⟩) (endM e) (endM e)) := by
  unfold endsWorld
  match e, he with
  | 0, _ => exact new_at _ _ _ _ _ _ (by simp) rfl
  | 1, _ => exact new_at _ _ _ _ _ _ (by simp) rfl
  | 2, _ => exact new_at _ _ _ _ _ _ (by simp) rfl
  | 3, _ => exact new_at _ _ _ _ _ _ (by simp) rfl
  | 4, _ => exact new_at _ _ _ _ _ _ (by simp) rfl
  | 5, _ => exact new_at _ _ _ _ _ _ (by simp) rfl
  | 6, _ => exact new_at _ _ _ _ _ _ (by simp) rfl
  | 7, _ => exact new_at _ _ _ _ _ _ (by simp) rfl

theorem row_of_cells (w : World) (b m : Nat) (g : Nat → Int) (lo : ∀ i, 0 ≤ g i) (hi : ∀ i, g i < 256) (hm : m ≤ 3) (h : ∀ i, i < m → w.cell? ⟨b, i, none⟩ = some (.int .u8 (g i))) : Row w (.slice (some ⟨b, 0, none⟩) m m) m g :=
  .inr ⟨b, 0, m, rfl, Nat.le_refl _, by simp [maxLen]; omega, ⟨fun i hi' => by rw [Nat.zero_add]; exact h i hi', lo, hi⟩⟩

theorem ends_rows (w : World) (e : Nat) (he : e < 8) (i : Nat) (hi : i < endM e) : (endsWorld w).cell? ⟨w.heap.size + e, i, none⟩ = some (.int .u8 (endF e i)) := by
  have h3 := endM_le e
  unfold endsWorld
  match e, he, i, hi with
  | 0, _, i, hi => simp [endM] at hi
  | 1, _, 0, _ => exact old_at _ _ _ _ (old_at _ _ _ _ (old_at _ _ _ _ (old_at _ _ _ _ (old_at _ _ _ _ (old_at _ _ _ _ (old_at _ _ _ _ (new_at _ _ _ _ _ _ (by simp) rfl)))))))
  | 2, _, 0, _ => exact old_at _ _ _ _ (old_at _ _ _ _ (old_at _ _ _ _ (old_at _ _ _ _ (old_at _ _ _ _ (old_at _ _ _ _ (new_at _ _ _ _ _ _ (by simp) rfl))))))
  | 3, _, 0, _ => exact old_at _ _ _ _ (old_at _ _ _ _ (old_at _ _ _ _ (old_at _ _ _ _ (old_at _ _ _ _ (new_at _ _ _ _ _ _ (by simp) rfl)))))
  | 3, _, 1, _ => exact old_at _ _ _ _ (old_at _ _ _ _ (old_at _ _ _ _ (old_at _ _ _ _ (old_at _ _ _ _ (new_at _ _ _ _ _ _ (by simp) rfl)))))
  | 4, _, 0, _ => exact old_at _ _ _ _ (old_at _ _ _ _ (old_at _ _ _ _ (old_at _ _ _ _ (new_at _ _ _ _ _ _ (by simp) rfl))))
  | 4, _, 1, _ => exact old_at _ _ _ _ (old_at _ _ _ _ (old_at _ _ _ _ (old_at _ _ _ _ (new_at _ _ _ _ _ _ (by simp) rfl))))
  | 5, _, 0, _ => exact old_at _ _ _ _ (old_at _ _ _ _ (old_at _ _ _ _ (new_at _ _ _ _ _ _ (by simp) rfl)))
  | 5, _, 1, _ => exact old_at _ _ _ _ (old_at _ _ _ _ (old_at _ _ _ _ (new_at _ _ _ _ _ _ (by simp) rfl)))
  | 5, _, 2, _ => exact old_at _ _ _ _ (old_at _ _ _ _ (old_at _ _ _ _ (new_at _ _ _ _ _ _ (by simp) rfl)))
  | 6, _, 0, _ => exact old_at _ _ _ _ (old_at _ _ _ _ (new_at _ _ _ _ _ _ (by simp) rfl))
  | 6, _, 1, _ => exact old_at _ _ _ _ (old_at _ _ _ _ (new_at _ _ _ _ _ _ (by simp) rfl))
  | 6, _, 2, _ => exact old_at _ _ _ _ (old_at _ _ _ _ (new_at _ _ _ _ _ _ (by simp) rfl))
  | 7, _, 0, _ => exact old_at _ _ _ _ (new_at _ _ _ _ _ _ (by simp) rfl)

theorem ends_new (w : World) : Ends (endsWorld w) w.heap.size ∧ Below w.heap.size w (endsWorld w) := by
  refine ⟨⟨ends_cells w, fun e he => row_of_cells _ _ _ _ (endF_lo e) (endF_hi e) (endM_le e) (ends_rows w e he)⟩, ?_⟩
  unfold endsWorld
  repeat (refine Below.alloc ?_ (by simp; try omega) _)
  exact Below.refl _ _

/-- Has one of the first j ends made it valid? -/
def anyB (gd : Nat) (f : Nat → Int) : Nat → Bool
  | 0 => false
  | j + 1 => anyB gd f j || (good (gd + endM j) (catF gd f (endF j))).2
theorem anyB_of (gd : Nat) (f : Nat → Int) : ∀ j e, e < j → (good (gd + endM e) (catF gd f (endF e))).2 = true → anyB gd f j = true
  | j + 1, e, h, hg => by
    unfold anyB
    by_cases z : e = j
    · subst z; rw [hg]; simp
    · rw [anyB_of gd f j e (by omega) hg]; rfl
end Go.Proofs.YtibkhbmglnlgkaaDoor
