/-
  What must come at any rate comes: heads answers true. No condition.
-/
import Derived.Test.YtpfbmkgknmlebaaGreatDoorA10
namespace Go.Proofs.YtpfbmkgknmlebaaGreatDoor
open Go.RowKit

def sT : ByteArray := { data := #[49, 48, 48, 48, 48, 48, 48, 48, 48, 48] }
theorem sT_digits : Digits sT := by
  intro i hi
  have h : i < 10 := hi
  match i, h with
  | 0, _ => exact ⟨by decide, by decide⟩
  | 1, _ => exact ⟨by decide, by decide⟩
  | 2, _ => exact ⟨by decide, by decide⟩
  | 3, _ => exact ⟨by decide, by decide⟩
  | 4, _ => exact ⟨by decide, by decide⟩
  | 5, _ => exact ⟨by decide, by decide⟩
  | 6, _ => exact ⟨by decide, by decide⟩
  | 7, _ => exact ⟨by decide, by decide⟩
  | 8, _ => exact ⟨by decide, by decide⟩
  | 9, _ => exact ⟨by decide, by decide⟩
theorem sT_dec : dec (dig sT) sT.size = 1000000000 := by decide

theorem can_one {x : Int} (x0 : 0 < x) (x1 : x < 1000000000) : Can 1 (fun _ => x) := ⟨fun _ _ => ⟨by show 0 ≤ x; omega, x1⟩, fun _ => by show x ≠ 0; omega⟩
theorem val_one (x : Int) : val (fun _ => x) 1 = x := by simp [val, pw_zero]
theorem num_lit1 (w : World) (x : Int) (x0 : 0 < x) (x1 : x < 1000000000) : Num (w.alloc (.cells #[.int .u32 x] 76)) (.slice (some ⟨w.heap.size, 0, none⟩) 1 1) x :=
  ⟨1, _, num_one w x (by omega) x1, can_one x0 x1, val_one x⟩
def two (x y : Int) : Nat → Int := fun i => if i = 0 then x else y
theorem num_lit2 (w : World) (x y : Int) (x0 : 0 ≤ x) (x1 : x < 1000000000) (y0 : 0 < y) (y1 : y < 1000000000) : Num (w.alloc (.cells #[.int .u32 x, .int .u32 y] 76)) (.slice (some ⟨w.heap.size, 0, none⟩) 2 2) (x + y * 1000000000) := by
  have bd : ∀ i, 0 ≤ two x y i ∧ two x y i < 1000000000 := fun i => by unfold two; split <;> omega
  refine ⟨2, two x y, .inr ⟨_, 0, 2, rfl, Nat.le_refl _, by simp [maxLen], ⟨fun i hi => ?_, fun i => (bd i).1, fun i => by have := (bd i).2; omega⟩⟩, ⟨fun i _ => bd i, fun _ => ?_⟩, ?_⟩
  · match i, hi with
    | 0, _ => simp [two]
    | 1, _ => simp [two]
  · show two x y 1 ≠ 0
    simp [two]; omega
  · simp [val, two, pw]
/-- A number below the worth of a place has no more limbs. -/
theorem can_le {n k : Nat} {f : Nat → Int} (h : Can n f) (hv : val f n < pw k) : n ≤ k := by
  by_cases z : n ≤ k
  · exact z
  · have h1 := can_ge h (by omega)
    have h2 := pw_mono (show k ≤ n - 1 by omega)
    omega

end Go.Proofs.YtpfbmkgknmlebaaGreatDoor
