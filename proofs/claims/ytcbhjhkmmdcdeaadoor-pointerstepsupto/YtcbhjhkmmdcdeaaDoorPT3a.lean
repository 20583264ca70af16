/-
  How a byte that does not stand for itself is written: pointer.tildeCode, pointer.percentCode. No condition.
-/
import Derived.Test.YtcbhjhkmmdcdeaaDoorPT2
import Derived.Laws.IdiomStrings
namespace Go.Proofs.YtcbhjhkmmdcdeaaDoor
open Go.RowKit
attribute [local go_sem] setCell_drewN alloc_drewN

def codeT (c : Int) : List UInt8 := if (c == 126) = true then [126, 48] else [126, 49]
set_option maxHeartbeats 400000 in
theorem tildeCode_any (c : Int) (w : World) :
    Calls Tryd.prog 32 #[.int .u8 c] w fun e w' => e = .returned (.string (bs (codeT c))) ∧ w' = w := by
  cases h1 : (c == 126)
  · go_enter Tryd.func32, Tryd.ntmps32
    go_wp2
    go_ret
    exact ⟨by rw [codeT, h1]; rfl, rfl⟩
  · go_enter Tryd.func32, Tryd.ntmps32
    go_wp2
    go_ret
    exact ⟨by rw [codeT, h1]; rfl, rfl⟩

def hexU (n : Int) : UInt8 := [48, 49, 50, 51, 52, 53, 54, 55, 56, 57, 65, 66, 67, 68, 69, 70].getD n.toNat 0
def codeP (c : Int) : List UInt8 := [37, hexU (c / 16), hexU (c % 16)]

theorem hexAt (n : Nat) (h : n < 16) : ((ByteArray.mk #[48, 49, 50, 51, 52, 53, 54, 55, 56, 57, 65, 66, 67, 68, 69, 70])[n]'h).toNat = (hexU (n : Int)).toNat := by
  have : n = 0 ∨ n = 1 ∨ n = 2 ∨ n = 3 ∨ n = 4 ∨ n = 5 ∨ n = 6 ∨ n = 7 ∨ n = 8 ∨ n = 9 ∨ n = 10 ∨ n = 11 ∨ n = 12 ∨ n = 13 ∨ n = 14 ∨ n = 15 := by omega
  rcases this with rfl | rfl | rfl | rfl | rfl | rfl | rfl | rfl | rfl | rfl | rfl | rfl | rfl | rfl | rfl | rfl <;> rfl
theorem hexAtI (x : Int) (h0 : 0 ≤ x) (h : x.toNat < 16) : ((ByteArray.mk #[48, 49, 50, 51, 52, 53, 54, 55, 56, 57, 65, 66, 67, 68, 69, 70])[x.toNat]'h).toNat = (hexU x).toNat := by
  rw [hexAt x.toNat h, Int.toNat_of_nonneg h0]
theorem conv3 (w : World) (x y z : UInt8) : (convert 58 9 (.slice (some ⟨w.heap.size, 0, none⟩) 3 3)).run Tryd.prog (w.alloc (.cells #[.int .u8 (x.toNat : Int), .int .u8 (y.toNat : Int), .int .u8 (z.toNat : Int)] 5)) = .ok (.string (bs [x, y, z])) (w.alloc (.cells #[.int .u8 (x.toNat : Int), .int .u8 (y.toNat : Int), .int .u8 (z.toNat : Int)] 5)) := by
  refine run_convert_bytes_back (P := Tryd.prog) _ 58 9 5 ⟨w.heap.size, 0, none⟩ 3 [x, y, z] Tryd.underlying58 Tryd.underlying5 Tryd.underlying9 (fun j hj => ?_)
  have hj : j < 3 := hj
  have : j = 0 ∨ j = 1 ∨ j = 2 := by omega
  rw [add_at]
  rcases this with rfl | rfl | rfl <;> (rw [World.cell?_alloc_at _ _ _ _ rfl]; rfl)

end Go.Proofs.YtcbhjhkmmdcdeaaDoor
