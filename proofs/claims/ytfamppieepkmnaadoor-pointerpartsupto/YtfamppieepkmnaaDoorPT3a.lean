/-
  How a byte that does not stand for itself is written: pointer.tildeCode, pointer.percentCode. No condition.
-/
import Derived.Test.YtfamppieepkmnaaDoorPT2
import Derived.Laws.IdiomStrings
namespace Go.Proofs.YtfamppieepkmnaaDoor
open Go.RowKit
attribute [local go_sem] setCell_drewN alloc_drewN

def codeT (c : Int) : List UInt8 := if (c == 126) = true then [126, 48] else [126, 49]
set_option maxHeartbeats 400000 in
theorem tildeCode_any (c : Int) (w : World) :
    Calls Tryd.prog 29 #[.int .u8 c] w fun e w' => e = .returned (.string (bs (codeT c))) ∧ w' = w := by
  cases h1 : (c == 126)
  · go_enter Tryd.func29, Tryd.ntmps29
    go_wp2
    go_ret
    exact ⟨by rw [codeT, h1]; rfl, rfl⟩
  · go_enter Tryd.func29, Tryd.ntmps29
    go_wp2
    go_ret
    exact ⟨by rw [codeT, h1]; rfl, rfl⟩

def hexU (n : Int) : UInt8 := [48, 49, 50, 51, 52, 53, 54, 55, 56, 57, 65, 66, 67, 68, 69, 70].getD n.toNat 0
def codeP (c : Int) : List UInt8 := [37, hexU (c / 16), hexU (c % 16)]

theorem hexAt (n : Nat) (h : n < 16) : ((ByteArray.mk #[48, 49, 50, 51, 52, 53, 54, 55, 56, 57, 65, 66, 67, 68, 69, 70])[n]'h).toNat = (hexU (n : Int)).toNat := by
  have : n = 0 ∨ n = 1 ∨ n = 2 ∨ n = 3 ∨ n = 4 ∨ n = 5 ∨ n = 6 ∨ n = 7 ∨ n = 8 ∨ n = 9 ∨ n = 10 ∨ n = 11 ∨ n = 12 ∨ n = 13 ∨ n = 14 ∨ n = 15 := by omega
  rcases this with rfl | rfl | rfl | rfl | rfl | rfl | rfl | rfl | rfl | rfl | rfl | rfl | rfl | rfl | rfl | rfl <;> rfl
theorem hexAtI (x : Int) (h0 : 0 ≤ x) (h : x.toNat < 16) : ((ByteArray.mk #[48, 49, 50, 51, 52, 53, 54, 55, 56, 57, 65, 66, 67, 68, 69, 70])[x.toNat]'h).toNat = (hexU x).toNat := by
  rw [hexAt x.toNat h, Int.toNat_of_nonneg h0]
theorem conv3 (w : World) (x y z : UInt8) : (convert 41 9 (.slice (some ⟨w.heap.size, 0, none⟩) 3 3)).run Tryd.prog (w.alloc (.cells #[.int .u8 (x.toNat : Int), .int .u8 (y.toNat : Int), .int .u8 (z.toNat : Int)] 5)) = .ok (.string (bs [x, y, z])) (w.alloc (.cells #[.int .u8 (x.toNat : Int), .int .u8 (y.toNat : Int), .int .u8 (z.toNat : Int)] 5)) := by
  refine run_convert_bytes_back (P := Tryd.prog) _ 41 9 5 ⟨w.heap.size, 0, none⟩ 3 [x, y, z] Tryd.underlying41 Tryd.underlying5 Tryd.underlying9 (fun j hj => ?_)
  have hj : j < 3 := hj
  have : j = 0 ∨ j = 1 ∨ j = 2 := by omega
  rw [add_at]
  rcases this with rfl | rfl | rfl <;> (rw [World.cell?_alloc_at _ _ _ _ rfl]; rfl)

set_option maxRecDepth 100000 in
set_option maxHeartbeats 1600000 in
theorem percentCode_any (c : Int) (w : World) (h0 : 0 ≤ c) (h1 : c < 256) :
    Calls Tryd.prog 33 #[.int .u8 c] w fun e w' => e = .returned (.string (bs (codeP c))) ∧ Below w.heap.size w w' := by
  have m15 := u8m15 c h0 h1
  have b1 : 0 ≤ c / 16 ∧ c / 16 < 16 := by omega
  have b2 : 0 ≤ c % 16 ∧ c % 16 < 16 := by omega
  have e1 := hexAtI (c / 16) b1.1 (by omega)
  have e2 := hexAtI (c % 16) b2.1 (by omega)
  have hc : (convert 41 9 (.slice (some ⟨w.heap.size, 0, none⟩) 3 3)).run Tryd.prog (w.alloc (.cells #[.int .u8 37, .int .u8 ((hexU (c / 16)).toNat : Int), .int .u8 ((hexU (c % 16)).toNat : Int)] 5)).drew = .ok (.string (bs (codeP c))) (w.alloc (.cells #[.int .u8 37, .int .u8 ((hexU (c / 16)).toNat : Int), .int .u8 ((hexU (c % 16)).toNat : Int)] 5)).drew := conv3 w.drew 37 (hexU (c / 16)) (hexU (c % 16))
  go_enter Tryd.func33, Tryd.ntmps33
  go_wp2_with fail
  go_region
  all_goals (try go_wp2)
  all_goals go_ret
  all_goals exact ⟨rfl, by repeat (first | exact Below.refl _ _ | refine bl_d ?_ | refine bl_a ?_ _)⟩
end Go.Proofs.YtfamppieepkmnaaDoor
