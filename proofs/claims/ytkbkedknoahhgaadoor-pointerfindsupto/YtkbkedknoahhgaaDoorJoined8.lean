/-
  What pointer.sought answers: the first place from some place on whose byte stands the test, or the end; at each test that the package hands in. Conditions: at most 2^62 bytes.
  How a byte that does not stand for itself is written: pointer.tildeCode, pointer.percentCode. No condition.
-/
import Derived.Test.YtkbkedknoahhgaaDoorJoined7
import Derived.Laws.IdiomStrings
namespace Go.Proofs.YtkbkedknoahhgaaDoor
open Go.RowKit
attribute [local go_sem] setCell_drewN alloc_drewN

set_option maxHeartbeats 400000 in
theorem sought_tilde (s : ByteArray) (i : Nat) (w : World) (hi : i ≤ s.size) (hm : s.size ≤ 4611686018427387904) :
    Calls Tryd.prog 29 #[.string s, .int .i64 i, .func (.func 59) #[] #[]] w fun r w' => r = .returned (.int .i64 (pass s.data.toList (fun c => !ndT c) i : Nat)) ∧ w' = w := by
  have hmI : (s.size : Int) ≤ 4611686018427387904 := by omega
  have hl := len_of s
  go_enter Tryd.func29, Tryd.ntmps29
  go_wp2
  go_loopw [1] (fun t wr => ∃ k : Nat, k ≤ s.size ∧ t = .int .i64 k ∧ Hid (pass s.data.toList (fun c => !ndT c) k = pass s.data.toList (fun c => !ndT c) i) ∧ wr = w) (fun t _ => s.size - (intOf t).toNat)
  case atStart => exact ⟨i, hi, rfl, rfl, rfl⟩
  case round =>
    obtain ⟨k, hk, rfl, HP, rfl⟩ := hrel
    by_cases hlt : k < s.size
    · have hI : (k : Int) < (s.size : Int) := by omega
      have hx := bx_at s k hlt
      have h1 := needsTilde_any (bx s.data.toList k) wr
      have hq : hasAt s.data.toList k (fun c => !ndT c) = (fun c => !ndT c) (bx s.data.toList k) := by simp [hasAt, hl, hlt]
      cases hp : (fun c => ndT c) (bx s.data.toList k)
      · simp only at hp hq
        rw [hp] at h1 hq
        have HR : Hid (pass s.data.toList (fun c => !ndT c) (k + 1) = pass s.data.toList (fun c => !ndT c) i) := by show _ = _; rw [← HP.out, pass_go (p := fun c => !ndT c) hq]
        clear HP hq hp
        generalize bx s.data.toList k = c at *
        go_wp2_with (go_at_call 59; refine h1.mono ?_; rintro r w2 ⟨rfl, rfl⟩)
        go_roundw
        case rel => exact ⟨k + 1, by omega, by go_num, HR, trivial⟩
        case measure => simp [intOf]; omega
      · simp only at hp hq
        rw [hp] at h1 hq
        have HR : Hid (pass s.data.toList (fun c => !ndT c) i = k) := by show _ = _; rw [← HP.out, pass_stop (p := fun c => !ndT c) hq]
        clear HP hq hp
        generalize bx s.data.toList k = c at *
        go_wp2_with (go_at_call 59; refine h1.mono ?_; rintro r w2 ⟨rfl, rfl⟩)
        go_ret
        exact ⟨ret_int (by rw [HR.out]), rfl⟩
    · have hI : ¬ (k : Int) < (s.size : Int) := by omega
      have HR : Hid (pass s.data.toList (fun c => !ndT c) i = k) := by show _ = _; rw [← HP.out, pass_stop (by simp [hasAt, hl, hlt])]
      clear HP
      go_wp2
      go_ret
      exact ⟨ret_int (by rw [HR.out]), rfl⟩

set_option maxHeartbeats 400000 in
theorem sought_is (s : ByteArray) (i : Nat) (m : Int) (b : Nat) (w : World) (hi : i ≤ s.size) (hm : s.size ≤ 4611686018427387904) (hb : w.cell? ⟨b, 0, none⟩ = some (.int .u8 m)) :
    Calls Tryd.prog 29 #[.string s, .int .i64 i, .func (.func 49) #[] #[.pointer (some ⟨b, 0, none⟩)]] w fun r w' => r = .returned (.int .i64 (pass s.data.toList (fun c => !(c == m)) i : Nat)) ∧ w' = w := by
  have hmI : (s.size : Int) ≤ 4611686018427387904 := by omega
  have hl := len_of s
  go_enter Tryd.func29, Tryd.ntmps29
  go_wp2
  go_loopw [1] (fun t wr => ∃ k : Nat, k ≤ s.size ∧ t = .int .i64 k ∧ Hid (pass s.data.toList (fun c => !(c == m)) k = pass s.data.toList (fun c => !(c == m)) i) ∧ wr = w) (fun t _ => s.size - (intOf t).toNat)
  case atStart => exact ⟨i, hi, rfl, rfl, rfl⟩
  case round =>
    obtain ⟨k, hk, rfl, HP, rfl⟩ := hrel
    by_cases hlt : k < s.size
    · have hI : (k : Int) < (s.size : Int) := by omega
      have hx := bx_at s k hlt
      have h1 := is1_any (bx s.data.toList k) m b wr hb
      have hq : hasAt s.data.toList k (fun c => !(c == m)) = (fun c => !(c == m)) (bx s.data.toList k) := by simp [hasAt, hl, hlt]
      cases hp : (fun c => (c == m)) (bx s.data.toList k)
      · simp only at hp hq
        rw [hp] at h1 hq
        have HR : Hid (pass s.data.toList (fun c => !(c == m)) (k + 1) = pass s.data.toList (fun c => !(c == m)) i) := by show _ = _; rw [← HP.out, pass_go (p := fun c => !(c == m)) hq]
        clear HP hq hp
        generalize bx s.data.toList k = c at *
        go_wp2_with (go_at_call 49; refine h1.mono ?_; rintro r w2 ⟨rfl, rfl⟩)
        go_roundw
        case rel => exact ⟨k + 1, by omega, by go_num, HR, trivial⟩
        case measure => simp [intOf]; omega
      · simp only at hp hq
        rw [hp] at h1 hq
        have HR : Hid (pass s.data.toList (fun c => !(c == m)) i = k) := by show _ = _; rw [← HP.out, pass_stop (p := fun c => !(c == m)) hq]
        clear HP hq hp
        generalize bx s.data.toList k = c at *
        go_wp2_with (go_at_call 49; refine h1.mono ?_; rintro r w2 ⟨rfl, rfl⟩)
        go_ret
        exact ⟨ret_int (by rw [HR.out]), rfl⟩
    · have hI : ¬ (k : Int) < (s.size : Int) := by omega
      have HR : Hid (pass s.data.toList (fun c => !(c == m)) i = k) := by show _ = _; rw [← HP.out, pass_stop (by simp [hasAt, hl, hlt])]
      clear HP
      go_wp2
      go_ret
      exact ⟨ret_int (by rw [HR.out]), rfl⟩
end Go.Proofs.YtkbkedknoahhgaaDoor

namespace Go.Proofs.YtkbkedknoahhgaaDoor
open Go.RowKit
attribute [local go_sem] setCell_drewN alloc_drewN

def codeT (c : Int) : List UInt8 := if (c == 126) = true then [126, 48] else [126, 49]
set_option maxHeartbeats 400000 in
theorem tildeCode_any (c : Int) (w : World) :
    Calls Tryd.prog 60 #[.int .u8 c] w fun e w' => e = .returned (.string (bs (codeT c))) ∧ w' = w := by
  cases h1 : (c == 126)
  · go_enter Tryd.func60, Tryd.ntmps60
    go_wp2
    go_ret
    exact ⟨by rw [codeT, h1]; rfl, rfl⟩
  · go_enter Tryd.func60, Tryd.ntmps60
    go_wp2
    go_ret
    exact ⟨by rw [codeT, h1]; rfl, rfl⟩

def hexU (n : Int) : UInt8 := [48, 49, 50, 51, 52, 53, 54, 55, 56, 57, 65, 66, 67, 68, 69, 70].getD n.toNat 0
def codeP (c : Int) : List UInt8 := [37, hexU (c / 16), hexU (c % 16)]

theorem hexAt (n : Nat) (h : n < 16) : ((ByteArray.mk #[48, 49, 50, 51, 52, 53, 54, 55, 56, 57, 65, 66, 67, 68, 69, 70])[n]'h).toNat = (hexU (n : Int)).toNat := by
  have : n = 0 ∨ n = 1 ∨ n = 2 ∨ n = 3 ∨ n = 4 ∨ n = 5 ∨ n = 6 ∨ n = 7 ∨ n = 8 ∨ n = 9 ∨ n = 10 ∨ n = 11 ∨ n = 12 ∨ n = 13 ∨ n = 14 ∨ n = 15 := by omega
  rcases this with rfl | rfl | rfl | rfl | rfl | rfl | rfl | rfl | rfl | rfl | rfl | rfl | rfl | rfl | rfl | rfl <;> rfl
theorem hexAtI (x : Int) (h0 : 0 ≤ x) (h : x.toNat < 16) : ((ByteArray.mk #[48, 49, 50, 51, 52, 53, 54, 55, 56, 57, 65, 66, 67, 68, 69, 70])[x.toNat]'h).toNat = (hexU x).toNat := by
  rw [hexAt x.toNat h, Int.toNat_of_nonneg h0]
theorem conv3 (w : World) (x y z : UInt8) : (convert 65 9 (.slice (some ⟨w.heap.size, 0, none⟩) 3 3)).run Tryd.prog (w.alloc (.cells #[.int .u8 (x.toNat : Int), .int .u8 (y.toNat : Int), .int .u8 (z.toNat : Int)] 5)) = .ok (.string (bs [x, y, z])) (w.alloc (.cells #[.int .u8 (x.toNat : Int), .int .u8 (y.toNat : Int), .int .u8 (z.toNat : Int)] 5)) := by
  refine run_convert_bytes_back (P := Tryd.prog) _ 65 9 5 ⟨w.heap.size, 0, none⟩ 3 [x, y, z] Tryd.underlying65 Tryd.underlying5 Tryd.underlying9 (fun j hj => ?_)
  have hj : j < 3 := hj
  have : j = 0 ∨ j = 1 ∨ j = 2 := by omega
  rw [add_at]
  rcases this with rfl | rfl | rfl <;> (rw [World.cell?_alloc_at _ _ _ _ rfl]; rfl)

end Go.Proofs.YtkbkedknoahhgaaDoor
