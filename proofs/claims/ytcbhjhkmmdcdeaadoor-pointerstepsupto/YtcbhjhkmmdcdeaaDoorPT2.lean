/-
  What pointer.sought answers: the first place from some place on whose byte stands the test, or the end; at each test that the package hands in. Conditions: at most 2^62 bytes.
-/
import Derived.Test.YtcbhjhkmmdcdeaaDoorPT1
namespace Go.Proofs.YtcbhjhkmmdcdeaaDoor
open Go.RowKit
attribute [local go_sem] setCell_drewN alloc_drewN

set_option maxHeartbeats 400000 in
theorem sought_tilde (s : ByteArray) (i : Nat) (w : World) (hi : i ≤ s.size) (hm : s.size ≤ 4611686018427387904) :
    Calls Tryd.prog 37 #[.string s, .int .i64 i, .func (.func 31) #[] #[]] w fun r w' => r = .returned (.int .i64 (pass s.data.toList (fun c => !ndT c) i : Nat)) ∧ w' = w := by
  have hmI : (s.size : Int) ≤ 4611686018427387904 := by omega
  have hl := len_of s
  go_enter Tryd.func37, Tryd.ntmps37
  go_wp2
  go_loopw [1] (fun t wr => ∃ k : Nat, k ≤ s.size ∧ t = .int .i64 k ∧ Hid (pass s.data.toList (fun c => !ndT c) k = pass s.data.toList (fun c => !ndT c) i) ∧ wr = w) (fun t _ => s.size - (intOf t).toNat)
  case atStart => exact ⟨i, hi, rfl, rfl, rfl⟩
  case round =>
    obtain ⟨k, hk, rfl, HP, rfl⟩ := hrel
    by_cases hlt : k < s.size
    · have hI : (k : Int) < (s.size : Int) := by omega
      have hx := bx_at s k hlt
      have h1 := needsTilde_any (bx s.data.toList k) wr
      have hq : hasAt s.data.toList k (fun c => !ndT c) = (fun c => !ndT c) (bx s.data.toList k) := by simp [hasAt, hl, hlt]
      cases hp : (fun c => ndT c) (bx s.data.toList k)
      · simp only at hp hq
        rw [hp] at h1 hq
        have HR : Hid (pass s.data.toList (fun c => !ndT c) (k + 1) = pass s.data.toList (fun c => !ndT c) i) := by show _ = _; rw [← HP.out, pass_go (p := fun c => !ndT c) hq]
        clear HP hq hp
        generalize bx s.data.toList k = c at *
        go_wp2_with (go_at_call 31; refine h1.mono ?_; rintro r w2 ⟨rfl, rfl⟩)
        go_roundw
        case rel => exact ⟨k + 1, by omega, by go_num, HR, trivial⟩
        case measure => simp [intOf]; omega
      · simp only at hp hq
        rw [hp] at h1 hq
        have HR : Hid (pass s.data.toList (fun c => !ndT c) i = k) := by show _ = _; rw [← HP.out, pass_stop (p := fun c => !ndT c) hq]
        clear HP hq hp
        generalize bx s.data.toList k = c at *
        go_wp2_with (go_at_call 31; refine h1.mono ?_; rintro r w2 ⟨rfl, rfl⟩)
        go_ret
        exact ⟨ret_int (by rw [HR.out]), rfl⟩
    · have hI : ¬ (k : Int) < (s.size : Int) := by omega
      have HR : Hid (pass s.data.toList (fun c => !ndT c) i = k) := by show _ = _; rw [← HP.out, pass_stop (by simp [hasAt, hl, hlt])]
      clear HP
      go_wp2
      go_ret
      exact ⟨ret_int (by rw [HR.out]), rfl⟩

set_option maxHeartbeats 400000 in
theorem sought_is (s : ByteArray) (i : Nat) (m : Int) (b : Nat) (w : World) (hi : i ≤ s.size) (hm : s.size ≤ 4611686018427387904) (hb : w.cell? ⟨b, 0, none⟩ = some (.int .u8 m)) :
    Calls Tryd.prog 37 #[.string s, .int .i64 i, .func (.func 57) #[] #[.pointer (some ⟨b, 0, none⟩)]] w fun r w' => r = .returned (.int .i64 (pass s.data.toList (fun c => !(c == m)) i : Nat)) ∧ w' = w := by
  have hmI : (s.size : Int) ≤ 4611686018427387904 := by omega
  have hl := len_of s
  go_enter Tryd.func37, Tryd.ntmps37
  go_wp2
  go_loopw [1] (fun t wr => ∃ k : Nat, k ≤ s.size ∧ t = .int .i64 k ∧ Hid (pass s.data.toList (fun c => !(c == m)) k = pass s.data.toList (fun c => !(c == m)) i) ∧ wr = w) (fun t _ => s.size - (intOf t).toNat)
  case atStart => exact ⟨i, hi, rfl, rfl, rfl⟩
  case round =>
    obtain ⟨k, hk, rfl, HP, rfl⟩ := hrel
    by_cases hlt : k < s.size
    · have hI : (k : Int) < (s.size : Int) := by omega
      have hx := bx_at s k hlt
      have h1 := is1_any (bx s.data.toList k) m b wr hb
      have hq : hasAt s.data.toList k (fun c => !(c == m)) = (fun c => !(c == m)) (bx s.data.toList k) := by simp [hasAt, hl, hlt]
      cases hp : (fun c => (c == m)) (bx s.data.toList k)
      · simp only at hp hq
        rw [hp] at h1 hq
        have HR : Hid (pass s.data.toList (fun c => !(c == m)) (k + 1) = pass s.data.toList (fun c => !(c == m)) i) := by show _ = _; rw [← HP.out, pass_go (p := fun c => !(c == m)) hq]
        clear HP hq hp
        generalize bx s.data.toList k = c at *
        go_wp2_with (go_at_call 57; refine h1.mono ?_; rintro r w2 ⟨rfl, rfl⟩)
        go_roundw
        case rel => exact ⟨k + 1, by omega, by go_num, HR, trivial⟩
        case measure => simp [intOf]; omega
      · simp only at hp hq
        rw [hp] at h1 hq
        have HR : Hid (pass s.data.toList (fun c => !(c == m)) i = k) := by show _ = _; rw [← HP.out, pass_stop (p := fun c => !(c == m)) hq]
        clear HP hq hp
        generalize bx s.data.toList k = c at *
        go_wp2_with (go_at_call 57; refine h1.mono ?_; rintro r w2 ⟨rfl, rfl⟩)
        go_ret
        exact ⟨ret_int (by rw [HR.out]), rfl⟩
    · have hI : ¬ (k : Int) < (s.size : Int) := by omega
      have HR : Hid (pass s.data.toList (fun c => !(c == m)) i = k) := by show _ = _; rw [← HP.out, pass_stop (by simp [hasAt, hl, hlt])]
      clear HP
      go_wp2
      go_ret
      exact ⟨ret_int (by rw [HR.out]), rfl⟩
end Go.Proofs.YtcbhjhkmmdcdeaaDoor
