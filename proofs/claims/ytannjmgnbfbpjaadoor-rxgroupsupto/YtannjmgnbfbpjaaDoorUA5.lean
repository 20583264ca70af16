/-
  What utf.Count answers: how many bytes of a text do not follow others. No condition.
-/
import Derived.Test.YtannjmgnbfbpjaaDoorUM2
import Derived.Test.YtannjmgnbfbpjaaDoorV1
namespace Go.Proofs.YtannjmgnbfbpjaaDoor
open Go.RowKit

def heads8 (c : UInt8) : Bool := !folB (c.toNat : Int)
/-- How many bytes do not follow others. -/
def countS (l : List UInt8) : Int := (l.filter heads8).length
theorem countS_le (l : List UInt8) : 0 ≤ countS l ∧ countS l ≤ l.length := by
  unfold countS; exact ⟨by omega, by have := List.length_filter_le heads8 l; omega⟩
theorem take_snoc (s : ByteArray) (k : Nat) (h : k < s.size) : s.data.toList.take (k + 1) = s.data.toList.take k ++ [s[k]] := by
  rw [List.take_succ_eq_append_getElem (by simpa using h)]; rfl
theorem countS_fol (l : List UInt8) (c : UInt8) (h : folB (c.toNat : Int) = true) : countS (l ++ [c]) = countS l := by
  simp [countS, heads8, h]
theorem countS_new (l : List UInt8) (c : UInt8) (h : folB (c.toNat : Int) = false) : countS (l ++ [c]) = countS l + 1 := by
  simp [countS, heads8, h]

set_option maxHeartbeats 400000 in
theorem count_any (s : ByteArray) (w : World) (hs : s.size ≤ maxLen) :
    Calls Tryd.prog 49 #[.string s] w fun e w' => e = .returned (.int .i64 (countS s.data.toList)) ∧ w' = w := by
  unfold maxLen at hs
  go_enter Tryd.func49, Tryd.ntmps49
  go_wp2
  go_loop [3, 7] (fun n i => ∃ k : Nat, k ≤ s.size ∧ i = .int .i64 k ∧ n = .int .i64 (countS (s.data.toList.take k))) (fun _ i => s.size - (intOf i).toNat)
  case atStart => exact ⟨0, Nat.zero_le _, rfl, rfl⟩
  case round =>
    obtain ⟨k, hk, rfl, rfl⟩ := hrel
    have hd := countS_le (s.data.toList.take k)
    have hl : (s.data.toList.take k).length ≤ k := List.length_take_le _ _
    by_cases hlt : k < s.size
    · have hfol : ∀ w, Calls Tryd.prog 54 #[.int .u8 ((s[k]'hlt).toNat : Int)] w fun e w' => e = .returned (.bool (folB ((s[k]'hlt).toNat : Int))) ∧ w = w' := fun w => (follows_any _ w).mono fun e w' h => ⟨h.1, h.2.symm⟩
      cases hf : folB ((s[k]'hlt).toNat : Int)
      · have HS : Hid (countS (s.data.toList.take (k + 1)) = countS (s.data.toList.take k) + 1) := by
          show _ = _
          rw [take_snoc s k hlt]; exact countS_new _ _ hf
        rw [hf] at hfol
        clear hf
        go_wp2_with (go_at_call 54; refine (hfol _).mono ?_; rintro e w' ⟨rfl, rfl⟩)
        go_round
        case rel => exact ⟨k + 1, by omega, by go_num, by rw [HS.out]⟩
        case measure => simp [intOf]; omega
      · have HS : Hid (countS (s.data.toList.take (k + 1)) = countS (s.data.toList.take k)) := by
          show _ = _
          rw [take_snoc s k hlt]; exact countS_fol _ _ hf
        rw [hf] at hfol
        clear hf
        go_wp2_with (go_at_call 54; refine (hfol _).mono ?_; rintro e w' ⟨rfl, rfl⟩)
        go_round
        case rel => exact ⟨k + 1, by omega, by go_num, by rw [HS.out]⟩
        case measure => simp [intOf]; omega
    · go_wp2
      go_ret
      exact ⟨ret_int (by rw [List.take_of_length_le (by simp; omega)]), rfl⟩
end Go.Proofs.YtannjmgnbfbpjaaDoor
