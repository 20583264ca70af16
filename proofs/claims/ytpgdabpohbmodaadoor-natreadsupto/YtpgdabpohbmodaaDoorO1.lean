/-
  What nat.allDigits and nat.Of answer of texts that are no digits, or of too many or no bytes. No condition.
-/
import Derived.Test.YtpgdabpohbmodaaDoorNC
namespace Go.Proofs.YtpgdabpohbmodaaDoor
open Go.RowKit

set_option maxHeartbeats 400000 in
theorem allDigits_bad (s : ByteArray) (w : World) (hs : s.size ≤ 1048576) (hd : ¬ Digits s) :
    Calls Tryd.prog 13 #[.string s] w fun e w' => e = .returned (.bool false) ∧ w = w' := by
  have HD : Hid (¬ Digits s) := hd
  clear hd
  go_enter Tryd.func13, Tryd.ntmps13
  go_wp2
  go_loop [6] (fun i => ∃ k : Nat, k ≤ s.size ∧ i = .int .i64 k ∧ Hid (∀ j, j < k → 48 ≤ chr s j ∧ chr s j ≤ 57)) (fun i => s.size - (intOf i).toNat)
  case atStart => exact ⟨0, Nat.zero_le _, rfl, fun j hj => absurd hj (by omega)⟩
  case round =>
    obtain ⟨k, hk, rfl, HK⟩ := hrel
    by_cases hlt : k < s.size
    · have hI : (k : Int) < (s.size : Int) := by omega
      have hx := chr_at s k hlt
      by_cases h1 : chr s k < 48
      · generalize chr s k = x at *
        clear HK
        go_wp2
        go_ret
        exact ⟨rfl, rfl⟩
      · by_cases h2 : 57 < chr s k
        · generalize chr s k = x at *
          clear HK
          go_wp2
          go_ret
          exact ⟨rfl, rfl⟩
        · have HK2 : Hid (∀ j, j < k + 1 → 48 ≤ chr s j ∧ chr s j ≤ 57) := fun j hj => by
            by_cases e : j = k
            · rw [e]; omega
            · exact HK.out j (by omega)
          clear HK
          obtain ⟨x, hxx⟩ : ∃ x, chr s k = x := ⟨_, rfl⟩
          rw [hxx] at hx h1 h2
          clear hxx
          go_wp2
          go_round
          case rel => exact ⟨k + 1, by omega, by go_num, HK2⟩
          case measure => simp [intOf]; omega
    · have e : k = s.size := by omega
      subst e
      exact absurd (fun i hi => HK.out i hi) HD.out

set_option maxRecDepth 100000 in
set_option maxHeartbeats 800000 in
theorem of_bad (s : ByteArray) (w : World) (hL : s.size ≤ 4611686018427387904) (h : ¬ (1 ≤ s.size ∧ s.size ≤ 1048576 ∧ Digits s)) :
    Calls Tryd.prog 5 #[.string s] w fun e w' => e = .returned (.tuple #[.slice none 0 0, .int .i64 2]) ∧ w = w' := by
  by_cases h0 : s.size = 0
  · have n0 : ((s.size : Int) == 0) = true := by rw [h0]; rfl
    clear h h0
    go_enter Tryd.func5, Tryd.ntmps5
    go_wp2
    go_ret2
    exact ⟨rfl, rfl⟩
  · have n0 : ((s.size : Int) == 0) = false := beq_eq_false_iff_ne.2 (by omega)
    by_cases h1 : (1048576 : Int) < (s.size : Int)
    · clear h h0
      go_enter Tryd.func5, Tryd.ntmps5
      go_wp2
      go_ret2
      exact ⟨rfl, rfl⟩
    · have hd : ¬ Digits s := fun k => h ⟨by omega, by omega, k⟩
      have ha := allDigits_bad s w (by omega) hd
      clear h h0 hd
      go_enter Tryd.func5, Tryd.ntmps5
      go_wp2_with (go_at_call 13; refine ha.mono ?_; rintro e w' ⟨rfl, rfl⟩)
      go_ret2
      exact ⟨rfl, rfl⟩
end Go.Proofs.YtpgdabpohbmodaaDoor
