/-
  What ref4.Hex answers: a digit of 16. No condition but that a byte is below 256.
-/
import Derived.Test.YtnpnnkjkohcgnaaDoorF1
import Derived.Test.YtnpnnkjkohcgnaaDoorV7
namespace Go.Proofs.YtnpnnkjkohcgnaaDoor
open Go.RowKit
attribute [local go_sem] setCell_drewN alloc_drewN

def hexI (c : Int) : Int := if hexB c = true then hexV c else -1

set_option maxHeartbeats 800000 in
theorem rhex_any (c : Int) (w : World) (h0 : 0 ≤ c) (h1 : c < 256) :
    Calls Tryd.prog 59 #[.int .u8 c] w fun r w' => r = .returned (.int .i64 (hexI c)) ∧ w' = w := by
  have d1 := rdigit_any c w
  by_cases a : 48 ≤ c ∧ c ≤ 57
  · have e : digitB c = true := by simp [digitB, a]
    have HR : Hid (hexI c = c - 48) := by show _ = _; simp [hexI, hexV, hexB, e]
    rw [e] at d1
    clear e
    obtain ⟨a1, a2⟩ := a
    go_enter Tryd.func59, Tryd.ntmps59
    go_wp2_with (go_at_call 15; refine d1.mono ?_; rintro r w' ⟨rfl, rfl⟩)
    go_ret
    exact ⟨ret_int HR.out.symm, rfl⟩
  · have e : digitB c = false := by simp [digitB]; omega
    rw [e] at d1
    by_cases b : 97 ≤ c ∧ c ≤ 102
    · have HR : Hid (hexI c = c - 97 + 10) := by show _ = _; simp [hexI, hexV, hexB, e, b]; omega
      clear e a
      obtain ⟨a1, a2⟩ := b
      go_enter Tryd.func59, Tryd.ntmps59
      go_wp2_with (go_at_call 15; refine d1.mono ?_; rintro r w' ⟨rfl, rfl⟩)
      go_ret
      exact ⟨ret_int HR.out.symm, rfl⟩
    · by_cases g : 65 ≤ c ∧ c ≤ 70
      · have HR : Hid (hexI c = c - 65 + 10) := by show _ = _; simp [hexI, hexV, hexB, e, b, g]; omega
        have n1 : decide (97 ≤ c) = false := decide_eq_false (by omega)
        clear e a b
        obtain ⟨a1, a2⟩ := g
        go_enter Tryd.func59, Tryd.ntmps59
        go_wp2_with (go_at_call 15; refine d1.mono ?_; rintro r w' ⟨rfl, rfl⟩)
        go_ret
        exact ⟨ret_int HR.out.symm, rfl⟩
      · have HR : Hid (hexI c = -1) := by
          show _ = _
          have e2 : (decide (97 ≤ c) && decide (c ≤ 102)) = false := by simp; omega
          have e3 : (decide (65 ≤ c) && decide (c ≤ 70)) = false := by simp; omega
          simp [hexI, hexB, e, e2, e3]
        by_cases u : 97 ≤ c
        · have v1 : decide (c ≤ 102) = false := decide_eq_false (by omega)
          have v2 : decide (c ≤ 70) = false := decide_eq_false (by omega)
          have v3 : (65 : Int) ≤ c := by omega
          clear e a b g
          go_enter Tryd.func59, Tryd.ntmps59
          go_wp2_with (go_at_call 15; refine d1.mono ?_; rintro r w' ⟨rfl, rfl⟩)
          go_ret
          exact ⟨ret_int HR.out.symm, rfl⟩
        · have n1 : decide (97 ≤ c) = false := decide_eq_false u
          by_cases u2 : 65 ≤ c
          · have v2 : decide (c ≤ 70) = false := decide_eq_false (by omega)
            clear e a b g u
            go_enter Tryd.func59, Tryd.ntmps59
            go_wp2_with (go_at_call 15; refine d1.mono ?_; rintro r w' ⟨rfl, rfl⟩)
            go_ret
            exact ⟨ret_int HR.out.symm, rfl⟩
          · have n2 : decide (65 ≤ c) = false := decide_eq_false u2
            clear e a b g u u2
            go_enter Tryd.func59, Tryd.ntmps59
            go_wp2_with (go_at_call 15; refine d1.mono ?_; rintro r w' ⟨rfl, rfl⟩)
            go_ret
            exact ⟨ret_int HR.out.symm, rfl⟩
end Go.Proofs.YtnpnnkjkohcgnaaDoor
