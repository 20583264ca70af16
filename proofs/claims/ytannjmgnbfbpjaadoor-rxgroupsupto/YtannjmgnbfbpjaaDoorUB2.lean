/-
  What utf.Put and ref.Put answer: the bytes of a code point behind what stands there. Conditions: the table of greatest code points holds its four numbers; what stands there is at most 2^47 - 4096 bytes long.
-/
import Derived.Test.YtannjmgnbfbpjaaDoorUB1
namespace Go.Proofs.YtannjmgnbfbpjaaDoor
open Go.RowKit

/-- Is it a code point? -/
def ptB (p : Int) : Bool := decide (0 ≤ p ∧ p ≤ 1114111 ∧ ¬ (55296 ≤ p ∧ p ≤ 57343))

set_option maxHeartbeats 400000 in
theorem isPoint_any (p : Int) (w : World) (hT : Tab w) :
    Calls Tryd.prog 100 #[.int .i64 p] w fun e w' => e = .returned (.bool (ptB p)) ∧ w = w' := by
  have t3 := hT.t3
  have hs : ∀ w, Calls Tryd.prog 69 #[.int .i64 p] w fun e w' => e = .returned (.bool (surB p)) ∧ w = w' := fun w => (sur_any p w).mono fun e w' h => ⟨h.1, h.2.symm⟩
  by_cases h1 : 0 ≤ p
  · by_cases h2 : p ≤ 1114111
    · have e : (!surB p) = ptB p := by
        rw [Bool.eq_iff_iff, not_sur, ptB, decide_eq_true_iff]; omega
      go_enter Tryd.func100, Tryd.ntmps100
      go_wp2_with (go_at_call 69; refine (hs _).mono ?_; rintro e w' ⟨rfl, rfl⟩)
      go_ret
      exact ⟨ret_bool (by first | exact e | rfl), rfl⟩
    · have e : false = ptB p := (decide_eq_false (by omega)).symm
      have HE : Hid (false = ptB p) := e
      clear e
      go_enter Tryd.func100, Tryd.ntmps100
      go_wp2_with (go_at_call 69; refine (hs _).mono ?_; rintro e w' ⟨rfl, rfl⟩)
      go_ret
      exact ⟨ret_bool HE.out, rfl⟩
  · have e : false = ptB p := (decide_eq_false (by omega)).symm
    have HE : Hid (false = ptB p) := e
    clear e
    go_enter Tryd.func100, Tryd.ntmps100
    go_wp2_with (go_at_call 69; refine (hs _).mono ?_; rintro e w' ⟨rfl, rfl⟩)
    go_ret
    exact ⟨ret_bool HE.out, rfl⟩

set_option maxHeartbeats 400000 in
theorem length_any (p : Int) (w : World) (hT : Tab w) :
    Calls Tryd.prog 101 #[.int .i64 p] w fun e w' => e = .returned (.int .i64 (encN p : Nat)) ∧ w = w' := by
  obtain ⟨t0, t1, t2, t3⟩ := hT
  by_cases h1 : p < 128
  · have HE : Hid (((encN p : Nat) : Int) = 1) := by show _ = _; simp [encN, h1]
    have k : ¬ 127 < p := by omega
    go_enter Tryd.func101, Tryd.ntmps101
    go_wp2
    refine wp_loop_rounds 1 ?_
    rw [rounds_succ]
    go_wp2
    go_ret
    exact ⟨ret_int HE.out.symm, rfl⟩
  · have k1 : 127 < p := by omega
    by_cases h2 : p < 2048
    · have HE : Hid (((encN p : Nat) : Int) = 2) := by show _ = _; simp [encN, h1, h2]
      have k : ¬ 2047 < p := by omega
      go_enter Tryd.func101, Tryd.ntmps101
      go_wp2
      refine wp_loop_rounds 2 ?_
      rw [rounds_succ]
      go_wp2
      rw [rounds_succ]
      go_wp2
      go_ret
      exact ⟨ret_int HE.out.symm, rfl⟩
    · have k2 : 2047 < p := by omega
      by_cases h3 : p < 65536
      · have HE : Hid (((encN p : Nat) : Int) = 3) := by show _ = _; simp [encN, h1, h2, h3]
        have k : ¬ 65535 < p := by omega
        go_enter Tryd.func101, Tryd.ntmps101
        go_wp2
        refine wp_loop_rounds 3 ?_
        rw [rounds_succ]
        go_wp2
        rw [rounds_succ]
        go_wp2
        rw [rounds_succ]
        go_wp2
        go_ret
        exact ⟨ret_int HE.out.symm, rfl⟩
      · have HE : Hid (((encN p : Nat) : Int) = 4) := by show _ = _; simp [encN, h1, h2, h3]
        have k : 65535 < p := by omega
        go_enter Tryd.func101, Tryd.ntmps101
        go_wp2
        refine wp_loop_rounds 4 ?_
        rw [rounds_succ]
        go_wp2
        rw [rounds_succ]
        go_wp2
        rw [rounds_succ]
        go_wp2
        rw [rounds_succ]
        go_wp2
        go_ret
        exact ⟨ret_int HE.out.symm, rfl⟩
end Go.Proofs.YtannjmgnbfbpjaaDoor
