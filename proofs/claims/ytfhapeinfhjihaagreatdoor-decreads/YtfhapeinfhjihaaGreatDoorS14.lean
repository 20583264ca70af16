/-
  What dec.sign and dec.height answer. Conditions: bounds that numbers which may be keep.
-/
import Derived.Test.YtfhapeinfhjihaaGreatDoorS8
namespace Go.Proofs.YtfhapeinfhjihaaGreatDoor
open Go.RowKit
attribute [local go_sem] setCell_drewN alloc_drewN

theorem height_any (n : Bool) (s : ByteArray) (e : Int) (w : World) (hs : s.size ≤ 65536) (e0 : -1000000 ≤ e) (e1 : e ≤ 1000000) :
    Calls Tryz.prog 30 #[.agg #[.bool n, .string s, .int .i64 e]] w fun r w' => r = .returned (.int .i64 ((s.size : Int) + e)) ∧ w' = w.alloc (.cells #[.bool n, .string s, .int .i64 e] 23) := by
  have hs' : (s.size : Int) ≤ 65536 := by omega
  go_enter Tryz.func30, Tryz.ntmps30
  go_wp2
  go_ret
  exact ⟨rfl, rfl⟩
def sgnD (n : Bool) (s : ByteArray) : Int := if s.size = 0 then 0 else if n = true then -1 else 1

set_option maxHeartbeats 400000 in
theorem sign_exp (n : Bool) (s : ByteArray) (e : Int) (w : World) (hg : goodB n s e = true) :
    Calls Tryz.prog 36 #[.agg #[.bool n, .string s, .int .i64 e]] w fun r w' => r = .returned (.int .i64 (sgnD n s)) ∧ ∃ q, w' = ((w.alloc (.cells #[.bool n, .string s, .int .i64 e] 23)).alloc (.cells #[.bool false, .string ⟨#[]⟩, .int .i64 0] 23)).drewN q := by
  have hq := eqIn_dec n s e false ⟨#[]⟩ 0
  cases hz : eqD n s e false ⟨#[]⟩ 0
  · rw [hz] at hq
    have h0 : s.size ≠ 0 := by
      intro h0
      have hg := of_decide_eq_true hg
      rcases hg with ⟨_, g2, g3⟩ | g
      · exact absurd ⟨g2, size_zero h0, g3⟩ (of_decide_eq_false hz)
      · exact g.1.1 ((nil_size s).2 h0)
    have HS : Hid (sgnD n s = if n = true then -1 else 1) := if_neg h0
    clear hz hg
    cases n
    · go_enter Tryz.func36, Tryz.ntmps36
      go_wp2_with fail
      go_region_with (go_at_call 32; refine (nought_any _).mono ?_; rintro r w' ⟨rfl, rfl⟩)
      all_goals (try go_wp2)
      all_goals go_ret
      all_goals exact ⟨r3_int HS.out.symm, by first | exact ⟨1, rfl⟩ | exact ⟨2, rfl⟩ | exact ⟨3, rfl⟩ | exact ⟨0, rfl⟩⟩
    · go_enter Tryz.func36, Tryz.ntmps36
      go_wp2_with fail
      go_region_with (go_at_call 32; refine (nought_any _).mono ?_; rintro r w' ⟨rfl, rfl⟩)
      all_goals (try go_wp2)
      all_goals go_ret
      all_goals exact ⟨r3_int HS.out.symm, by first | exact ⟨1, rfl⟩ | exact ⟨2, rfl⟩ | exact ⟨3, rfl⟩ | exact ⟨0, rfl⟩⟩
  · rw [hz] at hq
    have HS : Hid (sgnD n s = 0) := by
      obtain ⟨rfl, rfl, rfl⟩ := of_decide_eq_true hz
      rfl
    clear hz hg
    go_enter Tryz.func36, Tryz.ntmps36
    go_wp2_with fail
    go_region_with (go_at_call 32; refine (nought_any _).mono ?_; rintro r w' ⟨rfl, rfl⟩)
    all_goals (try go_wp2)
    all_goals go_ret
    all_goals exact ⟨r3_int HS.out.symm, by first | exact ⟨1, rfl⟩ | exact ⟨2, rfl⟩ | exact ⟨3, rfl⟩ | exact ⟨0, rfl⟩⟩
theorem sign_dec (n : Bool) (s : ByteArray) (e : Int) (w : World) (hg : goodB n s e = true) :
    Calls Tryz.prog 36 #[.agg #[.bool n, .string s, .int .i64 e]] w fun r w' => r = .returned (.int .i64 (sgnD n s)) ∧ Below w.heap.size w w' := by
  refine (sign_exp n s e w hg).mono ?_
  rintro r w' ⟨rfl, q, rfl⟩
  exact ⟨rfl, bl_n (bl_a (bl_a (Below.refl _ _) _) _) q⟩

end Go.Proofs.YtfhapeinfhjihaaGreatDoor
