/-
  What utf.Pair answers. Conditions: the table of greatest code points holds its four numbers.
-/
import Derived.Test.YtannjmgnbfbpjaaDoorUB1
namespace Go.Proofs.YtannjmgnbfbpjaaDoor
open Go.RowKit

theorem least4 (w : World) (hT : Tab w) : Calls Tryd.prog 68 #[.int .i64 4] w fun e w' => e = .returned (.int .i64 65536) ∧ w = w' :=
  (least_any 4 w hT (by omega) (by omega)).mono fun e w' h => ⟨h.1, h.2.symm⟩

set_option maxHeartbeats 400000 in
theorem pair_bad (h l : Int) (w : World) (hb : h < 55296 ∨ 56319 < h ∨ l < 56320 ∨ 57343 < l) :
    Calls Tryd.prog 96 #[.int .i64 h, .int .i64 l] w fun e w' => e = .returned (.tuple #[.int .i64 0, .int .i64 11]) ∧ w' = w := by
  by_cases h1 : h < 55296
  · go_enter Tryd.func96, Tryd.ntmps96
    go_wp2
    go_ret2
    exact ⟨rfl, rfl⟩
  · by_cases h2 : 56319 < h
    · go_enter Tryd.func96, Tryd.ntmps96
      go_wp2
      go_ret2
      exact ⟨rfl, rfl⟩
    · by_cases h3 : l < 56320
      · go_enter Tryd.func96, Tryd.ntmps96
        go_wp2
        go_ret2
        exact ⟨rfl, rfl⟩
      · have h4 : 57343 < l := by omega
        go_enter Tryd.func96, Tryd.ntmps96
        go_wp2
        go_ret2
        exact ⟨rfl, rfl⟩
set_option maxHeartbeats 400000 in
theorem pair_ok (h l : Int) (w : World) (hT : Tab w) (h1 : 55296 ≤ h) (h2 : h ≤ 56319) (h3 : 56320 ≤ l) (h4 : l ≤ 57343) :
    Calls Tryd.prog 96 #[.int .i64 h, .int .i64 l] w fun e w' => e = .returned (.tuple #[.int .i64 (65536 + (h - 55296) * 1024 + (l - 56320)), .int .i64 0]) ∧ w = w' := by
  go_enter Tryd.func96, Tryd.ntmps96
  go_wp2_with (go_at_call 68; refine (least4 _ hT).mono ?_; rintro e w' ⟨rfl, rfl⟩)
  go_ret2
  exact ⟨ret2_int rfl rfl, rfl⟩
end Go.Proofs.YtannjmgnbfbpjaaDoor
