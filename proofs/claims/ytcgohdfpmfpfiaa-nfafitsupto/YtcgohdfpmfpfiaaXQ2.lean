/-
  A node's counts; whether ranges are a set, by the document's answer. Conditions: none.
-/
import Derived.Test.YtcgohdfpmfpfiaaXQ1
import Derived.BigQuiet
namespace Go.Proofs.Ytcgohdfpmfpfiaa
open Go.RowKit
attribute [local go_sem] setCell_drewN alloc_drewN

set_option maxRecDepth 100000 in
set_option maxHeartbeats 800000 in
theorem noCount_any (k : Int) (a d : Option Addr) (n c m e : Nat) (lo hi : Int) (z : Bool) (w : World) :
    Calls Try.prog 51 #[.agg #[.int .i64 k, .slice a n c, .int .i64 lo, .int .i64 hi, .bool z, .slice d m e]] w fun r w' => r = .returned (.bool (noCnt lo hi z)) ∧ Below w.heap.size w w' := by
  obtain ⟨P, hP⟩ : ∃ P : Ending → World → Prop, P = fun r w' => r = .returned (.bool (noCnt lo hi z)) ∧ Below w.heap.size w w' := ⟨_, rfl⟩
  rw [← hP]
  have HP := hid_intro hP
  clear hP
  go_enter Try.func51, Try.ntmps51
  by_cases h1 : lo = 0
  · subst h1
    by_cases h2 : hi = 0
    · subst h2
      cases z
      · go_wp2_with fail
        rw [HP.out]
        exact ⟨ret_bool (by simp [noCnt]), vb_a (Below.refl _ _) _⟩
      · go_wp2_with fail
        rw [HP.out]
        exact ⟨ret_bool (by simp [noCnt]), vb_a (Below.refl _ _) _⟩
    · go_wp2_with fail
      rw [HP.out]
      exact ⟨ret_bool (by simp [noCnt, h2]), vb_a (Below.refl _ _) _⟩
  · go_wp2_with fail
    rw [HP.out]
    exact ⟨ret_bool (by simp [noCnt, h1]), vb_a (Below.refl _ _) _⟩
set_option maxRecDepth 100000 in
set_option maxHeartbeats 800000 in
theorem hasCount_any (k : Int) (a d : Option Addr) (n c m e : Nat) (lo hi : Int) (z : Bool) (w : World) :
    Calls Try.prog 53 #[.agg #[.int .i64 k, .slice a n c, .int .i64 lo, .int .i64 hi, .bool z, .slice d m e]] w fun r w' => r = .returned (.bool (hasCnt lo hi)) ∧ Below w.heap.size w w' := by
  obtain ⟨P, hP⟩ : ∃ P : Ending → World → Prop, P = fun r w' => r = .returned (.bool (hasCnt lo hi)) ∧ Below w.heap.size w w' := ⟨_, rfl⟩
  rw [← hP]
  have HP := hid_intro hP
  clear hP
  go_enter Try.func53, Try.ntmps53
  by_cases h1 : lo < 0
  · have HE : Hid (hasCnt lo hi = false) := hid_intro (by rw [hasCnt, decide_eq_false (by omega : ¬ 0 ≤ lo)]; simp)
    go_wp2_with fail
    rw [HP.out, HE.out]
    exact ⟨rfl, vb_a (Below.refl _ _) _⟩
  · by_cases h2 : lo > 1000
    · have HE : Hid (hasCnt lo hi = false) := hid_intro (by rw [hasCnt, decide_eq_false (by omega : ¬ lo ≤ 1000)]; simp)
      go_wp2_with fail
      rw [HP.out, HE.out]
      exact ⟨rfl, vb_a (Below.refl _ _) _⟩
    · by_cases h3 : hi = -1
      · have HE : Hid (hasCnt lo hi = true) := hid_intro (by rw [hasCnt, decide_eq_true (by omega : 0 ≤ lo), decide_eq_true (by omega : lo ≤ 1000), decide_eq_true h3]; simp)
        subst h3
        go_wp2_with fail
        rw [HP.out, HE.out]
        exact ⟨rfl, vb_a (Below.refl _ _) _⟩
      · by_cases h4 : lo ≤ hi
        · by_cases h5 : hi ≤ 1000
          · have HE : Hid (hasCnt lo hi = true) := hid_intro (by rw [hasCnt, decide_eq_true (by omega : 0 ≤ lo), decide_eq_true (by omega : lo ≤ 1000), decide_eq_true h4, decide_eq_true h5]; simp)
            go_wp2_with fail
            rw [HP.out, HE.out]
            exact ⟨rfl, vb_a (Below.refl _ _) _⟩
          · have HE : Hid (hasCnt lo hi = false) := hid_intro (by rw [hasCnt, decide_eq_false h5, decide_eq_false h3]; simp)
            go_wp2_with fail
            rw [HP.out, HE.out]
            exact ⟨ret_bool (by simp [h3]), vb_a (Below.refl _ _) _⟩
        · have HE : Hid (hasCnt lo hi = false) := hid_intro (by rw [hasCnt, decide_eq_false h4, decide_eq_false h3]; simp)
          go_wp2_with fail
          rw [HP.out, HE.out]
          exact ⟨ret_bool (by simp [h3]), vb_a (Below.refl _ _) _⟩
end Go.Proofs.Ytcgohdfpmfpfiaa
