/-
  PointerSteps: what it comes to. Conditions: lists and texts of at most 2^30; texts of at most 2^20 together.
-/
import Derived.Test.YtcbhjhkmmdcdeaaDoorPG12
import Derived.Test.YtcbhjhkmmdcdeaaDoorPG10
namespace Go.Proofs.YtcbhjhkmmdcdeaaDoor
open Go.RowKit

theorem sm_zero : Sm zeroJ := .mk (Nat.zero_le _) (Nat.zero_le _) (fun c hc => absurd hc (by simp))
theorem findR_sm (v : JV) (l : List (List UInt8)) (hs : Sm v) : Sm (findR v (textL l)).1 := by
  rw [findR_text]
  cases h : findJ v l with
  | none => exact sm_zero
  | some u => exact findJ_sm l v u hs h
theorem len_sum (a : List (List UInt8)) : a.length ≤ sumL a := by
  induction a with
  | nil => simp [sumL]
  | cons x r ih => simp only [sumL, List.map_cons, List.sum_cons, List.length_cons] at *; omega
theorem sum_cat (a b : List (List UInt8)) : sumL (a ++ b) = sumL a + sumL b := by simp [sumL]
set_option maxRecDepth 100000 in
set_option maxHeartbeats 800000 in
theorem steps_walk (v : JV) (f : Nat → Value) (pa pb : Value) (a b : List (List UInt8)) (w : World) (hv : VI w (fun _ => False) v f) (hs : Sm v) (hz : Sz v) (ha : SRow w pa a) (hb : SRow w pb b) (hsa : sumL a ≤ 1048576) (hsb : sumL b ≤ 1048576) (hE : Env w) :
    Calls Tryd.prog 5 #[.agg #[f 0, f 1, f 2, f 3, f 4, f 5, f 6], pa, pb] w fun r w' => r = .returned (.bool true) ∧ Below w.heap.size w w' := by
  obtain ⟨k, n, g, e, t, la, lm, lc, ka, km, kc, f0, f1, f2, f3, f4, f5, f6⟩ := hv.shape
  have l1 := len_sum a
  have l2 := len_sum b
  have l3 := textL_len a
  have l4 := textL_len b
  have l5 := textL_len (a ++ b)
  have l6 := sum_cat a b
  have q1 := findR_text v a
  have q2 := findR_text v (a ++ b)
  rw [findJ_append] at q2
  have c6 : ∀ w', Below w.heap.size w w' → Calls Tryd.prog 6 #[.agg #[f 0, f 1, f 2, f 3, f 4, f 5, f 6]] w' fun r w2 => (∃ c : Int, r = .returned (.int .i64 c)) ∧ Below w'.heap.size w' w2 := fun w' h => check6_any v f w' hs hz (hv.kept h)
  have c7 : ∀ w', Below w.heap.size w w' → Calls Tryd.prog 7 #[.agg #[f 0, f 1, f 2, f 3, f 4, f 5, f 6]] w' fun r w2 => r = .returned (.int .i64 (depthV rholds v)) ∧ Below w'.heap.size w' w2 := fun w' h => rdepth_any v f w' (hv.kept h)
  have ca := fun w' h => find_far v f (textL a) w w' hv hs (by omega) h
  have cab := fun w' h => find_far v f (textL (a ++ b)) w w' hv hs (by omega) h
  rw [f0, f1, f2, f3, f4, f5, f6] at c6 c7 ca cab ⊢
  refine steps_core k n g e t la lm lc ka km kc pa pb a b w (depthV rholds v) (findR v (textL a)).2 (findR v (textL (a ++ b))).2 (findR v (textL a)).1 (findR v (textL (a ++ b))).1 (bs (textL a)) (bs (textL (a ++ b))) (bs (textL b)) ?_ c6 c7 (fun w' h => heads_any w' (hE.below h)) (fun w' h => ha.below h) (fun w' h => hb.below h) ⟨by simp; omega, by simp; omega⟩ (fun w' h => text_any pa a w' (ha.below h) (by omega)) ca (fun w' p h hr => text_any p (a ++ b) w' hr (by omega)) cab (fun w' h => text_any pb b w' (hb.below h) (by omega)) ?_ ?_
  · show _ ∨ _
    rw [q1, q2]
    cases findJ v a with
    | none => exact .inl ⟨by decide, rfl⟩
    | some u => exact .inr rfl
  · intro hc W0 w' k4 n4 g4 e4 t4 la4 lm4 lc4 ka4 km4 kc4 hw hvx hbb
    cases hfa : findJ v a with
    | none => rw [q1, hfa] at hc; exact absurd hc (by decide)
    | some u =>
      have e1 : (findR v (textL a)).1 = u := by rw [q1, hfa]
      have e2 : findR v (textL (a ++ b)) = findR u (textL b) := by rw [q2, hfa, findR_text u b]; rfl
      rw [e1] at hvx
      rw [e2]
      have fin := find_far u (f7 (.int .i64 k4) (.bool n4) (.string g4) (.int .i64 e4) (.string t4) (.slice la4 lm4 lc4) (.slice ka4 km4 kc4)) (textL b) W0 w' hvx (findJ_sm a v u hs hfa) (by omega) hbb
      simp only [f7] at fin
      exact fin
  · intro w' k5 n5 g5 e5 t5 la5 lm5 lc5 ka5 km5 kc5 k6 n6 g6 e6 t6 la6 lm6 lc6 ka6 km6 kc6 h1 h2
    have fin := same_refl _ (findR_sm v (a ++ b) hs) (f7 (.int .i64 k5) (.bool n5) (.string g5) (.int .i64 e5) (.string t5) (.slice la5 lm5 lc5) (.slice ka5 km5 kc5)) (f7 (.int .i64 k6) (.bool n6) (.string g6) (.int .i64 e6) (.string t6) (.slice la6 lm6 lc6) (.slice ka6 km6 kc6)) w' h1 h2
    simp only [va, f7] at fin
    exact fin
end Go.Proofs.YtcbhjhkmmdcdeaaDoor
