/-
  ref6.Check answers, whatever the value; a pointer goes on from where another one leads. Conditions: lists and texts of at most 2^30.
-/
import Derived.Test.YtcbhjhkmmdcdeaaDoorPG9
import Derived.Test.YtcbhjhkmmdcdeaaDoorPTt
namespace Go.Proofs.YtcbhjhkmmdcdeaaDoor
open Go.RowKit
attribute [local go_sem] setCell_drewN alloc_drewN

/-- It is a number. -/
def IntR (r : Ending) : Prop := ∃ c, r = .returned (.int .i64 c)
set_option maxRecDepth 100000 in
set_option maxHeartbeats 800000 in
theorem check6_any (v : JV) (f : Nat → Value) (w : World) (hs : Sm v) (hz : Sz v) (hv : VI w (fun _ => False) v f) :
    Calls Tryd.prog 6 #[.agg #[f 0, f 1, f 2, f 3, f 4, f 5, f 6]] w fun r w' => IntR r ∧ Below w.heap.size w w' := by
  have hr : ∀ w', Below w.heap.size w w' → Calls Tryd.prog 17 #[.agg #[f 0, f 1, f 2, f 3, f 4, f 5, f 6], .int .i64 10000] w' fun r w2 => BoolR r ∧ Below w'.heap.size w' w2 := fun w' hb => right_any v hs hz f w' 10000 (hv.kept hb)
  obtain ⟨k, n, g, e, t, la, lm, lc, ka, km, kc, f0, f1, f2, f3, f4, f5, f6⟩ := hv.shape
  rw [f0, f1, f2, f3, f4, f5, f6] at hr ⊢
  clear hv f0 f1 f2 f3 f4 f5 f6 hs hz
  go_enter Tryd.func6, Tryd.ntmps6
  go_wp2_with fail
  refine (hr _ (bl_a (Below.refl _ _) _)).mono ?_
  rintro r w1 ⟨⟨b, rfl⟩, hb1⟩
  have hbel : Below w.heap.size w w1 := bl_t (bl_a (Below.refl _ _) _) hb1
  clear hr hb1
  cases b
  · go_wp2
    go_ret
    exact ⟨⟨_, rfl⟩, hbel⟩
  · go_wp2
    go_ret
    exact ⟨⟨_, rfl⟩, hbel⟩
/-- A pointer goes on from where another one leads. -/
theorem findJ_append : ∀ (a b : List (List UInt8)) (v : JV), findJ v (a ++ b) = (findJ v a).bind fun u => findJ u b
  | [], b, v => rfl
  | p :: a, b, v => by
    rw [List.cons_append, findJ, findJ]
    cases h : plc v p with
    | none => rfl
    | some i => exact findJ_append a b _
theorem findR_text (v : JV) (a : List (List UInt8)) : findR v (textL a) = match findJ v a with | none => (zeroJ, 71) | some u => (u, 0) := by
  simp only [findR, parse_text]
  cases findJ v a <;> rfl
theorem findJ_sm : ∀ (a : List (List UInt8)) (v u : JV), Sm v → findJ v a = some u → Sm u
  | [], v, u, hs, h => by rw [findJ] at h; injection h with h; subst h; exact hs
  | p :: a, v, u, hs, h => by
    cases hp : plc v p with
    | none => rw [findJ, hp] at h; cases h
    | some i =>
      have hb := plc_bd hp
      obtain ⟨j, rfl⟩ : ∃ j : Nat, i = (j : Int) := ⟨i.toNat, by omega⟩
      have hj : j < v.list.length := by omega
      rw [findJ_step hp hj] at h
      exact findJ_sm a _ u (hs.get j hj) h
end Go.Proofs.YtcbhjhkmmdcdeaaDoor
