/-
  eachPart: what a search that never stops answers. No condition.
-/
import Derived.Test.YtnlgeiofkfkhbaaJoined36
namespace Go.Proofs.Ytnlgeiofkfkhbaa
open Go.RowKit Go.Maps Lg

/-- A search that never stops goes on. -/
theorem top_says {R : Nat → List Nat} {m : Nat} (hR : ∀ v, ∀ t ∈ R v, t < m) {f : Nat} (hf : m ≤ f) {v : Nat} {fin : List Nat} (hF : Fin R m false fin) (hv : v < m) : ∃ D, top R false f v fin = .ok (fin ++ D) ∧ Fin R m false (fin ++ D) ∧ v ∈ fin ++ D := by
 have hs := runs_says hR hf [v] fin (by simp [hv]) hF
 rw [runs_top] at hs
 cases h : top R false f v fin with
 | error c =>
  rw [h] at hs
  exact absurd hs.1 (by simp)
 | ok fin' =>
  rw [h] at hs
  have hs2 : Fin R m false fin' ∧ (∃ D, fin' = fin ++ D) ∧ ∀ x ∈ [v], x ∈ fin' := hs
  obtain ⟨k1, ⟨D, rfl⟩, k3⟩ := hs2
  exact ⟨D, rfl, k1, k3 v (by simp)⟩
/-- What is new when it begins at a place that is not in: the search's own word. -/
theorem top_post {R : Nat → List Nat} {m : Nat} (hR : ∀ v, ∀ t ∈ R v, t < m) {f : Nat} (hf : m ≤ f) {v : Nat} {fin D : List Nat} (hF : Fin R m false fin) (hv : v < m) (hn : v ∉ fin) (h : top R false f v fin = .ok (fin ++ D)) : Post R m false fin [] v (fin ++ D) := by
 unfold top at h
 rw [if_neg hn] at h
 have hs := visit_says (stop := false) hR f fin [] v (pre_top hF hv hn) (by simp; omega)
 rw [h] at hs
 exact hs
theorem top_in {R : Nat → List Nat} {f v : Nat} {fin D : List Nat} (hn : v ∈ fin) (h : top R false f v fin = .ok (fin ++ D)) : D = [] := by
 unfold top at h
 rw [if_pos hn] at h
 injection h with h
 have := congrArg List.length h
 simp at this
 exact this
/-- Where the first loop stands. -/
structure UaI (R : Nat → List Nat) (m : Nat) (e : SV) (i : Nat) (fin : List Nat) (w wr : World) : Prop where
 ss : SS wr e m R [] [] fin fin false
 al : ∀ x, x < i → x ∈ fin
 fin : Fin R m false fin
 but : But e.X w wr
 le : i ≤ m
theorem ent_put2 : ∀ args w, (callFunc 39 args).run Try.prog w = .ok (.enter 39 args) w := enters_of Try.func39 (by kernel_rfl) rfl
theorem ent_put3 : ∀ args w, (callFunc 41 args).run Try.prog w = .ok (.enter 41 args) w := enters_of Try.func41 (by kernel_rfl) rfl
end Go.Proofs.Ytnlgeiofkfkhbaa
