/-
  What lex.badLength and lex.Next answer: the token at a place, or the bad length. Conditions: the bytes lie in memory, at most 2^45 of them; the table of greatest code points and errors.errorType as they are laid.
-/
import Derived.Test.YtngpkgmgjbahgaaDoorV15
namespace Go.Proofs.YtngpkgmgjbahgaaDoor
open Go.RowKit
attribute [local go_sem] setCell_drewN alloc_drewN

/-- The variables that the road reads. -/
structure Env (w : World) : Prop where
  tab : Tab w
  elt : 0 < w.heap.size
  ety : w.cell? ⟨0, 0, none⟩ = some (.iface 72 (.agg #[.pointer (some ⟨2, 33, none⟩)]))
theorem Env.below {w w' : World} (h : Env w) (hb : Below w.heap.size w w') : Env w' :=
  ⟨h.tab.below hb, Nat.lt_of_lt_of_le h.elt hb.size, by rw [hb.cell h.elt]; exact h.ety⟩

set_option maxRecDepth 100000 in
set_option maxHeartbeats 800000 in
theorem badLength_any (n : Nat) (w : World) (hE : Env w) :
    Calls Tryd.prog 9 #[.iface 44 (.agg #[.int .i64 n])] w fun r w' => r = .returned (.int .i64 n) ∧ Below w.heap.size w w' := by
  have hE1 := hE.below (bl_a (Below.refl _ _) (.cells #[.int .i64 0] 44))
  have h1 := as_hit n 0 w.heap.size (w.alloc (.cells #[.int .i64 0] 44)) hE1.elt hE1.ety (by simp [go_sem]) (by simp [go_sem])
  clear hE hE1
  go_enter Tryd.func9, Tryd.ntmps9
  go_wp2_with (go_at_call 17; refine h1.mono ?_; rintro r w2 ⟨rfl, o1, o2, o3, o4, rfl⟩; have hk : (((((w.alloc (.cells #[.int .i64 0] 44)).alloc o1).alloc o2).alloc o3).alloc o4).cell? ⟨w.heap.size, 0, none⟩ = some (.int .i64 0) := by (rw [World.cell?_alloc_past _ _ _ (by simp; omega), World.cell?_alloc_past _ _ _ (by simp; omega), World.cell?_alloc_past _ _ _ (by simp; omega), World.cell?_alloc_past _ _ _ (by simp)]; simp [go_sem]))
  go_ret
  exact ⟨rfl, (by with_reducible repeat (first | exact Below.refl _ _ | refine bl_a ?_ _ | refine bl_s ?_ (by omega) _))⟩
end Go.Proofs.YtngpkgmgjbahgaaDoor
