/-
  slices.Backward at numbers: the function that it answers. No condition.
-/
import Derived.Test.YtnlgeiofkfkhbaaJoined35
namespace Go.Proofs.Ytnlgeiofkfkhbaa
open Go.RowKit Go.Maps Lg

/-- What slices.Backward answers: the function over the block p. -/
def bkf (p : Nat) : Value := .func (.func 50) #[] #[.pointer (some ⟨p, 0, none⟩)]
set_option maxRecDepth 100000 in
set_option maxHeartbeats 2000000 in
theorem backward_any (v : Value) (hv : ∃ ao len cap, v = .slice ao len cap) (w : World) :
  Calls Try.prog 42 #[v] w fun r w' => r = .returned (bkf w.heap.size) ∧ w' = w.alloc (.cells #[v] 23) := by
 obtain ⟨ao, len, cap, rfl⟩ := hv
 have hmf : ∀ (fn : Fn) (first cap : Array Value) (w : World), (Instr.makeFunc fn first cap).run Try.prog w = .ok (.func fn first cap) w := fun _ _ _ _ => rfl
 go_enter Try.func42, Try.ntmps42
 go_wp2
 go_ret
 exact ⟨rfl, rfl⟩
end Go.Proofs.Ytnlgeiofkfkhbaa
