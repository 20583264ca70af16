/-
  NfaChecks answers true. Conditions: no row of ranges is longer than 2^30.
-/
import Derived.Test.YtcgohdfpmfpfiaaXH2
import Derived.Test.YtcgohdfpmfpfiaaXC3
namespace Go.Proofs.Ytcgohdfpmfpfiaa
open Go.RowKit
attribute [local go_sem] setCell_drewN alloc_drewN

set_option maxRecDepth 100000 in
set_option maxHeartbeats 800000 in
theorem checks_walk (l : List ST) (v : Value) (w : World) (X : Nat → Prop) (hR : SI w X l v) (hl : ∀ s ∈ l, s.r.length ≤ 1073741824) :
    Calls Try.prog 3 #[v] w fun e w' => e = .returned (.bool true) ∧ Below w.heap.size w w' := by
  have h1 := nfaCheck_any l v w X hR (fun s hs => by have := hl s hs; omega)
  have h2 := fun w' (hb : Below w.heap.size w w') => refNfa_any l v w' X (hR.kept hb) hl
  have h3 := fun w' => heads_any w'
  have HH := hid_intro h3
  have H2 := hid_intro h2
  obtain ⟨ao, cap, rfl, _⟩ := hR
  clear h2 h3 hl
  generalize (if nfaB l = true then (0 : Int) else 101) = r at *
  go_enter Try.func3, Try.ntmps3
  go_wp2_with fail
  refine h1.mono ?_; rintro e w1 ⟨rfl, hb1⟩
  go_wp2_with fail
  refine (H2.out _ hb1).mono ?_; rintro e w2 ⟨rfl, hb2⟩
  go_wp2_with fail
  refine (HH.out _).mono ?_; rintro e w3 ⟨rfl, hb3⟩
  go_wp2_with fail
  go_ret
  exact ⟨rfl, vb_t (vb_t hb1 hb2) hb3⟩
end Go.Proofs.Ytcgohdfpmfpfiaa
