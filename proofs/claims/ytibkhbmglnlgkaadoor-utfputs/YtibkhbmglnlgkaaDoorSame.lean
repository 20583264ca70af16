/-
  ref.Same answers true of the same bytes; bytes behind others are bytes. No condition.
-/
import Derived.Test.YtibkhbmglnlgkaaDoorB4
namespace Go.Proofs.YtibkhbmglnlgkaaDoor
open Go.RowKit

theorem same_refl (va vb : Value) (n : Nat) (f : Nat → Int) (w : World) (ha : Row w va n f) (hb : Row w vb n f) :
    Calls Tryd.prog 25 #[va, vb] w fun e w' => e = .returned (.bool true) ∧ w = w' := by
  have := same_any va vb n n f f w ha hb
  simpa using this

theorem catF_lo (n : Nat) (f g : Nat → Int) (hf : ∀ i, 0 ≤ f i) (hg : ∀ i, 0 ≤ g i) (i : Nat) : 0 ≤ catF n f g i := by
  unfold catF; split
  · exact hf _
  · exact hg _
theorem catF_hi (n : Nat) (f g : Nat → Int) (hf : ∀ i, f i < 256) (hg : ∀ i, g i < 256) (i : Nat) : catF n f g i < 256 := by
  unfold catF; split
  · exact hf _
  · exact hg _

end Go.Proofs.YtibkhbmglnlgkaaDoor
