/-
  What lex.Next answers: the token at a place, or the bad length. Conditions: the bytes lie in memory, at most 2^45 of them; the table of greatest code points and errors.errorType as they are laid.
-/
import Derived.Test.YtngpkgmgjbahgaaDoorV16
namespace Go.Proofs.YtngpkgmgjbahgaaDoor
open Go.RowKit
attribute [local go_sem] setCell_drewN alloc_drewN

def nxV : Tk → Value
  | .ok t => .tuple #[tokV t, .int .i64 0, .int .i64 0]
  | .error n => .tuple #[tokV ⟨0, [], 0, 0⟩, .int .i64 n, .int .i64 50]
def nextL (l : List UInt8) (i : Nat) : Tk := readL l (pass l blankB i)

set_option maxRecDepth 100000 in
set_option maxHeartbeats 1600000 in
theorem next_any (l : List UInt8) (i : Nat) (v : Value) (w : World) (hE : Env w) (hB : Byt w v l) (hi : i ≤ l.length) (hm : l.length ≤ 140737488351232) :
    Calls Tryd.prog 4 #[v, .int .i64 i] w fun r w' => r = .returned (nxV (nextL l i)) ∧ Below w.heap.size w w' := by
  have hw0 : Below w.heap.size w (w.alloc (.cells #[.int .i64 0, .string ⟨#[]⟩, .int .i64 0, .int .i64 0] 25)) := bl_a (Below.refl _ _) _
  have hE1 := hE.below hw0
  have hB1 := hB.below hw0
  have g1 := passed_blank l i v _ hB1 hi (by omega)
  have hp := pass_le (l := l) (p := blankB) hi
  have g2 := fun w' (hb : Below (w.alloc (.cells #[.int .i64 0, .string ⟨#[]⟩, .int .i64 0, .int .i64 0] 25)).heap.size (w.alloc (.cells #[.int .i64 0, .string ⟨#[]⟩, .int .i64 0, .int .i64 0] 25)) w') => read_any l (pass l blankB i) v w' (hE1.below hb).tab (hB1.below hb) hp hm
  unfold nextL
  obtain ⟨a, cap, rfl, _⟩ := hB.shape
  generalize pass l blankB i = p at *
  have hiI : (i : Int) ≤ (l.length : Int) := by omega
  have hi0 : ¬ (i : Int) < 0 := by omega
  have hd0 : decide ((i : Int) < 0) = false := decide_eq_false hi0
  have hd1 : decide ((l.length : Int) < (i : Int)) = false := decide_eq_false (by omega)
  clear hi0 hB hE hp hi hm
  cases hr : readL l p with
  | error n =>
    rw [hr] at g2
    simp only [tkV, errV, tokV] at g2
    have g3 := fun w' (hb : Below (w.alloc (.cells #[.int .i64 0, .string ⟨#[]⟩, .int .i64 0, .int .i64 0] 25)).heap.size (w.alloc (.cells #[.int .i64 0, .string ⟨#[]⟩, .int .i64 0, .int .i64 0] 25)) w') => badLength_any n w' (hE1.below hb)
    clear hr hE1 hB1
    go_enter Tryd.func4, Tryd.ntmps4
    go_wp2_with (first | (go_at_call 7; refine g1.mono ?_; rintro r w2 ⟨rfl, hb2⟩) | (go_at_call 6; refine (g2 _ hb2).mono ?_; rintro r w3 ⟨rfl, hb3⟩; have hb33 := bl_t hb2 hb3) | (go_at_call 9; refine (g3 _ (bl_a hb33 _)).mono ?_; rintro r w5 ⟨rfl, hb5⟩; obtain ⟨kc, kf, kz⟩ := keepT (bl_t (bl_a hb33 _) hb5)))
    refine bodyPost_ret (v := .tuple #[tokV ⟨0, [], 0, 0⟩, .int .i64 n, .int .i64 50]) ?_ rfl ?_
    all_goals first | (exact ⟨rfl, (by with_reducible repeat (first | exact Below.refl _ _ | refine bl_t ?_ (bl_t (bl_a hb33 _) hb5) | refine bl_a ?_ _ | refine bl_s ?_ (by omega) _))⟩) | (simp [results, Tryd.results4, go_sem, tokV, kc])
  | ok t =>
    rw [hr] at g2
    simp only [tkV, tokV] at g2
    clear hr hE1 hB1
    go_enter Tryd.func4, Tryd.ntmps4
    go_wp2_with (first | (go_at_call 7; refine g1.mono ?_; rintro r w2 ⟨rfl, hb2⟩) | (go_at_call 6; refine (g2 _ hb2).mono ?_; rintro r w3 ⟨rfl, hb3⟩; have hb33 := bl_t hb2 hb3; obtain ⟨kc, kf, kz⟩ := keepT (bl_t hb2 hb3)))
    refine bodyPost_ret (v := .tuple #[tokV t, .int .i64 0, .int .i64 0]) ?_ rfl ?_
    all_goals first | (exact ⟨rfl, (by with_reducible repeat (first | exact Below.refl _ _ | refine bl_t ?_ hb33 | refine bl_a ?_ _ | refine bl_s ?_ (by omega) _))⟩) | (simp [results, Tryd.results4, go_sem, tokV, kc, kz, World.cell?_alloc_past])
end Go.Proofs.YtngpkgmgjbahgaaDoor
