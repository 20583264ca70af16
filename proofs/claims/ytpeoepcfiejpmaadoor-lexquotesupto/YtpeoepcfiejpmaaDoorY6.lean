/-
  LexQuotes answers true for every text and byte. Conditions: the text is at most 2^20 bytes long; the table of greatest code points and errors.errorType as they are laid.
-/
import Derived.Test.YtpeoepcfiejpmaaDoorY5
namespace Go.Proofs.YtpeoepcfiejpmaaDoor
open Go.RowKit
attribute [local go_sem] setCell_drewN alloc_drewN

set_option maxRecDepth 100000 in
set_option maxHeartbeats 1600000 in
theorem quotes_walk (s : ByteArray) (c : Int) (w : World) (hE : Env w) (hs : s.size ≤ 1048576) :
    Calls Tryd.prog 5 #[.string s, .int .u8 c] w fun r w' => r = .returned (.bool true) ∧ Below w.heap.size w w' := by
  have g1 := quote_any s w hE.tab (by omega)
  have g2 := fun w' => rquote_any s w' (by omega)
  have g3 := fun w' => blank_any c w'
  have g4 := fun w' => rblank_any c w'
  have g9 := fun w' (hb : Below w.heap.size w w') => heads4_any w' (hE.below hb)
  obtain ⟨q, hq⟩ : ∃ q : ByteArray, (⟨(if (goodL s.data.toList).2 = true then quoteL s.data.toList else []).toArray⟩ : ByteArray) = q := ⟨_, rfl⟩
  obtain ⟨e, he⟩ : ∃ e : Int, (if (goodL s.data.toList).2 = true then 0 else 10) = e := ⟨_, rfl⟩
  rw [hq, he] at g1
  simp only [hq, he] at g2
  have heq : (e == e) = true := by simp
  generalize blankB c = x at *
  clear hq he hs
  go_enter Tryd.func5, Tryd.ntmps5
  go_wp2_with (first | (go_at_call 12; refine g1.mono ?_; rintro r w1 ⟨rfl, hb1⟩) | (go_at_call 13; refine (g2 _).mono ?_; rintro r w2 ⟨rfl, hb2⟩; have hb22 := bl_t hb1 hb2) | (go_at_call 14; refine (g3 _).mono ?_; rintro r w3 ⟨rfl, hb3⟩; have hb33 := bl_t hb22 hb3) | (go_at_call 15; refine (g4 _).mono ?_; rintro r w4 ⟨rfl, rfl⟩) | (go_at_call 11; refine (g9 _ hb33).mono ?_; rintro r w5 ⟨rfl, hb5⟩))
  go_ret
  exact ⟨rfl, bl_t hb33 hb5⟩
end Go.Proofs.YtpeoepcfiejpmaaDoor
