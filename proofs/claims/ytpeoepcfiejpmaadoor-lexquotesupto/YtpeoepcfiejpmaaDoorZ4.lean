/-
  What lex.Quote answers. Conditions: the text is at most 2^43 bytes long; the table of greatest code points holds its four numbers.
-/
import Derived.Test.YtpeoepcfiejpmaaDoorZ3
namespace Go.Proofs.YtpeoepcfiejpmaaDoor
open Go.RowKit
attribute [local go_sem] setCell_drewN alloc_drewN

/-- utf.Good of a text's bytes. -/
theorem good_str (s : ByteArray) (w : World) (hT : Tab w) (hs : s.size ≤ maxLen) :
    Calls Tryd.prog 16 #[.slice (some ⟨w.heap.size, 0, none⟩) s.size (grownCap w s.size 0 5)] (Lib.bytesWorld w 5 s) fun e w' => e = .returned (.tuple #[.int .i64 ((goodL s.data.toList).1 : Nat), .bool (goodL s.data.toList).2]) ∧ ∃ n, w' = (Lib.bytesWorld w 5 s).drewN n := by
  have h := good_any _ _ _ (Lib.bytesWorld w 5 s) (hT.below (bl_bytes w s)) (byt_str w s hs)
  exact h

set_option maxRecDepth 100000 in
set_option maxHeartbeats 800000 in
theorem quote_any (s : ByteArray) (w : World) (hT : Tab w) (hs : s.size ≤ 8796093022208) :
    Calls Tryd.prog 12 #[.string s] w fun r w' => r = .returned (.tuple #[.string ⟨(if (goodL s.data.toList).2 = true then quoteL s.data.toList else []).toArray⟩, .int .i64 (if (goodL s.data.toList).2 = true then 0 else 10)]) ∧ Below w.heap.size w w' := by
  have cv := conv_str w s
  have hsm : s.size ≤ maxLen := by unfold maxLen; omega
  have g1 := good_str s w hT hsm
  have hb := bl_bytes w s
  have hlen : s.data.toList.length = s.size := Array.length_toList
  cases hg : (goodL s.data.toList).2
  · rw [hg] at g1
    simp only [Bool.false_eq_true, if_false]
    generalize (goodL s.data.toList).1 = n at *
    clear hg hlen hsm hs
    go_enter Tryd.func12, Tryd.ntmps12
    go_wp2_with (go_at_call 16; refine g1.mono ?_; rintro r w2 ⟨rfl, q, rfl⟩)
    go_ret2
    exact ⟨rfl, bl_n hb q⟩
  · rw [hg] at g1
    simp only [if_true]
    have g2 := fun q => quoted_any s.data.toList w.heap.size 0 (grownCap w s.size 0 5) ((Lib.bytesWorld w 5 s).drewN q) (by
      rcases byt_str w s hsm with ⟨h0, _⟩ | ⟨b, off, cap, e, _, _, hL⟩
      · rw [h0]; exact ⟨fun i hi => absurd hi (by omega), bx_lo _, bx_hi _⟩
      · cases e
        exact hL.drewN q) (by rw [hlen]; exact grownCap_ge _ _ _ _) (grownCap_le_maxLen w s.size 0 _ hsm) (by rw [hlen]; exact hs)
    rw [hlen] at g2
    generalize (goodL s.data.toList).1 = n at *
    clear hg hlen hsm hs
    go_enter Tryd.func12, Tryd.ntmps12
    go_wp2_with (first | (go_at_call 16; refine g1.mono ?_; rintro r w2 ⟨rfl, q, rfl⟩) | (go_at_call 24; refine (g2 _).mono ?_; rintro r w3 ⟨rfl, hb3⟩))
    go_ret2
    exact ⟨rfl, bl_t (bl_n hb _) hb3⟩
end Go.Proofs.YtpeoepcfiejpmaaDoor
