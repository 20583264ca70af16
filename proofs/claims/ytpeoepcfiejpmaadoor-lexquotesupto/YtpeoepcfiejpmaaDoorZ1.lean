/-
  '[]byte(s)', and what lex.escaped answers of a byte that does not stand for itself. No condition but bounds.
-/
import Derived.Test.YtpeoepcfiejpmaaDoorV18
import Derived.Lib.ConvBytes
import Derived.Lib.AppendStr
import Derived.ArgAppend
namespace Go.Proofs.YtpeoepcfiejpmaaDoor
open Go.RowKit
attribute [local go_sem] setCell_drewN alloc_drewN

theorem bl_bytes (w : World) (s : ByteArray) : Below w.heap.size w (Lib.bytesWorld w 5 s) :=
  ⟨rfl, rfl, rfl, by rw [Lib.bytesWorld_size]; omega, fun k hk => Lib.bytesWorld_at_old w _ s k hk⟩
theorem byt_str (w : World) (s : ByteArray) (hs : s.size ≤ maxLen) : Byt (Lib.bytesWorld w 5 s) (.slice (some ⟨w.heap.size, 0, none⟩) s.size (grownCap w s.size 0 5)) s.data.toList := by
  unfold Byt
  have e : s.data.toList.length = s.size := Array.length_toList
  rw [e]
  refine .inr ⟨w.heap.size, 0, _, rfl, grownCap_ge _ _ _ _, grownCap_le_maxLen w s.size 0 _ hs, ⟨fun i hi => ?_, bx_lo _, bx_hi _⟩⟩
  rw [Nat.zero_add, Lib.bytesWorld_cell w _ s i hi]
  simp [bx, List.getD_eq_getElem?_getD]
theorem conv_str (w : World) (s : ByteArray) : (convert 9 22 (.string s)).run Tryd.prog w = .ok (.slice (some ⟨w.heap.size, 0, none⟩) s.size (grownCap w s.size 0 5)) (Lib.bytesWorld w 5 s) :=
  Lib.run_convert_string_bytes w _ _ _ s Tryd.underlying9 Tryd.underlying22 Tryd.underlying5

/-- How a byte that does not stand for itself is written. -/
def hexC (n : Nat) : UInt8 := [48, 49, 50, 51, 52, 53, 54, 55, 56, 57, 97, 98, 99, 100, 101, 102].getD n 0
def escOne (c : UInt8) : List UInt8 :=
  if c = 34 then [92, 34] else if c = 92 then [92, 92] else if c = 8 then [92, 98] else if c = 12 then [92, 102] else if c = 10 then [92, 110] else if c = 13 then [92, 114] else if c = 9 then [92, 116]
  else [92, 117, 48, 48, hexC (c.toNat / 16), hexC (c.toNat % 16)]

set_option maxRecDepth 100000 in
set_option maxHeartbeats 3200000 in
theorem escaped_lit (k : Nat) (hk : k < 32 ∨ k = 34 ∨ k = 92) (w : World) :
    Calls Tryd.prog 39 #[.int .u8 k] w fun r w' => r = .returned (.string ⟨(escOne (UInt8.ofNat k)).toArray⟩) ∧ ∃ n, w' = w.drewN n := by
  have e : k = 34 ∨ k = 92 ∨ k = 8 ∨ k = 12 ∨ k = 10 ∨ k = 13 ∨ k = 9 ∨ (k < 32 ∧ k ≠ 8 ∧ k ≠ 9 ∧ k ≠ 10 ∧ k ≠ 12 ∧ k ≠ 13) := by omega
  rcases e with rfl | rfl | rfl | rfl | rfl | rfl | rfl | e
  iterate 7
    · go_enter Tryd.func39, Tryd.ntmps39
      go_wp2
      go_ret
      exact ⟨rfl, 0, rfl⟩
  have e : k = 0 ∨ k = 1 ∨ k = 2 ∨ k = 3 ∨ k = 4 ∨ k = 5 ∨ k = 6 ∨ k = 7 ∨ k = 11 ∨ k = 14 ∨ k = 15 ∨ k = 16 ∨ k = 17 ∨ k = 18 ∨ k = 19 ∨ k = 20 ∨ k = 21 ∨ k = 22 ∨ k = 23 ∨ k = 24 ∨ k = 25 ∨ k = 26 ∨ k = 27 ∨ k = 28 ∨ k = 29 ∨ k = 30 ∨ k = 31 := by omega
  rcases e with rfl | rfl | rfl | rfl | rfl | rfl | rfl | rfl | rfl | rfl | rfl | rfl | rfl | rfl | rfl | rfl | rfl | rfl | rfl | rfl | rfl | rfl | rfl | rfl | rfl | rfl | rfl
  all_goals
    go_enter Tryd.func39, Tryd.ntmps39
    go_wp2_with fail
    go_quiet (fail)
    go_wp2
    go_ret
    exact ⟨rfl, _, rfl⟩
end Go.Proofs.YtpeoepcfiejpmaaDoor
