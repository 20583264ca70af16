/-
  What strings.Cut, strings.Contains (at one byte) and strings.CutPrefix answer. Conditions: at most 2^62 bytes.
-/
import Derived.Test.YtgmigdfkdioalaaUU5
namespace Go.Proofs.Ytgmigdfkdioalaa
open Go.RowKit
attribute [local go_sem] setCell_drewN alloc_drewN

set_option maxHeartbeats 400000 in
theorem slIndex_one (s : ByteArray) (c : UInt8) (w : World) :
    Calls Try.prog 63 #[.string s, .string ⟨#[c]⟩] w fun e w' => e = .returned (.int .i64 (Lib.indexByte s.data.toList c)) ∧ w' = w := by
  have h := slIndexByte s (c.toNat : Int) w
  rw [u8_of] at h
  have hq : ([c] == s.toList) = (s.data.toList == [c]) := by rw [Lib.toList_data, Bool.eq_iff_iff, beq_iff_eq, beq_iff_eq]; exact eq_comm
  have hz : (ByteArray.mk #[c]).size = 1 := rfl
  have hz2 : (ByteArray.mk #[c]).toList = [c] := by rw [Lib.toList_data]
  cases hb : (s.data.toList == [c])
  · rw [hb] at hq
    clear hb
    go_enter Try.func63, Try.ntmps63
    go_wp2_with (go_at_call 73; refine h.mono ?_; rintro e w' ⟨rfl, rfl⟩)
    go_ret
    exact ⟨rfl, rfl⟩
  · have HE : Hid (Lib.indexByte s.data.toList c = 0) := by
      show _ = _
      rw [beq_iff_eq] at hb
      rw [hb]
      simp [Lib.indexByte]
    rw [hb] at hq
    clear hb h
    go_enter Try.func63, Try.ntmps63
    go_wp2
    go_ret
    exact ⟨ret_int HE.out.symm, rfl⟩

/-- What stands ahead of the first such byte, and behind it, and whether there is one. -/
def cutL (c : UInt8) (l : List UInt8) : List UInt8 × List UInt8 × Bool := (l.take (ix l c), l.drop (ix l c + 1), decide (ix l c < l.length))
def cutV (t : List UInt8 × List UInt8 × Bool) : Value := .tuple #[.string (bs t.1), .string (bs t.2.1), .bool t.2.2]

set_option maxHeartbeats 800000 in
theorem slCut_one (s : ByteArray) (c : UInt8) (w : World) (hs : s.size ≤ 4611686018427387904) :
    Calls Try.prog 49 #[.string s, .string ⟨#[c]⟩] w fun e w' => e = .returned (cutV (cutL c s.data.toList)) ∧ ∃ n, w' = w.drewN n := by
  have hl := len_of s
  have h := slIndex_one s c w
  have hz : (ByteArray.mk #[c]).size = 1 := rfl
  rcases idx_ix s.data.toList c with ⟨h1, h2⟩ | ⟨h1, h2⟩
  · rw [h2] at h
    have HE : Hid (cutL c s.data.toList = (s.data.toList.take (ix s.data.toList c), s.data.toList.drop (ix s.data.toList c + 1), true)) := by show _ = _; unfold cutL; rw [decide_eq_true h1]
    generalize ix s.data.toList c = k at *
    have k0 : (0 : Int) ≤ (k : Int) := by omega
    have kS : (k : Int) ≤ (s.size : Int) := by omega
    have k1 : (0 : Int) ≤ (k : Int) + 1 := by omega
    have kT : (k : Int) + 1 ≤ (s.size : Int) := by omega
    have tk : s.extract 0 k = bs (s.data.toList.take k) := by rw [piece_bs, List.drop_zero, Nat.sub_zero]
    have dk : s.extract ((k : Int) + 1).toNat s.size = bs (s.data.toList.drop (k + 1)) := by
      rw [piece_bs, List.take_of_length_le, show ((k : Int) + 1).toNat = k + 1 by omega]
      rw [List.length_drop]; omega
    have dk2 : s.extract (k + 1) s.size = bs (s.data.toList.drop (k + 1)) := by
      rw [← dk, show ((k : Int) + 1).toNat = k + 1 by omega]
    clear h1 h2 hl
    go_enter Try.func49, Try.ntmps49
    go_wp2_with (go_at_call 63; refine h.mono ?_; rintro e w' ⟨rfl, rfl⟩)
    go_region
    go_wp2
    go_ret3
    exact ⟨by rw [HE.out]; rfl, 1, rfl⟩
  · rw [h2] at h
    have HE : Hid (cutL c s.data.toList = (s.data.toList, [], false)) := by
      show _ = _
      unfold cutL
      rw [h1, decide_eq_false (Nat.lt_irrefl _), List.take_length, List.drop_of_length_le (by omega)]
    clear h1 h2 hl
    go_enter Try.func49, Try.ntmps49
    go_wp2_with (go_at_call 63; refine h.mono ?_; rintro e w' ⟨rfl, rfl⟩)
    go_ret3
    exact ⟨by rw [HE.out]; rfl, 0, rfl⟩

set_option maxHeartbeats 400000 in
theorem cut_any (s : ByteArray) (c : UInt8) (w : World) (hs : s.size ≤ 4611686018427387904) :
    Calls Try.prog 30 #[.string s, .string ⟨#[c]⟩] w fun e w' => e = .returned (cutV (cutL c s.data.toList)) ∧ ∃ n, w' = w.drewN n := by
  have h := slCut_one s c w hs
  unfold cutV at *
  go_enter Try.func30, Try.ntmps30
  go_wp2_with (go_at_call 49; refine h.mono ?_; rintro e w' ⟨rfl, n, rfl⟩)
  go_ret3
  exact ⟨rfl, n, rfl⟩

set_option maxHeartbeats 400000 in
theorem contains_any (s : ByteArray) (c : UInt8) (w : World) :
    Calls Try.prog 61 #[.string s, .string ⟨#[c]⟩] w fun e w' => e = .returned (.bool (s.data.toList.contains c)) ∧ w' = w := by
  have h := slIndex_one s c w
  have hI : Calls Try.prog 75 #[.string s, .string ⟨#[c]⟩] w fun e w' => e = .returned (.int .i64 (Lib.indexByte s.data.toList c)) ∧ w' = w := by
    go_enter Try.func75, Try.ntmps75
    go_wp2_with (go_at_call 63; refine h.mono ?_; rintro e w' ⟨rfl, rfl⟩)
    go_ret
    exact ⟨rfl, rfl⟩
  have HE : Hid (decide (0 ≤ Lib.indexByte s.data.toList c) = s.data.toList.contains c) := by
    show _ = _
    rw [Bool.eq_iff_iff, decide_eq_true_eq, List.contains_iff_mem, ix_mem]
    rcases idx_ix s.data.toList c with ⟨h1, h2⟩ | ⟨h1, h2⟩ <;> rw [h2] <;> omega
  generalize Lib.indexByte s.data.toList c = x at *
  clear h
  go_enter Try.func61, Try.ntmps61
  go_wp2_with (go_at_call 75; refine hI.mono ?_; rintro e w' ⟨rfl, rfl⟩)
  go_ret
  exact ⟨r_bool HE.out, rfl⟩

set_option maxHeartbeats 800000 in
theorem cutPrefix_any (s p : ByteArray) (w : World) :
    Calls Try.prog 56 #[.string s, .string p] w fun e w' => e = .returned (.tuple #[.string (bs (if Lib.hasPrefix s.data.toList p.data.toList then s.data.toList.drop p.size else s.data.toList)), .bool (Lib.hasPrefix s.data.toList p.data.toList)]) ∧ w' = w := by
  have hl := len_of s
  have h := slHasPrefix s p w
  have hC : Calls Try.prog 72 #[.string s, .string p] w fun e w' => e = .returned (.tuple #[.string (bs (if Lib.hasPrefix s.data.toList p.data.toList then s.data.toList.drop p.size else s.data.toList)), .bool (Lib.hasPrefix s.data.toList p.data.toList)]) ∧ w' = w := by
    cases hb : Lib.hasPrefix s.data.toList p.data.toList
    · rw [hb] at h
      simp only [Bool.false_eq_true, if_false, bs_self]
      go_enter Try.func72, Try.ntmps72
      go_wp2_with (go_at_call 66; refine h.mono ?_; rintro e w' ⟨rfl, rfl⟩)
      go_ret2
      exact ⟨rfl, rfl⟩
    · have hp := pre_len hb
      rw [len_of, len_of] at hp
      have kS : (p.size : Int) ≤ (s.size : Int) := by omega
      have k0 : (0 : Int) ≤ (p.size : Int) := by omega
      have dk : s.extract p.size s.size = bs (s.data.toList.drop p.size) := by
        rw [piece_bs, List.take_of_length_le]
        rw [List.length_drop]; omega
      rw [hb] at h
      simp only [if_true]
      go_enter Try.func72, Try.ntmps72
      go_wp2_with (go_at_call 66; refine h.mono ?_; rintro e w' ⟨rfl, rfl⟩)
      go_ret2
      exact ⟨by first | rfl | rw [dk], rfl⟩
  generalize (bs (if Lib.hasPrefix s.data.toList p.data.toList then s.data.toList.drop p.size else s.data.toList)) = x at *
  generalize Lib.hasPrefix s.data.toList p.data.toList = y at *
  go_enter Try.func56, Try.ntmps56
  go_wp2_with (go_at_call 72; refine hC.mono ?_; rintro e w' ⟨rfl, rfl⟩)
  go_ret2
  exact ⟨rfl, rfl⟩
end Go.Proofs.Ytgmigdfkdioalaa
