/-
  LexBack answers true for every text, whatever is put behind it. Conditions: the text and the bytes are at most 2^20 long; the table of greatest code points and errors.errorType as they are laid.
-/
import Derived.Test.YtpeoepcfiejpmaaDoorZ7
namespace Go.Proofs.YtpeoepcfiejpmaaDoor
open Go.RowKit
attribute [local go_sem] setCell_drewN alloc_drewN

set_option maxRecDepth 100000 in
set_option maxHeartbeats 1600000 in
theorem back_bad (s : ByteArray) (v1 : Value) (w : World) (hE : Env w) (hs : s.size ≤ 1048576) (hg : (goodL s.data.toList).2 = false) :
    Calls Tryd.prog 6 #[.string s, v1] w fun r w' => r = .returned (.bool true) ∧ Below w.heap.size w w' := by
  have g1 := quote_any s w hE.tab (by omega)
  have g2 := fun w' (hb : Below w.heap.size w w') => good_str s w' (hE.below hb).tab (by unfold maxLen; omega)
  have g9 := fun w' (hb : Below w.heap.size w w') => heads4_any w' (hE.below hb)
  rw [hg] at g1 g2
  simp only [Bool.false_eq_true, if_false] at g1
  generalize (goodL s.data.toList).1 = n at *
  have cv := fun w => conv_str w s
  clear hg hs
  go_enter Tryd.func6, Tryd.ntmps6
  go_wp2_with fail
  refine g1.mono ?_
  rintro r w1 ⟨rfl, hb1⟩
  have hbB := bl_t hb1 (bl_bytes w1 s)
  go_wp2_with (first | (go_at_call 16; refine (g2 _ hb1).mono ?_; rintro r w2 ⟨rfl, q, rfl⟩; have hbq := bl_n hbB q) | (go_at_call 11; refine (g9 _ hbq).mono ?_; rintro r w3 ⟨rfl, hb3⟩))
  go_ret
  exact ⟨rfl, bl_t hbq hb3⟩

set_option maxRecDepth 100000 in
set_option maxHeartbeats 3200000 in
theorem back_ok (s : ByteArray) (more : List UInt8) (v1 : Value) (w : World) (hE : Env w) (hM : Byt w v1 more) (hs : s.size ≤ 1048576) (hm : more.length ≤ 1048576) (hg : (goodL s.data.toList).2 = true) :
    Calls Tryd.prog 6 #[.string s, v1] w fun r w' => r = .returned (.bool true) ∧ Below w.heap.size w w' := by
  have hsl : s.data.toList.length = s.size := Array.length_toList
  have hql : (quoteL s.data.toList).length ≤ 6 * 1048576 + 2 := by
    have := body_len s.data.toList
    simp [quoteL] at this ⊢
    omega
  have hnx := next_back s.data.toList more hg
  have g1 := quote_any s w hE.tab (by omega)
  have g2 := fun w' (hb : Below w.heap.size w w') => good_str s w' (hE.below hb).tab (by unfold maxLen; omega)
  have g3 := fun (w' : World) (v' : Value) (hb : Below w.heap.size w w') (hv : Byt w' v' (quoteL s.data.toList ++ more)) => next_any _ 0 v' w' (hE.below hb) hv (Nat.zero_le _) (by rw [List.length_append]; omega)
  have g9 := fun w' (hb : Below w.heap.size w w') => heads4_any w' (hE.below hb)
  rw [hg] at g1 g2
  rw [hnx] at g3
  simp only [nxV, tokV] at g3
  simp only [if_true] at g1
  obtain ⟨ql, eql⟩ : ∃ ql, quoteL s.data.toList = ql := ⟨_, rfl⟩
  rw [eql] at g1 g3 hql
  have hqz : (ByteArray.mk ql.toArray).size = ql.length := by simp [ByteArray.size]
  have hss : (⟨s.data.toList.toArray⟩ : ByteArray) = s := by simp
  rw [hss] at g3
  generalize (goodL s.data.toList).1 = n at *
  have cv := fun w => conv_str w s
  have cq := fun w => conv_str w ⟨ql.toArray⟩
  have q1 := eqIn_tok 1 s 0 (ql.length : Nat) 1 s 0 (ql.length : Nat)
  rw [show eqT 1 s 0 (ql.length : Nat) 1 s 0 (ql.length : Nat) = true from decide_eq_true ⟨rfl, rfl, rfl, rfl⟩] at q1
  have HB : Hid (ql.length ≤ 6 * 1048576 + 2 ∧ more.length ≤ 1048576) := ⟨hql, hm⟩
  clear hg hs eql hsl hnx hm hql hss
  rw [hqz] at cq
  clear hqz
  go_enter Tryd.func6, Tryd.ntmps6
  go_wp2_with fail
  refine g1.mono ?_
  rintro r w1 ⟨rfl, hb1⟩
  have hbB := bl_t hb1 (bl_bytes w1 s)
  go_wp2_with fail
  refine (g2 _ hb1).mono ?_
  rintro r w2 ⟨rfl, q, rfl⟩
  have hbq := bl_n hbB q
  generalize (Lib.bytesWorld w1 5 s).drewN q = W at *
  have hbW := bl_t hbq (bl_bytes W ⟨ql.toArray⟩)
  have hM2 := hM.below hbW
  have hA : Lies (Lib.bytesWorld W 5 ⟨ql.toArray⟩) W.heap.size 0 ql.length (bx ql) := lies_str W ⟨ql.toArray⟩
  have hsp : ∀ j, j < grownCap W ql.length 0 5 → ((Lib.bytesWorld W 5 ⟨ql.toArray⟩).cell? ⟨W.heap.size, j, none⟩).isSome = true ∧ (Lib.bytesWorld W 5 ⟨ql.toArray⟩).frozen? ⟨W.heap.size, j, none⟩ = false := spare_str W ⟨ql.toArray⟩
  have hg1 := grownCap_ge W ql.length 0 5
  have hg2 := grownCap_le_maxLen W ql.length 0 5 (by have := HB.out; unfold maxLen; omega)
  have hzz := hbq.size
  have hzW := Lib.bytesWorld_size W 5 ⟨ql.toArray⟩
  go_wp2_with (at_builtin; refine wpList_append_conv rfl (.tmp 36) (.tmp 37) rfl W.heap.size ql.length (grownCap W ql.length 0 5) ql rfl rfl hA hg1 hg2 hsp w.heap.size hzz ?_ v1 more rfl hM2 ?_ ?_)
  · rw [hzW]; omega
  · have := HB.out; omega
  · intro v4 w4 hv4 hb4
    have hbw4 : Below w.heap.size w w4 := hbW.trans hb4
    clear hA hsp hM2 hb4 hzW hzz hg1 hg2 hbW
    go_wp2_with fail
    refine (g3 _ _ hbw4 hv4).mono ?_
    rintro r w5 ⟨rfl, hb5⟩
    have hbw5 := bl_a (bl_t hbw4 hb5) (.cells #[.int .i64 1, .string s, .int .i64 0, .int .i64 (ql.length : Nat)] 25)
    go_wp2_with (go_at_call 11; refine (g9 _ hbw5).mono ?_; rintro r w6 ⟨rfl, hb6⟩)
    go_ret
    exact ⟨rfl, bl_t hbw5 hb6⟩
theorem back_walk (s : ByteArray) (more : List UInt8) (v1 : Value) (w : World) (hE : Env w) (hM : Byt w v1 more) (hs : s.size ≤ 1048576) (hm : more.length ≤ 1048576) :
    Calls Tryd.prog 6 #[.string s, v1] w fun r w' => r = .returned (.bool true) ∧ Below w.heap.size w w' := by
  cases hg : (goodL s.data.toList).2
  · exact back_bad s v1 w hE hs hg
  · exact back_ok s more v1 w hE hM hs hm hg
end Go.Proofs.YtpeoepcfiejpmaaDoor
