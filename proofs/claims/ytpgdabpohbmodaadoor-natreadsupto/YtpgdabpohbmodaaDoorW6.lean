/-
  NatBack and NatReads answer true for every limbs, and every text and limbs, and leave memory that was there as it was. Conditions: at most 10^12 limbs; the library's table of powers of ten as the program lays it.
-/
import Derived.Test.YtpgdabpohbmodaaDoorW5
import Derived.Test.YtpgdabpohbmodaaDoorNC
import Derived.Test.YtpgdabpohbmodaaDoorO2
namespace Go.Proofs.YtpgdabpohbmodaaDoor
open Go.RowKit Go.Sort
attribute [local go_sem] setCell_drewN alloc_drewN

theorem bsl (l : List UInt8) : (bs l).data.toList = l := by simp [bs]
theorem bsz (l : List UInt8) : (bs l).size = l.length := by simp [bs, ByteArray.size]
theorem Num.shape {w : World} {v : Value} {N : Int} (h : Num w v N) : ∃ a n cap, v = .slice a n cap := by
  obtain ⟨n, f, hr, _, _⟩ := h
  obtain ⟨a, cap, rfl, _⟩ := hr.shape
  exact ⟨a, n, cap, rfl⟩

set_option maxRecDepth 100000 in
set_option maxHeartbeats 1600000 in
theorem back_bad (v : Value) (n : Nat) (f : Nat → Int) (w : World) (hR : Row w v n f) (hC : ¬ Can n f) :
    Calls Tryd.prog 4 #[v] w fun e w' => e = .returned (.bool true) ∧ Below w.heap.size w w' := by
  have c1 := ntext_bad v n f w hR hC
  have c2 := fun w' (hb : Below w.heap.size w w') => check_bad v n f w' (hR.below hb) hC
  have c9 := fun w => heads_any w
  obtain ⟨a, cap, rfl, _⟩ := hR.shape
  clear hR hC
  go_enter Tryd.func4, Tryd.ntmps4
  go_wp2_with (first | (go_at_call 7; refine c1.mono ?_; rintro e w1 ⟨rfl, hb1⟩) | (go_at_call 10; refine (c2 _ hb1).mono ?_; rintro e w2 ⟨rfl, rfl⟩) | (go_at_call 12; refine (c9 _).mono ?_; rintro e w9 ⟨rfl, hb9⟩))
  go_ret
  exact ⟨rfl, bl_t hb1 hb9⟩

set_option maxRecDepth 100000 in
set_option maxHeartbeats 1600000 in
theorem back_long (v : Value) (n : Nat) (f : Nat → Int) (w : World) (S : ByteArray) (hR : Row w v n f) (hC : Can n f) (hS : 1048576 < S.size) (hS2 : S.size ≤ 10000000000000)
    (c1 : Calls Tryd.prog 7 #[v] w fun e w' => e = .returned (.tuple #[.string S, .int .i64 0]) ∧ Below w.heap.size w w') :
    Calls Tryd.prog 4 #[v] w fun e w' => e = .returned (.bool true) ∧ Below w.heap.size w w' := by
  have c2 := fun w' (hb : Below w.heap.size w w') => check_ok v n f w' (hR.below hb) hC
  have c9 := fun w => heads_any w
  have hI : (1048576 : Int) < (S.size : Int) := by omega
  obtain ⟨a, cap, rfl, _⟩ := hR.shape
  clear hR hC hS
  go_enter Tryd.func4, Tryd.ntmps4
  go_wp2_with (first | (go_at_call 7; refine c1.mono ?_; rintro e w1 ⟨rfl, hb1⟩) | (go_at_call 10; refine (c2 _ hb1).mono ?_; rintro e w2 ⟨rfl, rfl⟩) | (go_at_call 12; refine (c9 _).mono ?_; rintro e w9 ⟨rfl, hb9⟩))
  go_ret
  exact ⟨rfl, bl_t hb1 hb9⟩

set_option maxRecDepth 100000 in
set_option maxHeartbeats 3200000 in
theorem back_main (v : Value) (n : Nat) (f : Nat → Int) (w : World) (S C : ByteArray) (N : Int) (hR : Row w v n f) (hC : Can n f) (hN : val f n = N) (hS : S.size ≤ 1048576)
    (hCe : (⟨#[48, 48, 48]⟩ : ByteArray) ++ S = C)
    (c1 : Calls Tryd.prog 7 #[v] w fun e w' => e = .returned (.tuple #[.string S, .int .i64 0]) ∧ Below w.heap.size w w')
    (c3 : ∀ w, Calls Tryd.prog 5 #[.string S] w fun e w' => ∃ r, e = .returned (.tuple #[r, .int .i64 0]) ∧ Num w' r N ∧ Below w.heap.size w w')
    (c4 : S.size ≤ 1048573 → ∀ w, Calls Tryd.prog 5 #[.string C] w fun e w' => ∃ r, e = .returned (.tuple #[r, .int .i64 0]) ∧ Num w' r N ∧ Below w.heap.size w w')
    (c5 : ¬ S.size ≤ 1048573 → ∀ w, Calls Tryd.prog 5 #[.string C] w fun e w' => e = .returned (.tuple #[.slice none 0 0, .int .i64 2]) ∧ w = w') :
    Calls Tryd.prog 4 #[v] w fun e w' => e = .returned (.bool true) ∧ Below w.heap.size w w' := by
  have c2 := fun w' (hb : Below w.heap.size w w') => check_ok v n f w' (hR.below hb) hC
  have hNv := fun w' (hb : Below w.heap.size w w') => (show Num w' v N from ⟨n, f, hR.below hb, hC, hN⟩)
  have c9 := fun w => heads_any w
  have hI : ¬ (1048576 : Int) < (S.size : Int) := by omega
  obtain ⟨a, cap, rfl, _⟩ := hR.shape
  clear hR hC hN
  by_cases hs : S.size ≤ 1048573
  · have c6 := c4 hs
    have hJ : ¬ (1048573 : Int) < (S.size : Int) := by omega
    clear c4 c5 hs hS
    go_enter Tryd.func4, Tryd.ntmps4
    go_wp2_with (first | (go_at_call 7; refine c1.mono ?_; rintro e w1 ⟨rfl, hb1⟩) | (go_at_call 10; refine (c2 _ hb1).mono ?_; rintro e w2 ⟨rfl, rfl⟩))
    refine (c3 _).mono ?_
    rintro e w3 ⟨r3, rfl, hN3, hb3⟩
    go_wp2_with fail
    refine (c6 _).mono ?_
    rintro e w4 ⟨r4, rfl, hN4, hb4⟩
    have hB4 : Below w.heap.size w w4 := bl_t (bl_t hb1 hb3) hb4
    have s1 := same_num _ _ N w4 (hNv _ hB4) (hN3.below hb4)
    go_wp2_with fail
    refine s1.mono ?_
    rintro e w5 ⟨rfl, hb5⟩
    have hB5 : Below w.heap.size w w5 := bl_t hB4 hb5
    have s2 := same_num _ _ N w5 (hNv _ hB5) (hN4.below hb5)
    clear s1
    go_wp2_with fail
    refine s2.mono ?_
    rintro e w6 ⟨rfl, hb6⟩
    have hB6 : Below w.heap.size w w6 := bl_t hB5 hb6
    go_wp2_with fail
    refine (c9 _).mono ?_
    rintro e w9 ⟨rfl, hb9⟩
    go_wp2
    go_ret
    exact ⟨rfl, bl_t hB6 hb9⟩
  · have c6 := c5 hs
    have hJ : (1048573 : Int) < (S.size : Int) := by omega
    clear c4 c5 hs hS
    go_enter Tryd.func4, Tryd.ntmps4
    go_wp2_with (first | (go_at_call 7; refine c1.mono ?_; rintro e w1 ⟨rfl, hb1⟩) | (go_at_call 10; refine (c2 _ hb1).mono ?_; rintro e w2 ⟨rfl, rfl⟩))
    refine (c3 _).mono ?_
    rintro e w3 ⟨r3, rfl, hN3, hb3⟩
    go_wp2_with fail
    refine (c6 _).mono ?_
    rintro e w4 ⟨rfl, rfl⟩
    have hB4 : Below w.heap.size w w3 := bl_t hb1 hb3
    have s1 := same_num _ _ N w3 (hNv _ hB4) hN3
    go_wp2_with fail
    refine s1.mono ?_
    rintro e w5 ⟨rfl, hb5⟩
    have hB5 : Below w.heap.size w w5 := bl_t hB4 hb5
    clear s1
    go_wp2_with fail
    refine (c9 _).mono ?_
    rintro e w9 ⟨rfl, hb9⟩
    go_wp2
    go_ret
    exact ⟨rfl, bl_t hB5 hb9⟩
theorem back_walk (v : Value) (n : Nat) (f : Nat → Int) (w : World) (hR : Row w v n f) (hn : n ≤ 1000000000000) (ht : Lib.TabIs Tryd.prog w "internal/strconv.uint64pow10" .u64 Lib.pow10Tab) :
    Calls Tryd.prog 4 #[v] w fun e w' => e = .returned (.bool true) ∧ Below w.heap.size w w' := by
  by_cases hC : Can n f
  · have c1 := ntext_ok v n f w hR hC hn ht
    have hl := textN_len hC.1
    have hp := textN_pos f n
    have ha := textN_all f n
    have hv := textN_num hC.1
    by_cases hS : (bs (textN f n)).size ≤ 1048576
    · have hda := dec_all (bs (textN f n))
      have hdg : Digits (bs (textN f n)) := digits_all (by rw [bsl]; exact ha)
      rw [bsl, hv] at hda
      have hCl : ((⟨#[48, 48, 48]⟩ : ByteArray) ++ bs (textN f n)).data.toList = [48, 48, 48] ++ textN f n := by
        simp [bs]
      have hCs : ((⟨#[48, 48, 48]⟩ : ByteArray) ++ bs (textN f n)).size = (bs (textN f n)).size + 3 := by
        rw [ByteArray.size_append]; show 3 + _ = _; omega
      have hcv : dec (dig ((⟨#[48, 48, 48]⟩ : ByteArray) ++ bs (textN f n))) ((⟨#[48, 48, 48]⟩ : ByteArray) ++ bs (textN f n)).size = val f n := by
        rw [dec_all, hCl, num_append, hv]
        simp [num, numF]
      have hcd : Digits ((⟨#[48, 48, 48]⟩ : ByteArray) ++ bs (textN f n)) := digits_all (by rw [hCl, List.all_append, ha]; decide)
      refine back_main v n f w (bs (textN f n)) _ (val f n) hR hC rfl hS rfl c1 (fun w => ?_) (fun hs w => ?_) (fun hs w => ?_)
      · have := of_ok (bs (textN f n)) w (by rw [bsz]; exact hp) hS hdg
        rw [hda] at this
        exact this
      · have := of_ok _ w (by rw [hCs]; omega) (by rw [hCs]; omega) hcd
        rw [hcv] at this
        exact this
      · exact of_bad _ w (by rw [hCs]; omega) (fun h => hs (by rw [hCs] at h; omega))
    · exact back_long v n f w (bs (textN f n)) hR hC (by omega) (by rw [bsz]; omega) c1
  · exact back_bad v n f w hR hC

set_option maxRecDepth 100000 in
set_option maxHeartbeats 3200000 in
theorem reads_main (s : ByteArray) (v : Value) (n : Nat) (f : Nat → Int) (w : World) (S : ByteArray) (X E G : Int) (hR : Row w v n f)
    (c1 : ∀ w, Calls Tryd.prog 5 #[.string s] w fun e w' => ∃ r, e = .returned (.tuple #[r, .int .i64 E]) ∧ Num w' r X ∧ Below w.heap.size w w')
    (c2 : ∀ w, Calls Tryd.prog 6 #[.string s] w fun e w' => ∃ r, e = .returned (.tuple #[r, .int .i64 E]) ∧ Num w' r X ∧ Below w.heap.size w w')
    (c3 : ∀ w', Below w.heap.size w w' → Calls Tryd.prog 7 #[v] w' fun e w'' => e = .returned (.tuple #[.string S, .int .i64 G]) ∧ Below w'.heap.size w' w'')
    (c4 : ∀ w', Below w.heap.size w w' → Calls Tryd.prog 8 #[v] w' fun e w'' => e = .returned (.tuple #[.string S, .int .i64 G]) ∧ Below w'.heap.size w' w'')
    (c5 : ∀ w', Below w.heap.size w w' → Calls Tryd.prog 10 #[v] w' fun e w'' => e = .returned (.int .i64 G) ∧ w' = w'')
    (c6 : ∀ w', Below w.heap.size w w' → Calls Tryd.prog 11 #[v] w' fun e w'' => e = .returned (.int .i64 G) ∧ w' = w'') :
    Calls Tryd.prog 3 #[.string s, v] w fun e w' => e = .returned (.bool true) ∧ Below w.heap.size w w' := by
  have c9 := fun w => heads_any w
  obtain ⟨a, cap, rfl, _⟩ := hR.shape
  clear hR
  go_enter Tryd.func3, Tryd.ntmps3
  go_wp2_with fail
  refine (c1 _).mono ?_
  rintro e w1 ⟨r1, rfl, hN1, hb1⟩
  go_wp2_with fail
  refine (c2 _).mono ?_
  rintro e w2 ⟨r2, rfl, hN2, hb2⟩
  have hB2 : Below w.heap.size w w2 := bl_t hb1 hb2
  have hN12 := hN1.below hb2
  clear hN1
  go_wp2_with fail
  refine (c3 _ hB2).mono ?_
  rintro e w3 ⟨rfl, hb3⟩
  have hB3 : Below w.heap.size w w3 := bl_t hB2 hb3
  have hN13 := hN12.below hb3
  have hN23 := hN2.below hb3
  clear hN12 hN2
  go_wp2_with fail
  refine (c4 _ hB3).mono ?_
  rintro e w4 ⟨rfl, hb4⟩
  have hB4 : Below w.heap.size w w4 := bl_t hB3 hb4
  have s1 := same_num _ _ X w4 (hN13.below hb4) (hN23.below hb4)
  clear hN13 hN23
  go_wp2_with fail
  refine s1.mono ?_
  rintro e w5 ⟨rfl, hb5⟩
  have hB5 : Below w.heap.size w w5 := bl_t hB4 hb5
  clear s1
  go_wp2_with (first | (go_at_call 10; refine (c5 _ hB5).mono ?_; rintro e w6 ⟨rfl, rfl⟩) | (go_at_call 11; refine (c6 _ hB5).mono ?_; rintro e w7 ⟨rfl, rfl⟩) | (go_at_call 12; refine (c9 _).mono ?_; rintro e w9 ⟨rfl, hb9⟩))
  go_ret
  exact ⟨rfl, bl_t hB5 hb9⟩
theorem reads_walk (s : ByteArray) (v : Value) (n : Nat) (f : Nat → Int) (w : World) (hs : s.size ≤ 4611686018427387904) (hR : Row w v n f) (hn : n ≤ 1000000000000) (ht : Lib.TabIs Tryd.prog w "internal/strconv.uint64pow10" .u64 Lib.pow10Tab) :
    Calls Tryd.prog 3 #[.string s, v] w fun e w' => e = .returned (.bool true) ∧ Below w.heap.size w w' := by
  obtain ⟨E, X, c1, c2⟩ : ∃ E X, (∀ w, Calls Tryd.prog 5 #[.string s] w fun e w' => ∃ r, e = .returned (.tuple #[r, .int .i64 E]) ∧ Num w' r X ∧ Below w.heap.size w w') ∧
      (∀ w, Calls Tryd.prog 6 #[.string s] w fun e w' => ∃ r, e = .returned (.tuple #[r, .int .i64 E]) ∧ Num w' r X ∧ Below w.heap.size w w') := by
    by_cases h : 1 ≤ s.size ∧ s.size ≤ 1048576 ∧ Digits s
    · exact ⟨0, _, fun w => of_ok s w h.1 h.2.1 h.2.2, fun w => rof_ok s w h.1 h.2.1 h.2.2⟩
    · refine ⟨2, 0, fun w => (of_bad s w hs h).mono ?_, fun w => (rof_bad s w hs h).mono ?_⟩
      · rintro e w' ⟨rfl, rfl⟩
        exact ⟨_, rfl, num_nil _, Below.refl _ _⟩
      · rintro e w' ⟨rfl, rfl⟩
        exact ⟨_, rfl, num_nil _, Below.refl _ _⟩
  by_cases hC : Can n f
  · exact reads_main s v n f w (bs (textN f n)) X E 0 hR c1 c2 (fun w' hb => ntext_ok v n f w' (hR.below hb) hC hn (tab_below ht hb)) (fun w' hb => rtext_ok v n f w' (hR.below hb) hC hn) (fun w' hb => check_ok v n f w' (hR.below hb) hC) (fun w' hb => rcheck_ok v n f w' (hR.below hb) hC)
  · exact reads_main s v n f w ⟨#[]⟩ X E 2 hR c1 c2 (fun w' hb => ntext_bad v n f w' (hR.below hb) hC) (fun w' hb => rtext_bad v n f w' (hR.below hb) hC) (fun w' hb => check_bad v n f w' (hR.below hb) hC) (fun w' hb => rcheck_bad v n f w' (hR.below hb) hC)
end Go.Proofs.YtpgdabpohbmodaaDoor
