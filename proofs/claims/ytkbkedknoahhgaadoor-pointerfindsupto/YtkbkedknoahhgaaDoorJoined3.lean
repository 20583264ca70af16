/-
  What utf.begun answers of bytes that lie in memory. Conditions: the slice is not empty; the table of greatest code points holds its four numbers.
-/
import Derived.Test.YtkbkedknoahhgaaDoorJoined2
import Derived.Deep.Light
namespace Go.Proofs.YtkbkedknoahhgaaDoor
open Go.RowKit

/-- Bytes that lie one behind the other in memory. -/
structure Lies (w : World) (b off len : Nat) (f : Nat → Int) : Prop where
  cell : ∀ i, i < len → w.cell? ⟨b, off + i, none⟩ = some (.int .u8 (f i))
  lo : ∀ i, 0 ≤ f i
  hi : ∀ i, f i < 256

theorem Tab.drewN {w : World} (h : Tab w) (n : Nat) : Tab (w.drewN n) :=
  ⟨by rw [World.cell?_drewN]; exact h.t0, by rw [World.cell?_drewN]; exact h.t1, by rw [World.cell?_drewN]; exact h.t2, by rw [World.cell?_drewN]; exact h.t3⟩

theorem ret_ib {k : IntKind} {a b : Int} {c d : Bool} (h : a = b) (g : c = d) : Ending.returned (.tuple #[.int k a, .bool c]) = .returned (.tuple #[.int k b, .bool d]) := by rw [h, g]

set_option maxHeartbeats 400000 in
theorem begun_none (b off len cap : Nat) (f : Nat → Int) (w : World) (hT : Tab w) (hL : Lies w b off len f) (hl : 0 < len) (hm : len ≤ maxLen) (hz : stN (f 0) = 0) :
    Calls Tryd.prog 54 #[.slice (some ⟨b, off, none⟩) len cap] w fun e w' => e = .returned (.tuple #[.int .i64 0, .bool false]) ∧ ∃ n, w' = w.drewN n := by
  unfold maxLen at hm
  have c0 : w.cell? ⟨b, off, none⟩ = some (.int .u8 (f 0)) := by simpa using hL.cell 0 hl
  have b0 := hL.lo 0
  have b1 := hL.hi 0
  have hlI : (0 : Int) < (len : Int) := by omega
  have hr := (first_bad (f 0) b0 b1).2 hz
  have hc := ld_cases (f 0) b0 b1
  clear hL hz
  have e1 : 0 ≤ ldN (f 0) ∧ ldN (f 0) ≤ 4 ∧ 0 ≤ ldB (f 0) ∧ ldB (f 0) < 256 := by omega
  clear hc
  have hlead' : ∀ w, Calls Tryd.prog 65 #[.int .u8 (f 0)] w fun e w' => e = .returned (.tuple #[.int .i64 (ldN (f 0)), .int .i64 (ldB (f 0))]) ∧ w = w' :=
    fun w => (lead_any _ w b0 b1).mono fun e w' h => ⟨h.1, h.2.symm⟩
  generalize ldN (f 0) = n at *
  by_cases h0 : n = 0
  · subst h0
    have hlead := hlead'
    clear hlead'
    clear hr
    go_enter Tryd.func54, Tryd.ntmps54
    go_wp2_with (go_at_call 65; refine (hlead _).mono ?_; rintro e w' ⟨rfl, rfl⟩)
    go_ret2
    exact ⟨rfl, 0, rfl⟩
  · have hlead := hlead'
    clear hlead'
    have hr' : reachB (ldB (f 0)) n (n - 1) = false := by
      rcases hr with h | h
      · exact absurd h h0
      · exact h
    have hreach : Calls Tryd.prog 66 #[.int .i64 (ldB (f 0)), .int .i64 n, .int .i64 (n - 1)] w fun e w' => e = .returned (.bool false) ∧ ∃ n, w' = w.drewN n := by
      rw [← hr']; exact reaches_any _ _ _ w hT (by omega) (by omega) (by omega) (by omega) (by omega)
    clear hr hr'
    go_enter Tryd.func54, Tryd.ntmps54
    go_wp2_with (first | (go_at_call 65; refine (hlead _).mono ?_; rintro e w' ⟨rfl, rfl⟩) | (go_at_call 66; refine hreach.mono ?_; rintro e w' ⟨rfl, q, rfl⟩))
    go_ret2
    exact ⟨rfl, _, rfl⟩

set_option maxHeartbeats 1000000 in
theorem begun_some (b off len cap : Nat) (f : Nat → Int) (w : World) (hT : Tab w) (hL : Lies w b off len f) (hl : 0 < len) (hm : len ≤ maxLen) (hz : stN (f 0) ≠ 0) :
    Calls Tryd.prog 54 #[.slice (some ⟨b, off, none⟩) len cap] w fun e w' => e = .returned (.tuple #[.int .i64 ((stepF len f).1 : Nat), .bool (stepF len f).2]) ∧ ∃ n, w' = w.drewN n := by
  unfold maxLen at hm
  have c0 : w.cell? ⟨b, off, none⟩ = some (.int .u8 (f 0)) := by simpa using hL.cell 0 hl
  have b0 := hL.lo 0
  have b1 := hL.hi 0
  have hlI : (0 : Int) < (len : Int) := by omega
  obtain ⟨en, n1, n4, l0, l1, _, _, _⟩ := first_good (f 0) b0 b1 hz
  obtain ⟨n, hn⟩ : ∃ n : Nat, (n : Int) = stN (f 0) := ⟨(stN (f 0)).toNat, by omega⟩
  have hlead : ∀ w, Calls Tryd.prog 65 #[.int .u8 (f 0)] w fun e w' => e = .returned (.tuple #[.int .i64 (n : Int), .int .i64 (acc f 1)]) ∧ w = w' := by
    intro w; rw [hn, ← en]; exact (lead_any _ w b0 b1).mono fun e w' h => ⟨h.1, h.2.symm⟩
  have hreach : Calls Tryd.prog 66 #[.int .i64 (acc f 1), .int .i64 (n : Int), .int .i64 ((n : Int) - 1)] w fun e w' => e = .returned (.bool true) ∧ ∃ n, w' = w.drewN n := by
    have hr' : reachB (ldB (f 0)) (ldN (f 0)) (ldN (f 0) - 1) = true := by
      cases z : reachB (ldB (f 0)) (ldN (f 0)) (ldN (f 0) - 1)
      · exact absurd ((first_bad (f 0) b0 b1).1 (.inr z)) hz
      · rfl
    rw [← hr', hn, ← en]; exact reaches_any _ _ _ w hT (by show 0 ≤ ldB (f 0); omega) (by show ldB (f 0) < _; omega) (by omega) (by omega) (by omega)
  have HN : Hid ((n : Int) = stN (f 0)) := hn
  have HZ : Hid (stN (f 0) ≠ 0) := hz
  have g1 : 1 ≤ n := by omega
  have g4 : n ≤ 4 := by omega
  have gne : ((n : Int) == 0) = false := by simp; omega
  clear hn hz en n1 n4 l0 l1
  go_enter Tryd.func54, Tryd.ntmps54
  go_wp2_with (first | (go_at_call 65; refine (hlead _).mono ?_; rintro e w' ⟨rfl, rfl⟩) | (go_at_call 66; refine hreach.mono ?_; rintro e w' ⟨rfl, q, rfl⟩))
  clear hlead hreach
  go_loopw [5, 6] (fun bits k wr => ∃ j : Nat, 1 ≤ j ∧ j ≤ n ∧ k = .int .i64 j ∧ bits = .int .i64 (acc f j) ∧ passed len f j ∧ ∃ q, wr = w.drewN q) (fun _ k _ => n - (intOf k).toNat)
  case atStart => exact ⟨1, by omega, by omega, rfl, rfl, passed_one _ _, _, rfl⟩
  case round =>
    obtain ⟨j, hj1, hjn, rfl, rfl, hp, q', rfl⟩ := hrel
    by_cases hlt : j < n
    · by_cases hle : j < len
      · have cj : w.cell? ⟨b, off + j, none⟩ = some (.int .u8 (f j)) := hL.cell j hle
        have bj0 := hL.lo j
        have bj1 := hL.hi j
        have abd := acc_bd f b0 b1 HZ.out j hj1 (by rw [← HN.out]; omega)
        have abd' := acc_bd f b0 b1 HZ.out (j + 1) (by omega) (by rw [← HN.out]; omega)
        have hor : bits .or .i64 (acc f j * 64) (f j % 64) = acc f (j + 1) := by
          rw [i64_or64 _ _ abd.1 abd.2 (by omega) (by omega)]
          obtain ⟨i, rfl⟩ : ∃ i, j = i + 1 := ⟨j - 1, by omega⟩
          rfl
        have hfol : ∀ w, Calls Tryd.prog 67 #[.int .u8 (f j)] w fun e w' => e = .returned (.bool (folB (f j))) ∧ w = w' := fun w => (follows_any _ w).mono fun e w' h => ⟨h.1, h.2.symm⟩
        have hjl : ((j : Int) == (len : Int)) = false := by simp; omega
        cases hf : folB (f j)
        · have HF : Hid (stepF len f = (j, false)) := stepF_part len f b0 b1 j hj1 (by rw [← HN.out]; omega) hp (.inr (.inl hf))
          rw [hf] at hfol
          clear hf hor
          go_wp2_with (go_at_call 67; refine (hfol _).mono ?_; rintro e w' ⟨rfl, rfl⟩)
          go_ret2
          exact ⟨ret_ib (by rw [HF.out]) (by rw [HF.out]), _, rfl⟩
        · have hra : Calls Tryd.prog 66 #[.int .i64 (acc f (j + 1)), .int .i64 (n : Int), .int .i64 ((n : Int) - 1 - (j : Int))] (w.drewN q') fun e w' => e = .returned (.bool (okAt f j)) ∧ ∃ n, w' = (w.drewN q').drewN n := by
            rw [← reach_at f len j b0 b1 hj1 (by rw [← HN.out]; omega) hp hf, ← HN.out]
            exact reaches_any _ _ _ _ (hT.drewN _) (by omega) (by omega) (by omega) (by omega) (by omega)
          rw [hf] at hfol
          cases ho : okAt f j
          · have HF : Hid (stepF len f = (j, false)) := stepF_part len f b0 b1 j hj1 (by rw [← HN.out]; omega) hp (.inr (.inr ho))
            rw [ho] at hra
            clear ho hf
            go_wp2_with (first | (go_at_call 67; refine (hfol _).mono ?_; rintro e w' ⟨rfl, rfl⟩) | (go_at_call 66; refine hra.mono ?_; rintro e w' ⟨rfl, q2, rfl⟩))
            go_ret2
            exact ⟨ret_ib (by rw [HF.out]) (by rw [HF.out]), _, rfl⟩
          · have HP : Hid (passed len f (j + 1)) := passed_next len f j hj1 hle hf ho hp
            rw [ho] at hra
            clear ho hf
            go_wp2_with (first | (go_at_call 67; refine (hfol _).mono ?_; rintro e w' ⟨rfl, rfl⟩) | (go_at_call 66; refine hra.mono ?_; rintro e w' ⟨rfl, q2, rfl⟩))
            go_roundw
            case rel => exact ⟨j + 1, by omega, by omega, by go_num, rfl, HP.out, _, rfl⟩
            case measure => simp [intOf]; omega
      · have HF : Hid (stepF len f = (j, false)) := stepF_part len f b0 b1 j hj1 (by rw [← HN.out]; omega) hp (.inl (by omega))
        have hjl : ((j : Int) == (len : Int)) = true := by
          have : passed len f j := hp
          obtain ⟨q2, q3, q4⟩ := hp
          simp; omega
        go_wp2
        go_ret2
        exact ⟨ret_ib (by rw [HF.out]) (by rw [HF.out]), _, rfl⟩
    · have e : j = n := by omega
      subst e
      have HF : Hid (stepF len f = (j, true)) := stepF_whole len f b0 b1 HZ.out j HN.out hp
      go_wp2
      go_ret2
      exact ⟨ret_ib (by rw [HF.out]) (by rw [HF.out]), _, rfl⟩
end Go.Proofs.YtkbkedknoahhgaaDoor
