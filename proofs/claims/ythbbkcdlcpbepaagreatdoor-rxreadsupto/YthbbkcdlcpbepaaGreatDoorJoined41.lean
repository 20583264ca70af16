/-
  What ref.length, ref.second, ref.step and ref.Good answer: the same step, and the same good beginning. No condition.
  What ref.Good and ref.Points answer: the same good beginning, and the same code points. Conditions: the text is at most 2^44 bytes long.
-/
import Derived.Test.YthbbkcdlcpbepaaGreatDoorJoined4
namespace Go.Proofs.YthbbkcdlcpbepaaGreatDoor
open Go.RowKit

set_option maxHeartbeats 400000 in
theorem rlength_any (c : Int) (w : World) :
    Calls Tryz.prog 41 #[.int .u8 c] w fun e w' => e = .returned (.int .i64 (stN c)) ∧ w = w' := by
  go_enter Tryz.func41, Tryz.ntmps41
  go_wp2
  all_goals go_ret
  all_goals refine ⟨ret_int ?_, rfl⟩
  all_goals unfold stN
  all_goals repeat' split
  all_goals omega

theorem secB_mk (c d : Int) (x : Bool) (lo hi : Int) (h1 : (if c = 224 then (160 : Int) else if c = 240 then 144 else 128) = lo) (h2 : (if c = 237 then (159 : Int) else if c = 244 then 143 else 191) = hi)
    (h : x = true ↔ (lo ≤ d ∧ d ≤ hi)) : x = secB c d := by
  rw [Bool.eq_iff_iff, h, secB_iff, h1, h2]

set_option maxHeartbeats 400000 in
theorem second_any (c d : Int) (w : World) :
    Calls Tryz.prog 42 #[.int .u8 c, .int .u8 d] w fun e w' => e = .returned (.bool (secB c d)) ∧ w = w' := by
  by_cases h1 : c = 224
  · subst h1
    go_enter Tryz.func42, Tryz.ntmps42
    go_wp2
    all_goals go_ret
    all_goals refine ⟨ret_bool (secB_mk 224 d _ 160 191 rfl rfl ?_), rfl⟩
    all_goals (try simp only [decide_eq_true_iff, Bool.false_eq_true, false_iff])
    all_goals omega
  · by_cases h2 : c = 237
    · subst h2
      go_enter Tryz.func42, Tryz.ntmps42
      go_wp2
      all_goals go_ret
      all_goals refine ⟨ret_bool (secB_mk 237 d _ 128 159 rfl rfl ?_), rfl⟩
      all_goals (try simp only [decide_eq_true_iff, Bool.false_eq_true, false_iff])
      all_goals omega
    · by_cases h3 : c = 240
      · subst h3
        go_enter Tryz.func42, Tryz.ntmps42
        go_wp2
        all_goals go_ret
        all_goals refine ⟨ret_bool (secB_mk 240 d _ 144 191 rfl rfl ?_), rfl⟩
        all_goals (try simp only [decide_eq_true_iff, Bool.false_eq_true, false_iff])
        all_goals omega
      · by_cases h4 : c = 244
        · subst h4
          go_enter Tryz.func42, Tryz.ntmps42
          go_wp2
          all_goals go_ret
          all_goals refine ⟨ret_bool (secB_mk 244 d _ 128 143 rfl rfl ?_), rfl⟩
          all_goals (try simp only [decide_eq_true_iff, Bool.false_eq_true, false_iff])
          all_goals omega
        · have k1 : (c == 224) = false := by simpa using h1
          have k2 : (c == 237) = false := by simpa using h2
          have k3 : (c == 240) = false := by simpa using h3
          have k4 : (c == 244) = false := by simpa using h4
          have HM : Hid (∀ x : Bool, (x = true ↔ (128 ≤ d ∧ d ≤ 191)) → x = secB c d) := fun x h => secB_mk c d x 128 191 (by rw [if_neg h1, if_neg h3]) (by rw [if_neg h2, if_neg h4]) h
          clear h1 h2 h3 h4
          go_enter Tryz.func42, Tryz.ntmps42
          go_wp2
          all_goals go_ret
          all_goals refine ⟨ret_bool (HM.out _ ?_), rfl⟩
          all_goals (try simp only [decide_eq_true_iff, Bool.false_eq_true, false_iff])
          all_goals omega

set_option maxHeartbeats 1000000 in
theorem rstep_any (b off len cap p : Nat) (f : Nat → Int) (w : World) (hL : Lies w b off len f) (hp : p < len) (hm : len ≤ maxLen) :
    Calls Tryz.prog 28 #[.slice (some ⟨b, off, none⟩) len cap, .int .i64 (p : Int)] w fun e w' => e = .returned (.tuple #[.int .i64 ((stepF (len - p) fun i => f (p + i)).1 : Nat), .bool (stepF (len - p) fun i => f (p + i)).2]) ∧ w = w' := by
  unfold maxLen at hm
  have c0 : w.cell? ⟨b, off + p, none⟩ = some (.int .u8 (f p)) := hL.cell p hp
  have hpI : (p : Int) < (len : Int) := by omega
  have hl := fun w => rlength_any (f p) w
  by_cases hz : stN (f p) = 0
  · have hs := stepF_none (len - p) (fun i => f (p + i)) hz
    rw [hs]
    rw [hz] at hl
    clear hs hz
    go_enter Tryz.func28, Tryz.ntmps28
    go_wp2_with (go_at_call 41; refine (hl _).mono ?_; rintro e w' ⟨rfl, rfl⟩)
    go_ret2
    exact ⟨rfl, rfl⟩
  · have b0 := hL.lo p
    have b1 := hL.hi p
    obtain ⟨z1, n1, n4, z2⟩ := first_good (f p) b0 b1 hz
    clear z1 z2
    obtain ⟨n, hn⟩ : ∃ n : Nat, (n : Int) = stN (f p) := ⟨(stN (f p)).toNat, by omega⟩
    rw [← hn] at hl n1 n4
    have HN : Hid ((n : Int) = stN ((fun i => f (p + i)) 0)) := hn
    have HZ : Hid (stN ((fun i => f (p + i)) 0) ≠ 0) := hz
    have HP := stepF_part (len - p) (fun i => f (p + i)) b0 b1
    have HW := stepF_whole (len - p) (fun i => f (p + i)) b0 b1 HZ.out
    have hne : ((n : Int) == 0) = false := by simp; omega
    have hsec := fun d w => second_any (f p) d w
    have HPN := passed_next (len - p) (fun i => f (p + i))
    clear hn hz
    generalize hS : stepF (len - p) (fun i => f (p + i)) = S at *
    go_enter Tryz.func28, Tryz.ntmps28
    go_wp2_with (go_at_call 41; refine (hl _).mono ?_; rintro e w' ⟨rfl, rfl⟩)
    go_loop [7] (fun i => ∃ j : Nat, 1 ≤ j ∧ j ≤ n ∧ i = .int .i64 j ∧ Hid (passed (len - p) (fun i => f (p + i)) j)) (fun i => n - (intOf i).toNat)
    case atStart => exact ⟨1, by omega, by omega, rfl, passed_one _ _⟩
    case round =>
      obtain ⟨j, hj1, hjn, rfl, HJ⟩ := hrel
      by_cases hlt : j < n
      · have hjs : (j : Int) < stN ((fun i => f (p + i)) 0) := by rw [← HN.out]; omega
        by_cases hle : p + j < len
        · have cj : w.cell? ⟨b, off + (p + j), none⟩ = some (.int .u8 (f (p + j))) := hL.cell (p + j) hle
          have hle' : (p : Int) + (j : Int) < (len : Int) := by omega
          have hne' : ((p : Int) + (j : Int) == (len : Int)) = false := by simp; omega
          by_cases hj : j = 1
          · subst hj
            have ga : (p : Int) + 1 < (len : Int) := by omega
            have gb : ((p : Int) + 1 == (len : Int)) = false := by simp; omega
            have gc : (1 : Int) < (n : Int) := by omega
            clear hle' hne'
            cases hs : secB (f p) (f (p + 1))
            · have HF : Hid (S = (1, false)) := by
                show S = _
                rw [HP 1 (by omega) hjs HJ.out (.inr (.inr (by simpa [okAt] using hs)))]
              have h2 := hsec (f (p + 1))
              rw [hs] at h2
              clear hs HP HW HPN hjs
              go_wp2_with (go_at_call 42; refine (h2 _).mono ?_; rintro e w' ⟨rfl, rfl⟩)
              go_ret2
              exact ⟨ret_ib (by rw [HF.out]; rfl) (by rw [HF.out]), rfl⟩
            · have HF : Hid (passed (len - p) (fun i => f (p + i)) 2) := HPN 1 (by omega) (by omega) (secB_fol _ _ hs) (by simpa [okAt] using hs) HJ.out
              have h2 := hsec (f (p + 1))
              rw [hs] at h2
              clear hs HP HW HPN hjs
              go_wp2_with (go_at_call 42; refine (h2 _).mono ?_; rintro e w' ⟨rfl, rfl⟩)
              go_round
              case rel => exact ⟨2, by omega, by omega, rfl, HF⟩
              case measure => simp [intOf]; omega
          · have hj2 : (1 : Int) < (j : Int) := by omega
            have hjE : ((j : Int) == 1) = false := by simp; omega
            have hok : okAt (fun i => f (p + i)) j = true := by simp [okAt, hj]
            by_cases k1 : f (p + j) < 128
            · have HF : Hid (S = (j, false)) := by
                show S = _
                rw [HP j hj1 hjs HJ.out (.inr (.inl (by rw [← Bool.not_eq_true, folB_iff]; omega)))]
              clear HP HW HPN hjs hok
              go_wp2
              go_ret2
              exact ⟨ret_ib (by rw [HF.out]) (by rw [HF.out]), rfl⟩
            · by_cases k2 : 191 < f (p + j)
              · have HF : Hid (S = (j, false)) := by
                  show S = _
                  rw [HP j hj1 hjs HJ.out (.inr (.inl (by rw [← Bool.not_eq_true, folB_iff]; omega)))]
                clear HP HW HPN hjs hok
                go_wp2
                go_ret2
                exact ⟨ret_ib (by rw [HF.out]) (by rw [HF.out]), rfl⟩
              · have HF : Hid (passed (len - p) (fun i => f (p + i)) (j + 1)) := HPN j hj1 (by omega) (by rw [folB_iff]; omega) hok HJ.out
                clear HP HW HPN hjs hok
                go_wp2
                go_round
                case rel => exact ⟨j + 1, by omega, by omega, by go_num, HF⟩
                case measure => simp [intOf]; omega
        · have HF : Hid (S = (j, false)) := by
            show S = _
            rw [HP j hj1 hjs HJ.out (.inl (by omega))]
          have hjl : ((p : Int) + (j : Int) == (len : Int)) = true := by
            obtain ⟨q2, q3, q4⟩ := HJ.out
            simp; omega
          have hub : p + j ≤ len := by
            obtain ⟨q2, q3, q4⟩ := HJ.out
            omega
          clear HP HW HPN hjs
          go_wp2
          go_ret2
          exact ⟨ret_ib (by rw [HF.out]) (by rw [HF.out]), rfl⟩
      · have e : j = n := by omega
        subst e
        have HF : Hid (S = (j, true)) := by
          show S = _
          rw [HW j HN.out HJ.out]
        clear HP HW HPN
        go_wp2
        go_ret2
        exact ⟨ret_ib (by rw [HF.out]) (by rw [HF.out]), rfl⟩
end Go.Proofs.YthbbkcdlcpbepaaGreatDoor

namespace Go.Proofs.YthbbkcdlcpbepaaGreatDoor
open Go.RowKit

set_option maxHeartbeats 400000 in
theorem rgood_some (b off len cap : Nat) (f : Nat → Int) (w : World) (hL : Lies w b off len f) (hc : len ≤ cap) (hm : cap ≤ maxLen) :
    Calls Tryz.prog 27 #[.slice (some ⟨b, off, none⟩) len cap] w fun e w' => e = .returned (.tuple #[.int .i64 ((good len f).1 : Nat), .bool (good len f).2]) ∧ w = w' := by
  unfold maxLen at hm
  go_enter Tryz.func27, Tryz.ntmps27
  go_wp2
  go_loop [4] (fun t => ∃ p k : Nat, p ≤ len ∧ t = .int .i64 p ∧ len ≤ p + k ∧ Hid (goodF len f k p = good len f)) (fun t => len - (intOf t).toNat)
  case atStart => exact ⟨0, len, by omega, rfl, by omega, (rfl : goodF len f len 0 = good len f)⟩
  case round =>
    obtain ⟨p, k, hp, rfl, hk, HG⟩ := hrel
    by_cases hlt : p < len
    · obtain ⟨k', rfl⟩ : ∃ k', k = k' + 1 := ⟨k - 1, by omega⟩
      have hb := rstep_any b off len cap p f w hL hlt (by unfold maxLen; omega)
      have s1 := stepF_le (len - p) (fun i => f (p + i)) (by omega)
      have hG := HG.out
      clear HG
      unfold goodF at hG
      rw [if_neg (by omega)] at hG
      have s2 := stepF_pos (len - p) (fun i => f (p + i))
      generalize stepF (len - p) (fun i => f (p + i)) = s at *
      obtain ⟨a, t⟩ := s
      cases t
      · have hF : (p + a, false) = good len f := by simpa using hG
        have HF : Hid ((p + a, false) = good len f) := hF
        clear hF hG s2
        go_wp2_with (go_at_call 28; refine hb.mono ?_; rintro e w' ⟨rfl, rfl⟩)
        go_ret2
        exact ⟨ret_ib (by rw [← HF.out]; rfl) (by rw [← HF.out]), rfl⟩
      · have hF : goodF len f k' (p + a) = good len f := by simpa using hG
        have HF : Hid (goodF len f k' (p + a) = good len f) := hF
        have s3 : 1 ≤ a := s2 rfl
        have s4 : a ≤ len - p := s1
        clear hF hG s2 s1
        go_wp2_with (go_at_call 28; refine hb.mono ?_; rintro e w' ⟨rfl, rfl⟩)
        go_round
        case rel => exact ⟨p + a, k', by omega, by go_num, by omega, HF⟩
        case measure => simp [intOf]; omega
    · have e : p = len := by omega
      subst e
      have HF : Hid ((p, true) = good p f) := by
        have := HG.out
        cases k
        · exact this
        · unfold goodF at this; rw [if_pos (by omega)] at this; exact this
      clear HG
      go_wp2
      go_ret2
      exact ⟨ret_ib (by rw [← HF.out]) (by rw [← HF.out]), rfl⟩

set_option maxHeartbeats 400000 in
theorem rgood_any (v : Value) (len : Nat) (f : Nat → Int) (w : World) (hR : Row w v len f) :
    Calls Tryz.prog 27 #[v] w fun e w' => e = .returned (.tuple #[.int .i64 ((good len f).1 : Nat), .bool (good len f).2]) ∧ w = w' := by
  rcases hR with ⟨rfl, a, cap, rfl, _⟩ | ⟨b, off, cap, rfl, hc, hm, hL⟩
  · go_enter Tryz.func27, Tryz.ntmps27
    go_wp2
    refine wp_loop_rounds 1 ?_
    rw [rounds_succ]
    go_wp2
    go_ret2
    exact ⟨rfl, rfl⟩
  · exact rgood_some b off len cap f w hL hc hm

theorem i64_or_add (X Y : Int) (i : Nat) (h0 : 0 ≤ X) (h1 : 0 ≤ Y) (hx : X.toNat % 2 ^ i = 0) (hy : Y.toNat < 2 ^ i) (hs : X + Y < 4611686018427387904) : bits .or .i64 X Y = X + Y := by
  obtain ⟨a, rfl⟩ := Int.eq_ofNat_of_zero_le h0
  obtain ⟨b, rfl⟩ := Int.eq_ofNat_of_zero_le h1
  have := i64_or_nat a b i (by simpa using hx) (by simpa using hy) (by omega)
  simpa using this
theorem i64_and31 (x : Int) (h0 : 0 ≤ x) (h : x < 4611686018427387904) : bits .and .i64 x 31 = x % 32 := by
  obtain ⟨a, rfl⟩ := Int.eq_ofNat_of_zero_le h0
  show IntKind.i64.wrap ((BitVec.ofInt 64 (a : Int) &&& BitVec.ofInt 64 ((31 : Nat) : Int)).toNat : Int) = _
  rw [BitVec.toNat_and, ofInt_u64 a (by omega), ofInt_u64 31 (by omega), nat_mask5]
  rw [Lib.wrap_i64_small _ (by omega)]
  omega
theorem i64_and15 (x : Int) (h0 : 0 ≤ x) (h : x < 4611686018427387904) : bits .and .i64 x 15 = x % 16 := by
  obtain ⟨a, rfl⟩ := Int.eq_ofNat_of_zero_le h0
  show IntKind.i64.wrap ((BitVec.ofInt 64 (a : Int) &&& BitVec.ofInt 64 ((15 : Nat) : Int)).toNat : Int) = _
  rw [BitVec.toNat_and, ofInt_u64 a (by omega), ofInt_u64 15 (by omega), nat_mask4]
  rw [Lib.wrap_i64_small _ (by omega)]
  omega
theorem i64_and7 (x : Int) (h0 : 0 ≤ x) (h : x < 4611686018427387904) : bits .and .i64 x 7 = x % 8 := by
  obtain ⟨a, rfl⟩ := Int.eq_ofNat_of_zero_le h0
  show IntKind.i64.wrap ((BitVec.ofInt 64 (a : Int) &&& BitVec.ofInt 64 ((7 : Nat) : Int)).toNat : Int) = _
  rw [BitVec.toNat_and, ofInt_u64 a (by omega), ofInt_u64 7 (by omega), nat_mask3]
  rw [Lib.wrap_i64_small _ (by omega)]
  omega
end Go.Proofs.YthbbkcdlcpbepaaGreatDoor
