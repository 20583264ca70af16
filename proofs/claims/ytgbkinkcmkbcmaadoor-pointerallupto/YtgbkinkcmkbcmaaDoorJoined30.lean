/-
  What ref.length, ref.second, ref.step and ref.Good answer: the same step, and the same good beginning. No condition.
-/
import Derived.Test.YtgbkinkcmkbcmaaDoorJoined5
namespace Go.Proofs.YtgbkinkcmkbcmaaDoor
open Go.RowKit

set_option maxHeartbeats 400000 in
theorem rlength_any (c : Int) (w : World) :
    Calls Tryd.prog 72 #[.int .u8 c] w fun e w' => e = .returned (.int .i64 (stN c)) ∧ w = w' := by
  go_enter Tryd.func72, Tryd.ntmps72
  go_wp2
  all_goals go_ret
  all_goals refine ⟨ret_int ?_, rfl⟩
  all_goals unfold stN
  all_goals repeat' split
  all_goals omega

theorem secB_mk (c d : Int) (x : Bool) (lo hi : Int) (h1 : (if c = 224 then (160 : Int) else if c = 240 then 144 else 128) = lo) (h2 : (if c = 237 then (159 : Int) else if c = 244 then 143 else 191) = hi)
    (h : x = true ↔ (lo ≤ d ∧ d ≤ hi)) : x = secB c d := by
  rw [Bool.eq_iff_iff, h, secB_iff, h1, h2]

set_option maxHeartbeats 400000 in
theorem second_any (c d : Int) (w : World) :
    Calls Tryd.prog 73 #[.int .u8 c, .int .u8 d] w fun e w' => e = .returned (.bool (secB c d)) ∧ w = w' := by
  by_cases h1 : c = 224
  · subst h1
    go_enter Tryd.func73, Tryd.ntmps73
    go_wp2
    all_goals go_ret
    all_goals refine ⟨ret_bool (secB_mk 224 d _ 160 191 rfl rfl ?_), rfl⟩
    all_goals (try simp only [decide_eq_true_iff, Bool.false_eq_true, false_iff])
    all_goals omega
  · by_cases h2 : c = 237
    · subst h2
      go_enter Tryd.func73, Tryd.ntmps73
      go_wp2
      all_goals go_ret
      all_goals refine ⟨ret_bool (secB_mk 237 d _ 128 159 rfl rfl ?_), rfl⟩
      all_goals (try simp only [decide_eq_true_iff, Bool.false_eq_true, false_iff])
      all_goals omega
    · by_cases h3 : c = 240
      · subst h3
        go_enter Tryd.func73, Tryd.ntmps73
        go_wp2
        all_goals go_ret
        all_goals refine ⟨ret_bool (secB_mk 240 d _ 144 191 rfl rfl ?_), rfl⟩
        all_goals (try simp only [decide_eq_true_iff, Bool.false_eq_true, false_iff])
        all_goals omega
      · by_cases h4 : c = 244
        · subst h4
          go_enter Tryd.func73, Tryd.ntmps73
          go_wp2
          all_goals go_ret
          all_goals refine ⟨ret_bool (secB_mk 244 d _ 128 143 rfl rfl ?_), rfl⟩
          all_goals (try simp only [decide_eq_true_iff, Bool.false_eq_true, false_iff])
          all_goals omega
        · have k1 : (c == 224) = false := by simpa using h1
          have k2 : (c == 237) = false := by simpa using h2
          have k3 : (c == 240) = false := by simpa using h3
          have k4 : (c == 244) = false := by simpa using h4
          have HM : Hid (∀ x : Bool, (x = true ↔ (128 ≤ d ∧ d ≤ 191)) → x = secB c d) := fun x h => secB_mk c d x 128 191 (by rw [if_neg h1, if_neg h3]) (by rw [if_neg h2, if_neg h4]) h
          clear h1 h2 h3 h4
          go_enter Tryd.func73, Tryd.ntmps73
          go_wp2
          all_goals go_ret
          all_goals refine ⟨ret_bool (HM.out _ ?_), rfl⟩
          all_goals (try simp only [decide_eq_true_iff, Bool.false_eq_true, false_iff])
          all_goals omega

set_option maxHeartbeats 1000000 in
theorem rstep_any (b off len cap p : Nat) (f : Nat → Int) (w : World) (hL : Lies w b off len f) (hp : p < len) (hm : len ≤ maxLen) :
    Calls Tryd.prog 61 #[.slice (some ⟨b, off, none⟩) len cap, .int .i64 (p : Int)] w fun e w' => e = .returned (.tuple #[.int .i64 ((stepF (len - p) fun i => f (p + i)).1 : Nat), .bool (stepF (len - p) fun i => f (p + i)).2]) ∧ w = w' := by
  unfold maxLen at hm
  have c0 : w.cell? ⟨b, off + p, none⟩ = some (.int .u8 (f p)) := hL.cell p hp
  have hpI : (p : Int) < (len : Int) := by omega
  have hl := fun w => rlength_any (f p) w
  by_cases hz : stN (f p) = 0
  · have hs := stepF_none (len - p) (fun i => f (p + i)) hz
    rw [hs]
    rw [hz] at hl
    clear hs hz
    go_enter Tryd.func61, Tryd.ntmps61
    go_wp2_with (go_at_call 72; refine (hl _).mono ?_; rintro e w' ⟨rfl, rfl⟩)
    go_ret2
    exact ⟨rfl, rfl⟩
  · have b0 := hL.lo p
    have b1 := hL.hi p
    obtain ⟨z1, n1, n4, z2⟩ := first_good (f p) b0 b1 hz
    clear z1 z2
    obtain ⟨n, hn⟩ : ∃ n : Nat, (n : Int) = stN (f p) := ⟨(stN (f p)).toNat, by omega⟩
    rw [← hn] at hl n1 n4
    have HN : Hid ((n : Int) = stN ((fun i => f (p + i)) 0)) := hn
    have HZ : Hid (stN ((fun i => f (p + i)) 0) ≠ 0) := hz
    have HP := stepF_part (len - p) (fun i => f (p + i)) b0 b1
    have HW := stepF_whole (len - p) (fun i => f (p + i)) b0 b1 HZ.out
    have hne : ((n : Int) == 0) = false := by simp; omega
    have hsec := fun d w => second_any (f p) d w
    have HPN := passed_next (len - p) (fun i => f (p + i))
    clear hn hz
    generalize hS : stepF (len - p) (fun i => f (p + i)) = S at *
    go_enter Tryd.func61, Tryd.ntmps61
    go_wp2_with (go_at_call 72; refine (hl _).mono ?_; rintro e w' ⟨rfl, rfl⟩)
    go_loop [7] (fun i => ∃ j : Nat, 1 ≤ j ∧ j ≤ n ∧ i = .int .i64 j ∧ Hid (passed (len - p) (fun i => f (p + i)) j)) (fun i => n - (intOf i).toNat)
    case atStart => exact ⟨1, by omega, by omega, rfl, passed_one _ _⟩
    case round =>
      obtain ⟨j, hj1, hjn, rfl, HJ⟩ := hrel
      by_cases hlt : j < n
      · have hjs : (j : Int) < stN ((fun i => f (p + i)) 0) := by rw [← HN.out]; omega
        by_cases hle : p + j < len
        · have cj : w.cell? ⟨b, off + (p + j), none⟩ = some (.int .u8 (f (p + j))) := hL.cell (p + j) hle
          have hle' : (p : Int) + (j : Int) < (len : Int) := by omega
          have hne' : ((p : Int) + (j : Int) == (len : Int)) = false := by simp; omega
          by_cases hj : j = 1
          · subst hj
            have ga : (p : Int) + 1 < (len : Int) := by omega
            have gb : ((p : Int) + 1 == (len : Int)) = false := by simp; omega
            have gc : (1 : Int) < (n : Int) := by omega
            clear hle' hne'
            cases hs : secB (f p) (f (p + 1))
            · have HF : Hid (S = (1, false)) := by
                show S = _
                rw [HP 1 (by omega) hjs HJ.out (.inr (.inr (by simpa [okAt] using hs)))]
              have h2 := hsec (f (p + 1))
              rw [hs] at h2
              clear hs HP HW HPN hjs
              go_wp2_with (go_at_call 73; refine (h2 _).mono ?_; rintro e w' ⟨rfl, rfl⟩)
              go_ret2
              exact ⟨ret_ib (by rw [HF.out]; rfl) (by rw [HF.out]), rfl⟩
            · have HF : Hid (passed (len - p) (fun i => f (p + i)) 2) := HPN 1 (by omega) (by omega) (secB_fol _ _ hs) (by simpa [okAt] using hs) HJ.out
              have h2 := hsec (f (p + 1))
              rw [hs] at h2
              clear hs HP HW HPN hjs
              go_wp2_with (go_at_call 73; refine (h2 _).mono ?_; rintro e w' ⟨rfl, rfl⟩)
              go_round
              case rel => exact ⟨2, by omega, by omega, rfl, HF⟩
              case measure => simp [intOf]; omega
          · have hj2 : (1 : Int) < (j : Int) := by omega
            have hjE : ((j : Int) == 1) = false := by simp; omega
            have hok : okAt (fun i => f (p + i)) j = true := by simp [okAt, hj]
            by_cases k1 : f (p + j) < 128
            · have HF : Hid (S = (j, false)) := by
                show S = _
                rw [HP j hj1 hjs HJ.out (.inr (.inl (by rw [← Bool.not_eq_true, folB_iff]; omega)))]
              clear HP HW HPN hjs hok
              go_wp2
              go_ret2
              exact ⟨ret_ib (by rw [HF.out]) (by rw [HF.out]), rfl⟩
            · by_cases k2 : 191 < f (p + j)
              · have HF : Hid (S = (j, false)) := by
                  show S = _
                  rw [HP j hj1 hjs HJ.out (.inr (.inl (by rw [← Bool.not_eq_true, folB_iff]; omega)))]
                clear HP HW HPN hjs hok
                go_wp2
                go_ret2
                exact ⟨ret_ib (by rw [HF.out]) (by rw [HF.out]), rfl⟩
              · have HF : Hid (passed (len - p) (fun i => f (p + i)) (j + 1)) := HPN j hj1 (by omega) (by rw [folB_iff]; omega) hok HJ.out
                clear HP HW HPN hjs hok
                go_wp2
                go_round
                case rel => exact ⟨j + 1, by omega, by omega, by go_num, HF⟩
                case measure => simp [intOf]; omega
        · have HF : Hid (S = (j, false)) := by
            show S = _
            rw [HP j hj1 hjs HJ.out (.inl (by omega))]
          have hjl : ((p : Int) + (j : Int) == (len : Int)) = true := by
            obtain ⟨q2, q3, q4⟩ := HJ.out
            simp; omega
          have hub : p + j ≤ len := by
            obtain ⟨q2, q3, q4⟩ := HJ.out
            omega
          clear HP HW HPN hjs
          go_wp2
          go_ret2
          exact ⟨ret_ib (by rw [HF.out]) (by rw [HF.out]), rfl⟩
      · have e : j = n := by omega
        subst e
        have HF : Hid (S = (j, true)) := by
          show S = _
          rw [HW j HN.out HJ.out]
        clear HP HW HPN
        go_wp2
        go_ret2
        exact ⟨ret_ib (by rw [HF.out]) (by rw [HF.out]), rfl⟩
end Go.Proofs.YtgbkinkcmkbcmaaDoor
