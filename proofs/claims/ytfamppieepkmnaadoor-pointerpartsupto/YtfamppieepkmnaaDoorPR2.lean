/-
  What ref4.Hex and ref7.Escape answer. Conditions: at most 2^38 bytes.
-/
import Derived.Test.YtfamppieepkmnaaDoorPR1
namespace Go.Proofs.YtfamppieepkmnaaDoor
open Go.RowKit
attribute [local go_sem] setCell_drewN alloc_drewN

set_option maxHeartbeats 400000 in
theorem rdigit_any (c : Int) (w : World) :
    Calls Tryd.prog 44 #[.int .u8 c] w fun r w' => r = .returned (.bool (wi c 48 57)) ∧ w' = w := by
  by_cases h1 : 48 ≤ c
  · by_cases h2 : c ≤ 57
    · go_enter Tryd.func44, Tryd.ntmps44
      go_wp2
      go_ret
      exact ⟨by simp [wi, h1, h2], rfl⟩
    · go_enter Tryd.func44, Tryd.ntmps44
      go_wp2
      go_ret
      exact ⟨by simp [wi, h1, h2], rfl⟩
  · go_enter Tryd.func44, Tryd.ntmps44
    go_wp2
    go_ret
    exact ⟨by have : decide (48 ≤ c) = false := by simpa using h1
              simp [wi, this], rfl⟩
/-- A digit of 16, as a number, or below nought. -/
def hexI (c : Int) : Int := (hexV c).getD (-1)
set_option maxHeartbeats 800000 in
theorem rhex_any (c : Int) (w : World) (h0 : 0 ≤ c) (h9 : c < 256) :
    Calls Tryd.prog 24 #[.int .u8 c] w fun e w' => e = .returned (.int .i64 (hexI c)) ∧ w' = w := by
  have hd := rdigit_any c
  by_cases a1 : 48 ≤ c ∧ c ≤ 57
  · rw [(wi_iff c 48 57).2 a1] at hd
    have HE : Hid (hexI c = c - 48) := by show _ = _; unfold hexI hexV; rw [(wi_iff c 48 57).2 a1]; rfl
    obtain ⟨b1, b2⟩ := a1
    go_enter Tryd.func24, Tryd.ntmps24
    go_wp2_with (go_at_call 44; refine (hd _).mono ?_; rintro e w' ⟨rfl, rfl⟩)
    go_ret
    exact ⟨by rw [HE.out]; rfl, rfl⟩
  · have e1 : wi c 48 57 = false := by rw [Bool.eq_false_iff, ne_eq, wi_iff]; exact a1
    rw [e1] at hd
    by_cases a2 : 97 ≤ c ∧ c ≤ 102
    · have e2 : wi c 65 70 = false := by rw [Bool.eq_false_iff, ne_eq, wi_iff]; omega
      have HE : Hid (hexI c = c - 97 + 10) := by
        show _ = _
        unfold hexI hexV; rw [e1, e2, (wi_iff c 97 102).2 a2]
        simp only [Bool.false_eq_true, if_false, if_true, Option.getD_some]; omega
      obtain ⟨b1, b2⟩ := a2
      clear a1 e1 e2
      go_enter Tryd.func24, Tryd.ntmps24
      go_wp2_with (go_at_call 44; refine (hd _).mono ?_; rintro e w' ⟨rfl, rfl⟩)
      go_ret
      exact ⟨by rw [HE.out]; rfl, rfl⟩
    · have e2 : wi c 97 102 = false := by rw [Bool.eq_false_iff, ne_eq, wi_iff]; exact a2
      by_cases a3 : 65 ≤ c ∧ c ≤ 70
      · have HE : Hid (hexI c = c - 65 + 10) := by
          show _ = _
          unfold hexI hexV; rw [e1, (wi_iff c 65 70).2 a3]
          simp only [Bool.false_eq_true, if_false, if_true, Option.getD_some]; omega
        obtain ⟨b1, b2⟩ := a3
        have b3 : ¬ 97 ≤ c := by omega
        clear a1 a2 e1 e2
        go_enter Tryd.func24, Tryd.ntmps24
        go_wp2_with (go_at_call 44; refine (hd _).mono ?_; rintro e w' ⟨rfl, rfl⟩)
        go_ret
        exact ⟨by rw [HE.out]; rfl, rfl⟩
      · have e3 : wi c 65 70 = false := by rw [Bool.eq_false_iff, ne_eq, wi_iff]; exact a3
        have HE : Hid (hexI c = -1) := by show _ = _; unfold hexI hexV; rw [e1, e2, e3]; rfl
        have ha : c < 65 ∨ (70 < c ∧ c < 97) ∨ 102 < c := by omega
        clear a1 a2 a3 e1 e2 e3
        rcases ha with r1 | ⟨r1, r2⟩ | r1
        all_goals
          go_enter Tryd.func24, Tryd.ntmps24
          go_wp2_with (go_at_call 44; refine (hd _).mono ?_; rintro e w' ⟨rfl, rfl⟩)
          go_ret
          exact ⟨by rw [HE.out]; rfl, rfl⟩

theorem hexPiece (n : Nat) (h : n < 16) : (ByteArray.mk #[48, 49, 50, 51, 52, 53, 54, 55, 56, 57, 65, 66, 67, 68, 69, 70]).extract n (n + 1) = bs [hexU (n : Int)] := by
  have : n = 0 ∨ n = 1 ∨ n = 2 ∨ n = 3 ∨ n = 4 ∨ n = 5 ∨ n = 6 ∨ n = 7 ∨ n = 8 ∨ n = 9 ∨ n = 10 ∨ n = 11 ∨ n = 12 ∨ n = 13 ∨ n = 14 ∨ n = 15 := by omega
  rcases this with rfl | rfl | rfl | rfl | rfl | rfl | rfl | rfl | rfl | rfl | rfl | rfl | rfl | rfl | rfl | rfl <;> decide +kernel

set_option maxRecDepth 100000 in
set_option maxHeartbeats 1600000 in
theorem rescape_any (s : ByteArray) (w : World) (hs : s.size ≤ 274877906944) :
    Calls Tryd.prog 14 #[.string s] w fun r w' => r = .returned (.string (bs (encL ndP codeP s.data.toList))) ∧ ∃ n, w' = w.drewN n := by
  have hmI : (s.size : Int) ≤ 274877906944 := by omega
  have hl := len_of s
  go_enter Tryd.func14, Tryd.ntmps14
  go_wp2_with fail
  go_loopw [4, 5] (fun v t wr => ∃ i : Nat, i ≤ s.size ∧ t = .int .i64 i ∧ v = .string (bs (encL ndP codeP (s.data.toList.take i))) ∧ ∃ n, wr = w.drewN n) (fun _ t _ => s.size - (intOf t).toNat)
  case atStart => exact ⟨0, Nat.zero_le _, rfl, rfl, 0, rfl⟩
  case round =>
    obtain ⟨i, hi, rfl, rfl, q, rfl⟩ := hrel
    have hz := enc_len (p := ndP) codeP_len (s.data.toList.take i)
    rw [List.length_take] at hz
    have hA : (bs (encL ndP codeP (s.data.toList.take i))).size ≤ 900000000000 := by rw [bs_size]; omega
    by_cases hlt : i < s.size
    · have hI : (i : Int) < (s.size : Int) := by omega
      have hx := bx_at s i hlt
      have h1 := fun h => enc_one (p := ndP) (code := codeP) (l := s.data.toList) (k := i) (by omega) h
      have h2 := fun h => enc_same (p := ndP) (code := codeP) (l := s.data.toList) (k := i) (by omega) h
      have hP := one_piece s i hlt
      have hpl := fun w' => rplain_any (bx s.data.toList i) w' (bx_lo _ _) (bx_hi _ _)
      cases hn : ndP (bx s.data.toList i)
      · have HT : Hid (bs (encL ndP codeP (s.data.toList.take i)) ++ s.extract i (i + 1) = bs (encL ndP codeP (s.data.toList.take (i + 1)))) := by
          show _ = _
          rw [h2 hn, hP]
          exact bs_append _ _
        have hPs : (s.extract i (i + 1)).size = 1 := by rw [hP, bs_size]; rfl
        rw [hn] at hpl
        clear h1 h2 hP hn
        generalize bs (encL ndP codeP (s.data.toList.take i)) = A at *
        generalize bx s.data.toList i = c at *
        go_wp2_with (go_at_call 34; refine (hpl _).mono ?_; rintro r w1 ⟨rfl, rfl⟩)
        go_roundw
        case rel => exact ⟨i + 1, by omega, by go_num, by rw [HT.out], q, rfl⟩
        case measure => simp [intOf]; omega
      · have c0 := bx_lo s.data.toList i
        have c1 := bx_hi s.data.toList i
        have m15 := u8m15 (bx s.data.toList i) c0 c1
        have hone := h1 hn
        rw [hn] at hpl
        clear h1 h2 hP hn
        generalize bx s.data.toList i = c at *
        have hp1 := hexPiece (c / 16).toNat (by omega)
        have hp2 := hexPiece (c % 16).toNat (by omega)
        rw [Int.toNat_of_nonneg (by omega)] at hp1 hp2
        have HT : Hid (bs (encL ndP codeP (s.data.toList.take i)) ++ ⟨#[37]⟩ ++ bs [hexU (c / 16)] ++ bs [hexU (c % 16)] = bs (encL ndP codeP (s.data.toList.take (i + 1)))) := by
          show _ = _
          rw [hone, show (⟨#[37]⟩ : ByteArray) = bs [37] from rfl, bs_append, bs_append, bs_append]
          congr 1
          simp [codeP]
        have b1 : 0 ≤ c / 16 := by omega
        have b2 : c / 16 < 16 := by omega
        have b3 : 0 ≤ c % 16 := by omega
        have b4 : c % 16 < 16 := by omega
        have z1 : (bs [hexU (c / 16)]).size = 1 := rfl
        have z2 : (bs [hexU (c % 16)]).size = 1 := rfl
        clear hone
        generalize bs (encL ndP codeP (s.data.toList.take i)) = A at *
        go_wp2_with (go_at_call 34; refine (hpl _).mono ?_; rintro r w1 ⟨rfl, rfl⟩)
        go_quiet (fail)
        go_wp2
        go_roundw
        case rel =>
          refine ⟨i + 1, by omega, by go_num, ?_, _, rfl⟩
          rw [show (c / 16 + 1).toNat = (c / 16).toNat + 1 by omega, show (c % 16 + 1).toNat = (c % 16).toNat + 1 by omega, hp1, hp2, HT.out]
        case measure => simp [intOf]; omega
    · have hI : ¬ (i : Int) < (s.size : Int) := by omega
      obtain rfl : i = s.size := by omega
      have HT : Hid (bs (encL ndP codeP (s.data.toList.take s.size)) = bs (encL ndP codeP s.data.toList)) := by show _ = _; rw [List.take_of_length_le (by omega)]
      go_wp2
      go_ret
      exact ⟨r_string HT.out, q, rfl⟩
end Go.Proofs.YtfamppieepkmnaaDoor
