/-
  What ref8.scheme and ref8.bytes answer. Conditions: at most 2^62 bytes; `%` is not among the other bytes.
-/
import Derived.Test.YtgmigdfkdioalaaUR1
namespace Go.Proofs.Ytgmigdfkdioalaa
open Go.RowKit
attribute [local go_sem] setCell_drewN alloc_drewN

set_option maxRecDepth 100000 in
set_option maxHeartbeats 1600000 in
theorem rscheme_any (s : ByteArray) (w : World) (hs : s.size ≤ 4611686018427387904) :
    Calls Try.prog 27 #[.string s] w fun e w' => e = .returned (.bool (schOk s.data.toList)) ∧ w' = w := by
  have hl := len_of s
  have hmI : (s.size : Int) ≤ 4611686018427387904 := by omega
  go_enter Try.func27, Try.ntmps27
  go_wp2_with fail
  go_loopw [3] (fun t wr => ∃ i : Nat, i ≤ s.size ∧ t = .int .i64 i ∧ Hid (schOk s.data.toList = allF (schAt s.data.toList) (s.size - i) i) ∧ wr = w) (fun t _ => s.size - (intOf t).toNat)
  case atStart => exact ⟨0, Nat.zero_le _, rfl, by show _ = _; rw [← hl]; rfl, rfl⟩
  case round =>
    obtain ⟨i, hi, rfl, HD, rfl⟩ := hrel
    by_cases hlt : i < s.size
    · have hI : (i : Int) < (s.size : Int) := by omega
      have h0 : (0 : Int) ≤ (i : Int) := by omega
      have hx := bx_at s i hlt
      have hd := HD.out
      rw [allF_go hlt] at hd
      have hat : schAt s.data.toList i = (isL (bx s.data.toList i) || (!(i == 0) && (isD (bx s.data.toList i) || memB [43, 45, 46] (bx s.data.toList i)))) := rfl
      have hZ : ((i : Int) == 0) = (i == 0) := by rw [Bool.eq_iff_iff, beq_iff_eq, beq_iff_eq]; omega
      have f1 := fun w' => rletter_any (bx s.data.toList i) w'
      have f2 := fun w' => rdigit_any (bx s.data.toList i) w'
      have f3 : ∀ w', Calls Try.prog 47 #[.int .u8 (bx s.data.toList i), .string ⟨#[43, 45, 46]⟩] w' fun e w2 => e = .returned (.bool (memB [43, 45, 46] (bx s.data.toList i))) ∧ w2 = w' := fun w' => rin_any ⟨#[43, 45, 46]⟩ (bx s.data.toList i) w' (bx_lo _ _) (bx_hi _ _) (by decide)
      generalize memB [43, 45, 46] (bx s.data.toList i) = m at *
      generalize isL (bx s.data.toList i) = p at *
      generalize isD (bx s.data.toList i) = q at *
      generalize bx s.data.toList i = c at *
      clear HD
      cases p
      · cases hz : (i == 0)
        · rw [hz] at hZ
          cases q
          · cases m
            · skip
              have HN : Hid (schOk s.data.toList = false) := by show _ = _; rw [hd, hat, hz]; simp
              clear hd hat
              go_wp2_with first | (go_at_call 45; refine (f1 _).mono ?_; rintro e w2 ⟨rfl, rfl⟩) | (go_at_call 46; refine (f2 _).mono ?_; rintro e w2 ⟨rfl, rfl⟩) | (go_at_call 47; refine (f3 _).mono ?_; rintro e w2 ⟨rfl, rfl⟩)
              go_ret
              exact ⟨r_bool HN.out.symm, rfl⟩
            · skip
              have HN : Hid (schOk s.data.toList = allF (schAt s.data.toList) (s.size - (i + 1)) (i + 1)) := by show _ = _; rw [hd, hat, hz]; simp
              clear hd hat
              go_wp2_with first | (go_at_call 45; refine (f1 _).mono ?_; rintro e w2 ⟨rfl, rfl⟩) | (go_at_call 46; refine (f2 _).mono ?_; rintro e w2 ⟨rfl, rfl⟩) | (go_at_call 47; refine (f3 _).mono ?_; rintro e w2 ⟨rfl, rfl⟩)
              go_roundw
              case rel => exact ⟨i + 1, by omega, by go_num, HN, trivial⟩
              case measure => simp [intOf]; omega
          · skip
            have HN : Hid (schOk s.data.toList = allF (schAt s.data.toList) (s.size - (i + 1)) (i + 1)) := by show _ = _; rw [hd, hat, hz]; simp
            clear hd hat
            go_wp2_with first | (go_at_call 45; refine (f1 _).mono ?_; rintro e w2 ⟨rfl, rfl⟩) | (go_at_call 46; refine (f2 _).mono ?_; rintro e w2 ⟨rfl, rfl⟩) | (go_at_call 47; refine (f3 _).mono ?_; rintro e w2 ⟨rfl, rfl⟩)
            go_roundw
            case rel => exact ⟨i + 1, by omega, by go_num, HN, trivial⟩
            case measure => simp [intOf]; omega
        · rw [hz] at hZ
          have HN : Hid (schOk s.data.toList = false) := by show _ = _; rw [hd, hat, hz]; simp
          clear hd hat
          go_wp2_with first | (go_at_call 45; refine (f1 _).mono ?_; rintro e w2 ⟨rfl, rfl⟩) | (go_at_call 46; refine (f2 _).mono ?_; rintro e w2 ⟨rfl, rfl⟩) | (go_at_call 47; refine (f3 _).mono ?_; rintro e w2 ⟨rfl, rfl⟩)
          go_ret
          exact ⟨r_bool HN.out.symm, rfl⟩
      · skip
        have HN : Hid (schOk s.data.toList = allF (schAt s.data.toList) (s.size - (i + 1)) (i + 1)) := by show _ = _; rw [hd, hat]; simp
        clear hd hat
        go_wp2_with first | (go_at_call 45; refine (f1 _).mono ?_; rintro e w2 ⟨rfl, rfl⟩) | (go_at_call 46; refine (f2 _).mono ?_; rintro e w2 ⟨rfl, rfl⟩) | (go_at_call 47; refine (f3 _).mono ?_; rintro e w2 ⟨rfl, rfl⟩)
        go_roundw
        case rel => exact ⟨i + 1, by omega, by go_num, HN, trivial⟩
        case measure => simp [intOf]; omega
    · have hI : ¬ (i : Int) < (s.size : Int) := by omega
      have HN : Hid (schOk s.data.toList = true) := by show _ = _; rw [HD.out, show s.size - i = 0 by omega]; rfl
      clear HD
      go_wp2
      go_ret
      exact ⟨r_bool HN.out.symm, rfl⟩

def sg17 : List UInt8 := [45, 46, 95, 126, 33, 36, 38, 39, 40, 41, 42, 43, 44, 59, 61, 58, 64]
def rOk (others : List UInt8) (c : Int) : Bool := isL c || isD c || memB sg17 c || memB others c
theorem rOk37 {o : List UInt8} (h : memB o 37 = false) : rOk o 37 = false := by
  unfold rOk
  rw [h]
  decide +kernel

set_option maxRecDepth 100000 in
set_option maxHeartbeats 3200000 in
theorem rbytes_any (s p : ByteArray) (w : World) (hs : s.size ≤ 4611686018427387904) (hp : p.size ≤ 4611686018427387904) (h37 : memB p.data.toList 37 = false) :
    Calls Try.prog 28 #[.string s, .string p] w fun e w' => e = .returned (.bool (plainL (rOk p.data.toList) s.data.toList)) ∧ w' = w := by
  have hl := len_of s
  have hmI : (s.size : Int) ≤ 4611686018427387904 := by omega
  have hr37 := rOk37 h37
  go_enter Try.func28, Try.ntmps28
  go_wp2_with fail
  go_loopw [5] (fun t wr => ∃ i : Nat, i ≤ s.size ∧ t = .int .i64 i ∧ Hid (plainL (rOk p.data.toList) s.data.toList = plainL (rOk p.data.toList) (s.data.toList.drop i)) ∧ wr = w) (fun t _ => s.size - (intOf t).toNat)
  case atStart => exact ⟨0, Nat.zero_le _, rfl, by show _ = _; rw [List.drop_zero], rfl⟩
  case round =>
    obtain ⟨i, hi, rfl, HD, rfl⟩ := hrel
    by_cases hlt : i < s.size
    · have hI : (i : Int) < (s.size : Int) := by omega
      have h0 : (0 : Int) ≤ (i : Int) := by omega
      have hx := bx_at s i hlt
      have hlt2 : i < s.data.toList.length := by omega
      have hgo := plain_go (ok := rOk p.data.toList) hlt2
      have hno := plain_no (ok := rOk p.data.toList) hlt2
      rw [← HD.out] at hgo hno
      have hat : rOk p.data.toList (bx s.data.toList i) = (isL (bx s.data.toList i) || isD (bx s.data.toList i) || memB sg17 (bx s.data.toList i) || memB p.data.toList (bx s.data.toList i)) := rfl
      have h37' : (bx s.data.toList i == 37) = true → rOk p.data.toList (bx s.data.toList i) = false := fun h => by rw [beq_iff_eq.1 h]; exact hr37
      rw [hl] at hno
      have f1 := fun w' => rletter_any (bx s.data.toList i) w'
      have f2 := fun w' => rdigit_any (bx s.data.toList i) w'
      have f3 : ∀ w', Calls Try.prog 47 #[.int .u8 (bx s.data.toList i), .string ⟨#[45, 46, 95, 126, 33, 36, 38, 39, 40, 41, 42, 43, 44, 59, 61, 58, 64]⟩] w' fun e w2 => e = .returned (.bool (memB sg17 (bx s.data.toList i))) ∧ w2 = w' := fun w' => rin_any ⟨#[45, 46, 95, 126, 33, 36, 38, 39, 40, 41, 42, 43, 44, 59, 61, 58, 64]⟩ (bx s.data.toList i) w' (bx_lo _ _) (bx_hi _ _) (by decide)
      have f4 := fun w' => rin_any p (bx s.data.toList i) w' (bx_lo _ _) (bx_hi _ _) hp
      generalize memB sg17 (bx s.data.toList i) = m3 at *
      generalize memB p.data.toList (bx s.data.toList i) = m4 at *
      generalize isL (bx s.data.toList i) = b1 at *
      generalize isD (bx s.data.toList i) = b2 at *
      generalize rOk p.data.toList (bx s.data.toList i) = ok at *
      generalize bx s.data.toList i = c at *
      clear HD
      cases hc37 : (c == 37)
      · have hok : ok = true → Hid (plainL (rOk p.data.toList) s.data.toList = plainL (rOk p.data.toList) (s.data.toList.drop (i + 1))) := hgo
        have hbad : ok = false → Hid (plainL (rOk p.data.toList) s.data.toList = false) := fun h => by
          show _ = _
          rw [hno h, hc37]; simp
        clear hgo hno h37'
        cases b1
        · cases b2
          · cases m3
            · cases m4
              · have HN := hbad (by rw [hat]; rfl)
                clear hok hbad hat
                go_wp2_with first | (go_at_call 45; refine (f1 _).mono ?_; rintro e w2 ⟨rfl, rfl⟩) | (go_at_call 46; refine (f2 _).mono ?_; rintro e w2 ⟨rfl, rfl⟩) | (go_at_call 47; (first | (with_reducible refine (f3 _).mono ?_) | (with_reducible refine (f4 _).mono ?_)); rintro e w2 ⟨rfl, rfl⟩)
                go_ret
                exact ⟨r_bool HN.out.symm, rfl⟩
              · have HN := hok (by rw [hat]; simp)
                clear hok hbad hat
                go_wp2_with first | (go_at_call 45; refine (f1 _).mono ?_; rintro e w2 ⟨rfl, rfl⟩) | (go_at_call 46; refine (f2 _).mono ?_; rintro e w2 ⟨rfl, rfl⟩) | (go_at_call 47; (first | (with_reducible refine (f3 _).mono ?_) | (with_reducible refine (f4 _).mono ?_)); rintro e w2 ⟨rfl, rfl⟩)
                go_roundw
                case rel => exact ⟨i + 1, by omega, by go_num, HN, trivial⟩
                case measure => simp [intOf]; omega
            · have HN := hok (by rw [hat]; simp)
              clear hok hbad hat
              go_wp2_with first | (go_at_call 45; refine (f1 _).mono ?_; rintro e w2 ⟨rfl, rfl⟩) | (go_at_call 46; refine (f2 _).mono ?_; rintro e w2 ⟨rfl, rfl⟩) | (go_at_call 47; (first | (with_reducible refine (f3 _).mono ?_) | (with_reducible refine (f4 _).mono ?_)); rintro e w2 ⟨rfl, rfl⟩)
              go_roundw
              case rel => exact ⟨i + 1, by omega, by go_num, HN, trivial⟩
              case measure => simp [intOf]; omega
          · have HN := hok (by rw [hat]; simp)
            clear hok hbad hat
            go_wp2_with first | (go_at_call 45; refine (f1 _).mono ?_; rintro e w2 ⟨rfl, rfl⟩) | (go_at_call 46; refine (f2 _).mono ?_; rintro e w2 ⟨rfl, rfl⟩) | (go_at_call 47; (first | (with_reducible refine (f3 _).mono ?_) | (with_reducible refine (f4 _).mono ?_)); rintro e w2 ⟨rfl, rfl⟩)
            go_roundw
            case rel => exact ⟨i + 1, by omega, by go_num, HN, trivial⟩
            case measure => simp [intOf]; omega
        · have HN := hok (by rw [hat]; simp)
          clear hok hbad hat
          go_wp2_with first | (go_at_call 45; refine (f1 _).mono ?_; rintro e w2 ⟨rfl, rfl⟩) | (go_at_call 46; refine (f2 _).mono ?_; rintro e w2 ⟨rfl, rfl⟩) | (go_at_call 47; (first | (with_reducible refine (f3 _).mono ?_) | (with_reducible refine (f4 _).mono ?_)); rintro e w2 ⟨rfl, rfl⟩)
          go_roundw
          case rel => exact ⟨i + 1, by omega, by go_num, HN, trivial⟩
          case measure => simp [intOf]; omega
      · have hq := hno (h37' hc37)
        rw [hc37] at hq
        clear hgo hno h37' hat f1 f2 f3 f4
        by_cases h2 : i + 2 < s.size
        · have i2 : ¬ (s.size : Int) ≤ (i : Int) + 2 := by omega
          have i1' : (i : Int) + 1 < (s.size : Int) := by omega
          have i2' : (i : Int) + 2 < (s.size : Int) := by omega
          have n1 : (0 : Int) ≤ (i : Int) + 1 := by omega
          have n2 : (0 : Int) ≤ (i : Int) + 2 := by omega
          have x1 := bx_at s (i + 1) (by omega)
          have x2 := bx_at s (i + 2) h2
          have t1 : ∀ h, ((s[((i : Int) + 1).toNat]'h).toNat : Int) = bx s.data.toList (i + 1) := fun h => by rw [← x1]; congr 2
          have t2 : ∀ h, ((s[((i : Int) + 2).toNat]'h).toNat : Int) = bx s.data.toList (i + 2) := fun h => by rw [← x2]; congr 2
          have v1 : IntKind.i64.wrap ((i : Int) + 1) = (i : Int) + 1 := by rw [IntKind.wrap_i64]; omega
          have v2 : IntKind.i64.wrap ((i : Int) + 2) = (i : Int) + 2 := by rw [IntKind.wrap_i64]; omega
          have g1' := fun w' => rhex_any (bx s.data.toList (i + 1)) w' (bx_lo _ _) (bx_hi _ _)
          have g2' := fun w' => rhex_any (bx s.data.toList (i + 2)) w' (bx_lo _ _) (bx_hi _ _)
          rw [decide_eq_true h2] at hq
          generalize bx s.data.toList (i + 1) = c1 at *
          generalize bx s.data.toList (i + 2) = c2 at *
          obtain ⟨y1, z1, g1⟩ := g1' wr
          obtain ⟨y2, z2, g2⟩ := g2' wr
          clear g1' g2'
          cases hh1 : isH c1
          · rw [hh1] at z1
            have z1' : y1 < 0 := of_decide_eq_true z1
            have HN : Hid (plainL (rOk p.data.toList) s.data.toList = false) := by show _ = _; rw [hq, hh1]; simp
            clear hq hh1 z1 z2
            go_wp2_with (go_at_call 48; with_reducible refine g1.mono ?_; rintro e w2 ⟨rfl, rfl⟩)
            go_ret
            exact ⟨r_bool HN.out.symm, rfl⟩
          · rw [hh1] at z1
            have z1' : ¬ y1 < 0 := of_decide_eq_false z1
            cases hh2 : isH c2
            · rw [hh2] at z2
              have z2' : y2 < 0 := of_decide_eq_true z2
              have HN : Hid (plainL (rOk p.data.toList) s.data.toList = false) := by show _ = _; rw [hq, hh1, hh2]; simp
              clear hq hh1 hh2 z1 z2
              go_wp2_with (go_at_call 48; (first | (with_reducible refine g1.mono ?_) | (with_reducible refine g2.mono ?_)); rintro e w2 ⟨rfl, rfl⟩)
              go_ret
              exact ⟨r_bool HN.out.symm, rfl⟩
            · rw [hh2] at z2
              have z2' : ¬ y2 < 0 := of_decide_eq_false z2
              have HN : Hid (plainL (rOk p.data.toList) s.data.toList = plainL (rOk p.data.toList) (s.data.toList.drop (i + 3))) := by show _ = _; rw [hq, hh1, hh2]; simp
              clear hq hh1 hh2 z1 z2
              go_wp2_with (go_at_call 48; (first | (with_reducible refine g1.mono ?_) | (with_reducible refine g2.mono ?_)); rintro e w2 ⟨rfl, rfl⟩)
              go_roundw
              case rel => exact ⟨i + 3, by omega, by go_num, HN, trivial⟩
              case measure => simp [intOf]; omega
        · have i2 : (s.size : Int) ≤ (i : Int) + 2 := by omega
          have v2 : IntKind.i64.wrap ((i : Int) + 2) = (i : Int) + 2 := by rw [IntKind.wrap_i64]; omega
          rw [decide_eq_false h2] at hq
          have HN : Hid (plainL (rOk p.data.toList) s.data.toList = false) := by show _ = _; rw [hq]; simp
          clear hq
          go_wp2
          go_ret
          exact ⟨r_bool HN.out.symm, rfl⟩
    · have hI : ¬ (i : Int) < (s.size : Int) := by omega
      have HN : Hid (plainL (rOk p.data.toList) s.data.toList = true) := by show _ = _; rw [HD.out, List.drop_of_length_le (by omega)]; rfl
      clear HD
      go_wp2
      go_ret
      exact ⟨r_bool HN.out.symm, rfl⟩
end Go.Proofs.Ytgmigdfkdioalaa
