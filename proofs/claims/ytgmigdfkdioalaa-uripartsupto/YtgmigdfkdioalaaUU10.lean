/-
  Which bytes may stand in a scheme and in the other parts: what uri.isScheme and uri.hasPlain answer. Conditions: at most 2^62 bytes.
-/
import Derived.Test.YtgmigdfkdioalaaUU9
namespace Go.Proofs.Ytgmigdfkdioalaa
open Go.RowKit
attribute [local go_sem] setCell_drewN alloc_drewN

/-- Is a byte in a text? -/
def memB (l : List UInt8) (c : Int) : Bool := decide (0 ≤ Lib.indexByte l c.toNat.toUInt8)
theorem memB_mem (l : List UInt8) (c : UInt8) : memB l (c.toNat : Int) = l.contains c := by
  unfold memB
  rw [u8_of, Bool.eq_iff_iff, decide_eq_true_eq, List.contains_iff_mem, ix_mem]
  rcases idx_ix l c with ⟨h1, h2⟩ | ⟨h1, h2⟩ <;> rw [h2] <;> omega
/-- All places from one on. -/
def allF (f : Nat → Bool) : Nat → Nat → Bool
  | 0, _ => true
  | k + 1, i => f i && allF f k (i + 1)
theorem allF_go {f : Nat → Bool} {n i : Nat} (h : i < n) : allF f (n - i) i = (f i && allF f (n - (i + 1)) (i + 1)) := by
  obtain ⟨k, e⟩ : ∃ k, n - i = k + 1 := ⟨n - i - 1, by omega⟩
  rw [e, show n - (i + 1) = k by omega]
  rfl
/-- May a byte stand in a scheme, at its place? -/
def schAt (l : List UInt8) (i : Nat) : Bool := isL (bx l i) || (!(i == 0) && (isD (bx l i) || memB [43, 45, 46] (bx l i)))
def schOk (l : List UInt8) : Bool := allF (schAt l) l.length 0

set_option maxRecDepth 100000 in
set_option maxHeartbeats 1600000 in
theorem isScheme_any (s : ByteArray) (w : World) (hs : s.size ≤ 4611686018427387904) :
    Calls Try.prog 42 #[.string s] w fun e w' => e = .returned (.bool (schOk s.data.toList)) ∧ w' = w := by
  have hl := len_of s
  have hmI : (s.size : Int) ≤ 4611686018427387904 := by omega
  go_enter Try.func42, Try.ntmps42
  go_wp2_with fail
  go_loopw [6] (fun t wr => ∃ i : Nat, i ≤ s.size ∧ t = .int .i64 i ∧ Hid (schOk s.data.toList = allF (schAt s.data.toList) (s.size - i) i) ∧ wr = w) (fun t _ => s.size - (intOf t).toNat)
  case atStart => exact ⟨0, Nat.zero_le _, rfl, by show _ = _; rw [← hl]; rfl, rfl⟩
  case round =>
    obtain ⟨i, hi, rfl, HD, rfl⟩ := hrel
    by_cases hlt : i < s.size
    · have hI : (i : Int) < (s.size : Int) := by omega
      have h0 : (0 : Int) ≤ (i : Int) := by omega
      have hx := bx_at s i hlt
      have hd := HD.out
      rw [allF_go hlt] at hd
      have hat : schAt s.data.toList i = (isL (bx s.data.toList i) || (!(i == 0) && (isD (bx s.data.toList i) || memB [43, 45, 46] (bx s.data.toList i)))) := rfl
      have hZ : ((i : Int) == 0) = (i == 0) := by rw [Bool.eq_iff_iff, beq_iff_eq, beq_iff_eq]; omega
      have f1 := fun w' => isLetter_any (bx s.data.toList i) w'
      have f2 := fun w' => isDigit_any (bx s.data.toList i) w'
      have f3 := fun w' => indexByte_any ⟨#[43, 45, 46]⟩ (bx s.data.toList i) w'
      have e3 : memB [43, 45, 46] (bx s.data.toList i) = decide (0 ≤ Lib.indexByte [43, 45, 46] (bx s.data.toList i).toNat.toUInt8) := rfl
      have e4 : (ByteArray.mk #[43, 45, 46]).data.toList = [43, 45, 46] := rfl
      rw [e4] at f3
      generalize memB [43, 45, 46] (bx s.data.toList i) = m at *
      generalize Lib.indexByte [43, 45, 46] (bx s.data.toList i).toNat.toUInt8 = y at *
      generalize isL (bx s.data.toList i) = p at *
      generalize isD (bx s.data.toList i) = q at *
      generalize bx s.data.toList i = c at *
      clear HD
      cases p
      · cases hz : (i == 0)
        · rw [hz] at hZ
          cases q
          · cases m
            · have hy : ¬ (0 : Int) ≤ y := of_decide_eq_false e3.symm
              have hy2 : y < 0 := by omega
              clear hy e3
              have HN : Hid (schOk s.data.toList = false) := by show _ = _; rw [hd, hat, hz]; simp
              clear hd hat
              go_wp2_with first | (go_at_call 58; refine (f1 _).mono ?_; rintro e w2 ⟨rfl, rfl⟩) | (go_at_call 59; refine (f2 _).mono ?_; rintro e w2 ⟨rfl, rfl⟩) | (go_at_call 57; refine (f3 _).mono ?_; rintro e w2 ⟨rfl, rfl⟩)
              go_ret
              exact ⟨r_bool HN.out.symm, rfl⟩
            · have hy : (0 : Int) ≤ y := of_decide_eq_true e3.symm
              have hy2 : ¬ y < 0 := by omega
              clear hy e3
              have HN : Hid (schOk s.data.toList = allF (schAt s.data.toList) (s.size - (i + 1)) (i + 1)) := by show _ = _; rw [hd, hat, hz]; simp
              clear hd hat
              go_wp2_with first | (go_at_call 58; refine (f1 _).mono ?_; rintro e w2 ⟨rfl, rfl⟩) | (go_at_call 59; refine (f2 _).mono ?_; rintro e w2 ⟨rfl, rfl⟩) | (go_at_call 57; refine (f3 _).mono ?_; rintro e w2 ⟨rfl, rfl⟩)
              go_roundw
              case rel => exact ⟨i + 1, by omega, by go_num, HN, trivial⟩
              case measure => simp [intOf]; omega
          · clear e3
            have HN : Hid (schOk s.data.toList = allF (schAt s.data.toList) (s.size - (i + 1)) (i + 1)) := by show _ = _; rw [hd, hat, hz]; simp
            clear hd hat
            go_wp2_with first | (go_at_call 58; refine (f1 _).mono ?_; rintro e w2 ⟨rfl, rfl⟩) | (go_at_call 59; refine (f2 _).mono ?_; rintro e w2 ⟨rfl, rfl⟩) | (go_at_call 57; refine (f3 _).mono ?_; rintro e w2 ⟨rfl, rfl⟩)
            go_roundw
            case rel => exact ⟨i + 1, by omega, by go_num, HN, trivial⟩
            case measure => simp [intOf]; omega
        · rw [hz] at hZ
          clear e3
          have HN : Hid (schOk s.data.toList = false) := by show _ = _; rw [hd, hat, hz]; simp
          clear hd hat
          go_wp2_with first | (go_at_call 58; refine (f1 _).mono ?_; rintro e w2 ⟨rfl, rfl⟩) | (go_at_call 59; refine (f2 _).mono ?_; rintro e w2 ⟨rfl, rfl⟩) | (go_at_call 57; refine (f3 _).mono ?_; rintro e w2 ⟨rfl, rfl⟩)
          go_ret
          exact ⟨r_bool HN.out.symm, rfl⟩
      · clear e3
        have HN : Hid (schOk s.data.toList = allF (schAt s.data.toList) (s.size - (i + 1)) (i + 1)) := by show _ = _; rw [hd, hat]; simp
        clear hd hat
        go_wp2_with first | (go_at_call 58; refine (f1 _).mono ?_; rintro e w2 ⟨rfl, rfl⟩) | (go_at_call 59; refine (f2 _).mono ?_; rintro e w2 ⟨rfl, rfl⟩) | (go_at_call 57; refine (f3 _).mono ?_; rintro e w2 ⟨rfl, rfl⟩)
        go_roundw
        case rel => exact ⟨i + 1, by omega, by go_num, HN, trivial⟩
        case measure => simp [intOf]; omega
    · have hI : ¬ (i : Int) < (s.size : Int) := by omega
      have HN : Hid (schOk s.data.toList = true) := by show _ = _; rw [HD.out, show s.size - i = 0 by omega]; rfl
      clear HD
      go_wp2
      go_ret
      exact ⟨r_bool HN.out.symm, rfl⟩

/-- May all bytes stand in a part? -/
def plainL (ok : Int → Bool) : List UInt8 → Bool
  | [] => true
  | c :: t => if ok (c.toNat : Int) then plainL ok t else match t with
    | a :: b :: r => c == 37 && isH (a.toNat : Int) && isH (b.toNat : Int) && plainL ok r
    | _ => false
theorem plainL_ok {ok : Int → Bool} {c : UInt8} (t : List UInt8) (h : ok (c.toNat : Int) = true) : plainL ok (c :: t) = plainL ok t := by
  cases t with
  | nil => simp [plainL, h]
  | cons a t => cases t <;> simp [plainL, h]
theorem plainL_pc {ok : Int → Bool} {c : UInt8} (a b : UInt8) (r : List UInt8) (h : ok (c.toNat : Int) = false) : plainL ok (c :: a :: b :: r) = (c == 37 && isH (a.toNat : Int) && isH (b.toNat : Int) && plainL ok r) := by simp [plainL, h]
theorem plainL_sh {ok : Int → Bool} {c : UInt8} {t : List UInt8} (h : ok (c.toNat : Int) = false) (ht : t.length ≤ 1) : plainL ok (c :: t) = false := by
  cases t with
  | nil => simp [plainL, h]
  | cons a t =>
    cases t with
    | nil => simp [plainL, h]
    | cons b t => simp at ht
theorem plain_go {ok : Int → Bool} {l : List UInt8} {i : Nat} (h : i < l.length) (hk : ok (bx l i) = true) : plainL ok (l.drop i) = plainL ok (l.drop (i + 1)) := by
  rw [List.drop_eq_getElem_cons h, plainL_ok _ (by rw [← bx_get l i h]; exact hk)]
theorem plain_no {ok : Int → Bool} {l : List UInt8} {i : Nat} (h : i < l.length) (hk : ok (bx l i) = false) : plainL ok (l.drop i) = (((bx l i == 37 && decide (i + 2 < l.length)) && isH (bx l (i + 1))) && isH (bx l (i + 2)) && plainL ok (l.drop (i + 3))) := by
  have hk' : ok ((l[i]'h).toNat : Int) = false := by rw [← bx_get l i h]; exact hk
  have e37 : (l[i] == 37) = (bx l i == 37) := by rw [bx_get l i h]; exact (u8_int _ 37).symm
  rw [List.drop_eq_getElem_cons h]
  by_cases h2 : i + 2 < l.length
  · rw [List.drop_eq_getElem_cons (show i + 1 < l.length by omega), List.drop_eq_getElem_cons (show i + 1 + 1 < l.length by omega), plainL_pc _ _ _ hk', e37, decide_eq_true h2, ← bx_get l (i + 1) (by omega), ← bx_get l (i + 1 + 1) (by omega), Bool.and_true]
  · rw [decide_eq_false h2, plainL_sh hk' (by rw [List.length_drop]; omega)]
    simp
def sg19 : List UInt8 := [45, 46, 95, 126, 33, 36, 38, 39, 40, 41, 42, 43, 44, 59, 61, 58, 64, 47, 63]
def pOk (others : List UInt8) (c : Int) : Bool := isL c || isD c || memB sg19 c || memB others c

set_option maxRecDepth 100000 in
set_option maxHeartbeats 3200000 in
theorem hasPlain_any (s p : ByteArray) (w : World) (hs : s.size ≤ 4611686018427387904) :
    Calls Try.prog 43 #[.string s, .string p] w fun e w' => e = .returned (.bool (plainL (pOk p.data.toList) s.data.toList)) ∧ w' = w := by
  have hl := len_of s
  have hmI : (s.size : Int) ≤ 4611686018427387904 := by omega
  go_enter Try.func43, Try.ntmps43
  go_wp2_with fail
  go_loopw [5] (fun t wr => ∃ i : Nat, i ≤ s.size ∧ t = .int .i64 i ∧ Hid (plainL (pOk p.data.toList) s.data.toList = plainL (pOk p.data.toList) (s.data.toList.drop i)) ∧ wr = w) (fun t _ => s.size - (intOf t).toNat)
  case atStart => exact ⟨0, Nat.zero_le _, rfl, by show _ = _; rw [List.drop_zero], rfl⟩
  case round =>
    obtain ⟨i, hi, rfl, HD, rfl⟩ := hrel
    by_cases hlt : i < s.size
    · have hI : (i : Int) < (s.size : Int) := by omega
      have h0 : (0 : Int) ≤ (i : Int) := by omega
      have hx := bx_at s i hlt
      have hlt2 : i < s.data.toList.length := by omega
      have hgo := plain_go (ok := pOk p.data.toList) hlt2
      have hno := plain_no (ok := pOk p.data.toList) hlt2
      rw [← HD.out] at hgo hno
      have hat : pOk p.data.toList (bx s.data.toList i) = (isL (bx s.data.toList i) || isD (bx s.data.toList i) || memB sg19 (bx s.data.toList i) || memB p.data.toList (bx s.data.toList i)) := rfl
      rw [hl] at hno
      have f1 := fun w' => isLetter_any (bx s.data.toList i) w'
      have f2 := fun w' => isDigit_any (bx s.data.toList i) w'
      have f3 : ∀ w', Calls Try.prog 57 #[.string ⟨#[45, 46, 95, 126, 33, 36, 38, 39, 40, 41, 42, 43, 44, 59, 61, 58, 64, 47, 63]⟩, .int .u8 (bx s.data.toList i)] w' fun e w2 => e = .returned (.int .i64 (Lib.indexByte sg19 (bx s.data.toList i).toNat.toUInt8)) ∧ w2 = w' := fun w' => indexByte_any ⟨#[45, 46, 95, 126, 33, 36, 38, 39, 40, 41, 42, 43, 44, 59, 61, 58, 64, 47, 63]⟩ (bx s.data.toList i) w'
      have f4 := fun w' => indexByte_any p (bx s.data.toList i) w'
      have e3 : memB sg19 (bx s.data.toList i) = decide (0 ≤ Lib.indexByte sg19 (bx s.data.toList i).toNat.toUInt8) := rfl
      have e4 : memB p.data.toList (bx s.data.toList i) = decide (0 ≤ Lib.indexByte p.data.toList (bx s.data.toList i).toNat.toUInt8) := rfl
      generalize memB sg19 (bx s.data.toList i) = m3 at *
      generalize memB p.data.toList (bx s.data.toList i) = m4 at *
      generalize Lib.indexByte sg19 (bx s.data.toList i).toNat.toUInt8 = y3 at *
      generalize Lib.indexByte p.data.toList (bx s.data.toList i).toNat.toUInt8 = y4 at *
      generalize isL (bx s.data.toList i) = b1 at *
      generalize isD (bx s.data.toList i) = b2 at *
      generalize pOk p.data.toList (bx s.data.toList i) = ok at *
      generalize bx s.data.toList i = c at *
      clear HD
      cases b1
      · cases b2
        · cases m3
          · have z3 : ¬ (0 : Int) ≤ y3 := of_decide_eq_false e3.symm
            cases m4
            · have z4 : ¬ (0 : Int) ≤ y4 := of_decide_eq_false e4.symm
              have hq := hno (by rw [hat]; rfl)
              clear hgo hno hat e3 e4
              cases h37 : (c == 37)
              · have HN : Hid (plainL (pOk p.data.toList) s.data.toList = false) := by show _ = _; rw [hq, h37]; simp
                clear hq
                go_wp2_with first | (go_at_call 58; refine (f1 _).mono ?_; rintro e w2 ⟨rfl, rfl⟩) | (go_at_call 59; refine (f2 _).mono ?_; rintro e w2 ⟨rfl, rfl⟩) | (go_at_call 57; (first | (with_reducible refine (f3 _).mono ?_) | (with_reducible refine (f4 _).mono ?_)); rintro e w2 ⟨rfl, rfl⟩)
                go_ret
                exact ⟨r_bool HN.out.symm, rfl⟩
              · by_cases h2 : i + 2 < s.size
                · have i2 : (2 : Int) < (s.size : Int) - (i : Int) := by omega
                  have i1' : (i : Int) + 1 < (s.size : Int) := by omega
                  have i2' : (i : Int) + 2 < (s.size : Int) := by omega
                  have n1 : (0 : Int) ≤ (i : Int) + 1 := by omega
                  have n2 : (0 : Int) ≤ (i : Int) + 2 := by omega
                  have x1 := bx_at s (i + 1) (by omega)
                  have x2 := bx_at s (i + 2) h2
                  have t1 : ∀ h, ((s[((i : Int) + 1).toNat]'h).toNat : Int) = bx s.data.toList (i + 1) := fun h => by rw [← x1]; congr 2
                  have t2 : ∀ h, ((s[((i : Int) + 2).toNat]'h).toNat : Int) = bx s.data.toList (i + 2) := fun h => by rw [← x2]; congr 2
                  have v1 : IntKind.i64.wrap ((i : Int) + 1) = (i : Int) + 1 := by rw [IntKind.wrap_i64]; omega
                  have v2 : IntKind.i64.wrap ((i : Int) + 2) = (i : Int) + 2 := by rw [IntKind.wrap_i64]; omega
                  have v3 : IntKind.i64.wrap ((s.size : Int) - (i : Int)) = (s.size : Int) - (i : Int) := by rw [IntKind.wrap_i64]; omega
                  have g1 := fun w' => isHex_any (bx s.data.toList (i + 1)) w'
                  have g2 := fun w' => isHex_any (bx s.data.toList (i + 2)) w'
                  rw [h37, decide_eq_true h2] at hq
                  generalize bx s.data.toList (i + 1) = c1 at *
                  generalize bx s.data.toList (i + 2) = c2 at *
                  cases hh1 : isH c1
                  · rw [hh1] at g1
                    have HN : Hid (plainL (pOk p.data.toList) s.data.toList = false) := by show _ = _; rw [hq, hh1]; simp
                    clear hq hh1
                    go_wp2_with first | (go_at_call 58; refine (f1 _).mono ?_; rintro e w2 ⟨rfl, rfl⟩) | (go_at_call 59; refine (f2 _).mono ?_; rintro e w2 ⟨rfl, rfl⟩) | (go_at_call 57; (first | (with_reducible refine (f3 _).mono ?_) | (with_reducible refine (f4 _).mono ?_)); rintro e w2 ⟨rfl, rfl⟩) | (go_at_call 60; (first | (with_reducible refine (g1 _).mono ?_) | (with_reducible refine (g2 _).mono ?_)); rintro e w2 ⟨rfl, rfl⟩)
                    go_ret
                    exact ⟨r_bool HN.out.symm, rfl⟩
                  · rw [hh1] at g1
                    cases hh2 : isH c2
                    · rw [hh2] at g2
                      have HN : Hid (plainL (pOk p.data.toList) s.data.toList = false) := by show _ = _; rw [hq, hh1, hh2]; simp
                      clear hq hh1 hh2
                      go_wp2_with first | (go_at_call 58; refine (f1 _).mono ?_; rintro e w2 ⟨rfl, rfl⟩) | (go_at_call 59; refine (f2 _).mono ?_; rintro e w2 ⟨rfl, rfl⟩) | (go_at_call 57; (first | (with_reducible refine (f3 _).mono ?_) | (with_reducible refine (f4 _).mono ?_)); rintro e w2 ⟨rfl, rfl⟩) | (go_at_call 60; (first | (with_reducible refine (g1 _).mono ?_) | (with_reducible refine (g2 _).mono ?_)); rintro e w2 ⟨rfl, rfl⟩)
                      go_ret
                      exact ⟨r_bool HN.out.symm, rfl⟩
                    · rw [hh2] at g2
                      have HN : Hid (plainL (pOk p.data.toList) s.data.toList = plainL (pOk p.data.toList) (s.data.toList.drop (i + 3))) := by show _ = _; rw [hq, hh1, hh2]; simp
                      clear hq hh1 hh2
                      go_wp2_with first | (go_at_call 58; refine (f1 _).mono ?_; rintro e w2 ⟨rfl, rfl⟩) | (go_at_call 59; refine (f2 _).mono ?_; rintro e w2 ⟨rfl, rfl⟩) | (go_at_call 57; (first | (with_reducible refine (f3 _).mono ?_) | (with_reducible refine (f4 _).mono ?_)); rintro e w2 ⟨rfl, rfl⟩) | (go_at_call 60; (first | (with_reducible refine (g1 _).mono ?_) | (with_reducible refine (g2 _).mono ?_)); rintro e w2 ⟨rfl, rfl⟩)
                      go_roundw
                      case rel => exact ⟨i + 3, by omega, by go_num, HN, trivial⟩
                      case measure => simp [intOf]; omega
                · have i2 : ¬ (2 : Int) < (s.size : Int) - (i : Int) := by omega
                  have v3 : IntKind.i64.wrap ((s.size : Int) - (i : Int)) = (s.size : Int) - (i : Int) := by rw [IntKind.wrap_i64]; omega
                  rw [h37, decide_eq_false h2] at hq
                  have HN : Hid (plainL (pOk p.data.toList) s.data.toList = false) := by show _ = _; rw [hq]; simp
                  clear hq
                  go_wp2_with first | (go_at_call 58; refine (f1 _).mono ?_; rintro e w2 ⟨rfl, rfl⟩) | (go_at_call 59; refine (f2 _).mono ?_; rintro e w2 ⟨rfl, rfl⟩) | (go_at_call 57; (first | (with_reducible refine (f3 _).mono ?_) | (with_reducible refine (f4 _).mono ?_)); rintro e w2 ⟨rfl, rfl⟩)
                  go_ret
                  exact ⟨r_bool HN.out.symm, rfl⟩
            · have z4 : (0 : Int) ≤ y4 := of_decide_eq_true e4.symm
              clear e3 e4
              have HN : Hid (plainL (pOk p.data.toList) s.data.toList = plainL (pOk p.data.toList) (s.data.toList.drop (i + 1))) := hgo (by rw [hat]; simp)
              clear hgo hno hat
              go_wp2_with first | (go_at_call 58; refine (f1 _).mono ?_; rintro e w2 ⟨rfl, rfl⟩) | (go_at_call 59; refine (f2 _).mono ?_; rintro e w2 ⟨rfl, rfl⟩) | (go_at_call 57; (first | (with_reducible refine (f3 _).mono ?_) | (with_reducible refine (f4 _).mono ?_)); rintro e w2 ⟨rfl, rfl⟩)
              go_roundw
              case rel => exact ⟨i + 1, by omega, by go_num, HN, trivial⟩
              case measure => simp [intOf]; omega
          · have z3 : (0 : Int) ≤ y3 := of_decide_eq_true e3.symm
            clear e3 e4
            have HN : Hid (plainL (pOk p.data.toList) s.data.toList = plainL (pOk p.data.toList) (s.data.toList.drop (i + 1))) := hgo (by rw [hat]; simp)
            clear hgo hno hat
            go_wp2_with first | (go_at_call 58; refine (f1 _).mono ?_; rintro e w2 ⟨rfl, rfl⟩) | (go_at_call 59; refine (f2 _).mono ?_; rintro e w2 ⟨rfl, rfl⟩) | (go_at_call 57; (first | (with_reducible refine (f3 _).mono ?_) | (with_reducible refine (f4 _).mono ?_)); rintro e w2 ⟨rfl, rfl⟩)
            go_roundw
            case rel => exact ⟨i + 1, by omega, by go_num, HN, trivial⟩
            case measure => simp [intOf]; omega
        · clear e3 e4
          have HN : Hid (plainL (pOk p.data.toList) s.data.toList = plainL (pOk p.data.toList) (s.data.toList.drop (i + 1))) := hgo (by rw [hat]; simp)
          clear hgo hno hat
          go_wp2_with first | (go_at_call 58; refine (f1 _).mono ?_; rintro e w2 ⟨rfl, rfl⟩) | (go_at_call 59; refine (f2 _).mono ?_; rintro e w2 ⟨rfl, rfl⟩) | (go_at_call 57; (first | (with_reducible refine (f3 _).mono ?_) | (with_reducible refine (f4 _).mono ?_)); rintro e w2 ⟨rfl, rfl⟩)
          go_roundw
          case rel => exact ⟨i + 1, by omega, by go_num, HN, trivial⟩
          case measure => simp [intOf]; omega
      · clear e3 e4
        have HN : Hid (plainL (pOk p.data.toList) s.data.toList = plainL (pOk p.data.toList) (s.data.toList.drop (i + 1))) := hgo (by rw [hat]; simp)
        clear hgo hno hat
        go_wp2_with first | (go_at_call 58; refine (f1 _).mono ?_; rintro e w2 ⟨rfl, rfl⟩) | (go_at_call 59; refine (f2 _).mono ?_; rintro e w2 ⟨rfl, rfl⟩) | (go_at_call 57; (first | (with_reducible refine (f3 _).mono ?_) | (with_reducible refine (f4 _).mono ?_)); rintro e w2 ⟨rfl, rfl⟩)
        go_roundw
        case rel => exact ⟨i + 1, by omega, by go_num, HN, trivial⟩
        case measure => simp [intOf]; omega
    · have hI : ¬ (i : Int) < (s.size : Int) := by omega
      have HN : Hid (plainL (pOk p.data.toList) s.data.toList = true) := by show _ = _; rw [HD.out, List.drop_of_length_le (by omega)]; rfl
      clear HD
      go_wp2
      go_ret
      exact ⟨r_bool HN.out.symm, rfl⟩
end Go.Proofs.Ytgmigdfkdioalaa
