/-
  What ref7.Part, ref7.Text and ref7.plain answer. Conditions: at most 2^38 bytes.
-/
import Derived.Test.YtfamppieepkmnaaDoorPT13
import Derived.Laws.Concat
namespace Go.Proofs.YtfamppieepkmnaaDoor
open Go.RowKit
attribute [local go_sem] setCell_drewN alloc_drewN

theorem bs_append (a b : List UInt8) : bs a ++ bs b = bs (a ++ b) := by
  apply ByteArray.ext
  simp [bs]
theorem one_piece (s : ByteArray) (i : Nat) (h : i < s.size) : s.extract i (i + 1) = bs [s.data.toList[i]'(by rw [len_of]; exact h)] := by
  rw [piece_bs]
  congr 1
  have hl := len_of s
  rw [List.drop_eq_getElem_cons (by omega)]
  simp
theorem enc_same {p : Int → Bool} {code : Int → List UInt8} {l : List UInt8} {k : Nat} (hk : k < l.length) (h : p (bx l k) = false) : encL p code (l.take (k + 1)) = encL p code (l.take k) ++ [l[k]] := by
  rw [take_next l k hk, encL_append]
  rw [bx_get l k hk] at h
  simp [encL, h]
theorem r_string {a b : ByteArray} (h : a = b) : Ending.returned (.string a) = .returned (.string b) := by rw [h]

set_option maxRecDepth 100000 in
set_option maxHeartbeats 800000 in
theorem rpart_any (s : ByteArray) (w : World) (hs : s.size ≤ 274877906944) :
    Calls Tryd.prog 31 #[.string s] w fun r w' => r = .returned (.string (bs (47 :: encL ndT codeT s.data.toList))) ∧ w' = w := by
  have hmI : (s.size : Int) ≤ 274877906944 := by omega
  have hl := len_of s
  go_enter Tryd.func31, Tryd.ntmps31
  go_wp2_with fail
  go_loopw [3, 4] (fun v t wr => ∃ i : Nat, i ≤ s.size ∧ t = .int .i64 i ∧ v = .string (bs (47 :: encL ndT codeT (s.data.toList.take i))) ∧ wr = w) (fun _ t _ => s.size - (intOf t).toNat)
  case atStart => exact ⟨0, Nat.zero_le _, rfl, rfl, rfl⟩
  case round =>
    obtain ⟨i, hi, rfl, rfl, rfl⟩ := hrel
    have hz := enc_len (p := ndT) codeT_len (s.data.toList.take i)
    rw [List.length_take] at hz
    have hA : (bs (47 :: encL ndT codeT (s.data.toList.take i))).size ≤ 900000000000 := by rw [bs_size, List.length_cons]; omega
    by_cases hlt : i < s.size
    · have hI : (i : Int) < (s.size : Int) := by omega
      have hx := bx_at s i hlt
      have h1 := fun h => enc_one (p := ndT) (code := codeT) (l := s.data.toList) (k := i) (by omega) h
      have h2 := fun h => enc_same (p := ndT) (code := codeT) (l := s.data.toList) (k := i) (by omega) h
      have hP := one_piece s i hlt
      by_cases c1 : bx s.data.toList i = 126
      · have HT : Hid (bs (47 :: encL ndT codeT (s.data.toList.take i)) ++ ⟨#[126, 48]⟩ = bs (47 :: encL ndT codeT (s.data.toList.take (i + 1)))) := by
          show _ = _
          rw [h1 (by rw [c1]; rfl), c1]
          exact bs_append _ [126, 48]
        rw [c1] at hx
        clear h1 h2 hP c1
        generalize bs (47 :: encL ndT codeT (s.data.toList.take i)) = A at *
        go_wp2_with fail
        go_roundw
        case rel => exact ⟨i + 1, by omega, by go_num, by rw [HT.out], trivial⟩
        case measure => simp [intOf]; omega
      · by_cases c2 : bx s.data.toList i = 47
        · have HT : Hid (bs (47 :: encL ndT codeT (s.data.toList.take i)) ++ ⟨#[126, 49]⟩ = bs (47 :: encL ndT codeT (s.data.toList.take (i + 1)))) := by
            show _ = _
            rw [h1 (by rw [c2]; rfl), c2]
            exact bs_append _ [126, 49]
          rw [c2] at hx
          clear h1 h2 hP c1 c2
          generalize bs (47 :: encL ndT codeT (s.data.toList.take i)) = A at *
          go_wp2_with fail
          go_roundw
          case rel => exact ⟨i + 1, by omega, by go_num, by rw [HT.out], trivial⟩
          case measure => simp [intOf]; omega
        · have HT : Hid (bs (47 :: encL ndT codeT (s.data.toList.take i)) ++ s.extract i (i + 1) = bs (47 :: encL ndT codeT (s.data.toList.take (i + 1)))) := by
            show _ = _
            rw [h2 (by unfold ndT; rw [beq_eq_false_iff_ne.2 c1, beq_eq_false_iff_ne.2 c2]; rfl), hP]
            exact bs_append _ _
          have e1 : (bx s.data.toList i == 126) = false := beq_eq_false_iff_ne.2 c1
          have e2 : (bx s.data.toList i == 47) = false := beq_eq_false_iff_ne.2 c2
          have hPs : (s.extract i (i + 1)).size = 1 := by rw [hP, bs_size]; rfl
          clear h1 h2 hP
          generalize bs (47 :: encL ndT codeT (s.data.toList.take i)) = A at *
          generalize bx s.data.toList i = c at *
          go_wp2_with fail
          go_roundw
          case rel => exact ⟨i + 1, by omega, by go_num, by rw [HT.out], trivial⟩
          case measure => simp [intOf]; omega
    · have hI : ¬ (i : Int) < (s.size : Int) := by omega
      obtain rfl : i = s.size := by omega
      have HT : Hid (bs (47 :: encL ndT codeT (s.data.toList.take s.size)) = bs (47 :: encL ndT codeT s.data.toList)) := by show _ = _; rw [List.take_of_length_le (by omega)]
      go_wp2
      go_ret
      exact ⟨r_string HT.out, rfl⟩

set_option maxRecDepth 100000 in
set_option maxHeartbeats 800000 in
theorem rtext_any (v : Value) (xs : List (List UInt8)) (w : World) (hv : SRow w v xs) (hs : sumL xs ≤ 274877906944) :
    Calls Tryd.prog 12 #[v] w fun r w' => r = .returned (.string (bs (textL xs))) ∧ w' = w := by
  have hxl : xs.length ≤ sumL xs := by
    clear hs hv
    induction xs with
    | nil => simp
    | cons x xs ih =>
      have e2 : sumL (x :: xs) = x.length + 1 + sumL xs := by simp [sumL]
      rw [e2, List.length_cons]; omega
  rcases hv with ⟨rfl, a, c, rfl⟩ | ⟨b, off, c, rfl, hc⟩
  · go_enter Tryd.func12, Tryd.ntmps12
    go_wp2_with fail
    refine wp_loop_rounds 1 ?_
    rw [rounds_succ]
    go_wp2
    go_ret
    exact ⟨rfl, rfl⟩
  · have hlI : (xs.length : Int) ≤ 274877906944 := by omega
    go_enter Tryd.func12, Tryd.ntmps12
    go_wp2_with fail
    go_loopw [3, 4] (fun v t wr => ∃ i : Nat, i ≤ xs.length ∧ t = .int .i64 i ∧ v = .string (bs (textL (xs.take i))) ∧ wr = w) (fun _ t _ => xs.length - (intOf t).toNat)
    case atStart => exact ⟨0, Nat.zero_le _, rfl, rfl, rfl⟩
    case round =>
      obtain ⟨i, hi, rfl, rfl, rfl⟩ := hrel
      by_cases hlt : i < xs.length
      · have hI : (i : Int) < (xs.length : Int) := by omega
        have hcell := hc i hlt
        have t1 := textL_len (xs.take i)
        have t2 := sumL_take xs i hlt
        have t3 := sumL_le xs (i + 1)
        have t4 := textL_take xs i hlt
        have t5 := enc_len (p := ndT) codeT_len (xs[i]'hlt)
        have hp := rpart_any (bs (xs[i]'hlt)) wr (by rw [bs_size]; omega)
        rw [bs_list] at hp
        have hA : (bs (textL (xs.take i))).size ≤ 900000000000 := by rw [bs_size]; omega
        have hB : (bs (47 :: encL ndT codeT xs[i])).size ≤ 900000000000 := by rw [bs_size, List.length_cons]; omega
        have HT : Hid (bs (textL (xs.take i)) ++ bs (47 :: encL ndT codeT xs[i]) = bs (textL (xs.take (i + 1)))) := by
          show _ = _
          rw [t4, bs_append, List.append_assoc]; rfl
        clear t1 t2 t3 t4 t5
        clear hc
        generalize xs[i] = x at *
        generalize bs (47 :: encL ndT codeT x) = P at *
        generalize bs (textL (xs.take i)) = A at *
        generalize bs x = y at *
        go_wp2_with (go_at_call 31; refine hp.mono ?_; rintro r w1 ⟨rfl, rfl⟩)
        go_roundw
        case rel => exact ⟨i + 1, by omega, by go_num, by rw [HT.out], trivial⟩
        case measure => simp [intOf]; omega
      · have hI : ¬ (i : Int) < (xs.length : Int) := by omega
        obtain rfl : i = xs.length := by omega
        go_wp2
        go_ret
        exact ⟨rfl, rfl⟩

theorem ndP_signs (c : Int) (h0 : 0 ≤ c) (h1 : c < 256) : ndP c = (!wi c 97 122 && !wi c 65 90 && !wi c 48 57 && !(signs.any fun d => (d.toNat : Int) == c)) := by
  have key : ∀ n : Fin 256, ndP (n.val : Int) = (!wi (n.val : Int) 97 122 && !wi (n.val : Int) 65 90 && !wi (n.val : Int) 48 57 && !(signs.any fun d => (d.toNat : Int) == (n.val : Int))) := by decide +kernel
  have := key ⟨c.toNat, by omega⟩
  simp only [Int.toNat_of_nonneg h0] at this
  exact this
set_option maxRecDepth 100000 in
set_option maxHeartbeats 1600000 in
theorem rplain_any (c : Int) (w : World) (h0 : 0 ≤ c) (h1 : c < 256) :
    Calls Tryd.prog 34 #[.int .u8 c] w fun r w' => r = .returned (.bool (!ndP c)) ∧ w' = w := by
  have hnd := ndP_signs c h0 h1
  by_cases a1 : 97 ≤ c ∧ c ≤ 122
  · have HE : Hid (ndP c = false) := by show _ = _; rw [hnd, (wi_iff c 97 122).2 a1]; rfl
    obtain ⟨b1, b2⟩ := a1
    clear hnd
    go_enter Tryd.func34, Tryd.ntmps34
    go_wp2
    go_ret
    exact ⟨by rw [HE.out]; rfl, rfl⟩
  · by_cases a2 : 65 ≤ c ∧ c ≤ 90
    · have HE : Hid (ndP c = false) := by show _ = _; rw [hnd, (wi_iff c 65 90).2 a2, Bool.not_true, Bool.and_false]; rfl
      obtain ⟨b1, b2⟩ := a2
      have b3 : ¬ 97 ≤ c := by omega
      clear hnd a1
      go_enter Tryd.func34, Tryd.ntmps34
      go_wp2
      go_ret
      exact ⟨by rw [HE.out]; rfl, rfl⟩
    · by_cases a3 : 48 ≤ c ∧ c ≤ 57
      · have HE : Hid (ndP c = false) := by show _ = _; rw [hnd, (wi_iff c 48 57).2 a3, Bool.not_true, Bool.and_false]; rfl
        obtain ⟨b1, b2⟩ := a3
        have b3 : ¬ 97 ≤ c := by omega
        have b4 : ¬ 65 ≤ c := by omega
        clear hnd a1 a2
        go_enter Tryd.func34, Tryd.ntmps34
        go_wp2
        go_ret
        exact ⟨by rw [HE.out]; rfl, rfl⟩
      · have e1 : wi c 97 122 = false := by rw [Bool.eq_false_iff, ne_eq, wi_iff]; exact a1
        have e2 : wi c 65 90 = false := by rw [Bool.eq_false_iff, ne_eq, wi_iff]; exact a2
        have e3 : wi c 48 57 = false := by rw [Bool.eq_false_iff, ne_eq, wi_iff]; exact a3
        rw [e1, e2, e3] at hnd
        have HN : Hid (ndP c = !(signs.any fun d => (d.toNat : Int) == c)) := hnd
        have ha : c < 48 ∨ (57 < c ∧ c < 65) ∨ (90 < c ∧ c < 97) ∨ 122 < c := by omega
        clear hnd e1 e2 e3 a1 a2 a3
        have hsz : (ByteArray.mk #[45, 46, 95, 126, 33, 36, 38, 39, 40, 41, 42, 43, 44, 59, 61, 58, 64, 47, 63]).size = 19 := rfl
        have hat : ∀ k (h : k < 19), (((ByteArray.mk #[45, 46, 95, 126, 33, 36, 38, 39, 40, 41, 42, 43, 44, 59, 61, 58, 64, 47, 63])[k]'h).toNat : Int) = bx signs k := fun k h => bx_at (ByteArray.mk #[45, 46, 95, 126, 33, 36, 38, 39, 40, 41, 42, 43, 44, 59, 61, 58, 64, 47, 63]) k h
        have hany : ∀ k, k < 19 → bx signs k = c → ndP c = false := fun k hk e => by
          rw [HN.out, Bool.not_eq_false', List.any_eq_true]
          exact ⟨signs[k]'hk, List.getElem_mem _, by rw [beq_iff_eq, ← bx_get signs k hk]; exact e⟩
        have hnone : (∀ k, k < 19 → bx signs k ≠ c) → ndP c = true := fun h => by
          rw [HN.out, Bool.not_eq_true', List.any_eq_false]
          intro d hd
          obtain ⟨k, hk, rfl⟩ := List.getElem_of_mem hd
          rw [beq_iff_eq, ← bx_get signs k hk]
          exact h k hk
        have HA : Hid (∀ k, k < 19 → bx signs k = c → ndP c = false) := hany
        have HO : Hid ((∀ k, k < 19 → bx signs k ≠ c) → ndP c = true) := hnone
        have HX : Hid (∀ k (h : k < 19), (((ByteArray.mk #[45, 46, 95, 126, 33, 36, 38, 39, 40, 41, 42, 43, 44, 59, 61, 58, 64, 47, 63])[k]'h).toNat : Int) = bx signs k) := hat
        clear hany hnone hat HN hsz
        rcases ha with r1 | ⟨r1, r2⟩ | ⟨r1, r2⟩ | r1
        all_goals
          go_enter Tryd.func34, Tryd.ntmps34
          go_wp2_with fail
          go_loopw [4] (fun t wr => ∃ i : Nat, i ≤ 19 ∧ t = .int .i64 i ∧ Hid (∀ k, k < i → bx signs k ≠ c) ∧ wr = w) (fun t _ => 19 - (intOf t).toNat)
          case atStart => exact ⟨0, Nat.zero_le _, rfl, fun k hk => absurd hk (by omega), rfl⟩
          case round =>
            obtain ⟨i, hi, rfl, HK, rfl⟩ := hrel
            by_cases hlt : i < 19
            · have hI : (i : Int) < 19 := by omega
              have hx := HX.out i hlt
              by_cases e : bx signs i = c
              · have HE : Hid (ndP c = false) := HA.out i hlt e
                have hq : (bx signs i == c) = true := beq_iff_eq.2 e
                clear HK HA HO HX e
                generalize bx signs i = d at *
                go_wp2_with fail
                go_ret
                exact ⟨by rw [HE.out]; rfl, rfl⟩
              · have HK2 : Hid (∀ k, k < i + 1 → bx signs k ≠ c) := fun k hk => by
                  by_cases e2 : k = i
                  · rw [e2]; exact e
                  · exact HK.out k (by omega)
                have hq : (bx signs i == c) = false := beq_eq_false_iff_ne.2 e
                clear HK HA HO HX e
                generalize bx signs i = d at *
                go_wp2_with fail
                go_roundw
                case rel => exact ⟨i + 1, by omega, by go_num, HK2, trivial⟩
                case measure => simp [intOf]; omega
            · have hI : ¬ (i : Int) < 19 := by omega
              have HE : Hid (ndP c = true) := HO.out (fun k hk => HK.out k (by omega))
              clear HK HA HO HX
              go_wp2
              go_ret
              exact ⟨by rw [HE.out]; rfl, rfl⟩
end Go.Proofs.YtfamppieepkmnaaDoor
