/-
  What ref7.Part, ref7.Text and ref7.plain answer. Conditions: at most 2^38 bytes.
-/
import Derived.Test.YtgbkinkcmkbcmaaDoorJoined34
import Derived.Test.YtgbkinkcmkbcmaaDoorJoined15
import Derived.Test.YtgbkinkcmkbcmaaDoorJoined18
import Derived.Laws.Concat
namespace Go.Proofs.YtgbkinkcmkbcmaaDoor
open Go.RowKit
attribute [local go_sem] setCell_drewN alloc_drewN

theorem bs_append (a b : List UInt8) : bs a ++ bs b = bs (a ++ b) := by
  apply ByteArray.ext
  simp [bs]
theorem one_piece (s : ByteArray) (i : Nat) (h : i < s.size) : s.extract i (i + 1) = bs [s.data.toList[i]'(by rw [len_of]; exact h)] := by
  rw [piece_bs]
  congr 1
  have hl := len_of s
  rw [List.drop_eq_getElem_cons (by omega)]
  simp
theorem enc_same {p : Int → Bool} {code : Int → List UInt8} {l : List UInt8} {k : Nat} (hk : k < l.length) (h : p (bx l k) = false) : encL p code (l.take (k + 1)) = encL p code (l.take k) ++ [l[k]] := by
  rw [take_next l k hk, encL_append]
  rw [bx_get l k hk] at h
  simp [encL, h]
theorem r_string {a b : ByteArray} (h : a = b) : Ending.returned (.string a) = .returned (.string b) := by rw [h]

set_option maxRecDepth 100000 in
set_option maxHeartbeats 800000 in
theorem rpart_any (s : ByteArray) (w : World) (hs : s.size ≤ 274877906944) :
    Calls Tryd.prog 43 #[.string s] w fun r w' => r = .returned (.string (bs (47 :: encL ndT codeT s.data.toList))) ∧ w' = w := by
  have hmI : (s.size : Int) ≤ 274877906944 := by omega
  have hl := len_of s
  go_enter Tryd.func43, Tryd.ntmps43
  go_wp2_with fail
  go_loopw [3, 4] (fun v t wr => ∃ i : Nat, i ≤ s.size ∧ t = .int .i64 i ∧ v = .string (bs (47 :: encL ndT codeT (s.data.toList.take i))) ∧ wr = w) (fun _ t _ => s.size - (intOf t).toNat)
  case atStart => exact ⟨0, Nat.zero_le _, rfl, rfl, rfl⟩
  case round =>
    obtain ⟨i, hi, rfl, rfl, rfl⟩ := hrel
    have hz := enc_len (p := ndT) codeT_len (s.data.toList.take i)
    rw [List.length_take] at hz
    have hA : (bs (47 :: encL ndT codeT (s.data.toList.take i))).size ≤ 900000000000 := by rw [bs_size, List.length_cons]; omega
    by_cases hlt : i < s.size
    · have hI : (i : Int) < (s.size : Int) := by omega
      have hx := bx_at s i hlt
      have h1 := fun h => enc_one (p := ndT) (code := codeT) (l := s.data.toList) (k := i) (by omega) h
      have h2 := fun h => enc_same (p := ndT) (code := codeT) (l := s.data.toList) (k := i) (by omega) h
      have hP := one_piece s i hlt
      by_cases c1 : bx s.data.toList i = 126
      · have HT : Hid (bs (47 :: encL ndT codeT (s.data.toList.take i)) ++ ⟨#[126, 48]⟩ = bs (47 :: encL ndT codeT (s.data.toList.take (i + 1)))) := by
          show _ = _
          rw [h1 (by rw [c1]; rfl), c1]
          exact bs_append _ [126, 48]
        rw [c1] at hx
        clear h1 h2 hP c1
        generalize bs (47 :: encL ndT codeT (s.data.toList.take i)) = A at *
        go_wp2_with fail
        go_roundw
        case rel => exact ⟨i + 1, by omega, by go_num, by rw [HT.out], trivial⟩
        case measure => simp [intOf]; omega
      · by_cases c2 : bx s.data.toList i = 47
        · have HT : Hid (bs (47 :: encL ndT codeT (s.data.toList.take i)) ++ ⟨#[126, 49]⟩ = bs (47 :: encL ndT codeT (s.data.toList.take (i + 1)))) := by
            show _ = _
            rw [h1 (by rw [c2]; rfl), c2]
            exact bs_append _ [126, 49]
          rw [c2] at hx
          clear h1 h2 hP c1 c2
          generalize bs (47 :: encL ndT codeT (s.data.toList.take i)) = A at *
          go_wp2_with fail
          go_roundw
          case rel => exact ⟨i + 1, by omega, by go_num, by rw [HT.out], trivial⟩
          case measure => simp [intOf]; omega
        · have HT : Hid (bs (47 :: encL ndT codeT (s.data.toList.take i)) ++ s.extract i (i + 1) = bs (47 :: encL ndT codeT (s.data.toList.take (i + 1)))) := by
            show _ = _
            rw [h2 (by unfold ndT; rw [beq_eq_false_iff_ne.2 c1, beq_eq_false_iff_ne.2 c2]; rfl), hP]
            exact bs_append _ _
          have e1 : (bx s.data.toList i == 126) = false := beq_eq_false_iff_ne.2 c1
          have e2 : (bx s.data.toList i == 47) = false := beq_eq_false_iff_ne.2 c2
          have hPs : (s.extract i (i + 1)).size = 1 := by rw [hP, bs_size]; rfl
          clear h1 h2 hP
          generalize bs (47 :: encL ndT codeT (s.data.toList.take i)) = A at *
          generalize bx s.data.toList i = c at *
          go_wp2_with fail
          go_roundw
          case rel => exact ⟨i + 1, by omega, by go_num, by rw [HT.out], trivial⟩
          case measure => simp [intOf]; omega
    · have hI : ¬ (i : Int) < (s.size : Int) := by omega
      obtain rfl : i = s.size := by omega
      have HT : Hid (bs (47 :: encL ndT codeT (s.data.toList.take s.size)) = bs (47 :: encL ndT codeT s.data.toList)) := by show _ = _; rw [List.take_of_length_le (by omega)]
      go_wp2
      go_ret
      exact ⟨r_string HT.out, rfl⟩

end Go.Proofs.YtgbkinkcmkbcmaaDoor
