/-
  What the small functions of the reference (ref8.index, in, starts, last; ref4.Hex) answer. Conditions: at most 2^62 bytes.
-/
import Derived.Test.YtgmigdfkdioalaaUU17
namespace Go.Proofs.Ytgmigdfkdioalaa
open Go.RowKit
attribute [local go_sem] setCell_drewN alloc_drewN

set_option maxHeartbeats 400000 in
theorem rindex_u8 (s : ByteArray) (c : UInt8) (w : World) (hs : s.size ≤ 4611686018427387904) :
    Calls Try.prog 29 #[.string s, .int .u8 (c.toNat : Int)] w fun e w' => e = .returned (.int .i64 (ix s.data.toList c : Nat)) ∧ w' = w := by
  have hl := len_of s
  have hmI : (s.size : Int) ≤ 4611686018427387904 := by omega
  go_enter Try.func29, Try.ntmps29
  go_wp2_with fail
  go_loopw [5] (fun t wr => ∃ k : Nat, k ≤ s.size ∧ t = .int .i64 k ∧ Hid (∀ j, j < k → s.data.toList[j]? ≠ some c) ∧ wr = w) (fun t _ => s.size - (intOf t).toNat)
  case atStart => exact ⟨0, Nat.zero_le _, rfl, fun j hj => absurd hj (Nat.not_lt_zero _), rfl⟩
  case round =>
    obtain ⟨k, hk, rfl, HN, rfl⟩ := hrel
    by_cases hlt : k < s.size
    · have hI : (k : Int) < (s.size : Int) := by omega
      have h0 : (0 : Int) ≤ (k : Int) := by omega
      obtain ⟨x, hx2⟩ : ∃ x, s.data.toList[k]? = some x := ⟨_, at_list s k hlt⟩
      have hx := bx_at s k hlt
      have he := u8_int x c
      rw [← bx_some hx2] at he
      generalize bx s.data.toList k = y at *
      cases hc : (x == c)
      · rw [hc] at he
        have HN2 : Hid (∀ j, j < k + 1 → s.data.toList[j]? ≠ some c) := fun j hj => by
          by_cases e : j = k
          · subst e; rw [hx2]; intro e; injection e with e; rw [e] at hc; simp at hc
          · exact HN.out j (by omega)
        clear HN hx2
        go_wp2
        go_roundw
        case rel => exact ⟨k + 1, by omega, by go_num, HN2, trivial⟩
        case measure => simp [intOf]; omega
      · rw [hc] at he
        have HE : Hid (ix s.data.toList c = k) := ix_eq (by omega) HN.out (fun _ => by rw [hx2, beq_iff_eq.1 hc])
        clear HN hx2
        go_wp2
        go_ret
        exact ⟨ret_int (by rw [HE.out]), rfl⟩
    · have hI : ¬ (k : Int) < (s.size : Int) := by omega
      have HE : Hid (ix s.data.toList c = s.size) := by show _ = _; rw [← hl]; exact ix_eq (Nat.le_refl _) (fun j hj => HN.out j (by omega)) (fun h => absurd h (Nat.lt_irrefl _))
      clear HN
      go_wp2
      go_ret
      exact ⟨ret_int (by rw [HE.out]), rfl⟩
theorem u8_back {c : Int} (h0 : 0 ≤ c) (h1 : c < 256) : ((c.toNat.toUInt8).toNat : Int) = c := by
  have : c.toNat < 256 := by omega
  simp
  omega
theorem rindex_any (s : ByteArray) (c : Int) (w : World) (h0 : 0 ≤ c) (h1 : c < 256) (hs : s.size ≤ 4611686018427387904) :
    Calls Try.prog 29 #[.string s, .int .u8 c] w fun e w' => e = .returned (.int .i64 (ix s.data.toList c.toNat.toUInt8 : Nat)) ∧ w' = w := by
  have := rindex_u8 s c.toNat.toUInt8 w hs
  rw [u8_back h0 h1] at this
  exact this
theorem memB_ix (l : List UInt8) (c : Int) : memB l c = decide (ix l c.toNat.toUInt8 < l.length) := by
  unfold memB
  rw [decide_eq_decide]
  rcases idx_ix l c.toNat.toUInt8 with ⟨h1, h2⟩ | ⟨h1, h2⟩ <;> rw [h2] <;> omega

set_option maxHeartbeats 400000 in
theorem rin_any (s : ByteArray) (c : Int) (w : World) (h0 : 0 ≤ c) (h1 : c < 256) (hs : s.size ≤ 4611686018427387904) :
    Calls Try.prog 47 #[.int .u8 c, .string s] w fun e w' => e = .returned (.bool (memB s.data.toList c)) ∧ w' = w := by
  have h := rindex_any s c w h0 h1 hs
  have HM : Hid (memB s.data.toList c = decide ((ix s.data.toList c.toNat.toUInt8 : Int) < (s.size : Int))) := by
    show _ = _
    rw [memB_ix, len_of, decide_eq_decide]; omega
  generalize ix s.data.toList c.toNat.toUInt8 = k at *
  clear h0 h1 hs
  go_enter Try.func47, Try.ntmps47
  go_wp2_with (go_at_call 29; refine h.mono ?_; rintro e w' ⟨rfl, rfl⟩)
  go_ret
  exact ⟨r_bool (by rw [HM.out]; simp), rfl⟩

set_option maxHeartbeats 400000 in
theorem rstarts_any (s p : ByteArray) (w : World) :
    Calls Try.prog 38 #[.string s, .string p] w fun e w' => e = .returned (.bool (Lib.hasPrefix s.data.toList p.data.toList)) ∧ w' = w := by
  have HE : Hid ((decide (p.size ≤ s.size) && ((s.extract 0 p.size).toList == p.toList)) = Lib.hasPrefix s.data.toList p.data.toList) := by
    show _ = _
    rw [← Lib.hasPrefix_of_take, ← Lib.size_eq, ← Lib.size_eq, Lib.extract_toList, Lib.toList_data]
    simp
  cases h1 : decide (p.size ≤ s.size)
  · have h2 : ¬ (p.size : Int) ≤ (s.size : Int) := by have := of_decide_eq_false h1; omega
    rw [h1] at HE
    clear h1
    go_enter Try.func38, Try.ntmps38
    go_wp2
    go_ret
    exact ⟨r_bool HE.out, rfl⟩
  · have h2 : (p.size : Int) ≤ (s.size : Int) := by have := of_decide_eq_true h1; omega
    rw [h1] at HE
    clear h1
    go_enter Try.func38, Try.ntmps38
    go_wp2
    go_ret
    exact ⟨r_bool HE.out, rfl⟩

set_option maxHeartbeats 400000 in
theorem rlast_any (s : ByteArray) (w : World) (hs : s.size ≤ 4611686018427387904) :
    Calls Try.prog 39 #[.string s] w fun e w' => e = .returned (.string (bs (upL s.data.toList))) ∧ w' = w := by
  have hl := len_of s
  go_enter Try.func39, Try.ntmps39
  go_wp2
  go_loopg [3] s.size (fun g t wr => ∃ k : Nat, g = k ∧ k ≤ s.size ∧ t = .int .i64 ((k : Int) - 1) ∧ Hid (lst s.data.toList 47 = lst (s.data.toList.take k) 47) ∧ wr = w)
  case atStart => exact ⟨s.size, rfl, Nat.le_refl _, rfl, by show _ = _; rw [← hl, List.take_length], rfl⟩
  case round =>
    obtain ⟨k, rfl, hk, rfl, HP, rfl⟩ := hrel
    cases gk with
    | zero =>
      have HE : Hid (upL s.data.toList = []) := by show _ = _; unfold upL; rw [HP.out]; rfl
      clear HP
      go_wp2
      go_ret
      exact ⟨by rw [HE.out]; rfl, rfl⟩
    | succ k =>
      have hlt : k < s.size := by omega
      have e1 : ((k + 1 : Nat) : Int) - 1 = (k : Int) := by omega
      rw [e1]
      have hx := bx_at s k hlt
      obtain ⟨x, hx2⟩ : ∃ x, s.data.toList[k]? = some x := ⟨_, at_list s k hlt⟩
      have hk0 : (0 : Int) ≤ (k : Int) := by omega
      have hkS : (k : Int) < (s.size : Int) := by omega
      have hkT : (k : Int) ≤ (s.size : Int) := by omega
      have ht := lst_take 47 hx2
      have he := u8_int x 47
      rw [← bx_some hx2, show (((47 : UInt8).toNat : Nat) : Int) = 47 from rfl] at he
      have tk : s.extract 0 k = bs (s.data.toList.take k) := by rw [piece_bs, List.drop_zero, Nat.sub_zero]
      generalize bx s.data.toList k = y at *
      cases hc : (x == 47)
      · rw [hc] at ht he
        simp only [Bool.false_eq_true, if_false] at ht
        have HR : Hid (lst s.data.toList 47 = lst (s.data.toList.take k) 47) := by show _ = _; rw [HP.out, ht]
        clear HP ht hx2 tk
        go_wp2
        go_roundg k
        case measure => omega
        case rel => exact ⟨k, rfl, by omega, by go_num, HR, rfl⟩
      · rw [hc] at ht he
        simp only [if_true] at ht
        have HR : Hid (upL s.data.toList = s.data.toList.take k) := by show _ = _; unfold upL; rw [HP.out, ht]; rfl
        clear HP ht hx2
        go_wp2
        go_ret
        exact ⟨by rw [HR.out]; rfl, rfl⟩

set_option maxHeartbeats 400000 in
theorem r4digit_any (c : Int) (w : World) :
    Calls Try.prog 62 #[.int .u8 c] w fun e w' => e = .returned (.bool (isD c)) ∧ w' = w := by
  unfold isD wi
  cases h1 : decide (48 ≤ c) <;> simp only [decide_eq_true_eq, decide_eq_false_iff_not] at h1
  all_goals
    go_enter Try.func62, Try.ntmps62
    go_wp2
    go_ret
    exact ⟨by simp, rfl⟩

set_option maxHeartbeats 1600000 in
/-- A digit of 16: some number from 0 on; else below 0. -/
theorem rhex_any (c : Int) (w : World) (h0 : 0 ≤ c) (h1 : c < 256) :
    ∃ x : Int, decide (x < 0) = !isH c ∧ Calls Try.prog 48 #[.int .u8 c] w fun e w' => e = .returned (.int .i64 x) ∧ w' = w := by
  have hd := r4digit_any c w
  by_cases hD : isD c = true
  · rw [hD] at hd
    have hb : 48 ≤ c ∧ c ≤ 57 := by simpa [isD, wi] using hD
    have n1 : IntKind.u8.wrap (c - 48) = c - 48 := by rw [IntKind.wrap_u8]; omega
    refine ⟨c - 48, by rw [isH, hD]; simp; omega, ?_⟩
    go_enter Try.func48, Try.ntmps48
    go_wp2_with (go_at_call 62; refine hd.mono ?_; rintro e w' ⟨rfl, rfl⟩)
    go_ret
    exact ⟨rfl, rfl⟩
  · have hD' : isD c = false := by simpa using hD
    rw [hD'] at hd
    by_cases ha : 97 ≤ c ∧ c ≤ 102
    · obtain ⟨a1, a2⟩ := ha
      refine ⟨c - 97 + 10, by rw [isH, hD', wi, decide_eq_true a1, decide_eq_true a2]; simp; omega, ?_⟩
      go_enter Try.func48, Try.ntmps48
      go_wp2_with (go_at_call 62; refine hd.mono ?_; rintro e w' ⟨rfl, rfl⟩)
      go_ret
      exact ⟨ret_int (by omega), rfl⟩
    · by_cases hA : 65 ≤ c ∧ c ≤ 70
      · obtain ⟨a1, a2⟩ := hA
        refine ⟨c - 65 + 10, by rw [isH, hD', wi, wi, decide_eq_true a1, decide_eq_true a2]; simp; omega, ?_⟩
        go_enter Try.func48, Try.ntmps48
        go_wp2_with (go_at_call 62; refine hd.mono ?_; rintro e w' ⟨rfl, rfl⟩)
        all_goals go_ret
        all_goals exact ⟨ret_int (by omega), rfl⟩
      · refine ⟨-1, by rw [isH, hD']; simp [wi]; omega, ?_⟩
        go_enter Try.func48, Try.ntmps48
        go_wp2_with (go_at_call 62; refine hd.mono ?_; rintro e w' ⟨rfl, rfl⟩)
        all_goals first | (exfalso; omega) | go_ret
        all_goals exact ⟨rfl, rfl⟩
end Go.Proofs.Ytgmigdfkdioalaa
