/-
  UriDots: a path without dot segments has none, and stays. Conditions: at most 2^47 bytes.
-/
import Derived.Test.YtgmigdfkdioalaaUU18
namespace Go.Proofs.Ytgmigdfkdioalaa
open Go.RowKit
attribute [local go_sem] setCell_drewN alloc_drewN

theorem chk_head {c : UInt8} {a b : List UInt8} (ha : ¬ (47 : UInt8) ∈ a) (hb : b = [] ∨ ∃ b', b = 47 :: b') : chk [] (c :: (a ++ b)) = (okSeg (if c = 47 then a else c :: a) && chk [] b) := by
  have e : okSeg [] = true := rfl
  have key : ∀ w, chk w b = (okSeg w && chk [] b) := fun w => by
    rcases hb with rfl | ⟨b', rfl⟩
    · simp [chk, e]
    · simp [chk, e]
  by_cases hc : c = 47
  · subst hc
    rw [if_pos rfl, ← key]
    show (okSeg [] && chk [] (a ++ b)) = _
    rw [e, Bool.true_and, chk_app ha, List.nil_append]
  · rw [if_neg hc, ← key]
    show (if (c == 47) then okSeg [] && chk [] (a ++ b) else chk ([] ++ [c]) (a ++ b)) = _
    rw [if_neg (by simpa using hc), chk_app ha]
    rfl
theorem dots_stay (n : Nat) : ∀ (r o : List UInt8), r.length ≤ n → chk [] r = true → dotsF r.length r o = o ++ r := by
  induction n with
  | zero =>
    intro r o h _
    have : r = [] := List.length_eq_zero_iff.1 (by omega)
    subst this
    rw [dotsF_nil]; simp
  | succ n ih =>
    intro r o h hg
    by_cases hr : r = []
    · subst hr; rw [dotsF_nil]; simp
    · obtain ⟨c, a, b, e, ha, hb, h1, h2⟩ := parts_of hr
      subst e
      rw [chk_head ha hb, Bool.and_eq_true] at hg
      rw [dotsF_step hr, step_ok ha hb hg.1 h1 h2]
      simp only [Bool.false_eq_true, if_false]
      rw [ih b _ (by simp only [List.length_cons, List.length_append] at h; omega) hg.2]
      simp
theorem lst_at : ∀ (l : List UInt8) (c : UInt8) (k : Nat), lst l c = k + 1 → l[k]? = some c
  | [], _, _, h => by cases h
  | b :: l, c, k, h => by
    simp only [lst] at h
    by_cases h0 : lst l c ≠ 0
    · rw [if_pos h0] at h
      obtain ⟨j, hj⟩ : ∃ j, lst l c = j + 1 := ⟨lst l c - 1, by omega⟩
      obtain rfl : k = j + 1 := by omega
      rw [List.getElem?_cons_succ]
      exact lst_at l c j hj
    · rw [if_neg h0] at h
      split at h
      · rename_i hb
        obtain rfl : k = 0 := by omega
        rw [List.getElem?_cons_zero, beq_iff_eq.1 hb]
      · cases h
theorem up_good {o : List UInt8} (h : chk [] o = true) : chk [] (upL o) = true := by
  unfold upL
  cases hk : lst o 47 with
  | zero => rfl
  | succ k =>
    have h1 := lst_at o 47 k hk
    have hlt : k < o.length := by
      rcases Nat.lt_or_ge k o.length with h2 | h2
      · exact h2
      · rw [List.getElem?_eq_none h2] at h1; cases h1
    rw [List.getElem?_eq_getElem hlt] at h1
    injection h1 with h1
    have e : o = o.take k ++ 47 :: o.drop (k + 1) := by
      conv => lhs; rw [← List.take_append_drop k o, List.drop_eq_getElem_cons hlt, h1]
    rw [e, chk_mid, Bool.and_eq_true] at h
    exact h.1
theorem dots_good (n : Nat) : ∀ (r o : List UInt8), r.length ≤ n → chk [] o = true → (o = [] ∨ r = [] ∨ ∃ r', r = 47 :: r') → chk [] (dotsF r.length r o) = true := by
  induction n with
  | zero =>
    intro r o h hg _
    have : r = [] := List.length_eq_zero_iff.1 (by omega)
    subst this
    rw [dotsF_nil]; exact hg
  | succ n ih =>
    intro r o h hg hi
    by_cases hr : r = []
    · subst hr; rw [dotsF_nil]; exact hg
    · have hs := step_len hr
      rw [dotsF_step hr]
      obtain ⟨c, a, b, e, ha, hb, h1, h2⟩ := parts_of hr
      subst e
      cases hk : okSeg (if c = 47 then a else c :: a)
      · rcases step_bad hb hk with ⟨hc, s1, s2, s3⟩ | ⟨hc, s2, s3⟩
        · have ho : o = [] := by
            rcases hi with h | h | ⟨r', h⟩
            · exact h
            · cases h
            · injection h with h; exact absurd h hc
          subst ho
          rw [s1, s2]
          exact ih _ _ (by omega) rfl (.inl rfl)
        · rw [s2, List.append_nil]
          refine ih _ _ (by omega) ?_ (.inr (.inr ?_))
          · split
            · exact up_good hg
            · exact hg
          · rw [s3]
            split
            · exact ⟨[], rfl⟩
            · rename_i hne
              rcases hb with h | h
              · exact absurd h hne
              · exact h
      · rw [step_ok ha hb hk h1 h2] at hs ⊢
        simp only [Bool.false_eq_true, if_false] at hs ⊢
        refine ih _ _ (by simp only [List.length_cons, List.length_append] at h; omega) ?_ (.inr hb)
        by_cases hc : c = 47
        · subst hc
          rw [if_pos rfl] at hk
          rw [chk_mid, hg, chk_plain ha, List.nil_append, hk]
          rfl
        · have ho : o = [] := by
            rcases hi with h | h | ⟨r', h⟩
            · exact h
            · cases h
            · injection h with h; exact absurd h hc
          subst ho
          rw [if_neg hc] at hk
          have hn : ¬ (47 : UInt8) ∈ c :: a := by
            intro hm
            rcases List.mem_cons.1 hm with h | h
            · exact hc h.symm
            · exact ha h
          rw [List.nil_append, chk_plain hn, List.nil_append, hk]
theorem dotsL_good (p : List UInt8) : chk [] (dotsL p) = true := dots_good _ p [] (Nat.le_refl _) rfl (.inl rfl)
theorem dotsL_stay (p : List UInt8) : dotsL (dotsL p) = dotsL p := by
  have := dots_stay _ (dotsL p) [] (Nat.le_refl _) (dotsL_good p)
  exact this

theorem cur_snoc (d : List UInt8) (f i : Nat) (hf : f ≤ i) (hi : i < d.length) : (d.drop f).take (i - f) ++ [d[i]] = (d.drop f).take (i + 1 - f) := by
  have e : i + 1 - f = (i - f) + 1 := by omega
  rw [e, List.take_add_one, List.getElem?_drop, show f + (i - f) = i by omega, List.getElem?_eq_getElem hi]
  rfl

set_option maxRecDepth 100000 in
set_option maxHeartbeats 1600000 in
theorem dots_walk (s : ByteArray) (w : World) (hs : s.size ≤ 140737488355328) :
    Calls Try.prog 8 #[.string s] w fun e w' => e = .returned (.bool true) ∧ Below w.heap.size w w' := by
  have hl := len_of s
  have h1 := fun w' => dots_any s w' hs
  have hdl := dots_len s.data.toList
  rw [hl] at hdl
  have h2 := fun w' => dots_any (bs (dotsL s.data.toList)) w' (by rw [bs_size]; omega)
  simp only [bs_list, dotsL_stay] at h2
  have HG : Hid (chk [] (dotsL s.data.toList) = true) := dotsL_good _
  have hH := heads_any
  generalize dotsL s.data.toList = d at *
  have hz := bs_size d
  have hlen : ¬ (s.size : Int) < (d.length : Int) := by omega
  have hmI : (d.length : Int) ≤ 140737488355328 := by omega
  clear hl
  go_enter Try.func8, Try.ntmps8
  go_wp2_with fail
  refine (h1 _).mono ?_
  rintro e w1 ⟨rfl, hb1⟩
  go_wp2_with fail
  refine (h2 _).mono ?_
  rintro e w2 ⟨rfl, hb2⟩
  have hbel2 := bl_t hb1 hb2
  clear h1 h2 hb1 hb2 hdl hs
  go_wp2_with fail
  clear hlen
  go_loopw [4, 5] (fun u t wr => ∃ f i : Nat, f ≤ i ∧ i ≤ d.length + 1 ∧ u = .int .i64 f ∧ t = .int .i64 i ∧ (i ≤ d.length → Hid (chk ((d.drop f).take (i - f)) (d.drop i) = true)) ∧ wr = w2) (fun _ t _ => d.length + 1 - (intOf t).toNat)
  case atStart => exact ⟨0, 0, Nat.le_refl _, Nat.zero_le _, rfl, rfl, fun _ => HG, rfl⟩
  case round =>
    obtain ⟨f, i, hfi, hi, rfl, rfl, HC, rfl⟩ := hrel
    by_cases hle : i ≤ d.length
    · have hI : (i : Int) ≤ (d.length : Int) := by omega
      have hC := (HC hle).out
      have f0 : (0 : Int) ≤ (f : Int) := by omega
      have fi : (f : Int) ≤ (i : Int) := by omega
      have i0 : (0 : Int) ≤ (i : Int) := by omega
      have ex : (bs d).extract f i = bs ((d.drop f).take (i - f)) := by rw [piece_bs, bs_list]
      by_cases hlt : i < d.length
      · have hI2 : (i : Int) < (d.length : Int) := by omega
        have hx := bx_at (bs d) i (by rw [hz]; exact hlt)
        rw [bs_list] at hx
        have hd : d.drop i = d[i] :: d.drop (i + 1) := List.drop_eq_getElem_cons hlt
        have h47 : (d[i] == 47) = (bx d i == 47) := by rw [bx_get d i hlt]; exact (u8_int _ 47).symm
        rw [hd, chk, h47] at hC
        cases hc : (bx d i == 47)
        · rw [hc] at hC
          simp only [Bool.false_eq_true, if_false] at hC
          rw [cur_snoc d f i hfi hlt] at hC
          have HN : Hid (chk ((d.drop f).take (i + 1 - f)) (d.drop (i + 1)) = true) := hC
          generalize bx d i = c at *
          clear hC HC h47 hd ex
          go_wp2
          go_roundw
          case rel => exact ⟨f, i + 1, by omega, by omega, rfl, by go_num, fun _ => HN, trivial⟩
          case measure => simp [intOf]; omega
        · rw [hc] at hC
          simp only [if_true, Bool.and_eq_true] at hC
          have HN : Hid (chk ((d.drop (i + 1)).take (i + 1 - (i + 1))) (d.drop (i + 1)) = true) := by
            show _ = _
            rw [Nat.sub_self, List.take_zero]
            exact hC.2
          have ho := hC.1
          generalize (d.drop f).take (i - f) = cur at *
          simp only [okSeg, Bool.not_eq_true', Bool.or_eq_false_iff] at ho
          have q1 : ((bs cur).toList == [46]) = false := by rw [bs_toList]; exact ho.1
          have q2 : ((bs cur).toList == [46, 46]) = false := by rw [bs_toList]; exact ho.2
          generalize bx d i = c at *
          clear hC HC h47 hd ho
          go_wp2
          go_roundw
          case rel => exact ⟨i + 1, i + 1, by omega, by omega, by go_num, by go_num, fun _ => HN, trivial⟩
          case measure => simp [intOf]; omega
      · have hI2 : ¬ (i : Int) < (d.length : Int) := by omega
        have hi2 : i = d.length := by omega
        rw [show d.drop i = [] from List.drop_of_length_le (by omega), chk] at hC
        generalize (d.drop f).take (i - f) = cur at *
        simp only [okSeg, Bool.not_eq_true', Bool.or_eq_false_iff] at hC
        have q1 : ((bs cur).toList == [46]) = false := by rw [bs_toList]; exact hC.1
        have q2 : ((bs cur).toList == [46, 46]) = false := by rw [bs_toList]; exact hC.2
        have i1 : (i : Int) ≤ 140737488355328 := by omega
        have hlast : Hid (i = d.length) := hi2
        clear hC HC hlt hle hi2
        go_wp2
        go_roundw
        case rel => exact ⟨i + 1, i + 1, by omega, by omega, by go_num, by go_num, fun h => by have := hlast.out; omega, trivial⟩
        case measure => simp [intOf]; omega
    · have hI : ¬ (i : Int) ≤ (d.length : Int) := by omega
      clear HC
      go_wp2_with (go_at_call 17; refine (hH _).mono ?_; rintro e w3 ⟨rfl, hb3⟩)
      go_ret
      exact ⟨rfl, bl_t hbel2 hb3⟩
end Go.Proofs.Ytgmigdfkdioalaa
