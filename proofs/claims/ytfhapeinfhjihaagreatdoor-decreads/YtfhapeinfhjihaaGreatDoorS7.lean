/-
  dec.split as a whole, and what (parts).shift answers. No condition but that the exponent's bytes are digits.
-/
import Derived.Test.YtfhapeinfhjihaaGreatDoorS6b
namespace Go.Proofs.YtfhapeinfhjihaaGreatDoor
open Go.RowKit

theorem split_no (l : List UInt8) (w : World) (hs : l.length ≤ maxLen) (h : splitL l = none) :
    Calls Tryz.prog 49 #[.string (bs l)] w fun e w' => (∃ p r o, e = .returned (.tuple #[pv p, .string (bs r), .bool o]) ∧ o = false) ∧ Below w.heap.size w w' := by
  rw [split_eq] at h
  by_cases ho : wO (minusL l) = true
  · rw [if_pos ho] at h
    unfold behindL fracL at h
    by_cases hf : (wR (minusL l)).head? = some 46
    · rw [if_pos hf] at h
      by_cases hd : tw (wR (minusL l)).tail = []
      · refine (split_none2 l w hs ho hf hd).mono ?_
        rintro e w' ⟨⟨p, r, rfl, _⟩, hb⟩
        exact ⟨⟨p, r, _, rfl, rfl⟩, hb⟩
      · rw [if_neg hd] at h
        simp only at h
        unfold expL at h
        by_cases he : (dw (wR (minusL l)).tail).head? = some 101 ∨ (dw (wR (minusL l)).tail).head? = some 69
        · rw [if_pos he] at h
          by_cases hx : tw (signL (dw (wR (minusL l)).tail).tail) = []
          · refine (split_some11 l w hs ho hf hd he).mono ?_
            rintro e w' ⟨rfl, hb⟩
            exact ⟨⟨_, _, _, rfl, decide_eq_false (fun g => g hx)⟩, hb⟩
          · rw [if_neg hx] at h; cases h
        · rw [if_neg he] at h; cases h
    · rw [if_neg hf] at h
      simp only at h
      unfold expL at h
      by_cases he : (wR (minusL l)).head? = some 101 ∨ (wR (minusL l)).head? = some 69
      · rw [if_pos he] at h
        by_cases hx : tw (signL (wR (minusL l)).tail) = []
        · refine (split_some01 l w hs ho hf he).mono ?_
          rintro e w' ⟨rfl, hb⟩
          exact ⟨⟨_, _, _, rfl, decide_eq_false (fun g => g hx)⟩, hb⟩
        · rw [if_neg hx] at h; cases h
      · rw [if_neg he] at h; cases h
  · refine (split_none1 l w hs (by simpa using ho)).mono ?_
    rintro e w' ⟨⟨p, r, rfl, _⟩, hb⟩
    exact ⟨⟨p, r, _, rfl, rfl⟩, hb⟩
theorem split_yes (l : List UInt8) (P : P3) (r : List UInt8) (w : World) (hs : l.length ≤ maxLen) (h : splitL l = some (P, r)) :
    Calls Tryz.prog 49 #[.string (bs l)] w fun e w' => e = .returned (.tuple #[pv P, .string (bs r), .bool true]) ∧ Below w.heap.size w w' := by
  rw [split_eq] at h
  by_cases ho : wO (minusL l) = true
  · rw [if_pos ho] at h
    unfold behindL fracL at h
    by_cases hf : (wR (minusL l)).head? = some 46
    · rw [if_pos hf] at h
      by_cases hd : tw (wR (minusL l)).tail = []
      · rw [if_pos hd] at h; cases h
      · rw [if_neg hd] at h
        simp only at h
        unfold expL at h
        by_cases he : (dw (wR (minusL l)).tail).head? = some 101 ∨ (dw (wR (minusL l)).tail).head? = some 69
        · rw [if_pos he] at h
          by_cases hx : tw (signL (dw (wR (minusL l)).tail).tail) = []
          · rw [if_pos hx] at h; cases h
          · rw [if_neg hx] at h
            simp only [Option.some.injEq, Prod.mk.injEq] at h
            obtain ⟨rfl, rfl⟩ := h
            have := split_some11 l w hs ho hf hd he
            rw [decide_eq_true hx] at this
            exact this
        · rw [if_neg he] at h
          simp only [Option.some.injEq, Prod.mk.injEq] at h
          obtain ⟨rfl, rfl⟩ := h
          exact split_some10 l w hs ho hf hd he
    · rw [if_neg hf] at h
      simp only at h
      unfold expL at h
      by_cases he : (wR (minusL l)).head? = some 101 ∨ (wR (minusL l)).head? = some 69
      · rw [if_pos he] at h
        by_cases hx : tw (signL (wR (minusL l)).tail) = []
        · rw [if_pos hx] at h; cases h
        · rw [if_neg hx] at h
          simp only [Option.some.injEq, Prod.mk.injEq] at h
          obtain ⟨rfl, rfl⟩ := h
          have := split_some01 l w hs ho hf he
          rw [decide_eq_true hx] at this
          exact this
      · rw [if_neg he] at h
        simp only [Option.some.injEq, Prod.mk.injEq] at h
        obtain ⟨rfl, rfl⟩ := h
        exact split_some00 l w hs ho hf he
  · rw [if_neg ho] at h; cases h

theorem num_snoc (l : List UInt8) (c : UInt8) : num (l ++ [c]) = num l * 10 + ((c.toNat : Int) - 48) := by
  rw [num_append, num_cons]; simp [num, numF]
theorem take_cx (s : ByteArray) (k : Nat) (h : k < s.size) : ∃ c : UInt8, s.data.toList.take (k + 1) = s.data.toList.take k ++ [c] ∧ (c.toNat : Int) = cx s k ∧ (s.data.toList.all isD = true → isD c = true) := by
  obtain ⟨c, hc, hx⟩ := cx_get s k h
  refine ⟨c, ?_, hx, fun ha => List.all_eq_true.1 ha c (List.mem_of_getElem? hc)⟩
  rw [List.take_succ_eq_append_getElem (by rw [len_of]; exact h)]
  congr 2
  rw [List.getElem?_eq_getElem (by rw [len_of]; exact h)] at hc
  exact Option.some.inj hc
theorem all_take {l : List UInt8} (h : l.all isD = true) (k : Nat) : (l.take k).all isD = true := by
  rw [List.all_eq_true] at h ⊢
  exact fun x hx => h x (List.mem_of_mem_take hx)
/-- The capped number of the digits so far. -/
def capN (C : Int) (s : ByteArray) (k : Nat) : Int := min (num (s.data.toList.take k)) C
theorem capN_bd (C : Int) (hC : 0 ≤ C) (s : ByteArray) (k : Nat) (h : s.data.toList.all isD = true) : 0 ≤ capN C s k ∧ capN C s k ≤ C := by
  have := num_nonneg (all_take h k)
  unfold capN; omega
theorem capN_succ (C : Int) (hC : 0 ≤ C) (s : ByteArray) (k : Nat) (hk : k < s.size) (h : s.data.toList.all isD = true) : capN C s (k + 1) = min (capN C s k * 10 + (cx s k - 48)) C ∧ 48 ≤ cx s k ∧ cx s k ≤ 57 := by
  obtain ⟨c, e, hx, hd⟩ := take_cx s k hk
  have := (isD_iff c).1 (hd h)
  have n0 := num_nonneg (all_take h k)
  refine ⟨?_, by omega, by omega⟩
  unfold capN
  rw [e, num_snoc, hx]
  omega

set_option maxHeartbeats 800000 in
theorem shift_any (n : Bool) (a b : ByteArray) (m : Bool) (x : ByteArray) (w : World) (hx : x.size ≤ maxLen) (hd : x.data.toList.all isD = true) :
    Calls Tryz.prog 79 #[.agg #[.bool n, .string a, .string b, .bool m, .string x]] w fun e w' => e = .returned (.int .i64 (if m = true then -(capN 1131072 x x.size) else capN 1131072 x x.size)) ∧ w' = w.alloc (.cells #[.bool n, .string a, .string b, .bool m, .string x] 86) := by
  unfold maxLen at hx
  have HB : Hid (∀ k, 0 ≤ capN 1131072 x k ∧ capN 1131072 x k ≤ 1131072) := fun k => capN_bd _ (by decide) x k hd
  have HS : Hid (∀ k, k < x.size → capN 1131072 x (k + 1) = min (capN 1131072 x k * 10 + (cx x k - 48)) 1131072 ∧ 48 ≤ cx x k ∧ cx x k ≤ 57) := fun k hk => capN_succ _ (by decide) x k hk hd
  obtain ⟨Z, hZ⟩ : ∃ Z, capN 1131072 x x.size = Z := ⟨_, rfl⟩
  rw [hZ]
  have HZ : Hid (capN 1131072 x x.size = Z) := hZ
  clear hd hZ
  go_enter Tryz.func79, Tryz.ntmps79
  go_wp2
  go_loop [3, 8] (fun v i => ∃ k : Nat, k ≤ x.size ∧ i = .int .i64 k ∧ v = .int .i64 (capN 1131072 x k)) (fun _ i => x.size - (intOf i).toNat)
  case atStart => exact ⟨0, Nat.zero_le _, rfl, rfl⟩
  case round =>
    obtain ⟨k, hk, rfl, rfl⟩ := hrel
    have hb := HB.out k
    by_cases hlt : k < x.size
    · have hI : (k : Int) < (x.size : Int) := by omega
      have hc := cx_at x k hlt
      obtain ⟨s1, s2, s3⟩ := HS.out k hlt
      have HE : Hid (capN 1131072 x (k + 1) = min (capN 1131072 x k * 10 + (cx x k - 48)) 1131072) := s1
      clear s1
      generalize cx x k = y at *
      generalize hz : capN 1131072 x k = z at *
      clear hz
      go_wp2
      go_round
      case rel => exact ⟨k + 1, by omega, by go_num, by rw [HE.out]⟩
      case measure => simp [intOf]; omega
    · have e : k = x.size := by omega
      subst e
      rw [HZ.out] at hb ⊢
      cases m
      · go_wp2
        go_ret
        exact ⟨rfl, rfl⟩
      · go_wp2
        go_ret
        exact ⟨rfl, rfl⟩
end Go.Proofs.YtfhapeinfhjihaaGreatDoor
