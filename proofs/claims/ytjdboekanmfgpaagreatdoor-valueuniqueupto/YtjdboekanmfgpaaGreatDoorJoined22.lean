/-
  What dec.split answers where there is an exponent. No condition.
  dec.split as a whole, and what (parts).shift answers. No condition but that the exponent's bytes are digits.
  What (parts).number and dec.read answer: the number of a text's parts, or which error. Conditions: the parts are digits; the sentinel lies in its variable.
  What (parts).number answers where the exponent is too far. Conditions: the parts are digits; the sentinel lies in its variable.
  What (parts).number answers of digits in range. Conditions: the parts are digits.
-/
import Derived.Test.YtjdboekanmfgpaaGreatDoorJoined21
namespace Go.Proofs.YtjdboekanmfgpaaGreatDoor
open Go.RowKit
attribute [local go_sem] setCell_drewN alloc_drewN

set_option maxRecDepth 100000 in
set_option maxHeartbeats 1600000 in
theorem split_some01 (l : List UInt8) (w : World) (hs : l.length ≤ maxLen) (ho : wO (minusL l) = true) (hf : ¬ (wR (minusL l)).head? = some 46) (he : (wR (minusL l)).head? = some 101 ∨ (wR (minusL l)).head? = some 69) :
  Calls Tryz.prog 216 #[.string (bs l)] w fun e w' => e = .returned (.tuple #[pv ⟨decide (l.head? = some 45), wW (minusL l), [], decide ((wR (minusL l)).tail.head? = some 45), tw (signL (wR (minusL l)).tail)⟩, .string (bs (dw (signL (wR (minusL l)).tail))), .bool (decide (tw (signL (wR (minusL l)).tail) ≠ []))]) ∧ Below w.heap.size w w' := by
 have h1 := fun w => cut_any l 45 w
 have h2 := fun w => splitWhole_any (minusL l) w (Nat.le_trans (len_minus l) hs)
 have h3 := fun w => cut_any (wR (minusL l)) 46 w
 have l4 : (wR (minusL l)).length ≤ l.length := Nat.le_trans (len_wR _) (len_minus l)
 rw [show (if l.head? = some 45 then l.tail else l) = minusL l from rfl] at h1
 rw [ho] at h2
 rw [if_neg hf, decide_eq_false hf] at h3
 have l6 : (wR (minusL l)).length ≤ l.length := l4
 have h5 := fun b w c0 c1 => cutAny_any (wR (minusL l)) b 101 69 w c0 c1
 rw [if_pos he, decide_eq_true he] at h5
 have h6 := fun w => has_one (bs (wR (minusL l)).tail) 45 w
 have h7 := fun b w c0 c1 => cutAny_any (wR (minusL l)).tail b 43 45 w c0 c1
 have l7 : (signL (wR (minusL l)).tail).length ≤ l.length := Nat.le_trans (len_sign _) (Nat.le_trans (by simp) l6)
 have h8 := fun w => splitDigits_l (signL (wR (minusL l)).tail) w (by omega)
 rw [show (if (wR (minusL l)).tail.head? = some 43 ∨ (wR (minusL l)).tail.head? = some 45 then (wR (minusL l)).tail.tail else (wR (minusL l)).tail) = signL (wR (minusL l)).tail from rfl] at h7
 rw [bs_list] at h6
 clear ho hs hf he l4 l6 l7
 generalize decide (l.head? = some 45) = neg at *
 generalize minusL l = m at *
 generalize wW m = W at *
 generalize wR m = R at *
 generalize decide (R.tail.head? = some 45) = mi at *
 generalize decide (R.tail.head? = some 43 ∨ R.tail.head? = some 45) = sgn at *
 generalize decide (tw (signL R.tail) ≠ []) = ok at *
 generalize tw (signL R.tail) = X at *
 generalize dw (signL R.tail) = Y at *
 generalize signL R.tail = Z at *
 generalize R.tail = E at *
 go_enter Tryz.func216, Tryz.ntmps216
 go_wp2_with (first | (go_at_call 223; with_reducible refine (h1 _).mono ?_; rintro e w' ⟨rfl, rfl⟩) | (go_at_call 223; with_reducible refine (h3 _).mono ?_; rintro e w' ⟨rfl, rfl⟩) | (go_at_call 224; refine (h2 _).mono ?_; rintro e w' ⟨rfl, q, rfl⟩) | (go_at_call 226; with_reducible refine (h5 _ _ ?_ ?_).mono ?_; simp [go_sem]; simp [go_sem]; rintro e w' ⟨rfl, rfl⟩) | (go_at_call 226; with_reducible refine (h7 _ _ ?_ ?_).mono ?_; simp [go_sem]; simp [go_sem]; rintro e w' ⟨rfl, rfl⟩) | (go_at_call 227; refine (h6 _).mono ?_; rintro e w' ⟨rfl, rfl⟩) | (go_at_call 225; with_reducible refine (h8 _).mono ?_; rintro e w' ⟨rfl, q2, rfl⟩))
 refine bodyPost_ret (v := .tuple #[.agg #[.bool neg, .string (bs W), .string ⟨#[]⟩, .bool mi, .string (bs X)], .string (bs Y), .bool ok]) ?_ rfl ?_
 ·simp [results, Tryz.results216, go_sem]
 ·exact ⟨rfl, (by with_reducible repeat (first | exact Below.refl _ _ | refine bl_d ?_ | refine bl_n ?_ _ | refine bl_a ?_ _ | refine bl_s ?_ (by omega) _))⟩

set_option maxRecDepth 100000 in
set_option maxHeartbeats 1600000 in
theorem split_some11 (l : List UInt8) (w : World) (hs : l.length ≤ maxLen) (ho : wO (minusL l) = true) (hf : (wR (minusL l)).head? = some 46) (hd : tw (wR (minusL l)).tail ≠ []) (he : (dw (wR (minusL l)).tail).head? = some 101 ∨ (dw (wR (minusL l)).tail).head? = some 69) :
  Calls Tryz.prog 216 #[.string (bs l)] w fun e w' => e = .returned (.tuple #[pv ⟨decide (l.head? = some 45), wW (minusL l), tw (wR (minusL l)).tail, decide ((dw (wR (minusL l)).tail).tail.head? = some 45), tw (signL (dw (wR (minusL l)).tail).tail)⟩, .string (bs (dw (signL (dw (wR (minusL l)).tail).tail))), .bool (decide (tw (signL (dw (wR (minusL l)).tail).tail) ≠ []))]) ∧ Below w.heap.size w w' := by
 have h1 := fun w => cut_any l 45 w
 have h2 := fun w => splitWhole_any (minusL l) w (Nat.le_trans (len_minus l) hs)
 have h3 := fun w => cut_any (wR (minusL l)) 46 w
 have l4 : (wR (minusL l)).length ≤ l.length := Nat.le_trans (len_wR _) (len_minus l)
 rw [show (if l.head? = some 45 then l.tail else l) = minusL l from rfl] at h1
 rw [ho] at h2
 have l5 : (wR (minusL l)).tail.length ≤ l.length := Nat.le_trans (by simp) l4
 have h4 := fun w => splitDigits_l (wR (minusL l)).tail w (by omega)
 rw [if_pos hf, decide_eq_true hf] at h3
 rw [decide_eq_true hd] at h4
 have l6 : (dw (wR (minusL l)).tail).length ≤ l.length := Nat.le_trans (len_dw _) l5
 have h5 := fun b w c0 c1 => cutAny_any (dw (wR (minusL l)).tail) b 101 69 w c0 c1
 rw [if_pos he, decide_eq_true he] at h5
 have h6 := fun w => has_one (bs (dw (wR (minusL l)).tail).tail) 45 w
 have h7 := fun b w c0 c1 => cutAny_any (dw (wR (minusL l)).tail).tail b 43 45 w c0 c1
 have l7 : (signL (dw (wR (minusL l)).tail).tail).length ≤ l.length := Nat.le_trans (len_sign _) (Nat.le_trans (by simp) l6)
 have h8 := fun w => splitDigits_l (signL (dw (wR (minusL l)).tail).tail) w (by omega)
 rw [show (if (dw (wR (minusL l)).tail).tail.head? = some 43 ∨ (dw (wR (minusL l)).tail).tail.head? = some 45 then (dw (wR (minusL l)).tail).tail.tail else (dw (wR (minusL l)).tail).tail) = signL (dw (wR (minusL l)).tail).tail from rfl] at h7
 rw [bs_list] at h6
 clear ho hs hf he l4 l6 l5 hd l7
 generalize decide (l.head? = some 45) = neg at *
 generalize minusL l = m at *
 generalize wW m = W at *
 generalize wR m = R at *
 generalize tw R.tail = T at *
 generalize dw R.tail = U at *
 generalize R.tail = R' at *
 generalize decide (U.tail.head? = some 45) = mi at *
 generalize decide (U.tail.head? = some 43 ∨ U.tail.head? = some 45) = sgn at *
 generalize decide (tw (signL U.tail) ≠ []) = ok at *
 generalize tw (signL U.tail) = X at *
 generalize dw (signL U.tail) = Y at *
 generalize signL U.tail = Z at *
 generalize U.tail = E at *
 go_enter Tryz.func216, Tryz.ntmps216
 go_wp2_with (first | (go_at_call 223; with_reducible refine (h1 _).mono ?_; rintro e w' ⟨rfl, rfl⟩) | (go_at_call 223; with_reducible refine (h3 _).mono ?_; rintro e w' ⟨rfl, rfl⟩) | (go_at_call 224; refine (h2 _).mono ?_; rintro e w' ⟨rfl, q, rfl⟩) | (go_at_call 225; with_reducible refine (h4 _).mono ?_; rintro e w' ⟨rfl, q1, rfl⟩) | (go_at_call 226; with_reducible refine (h5 _ _ ?_ ?_).mono ?_; simp [go_sem]; simp [go_sem]; rintro e w' ⟨rfl, rfl⟩) | (go_at_call 226; with_reducible refine (h7 _ _ ?_ ?_).mono ?_; simp [go_sem]; simp [go_sem]; rintro e w' ⟨rfl, rfl⟩) | (go_at_call 227; refine (h6 _).mono ?_; rintro e w' ⟨rfl, rfl⟩) | (go_at_call 225; with_reducible refine (h8 _).mono ?_; rintro e w' ⟨rfl, q2, rfl⟩))
 refine bodyPost_ret (v := .tuple #[.agg #[.bool neg, .string (bs W), .string (bs T), .bool mi, .string (bs X)], .string (bs Y), .bool ok]) ?_ rfl ?_
 ·simp [results, Tryz.results216, go_sem]
 ·exact ⟨rfl, (by with_reducible repeat (first | exact Below.refl _ _ | refine bl_d ?_ | refine bl_n ?_ _ | refine bl_a ?_ _ | refine bl_s ?_ (by omega) _))⟩

end Go.Proofs.YtjdboekanmfgpaaGreatDoor

namespace Go.Proofs.YtjdboekanmfgpaaGreatDoor
open Go.RowKit

theorem split_no (l : List UInt8) (w : World) (hs : l.length ≤ maxLen) (h : splitL l = none) :
  Calls Tryz.prog 216 #[.string (bs l)] w fun e w' => (∃ p r o, e = .returned (.tuple #[pv p, .string (bs r), .bool o]) ∧ o = false) ∧ Below w.heap.size w w' := by
 rw [split_eq] at h
 by_cases ho : wO (minusL l) = true
 ·rw [if_pos ho] at h
  unfold behindL fracL at h
  by_cases hf : (wR (minusL l)).head? = some 46
  ·rw [if_pos hf] at h
   by_cases hd : tw (wR (minusL l)).tail = []
   ·refine (split_none2 l w hs ho hf hd).mono ?_
    rintro e w' ⟨⟨p, r, rfl, _⟩, hb⟩
    exact ⟨⟨p, r, _, rfl, rfl⟩, hb⟩
   ·rw [if_neg hd] at h
    simp only at h
    unfold expL at h
    by_cases he : (dw (wR (minusL l)).tail).head? = some 101 ∨ (dw (wR (minusL l)).tail).head? = some 69
    ·rw [if_pos he] at h
     by_cases hx : tw (signL (dw (wR (minusL l)).tail).tail) = []
     ·refine (split_some11 l w hs ho hf hd he).mono ?_
      rintro e w' ⟨rfl, hb⟩
      exact ⟨⟨_, _, _, rfl, decide_eq_false (fun g => g hx)⟩, hb⟩
     ·rw [if_neg hx] at h; cases h
    ·rw [if_neg he] at h; cases h
  ·rw [if_neg hf] at h
   simp only at h
   unfold expL at h
   by_cases he : (wR (minusL l)).head? = some 101 ∨ (wR (minusL l)).head? = some 69
   ·rw [if_pos he] at h
    by_cases hx : tw (signL (wR (minusL l)).tail) = []
    ·refine (split_some01 l w hs ho hf he).mono ?_
     rintro e w' ⟨rfl, hb⟩
     exact ⟨⟨_, _, _, rfl, decide_eq_false (fun g => g hx)⟩, hb⟩
    ·rw [if_neg hx] at h; cases h
   ·rw [if_neg he] at h; cases h
 ·refine (split_none1 l w hs (by simpa using ho)).mono ?_
  rintro e w' ⟨⟨p, r, rfl, _⟩, hb⟩
  exact ⟨⟨p, r, _, rfl, rfl⟩, hb⟩
theorem split_yes (l : List UInt8) (P : P3) (r : List UInt8) (w : World) (hs : l.length ≤ maxLen) (h : splitL l = some (P, r)) :
  Calls Tryz.prog 216 #[.string (bs l)] w fun e w' => e = .returned (.tuple #[pv P, .string (bs r), .bool true]) ∧ Below w.heap.size w w' := by
 rw [split_eq] at h
 by_cases ho : wO (minusL l) = true
 ·rw [if_pos ho] at h
  unfold behindL fracL at h
  by_cases hf : (wR (minusL l)).head? = some 46
  ·rw [if_pos hf] at h
   by_cases hd : tw (wR (minusL l)).tail = []
   ·rw [if_pos hd] at h; cases h
   ·rw [if_neg hd] at h
    simp only at h
    unfold expL at h
    by_cases he : (dw (wR (minusL l)).tail).head? = some 101 ∨ (dw (wR (minusL l)).tail).head? = some 69
    ·rw [if_pos he] at h
     by_cases hx : tw (signL (dw (wR (minusL l)).tail).tail) = []
     ·rw [if_pos hx] at h; cases h
     ·rw [if_neg hx] at h
      simp only [Option.some.injEq, Prod.mk.injEq] at h
      obtain ⟨rfl, rfl⟩ := h
      have := split_some11 l w hs ho hf hd he
      rw [decide_eq_true hx] at this
      exact this
    ·rw [if_neg he] at h
     simp only [Option.some.injEq, Prod.mk.injEq] at h
     obtain ⟨rfl, rfl⟩ := h
     exact split_some10 l w hs ho hf hd he
  ·rw [if_neg hf] at h
   simp only at h
   unfold expL at h
   by_cases he : (wR (minusL l)).head? = some 101 ∨ (wR (minusL l)).head? = some 69
   ·rw [if_pos he] at h
    by_cases hx : tw (signL (wR (minusL l)).tail) = []
    ·rw [if_pos hx] at h; cases h
    ·rw [if_neg hx] at h
     simp only [Option.some.injEq, Prod.mk.injEq] at h
     obtain ⟨rfl, rfl⟩ := h
     have := split_some01 l w hs ho hf he
     rw [decide_eq_true hx] at this
     exact this
   ·rw [if_neg he] at h
    simp only [Option.some.injEq, Prod.mk.injEq] at h
    obtain ⟨rfl, rfl⟩ := h
    exact split_some00 l w hs ho hf he
 ·rw [if_neg ho] at h; cases h

theorem num_snoc (l : List UInt8) (c : UInt8) : num (l ++ [c]) = num l * 10 + ((c.toNat : Int) - 48) := by
 rw [num_append, num_cons]; simp [num, numF]
theorem take_cx (s : ByteArray) (k : Nat) (h : k < s.size) : ∃ c : UInt8, s.data.toList.take (k + 1) = s.data.toList.take k ++ [c] ∧ (c.toNat : Int) = cx s k ∧ (s.data.toList.all isD = true → isD c = true) := by
 obtain ⟨c, hc, hx⟩ := cx_get s k h
 refine ⟨c, ?_, hx, fun ha => List.all_eq_true.1 ha c (List.mem_of_getElem? hc)⟩
 rw [List.take_succ_eq_append_getElem (by rw [len_of]; exact h)]
 congr 2
 rw [List.getElem?_eq_getElem (by rw [len_of]; exact h)] at hc
 exact Option.some.inj hc
theorem all_take {l : List UInt8} (h : l.all isD = true) (k : Nat) : (l.take k).all isD = true := by
 rw [List.all_eq_true] at h ⊢
 exact fun x hx => h x (List.mem_of_mem_take hx)
/-- The capped number of the digits so far. -/
def capN (C : Int) (s : ByteArray) (k : Nat) : Int := min (num (s.data.toList.take k)) C
theorem capN_bd (C : Int) (hC : 0 ≤ C) (s : ByteArray) (k : Nat) (h : s.data.toList.all isD = true) : 0 ≤ capN C s k ∧ capN C s k ≤ C := by
 have := num_nonneg (all_take h k)
 unfold capN; omega
theorem capN_succ (C : Int) (hC : 0 ≤ C) (s : ByteArray) (k : Nat) (hk : k < s.size) (h : s.data.toList.all isD = true) : capN C s (k + 1) = min (capN C s k * 10 + (cx s k - 48)) C ∧ 48 ≤ cx s k ∧ cx s k ≤ 57 := by
 obtain ⟨c, e, hx, hd⟩ := take_cx s k hk
 have := (isD_iff c).1 (hd h)
 have n0 := num_nonneg (all_take h k)
 refine ⟨?_, by omega, by omega⟩
 unfold capN
 rw [e, num_snoc, hx]
 omega

set_option maxHeartbeats 800000 in
theorem shift_any (n : Bool) (a b : ByteArray) (m : Bool) (x : ByteArray) (w : World) (hx : x.size ≤ maxLen) (hd : x.data.toList.all isD = true) :
  Calls Tryz.prog 230 #[.agg #[.bool n, .string a, .string b, .bool m, .string x]] w fun e w' => e = .returned (.int .i64 (if m = true then -(capN 1131072 x x.size) else capN 1131072 x x.size)) ∧ w' = w.alloc (.cells #[.bool n, .string a, .string b, .bool m, .string x] 238) := by
 unfold maxLen at hx
 have HB : Hid (∀ k, 0 ≤ capN 1131072 x k ∧ capN 1131072 x k ≤ 1131072) := fun k => capN_bd _ (by decide) x k hd
 have HS : Hid (∀ k, k < x.size → capN 1131072 x (k + 1) = min (capN 1131072 x k * 10 + (cx x k - 48)) 1131072 ∧ 48 ≤ cx x k ∧ cx x k ≤ 57) := fun k hk => capN_succ _ (by decide) x k hk hd
 obtain ⟨Z, hZ⟩ : ∃ Z, capN 1131072 x x.size = Z := ⟨_, rfl⟩
 rw [hZ]
 have HZ : Hid (capN 1131072 x x.size = Z) := hZ
 clear hd hZ
 go_enter Tryz.func230, Tryz.ntmps230
 go_wp2
 go_loop [3, 8] (fun v i => ∃ k : Nat, k ≤ x.size ∧ i = .int .i64 k ∧ v = .int .i64 (capN 1131072 x k)) (fun _ i => x.size - (intOf i).toNat)
 case atStart => exact ⟨0, Nat.zero_le _, rfl, rfl⟩
 case round =>
  obtain ⟨k, hk, rfl, rfl⟩ := hrel
  have hb := HB.out k
  by_cases hlt : k < x.size
  ·have hI : (k : Int) < (x.size : Int) := by omega
   have hc := cx_at x k hlt
   obtain ⟨s1, s2, s3⟩ := HS.out k hlt
   have HE : Hid (capN 1131072 x (k + 1) = min (capN 1131072 x k * 10 + (cx x k - 48)) 1131072) := s1
   clear s1
   generalize cx x k = y at *
   generalize hz : capN 1131072 x k = z at *
   clear hz
   go_wp2
   go_round
   case rel => exact ⟨k + 1, by omega, by go_num, by rw [HE.out]⟩
   case measure => simp [intOf]; omega
  ·have e : k = x.size := by omega
   subst e
   rw [HZ.out] at hb ⊢
   cases m
   ·go_wp2
    go_ret
    exact ⟨rfl, rfl⟩
   ·go_wp2
    go_ret
    exact ⟨rfl, rfl⟩
end Go.Proofs.YtjdboekanmfgpaaGreatDoor

namespace Go.Proofs.YtjdboekanmfgpaaGreatDoor
open Go.RowKit
attribute [local go_sem] setCell_drewN alloc_drewN

theorem trimR (s : ByteArray) (w : World) (hs : s.size ≤ 9223372036854775807) :
  Calls Tryz.prog 228 #[.string s, .string ⟨#[48]⟩] w fun e w' => e = .returned (.string (bs (Lib.trimRightB s.data.toList 48))) ∧ w = w' := by
 refine (Tryz.strings_TrimRight_one s 48 (by decide) w hs).mono ?_
 rintro e w' ⟨rfl, rfl⟩
 exact ⟨rfl, rfl⟩
theorem trimL (s : ByteArray) (w : World) :
  Calls Tryz.prog 229 #[.string s, .string ⟨#[48]⟩] w fun e w' => e = .returned (.string (bs (Lib.trimLeftB s.data.toList 48))) ∧ w = w' := by
 refine (Tryz.strings_TrimLeft_one s 48 (by decide) w).mono ?_
 rintro e w' ⟨rfl, rfl⟩
 exact ⟨rfl, rfl⟩
theorem bs_append (a b : List UInt8) : bs a ++ bs b = bs (a ++ b) := by
 have h : (bs a ++ bs b).data = (bs (a ++ b)).data := by rw [ByteArray.data_append]; show a.toArray ++ b.toArray = (a ++ b).toArray; simp
 cases h1 : bs a ++ bs b
 cases h2 : bs (a ++ b)
 rw [h1, h2] at h
 simp only at h
 rw [h]
set_option maxHeartbeats 400000 in
theorem clone_any (s : ByteArray) (w : World) (hs : s.size ≤ 281474976710656) :
  Calls Tryz.prog 231 #[.string s] w fun e w' => e = .returned (.string s) ∧ Below w.heap.size w w' := by
 go_enter Tryz.func231, Tryz.ntmps231
 go_wp2_with (go_at_call 249; refine (Tryz.stringslite_Clone s _ hs).mono ?_; rintro e w' ⟨rfl, hb⟩)
 go_ret
 exact ⟨rfl, hb⟩
theorem toList_bs (l : List UInt8) : (bs l).toList = l := by rw [ByteArray.toList_eq]; rfl
theorem bcell {W w1 : World} (hb : Below W.heap.size W w1) : (∀ b o, b < W.heap.size → w1.cell? ⟨b, o, none⟩ = W.cell? ⟨b, o, none⟩) ∧ (∀ b o, b < W.heap.size → w1.frozen? ⟨b, o, none⟩ = W.frozen? ⟨b, o, none⟩) :=
 ⟨fun b o h => hb.cell (p := ⟨b, o, none⟩) h, fun b o h => hb.frozen (p := ⟨b, o, none⟩) h⟩
def zv : Value := .agg #[.bool false, .string ⟨#[]⟩, .int .i64 0]
def d3 (d : D3) : Value := .agg #[.bool d.neg, .string (bs d.dg), .int .i64 d.ex]

set_option maxRecDepth 100000 in
set_option maxHeartbeats 800000 in
theorem number_long (p : P3) (gv : Value) (w : World) (h0 : 4 < w.heap.size) (hg : w.cell? ⟨4, 0, none⟩ = some gv) (hs : p.int.length + p.frac.length ≤ maxLen) (h : 65536 < (allOf p).length) :
  Calls Tryz.prog 217 #[pv p] w fun e w' => e = .returned (.tuple #[zv, gv]) ∧ Below w.heap.size w w' := by
 have h0k : ∀ k, k ≤ 4 → k < w.heap.size := fun k hk => Nat.lt_of_le_of_lt hk h0
 have hl : (65536 : Int) < ((bs p.int).size : Int) + ((bs p.frac).size : Int) := by unfold allOf at h; rw [List.length_append] at h; rw [bs_size, bs_size]; omega
 have hm : ((bs p.int).size : Int) + ((bs p.frac).size : Int) ≤ 9223372036854775807 := by unfold maxLen at hs; rw [bs_size, bs_size]; omega
 clear h hs
 unfold pv
 generalize bs p.int = a at *
 generalize bs p.frac = b at *
 generalize bs p.exp = x at *
 go_enter Tryz.func217, Tryz.ntmps217
 go_wp2_with fail
 go_region
 all_goals (try go_wp2)
 all_goals (refine bodyPost_ret (v := .tuple #[.agg #[.bool false, .string ⟨#[]⟩, .int .i64 0], gv]) ?_ rfl ?_)
 all_goals first | (exact ⟨rfl, (by with_reducible repeat (first | exact Below.refl _ _ | refine bl_d ?_ | refine bl_n ?_ _ | refine bl_a ?_ _ | refine bl_s ?_ (by omega) _))⟩) | (simp [results, Tryz.results217, go_sem])

set_option maxRecDepth 100000 in
set_option maxHeartbeats 800000 in
theorem number_zero (p : P3) (w : World) (h : (allOf p).length ≤ 65536) (hz : dgOf p = []) :
  Calls Tryz.prog 217 #[pv p] w fun e w' => e = .returned (.tuple #[zv, .nilIface]) ∧ Below w.heap.size w w' := by
 have hl : ¬ (65536 : Int) < ((bs p.int).size : Int) + ((bs p.frac).size : Int) := by unfold allOf at h; rw [List.length_append] at h; rw [bs_size, bs_size]; omega
 have h1 := fun w => trimR (bs (allOf p)) w (by rw [bs_size]; omega)
 have h2 := fun w => trimL (bs (upOf p)) w
 rw [bs_list] at h1 h2
 rw [show Lib.trimRightB (allOf p) 48 = upOf p from rfl] at h1
 rw [show Lib.trimLeftB (upOf p) 48 = [] from hz] at h2
 have ha : bs p.int ++ bs p.frac = bs (allOf p) := bs_append _ _
 have he : (bs []).toList = [] := toList_bs []
 clear h hz
 unfold pv
 generalize bs (upOf p) = U at *
 generalize bs (allOf p) = A at *
 generalize bs p.int = a at *
 generalize bs p.frac = b at *
 generalize bs p.exp = x at *
 go_enter Tryz.func217, Tryz.ntmps217
 go_wp2_with (first | (go_at_call 228; refine (h1 _).mono ?_; rintro e w' ⟨rfl, rfl⟩) | (go_at_call 229; refine (h2 _).mono ?_; rintro e w' ⟨rfl, rfl⟩) | (go_at_call 118; refine (nought_any _).mono ?_; rintro r w' ⟨rfl, rfl⟩))
 refine bodyPost_ret (v := .tuple #[.agg #[.bool false, .string ⟨#[]⟩, .int .i64 0], .nilIface]) ?_ rfl ?_
 ·simp [results, Tryz.results217, go_sem]
 ·exact ⟨rfl, (by with_reducible repeat (first | exact Below.refl _ _ | refine bl_d ?_ | refine bl_n ?_ _ | refine bl_a ?_ _ | refine bl_s ?_ (by omega) _))⟩

/-- What the walks below want of the parts. -/
theorem expOf_bd (p : P3) (hd : p.exp.all isD = true) : -1131072 ≤ expOf 1131072 p ∧ expOf 1131072 p ≤ 1131072 := by
 have := num_nonneg hd
 unfold expOf
 split <;> omega
theorem capN_all (p : P3) : (if p.minus = true then -(capN 1131072 (bs p.exp) (bs p.exp).size) else capN 1131072 (bs p.exp) (bs p.exp).size) = expOf 1131072 p := by
 unfold expOf capN
 rw [bs_list, bs_size, List.take_length]

end Go.Proofs.YtjdboekanmfgpaaGreatDoor

namespace Go.Proofs.YtjdboekanmfgpaaGreatDoor
open Go.RowKit
attribute [local go_sem] setCell_drewN alloc_drewN

set_option maxRecDepth 100000 in
set_option maxHeartbeats 1600000 in
theorem number_far (p : P3) (gv : Value) (w : World) (h0 : 4 < w.heap.size) (hg : w.cell? ⟨4, 0, none⟩ = some gv) (h : (allOf p).length ≤ 65536) (hz : dgOf p ≠ []) (hd : p.exp.all isD = true) (hx : p.exp.length ≤ maxLen) (hr : exOf 1131072 p < -1000000 ∨ 1000000 < exOf 1131072 p) :
  Calls Tryz.prog 217 #[pv p] w fun e w' => e = .returned (.tuple #[zv, gv]) ∧ Below w.heap.size w w' := by
 have h0k : ∀ k, k ≤ 4 → k < w.heap.size := fun k hk => Nat.lt_of_le_of_lt hk h0
 have h0a : 4 < w.heap.size + 1 := by omega
 have h0b : 4 < w.heap.size + 1 + 1 := by omega
 have h0c : 4 < w.heap.size + 2 := by omega
 have h0d : 4 ≠ w.heap.size := by omega
 have h0e : 4 ≠ w.heap.size + 1 := by omega
 have h0f : 4 ≠ w.heap.size + 1 + 1 := by omega
 have hl : ¬ (65536 : Int) < ((bs p.int).size : Int) + ((bs p.frac).size : Int) := by unfold allOf at h; rw [List.length_append] at h; rw [bs_size, bs_size]; omega
 have h1 := fun w => trimR (bs (allOf p)) w (by rw [bs_size]; omega)
 have h2 := fun w => trimL (bs (upOf p)) w
 rw [bs_list] at h1 h2
 rw [show Lib.trimRightB (allOf p) 48 = upOf p from rfl] at h1
 rw [show Lib.trimLeftB (upOf p) 48 = dgOf p from rfl] at h2
 have h3 := fun w => shift_any p.neg (bs p.int) (bs p.frac) p.minus (bs p.exp) w (by rw [bs_size]; exact hx) (by rw [bs_list]; exact hd)
 rw [capN_all] at h3
 have ha : bs p.int ++ bs p.frac = bs (allOf p) := bs_append _ _
 have he : (bs (dgOf p)).toList.isEmpty = false := by rw [toList_bs]; cases hq : dgOf p with
  | nil => exact absurd hq hz
  | cons c t => rfl
 obtain ⟨e1, e2⟩ := expOf_bd p hd
 have lu : ((bs (upOf p)).size : Int) ≤ 65536 := by have : (upOf p).length ≤ (allOf p).length := trimRight_le _ _; rw [bs_size]; omega
 have la : ((bs (allOf p)).size : Int) ≤ 65536 := by rw [bs_size]; omega
 have lb : ((bs p.frac).size : Int) ≤ 65536 := by unfold allOf at h; rw [List.length_append] at h; rw [bs_size]; omega
 have hX : expOf 1131072 p - ((bs p.frac).size : Int) + ((bs (allOf p)).size : Int) - ((bs (upOf p)).size : Int) = exOf 1131072 p := by unfold exOf; rw [bs_size, bs_size, bs_size]
 clear h hz hd hx
 unfold pv
 generalize bs (upOf p) = U at *
 generalize bs (allOf p) = A at *
 generalize bs (dgOf p) = D at *
 generalize bs p.int = a at *
 generalize bs p.frac = b at *
 generalize bs p.exp = x at *
 generalize expOf 1131072 p = E at *
 generalize exOf 1131072 p = X at *
 by_cases hr1 : X < -1000000
 ·clear hr
  go_enter Tryz.func217, Tryz.ntmps217
  go_wp2_with (first | (go_at_call 228; refine (h1 _).mono ?_; rintro e w' ⟨rfl, rfl⟩) | (go_at_call 229; refine (h2 _).mono ?_; rintro e w' ⟨rfl, rfl⟩))
  go_region_with (go_at_call 230; refine (h3 _).mono ?_; rintro r w' ⟨rfl, rfl⟩)
  all_goals (try go_wp2_with fail)
  all_goals go_region
  all_goals (try go_wp2)
  all_goals (refine bodyPost_ret (v := .tuple #[.agg #[.bool false, .string ⟨#[]⟩, .int .i64 0], gv]) ?_ rfl ?_)
  all_goals first | (exact ⟨rfl, (by with_reducible repeat (first | exact Below.refl _ _ | refine bl_d ?_ | refine bl_n ?_ _ | refine bl_a ?_ _ | refine bl_s ?_ (by omega) _))⟩) | (simp [results, Tryz.results217, go_sem])
 ·have hr2 : 1000000 < X := by omega
  clear hr
  go_enter Tryz.func217, Tryz.ntmps217
  go_wp2_with (first | (go_at_call 228; refine (h1 _).mono ?_; rintro e w' ⟨rfl, rfl⟩) | (go_at_call 229; refine (h2 _).mono ?_; rintro e w' ⟨rfl, rfl⟩))
  go_region_with (go_at_call 230; refine (h3 _).mono ?_; rintro r w' ⟨rfl, rfl⟩)
  all_goals (try go_wp2_with fail)
  all_goals go_region
  all_goals (try go_wp2)
  all_goals (refine bodyPost_ret (v := .tuple #[.agg #[.bool false, .string ⟨#[]⟩, .int .i64 0], gv]) ?_ rfl ?_)
  all_goals first | (exact ⟨rfl, (by with_reducible repeat (first | exact Below.refl _ _ | refine bl_d ?_ | refine bl_n ?_ _ | refine bl_a ?_ _ | refine bl_s ?_ (by omega) _))⟩) | (simp [results, Tryz.results217, go_sem])
end Go.Proofs.YtjdboekanmfgpaaGreatDoor

namespace Go.Proofs.YtjdboekanmfgpaaGreatDoor
open Go.RowKit
attribute [local go_sem] setCell_drewN alloc_drewN

set_option maxRecDepth 100000 in
set_option maxHeartbeats 1600000 in
theorem number_ok (p : P3) (w : World) (h : (allOf p).length ≤ 65536) (hz : dgOf p ≠ []) (hd : p.exp.all isD = true) (hx : p.exp.length ≤ maxLen) (r1 : ¬ exOf 1131072 p < -1000000) (r2 : ¬ 1000000 < exOf 1131072 p) :
  Calls Tryz.prog 217 #[pv p] w fun e w' => e = .returned (.tuple #[.agg #[.bool p.neg, .string (bs (dgOf p)), .int .i64 (exOf 1131072 p)], .nilIface]) ∧ Below w.heap.size w w' := by
 have hl : ¬ (65536 : Int) < ((bs p.int).size : Int) + ((bs p.frac).size : Int) := by unfold allOf at h; rw [List.length_append] at h; rw [bs_size, bs_size]; omega
 have h1 := fun w => trimR (bs (allOf p)) w (by rw [bs_size]; omega)
 have h2 := fun w => trimL (bs (upOf p)) w
 rw [bs_list] at h1 h2
 rw [show Lib.trimRightB (allOf p) 48 = upOf p from rfl] at h1
 rw [show Lib.trimLeftB (upOf p) 48 = dgOf p from rfl] at h2
 have h3 := fun w => shift_any p.neg (bs p.int) (bs p.frac) p.minus (bs p.exp) w (by rw [bs_size]; exact hx) (by rw [bs_list]; exact hd)
 rw [capN_all] at h3
 have ha : bs p.int ++ bs p.frac = bs (allOf p) := bs_append _ _
 have he : (bs (dgOf p)).toList.isEmpty = false := by rw [toList_bs]; cases hq : dgOf p with
  | nil => exact absurd hq hz
  | cons c t => rfl
 obtain ⟨e1, e2⟩ := expOf_bd p hd
 have lu : ((bs (upOf p)).size : Int) ≤ 65536 := by have : (upOf p).length ≤ (allOf p).length := trimRight_le _ _; rw [bs_size]; omega
 have la : ((bs (allOf p)).size : Int) ≤ 65536 := by rw [bs_size]; omega
 have lb : ((bs p.frac).size : Int) ≤ 65536 := by unfold allOf at h; rw [List.length_append] at h; rw [bs_size]; omega
 have hX : expOf 1131072 p - ((bs p.frac).size : Int) + ((bs (allOf p)).size : Int) - ((bs (upOf p)).size : Int) = exOf 1131072 p := by unfold exOf; rw [bs_size, bs_size, bs_size]
 have ld : (dgOf p).length ≤ (allOf p).length := Nat.le_trans (List.dropWhile_suffix _).length_le (trimRight_le _ _)
 have h4 := fun w => clone_any (bs (dgOf p)) w (by rw [bs_size]; omega)
 clear h hz hd hx ld
 unfold pv
 generalize bs (upOf p) = U at *
 generalize bs (allOf p) = A at *
 generalize bs (dgOf p) = D at *
 generalize bs p.int = a at *
 generalize bs p.frac = b at *
 generalize bs p.exp = x at *
 generalize expOf 1131072 p = E at *
 generalize exOf 1131072 p = X at *
 go_enter Tryz.func217, Tryz.ntmps217
 go_wp2_with (first | (go_at_call 228; refine (h1 _).mono ?_; rintro e w' ⟨rfl, rfl⟩) | (go_at_call 229; refine (h2 _).mono ?_; rintro e w' ⟨rfl, rfl⟩))
 go_region_with (go_at_call 230; refine (h3 _).mono ?_; rintro r w' ⟨rfl, rfl⟩)
 all_goals (try go_wp2_with fail)
 all_goals go_region_with (go_at_call 231; refine (h4 _).mono ?_; rintro r w' ⟨rfl, hb⟩; obtain ⟨hc, hf⟩ := bcell hb; have hz := hb.size; simp at hz)
 all_goals (try go_wp2)
 all_goals (refine bodyPost_ret (v := .tuple #[.agg #[.bool p.neg, .string D, .int .i64 X], .nilIface]) ?_ rfl ?_)
 all_goals first | (exact ⟨rfl, (by with_reducible repeat (first | exact Below.refl _ _ | refine bl_t ?_ hb | refine bl_d ?_ | refine bl_n ?_ _ | refine bl_a ?_ _ | refine bl_s ?_ (by omega) _))⟩) | (simp [results, Tryz.results217, go_sem, hc])
end Go.Proofs.YtjdboekanmfgpaaGreatDoor
