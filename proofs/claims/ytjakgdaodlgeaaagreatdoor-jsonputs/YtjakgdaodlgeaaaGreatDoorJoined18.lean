/-
  What dec.splitDigits, dec.splitWhole and dec.cutAny answer: what stands ahead of a text. No condition but that the bytes to look for lie in memory.
  What dec.split answers: a text's parts, and what is left. No condition.
-/
import Derived.Test.YtjakgdaodlgeaaaGreatDoorJoined17
import Derived.Test.YtjakgdaodlgeaaaGreatDoorJoined16
namespace Go.Proofs.YtjakgdaodlgeaaaGreatDoor
open Go.RowKit

theorem setCell_drewN (w : World) (n : Nat) (a : Addr) (v : Value) : (w.drewN n).setCell a v = (w.setCell a v).drewN n := rfl
theorem alloc_drewN (w : World) (n : Nat) (o : Obj) : (w.drewN n).alloc o = (w.alloc o).drewN n := rfl
def bs (l : List UInt8) : ByteArray := ⟨l.toArray⟩
theorem bs_list (l : List UInt8) : (bs l).data.toList = l := rfl
theorem bs_size (l : List UInt8) : (bs l).size = l.length := by rw [← len_of]; rfl
theorem extract_to (s : ByteArray) (k : Nat) : s.extract 0 k = bs (s.data.toList.take k) := Lib.extract_upto s k
theorem extract_from' (s : ByteArray) (k : Nat) : s.extract k s.size = bs (s.data.toList.drop k) := Lib.extract_from s k
theorem split_ret (s : ByteArray) (k : Nat) (h : Ahead s k) : Ending.returned (.tuple #[.string (s.extract 0 k), .string (s.extract k s.size), .bool (decide (0 < k))]) = .returned (.tuple #[.string (bs (tw s.data.toList)), .string (bs (dw s.data.toList)), .bool (decide (tw s.data.toList ≠ []))]) := by
 rw [extract_to, extract_from', h.2.1, h.2.2]
 have : (0 < k) ↔ (s.data.toList.take k ≠ []) := by
  have hl : (s.data.toList.take k).length = k := by rw [List.length_take, len_of]; have := h.1; omega
  rw [← hl, List.length_pos_iff]; simp [hl]
 rw [decide_eq_decide.2 this]
set_option maxHeartbeats 800000 in
theorem splitDigits_any (s : ByteArray) (w : World) (hs : s.size ≤ maxLen) :
  Calls Tryz.prog 142 #[.string s] w fun e w' => e = .returned (.tuple #[.string (bs (tw s.data.toList)), .string (bs (dw s.data.toList)), .bool (decide (tw s.data.toList ≠ []))]) ∧ ∃ q, w' = w.drewN q := by
 have ha := ahead_any s w hs
 unfold maxLen at hs
 go_enter Tryz.func142, Tryz.ntmps142
 go_wp2_with (go_at_call 151; refine ha.mono ?_; rintro e w' ⟨⟨k, rfl, hk⟩, rfl⟩)
 have hk1 := hk.1
 have HK : Hid (Ahead s k) := hk
 clear hk ha
 have hI : (k : Int) ≤ (s.size : Int) := by omega
 go_quiet (fail)
 go_wp2
 go_ret3
 exact ⟨split_ret s k HK.out, nq, rfl⟩
theorem hasPrefix_one (l : List UInt8) (c : UInt8) : Lib.hasPrefix l [c] = decide (l.head? = some c) := by
 cases l with
 | nil => rfl
 | cons d t =>
  by_cases h : c = d
  ·subst h; simp [Lib.hasPrefix, List.isPrefixOf]
  ·have h' : ¬ d = c := fun e => h e.symm
   simp [Lib.hasPrefix, List.isPrefixOf, h, h']
theorem cut_yes (s : ByteArray) (c : UInt8) (w : World) (h : s.data.toList.head? = some c) :
  Calls Tryz.prog 140 #[.string s, .string ⟨#[c]⟩] w fun e w' => e = .returned (.tuple #[.string (bs s.data.toList.tail), .bool true]) ∧ w = w' := by
 refine (Tryz.strings_CutPrefix s ⟨#[c]⟩ w).mono ?_
 rintro e w' ⟨rfl, rfl⟩
 have hp : Lib.hasPrefix s.data.toList [c] = true := by rw [hasPrefix_one]; exact decide_eq_true h
 have e1 : Lib.trimPrefix s.data.toList [c] = s.data.toList.tail := by rw [Lib.trimPrefix, if_pos hp]; simp
 refine ⟨?_, rfl⟩
 show Ending.returned (.tuple #[.string ⟨(Lib.trimPrefix s.data.toList [c]).toArray⟩, .bool (Lib.hasPrefix s.data.toList [c])]) = _
 rw [e1, hp]; rfl
theorem cut_no (s : ByteArray) (c : UInt8) (w : World) (h : s.data.toList.head? ≠ some c) :
  Calls Tryz.prog 140 #[.string s, .string ⟨#[c]⟩] w fun e w' => e = .returned (.tuple #[.string s, .bool false]) ∧ w = w' := by
 refine (Tryz.strings_CutPrefix s ⟨#[c]⟩ w).mono ?_
 rintro e w' ⟨rfl, rfl⟩
 have hp : Lib.hasPrefix s.data.toList [c] = false := by rw [hasPrefix_one]; exact decide_eq_false h
 have e1 : Lib.trimPrefix s.data.toList [c] = s.data.toList := by rw [Lib.trimPrefix, if_neg (by rw [hp]; decide)]
 refine ⟨?_, rfl⟩
 show Ending.returned (.tuple #[.string ⟨(Lib.trimPrefix s.data.toList [c]).toArray⟩, .bool (Lib.hasPrefix s.data.toList [c])]) = _
 rw [e1, hp]
theorem has_one (s : ByteArray) (c : UInt8) (w : World) :
  Calls Tryz.prog 144 #[.string s, .string ⟨#[c]⟩] w fun e w' => e = .returned (.bool (decide (s.data.toList.head? = some c))) ∧ w = w' := by
 refine (Tryz.strings_HasPrefix s ⟨#[c]⟩ w).mono ?_
 rintro e w' ⟨rfl, rfl⟩
 exact ⟨by rw [← hasPrefix_one], rfl⟩
set_option maxHeartbeats 400000 in
theorem splitWhole_nought (s : ByteArray) (w : World) (h : s.data.toList.head? = some 48) :
  Calls Tryz.prog 141 #[.string s] w fun e w' => e = .returned (.tuple #[.string (bs [48]), .string (bs s.data.toList.tail), .bool true]) ∧ ∃ q, w' = w.drewN q := by
 have hc := fun w => cut_yes s 48 w h
 clear h
 go_enter Tryz.func141, Tryz.ntmps141
 go_wp2_with (go_at_call 140; refine (hc _).mono ?_; rintro e w' ⟨rfl, rfl⟩)
 go_ret3
 exact ⟨rfl, 0, rfl⟩
set_option maxHeartbeats 400000 in
theorem splitWhole_digits (s : ByteArray) (w : World) (hs : s.size ≤ maxLen) (h : s.data.toList.head? ≠ some 48) :
  Calls Tryz.prog 141 #[.string s] w fun e w' => e = .returned (.tuple #[.string (bs (tw s.data.toList)), .string (bs (dw s.data.toList)), .bool (decide (tw s.data.toList ≠ []))]) ∧ ∃ q, w' = w.drewN q := by
 have hc := fun w => cut_no s 48 w h
 have hd := fun w => splitDigits_any s w hs
 clear h hs
 generalize decide (tw s.data.toList ≠ []) = ok at *
 go_enter Tryz.func141, Tryz.ntmps141
 go_wp2_with (first | (go_at_call 140; refine (hc _).mono ?_; rintro e w' ⟨rfl, rfl⟩) | (go_at_call 142; refine (hd _).mono ?_; rintro e w' ⟨rfl, q, rfl⟩))
 go_ret3
 exact ⟨rfl, q, rfl⟩
theorem head_byte (s : ByteArray) (h : 0 < s.size) : ∃ b : UInt8, s.data.toList.head? = some b ∧ (b.toNat : Int) = cx s 0 := by
 obtain ⟨b, hb, hc⟩ := cx_get s 0 h
 exact ⟨b, by rw [List.head?_eq_getElem?, hb], hc⟩
theorem toList_ne {s : ByteArray} (h : 0 < s.size) : s.toList.isEmpty = false := by
 rw [ByteArray.toList_eq]
 cases hl : s.data.toList with
 | nil => have := (nil_size s).1 hl; omega
 | cons c t => rfl
theorem toNat_ne {a b : UInt8} (h : ¬ a = b) : ((a.toNat : Int) == (b.toNat : Int)) = false := beq_eq_false_iff_ne.2 (fun e => h (UInt8.toNat_inj.1 (by omega)))
theorem tup2 {a b : ByteArray} {o : Bool} (h : a = b) : Ending.returned (.tuple #[.string a, .bool o]) = .returned (.tuple #[.string b, .bool o]) := by rw [h]
set_option maxHeartbeats 400000 in
theorem cutAny_yes (s : ByteArray) (b : Nat) (x y : UInt8) (w : World) (c0 : w.cell? ⟨b, 0, none⟩ = some (.int .u8 x.toNat)) (c1 : w.cell? ⟨b, 1, none⟩ = some (.int .u8 y.toNat)) (h : s.data.toList.head? = some x ∨ s.data.toList.head? = some y) :
  Calls Tryz.prog 143 #[.string s, .slice (some ⟨b, 0, none⟩) 2 2] w fun e w' => e = .returned (.tuple #[.string (bs s.data.toList.tail), .bool true]) ∧ w = w' := by
 have h0 : 0 < s.size := by
  rcases Nat.eq_zero_or_pos s.size with z | z
  ·rw [(nil_size s).2 z] at h; simp at h
  ·exact z
 have hx := cx_at s 0 h0
 have he : Hid (s.extract 1 s.size = bs s.data.toList.tail) := by show _ = _; rw [extract_from', List.drop_one]
 obtain ⟨a, ha, hc⟩ := head_byte s h0
 have hI : (1 : Int) ≤ (s.size : Int) := by omega
 have hn := toList_ne h0
 rw [ha] at h
 rw [← hc] at hx
 by_cases e : a = x
 ·subst e
  clear h ha hc
  go_enter Tryz.func143, Tryz.ntmps143
  go_wp2
  refine wp_loop_rounds 1 ?_
  rw [rounds_succ]
  go_wp2
  go_ret2
  exact ⟨tup2 he.out, rfl⟩
 ·have e2 : a = y := by
   rcases h with h | h
   ·exact absurd (Option.some.inj h) e
   ·exact Option.some.inj h
  subst e2
  have en := toNat_ne e
  clear h ha hc e
  go_enter Tryz.func143, Tryz.ntmps143
  go_wp2
  refine wp_loop_rounds 2 ?_
  rw [rounds_succ]
  go_wp2
  rw [rounds_succ]
  go_wp2
  go_ret2
  exact ⟨tup2 he.out, rfl⟩
set_option maxHeartbeats 400000 in
theorem cutAny_no (s : ByteArray) (b : Nat) (x y : UInt8) (w : World) (c0 : w.cell? ⟨b, 0, none⟩ = some (.int .u8 x.toNat)) (c1 : w.cell? ⟨b, 1, none⟩ = some (.int .u8 y.toNat)) (h : ¬ (s.data.toList.head? = some x ∨ s.data.toList.head? = some y)) :
  Calls Tryz.prog 143 #[.string s, .slice (some ⟨b, 0, none⟩) 2 2] w fun e w' => e = .returned (.tuple #[.string s, .bool false]) ∧ w = w' := by
 by_cases z : s.size = 0
 ·have hn : s.toList = [] := by rw [ByteArray.toList_eq]; exact (nil_size s).2 z
  clear h z
  go_enter Tryz.func143, Tryz.ntmps143
  go_wp2
  refine wp_loop_rounds 3 ?_
  rw [rounds_succ]
  go_wp2
  rw [rounds_succ]
  go_wp2
  rw [rounds_succ]
  go_wp2
  go_ret2
  exact ⟨rfl, rfl⟩
 ·have h0 : 0 < s.size := by omega
  have hx := cx_at s 0 h0
  obtain ⟨a, ha, hc⟩ := head_byte s h0
  have hI : (0 : Int) < (s.size : Int) := by omega
  have hn := toList_ne h0
  rw [ha] at h
  rw [← hc] at hx
  have e1 := toNat_ne (a := a) (b := x) (fun e => h (.inl (by rw [e])))
  have e2 := toNat_ne (a := a) (b := y) (fun e => h (.inr (by rw [e])))
  clear h ha hc z
  go_enter Tryz.func143, Tryz.ntmps143
  go_wp2
  refine wp_loop_rounds 3 ?_
  rw [rounds_succ]
  go_wp2
  rw [rounds_succ]
  go_wp2
  rw [rounds_succ]
  go_wp2
  go_ret2
  exact ⟨rfl, rfl⟩
end Go.Proofs.YtjakgdaodlgeaaaGreatDoor

namespace Go.Proofs.YtjakgdaodlgeaaaGreatDoor
open Go.RowKit
attribute [local go_sem] setCell_drewN alloc_drewN

theorem cut_any (l : List UInt8) (c : UInt8) (w : World) :
  Calls Tryz.prog 140 #[.string (bs l), .string ⟨#[c]⟩] w fun e w' => e = .returned (.tuple #[.string (bs (if l.head? = some c then l.tail else l)), .bool (decide (l.head? = some c))]) ∧ w = w' := by
 by_cases h : l.head? = some c
 ·rw [if_pos h, decide_eq_true h]; exact cut_yes (bs l) c w h
 ·rw [if_neg h, decide_eq_false h]; exact cut_no (bs l) c w h
def wW (l : List UInt8) : List UInt8 := if l.head? = some 48 then [48] else tw l
def wR (l : List UInt8) : List UInt8 := if l.head? = some 48 then l.tail else dw l
def wO (l : List UInt8) : Bool := decide (l.head? = some 48 ∨ tw l ≠ [])
theorem splitWhole_any (l : List UInt8) (w : World) (hs : l.length ≤ maxLen) :
  Calls Tryz.prog 141 #[.string (bs l)] w fun e w' => e = .returned (.tuple #[.string (bs (wW l)), .string (bs (wR l)), .bool (wO l)]) ∧ ∃ q, w' = w.drewN q := by
 unfold wW wR wO
 by_cases h : l.head? = some 48
 ·rw [if_pos h, if_pos h, decide_eq_true (.inl h)]; exact splitWhole_nought (bs l) w h
 ·rw [if_neg h, if_neg h]
  have e : decide (l.head? = some 48 ∨ tw l ≠ []) = decide (tw l ≠ []) := decide_eq_decide.2 ⟨fun g => g.resolve_left h, .inr⟩
  rw [e]
  exact splitWhole_digits (bs l) w (by rw [bs_size]; exact hs) h
theorem cutAny_any (l : List UInt8) (b : Nat) (x y : UInt8) (w : World) (c0 : w.cell? ⟨b, 0, none⟩ = some (.int .u8 x.toNat)) (c1 : w.cell? ⟨b, 1, none⟩ = some (.int .u8 y.toNat)) :
  Calls Tryz.prog 143 #[.string (bs l), .slice (some ⟨b, 0, none⟩) 2 2] w fun e w' => e = .returned (.tuple #[.string (bs (if l.head? = some x ∨ l.head? = some y then l.tail else l)), .bool (decide (l.head? = some x ∨ l.head? = some y))]) ∧ w = w' := by
 by_cases h : l.head? = some x ∨ l.head? = some y
 ·rw [if_pos h, decide_eq_true h]; exact cutAny_yes (bs l) b x y w c0 c1 h
 ·rw [if_neg h, decide_eq_false h]; exact cutAny_no (bs l) b x y w c0 c1 h
theorem splitDigits_l (l : List UInt8) (w : World) (hs : l.length ≤ maxLen) :
  Calls Tryz.prog 142 #[.string (bs l)] w fun e w' => e = .returned (.tuple #[.string (bs (tw l)), .string (bs (dw l)), .bool (decide (tw l ≠ []))]) ∧ ∃ q, w' = w.drewN q := splitDigits_any (bs l) w (by rw [bs_size]; exact hs)
theorem split_eq (l : List UInt8) : splitL l = if wO (minusL l) = true then behindL (decide (l.head? = some 45)) (wW (minusL l)) (wR (minusL l)) else none := by
 unfold splitL wW wR wO
 by_cases h : (minusL l).head? = some 48
 ·rw [if_pos h, if_pos h, if_pos h, if_pos (decide_eq_true (.inl h))]
 ·rw [if_neg h, if_neg h, if_neg h]
  by_cases g : tw (minusL l) = []
  ·rw [if_pos g, if_neg]
   rw [decide_eq_false (by rintro (a | a); exact h a; exact a g)]; decide
  ·rw [if_neg g, if_pos (decide_eq_true (.inr g))]
def pv (p : P3) : Value := .agg #[.bool p.neg, .string (bs p.int), .string (bs p.frac), .bool p.minus, .string (bs p.exp)]
theorem len_minus (l : List UInt8) : (minusL l).length ≤ l.length := by unfold minusL; split <;> simp
theorem len_wR (l : List UInt8) : (wR l).length ≤ l.length := by
 unfold wR
 split
 ·simp
 ·exact (List.dropWhile_suffix _).length_le
theorem len_dw (l : List UInt8) : (dw l).length ≤ l.length := (List.dropWhile_suffix _).length_le
theorem len_sign (l : List UInt8) : (signL l).length ≤ l.length := by unfold signL; split <;> simp
set_option maxRecDepth 100000 in
set_option maxHeartbeats 800000 in
theorem split_none1 (l : List UInt8) (w : World) (hs : l.length ≤ maxLen) (ho : wO (minusL l) = false) :
  Calls Tryz.prog 137 #[.string (bs l)] w fun e w' => (∃ p r, e = .returned (.tuple #[pv p, .string (bs r), .bool false]) ∧ r.length ≤ l.length) ∧ Below w.heap.size w w' := by
 have h1 := fun w => cut_any l 45 w
 have h2 := fun w => splitWhole_any (minusL l) w (Nat.le_trans (len_minus l) hs)
 rw [show (if l.head? = some 45 then l.tail else l) = minusL l from rfl] at h1
 have l3 : Hid ((wR (minusL l)).length ≤ l.length) := Nat.le_trans (len_wR _) (len_minus l)
 rw [ho] at h2
 clear ho hs
 generalize decide (l.head? = some 45) = neg at *
 generalize minusL l = m at *
 generalize wW m = W at *
 generalize wR m = R at *
 go_enter Tryz.func137, Tryz.ntmps137
 go_wp2_with (first | (go_at_call 140; with_reducible refine (h1 _).mono ?_; rintro e w' ⟨rfl, rfl⟩) | (go_at_call 141; refine (h2 _).mono ?_; rintro e w' ⟨rfl, q, rfl⟩))
 refine bodyPost_ret (v := .tuple #[.agg #[.bool neg, .string (bs W), .string ⟨#[]⟩, .bool false, .string ⟨#[]⟩], .string (bs R), .bool false]) ?_ rfl ?_
 ·simp [results, Tryz.results137, go_sem]
 ·exact ⟨⟨⟨neg, W, [], false, []⟩, R, rfl, l3.out⟩, (by with_reducible repeat (first | exact Below.refl _ _ | refine bl_d ?_ | refine bl_n ?_ _ | refine bl_a ?_ _ | refine bl_s ?_ (by omega) _))⟩
set_option maxRecDepth 100000 in
set_option maxHeartbeats 800000 in
theorem split_none2 (l : List UInt8) (w : World) (hs : l.length ≤ maxLen) (ho : wO (minusL l) = true) (hf : (wR (minusL l)).head? = some 46) (hd : tw (wR (minusL l)).tail = []) :
  Calls Tryz.prog 137 #[.string (bs l)] w fun e w' => (∃ p r, e = .returned (.tuple #[pv p, .string (bs r), .bool false]) ∧ r.length ≤ l.length) ∧ Below w.heap.size w w' := by
 have h1 := fun w => cut_any l 45 w
 have h2 := fun w => splitWhole_any (minusL l) w (Nat.le_trans (len_minus l) hs)
 have h3 := fun w => cut_any (wR (minusL l)) 46 w
 have l4 : (wR (minusL l)).tail.length ≤ l.length := Nat.le_trans (by simp) (Nat.le_trans (len_wR _) (len_minus l))
 have h4 := fun w => splitDigits_l (wR (minusL l)).tail w (by omega)
 have l3 : Hid ((dw (wR (minusL l)).tail).length ≤ l.length) := Nat.le_trans (len_dw _) l4
 rw [show (if l.head? = some 45 then l.tail else l) = minusL l from rfl] at h1
 rw [ho] at h2
 rw [if_pos hf, decide_eq_true hf] at h3
 rw [decide_eq_false (by rw [hd]; simp)] at h4
 clear ho hs hf hd l4
 generalize decide (l.head? = some 45) = neg at *
 generalize minusL l = m at *
 generalize wW m = W at *
 generalize wR m = R at *
 generalize tw R.tail = T at *
 generalize dw R.tail = U at *
 generalize R.tail = R' at *
 go_enter Tryz.func137, Tryz.ntmps137
 go_wp2_with (first | (go_at_call 140; with_reducible refine (h1 _).mono ?_; rintro e w' ⟨rfl, rfl⟩) | (go_at_call 140; with_reducible refine (h3 _).mono ?_; rintro e w' ⟨rfl, rfl⟩) | (go_at_call 141; refine (h2 _).mono ?_; rintro e w' ⟨rfl, q, rfl⟩) | (go_at_call 142; refine (h4 _).mono ?_; rintro e w' ⟨rfl, q', rfl⟩))
 refine bodyPost_ret (v := .tuple #[.agg #[.bool neg, .string (bs W), .string (bs T), .bool false, .string ⟨#[]⟩], .string (bs U), .bool false]) ?_ rfl ?_
 ·simp [results, Tryz.results137, go_sem]
 ·exact ⟨⟨⟨neg, W, T, false, []⟩, U, rfl, l3.out⟩, (by with_reducible repeat (first | exact Below.refl _ _ | refine bl_d ?_ | refine bl_n ?_ _ | refine bl_a ?_ _ | refine bl_s ?_ (by omega) _))⟩
set_option maxRecDepth 100000 in
set_option maxHeartbeats 1600000 in
theorem split_some00 (l : List UInt8) (w : World) (hs : l.length ≤ maxLen) (ho : wO (minusL l) = true) (hf : ¬ (wR (minusL l)).head? = some 46) (he : ¬ ((wR (minusL l)).head? = some 101 ∨ (wR (minusL l)).head? = some 69)) :
  Calls Tryz.prog 137 #[.string (bs l)] w fun e w' => e = .returned (.tuple #[pv ⟨decide (l.head? = some 45), wW (minusL l), [], false, []⟩, .string (bs (wR (minusL l))), .bool true]) ∧ Below w.heap.size w w' := by
 have h1 := fun w => cut_any l 45 w
 have h2 := fun w => splitWhole_any (minusL l) w (Nat.le_trans (len_minus l) hs)
 have h3 := fun w => cut_any (wR (minusL l)) 46 w
 have l4 : (wR (minusL l)).length ≤ l.length := Nat.le_trans (len_wR _) (len_minus l)
 rw [show (if l.head? = some 45 then l.tail else l) = minusL l from rfl] at h1
 rw [ho] at h2
 rw [if_neg hf, decide_eq_false hf] at h3
 have l6 : (wR (minusL l)).length ≤ l.length := l4
 have h5 := fun b w c0 c1 => cutAny_any (wR (minusL l)) b 101 69 w c0 c1
 rw [if_neg he, decide_eq_false he] at h5
 clear ho hs hf he l4 l6
 generalize decide (l.head? = some 45) = neg at *
 generalize minusL l = m at *
 generalize wW m = W at *
 generalize wR m = R at *
 go_enter Tryz.func137, Tryz.ntmps137
 go_wp2_with (first | (go_at_call 140; with_reducible refine (h1 _).mono ?_; rintro e w' ⟨rfl, rfl⟩) | (go_at_call 140; with_reducible refine (h3 _).mono ?_; rintro e w' ⟨rfl, rfl⟩) | (go_at_call 141; refine (h2 _).mono ?_; rintro e w' ⟨rfl, q, rfl⟩) | (go_at_call 143; with_reducible refine (h5 _ _ ?_ ?_).mono ?_; simp [go_sem]; simp [go_sem]; rintro e w' ⟨rfl, rfl⟩))
 refine bodyPost_ret (v := .tuple #[.agg #[.bool neg, .string (bs W), .string ⟨#[]⟩, .bool false, .string ⟨#[]⟩], .string (bs R), .bool true]) ?_ rfl ?_
 ·simp [results, Tryz.results137, go_sem]
 ·exact ⟨rfl, (by with_reducible repeat (first | exact Below.refl _ _ | refine bl_d ?_ | refine bl_n ?_ _ | refine bl_a ?_ _ | refine bl_s ?_ (by omega) _))⟩
set_option maxRecDepth 100000 in
set_option maxHeartbeats 1600000 in
theorem split_some10 (l : List UInt8) (w : World) (hs : l.length ≤ maxLen) (ho : wO (minusL l) = true) (hf : (wR (minusL l)).head? = some 46) (hd : tw (wR (minusL l)).tail ≠ []) (he : ¬ ((dw (wR (minusL l)).tail).head? = some 101 ∨ (dw (wR (minusL l)).tail).head? = some 69)) :
  Calls Tryz.prog 137 #[.string (bs l)] w fun e w' => e = .returned (.tuple #[pv ⟨decide (l.head? = some 45), wW (minusL l), tw (wR (minusL l)).tail, false, []⟩, .string (bs (dw (wR (minusL l)).tail)), .bool true]) ∧ Below w.heap.size w w' := by
 have h1 := fun w => cut_any l 45 w
 have h2 := fun w => splitWhole_any (minusL l) w (Nat.le_trans (len_minus l) hs)
 have h3 := fun w => cut_any (wR (minusL l)) 46 w
 have l4 : (wR (minusL l)).length ≤ l.length := Nat.le_trans (len_wR _) (len_minus l)
 rw [show (if l.head? = some 45 then l.tail else l) = minusL l from rfl] at h1
 rw [ho] at h2
 have l5 : (wR (minusL l)).tail.length ≤ l.length := Nat.le_trans (by simp) l4
 have h4 := fun w => splitDigits_l (wR (minusL l)).tail w (by omega)
 rw [if_pos hf, decide_eq_true hf] at h3
 rw [decide_eq_true hd] at h4
 have l6 : (dw (wR (minusL l)).tail).length ≤ l.length := Nat.le_trans (len_dw _) l5
 have h5 := fun b w c0 c1 => cutAny_any (dw (wR (minusL l)).tail) b 101 69 w c0 c1
 rw [if_neg he, decide_eq_false he] at h5
 clear ho hs hf he l4 l6 l5 hd
 generalize decide (l.head? = some 45) = neg at *
 generalize minusL l = m at *
 generalize wW m = W at *
 generalize wR m = R at *
 generalize tw R.tail = T at *
 generalize dw R.tail = U at *
 generalize R.tail = R' at *
 go_enter Tryz.func137, Tryz.ntmps137
 go_wp2_with (first | (go_at_call 140; with_reducible refine (h1 _).mono ?_; rintro e w' ⟨rfl, rfl⟩) | (go_at_call 140; with_reducible refine (h3 _).mono ?_; rintro e w' ⟨rfl, rfl⟩) | (go_at_call 141; refine (h2 _).mono ?_; rintro e w' ⟨rfl, q, rfl⟩) | (go_at_call 142; with_reducible refine (h4 _).mono ?_; rintro e w' ⟨rfl, q1, rfl⟩) | (go_at_call 143; with_reducible refine (h5 _ _ ?_ ?_).mono ?_; simp [go_sem]; simp [go_sem]; rintro e w' ⟨rfl, rfl⟩))
 refine bodyPost_ret (v := .tuple #[.agg #[.bool neg, .string (bs W), .string (bs T), .bool false, .string ⟨#[]⟩], .string (bs U), .bool true]) ?_ rfl ?_
 ·simp [results, Tryz.results137, go_sem]
 ·exact ⟨rfl, (by with_reducible repeat (first | exact Below.refl _ _ | refine bl_d ?_ | refine bl_n ?_ _ | refine bl_a ?_ _ | refine bl_s ?_ (by omega) _))⟩
end Go.Proofs.YtjakgdaodlgeaaaGreatDoor
