/-
  What dec.split answers: a text's parts, and what is left. No condition.
  What dec.split answers where there is an exponent. No condition.
-/
import Derived.Test.YtlahlnocjfphjaaGreatDoorJoined23
namespace Go.Proofs.YtlahlnocjfphjaaGreatDoor
open Go.RowKit
attribute [local go_sem] setCell_drewN alloc_drewN

theorem cut_any (l : List UInt8) (c : UInt8) (w : World) :
    Calls Tryz.prog 140 #[.string (bs l), .string ⟨#[c]⟩] w fun e w' => e = .returned (.tuple #[.string (bs (if l.head? = some c then l.tail else l)), .bool (decide (l.head? = some c))]) ∧ w = w' := by
  by_cases h : l.head? = some c
  · rw [if_pos h, decide_eq_true h]; exact cut_yes (bs l) c w h
  · rw [if_neg h, decide_eq_false h]; exact cut_no (bs l) c w h
def wW (l : List UInt8) : List UInt8 := if l.head? = some 48 then [48] else tw l
def wR (l : List UInt8) : List UInt8 := if l.head? = some 48 then l.tail else dw l
def wO (l : List UInt8) : Bool := decide (l.head? = some 48 ∨ tw l ≠ [])
theorem splitWhole_any (l : List UInt8) (w : World) (hs : l.length ≤ maxLen) :
    Calls Tryz.prog 141 #[.string (bs l)] w fun e w' => e = .returned (.tuple #[.string (bs (wW l)), .string (bs (wR l)), .bool (wO l)]) ∧ ∃ q, w' = w.drewN q := by
  unfold wW wR wO
  by_cases h : l.head? = some 48
  · rw [if_pos h, if_pos h, decide_eq_true (.inl h)]; exact splitWhole_nought (bs l) w h
  · rw [if_neg h, if_neg h]
    have e : decide (l.head? = some 48 ∨ tw l ≠ []) = decide (tw l ≠ []) := decide_eq_decide.2 ⟨fun g => g.resolve_left h, .inr⟩
    rw [e]
    exact splitWhole_digits (bs l) w (by rw [bs_size]; exact hs) h
theorem cutAny_any (l : List UInt8) (b : Nat) (x y : UInt8) (w : World) (c0 : w.cell? ⟨b, 0, none⟩ = some (.int .u8 x.toNat)) (c1 : w.cell? ⟨b, 1, none⟩ = some (.int .u8 y.toNat)) :
    Calls Tryz.prog 143 #[.string (bs l), .slice (some ⟨b, 0, none⟩) 2 2] w fun e w' => e = .returned (.tuple #[.string (bs (if l.head? = some x ∨ l.head? = some y then l.tail else l)), .bool (decide (l.head? = some x ∨ l.head? = some y))]) ∧ w = w' := by
  by_cases h : l.head? = some x ∨ l.head? = some y
  · rw [if_pos h, decide_eq_true h]; exact cutAny_yes (bs l) b x y w c0 c1 h
  · rw [if_neg h, decide_eq_false h]; exact cutAny_no (bs l) b x y w c0 c1 h
theorem splitDigits_l (l : List UInt8) (w : World) (hs : l.length ≤ maxLen) :
    Calls Tryz.prog 142 #[.string (bs l)] w fun e w' => e = .returned (.tuple #[.string (bs (tw l)), .string (bs (dw l)), .bool (decide (tw l ≠ []))]) ∧ ∃ q, w' = w.drewN q := splitDigits_any (bs l) w (by rw [bs_size]; exact hs)
theorem split_eq (l : List UInt8) : splitL l = if wO (minusL l) = true then behindL (decide (l.head? = some 45)) (wW (minusL l)) (wR (minusL l)) else none := by
  unfold splitL wW wR wO
  by_cases h : (minusL l).head? = some 48
  · rw [if_pos h, if_pos h, if_pos h, if_pos (decide_eq_true (.inl h))]
  · rw [if_neg h, if_neg h, if_neg h]
    by_cases g : tw (minusL l) = []
    · rw [if_pos g, if_neg]
      rw [decide_eq_false (by rintro (a | a); exact h a; exact a g)]; decide
    · rw [if_neg g, if_pos (decide_eq_true (.inr g))]
/-- Parts as a value. -/
def pv (p : P3) : Value := .agg #[.bool p.neg, .string (bs p.int), .string (bs p.frac), .bool p.minus, .string (bs p.exp)]
theorem len_minus (l : List UInt8) : (minusL l).length ≤ l.length := by unfold minusL; split <;> simp
theorem len_wR (l : List UInt8) : (wR l).length ≤ l.length := by
  unfold wR
  split
  · simp
  · exact (List.dropWhile_suffix _).length_le
theorem len_dw (l : List UInt8) : (dw l).length ≤ l.length := (List.dropWhile_suffix _).length_le
theorem len_sign (l : List UInt8) : (signL l).length ≤ l.length := by unfold signL; split <;> simp

set_option maxRecDepth 100000 in
set_option maxHeartbeats 800000 in
theorem split_none1 (l : List UInt8) (w : World) (hs : l.length ≤ maxLen) (ho : wO (minusL l) = false) :
    Calls Tryz.prog 137 #[.string (bs l)] w fun e w' => (∃ p r, e = .returned (.tuple #[pv p, .string (bs r), .bool false]) ∧ r.length ≤ l.length) ∧ Below w.heap.size w w' := by
  have h1 := fun w => cut_any l 45 w
  have h2 := fun w => splitWhole_any (minusL l) w (Nat.le_trans (len_minus l) hs)
  rw [show (if l.head? = some 45 then l.tail else l) = minusL l from rfl] at h1
  have l3 : Hid ((wR (minusL l)).length ≤ l.length) := Nat.le_trans (len_wR _) (len_minus l)
  rw [ho] at h2
  clear ho hs
  generalize decide (l.head? = some 45) = neg at *
  generalize minusL l = m at *
  generalize wW m = W at *
  generalize wR m = R at *
  go_enter Tryz.func137, Tryz.ntmps137
  go_wp2_with (first | (go_at_call 140; with_reducible refine (h1 _).mono ?_; rintro e w' ⟨rfl, rfl⟩) | (go_at_call 141; refine (h2 _).mono ?_; rintro e w' ⟨rfl, q, rfl⟩))
  refine bodyPost_ret (v := .tuple #[.agg #[.bool neg, .string (bs W), .string ⟨#[]⟩, .bool false, .string ⟨#[]⟩], .string (bs R), .bool false]) ?_ rfl ?_
  · simp [results, Tryz.results137, go_sem]
  · exact ⟨⟨⟨neg, W, [], false, []⟩, R, rfl, l3.out⟩, (by with_reducible repeat (first | exact Below.refl _ _ | refine bl_d ?_ | refine bl_n ?_ _ | refine bl_a ?_ _ | refine bl_s ?_ (by omega) _))⟩

set_option maxRecDepth 100000 in
set_option maxHeartbeats 800000 in
theorem split_none2 (l : List UInt8) (w : World) (hs : l.length ≤ maxLen) (ho : wO (minusL l) = true) (hf : (wR (minusL l)).head? = some 46) (hd : tw (wR (minusL l)).tail = []) :
    Calls Tryz.prog 137 #[.string (bs l)] w fun e w' => (∃ p r, e = .returned (.tuple #[pv p, .string (bs r), .bool false]) ∧ r.length ≤ l.length) ∧ Below w.heap.size w w' := by
  have h1 := fun w => cut_any l 45 w
  have h2 := fun w => splitWhole_any (minusL l) w (Nat.le_trans (len_minus l) hs)
  have h3 := fun w => cut_any (wR (minusL l)) 46 w
  have l4 : (wR (minusL l)).tail.length ≤ l.length := Nat.le_trans (by simp) (Nat.le_trans (len_wR _) (len_minus l))
  have h4 := fun w => splitDigits_l (wR (minusL l)).tail w (by omega)
  have l3 : Hid ((dw (wR (minusL l)).tail).length ≤ l.length) := Nat.le_trans (len_dw _) l4
  rw [show (if l.head? = some 45 then l.tail else l) = minusL l from rfl] at h1
  rw [ho] at h2
  rw [if_pos hf, decide_eq_true hf] at h3
  rw [decide_eq_false (by rw [hd]; simp)] at h4
  clear ho hs hf hd l4
  generalize decide (l.head? = some 45) = neg at *
  generalize minusL l = m at *
  generalize wW m = W at *
  generalize wR m = R at *
  generalize tw R.tail = T at *
  generalize dw R.tail = U at *
  generalize R.tail = R' at *
  go_enter Tryz.func137, Tryz.ntmps137
  go_wp2_with (first | (go_at_call 140; with_reducible refine (h1 _).mono ?_; rintro e w' ⟨rfl, rfl⟩) | (go_at_call 140; with_reducible refine (h3 _).mono ?_; rintro e w' ⟨rfl, rfl⟩) | (go_at_call 141; refine (h2 _).mono ?_; rintro e w' ⟨rfl, q, rfl⟩) | (go_at_call 142; refine (h4 _).mono ?_; rintro e w' ⟨rfl, q', rfl⟩))
  refine bodyPost_ret (v := .tuple #[.agg #[.bool neg, .string (bs W), .string (bs T), .bool false, .string ⟨#[]⟩], .string (bs U), .bool false]) ?_ rfl ?_
  · simp [results, Tryz.results137, go_sem]
  · exact ⟨⟨⟨neg, W, T, false, []⟩, U, rfl, l3.out⟩, (by with_reducible repeat (first | exact Below.refl _ _ | refine bl_d ?_ | refine bl_n ?_ _ | refine bl_a ?_ _ | refine bl_s ?_ (by omega) _))⟩
set_option maxRecDepth 100000 in
set_option maxHeartbeats 1600000 in
theorem split_some00 (l : List UInt8) (w : World) (hs : l.length ≤ maxLen) (ho : wO (minusL l) = true) (hf : ¬ (wR (minusL l)).head? = some 46) (he : ¬ ((wR (minusL l)).head? = some 101 ∨ (wR (minusL l)).head? = some 69)) :
    Calls Tryz.prog 137 #[.string (bs l)] w fun e w' => e = .returned (.tuple #[pv ⟨decide (l.head? = some 45), wW (minusL l), [], false, []⟩, .string (bs (wR (minusL l))), .bool true]) ∧ Below w.heap.size w w' := by
  have h1 := fun w => cut_any l 45 w
  have h2 := fun w => splitWhole_any (minusL l) w (Nat.le_trans (len_minus l) hs)
  have h3 := fun w => cut_any (wR (minusL l)) 46 w
  have l4 : (wR (minusL l)).length ≤ l.length := Nat.le_trans (len_wR _) (len_minus l)
  rw [show (if l.head? = some 45 then l.tail else l) = minusL l from rfl] at h1
  rw [ho] at h2
  rw [if_neg hf, decide_eq_false hf] at h3
  have l6 : (wR (minusL l)).length ≤ l.length := l4
  have h5 := fun b w c0 c1 => cutAny_any (wR (minusL l)) b 101 69 w c0 c1
  rw [if_neg he, decide_eq_false he] at h5
  clear ho hs hf he l4 l6
  generalize decide (l.head? = some 45) = neg at *
  generalize minusL l = m at *
  generalize wW m = W at *
  generalize wR m = R at *
  go_enter Tryz.func137, Tryz.ntmps137
  go_wp2_with (first | (go_at_call 140; with_reducible refine (h1 _).mono ?_; rintro e w' ⟨rfl, rfl⟩) | (go_at_call 140; with_reducible refine (h3 _).mono ?_; rintro e w' ⟨rfl, rfl⟩) | (go_at_call 141; refine (h2 _).mono ?_; rintro e w' ⟨rfl, q, rfl⟩) | (go_at_call 143; with_reducible refine (h5 _ _ ?_ ?_).mono ?_; simp [go_sem]; simp [go_sem]; rintro e w' ⟨rfl, rfl⟩))
  refine bodyPost_ret (v := .tuple #[.agg #[.bool neg, .string (bs W), .string ⟨#[]⟩, .bool false, .string ⟨#[]⟩], .string (bs R), .bool true]) ?_ rfl ?_
  · simp [results, Tryz.results137, go_sem]
  · exact ⟨rfl, (by with_reducible repeat (first | exact Below.refl _ _ | refine bl_d ?_ | refine bl_n ?_ _ | refine bl_a ?_ _ | refine bl_s ?_ (by omega) _))⟩

set_option maxRecDepth 100000 in
set_option maxHeartbeats 1600000 in
theorem split_some10 (l : List UInt8) (w : World) (hs : l.length ≤ maxLen) (ho : wO (minusL l) = true) (hf : (wR (minusL l)).head? = some 46) (hd : tw (wR (minusL l)).tail ≠ []) (he : ¬ ((dw (wR (minusL l)).tail).head? = some 101 ∨ (dw (wR (minusL l)).tail).head? = some 69)) :
    Calls Tryz.prog 137 #[.string (bs l)] w fun e w' => e = .returned (.tuple #[pv ⟨decide (l.head? = some 45), wW (minusL l), tw (wR (minusL l)).tail, false, []⟩, .string (bs (dw (wR (minusL l)).tail)), .bool true]) ∧ Below w.heap.size w w' := by
  have h1 := fun w => cut_any l 45 w
  have h2 := fun w => splitWhole_any (minusL l) w (Nat.le_trans (len_minus l) hs)
  have h3 := fun w => cut_any (wR (minusL l)) 46 w
  have l4 : (wR (minusL l)).length ≤ l.length := Nat.le_trans (len_wR _) (len_minus l)
  rw [show (if l.head? = some 45 then l.tail else l) = minusL l from rfl] at h1
  rw [ho] at h2
  have l5 : (wR (minusL l)).tail.length ≤ l.length := Nat.le_trans (by simp) l4
  have h4 := fun w => splitDigits_l (wR (minusL l)).tail w (by omega)
  rw [if_pos hf, decide_eq_true hf] at h3
  rw [decide_eq_true hd] at h4
  have l6 : (dw (wR (minusL l)).tail).length ≤ l.length := Nat.le_trans (len_dw _) l5
  have h5 := fun b w c0 c1 => cutAny_any (dw (wR (minusL l)).tail) b 101 69 w c0 c1
  rw [if_neg he, decide_eq_false he] at h5
  clear ho hs hf he l4 l6 l5 hd
  generalize decide (l.head? = some 45) = neg at *
  generalize minusL l = m at *
  generalize wW m = W at *
  generalize wR m = R at *
  generalize tw R.tail = T at *
  generalize dw R.tail = U at *
  generalize R.tail = R' at *
  go_enter Tryz.func137, Tryz.ntmps137
  go_wp2_with (first | (go_at_call 140; with_reducible refine (h1 _).mono ?_; rintro e w' ⟨rfl, rfl⟩) | (go_at_call 140; with_reducible refine (h3 _).mono ?_; rintro e w' ⟨rfl, rfl⟩) | (go_at_call 141; refine (h2 _).mono ?_; rintro e w' ⟨rfl, q, rfl⟩) | (go_at_call 142; with_reducible refine (h4 _).mono ?_; rintro e w' ⟨rfl, q1, rfl⟩) | (go_at_call 143; with_reducible refine (h5 _ _ ?_ ?_).mono ?_; simp [go_sem]; simp [go_sem]; rintro e w' ⟨rfl, rfl⟩))
  refine bodyPost_ret (v := .tuple #[.agg #[.bool neg, .string (bs W), .string (bs T), .bool false, .string ⟨#[]⟩], .string (bs U), .bool true]) ?_ rfl ?_
  · simp [results, Tryz.results137, go_sem]
  · exact ⟨rfl, (by with_reducible repeat (first | exact Below.refl _ _ | refine bl_d ?_ | refine bl_n ?_ _ | refine bl_a ?_ _ | refine bl_s ?_ (by omega) _))⟩

end Go.Proofs.YtlahlnocjfphjaaGreatDoor

namespace Go.Proofs.YtlahlnocjfphjaaGreatDoor
open Go.RowKit
attribute [local go_sem] setCell_drewN alloc_drewN

set_option maxRecDepth 100000 in
set_option maxHeartbeats 1600000 in
theorem split_some01 (l : List UInt8) (w : World) (hs : l.length ≤ maxLen) (ho : wO (minusL l) = true) (hf : ¬ (wR (minusL l)).head? = some 46) (he : (wR (minusL l)).head? = some 101 ∨ (wR (minusL l)).head? = some 69) :
    Calls Tryz.prog 137 #[.string (bs l)] w fun e w' => e = .returned (.tuple #[pv ⟨decide (l.head? = some 45), wW (minusL l), [], decide ((wR (minusL l)).tail.head? = some 45), tw (signL (wR (minusL l)).tail)⟩, .string (bs (dw (signL (wR (minusL l)).tail))), .bool (decide (tw (signL (wR (minusL l)).tail) ≠ []))]) ∧ Below w.heap.size w w' := by
  have h1 := fun w => cut_any l 45 w
  have h2 := fun w => splitWhole_any (minusL l) w (Nat.le_trans (len_minus l) hs)
  have h3 := fun w => cut_any (wR (minusL l)) 46 w
  have l4 : (wR (minusL l)).length ≤ l.length := Nat.le_trans (len_wR _) (len_minus l)
  rw [show (if l.head? = some 45 then l.tail else l) = minusL l from rfl] at h1
  rw [ho] at h2
  rw [if_neg hf, decide_eq_false hf] at h3
  have l6 : (wR (minusL l)).length ≤ l.length := l4
  have h5 := fun b w c0 c1 => cutAny_any (wR (minusL l)) b 101 69 w c0 c1
  rw [if_pos he, decide_eq_true he] at h5
  have h6 := fun w => has_one (bs (wR (minusL l)).tail) 45 w
  have h7 := fun b w c0 c1 => cutAny_any (wR (minusL l)).tail b 43 45 w c0 c1
  have l7 : (signL (wR (minusL l)).tail).length ≤ l.length := Nat.le_trans (len_sign _) (Nat.le_trans (by simp) l6)
  have h8 := fun w => splitDigits_l (signL (wR (minusL l)).tail) w (by omega)
  rw [show (if (wR (minusL l)).tail.head? = some 43 ∨ (wR (minusL l)).tail.head? = some 45 then (wR (minusL l)).tail.tail else (wR (minusL l)).tail) = signL (wR (minusL l)).tail from rfl] at h7
  rw [bs_list] at h6
  clear ho hs hf he l4 l6 l7
  generalize decide (l.head? = some 45) = neg at *
  generalize minusL l = m at *
  generalize wW m = W at *
  generalize wR m = R at *
  generalize decide (R.tail.head? = some 45) = mi at *
  generalize decide (R.tail.head? = some 43 ∨ R.tail.head? = some 45) = sgn at *
  generalize decide (tw (signL R.tail) ≠ []) = ok at *
  generalize tw (signL R.tail) = X at *
  generalize dw (signL R.tail) = Y at *
  generalize signL R.tail = Z at *
  generalize R.tail = E at *
  go_enter Tryz.func137, Tryz.ntmps137
  go_wp2_with (first | (go_at_call 140; with_reducible refine (h1 _).mono ?_; rintro e w' ⟨rfl, rfl⟩) | (go_at_call 140; with_reducible refine (h3 _).mono ?_; rintro e w' ⟨rfl, rfl⟩) | (go_at_call 141; refine (h2 _).mono ?_; rintro e w' ⟨rfl, q, rfl⟩) | (go_at_call 143; with_reducible refine (h5 _ _ ?_ ?_).mono ?_; simp [go_sem]; simp [go_sem]; rintro e w' ⟨rfl, rfl⟩) | (go_at_call 143; with_reducible refine (h7 _ _ ?_ ?_).mono ?_; simp [go_sem]; simp [go_sem]; rintro e w' ⟨rfl, rfl⟩) | (go_at_call 144; refine (h6 _).mono ?_; rintro e w' ⟨rfl, rfl⟩) | (go_at_call 142; with_reducible refine (h8 _).mono ?_; rintro e w' ⟨rfl, q2, rfl⟩))
  refine bodyPost_ret (v := .tuple #[.agg #[.bool neg, .string (bs W), .string ⟨#[]⟩, .bool mi, .string (bs X)], .string (bs Y), .bool ok]) ?_ rfl ?_
  · simp [results, Tryz.results137, go_sem]
  · exact ⟨rfl, (by with_reducible repeat (first | exact Below.refl _ _ | refine bl_d ?_ | refine bl_n ?_ _ | refine bl_a ?_ _ | refine bl_s ?_ (by omega) _))⟩

set_option maxRecDepth 100000 in
set_option maxHeartbeats 1600000 in
theorem split_some11 (l : List UInt8) (w : World) (hs : l.length ≤ maxLen) (ho : wO (minusL l) = true) (hf : (wR (minusL l)).head? = some 46) (hd : tw (wR (minusL l)).tail ≠ []) (he : (dw (wR (minusL l)).tail).head? = some 101 ∨ (dw (wR (minusL l)).tail).head? = some 69) :
    Calls Tryz.prog 137 #[.string (bs l)] w fun e w' => e = .returned (.tuple #[pv ⟨decide (l.head? = some 45), wW (minusL l), tw (wR (minusL l)).tail, decide ((dw (wR (minusL l)).tail).tail.head? = some 45), tw (signL (dw (wR (minusL l)).tail).tail)⟩, .string (bs (dw (signL (dw (wR (minusL l)).tail).tail))), .bool (decide (tw (signL (dw (wR (minusL l)).tail).tail) ≠ []))]) ∧ Below w.heap.size w w' := by
  have h1 := fun w => cut_any l 45 w
  have h2 := fun w => splitWhole_any (minusL l) w (Nat.le_trans (len_minus l) hs)
  have h3 := fun w => cut_any (wR (minusL l)) 46 w
  have l4 : (wR (minusL l)).length ≤ l.length := Nat.le_trans (len_wR _) (len_minus l)
  rw [show (if l.head? = some 45 then l.tail else l) = minusL l from rfl] at h1
  rw [ho] at h2
  have l5 : (wR (minusL l)).tail.length ≤ l.length := Nat.le_trans (by simp) l4
  have h4 := fun w => splitDigits_l (wR (minusL l)).tail w (by omega)
  rw [if_pos hf, decide_eq_true hf] at h3
  rw [decide_eq_true hd] at h4
  have l6 : (dw (wR (minusL l)).tail).length ≤ l.length := Nat.le_trans (len_dw _) l5
  have h5 := fun b w c0 c1 => cutAny_any (dw (wR (minusL l)).tail) b 101 69 w c0 c1
  rw [if_pos he, decide_eq_true he] at h5
  have h6 := fun w => has_one (bs (dw (wR (minusL l)).tail).tail) 45 w
  have h7 := fun b w c0 c1 => cutAny_any (dw (wR (minusL l)).tail).tail b 43 45 w c0 c1
  have l7 : (signL (dw (wR (minusL l)).tail).tail).length ≤ l.length := Nat.le_trans (len_sign _) (Nat.le_trans (by simp) l6)
  have h8 := fun w => splitDigits_l (signL (dw (wR (minusL l)).tail).tail) w (by omega)
  rw [show (if (dw (wR (minusL l)).tail).tail.head? = some 43 ∨ (dw (wR (minusL l)).tail).tail.head? = some 45 then (dw (wR (minusL l)).tail).tail.tail else (dw (wR (minusL l)).tail).tail) = signL (dw (wR (minusL l)).tail).tail from rfl] at h7
  rw [bs_list] at h6
  clear ho hs hf he l4 l6 l5 hd l7
  generalize decide (l.head? = some 45) = neg at *
  generalize minusL l = m at *
  generalize wW m = W at *
  generalize wR m = R at *
  generalize tw R.tail = T at *
  generalize dw R.tail = U at *
  generalize R.tail = R' at *
  generalize decide (U.tail.head? = some 45) = mi at *
  generalize decide (U.tail.head? = some 43 ∨ U.tail.head? = some 45) = sgn at *
  generalize decide (tw (signL U.tail) ≠ []) = ok at *
  generalize tw (signL U.tail) = X at *
  generalize dw (signL U.tail) = Y at *
  generalize signL U.tail = Z at *
  generalize U.tail = E at *
  go_enter Tryz.func137, Tryz.ntmps137
  go_wp2_with (first | (go_at_call 140; with_reducible refine (h1 _).mono ?_; rintro e w' ⟨rfl, rfl⟩) | (go_at_call 140; with_reducible refine (h3 _).mono ?_; rintro e w' ⟨rfl, rfl⟩) | (go_at_call 141; refine (h2 _).mono ?_; rintro e w' ⟨rfl, q, rfl⟩) | (go_at_call 142; with_reducible refine (h4 _).mono ?_; rintro e w' ⟨rfl, q1, rfl⟩) | (go_at_call 143; with_reducible refine (h5 _ _ ?_ ?_).mono ?_; simp [go_sem]; simp [go_sem]; rintro e w' ⟨rfl, rfl⟩) | (go_at_call 143; with_reducible refine (h7 _ _ ?_ ?_).mono ?_; simp [go_sem]; simp [go_sem]; rintro e w' ⟨rfl, rfl⟩) | (go_at_call 144; refine (h6 _).mono ?_; rintro e w' ⟨rfl, rfl⟩) | (go_at_call 142; with_reducible refine (h8 _).mono ?_; rintro e w' ⟨rfl, q2, rfl⟩))
  refine bodyPost_ret (v := .tuple #[.agg #[.bool neg, .string (bs W), .string (bs T), .bool mi, .string (bs X)], .string (bs Y), .bool ok]) ?_ rfl ?_
  · simp [results, Tryz.results137, go_sem]
  · exact ⟨rfl, (by with_reducible repeat (first | exact Below.refl _ _ | refine bl_d ?_ | refine bl_n ?_ _ | refine bl_a ?_ _ | refine bl_s ?_ (by omega) _))⟩

end Go.Proofs.YtlahlnocjfphjaaGreatDoor
