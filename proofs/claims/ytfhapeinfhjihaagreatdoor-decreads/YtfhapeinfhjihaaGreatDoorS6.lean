/-
  What dec.split answers: a text's parts, and what is left. No condition.
-/
import Derived.Test.YtfhapeinfhjihaaGreatDoorS5
namespace Go.Proofs.YtfhapeinfhjihaaGreatDoor
open Go.RowKit
attribute [local go_sem] setCell_drewN alloc_drewN

theorem cut_any (l : List UInt8) (c : UInt8) (w : World) :
    Calls Tryz.prog 72 #[.string (bs l), .string ⟨#[c]⟩] w fun e w' => e = .returned (.tuple #[.string (bs (if l.head? = some c then l.tail else l)), .bool (decide (l.head? = some c))]) ∧ w = w' := by
  by_cases h : l.head? = some c
  · rw [if_pos h, decide_eq_true h]; exact cut_yes (bs l) c w h
  · rw [if_neg h, decide_eq_false h]; exact cut_no (bs l) c w h
def wW (l : List UInt8) : List UInt8 := if l.head? = some 48 then [48] else tw l
def wR (l : List UInt8) : List UInt8 := if l.head? = some 48 then l.tail else dw l
def wO (l : List UInt8) : Bool := decide (l.head? = some 48 ∨ tw l ≠ [])
theorem splitWhole_any (l : List UInt8) (w : World) (hs : l.length ≤ maxLen) :
    Calls Tryz.prog 73 #[.string (bs l)] w fun e w' => e = .returned (.tuple #[.string (bs (wW l)), .string (bs (wR l)), .bool (wO l)]) ∧ ∃ q, w' = w.drewN q := by
  unfold wW wR wO
  by_cases h : l.head? = some 48
  · rw [if_pos h, if_pos h, decide_eq_true (.inl h)]; exact splitWhole_nought (bs l) w h
  · rw [if_neg h, if_neg h]
    have e : decide (l.head? = some 48 ∨ tw l ≠ []) = decide (tw l ≠ []) := decide_eq_decide.2 ⟨fun g => g.resolve_left h, .inr⟩
    rw [e]
    exact splitWhole_digits (bs l) w (by rw [bs_size]; exact hs) h
theorem cutAny_any (l : List UInt8) (b : Nat) (x y : UInt8) (w : World) (c0 : w.cell? ⟨b, 0, none⟩ = some (.int .u8 x.toNat)) (c1 : w.cell? ⟨b, 1, none⟩ = some (.int .u8 y.toNat)) :
    Calls Tryz.prog 75 #[.string (bs l), .slice (some ⟨b, 0, none⟩) 2 2] w fun e w' => e = .returned (.tuple #[.string (bs (if l.head? = some x ∨ l.head? = some y then l.tail else l)), .bool (decide (l.head? = some x ∨ l.head? = some y))]) ∧ w = w' := by
  by_cases h : l.head? = some x ∨ l.head? = some y
  · rw [if_pos h, decide_eq_true h]; exact cutAny_yes (bs l) b x y w c0 c1 h
  · rw [if_neg h, decide_eq_false h]; exact cutAny_no (bs l) b x y w c0 c1 h
theorem splitDigits_l (l : List UInt8) (w : World) (hs : l.length ≤ maxLen) :
    Calls Tryz.prog 74 #[.string (bs l)] w fun e w' => e = .returned (.tuple #[.string (bs (tw l)), .string (bs (dw l)), .bool (decide (tw l ≠ []))]) ∧ ∃ q, w' = w.drewN q := splitDigits_any (bs l) w (by rw [bs_size]; exact hs)
theorem split_eq (l : List UInt8) : splitL l = if wO (minusL l) = true then behindL (decide (l.head? = some 45)) (wW (minusL l)) (wR (minusL l)) else none := by
  unfold splitL wW wR wO
  by_cases h : (minusL l).head? = some 48
  · rw [if_pos h, if_pos h, if_pos h, if_pos (decide_eq_true (.inl h))]
  · rw [if_neg h, if_neg h, if_neg h]
    by_cases g : tw (minusL l) = []
    · rw [if_pos g, if_neg]
      rw [decide_eq_false (by rintro (a | a); exact h a; exact a g)]; decide
    · rw [if_neg g, if_pos (decide_eq_true (.inr g))]
/-- Parts as a value. -/
def pv (p : P3) : Value := .agg #[.bool p.neg, .string (bs p.int), .string (bs p.frac), .bool p.minus, .string (bs p.exp)]
theorem len_minus (l : List UInt8) : (minusL l).length ≤ l.length := by unfold minusL; split <;> simp
theorem len_wR (l : List UInt8) : (wR l).length ≤ l.length := by
  unfold wR
  split
  · simp
  · exact (List.dropWhile_suffix _).length_le
theorem len_dw (l : List UInt8) : (dw l).length ≤ l.length := (List.dropWhile_suffix _).length_le
theorem len_sign (l : List UInt8) : (signL l).length ≤ l.length := by unfold signL; split <;> simp

set_option maxRecDepth 100000 in
set_option maxHeartbeats 800000 in
theorem split_none1 (l : List UInt8) (w : World) (hs : l.length ≤ maxLen) (ho : wO (minusL l) = false) :
    Calls Tryz.prog 49 #[.string (bs l)] w fun e w' => (∃ p r, e = .returned (.tuple #[pv p, .string (bs r), .bool false]) ∧ r.length ≤ l.length) ∧ Below w.heap.size w w' := by
  have h1 := fun w => cut_any l 45 w
  have h2 := fun w => splitWhole_any (minusL l) w (Nat.le_trans (len_minus l) hs)
  rw [show (if l.head? = some 45 then l.tail else l) = minusL l from rfl] at h1
  have l3 : Hid ((wR (minusL l)).length ≤ l.length) := Nat.le_trans (len_wR _) (len_minus l)
  rw [ho] at h2
  clear ho hs
  generalize decide (l.head? = some 45) = neg at *
  generalize minusL l = m at *
  generalize wW m = W at *
  generalize wR m = R at *
  go_enter Tryz.func49, Tryz.ntmps49
  go_wp2_with (first | (go_at_call 72; with_reducible refine (h1 _).mono ?_; rintro e w' ⟨rfl, rfl⟩) | (go_at_call 73; refine (h2 _).mono ?_; rintro e w' ⟨rfl, q, rfl⟩))
  refine bodyPost_ret (v := .tuple #[.agg #[.bool neg, .string (bs W), .string ⟨#[]⟩, .bool false, .string ⟨#[]⟩], .string (bs R), .bool false]) ?_ rfl ?_
  · simp [results, Tryz.results49, go_sem]
  · exact ⟨⟨⟨neg, W, [], false, []⟩, R, rfl, l3.out⟩, (by with_reducible repeat (first | exact Below.refl _ _ | refine bl_d ?_ | refine bl_n ?_ _ | refine bl_a ?_ _ | refine bl_s ?_ (by omega) _))⟩

set_option maxRecDepth 100000 in
set_option maxHeartbeats 800000 in
theorem split_none2 (l : List UInt8) (w : World) (hs : l.length ≤ maxLen) (ho : wO (minusL l) = true) (hf : (wR (minusL l)).head? = some 46) (hd : tw (wR (minusL l)).tail = []) :
    Calls Tryz.prog 49 #[.string (bs l)] w fun e w' => (∃ p r, e = .returned (.tuple #[pv p, .string (bs r), .bool false]) ∧ r.length ≤ l.length) ∧ Below w.heap.size w w' := by
  have h1 := fun w => cut_any l 45 w
  have h2 := fun w => splitWhole_any (minusL l) w (Nat.le_trans (len_minus l) hs)
  have h3 := fun w => cut_any (wR (minusL l)) 46 w
  have l4 : (wR (minusL l)).tail.length ≤ l.length := Nat.le_trans (by simp) (Nat.le_trans (len_wR _) (len_minus l))
  have h4 := fun w => splitDigits_l (wR (minusL l)).tail w (by omega)
  have l3 : Hid ((dw (wR (minusL l)).tail).length ≤ l.length) := Nat.le_trans (len_dw _) l4
  rw [show (if l.head? = some 45 then l.tail else l) = minusL l from rfl] at h1
  rw [ho] at h2
  rw [if_pos hf, decide_eq_true hf] at h3
  rw [decide_eq_false (by rw [hd]; simp)] at h4
  clear ho hs hf hd l4
  generalize decide (l.head? = some 45) = neg at *
  generalize minusL l = m at *
  generalize wW m = W at *
  generalize wR m = R at *
  generalize tw R.tail = T at *
  generalize dw R.tail = U at *
  generalize R.tail = R' at *
  go_enter Tryz.func49, Tryz.ntmps49
  go_wp2_with (first | (go_at_call 72; with_reducible refine (h1 _).mono ?_; rintro e w' ⟨rfl, rfl⟩) | (go_at_call 72; with_reducible refine (h3 _).mono ?_; rintro e w' ⟨rfl, rfl⟩) | (go_at_call 73; refine (h2 _).mono ?_; rintro e w' ⟨rfl, q, rfl⟩) | (go_at_call 74; refine (h4 _).mono ?_; rintro e w' ⟨rfl, q', rfl⟩))
  refine bodyPost_ret (v := .tuple #[.agg #[.bool neg, .string (bs W), .string (bs T), .bool false, .string ⟨#[]⟩], .string (bs U), .bool false]) ?_ rfl ?_
  · simp [results, Tryz.results49, go_sem]
  · exact ⟨⟨⟨neg, W, T, false, []⟩, U, rfl, l3.out⟩, (by with_reducible repeat (first | exact Below.refl _ _ | refine bl_d ?_ | refine bl_n ?_ _ | refine bl_a ?_ _ | refine bl_s ?_ (by omega) _))⟩
set_option maxRecDepth 100000 in
set_option maxHeartbeats 1600000 in
theorem split_some00 (l : List UInt8) (w : World) (hs : l.length ≤ maxLen) (ho : wO (minusL l) = true) (hf : ¬ (wR (minusL l)).head? = some 46) (he : ¬ ((wR (minusL l)).head? = some 101 ∨ (wR (minusL l)).head? = some 69)) :
    Calls Tryz.prog 49 #[.string (bs l)] w fun e w' => e = .returned (.tuple #[pv ⟨decide (l.head? = some 45), wW (minusL l), [], false, []⟩, .string (bs (wR (minusL l))), .bool true]) ∧ Below w.heap.size w w' := by
  have h1 := fun w => cut_any l 45 w
  have h2 := fun w => splitWhole_any (minusL l) w (Nat.le_trans (len_minus l) hs)
  have h3 := fun w => cut_any (wR (minusL l)) 46 w
  have l4 : (wR (minusL l)).length ≤ l.length := Nat.le_trans (len_wR _) (len_minus l)
  rw [show (if l.head? = some 45 then l.tail else l) = minusL l from rfl] at h1
  rw [ho] at h2
  rw [if_neg hf, decide_eq_false hf] at h3
  have l6 : (wR (minusL l)).length ≤ l.length := l4
  have h5 := fun b w c0 c1 => cutAny_any (wR (minusL l)) b 101 69 w c0 c1
  rw [if_neg he, decide_eq_false he] at h5
  clear ho hs hf he l4 l6
  generalize decide (l.head? = some 45) = neg at *
  generalize minusL l = m at *
  generalize wW m = W at *
  generalize wR m = R at *
  go_enter Tryz.func49, Tryz.ntmps49
  go_wp2_with (first | (go_at_call 72; with_reducible refine (h1 _).mono ?_; rintro e w' ⟨rfl, rfl⟩) | (go_at_call 72; with_reducible refine (h3 _).mono ?_; rintro e w' ⟨rfl, rfl⟩) | (go_at_call 73; refine (h2 _).mono ?_; rintro e w' ⟨rfl, q, rfl⟩) | (go_at_call 75; with_reducible refine (h5 _ _ ?_ ?_).mono ?_; simp [go_sem]; simp [go_sem]; rintro e w' ⟨rfl, rfl⟩))
  refine bodyPost_ret (v := .tuple #[.agg #[.bool neg, .string (bs W), .string ⟨#[]⟩, .bool false, .string ⟨#[]⟩], .string (bs R), .bool true]) ?_ rfl ?_
  · simp [results, Tryz.results49, go_sem]
  · exact ⟨rfl, (by with_reducible repeat (first | exact Below.refl _ _ | refine bl_d ?_ | refine bl_n ?_ _ | refine bl_a ?_ _ | refine bl_s ?_ (by omega) _))⟩

set_option maxRecDepth 100000 in
set_option maxHeartbeats 1600000 in
theorem split_some10 (l : List UInt8) (w : World) (hs : l.length ≤ maxLen) (ho : wO (minusL l) = true) (hf : (wR (minusL l)).head? = some 46) (hd : tw (wR (minusL l)).tail ≠ []) (he : ¬ ((dw (wR (minusL l)).tail).head? = some 101 ∨ (dw (wR (minusL l)).tail).head? = some 69)) :
    Calls Tryz.prog 49 #[.string (bs l)] w fun e w' => e = .returned (.tuple #[pv ⟨decide (l.head? = some 45), wW (minusL l), tw (wR (minusL l)).tail, false, []⟩, .string (bs (dw (wR (minusL l)).tail)), .bool true]) ∧ Below w.heap.size w w' := by
  have h1 := fun w => cut_any l 45 w
  have h2 := fun w => splitWhole_any (minusL l) w (Nat.le_trans (len_minus l) hs)
  have h3 := fun w => cut_any (wR (minusL l)) 46 w
  have l4 : (wR (minusL l)).length ≤ l.length := Nat.le_trans (len_wR _) (len_minus l)
  rw [show (if l.head? = some 45 then l.tail else l) = minusL l from rfl] at h1
  rw [ho] at h2
  have l5 : (wR (minusL l)).tail.length ≤ l.length := Nat.le_trans (by simp) l4
  have h4 := fun w => splitDigits_l (wR (minusL l)).tail w (by omega)
  rw [if_pos hf, decide_eq_true hf] at h3
  rw [decide_eq_true hd] at h4
  have l6 : (dw (wR (minusL l)).tail).length ≤ l.length := Nat.le_trans (len_dw _) l5
  have h5 := fun b w c0 c1 => cutAny_any (dw (wR (minusL l)).tail) b 101 69 w c0 c1
  rw [if_neg he, decide_eq_false he] at h5
  clear ho hs hf he l4 l6 l5 hd
  generalize decide (l.head? = some 45) = neg at *
  generalize minusL l = m at *
  generalize wW m = W at *
  generalize wR m = R at *
  generalize tw R.tail = T at *
  generalize dw R.tail = U at *
  generalize R.tail = R' at *
  go_enter Tryz.func49, Tryz.ntmps49
  go_wp2_with (first | (go_at_call 72; with_reducible refine (h1 _).mono ?_; rintro e w' ⟨rfl, rfl⟩) | (go_at_call 72; with_reducible refine (h3 _).mono ?_; rintro e w' ⟨rfl, rfl⟩) | (go_at_call 73; refine (h2 _).mono ?_; rintro e w' ⟨rfl, q, rfl⟩) | (go_at_call 74; with_reducible refine (h4 _).mono ?_; rintro e w' ⟨rfl, q1, rfl⟩) | (go_at_call 75; with_reducible refine (h5 _ _ ?_ ?_).mono ?_; simp [go_sem]; simp [go_sem]; rintro e w' ⟨rfl, rfl⟩))
  refine bodyPost_ret (v := .tuple #[.agg #[.bool neg, .string (bs W), .string (bs T), .bool false, .string ⟨#[]⟩], .string (bs U), .bool true]) ?_ rfl ?_
  · simp [results, Tryz.results49, go_sem]
  · exact ⟨rfl, (by with_reducible repeat (first | exact Below.refl _ _ | refine bl_d ?_ | refine bl_n ?_ _ | refine bl_a ?_ _ | refine bl_s ?_ (by omega) _))⟩

end Go.Proofs.YtfhapeinfhjihaaGreatDoor
