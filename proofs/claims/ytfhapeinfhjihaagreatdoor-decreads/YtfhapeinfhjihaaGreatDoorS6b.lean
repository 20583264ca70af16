/-
  What dec.split answers where there is an exponent. No condition.
-/
import Derived.Test.YtfhapeinfhjihaaGreatDoorS6
namespace Go.Proofs.YtfhapeinfhjihaaGreatDoor
open Go.RowKit
attribute [local go_sem] setCell_drewN alloc_drewN

set_option maxRecDepth 100000 in
set_option maxHeartbeats 1600000 in
theorem split_some01 (l : List UInt8) (w : World) (hs : l.length ≤ maxLen) (ho : wO (minusL l) = true) (hf : ¬ (wR (minusL l)).head? = some 46) (he : (wR (minusL l)).head? = some 101 ∨ (wR (minusL l)).head? = some 69) :
    Calls Tryz.prog 49 #[.string (bs l)] w fun e w' => e = .returned (.tuple #[pv ⟨decide (l.head? = some 45), wW (minusL l), [], decide ((wR (minusL l)).tail.head? = some 45), tw (signL (wR (minusL l)).tail)⟩, .string (bs (dw (signL (wR (minusL l)).tail))), .bool (decide (tw (signL (wR (minusL l)).tail) ≠ []))]) ∧ Below w.heap.size w w' := by
  have h1 := fun w => cut_any l 45 w
  have h2 := fun w => splitWhole_any (minusL l) w (Nat.le_trans (len_minus l) hs)
  have h3 := fun w => cut_any (wR (minusL l)) 46 w
  have l4 : (wR (minusL l)).length ≤ l.length := Nat.le_trans (len_wR _) (len_minus l)
  rw [show (if l.head? = some 45 then l.tail else l) = minusL l from rfl] at h1
  rw [ho] at h2
  rw [if_neg hf, decide_eq_false hf] at h3
  have l6 : (wR (minusL l)).length ≤ l.length := l4
  have h5 := fun b w c0 c1 => cutAny_any (wR (minusL l)) b 101 69 w c0 c1
  rw [if_pos he, decide_eq_true he] at h5
  have h6 := fun w => has_one (bs (wR (minusL l)).tail) 45 w
  have h7 := fun b w c0 c1 => cutAny_any (wR (minusL l)).tail b 43 45 w c0 c1
  have l7 : (signL (wR (minusL l)).tail).length ≤ l.length := Nat.le_trans (len_sign _) (Nat.le_trans (by simp) l6)
  have h8 := fun w => splitDigits_l (signL (wR (minusL l)).tail) w (by omega)
  rw [show (if (wR (minusL l)).tail.head? = some 43 ∨ (wR (minusL l)).tail.head? = some 45 then (wR (minusL l)).tail.tail else (wR (minusL l)).tail) = signL (wR (minusL l)).tail from rfl] at h7
  rw [bs_list] at h6
  clear ho hs hf he l4 l6 l7
  generalize decide (l.head? = some 45) = neg at *
  generalize minusL l = m at *
  generalize wW m = W at *
  generalize wR m = R at *
  generalize decide (R.tail.head? = some 45) = mi at *
  generalize decide (R.tail.head? = some 43 ∨ R.tail.head? = some 45) = sgn at *
  generalize decide (tw (signL R.tail) ≠ []) = ok at *
  generalize tw (signL R.tail) = X at *
  generalize dw (signL R.tail) = Y at *
  generalize signL R.tail = Z at *
  generalize R.tail = E at *
  go_enter Tryz.func49, Tryz.ntmps49
  go_wp2_with (first | (go_at_call 72; with_reducible refine (h1 _).mono ?_; rintro e w' ⟨rfl, rfl⟩) | (go_at_call 72; with_reducible refine (h3 _).mono ?_; rintro e w' ⟨rfl, rfl⟩) | (go_at_call 73; refine (h2 _).mono ?_; rintro e w' ⟨rfl, q, rfl⟩) | (go_at_call 75; with_reducible refine (h5 _ _ ?_ ?_).mono ?_; simp [go_sem]; simp [go_sem]; rintro e w' ⟨rfl, rfl⟩) | (go_at_call 75; with_reducible refine (h7 _ _ ?_ ?_).mono ?_; simp [go_sem]; simp [go_sem]; rintro e w' ⟨rfl, rfl⟩) | (go_at_call 76; refine (h6 _).mono ?_; rintro e w' ⟨rfl, rfl⟩) | (go_at_call 74; with_reducible refine (h8 _).mono ?_; rintro e w' ⟨rfl, q2, rfl⟩))
  refine bodyPost_ret (v := .tuple #[.agg #[.bool neg, .string (bs W), .string ⟨#[]⟩, .bool mi, .string (bs X)], .string (bs Y), .bool ok]) ?_ rfl ?_
  · simp [results, Tryz.results49, go_sem]
  · exact ⟨rfl, (by with_reducible repeat (first | exact Below.refl _ _ | refine bl_d ?_ | refine bl_n ?_ _ | refine bl_a ?_ _ | refine bl_s ?_ (by omega) _))⟩

set_option maxRecDepth 100000 in
set_option maxHeartbeats 1600000 in
theorem split_some11 (l : List UInt8) (w : World) (hs : l.length ≤ maxLen) (ho : wO (minusL l) = true) (hf : (wR (minusL l)).head? = some 46) (hd : tw (wR (minusL l)).tail ≠ []) (he : (dw (wR (minusL l)).tail).head? = some 101 ∨ (dw (wR (minusL l)).tail).head? = some 69) :
    Calls Tryz.prog 49 #[.string (bs l)] w fun e w' => e = .returned (.tuple #[pv ⟨decide (l.head? = some 45), wW (minusL l), tw (wR (minusL l)).tail, decide ((dw (wR (minusL l)).tail).tail.head? = some 45), tw (signL (dw (wR (minusL l)).tail).tail)⟩, .string (bs (dw (signL (dw (wR (minusL l)).tail).tail))), .bool (decide (tw (signL (dw (wR (minusL l)).tail).tail) ≠ []))]) ∧ Below w.heap.size w w' := by
  have h1 := fun w => cut_any l 45 w
  have h2 := fun w => splitWhole_any (minusL l) w (Nat.le_trans (len_minus l) hs)
  have h3 := fun w => cut_any (wR (minusL l)) 46 w
  have l4 : (wR (minusL l)).length ≤ l.length := Nat.le_trans (len_wR _) (len_minus l)
  rw [show (if l.head? = some 45 then l.tail else l) = minusL l from rfl] at h1
  rw [ho] at h2
  have l5 : (wR (minusL l)).tail.length ≤ l.length := Nat.le_trans (by simp) l4
  have h4 := fun w => splitDigits_l (wR (minusL l)).tail w (by omega)
  rw [if_pos hf, decide_eq_true hf] at h3
  rw [decide_eq_true hd] at h4
  have l6 : (dw (wR (minusL l)).tail).length ≤ l.length := Nat.le_trans (len_dw _) l5
  have h5 := fun b w c0 c1 => cutAny_any (dw (wR (minusL l)).tail) b 101 69 w c0 c1
  rw [if_pos he, decide_eq_true he] at h5
  have h6 := fun w => has_one (bs (dw (wR (minusL l)).tail).tail) 45 w
  have h7 := fun b w c0 c1 => cutAny_any (dw (wR (minusL l)).tail).tail b 43 45 w c0 c1
  have l7 : (signL (dw (wR (minusL l)).tail).tail).length ≤ l.length := Nat.le_trans (len_sign _) (Nat.le_trans (by simp) l6)
  have h8 := fun w => splitDigits_l (signL (dw (wR (minusL l)).tail).tail) w (by omega)
  rw [show (if (dw (wR (minusL l)).tail).tail.head? = some 43 ∨ (dw (wR (minusL l)).tail).tail.head? = some 45 then (dw (wR (minusL l)).tail).tail.tail else (dw (wR (minusL l)).tail).tail) = signL (dw (wR (minusL l)).tail).tail from rfl] at h7
  rw [bs_list] at h6
  clear ho hs hf he l4 l6 l5 hd l7
  generalize decide (l.head? = some 45) = neg at *
  generalize minusL l = m at *
  generalize wW m = W at *
  generalize wR m = R at *
  generalize tw R.tail = T at *
  generalize dw R.tail = U at *
  generalize R.tail = R' at *
  generalize decide (U.tail.head? = some 45) = mi at *
  generalize decide (U.tail.head? = some 43 ∨ U.tail.head? = some 45) = sgn at *
  generalize decide (tw (signL U.tail) ≠ []) = ok at *
  generalize tw (signL U.tail) = X at *
  generalize dw (signL U.tail) = Y at *
  generalize signL U.tail = Z at *
  generalize U.tail = E at *
  go_enter Tryz.func49, Tryz.ntmps49
  go_wp2_with (first | (go_at_call 72; with_reducible refine (h1 _).mono ?_; rintro e w' ⟨rfl, rfl⟩) | (go_at_call 72; with_reducible refine (h3 _).mono ?_; rintro e w' ⟨rfl, rfl⟩) | (go_at_call 73; refine (h2 _).mono ?_; rintro e w' ⟨rfl, q, rfl⟩) | (go_at_call 74; with_reducible refine (h4 _).mono ?_; rintro e w' ⟨rfl, q1, rfl⟩) | (go_at_call 75; with_reducible refine (h5 _ _ ?_ ?_).mono ?_; simp [go_sem]; simp [go_sem]; rintro e w' ⟨rfl, rfl⟩) | (go_at_call 75; with_reducible refine (h7 _ _ ?_ ?_).mono ?_; simp [go_sem]; simp [go_sem]; rintro e w' ⟨rfl, rfl⟩) | (go_at_call 76; refine (h6 _).mono ?_; rintro e w' ⟨rfl, rfl⟩) | (go_at_call 74; with_reducible refine (h8 _).mono ?_; rintro e w' ⟨rfl, q2, rfl⟩))
  refine bodyPost_ret (v := .tuple #[.agg #[.bool neg, .string (bs W), .string (bs T), .bool mi, .string (bs X)], .string (bs Y), .bool ok]) ?_ rfl ?_
  · simp [results, Tryz.results49, go_sem]
  · exact ⟨rfl, (by with_reducible repeat (first | exact Below.refl _ _ | refine bl_d ?_ | refine bl_n ?_ _ | refine bl_a ?_ _ | refine bl_s ?_ (by omega) _))⟩

end Go.Proofs.YtfhapeinfhjihaaGreatDoor
