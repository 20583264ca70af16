/-
  What ref3.far and ref3.Value answer: the number of parts, however far its exponent is. Conditions: the parts are digits.
-/
import Derived.Test.YtfhapeinfhjihaaGreatDoorS8
import Derived.Test.YtfhapeinfhjihaaGreatDoorL3
namespace Go.Proofs.YtfhapeinfhjihaaGreatDoor
open Go.RowKit
attribute [local go_sem] setCell_drewN alloc_drewN

set_option maxRecDepth 100000 in
set_option maxHeartbeats 800000 in
theorem rfar_any (x : ByteArray) (w : World) (hx : x.size ≤ maxLen) (hd : x.data.toList.all isD = true) :
    Calls Tryz.prog 57 #[.string x] w fun e w' => e = .returned (.int .i64 (capN 99999999 x x.size)) ∧ w = w' := by
  unfold maxLen at hx
  have HB : Hid (∀ k, 0 ≤ capN 99999999 x k ∧ capN 99999999 x k ≤ 99999999) := fun k => capN_bd _ (by decide) x k hd
  have HS : Hid (∀ k, k < x.size → capN 99999999 x (k + 1) = min (capN 99999999 x k * 10 + (cx x k - 48)) 99999999 ∧ 48 ≤ cx x k ∧ cx x k ≤ 57) := fun k hk => capN_succ _ (by decide) x k hk hd
  obtain ⟨Z, hZ⟩ : ∃ Z, capN 99999999 x x.size = Z := ⟨_, rfl⟩
  rw [hZ]
  have HZ : Hid (capN 99999999 x x.size = Z) := hZ
  clear hd hZ
  go_enter Tryz.func57, Tryz.ntmps57
  go_wp2
  go_loop [3, 4] (fun v i => ∃ k : Nat, k ≤ x.size ∧ i = .int .i64 k ∧ v = .int .i64 (capN 99999999 x k)) (fun _ i => x.size - (intOf i).toNat)
  case atStart => exact ⟨0, Nat.zero_le _, rfl, rfl⟩
  case round =>
    obtain ⟨k, hk, rfl, rfl⟩ := hrel
    have hb := HB.out k
    by_cases hlt : k < x.size
    · have hI : (k : Int) < (x.size : Int) := by omega
      have hc := cx_at x k hlt
      obtain ⟨s1, s2, s3⟩ := HS.out k hlt
      have HE : Hid (capN 99999999 x (k + 1) = min (10 * capN 99999999 x k + (cx x k - 48)) 99999999) := by
        show _ = _
        rw [s1, Int.mul_comm]
      clear s1
      generalize cx x k = y at *
      generalize hz : capN 99999999 x k = z at *
      clear hz
      go_wp2
      go_round
      case rel => exact ⟨k + 1, by omega, by go_num, by rw [HE.out]⟩
      case measure => simp [intOf]; omega
    · have e : k = x.size := by omega
      subst e
      rw [HZ.out] at hb ⊢
      go_wp2
      go_ret
      exact ⟨rfl, rfl⟩

/-- Noughts ahead of a place and behind another one. -/
structure Cuts (l : List UInt8) (lo hi : Nat) : Prop where
  le : lo ≤ hi
  hi' : hi ≤ l.length
  ahead : ∀ j c, j < lo → l[j]? = some c → c = 48
  first : lo = l.length ∨ ∀ c, l[lo]? = some c → c ≠ 48
  behind : ∀ j c, hi ≤ j → l[j]? = some c → c = 48
  last : hi = lo ∨ ∀ c, l[hi - 1]? = some c → c ≠ 48
theorem all48 {l : List UInt8} (h : ∀ (j : Nat) (c : UInt8), l[j]? = some c → c = 48) : ∀ x ∈ l, (x == 48) = true := by
  intro x hx
  obtain ⟨i, hi, e⟩ := List.mem_iff_getElem.1 hx
  have := h i x (by rw [List.getElem?_eq_getElem hi, e])
  subst this
  rfl
theorem drop_all {l : List UInt8} (h : ∀ x ∈ l, (x == 48) = true) (r : List UInt8) : (l ++ r).dropWhile (· == 48) = r.dropWhile (· == 48) := by
  induction l with
  | nil => rfl
  | cons c t ih =>
    rw [List.cons_append, List.dropWhile_cons, if_pos (h c (List.mem_cons_self ..))]
    exact ih (fun x hx => h x (List.mem_cons_of_mem _ hx))
theorem trimRight_zeros {a b : List UInt8} (h : ∀ x ∈ b, (x == 48) = true) : Lib.trimRightB (a ++ b) 48 = Lib.trimRightB a 48 := by
  unfold Lib.trimRightB
  rw [List.reverse_append, drop_all (fun x hx => h x (List.mem_reverse.1 hx))]
theorem trimLeft_zeros {a b : List UInt8} (h : ∀ x ∈ a, (x == 48) = true) : Lib.trimLeftB (a ++ b) 48 = Lib.trimLeftB b 48 := by
  unfold Lib.trimLeftB
  exact drop_all h b
theorem Cuts.none {l : List UInt8} {lo : Nat} (h : Cuts l lo lo) : Lib.trimLeftB (Lib.trimRightB l 48) 48 = [] := by
  have : ∀ x ∈ l, (x == 48) = true := all48 (fun j c hc => by
    by_cases hj : j < lo
    · exact h.ahead j c hj hc
    · exact h.behind j c (by omega) hc)
  have e := trimRight_zeros (a := []) this
  rw [List.nil_append] at e
  rw [e]
  rfl
theorem Cuts.some {l : List UInt8} {lo hi : Nat} (h : Cuts l lo hi) (hne : lo < hi) : Lib.trimRightB l 48 = l.take hi ∧ Lib.trimLeftB (Lib.trimRightB l 48) 48 = (l.take hi).drop lo ∧ (l.take hi).drop lo ≠ [] := by
  have hl := h.hi'
  have e1 : Lib.trimRightB l 48 = l.take hi := by
    have e := trimRight_zeros (a := l.take hi) (b := l.drop hi) (all48 (fun j c hc => by
      rw [List.getElem?_drop] at hc
      exact h.behind _ c (by omega) hc))
    rw [List.take_append_drop] at e
    rw [e]
    refine trimRight_id _ ?_
    rw [List.getLast?_eq_getElem?, List.length_take, Nat.min_eq_left hl, List.getElem?_take_of_lt (by omega)]
    rcases h.last with e | e
    · omega
    · intro hc
      exact e 48 hc rfl
  have e3 : (l.take hi).drop lo ≠ [] := by
    intro e
    have := congrArg List.length e
    simp at this
    omega
  refine ⟨e1, ?_, e3⟩
  rw [e1]
  have e := trimLeft_zeros (a := (l.take hi).take lo) (b := (l.take hi).drop lo) (all48 (fun j c hc => by
    have hj : j < lo := by
      rcases Nat.lt_or_ge j lo with q | q
      · exact q
      · rw [List.getElem?_eq_none (by simp; omega)] at hc; cases hc
    rw [List.getElem?_take_of_lt hj, List.getElem?_take_of_lt (by omega)] at hc
    exact h.ahead j c hj hc))
  rw [List.take_append_drop] at e
  rw [e]
  refine trimLeft_id _ ?_
  rw [List.head?_eq_getElem?, List.getElem?_drop, Nat.add_zero, List.getElem?_take_of_lt hne]
  rcases h.first with e | e
  · omega
  · intro hc
    exact e 48 hc rfl
end Go.Proofs.YtfhapeinfhjihaaGreatDoor
