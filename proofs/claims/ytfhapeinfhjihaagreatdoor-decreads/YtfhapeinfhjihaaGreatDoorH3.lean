/-
  How a number's text is cut into parts, place by place: plain mathematics. No condition.
-/
import Derived.Test.YtfhapeinfhjihaaGreatDoorH2
namespace Go.Proofs.YtfhapeinfhjihaaGreatDoor
open Go.RowKit

/-- Does a byte stand at a place? -/
def hdB (s : ByteArray) (k : Nat) (c : Int) : Bool := decide (k < s.size ∧ cx s k = c)
theorem hdB_lt {s : ByteArray} {k : Nat} {c : Int} (h : hdB s k c = true) : k < s.size := (of_decide_eq_true h).1
theorem hdB_lt2 {s : ByteArray} {k : Nat} {c d : Int} (h : (hdB s k c || hdB s k d) = true) : k < s.size := by
  rcases Bool.or_eq_true_iff.1 h with h | h
  · exact hdB_lt h
  · exact hdB_lt h
theorem hd_iff (s : ByteArray) (k : Nat) (c : UInt8) : (s.data.toList.drop k).head? = some c ↔ hdB s k (c.toNat : Int) = true := by
  rw [List.head?_drop]
  constructor
  · intro h
    have hk : k < s.size := by rw [← len_of]; exact (List.getElem?_eq_some_iff.1 h).1
    obtain ⟨b, hb, hc⟩ := cx_get s k hk
    rw [h] at hb
    have e := Option.some.inj hb
    exact decide_eq_true ⟨hk, by rw [← hc, ← e]⟩
  · intro h
    obtain ⟨hk, hx⟩ := of_decide_eq_true h
    obtain ⟨b, hb, hc⟩ := cx_get s k hk
    rw [hb]
    congr 1
    exact UInt8.toNat_inj.1 (by omega)
theorem hd_yes {s : ByteArray} {k : Nat} (c : UInt8) {x : Int} (hx : x = (c.toNat : Int)) (h : hdB s k x = true) : (s.data.toList.drop k).head? = some c := (hd_iff s k c).2 (by rw [← hx]; exact h)
theorem hd_no {s : ByteArray} {k : Nat} (c : UInt8) {x : Int} (hx : x = (c.toNat : Int)) (h : hdB s k x = false) : ¬ (s.data.toList.drop k).head? = some c := fun e => by
  have := (hd_iff s k c).1 e
  rw [← hx, h] at this
  cases this
theorem tail_drop (l : List UInt8) (k : Nat) : (l.drop k).tail = l.drop (k + 1) := by rw [List.tail_drop]
/-- Are these digits bad ahead of the point? -/
def badB (D : ByteArray) : Bool := decide (D.size = 0 ∨ (1 < D.size ∧ cx D 0 = 48))
/-- The digits from a place on, up to another one. -/
def TwDw (s : ByteArray) (i k : Nat) : Prop := tw (s.data.toList.drop i) = (s.data.toList.drop i).take (k - i) ∧ dw (s.data.toList.drop i) = s.data.toList.drop k
theorem twdw_of {s : ByteArray} {i k : Nat} (hik : i ≤ k) (hk : k ≤ s.size) (h1 : ∀ j, i ≤ j → j < k → 48 ≤ cx s j ∧ cx s j ≤ 57) (h2 : k < s.size → ¬ (48 ≤ cx s k ∧ cx s k ≤ 57)) : TwDw s i k := by
  have key : ∀ j b, s.data.toList[j]? = some b → j < s.size ∧ (b.toNat : Int) = cx s j := fun j b hb => by
    have hj : j < s.size := by rw [← len_of]; exact (List.getElem?_eq_some_iff.1 hb).1
    obtain ⟨b', hb', hc⟩ := cx_get s j hj
    rw [hb] at hb'
    rw [Option.some.inj hb']
    exact ⟨hj, hc⟩
  obtain ⟨a, b⟩ := tw_len (s.data.toList.drop i) (k - i) (by rw [List.length_drop, len_of]; omega) (fun j b hj hb => by
    rw [List.getElem?_drop] at hb
    obtain ⟨hj2, hc⟩ := key _ _ hb
    have := h1 (i + j) (by omega) (by omega)
    rw [isD_iff]
    omega) (fun b hb => by
    rw [List.getElem?_drop, show i + (k - i) = k by omega] at hb
    obtain ⟨hj2, hc⟩ := key _ _ hb
    have := h2 hj2
    cases hd : isD b
    · rfl
    · have := (isD_iff b).1 hd; omega)
  refine ⟨a, ?_⟩
  rw [b, List.drop_drop, show i + (k - i) = k by omega]
theorem TwDw.mid {s : ByteArray} {i k : Nat} (h : TwDw s i k) : s.extract i k = bs (tw (s.data.toList.drop i)) := by
  rw [extract_mid, h.1, List.drop_take]
theorem TwDw.len {s : ByteArray} {i k : Nat} (h : TwDw s i k) : (tw (s.data.toList.drop i)).length ≤ s.size := by
  rw [h.1, List.length_take, List.length_drop, len_of]; omega

def CutOK (l : List UInt8) (n : Bool) (a b : ByteArray) (m : Bool) (x : ByteArray) (ok : Bool) : Prop :=
  (cutL l = none ∧ ok = false) ∨ ∃ p, cutL l = some p ∧ ok = true ∧ n = p.neg ∧ a = bs p.int ∧ b = bs p.frac ∧ m = p.minus ∧ x = bs p.exp
theorem ok_of {s : ByteArray} {n m : Bool} {a b : ByteArray} {x : List UInt8} {i : Nat} (hi : i ≤ s.size) (h : cutL s.data.toList = wholeL (some (⟨n, a.data.toList, b.data.toList, m, x⟩, s.data.toList.drop i))) : CutOK s.data.toList n a b m (bs x) ((i : Int) == (s.size : Int)) := by
  by_cases e : i = s.size
  · subst e
    refine .inr ⟨⟨n, a.data.toList, b.data.toList, m, x⟩, ?_, by simp, rfl, rfl, rfl, rfl, rfl⟩
    rw [h]
    simp only [wholeL]
    rw [if_pos (by rw [List.drop_eq_nil_iff, len_of]; exact Nat.le_refl _)]
  · refine .inl ⟨?_, beq_eq_false_iff_ne.2 (by omega)⟩
    rw [h]
    simp only [wholeL]
    rw [if_neg (by rw [List.drop_eq_nil_iff, len_of]; omega)]
/-- Behind a minus, or none. -/
def CutM (s : ByteArray) (i : Nat) (neg : Bool) : Prop := decide (s.data.toList.head? = some 45) = neg ∧ minusL s.data.toList = s.data.toList.drop i
theorem cutM_none {s : ByteArray} (h : hdB s 0 45 = false) : CutM s 0 false := by
  have := hd_no 45 rfl h
  rw [List.drop_zero] at this
  exact ⟨decide_eq_false this, by unfold minusL; rw [if_neg this, List.drop_zero]⟩
theorem cutM_some {s : ByteArray} (h : hdB s 0 45 = true) : CutM s 1 true := by
  have := hd_yes 45 rfl h
  rw [List.drop_zero] at this
  exact ⟨decide_eq_true this, by unfold minusL; rw [if_pos this, ← tail_drop, List.drop_zero]⟩
/-- Behind the digits ahead of the point. -/
def CutI (s : ByteArray) (k : Nat) (neg : Bool) (D : ByteArray) : Prop := cutL s.data.toList = wholeL (behindL neg D.data.toList (s.data.toList.drop k))
theorem bad_iff {D : List UInt8} : badB (bs D) = true ↔ (D = [] ∨ (1 < D.length ∧ D.head? = some 48)) := by
  unfold badB
  rw [decide_eq_true_iff, bs_size]
  constructor
  · rintro (h | ⟨h, hx⟩)
    · exact .inl (List.eq_nil_of_length_eq_zero h)
    · refine .inr ⟨h, ?_⟩
      have := (head_cx (bs D) (by rw [bs_size]; omega)).2 hx
      rwa [bs_list] at this
  · rintro (h | ⟨h, hx⟩)
    · exact .inl (by rw [h]; rfl)
    · refine .inr ⟨h, ?_⟩
      exact (head_cx (bs D) (by rw [bs_size]; omega)).1 (by rw [bs_list]; exact hx)
theorem CutM.int_some {s : ByteArray} {i k : Nat} {neg : Bool} {D : ByteArray} (h : CutM s i neg) (hD : bs (tw (s.data.toList.drop i)) = D) (hE : TwDw s i k) (hb : badB D = false) : CutI s k neg D := by
  unfold CutI cutL
  rw [h.2, h.1, if_neg, hE.2]
  · rw [← hD, bs_list]
  · intro e
    have := bad_iff.2 e
    rw [hD, hb] at this
    cases this
theorem CutM.int_none {s : ByteArray} {i : Nat} {neg : Bool} {D : ByteArray} (h : CutM s i neg) (hD : bs (tw (s.data.toList.drop i)) = D) (hb : badB D = true) : cutL s.data.toList = none := by
  unfold cutL
  rw [h.2, if_pos]
  exact bad_iff.1 (by rw [hD]; exact hb)
/-- The rest, when the digits behind the point are known. -/
def expB (neg : Bool) (a b : List UInt8) (x : Option (Bool × List UInt8 × List UInt8)) : Option (P3 × List UInt8) :=
  match x with
  | none => none
  | some (m, x, r) => some (⟨neg, a, b, m, x⟩, r)
theorem behind_some {neg : Bool} {a l f r : List UInt8} (h : fracL l = some (f, r)) : behindL neg a l = expB neg a f (expL r) := by
  unfold behindL
  rw [h]
  dsimp only
  cases expL r <;> rfl
theorem behind_none {neg : Bool} {a l : List UInt8} (h : fracL l = none) : behindL neg a l = none := by
  unfold behindL
  rw [h]
def CutF (s : ByteArray) (k : Nat) (neg : Bool) (D F : ByteArray) : Prop := cutL s.data.toList = wholeL (expB neg D.data.toList F.data.toList (expL (s.data.toList.drop k)))
theorem CutI.no_frac {s : ByteArray} {k : Nat} {neg : Bool} {D : ByteArray} (h : CutI s k neg D) (hf : hdB s k 46 = false) : CutF s k neg D ⟨#[]⟩ := by
  unfold CutF
  rw [show cutL s.data.toList = _ from h, behind_some (f := []) (r := s.data.toList.drop k) (by unfold fracL; rw [if_neg (hd_no 46 rfl hf)])]
theorem CutI.frac_none {s : ByteArray} {k : Nat} {neg : Bool} {D : ByteArray} (h : CutI s k neg D) (hf : hdB s k 46 = true) (ht : tw (s.data.toList.drop (k + 1)) = []) : cutL s.data.toList = none := by
  rw [show cutL s.data.toList = _ from h, behind_none (by unfold fracL; rw [if_pos (hd_yes 46 rfl hf), tail_drop, if_pos ht])]
  rfl
theorem CutI.frac_some {s : ByteArray} {k k3 : Nat} {neg : Bool} {D : ByteArray} {c : UInt8} {t : List UInt8} (h : CutI s k neg D) (hf : hdB s k 46 = true) (ht : tw (s.data.toList.drop (k + 1)) = c :: t) (hE : TwDw s (k + 1) k3) : CutF s k3 neg D (bs (c :: t)) := by
  unfold CutF
  rw [show cutL s.data.toList = _ from h, behind_some (f := c :: t) (r := s.data.toList.drop k3) (by unfold fracL; rw [if_pos (hd_yes 46 rfl hf), tail_drop, ht, if_neg (by simp), hE.2]), bs_list]
theorem CutF.no_exp {s : ByteArray} {k : Nat} {neg : Bool} {D F : ByteArray} (h : CutF s k neg D F) (he : (hdB s k 101 || hdB s k 69) = false) (hk : k ≤ s.size) : CutOK s.data.toList neg D F false ⟨#[]⟩ ((k : Int) == (s.size : Int)) := by
  have h1 : hdB s k 101 = false ∧ hdB s k 69 = false := by simpa using he
  have e : expL (s.data.toList.drop k) = some (false, [], s.data.toList.drop k) := by
    unfold expL
    rw [if_neg]
    rintro (q | q)
    · exact hd_no 101 rfl h1.1 q
    · exact hd_no 69 rfl h1.2 q
  exact ok_of (x := []) hk (by rw [show cutL s.data.toList = _ from h, e]; rfl)
/-- Behind the e. -/
def CutE (s : ByteArray) (q : Nat) (neg : Bool) (D F : ByteArray) : Prop :=
  cutL s.data.toList = wholeL (expB neg D.data.toList F.data.toList (if tw (signL (s.data.toList.drop q)) = [] then none else some (decide ((s.data.toList.drop q).head? = some 45), tw (signL (s.data.toList.drop q)), dw (signL (s.data.toList.drop q)))))
theorem CutF.at_exp {s : ByteArray} {k : Nat} {neg : Bool} {D F : ByteArray} (h : CutF s k neg D F) (he : (hdB s k 101 || hdB s k 69) = true) : CutE s (k + 1) neg D F := by
  unfold CutE
  rw [show cutL s.data.toList = _ from h]
  unfold expL
  rw [if_pos, tail_drop]
  rcases Bool.or_eq_true_iff.1 he with q | q
  · exact .inl (hd_yes 101 rfl q)
  · exact .inr (hd_yes 69 rfl q)
def SignAt (s : ByteArray) (q i : Nat) (mi : Bool) : Prop := signL (s.data.toList.drop q) = s.data.toList.drop i ∧ decide ((s.data.toList.drop q).head? = some 45) = mi
theorem signAt_none {s : ByteArray} {q : Nat} (h : (hdB s q 43 || hdB s q 45) = false) : SignAt s q q false := by
  have h1 : hdB s q 43 = false ∧ hdB s q 45 = false := by simpa using h
  refine ⟨?_, decide_eq_false (hd_no 45 rfl h1.2)⟩
  unfold signL
  rw [if_neg]
  rintro (e | e)
  · exact hd_no 43 rfl h1.1 e
  · exact hd_no 45 rfl h1.2 e
theorem signAt_some {s : ByteArray} {q : Nat} (h : (hdB s q 43 || hdB s q 45) = true) : q < s.size ∧ SignAt s q (q + 1) (cx s q == 45) := by
  have hq := hdB_lt2 h
  refine ⟨hq, ?_, ?_⟩
  · unfold signL
    rw [if_pos, tail_drop]
    rcases Bool.or_eq_true_iff.1 h with e | e
    · exact .inl (hd_yes 43 rfl e)
    · exact .inr (hd_yes 45 rfl e)
  · by_cases e : cx s q = 45
    · rw [decide_eq_true (hd_yes 45 rfl (decide_eq_true ⟨hq, e⟩)), e]; rfl
    · rw [decide_eq_false (hd_no 45 rfl (decide_eq_false (fun h => e h.2)))]
      exact (beq_eq_false_iff_ne.2 e).symm
theorem CutE.exp_none {s : ByteArray} {q i : Nat} {neg mi : Bool} {D F : ByteArray} (h : CutE s q neg D F) (hS : SignAt s q i mi) (hX : tw (s.data.toList.drop i) = []) : cutL s.data.toList = none := by
  rw [show cutL s.data.toList = _ from h, hS.1, if_pos hX]
  rfl
theorem CutE.exp_some {s : ByteArray} {q i k : Nat} {neg mi : Bool} {D F : ByteArray} {c : UInt8} {t : List UInt8} (h : CutE s q neg D F) (hS : SignAt s q i mi) (hX : tw (s.data.toList.drop i) = c :: t) (hE : TwDw s i k) (hk : k ≤ s.size) : CutOK s.data.toList neg D F mi (bs (c :: t)) ((k : Int) == (s.size : Int)) :=
  ok_of (x := c :: t) hk (by rw [show cutL s.data.toList = _ from h, hS.1, hX, if_neg (by simp), hS.2, hE.2]; rfl)
end Go.Proofs.YtfhapeinfhjihaaGreatDoor
