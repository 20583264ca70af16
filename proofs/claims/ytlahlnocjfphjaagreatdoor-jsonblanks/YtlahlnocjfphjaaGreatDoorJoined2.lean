/-
  A number's text is read as the number; what a text is read as may be; numbers compare as their values do. No condition.
  Numbers stand as their values do, and which number is a multiple of which. No condition.
-/
import Derived.Test.YtlahlnocjfphjaaGreatDoorJoined1
namespace Go.Proofs.YtlahlnocjfphjaaGreatDoor

theorem tw_all (l : List UInt8) : (tw l).all isD = true := by
  induction l with
  | nil => rfl
  | cons c t ih =>
    by_cases h : isD c = true
    · simp only [tw, List.takeWhile_cons, h, if_true, List.all_cons, Bool.true_and]; exact ih
    · simp [tw, h]
theorem tw_append (l r : List UInt8) (h : l.all isD = true) (hr : ∀ c, r.head? = some c → isD c = false) : tw (l ++ r) = l ∧ dw (l ++ r) = r := by
  induction l with
  | nil =>
    cases r with
    | nil => exact ⟨rfl, rfl⟩
    | cons c t => have := hr c rfl; simp [tw, dw, this]
  | cons c t ih =>
    simp only [List.all_cons, Bool.and_eq_true] at h
    have := ih h.2
    simp only [List.cons_append, tw, dw, List.takeWhile_cons, List.dropWhile_cons, h.1, if_true]
    exact ⟨by rw [show List.takeWhile isD (t ++ r) = t from this.1], this.2⟩
theorem trimRight_id (l : List UInt8) (h : l.getLast? ≠ some 48) : Lib.trimRightB l 48 = l := by
  unfold Lib.trimRightB
  rw [← List.head?_reverse] at h
  cases e : l.reverse with
  | nil => rw [List.dropWhile_nil]; have := congrArg List.reverse e; simpa using this.symm
  | cons c t =>
    rw [e] at h
    have hc : ¬ c = 48 := by simpa using h
    have : (c == 48) = false := by simpa using hc
    rw [List.dropWhile_cons, this]
    simp only [Bool.false_eq_true, if_false]
    rw [← e, List.reverse_reverse]
theorem trimLeft_id (l : List UInt8) (h : l.head? ≠ some 48) : Lib.trimLeftB l 48 = l := by
  unfold Lib.trimLeftB
  cases l with
  | nil => rfl
  | cons c t =>
    have hc : ¬ c = 48 := by simpa using h
    have : (c == 48) = false := by simpa using hc
    rw [List.dropWhile_cons, this]
    simp
theorem dropWhile_head (l : List UInt8) : (l.dropWhile (· == 48)).head? ≠ some 48 := by
  induction l with
  | nil => simp
  | cons c t ih =>
    by_cases h : c = 48
    · simp [h]; simpa using ih
    · simp [h]
theorem trimRight_last (l : List UInt8) : (Lib.trimRightB l 48).getLast? ≠ some 48 := by
  unfold Lib.trimRightB
  rw [List.getLast?_reverse]
  exact dropWhile_head _
theorem trimLeft_last (l : List UInt8) (h : l.getLast? ≠ some 48) : (Lib.trimLeftB l 48).getLast? ≠ some 48 := by
  unfold Lib.trimLeftB
  induction l with
  | nil => simp
  | cons c t ih =>
    by_cases e : c = 48
    · cases t with
      | nil => subst e; exact absurd rfl h
      | cons d u =>
        have := ih (by simpa using h)
        rw [e, List.dropWhile_cons]; simpa using this
    · rw [List.dropWhile_cons, show (c == 48) = false by simpa using e]; simpa using h
theorem all_dropWhile (l : List UInt8) (p : UInt8 → Bool) (h : l.all isD = true) : (l.dropWhile p).all isD = true := by
  rw [List.all_eq_true] at h ⊢
  intro x hx
  exact h x ((List.dropWhile_sublist p).subset hx)
theorem all_reverse (l : List UInt8) (h : l.all isD = true) : l.reverse.all isD = true := by
  rw [List.all_reverse]; exact h
/-- Parts that are digits. -/
def PD (p : P3) : Prop := p.int.all isD = true ∧ p.frac.all isD = true ∧ p.exp.all isD = true
theorem fracL_pd {l f r : List UInt8} (h : fracL l = some (f, r)) : f.all isD = true := by
  unfold fracL at h
  split at h
  · split at h
    · cases h
    · simp only [Option.some.injEq, Prod.mk.injEq] at h; rw [← h.1]; exact tw_all _
  · simp only [Option.some.injEq, Prod.mk.injEq] at h; rw [← h.1]; rfl
theorem expL_pd {l x r : List UInt8} {m : Bool} (h : expL l = some (m, x, r)) : x.all isD = true := by
  unfold expL at h
  split at h
  · split at h
    · cases h
    · simp only [Option.some.injEq, Prod.mk.injEq] at h; rw [← h.2.1]; exact tw_all _
  · simp only [Option.some.injEq, Prod.mk.injEq] at h; rw [← h.2.1]; rfl
theorem behindL_pd {neg : Bool} {w l r : List UInt8} {p : P3} (hw : w.all isD = true) (h : behindL neg w l = some (p, r)) : PD p := by
  unfold behindL at h
  split at h
  · cases h
  · rename_i f l3 hf
    split at h
    · cases h
    · rename_i m x r' hx
      simp only [Option.some.injEq, Prod.mk.injEq] at h
      rw [← h.1]
      exact ⟨hw, fracL_pd hf, expL_pd hx⟩
theorem cutL_pd {l : List UInt8} {p : P3} (h : cutL l = some p) : PD p := by
  unfold cutL at h
  split at h
  · cases h
  · unfold wholeL at h
    split at h
    · cases h
    · rename_i p' r hb
      split at h
      · cases h; exact behindL_pd (tw_all _) hb
      · cases h
theorem value_good {p : P3} {d : D3} {C : Int} (hp : PD p) (h : valueL C p = some d) : Good d := by
  unfold valueL at h
  split at h
  · cases h
  · rename_i h1
    split at h
    · cases h; exact .inl ⟨rfl, rfl, rfl⟩
    · rename_i h2
      split at h
      · cases h
      · rename_i h3
        cases h
        have ha : (allOf p).all isD = true := by unfold allOf; rw [List.all_append, hp.1, hp.2.1]; rfl
        have hu : (upOf p).all isD = true := all_reverse _ (all_dropWhile _ _ (all_reverse _ ha))
        have l1 : (upOf p).length ≤ (allOf p).length := trimRight_le _ _
        have l2 : (dgOf p).length ≤ (upOf p).length := (List.dropWhile_suffix _).length_le
        refine .inr ⟨⟨h2, by show (dgOf p).length ≤ 65536; omega, all_dropWhile _ _ hu, dropWhile_head _, trimLeft_last _ (trimRight_last _)⟩, ?_, ?_⟩
        · show -1000000 ≤ exOf C p; omega
        · show exOf C p ≤ 1000000; omega
theorem parse_good {l : List UInt8} (h : (parseL l).1 = 0) : Good (parseL l).2 := by
  unfold parseL at h ⊢
  cases hc : cutL l with
  | none => rw [hc] at h; exact absurd h (by decide)
  | some p =>
    rw [hc] at h
    cases hv : valueL 1131072 p with
    | none => simp only [hv] at h; exact absurd h (by decide)
    | some d => simp only [hv]; exact value_good (cutL_pd hc) hv
theorem parse_bad {l : List UInt8} (h : (parseL l).1 ≠ 0) : (parseL l).2 = zeroD := by
  unfold parseL at h ⊢
  cases hc : cutL l with
  | none => rfl
  | some p =>
    rw [hc] at h
    cases hv : valueL 1131072 p with
    | none => simp only [hv]
    | some d => simp only [hv] at h; exact absurd rfl h

theorem decDigits_all (n : Nat) : (Lib.decDigits n).all isD = true ∧ num (Lib.decDigits n) = n ∧ Lib.decDigits n ≠ [] := by
  induction n using Nat.strongRecOn with
  | _ n ih =>
    rw [Lib.decDigits]
    have key : ∀ k, k < 10 → isD (UInt8.ofNat (48 + k)) = true ∧ ((UInt8.ofNat (48 + k)).toNat : Int) - 48 = k := fun k hk => by
      have : (UInt8.ofNat (48 + k)).toNat = 48 + k := by simp; omega
      rw [isD_iff, this]; omega
    by_cases h : n < 10
    · rw [dif_pos h]
      have := key n h
      refine ⟨by rw [List.all_cons, this.1]; rfl, ?_, by simp⟩
      rw [num_cons, this.2]; simp [num, numF]
    · rw [dif_neg h]
      have i := ih (n / 10) (by omega)
      have := key (n % 10) (by omega)
      refine ⟨by rw [List.all_append, i.1, List.all_cons, this.1]; rfl, ?_, by simp⟩
      rw [num_append, i.2.1, num_cons, this.2]
      simp [num, numF]; omega

/-- A number's text. -/
def sufL (e : Int) : List UInt8 := if e = 0 then [] else 101 :: Lib.itoa e
def textL (d : D3) : List UInt8 := if d.dg = [] then [48] else (if d.neg = true then 45 :: d.dg else d.dg) ++ sufL d.ex
theorem suf_head (e : Int) (c : UInt8) (h : (sufL e).head? = some c) : c = 101 := by
  unfold sufL at h
  split at h
  · simp at h
  · simpa using h.symm
theorem suf_exp (e : Int) : ∃ m x, expL (sufL e) = some (m, x, []) ∧ (-1000000 ≤ e → e ≤ 1000000 → (if m = true then -(min (num x) 1131072) else min (num x) 1131072) = e) := by
  unfold sufL
  by_cases h : e = 0
  · rw [if_pos h]
    exact ⟨false, [], rfl, fun _ _ => by rw [h]; decide⟩
  · rw [if_neg h]
    unfold expL
    rw [if_pos (by simp)]
    by_cases hn : e < 0
    · have hs : Lib.itoa e = 45 :: Lib.decDigits e.natAbs := by rw [Lib.itoa, if_pos hn]
      obtain ⟨d1, d2, d3⟩ := decDigits_all e.natAbs
      have e1 : signL (List.tail (101 :: Lib.itoa e)) = Lib.decDigits e.natAbs := by rw [List.tail_cons, hs]; simp [signL]
      have e2 := tw_append (Lib.decDigits e.natAbs) [] d1 (by simp)
      rw [List.append_nil] at e2
      rw [e1, e2.1, e2.2, if_neg d3]
      refine ⟨_, _, rfl, fun _ _ => ?_⟩
      rw [List.tail_cons, hs, d2]
      simp only [List.head?_cons, decide_true, if_true]
      omega
    · have hs : Lib.itoa e = Lib.decDigits e.toNat := by rw [Lib.itoa, if_neg hn]
      obtain ⟨d1, d2, d3⟩ := decDigits_all e.toNat
      have hh : ∀ c, (Lib.decDigits e.toNat).head? = some c → isD c = true := fun c hc => by
        cases hx : Lib.decDigits e.toNat with
        | nil => exact absurd hx d3
        | cons a b =>
          rw [hx] at hc d1
          simp only [List.all_cons, Bool.and_eq_true] at d1
          simp only [List.head?_cons, Option.some.injEq] at hc
          rw [← hc]; exact d1.1
      have n43 : ¬ (Lib.decDigits e.toNat).head? = some 43 := fun hc => absurd (hh _ hc) (by decide)
      have n45 : ¬ (Lib.decDigits e.toNat).head? = some 45 := fun hc => absurd (hh _ hc) (by decide)
      have e1 : signL (List.tail (101 :: Lib.itoa e)) = Lib.decDigits e.toNat := by rw [List.tail_cons, hs]; simp [signL, n43, n45]
      have e2 := tw_append (Lib.decDigits e.toNat) [] d1 (by simp)
      rw [List.append_nil] at e2
      rw [e1, e2.1, e2.2, if_neg d3]
      refine ⟨_, _, rfl, fun _ _ => ?_⟩
      rw [List.tail_cons, hs, d2]
      simp only [n45, decide_false, Bool.false_eq_true, if_false]
      omega
theorem parse_text (d : D3) (h : Good d) : parseL (textL d) = (0, d) := by
  obtain ⟨neg, l, e⟩ := d
  rcases h with ⟨h1, h2, h3⟩ | ⟨⟨h1, h2, h3, h4, h5⟩, h6, h7⟩
  · simp only at h1 h2 h3
    subst h1; subst h2; subst h3
    rfl
  · simp only at h1 h2 h3 h4 h5 h6 h7
    obtain ⟨m, x, hx, hv⟩ := suf_exp e
    have hv := hv h6 h7
    have hm : minusL (textL ⟨neg, l, e⟩) = l ++ sufL e ∧ decide ((textL ⟨neg, l, e⟩).head? = some 45) = neg := by
      unfold textL
      simp only [h1, if_false]
      cases neg
      · simp only [Bool.false_eq_true, if_false]
        cases l with
        | nil => exact absurd rfl h1
        | cons c t =>
          have : ¬ c = 45 := fun hc => by subst hc; simp at h3; exact absurd h3.1 (by decide)
          simp [minusL, this]
      · simp [minusL]
    have ht := tw_append l (sufL e) h3 (fun c hc => by rw [suf_head e c hc]; decide)
    have hf : fracL (sufL e) = some ([], sufL e) := by
      unfold fracL
      rw [if_neg]
      intro hc
      have := suf_head e _ hc
      exact absurd this (by decide)
    have hb : behindL neg l (sufL e) = some (⟨neg, l, [], m, x⟩, []) := by
      unfold behindL
      simp only [hf, hx]
    have hc : cutL (textL ⟨neg, l, e⟩) = some ⟨neg, l, [], m, x⟩ := by
      unfold cutL
      rw [hm.1, hm.2, ht.1, ht.2, if_neg, hb]
      · simp [wholeL]
      · intro hh
        rcases hh with hh | ⟨_, hh⟩
        · exact h1 hh
        · exact h4 hh
    have ha : allOf ⟨neg, l, [], m, x⟩ = l := by simp [allOf]
    have hu : upOf ⟨neg, l, [], m, x⟩ = l := by rw [upOf, ha, trimRight_id l h5]
    have hd : dgOf ⟨neg, l, [], m, x⟩ = l := by rw [dgOf, hu, trimLeft_id l h4]
    have he : exOf 1131072 ⟨neg, l, [], m, x⟩ = e := by
      unfold exOf expOf
      rw [ha, hu]
      simp only [List.length_nil]
      rw [hv]; omega
    have hval : valueL 1131072 ⟨neg, l, [], m, x⟩ = some ⟨neg, l, e⟩ := by
      unfold valueL
      rw [ha, hd, he, if_neg (by omega), if_neg h1, if_neg (by omega)]
    unfold parseL
    rw [hc]
    simp only [hval]
end Go.Proofs.YtlahlnocjfphjaaGreatDoor

namespace Go.Proofs.YtlahlnocjfphjaaGreatDoor

theorem sg_mul (x y p : Int) (hp : 0 < p) : sg (x * p) (y * p) = sg x y := by
  unfold sg
  by_cases a : x < y
  · rw [if_pos a, if_pos (Int.mul_lt_mul_of_pos_right a hp)]
  · by_cases b : y < x
    · have := Int.mul_lt_mul_of_pos_right b hp
      rw [if_neg a, if_pos b, if_neg (by omega), if_pos this]
    · have : x = y := by omega
      subst this
      simp
theorem sg_neg (x y : Int) : sg (-x) (-y) = sg y x := by
  unfold sg
  by_cases a : y < x
  · rw [if_pos a, if_pos (by omega)]
  · by_cases b : x < y
    · rw [if_neg a, if_pos b, if_neg (by omega), if_pos (by omega)]
    · rw [if_neg a, if_neg b, if_neg (by omega), if_neg (by omega)]
theorem sg_swap (x y : Int) : sg y x = - sg x y := by
  unfold sg
  by_cases a : y < x
  · rw [if_pos a, if_neg (by omega), if_pos a]
  · by_cases b : x < y
    · rw [if_neg a, if_pos b, if_pos b]; rfl
    · rw [if_neg a, if_neg b, if_neg b, if_neg a]; rfl
theorem pow_mono10 {a b : Nat} (h : a ≤ b) : (10 : Int) ^ a ≤ 10 ^ b := by
  obtain ⟨c, rfl⟩ : ∃ c, b = a + c := ⟨b - a, by omega⟩
  rw [Int.pow_add]
  have := Int.mul_le_mul_of_nonneg_left (show (1 : Int) ≤ 10 ^ c from pow_pos10 c) (Int.le_of_lt (pow_pos10 a))
  omega
theorem num_ge {l : List UInt8} (h : l.all isD = true) (h0 : l ≠ []) (hh : l.head? ≠ some 48) : (10 : Int) ^ (l.length - 1) ≤ num l := by
  cases l with
  | nil => exact absurd rfl h0
  | cons c t =>
    simp only [List.all_cons, Bool.and_eq_true] at h
    have c1 := (isD_iff c).1 h.1
    have c2 : c.toNat ≠ 48 := fun e => hh (by simp [← UInt8.toNat_inj, e])
    have := num_nonneg h.2
    have := Int.mul_le_mul_of_nonneg_right (show (1 : Int) ≤ (c.toNat : Int) - 48 by omega) (Int.le_of_lt (pow_pos10 t.length))
    rw [num_cons]
    simp only [List.length_cons, Nat.add_sub_cancel]
    omega
theorem DigOK.end_ {l : List UInt8} (h : DigOK l) : EndOK l := fun c hc e => h.2.2.2.2 (by rw [hc]; simp [← UInt8.toNat_inj, e])
theorem DigOK.pos {l : List UInt8} (h : DigOK l) : 0 < num l := num_pos h.2.2.1 h.end_ h.1
/-- The size of a number, in the least places. -/
def size3 (d : D3) : Int := num d.dg * 10 ^ (d.ex + 1000000).toNat
def V (d : D3) : Int := if d.neg = true then - size3 d else size3 d
def height3 (d : D3) : Int := d.dg.length + d.ex
def sizes3 (a b : D3) : Int := if height3 a = height3 b then Lib.compareBytes a.dg b.dg else sg (height3 a) (height3 b)
theorem size_less {a b : D3} (ha : DigOK a.dg) (hb : DigOK b.dg) (a1 : -1000000 ≤ a.ex) (b1 : -1000000 ≤ b.ex) (h : height3 a < height3 b) : size3 a < size3 b := by
  unfold height3 at h
  unfold size3
  have l1 : 0 < a.dg.length := List.length_pos_iff.2 ha.1
  have l2 : 0 < b.dg.length := List.length_pos_iff.2 hb.1
  have h1 := Int.mul_lt_mul_of_pos_right (num_lt ha.2.2.1) (pow_pos10 (a.ex + 1000000).toNat)
  have h2 := Int.mul_le_mul_of_nonneg_right (num_ge hb.2.2.1 hb.1 hb.2.2.2.1) (Int.le_of_lt (pow_pos10 (b.ex + 1000000).toNat))
  rw [← Int.pow_add] at h1 h2
  have h3 := pow_mono10 (show a.dg.length + (a.ex + 1000000).toNat ≤ b.dg.length - 1 + (b.ex + 1000000).toNat by omega)
  omega
theorem sizes_eq {a b : D3} (ha : DigOK a.dg) (hb : DigOK b.dg) (a1 : -1000000 ≤ a.ex) (b1 : -1000000 ≤ b.ex) : sizes3 a b = sg (size3 a) (size3 b) := by
  unfold sizes3
  by_cases h : height3 a = height3 b
  · rw [if_pos h]
    unfold height3 at h
    obtain ⟨m, hm⟩ : ∃ m, m = max a.dg.length b.dg.length := ⟨_, rfl⟩
    rw [compareB_num a.dg b.dg m ha.2.2.1 hb.2.2.1 ha.end_ hb.end_ (by omega) (by omega)]
    obtain ⟨k, hk⟩ : ∃ k : Nat, (k : Int) = a.dg.length + a.ex + 1000000 - m := ⟨(a.dg.length + a.ex + 1000000 - m).toNat, by omega⟩
    have e1 : size3 a = num a.dg * 10 ^ (m - a.dg.length) * 10 ^ k := by
      unfold size3
      rw [Int.mul_assoc, ← Int.pow_add]; congr 2; omega
    have e2 : size3 b = num b.dg * 10 ^ (m - b.dg.length) * 10 ^ k := by
      unfold size3
      rw [Int.mul_assoc, ← Int.pow_add]; congr 2; omega
    rw [e1, e2, sg_mul _ _ _ (pow_pos10 k)]
  · rw [if_neg h]
    by_cases l : height3 a < height3 b
    · have := size_less ha hb a1 b1 l
      simp [sg, l, this]
    · have l' : height3 b < height3 a := by omega
      have := size_less hb ha b1 a1 l'
      simp [sg, l, l', this, show ¬ size3 a < size3 b by omega]
def sign3 (d : D3) : Int := if d.dg = [] then 0 else if d.neg = true then -1 else 1
theorem size_pos {d : D3} (h : DigOK d.dg) : 0 < size3 d := Int.mul_pos h.pos (pow_pos10 _)
theorem V_zero {d : D3} (h : d.dg = []) : V d = 0 := by
  unfold V size3
  rw [h]
  simp [num, numF]
/-- How numbers stand: by signs, then by sizes. -/
theorem order_V {a b : D3} (ha : Good a) (hb : Good b) : sg (V a) (V b) = if sign3 a = sign3 b then (if a.neg = true then sizes3 b a else if a.dg = [] then 0 else sizes3 a b) else sg (sign3 a) (sign3 b) := by
  rcases ha with ⟨a1, a2, a3⟩ | ⟨a1, a2, a3⟩
  · rw [V_zero a1]
    rcases hb with ⟨b1, b2, b3⟩ | ⟨b1, b2, b3⟩
    · rw [V_zero b1]; simp [sign3, a1, b1, a2, sg]
    · have p := size_pos b1
      have n : b.dg ≠ [] := b1.1
      cases hn : b.neg
      · simp [sign3, a1, n, hn, V, sg, p]
      · simp [sign3, a1, n, hn, V, sg, p, show ¬ size3 b < 0 by omega]
  · have p := size_pos a1
    have n : a.dg ≠ [] := a1.1
    rcases hb with ⟨b1, b2, b3⟩ | ⟨b1, b2, b3⟩
    · rw [V_zero b1]
      cases hn : a.neg
      · simp [sign3, b1, n, hn, V, sg, p, show ¬ size3 a < 0 by omega]
      · simp [sign3, b1, n, hn, V, sg, p]
    · have p' := size_pos b1
      have n' : b.dg ≠ [] := b1.1
      rw [sizes_eq a1 b1 a2 b2, sizes_eq b1 a1 b2 a2]
      cases hn : a.neg <;> cases hn' : b.neg
      · simp [sign3, n, n', hn, hn', V]
      · simp [sign3, n, n', hn, hn', V, sg, show ¬ size3 a < -size3 b by omega, show -size3 b < size3 a by omega]
      · simp [sign3, n, n', hn, hn', V, sg, show -size3 a < size3 b by omega]
      · simp [sign3, n, n', hn, hn', V, sg_neg]
/-- Numbers of one value are the same. -/
theorem V_inj {a b : D3} (ha : Good a) (hb : Good b) (h : V a = V b) : a = b := by
  have key : ∀ {x y : D3}, DigOK x.dg → DigOK y.dg → -1000000 ≤ x.ex → -1000000 ≤ y.ex → size3 x = size3 y → x.dg = y.dg ∧ x.ex = y.ex := by
    intro x y hx hy x1 y1 he
    have h1 := sizes_eq hx hy x1 y1
    have h0 : sg (size3 x) (size3 y) = 0 := by rw [he]; simp [sg]
    rw [h0] at h1
    unfold sizes3 at h1
    by_cases e : height3 x = height3 y
    · rw [if_pos e] at h1
      have : ∀ l m : List UInt8, Lib.compareBytes l m = 0 → l = m := by
        intro l
        induction l with
        | nil => intro m hm; cases m with
          | nil => rfl
          | cons d u => simp [Lib.compareBytes] at hm
        | cons c t ih =>
          intro m hm
          cases m with
          | nil => simp [Lib.compareBytes] at hm
          | cons d u =>
            rw [Lib.compareBytes] at hm
            by_cases l1 : c < d
            · rw [if_pos l1] at hm; exact absurd hm (by decide)
            · by_cases l2 : d < c
              · rw [if_neg l1, if_pos l2] at hm; exact absurd hm (by decide)
              · rw [if_neg l1, if_neg l2] at hm
                have e1 : c.toNat = d.toNat := by
                  have n1 : ¬ c.toNat < d.toNat := fun h => l1 (UInt8.lt_iff_toNat_lt.2 h)
                  have n2 : ¬ d.toNat < c.toNat := fun h => l2 (UInt8.lt_iff_toNat_lt.2 h)
                  omega
                rw [ih u hm, UInt8.toNat_inj.1 e1]
      have hd := this _ _ h1
      unfold height3 at e
      rw [hd] at e
      exact ⟨hd, by omega⟩
    · rw [if_neg e] at h1
      unfold sg at h1
      by_cases l : height3 x < height3 y
      · rw [if_pos l] at h1; exact absurd h1 (by decide)
      · rw [if_neg l, if_pos (by omega)] at h1; exact absurd h1 (by decide)
  obtain ⟨an, al, ae⟩ := a
  obtain ⟨bn, bl, be⟩ := b
  rcases ha with ⟨a1, a2, a3⟩ | ⟨a1, a2, a3⟩
  · simp only at a1 a2 a3
    subst a1; subst a2; subst a3
    rcases hb with ⟨b1, b2, b3⟩ | ⟨b1, b2, b3⟩
    · simp only at b1 b2 b3
      subst b1; subst b2; subst b3; rfl
    · rw [V_zero rfl] at h
      have p := size_pos b1
      unfold V at h
      split at h <;> omega
  · have p := size_pos a1
    rcases hb with ⟨b1, b2, b3⟩ | ⟨b1, b2, b3⟩
    · rw [V_zero b1] at h
      unfold V at h
      split at h <;> omega
    · have p' := size_pos b1
      have e : an = bn ∧ size3 ⟨an, al, ae⟩ = size3 ⟨bn, bl, be⟩ := by
        unfold V at h
        simp only at h
        cases an <;> cases bn
        · simp only [Bool.false_eq_true, if_false] at h; exact ⟨rfl, h⟩
        · simp only [Bool.false_eq_true, if_false, if_true] at h; omega
        · simp only [Bool.false_eq_true, if_false, if_true] at h; omega
        · simp only [if_true] at h; exact ⟨rfl, by omega⟩
      obtain ⟨k1, k2⟩ := key a1 b1 a2 b2 e.2
      simp only at k1 k2
      rw [e.1, k1, k2]

/-! Multiples -/
theorem dvd_two {b q a : Int} (hb : b % 2 = 1) (h : b * q = a * 2) : ∃ r, b * r = a := by
  have hq : q % 2 = 0 := by
    have := congrArg (· % 2) h
    simp only [Int.mul_emod b q, hb, Int.mul_emod_left] at this
    omega
  refine ⟨q / 2, ?_⟩
  have e : q = q / 2 * 2 := by omega
  have : b * (q / 2) * 2 = a * 2 := by rw [Int.mul_assoc, ← e]; exact h
  omega
theorem dvd_five {b q a : Int} (hb : b % 5 ≠ 0) (h : b * q = a * 5) : ∃ r, b * r = a := by
  have hq : q % 5 = 0 := by
    have := congrArg (· % 5) h
    simp only [Int.mul_emod b q, Int.mul_emod_left] at this
    have b1 : b % 5 = 1 ∨ b % 5 = 2 ∨ b % 5 = 3 ∨ b % 5 = 4 := by omega
    rcases b1 with b1 | b1 | b1 | b1 <;> rw [b1] at this <;> omega
  refine ⟨q / 5, ?_⟩
  have e : q = q / 5 * 5 := by omega
  have : b * (q / 5) * 5 = a * 5 := by rw [Int.mul_assoc, ← e]; exact h
  omega
theorem dvd_pow {p : Int} {b : Int} (hp : ∀ q a, b * q = a * p → ∃ r, b * r = a) (n : Nat) : ∀ q a, b * q = a * p ^ n → ∃ r, b * r = a := by
  induction n with
  | zero => intro q a h; exact ⟨q, by simpa using h⟩
  | succ n ih =>
    intro q a h
    rw [Int.pow_succ, ← Int.mul_assoc] at h
    obtain ⟨r, hr⟩ := hp q _ h
    exact ih r a hr
/-- A prime of ten taken out of the divisor as often as the dividend has tens, or as it is there. -/
theorem taken_out {p o B B' A : Int} {k t : Nat} (p0 : p ≠ 0) (hpo : p * o = 10) (hB : B = B' * p ^ k) (hk : k ≤ t)
    (ho : ∀ q a, B' * q = a * o → ∃ r, B' * r = a) (hp : k = t ∨ ∀ q a, B' * q = a * p → ∃ r, B' * r = a) :
    (∃ q, B * q = A * 10 ^ t) ↔ ∃ q, B' * q = A := by
  have e10 : (10 : Int) ^ t = p ^ k * (p ^ (t - k) * o ^ t) := by
    rw [← hpo, Int.mul_pow, ← Int.mul_assoc, ← Int.pow_add]; congr 2; omega
  have pk : p ^ k ≠ 0 := Int.pow_ne_zero p0
  constructor
  · rintro ⟨q, hq⟩
    rw [hB, e10, Int.mul_assoc, Int.mul_comm (p ^ k) q, ← Int.mul_assoc, Int.mul_comm (p ^ k) (p ^ (t - k) * o ^ t), ← Int.mul_assoc] at hq
    have hq := Int.eq_of_mul_eq_mul_right pk hq
    rw [← Int.mul_assoc] at hq
    obtain ⟨r, hr⟩ := dvd_pow ho t _ _ hq
    rcases hp with rfl | hp
    · exact ⟨r, by simpa using hr⟩
    · exact dvd_pow hp _ _ _ hr
  · rintro ⟨q, hq⟩
    refine ⟨q * (p ^ (t - k) * o ^ t), ?_⟩
    rw [hB, e10, ← hq]
    simp only [Int.mul_assoc, Int.mul_left_comm, Int.mul_comm]
end Go.Proofs.YtlahlnocjfphjaaGreatDoor
