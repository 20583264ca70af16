/-
  A number's text is read as the number; what a text is read as may be; numbers compare as their values do. No condition.
-/
import Derived.Test.YtfhapeinfhjihaaGreatDoorL2
namespace Go.Proofs.YtfhapeinfhjihaaGreatDoor

theorem tw_all (l : List UInt8) : (tw l).all isD = true := by
  induction l with
  | nil => rfl
  | cons c t ih =>
    by_cases h : isD c = true
    · simp only [tw, List.takeWhile_cons, h, if_true, List.all_cons, Bool.true_and]; exact ih
    · simp [tw, h]
theorem tw_append (l r : List UInt8) (h : l.all isD = true) (hr : ∀ c, r.head? = some c → isD c = false) : tw (l ++ r) = l ∧ dw (l ++ r) = r := by
  induction l with
  | nil =>
    cases r with
    | nil => exact ⟨rfl, rfl⟩
    | cons c t => have := hr c rfl; simp [tw, dw, this]
  | cons c t ih =>
    simp only [List.all_cons, Bool.and_eq_true] at h
    have := ih h.2
    simp only [List.cons_append, tw, dw, List.takeWhile_cons, List.dropWhile_cons, h.1, if_true]
    exact ⟨by rw [show List.takeWhile isD (t ++ r) = t from this.1], this.2⟩
theorem trimRight_id (l : List UInt8) (h : l.getLast? ≠ some 48) : Lib.trimRightB l 48 = l := by
  unfold Lib.trimRightB
  rw [← List.head?_reverse] at h
  cases e : l.reverse with
  | nil => rw [List.dropWhile_nil]; have := congrArg List.reverse e; simpa using this.symm
  | cons c t =>
    rw [e] at h
    have hc : ¬ c = 48 := by simpa using h
    have : (c == 48) = false := by simpa using hc
    rw [List.dropWhile_cons, this]
    simp only [Bool.false_eq_true, if_false]
    rw [← e, List.reverse_reverse]
theorem trimLeft_id (l : List UInt8) (h : l.head? ≠ some 48) : Lib.trimLeftB l 48 = l := by
  unfold Lib.trimLeftB
  cases l with
  | nil => rfl
  | cons c t =>
    have hc : ¬ c = 48 := by simpa using h
    have : (c == 48) = false := by simpa using hc
    rw [List.dropWhile_cons, this]
    simp
theorem dropWhile_head (l : List UInt8) : (l.dropWhile (· == 48)).head? ≠ some 48 := by
  induction l with
  | nil => simp
  | cons c t ih =>
    by_cases h : c = 48
    · simp [h]; simpa using ih
    · simp [h]
theorem trimRight_last (l : List UInt8) : (Lib.trimRightB l 48).getLast? ≠ some 48 := by
  unfold Lib.trimRightB
  rw [List.getLast?_reverse]
  exact dropWhile_head _
theorem trimLeft_last (l : List UInt8) (h : l.getLast? ≠ some 48) : (Lib.trimLeftB l 48).getLast? ≠ some 48 := by
  unfold Lib.trimLeftB
  induction l with
  | nil => simp
  | cons c t ih =>
    by_cases e : c = 48
    · cases t with
      | nil => subst e; exact absurd rfl h
      | cons d u =>
        have := ih (by simpa using h)
        rw [e, List.dropWhile_cons]; simpa using this
    · rw [List.dropWhile_cons, show (c == 48) = false by simpa using e]; simpa using h
theorem all_dropWhile (l : List UInt8) (p : UInt8 → Bool) (h : l.all isD = true) : (l.dropWhile p).all isD = true := by
  rw [List.all_eq_true] at h ⊢
  intro x hx
  exact h x ((List.dropWhile_sublist p).subset hx)
theorem all_reverse (l : List UInt8) (h : l.all isD = true) : l.reverse.all isD = true := by
  rw [List.all_reverse]; exact h
/-- Parts that are digits. -/
def PD (p : P3) : Prop := p.int.all isD = true ∧ p.frac.all isD = true ∧ p.exp.all isD = true
theorem fracL_pd {l f r : List UInt8} (h : fracL l = some (f, r)) : f.all isD = true := by
  unfold fracL at h
  split at h
  · split at h
    · cases h
    · simp only [Option.some.injEq, Prod.mk.injEq] at h; rw [← h.1]; exact tw_all _
  · simp only [Option.some.injEq, Prod.mk.injEq] at h; rw [← h.1]; rfl
theorem expL_pd {l x r : List UInt8} {m : Bool} (h : expL l = some (m, x, r)) : x.all isD = true := by
  unfold expL at h
  split at h
  · split at h
    · cases h
    · simp only [Option.some.injEq, Prod.mk.injEq] at h; rw [← h.2.1]; exact tw_all _
  · simp only [Option.some.injEq, Prod.mk.injEq] at h; rw [← h.2.1]; rfl
theorem behindL_pd {neg : Bool} {w l r : List UInt8} {p : P3} (hw : w.all isD = true) (h : behindL neg w l = some (p, r)) : PD p := by
  unfold behindL at h
  split at h
  · cases h
  · rename_i f l3 hf
    split at h
    · cases h
    · rename_i m x r' hx
      simp only [Option.some.injEq, Prod.mk.injEq] at h
      rw [← h.1]
      exact ⟨hw, fracL_pd hf, expL_pd hx⟩
theorem cutL_pd {l : List UInt8} {p : P3} (h : cutL l = some p) : PD p := by
  unfold cutL at h
  split at h
  · cases h
  · unfold wholeL at h
    split at h
    · cases h
    · rename_i p' r hb
      split at h
      · cases h; exact behindL_pd (tw_all _) hb
      · cases h
theorem value_good {p : P3} {d : D3} {C : Int} (hp : PD p) (h : valueL C p = some d) : Good d := by
  unfold valueL at h
  split at h
  · cases h
  · rename_i h1
    split at h
    · cases h; exact .inl ⟨rfl, rfl, rfl⟩
    · rename_i h2
      split at h
      · cases h
      · rename_i h3
        cases h
        have ha : (allOf p).all isD = true := by unfold allOf; rw [List.all_append, hp.1, hp.2.1]; rfl
        have hu : (upOf p).all isD = true := all_reverse _ (all_dropWhile _ _ (all_reverse _ ha))
        have l1 : (upOf p).length ≤ (allOf p).length := trimRight_le _ _
        have l2 : (dgOf p).length ≤ (upOf p).length := (List.dropWhile_suffix _).length_le
        refine .inr ⟨⟨h2, by show (dgOf p).length ≤ 65536; omega, all_dropWhile _ _ hu, dropWhile_head _, trimLeft_last _ (trimRight_last _)⟩, ?_, ?_⟩
        · show -1000000 ≤ exOf C p; omega
        · show exOf C p ≤ 1000000; omega
theorem parse_good {l : List UInt8} (h : (parseL l).1 = 0) : Good (parseL l).2 := by
  unfold parseL at h ⊢
  cases hc : cutL l with
  | none => rw [hc] at h; exact absurd h (by decide)
  | some p =>
    rw [hc] at h
    cases hv : valueL 1131072 p with
    | none => simp only [hv] at h; exact absurd h (by decide)
    | some d => simp only [hv]; exact value_good (cutL_pd hc) hv
theorem parse_bad {l : List UInt8} (h : (parseL l).1 ≠ 0) : (parseL l).2 = zeroD := by
  unfold parseL at h ⊢
  cases hc : cutL l with
  | none => rfl
  | some p =>
    rw [hc] at h
    cases hv : valueL 1131072 p with
    | none => simp only [hv]
    | some d => simp only [hv] at h; exact absurd rfl h

theorem decDigits_all (n : Nat) : (Lib.decDigits n).all isD = true ∧ num (Lib.decDigits n) = n ∧ Lib.decDigits n ≠ [] := by
  induction n using Nat.strongRecOn with
  | _ n ih =>
    rw [Lib.decDigits]
    have key : ∀ k, k < 10 → isD (UInt8.ofNat (48 + k)) = true ∧ ((UInt8.ofNat (48 + k)).toNat : Int) - 48 = k := fun k hk => by
      have : (UInt8.ofNat (48 + k)).toNat = 48 + k := by simp; omega
      rw [isD_iff, this]; omega
    by_cases h : n < 10
    · rw [dif_pos h]
      have := key n h
      refine ⟨by rw [List.all_cons, this.1]; rfl, ?_, by simp⟩
      rw [num_cons, this.2]; simp [num, numF]
    · rw [dif_neg h]
      have i := ih (n / 10) (by omega)
      have := key (n % 10) (by omega)
      refine ⟨by rw [List.all_append, i.1, List.all_cons, this.1]; rfl, ?_, by simp⟩
      rw [num_append, i.2.1, num_cons, this.2]
      simp [num, numF]; omega

/-- A number's text. -/
def sufL (e : Int) : List UInt8 := if e = 0 then [] else 101 :: Lib.itoa e
def textL (d : D3) : List UInt8 := if d.dg = [] then [48] else (if d.neg = true then 45 :: d.dg else d.dg) ++ sufL d.ex
theorem suf_head (e : Int) (c : UInt8) (h : (sufL e).head? = some c) : c = 101 := by
  unfold sufL at h
  split at h
  · simp at h
  · simpa using h.symm
theorem suf_exp (e : Int) : ∃ m x, expL (sufL e) = some (m, x, []) ∧ (-1000000 ≤ e → e ≤ 1000000 → (if m = true then -(min (num x) 1131072) else min (num x) 1131072) = e) := by
  unfold sufL
  by_cases h : e = 0
  · rw [if_pos h]
    exact ⟨false, [], rfl, fun _ _ => by rw [h]; decide⟩
  · rw [if_neg h]
    unfold expL
    rw [if_pos (by simp)]
    by_cases hn : e < 0
    · have hs : Lib.itoa e = 45 :: Lib.decDigits e.natAbs := by rw [Lib.itoa, if_pos hn]
      obtain ⟨d1, d2, d3⟩ := decDigits_all e.natAbs
      have e1 : signL (List.tail (101 :: Lib.itoa e)) = Lib.decDigits e.natAbs := by rw [List.tail_cons, hs]; simp [signL]
      have e2 := tw_append (Lib.decDigits e.natAbs) [] d1 (by simp)
      rw [List.append_nil] at e2
      rw [e1, e2.1, e2.2, if_neg d3]
      refine ⟨_, _, rfl, fun _ _ => ?_⟩
      rw [List.tail_cons, hs, d2]
      simp only [List.head?_cons, decide_true, if_true]
      omega
    · have hs : Lib.itoa e = Lib.decDigits e.toNat := by rw [Lib.itoa, if_neg hn]
      obtain ⟨d1, d2, d3⟩ := decDigits_all e.toNat
      have hh : ∀ c, (Lib.decDigits e.toNat).head? = some c → isD c = true := fun c hc => by
        cases hx : Lib.decDigits e.toNat with
        | nil => exact absurd hx d3
        | cons a b =>
          rw [hx] at hc d1
          simp only [List.all_cons, Bool.and_eq_true] at d1
          simp only [List.head?_cons, Option.some.injEq] at hc
          rw [← hc]; exact d1.1
      have n43 : ¬ (Lib.decDigits e.toNat).head? = some 43 := fun hc => absurd (hh _ hc) (by decide)
      have n45 : ¬ (Lib.decDigits e.toNat).head? = some 45 := fun hc => absurd (hh _ hc) (by decide)
      have e1 : signL (List.tail (101 :: Lib.itoa e)) = Lib.decDigits e.toNat := by rw [List.tail_cons, hs]; simp [signL, n43, n45]
      have e2 := tw_append (Lib.decDigits e.toNat) [] d1 (by simp)
      rw [List.append_nil] at e2
      rw [e1, e2.1, e2.2, if_neg d3]
      refine ⟨_, _, rfl, fun _ _ => ?_⟩
      rw [List.tail_cons, hs, d2]
      simp only [n45, decide_false, Bool.false_eq_true, if_false]
      omega
theorem parse_text (d : D3) (h : Good d) : parseL (textL d) = (0, d) := by
  obtain ⟨neg, l, e⟩ := d
  rcases h with ⟨h1, h2, h3⟩ | ⟨⟨h1, h2, h3, h4, h5⟩, h6, h7⟩
  · simp only at h1 h2 h3
    subst h1; subst h2; subst h3
    rfl
  · simp only at h1 h2 h3 h4 h5 h6 h7
    obtain ⟨m, x, hx, hv⟩ := suf_exp e
    have hv := hv h6 h7
    have hm : minusL (textL ⟨neg, l, e⟩) = l ++ sufL e ∧ decide ((textL ⟨neg, l, e⟩).head? = some 45) = neg := by
      unfold textL
      simp only [h1, if_false]
      cases neg
      · simp only [Bool.false_eq_true, if_false]
        cases l with
        | nil => exact absurd rfl h1
        | cons c t =>
          have : ¬ c = 45 := fun hc => by subst hc; simp at h3; exact absurd h3.1 (by decide)
          simp [minusL, this]
      · simp [minusL]
    have ht := tw_append l (sufL e) h3 (fun c hc => by rw [suf_head e c hc]; decide)
    have hf : fracL (sufL e) = some ([], sufL e) := by
      unfold fracL
      rw [if_neg]
      intro hc
      have := suf_head e _ hc
      exact absurd this (by decide)
    have hb : behindL neg l (sufL e) = some (⟨neg, l, [], m, x⟩, []) := by
      unfold behindL
      simp only [hf, hx]
    have hc : cutL (textL ⟨neg, l, e⟩) = some ⟨neg, l, [], m, x⟩ := by
      unfold cutL
      rw [hm.1, hm.2, ht.1, ht.2, if_neg, hb]
      · simp [wholeL]
      · intro hh
        rcases hh with hh | ⟨_, hh⟩
        · exact h1 hh
        · exact h4 hh
    have ha : allOf ⟨neg, l, [], m, x⟩ = l := by simp [allOf]
    have hu : upOf ⟨neg, l, [], m, x⟩ = l := by rw [upOf, ha, trimRight_id l h5]
    have hd : dgOf ⟨neg, l, [], m, x⟩ = l := by rw [dgOf, hu, trimLeft_id l h4]
    have he : exOf 1131072 ⟨neg, l, [], m, x⟩ = e := by
      unfold exOf expOf
      rw [ha, hu]
      simp only [List.length_nil]
      rw [hv]; omega
    have hval : valueL 1131072 ⟨neg, l, [], m, x⟩ = some ⟨neg, l, e⟩ := by
      unfold valueL
      rw [ha, hd, he, if_neg (by omega), if_neg h1, if_neg (by omega)]
    unfold parseL
    rw [hc]
    simp only [hval]
end Go.Proofs.YtfhapeinfhjihaaGreatDoor
