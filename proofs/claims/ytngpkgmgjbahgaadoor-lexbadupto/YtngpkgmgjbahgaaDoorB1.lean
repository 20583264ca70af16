/-
  What is bad depends on nothing behind it: plain mathematics of what lex.Next answers. No condition.
-/
import Derived.Test.YtngpkgmgjbahgaaDoorF8
import Derived.Test.YtngpkgmgjbahgaaDoorW1
namespace Go.Proofs.YtngpkgmgjbahgaaDoor
open Go.RowKit

theorem spelled_gt {l : List UInt8} (cs : List UInt8) : ∀ {i n : Nat}, spelledL l i cs = .error n → i < n ∧ n ≤ i + cs.length := by
  induction cs with
  | nil => intro i n h; simp [spelledL] at h
  | cons c cs ih =>
    intro i n h
    simp only [spelledL] at h
    rw [List.length_cons]
    split at h
    · have := ih h; omega
    · have := Except.error.inj h; omega
theorem unitF_gt {l : List UInt8} {low : Bool} (k : Nat) : ∀ {i val n : Nat}, unitF l low k i val = .error n → i < n ∧ n ≤ i + k := by
  induction k with
  | zero => intro i val n h; simp [unitF] at h
  | succ k ih =>
    intro i val n h
    simp only [unitF] at h
    split at h
    · have := ih h; omega
    · have := Except.error.inj h; omega
theorem pair_gt {l : List UInt8} {i high n : Nat} (h : pairL l i high = .error n) : i < n := by
  unfold pairL at h
  cases hs : spelledL l i [92, 117] with
  | error m => rw [hs] at h; have := spelled_gt _ hs; have := Except.error.inj h; omega
  | ok j =>
    rw [hs] at h
    simp only at h
    have hj := (spelledL_le _ hs).1
    cases hu : unitL l true j with
    | error m => rw [hu] at h; have := unitF_gt 4 hu; have := Except.error.inj h; omega
    | ok r => rw [hu] at h; cases h
theorem escL_gt {l : List UInt8} {i n : Nat} (h : escL l i = .error n) : i < n := by
  unfold escL at h
  split at h
  · cases h
  · split at h
    · cases hu : unitL l false (i + 1) with
      | error m => rw [hu] at h; have := unitF_gt 4 hu; have := Except.error.inj h; omega
      | ok r =>
        rw [hu] at h
        simp only [afterU] at h
        have hr := (unitL_le hu).1
        split at h
        · have := pair_gt h; omega
        · cases h
    · have := Except.error.inj h; omega
theorem escL_ok_gt {l : List UInt8} {i p k : Nat} (h : hasAt l i (· == 92) = true) (hx : escL l (i + 1) = .ok (p, k)) : i + 2 ≤ k ∧ k ≤ l.length := by
  have e := escape_of h
  rw [hx] at e
  have := escapeL_le e
  exact ⟨this.1, this.2.1⟩
/-- The rest of a string, by its first byte. -/
theorem textT_err {l : List UInt8} {fr : Nat} {P : Nat → List UInt8 → Prop} {n : Nat}
    (hend : ∀ out, n = l.length + 1 → P l.length out)
    (hlow : ∀ i out, i < l.length → bx l i < 32 → n = i + 1 → P i out)
    (hbad : ∀ i out, i < l.length → bx l i = 92 → escL l (i + 1) = .error n → P i out)
    (hesc : ∀ i out p k, i < l.length → bx l i = 92 → escL l (i + 1) = .ok (p, k) → k < n → P k (out ++ encL p) → P i out)
    (hstop : ∀ i out m, i < l.length → plainB (bx l i) = true → stepL l i = (m, false) → n = i + m + 1 → P i out)
    (hstep : ∀ i out m, i < l.length → plainB (bx l i) = true → stepL l i = (m, true) → i + m < n → P (i + m) (out ++ sub l i (i + m)) → P i out) :
    ∀ (f i : Nat) (out : List UInt8), l.length ≤ i + f → i ≤ l.length → textT l fr i out = .error n → i < n ∧ P i out := by
  intro f
  induction f with
  | zero =>
    intro i out hf hi h
    obtain rfl : i = l.length := by omega
    rw [textT_end] at h
    have := Except.error.inj h
    exact ⟨by omega, hend out this.symm⟩
  | succ f ih =>
    intro i out hf hi h
    by_cases hlt : i < l.length
    · by_cases c34 : bx l i = 34
      · rw [textT_quote hlt c34] at h; cases h
      · by_cases c32 : bx l i < 32
        · rw [textT_low hlt c32] at h
          have := Except.error.inj h
          exact ⟨by omega, hlow i out hlt c32 this.symm⟩
        · by_cases c92 : bx l i = 92
          · have hb : hasAt l i (· == 92) = true := by rw [hasAt_in _ hlt, c92]; rfl
            rw [textT_back hlt c92, escape_of hb] at h
            cases hx : escL l (i + 1) with
            | error m =>
              rw [hx] at h
              have e : m = n := Except.error.inj h
              subst e
              have := escL_gt hx
              exact ⟨by omega, hbad i out hlt c92 hx⟩
            | ok r =>
              obtain ⟨p, k⟩ := r
              rw [hx] at h
              simp only at h
              have hk := escL_ok_gt hb hx
              have r := ih k _ (by omega) hk.2 h
              exact ⟨by omega, hesc i out p k hlt c92 hx r.1 r.2⟩
          · have hp : plainB (bx l i) = true := by
              unfold plainB
              rw [beq_eq_false_iff_ne.2 c34, beq_eq_false_iff_ne.2 c92]
              simp
              omega
            rw [textT_step hlt hp] at h
            cases hst : stepL l i with
            | mk m ok =>
              rw [hst] at h
              simp only at h
              cases ok
              · have := Except.error.inj h
                exact ⟨by omega, hstop i out m hlt hp hst (by omega)⟩
              · rw [if_pos rfl] at h
                have h1 := stepF_pos (l.length - i) (fun j => bx l (i + j)) (by unfold stepL at hst; rw [hst])
                have h2 := stepF_le (l.length - i) (fun j => bx l (i + j)) (by omega)
                unfold stepL at hst
                rw [hst] at h1 h2
                simp only at h1 h2
                have r := ih (i + m) _ (by omega) (by omega) h
                exact ⟨by omega, hstep i out m hlt hp hst r.1 r.2⟩
    · obtain rfl : i = l.length := by omega
      rw [textT_end] at h
      have := Except.error.inj h
      exact ⟨by omega, hend out this.symm⟩
theorem textL_gt {l : List UInt8} {i n : Nat} (hi : i < l.length) (h : textL l i = .error n) : i + 1 < n :=
  (textT_err (P := fun _ _ => True) (fun _ _ => trivial) (fun _ _ _ _ _ => trivial) (fun _ _ _ _ _ => trivial) (fun _ _ _ _ _ _ _ _ _ => trivial) (fun _ _ _ _ _ _ _ => trivial) (fun _ _ _ _ _ _ _ _ => trivial) l.length (i + 1) [] (by omega) (by omega) h).1

theorem spelled_err {l l' : List UInt8} {n : Nat} (h : Agree l l' n) (cs : List UInt8) : ∀ {i : Nat}, spelledL l i cs = .error n → spelledL l' i cs = .error n := by
  induction cs with
  | nil => intro i hk; simp [spelledL] at hk
  | cons c cs ih =>
    intro i hk
    have hl := (spelled_gt (c :: cs) hk).1
    simp only [spelledL] at hk ⊢
    rw [h.has hl]
    split at hk
    · rename_i g
      rw [if_pos g]
      exact ih hk
    · rename_i g
      rw [if_neg g]
      exact hk
theorem unit_err {l l' : List UInt8} {n : Nat} (h : Agree l l' n) (low : Bool) (k : Nat) : ∀ {i val : Nat}, unitF l low k i val = .error n → unitF l' low k i val = .error n := by
  induction k with
  | zero => intro i val hr; exact hr
  | succ k ih =>
    intro i val hr
    have hl := (unitF_gt (k + 1) hr).1
    simp only [unitF] at hr ⊢
    rw [h.has hl, h.bx hl]
    split at hr
    · rename_i g
      rw [if_pos g]
      exact ih hr
    · rename_i g
      rw [if_neg g]
      exact hr
theorem pair_err {l l' : List UInt8} {n : Nat} (h : Agree l l' n) {i high : Nat} (hr : pairL l i high = .error n) : pairL l' i high = .error n := by
  unfold pairL at hr ⊢
  cases hs : spelledL l i [92, 117] with
  | error m =>
    rw [hs] at hr
    have e : m = n := Except.error.inj hr
    subst e
    rw [spelled_err h _ hs]
  | ok j =>
    rw [hs] at hr
    simp only at hr
    cases hu : unitL l true j with
    | error m =>
      rw [hu] at hr
      have e : m = n := Except.error.inj hr
      subst e
      have := (unitF_gt 4 hu).1
      rw [spelled_agree h _ hs (by omega)]
      simp only
      rw [show unitL l' true j = .error m from unit_err h true 4 hu]
    | ok q => rw [hu] at hr; cases hr
theorem escL_err {l l' : List UInt8} {n : Nat} (h : Agree l l' n) {i : Nat} (hr : escL l i = .error n) : escL l' i = .error n := by
  have hi := escL_gt hr
  unfold escL at hr ⊢
  rw [h.has hi, h.has hi, h.bx hi]
  split at hr
  · cases hr
  · rename_i g
    rw [if_neg g]
    split at hr
    · rename_i g2
      rw [if_pos g2]
      cases hu : unitL l false (i + 1) with
      | error m =>
        rw [hu] at hr
        have e : m = n := Except.error.inj hr
        subst e
        rw [show unitL l' false (i + 1) = .error m from unit_err h false 4 hu]
        rfl
      | ok r =>
        rw [hu] at hr
        simp only [afterU] at hr
        split at hr
        · rename_i g3
          have := pair_gt hr
          rw [show unitL l' false (i + 1) = .ok r from unit_agree h false 4 hu (by omega)]
          simp only [afterU]
          rw [if_pos g3]
          exact pair_err h hr
        · cases hr
    · rename_i g2
      rw [if_neg g2]
      exact hr
theorem escL_agree {l l' : List UInt8} {n : Nat} (h : Agree l l' n) {i p k : Nat} (hb : hasAt l i (· == 92) = true) (hr : escL l (i + 1) = .ok (p, k)) (hk : k ≤ n) : escapeL l' i = .ok (encL p, k) := by
  have e := escape_of hb
  rw [hr] at e
  exact escape_agree h e hk

theorem digits_err {l l' : List UInt8} {n : Nat} (h : Agree l l' n) {i : Nat} (hr : digitsL l i = .error n) : digitsL l' i = .error n := by
  have e := digitsL_error hr
  unfold digitsL at hr ⊢
  rw [h.has (by omega)]
  split at hr
  · cases hr
  · rename_i g
    rw [if_neg g]
    exact hr
theorem digits_ok {l l' : List UInt8} {n : Nat} (h : Agree l l' n) {i k : Nat} (hr : digitsL l i = .ok k) (hk : k < n) : digitsL l' i = .ok k := by
  have e := digitsL_le hr
  unfold digitsL at hr ⊢
  rw [h.has (by omega)]
  split at hr
  · rename_i g
    have e2 := Except.ok.inj hr
    rw [if_pos g, pass_agree h digitB (by omega), e2]
  · cases hr
theorem aft_agree {l l' : List UInt8} {n : Nat} (h : Agree l l' n) {i : Nat} (hi : i < n) (p : Int → Bool) : aft l' i p = aft l i p := by
  unfold aft
  rw [h.has hi]
theorem whole_ok {l l' : List UInt8} {n : Nat} (h : Agree l l' n) {i k : Nat} (hr : wholeL l i = .ok k) (hk : k < n) : wholeL l' i = .ok k := by
  have e := wholeL_le hr
  unfold wholeL at hr ⊢
  rw [aft_agree h (by omega)]
  have ha := aft_le l i (· == 45)
  split at hr
  · rename_i g
    have e2 := Except.ok.inj hr
    rw [h.has (by omega), if_pos g, e2]
  · rename_i g
    have e2 := digitsL_le hr
    rw [h.has (by omega), if_neg g]
    exact digits_ok h hr hk
theorem whole_err {l l' : List UInt8} {n : Nat} (h : Agree l l' n) {i : Nat} (hr : wholeL l i = .error n) : wholeL l' i = .error n ∧ i < n := by
  unfold wholeL at hr ⊢
  have ha := aft_le l i (· == 45)
  split at hr
  · cases hr
  · rename_i g
    have e2 := digitsL_error hr
    rw [aft_agree h (by omega), h.has (by omega), if_neg g]
    exact ⟨digits_err h hr, by omega⟩
theorem frac_ok {l l' : List UInt8} {n : Nat} (h : Agree l l' n) {i k : Nat} (hi : i ≤ l.length) (hr : fracPart l (.ok i) = .ok k) (hk : k < n) : fracPart l' (.ok i) = .ok k := by
  have e := fracPart_le hi hr
  simp only [fracPart] at hr ⊢
  rw [h.has (by omega)]
  split at hr
  · rename_i g
    rw [if_pos g]
    exact digits_ok h hr hk
  · rename_i g
    rw [if_neg g]
    exact hr
theorem number_err {l l' : List UInt8} {n : Nat} (h : Agree l l' n) {i : Nat} (hr : numberL l i = .error n) : numberL l' i = .error n ∧ i < n := by
  unfold numberL at hr ⊢
  cases hw : wholeL l i with
  | error a =>
    rw [hw] at hr
    have e : a = n := Except.error.inj hr
    subst e
    have := whole_err h hw
    rw [this.1]
    exact ⟨rfl, this.2⟩
  | ok a =>
    rw [hw] at hr
    have hwl := wholeL_le hw
    cases hf : fracPart l (.ok a) with
    | error b =>
      rw [hf] at hr
      have e : b = n := Except.error.inj hr
      subst e
      simp only [fracPart] at hf
      split at hf
      · rename_i g
        have e2 := digitsL_error hf
        rw [whole_ok h hw (by omega)]
        simp only [fracPart]
        rw [h.has (by omega), if_pos g, digits_err h hf]
        exact ⟨rfl, by omega⟩
      · cases hf
    | ok b =>
      rw [hf] at hr
      have hfl := fracPart_le hwl.2 hf
      simp only [expPart] at hr
      split at hr
      · rename_i g
        have ha := aft_le l (b + 1) (fun c => c == 43 || c == 45)
        have e2 := digitsL_error hr
        rw [whole_ok h hw (by omega), frac_ok h hwl.2 hf (by omega)]
        simp only [expPart]
        rw [h.has (by omega), if_pos g]
        unfold exponentL at hr ⊢
        rw [aft_agree h (by omega)]
        exact ⟨digits_err h hr, by omega⟩
      · cases hr
theorem stepL_good {l l' : List UInt8} {n : Nat} (h : Agree l l' n) {i m : Nat} (hs : stepL l i = (m, true)) (hm : i + m ≤ n) : stepL l' i = (m, true) := by
  unfold stepL at hs ⊢
  have := h.le'
  exact step_good _ _ _ _ m (fun _ => bx_lo _ _) (fun _ => bx_hi _ _) hs (by omega) (fun j hj => h.bx (by omega))
theorem text_err {l l' : List UInt8} {n : Nat} (h : Agree l l' n) {i : Nat} (hi : i < l.length) (hr : textL l i = .error n) : textL l' i = .error n := by
  have hn := h.le
  have hn' := h.le'
  refine (textT_err (l := l) (fr := i) (n := n) (P := fun j out => textT l' i j out = .error n) ?_ ?_ ?_ ?_ ?_ ?_ l.length (i + 1) [] (by omega) (by omega) hr).2
  · intro out e; omega
  · intro j out hj c e
    have hjn : j < n := by omega
    rw [textT_low (by omega) (by rw [h.bx hjn]; exact c), e]
  · intro j out hj c e
    have hg := escL_gt e
    have hjn : j < n := by omega
    have hc' : bx l' j = 92 := by rw [h.bx hjn]; exact c
    rw [textT_back (by omega) hc', escape_of (by rw [hasAt_in _ (by omega), hc']; rfl), escL_err h e]
  · intro j out p k hj c e hk hP
    have hb : hasAt l j (· == 92) = true := by rw [hasAt_in _ hj, c]; rfl
    have hg := escL_ok_gt hb e
    have hjn : j < n := by omega
    have hc' : bx l' j = 92 := by rw [h.bx hjn]; exact c
    show textT l' i j out = .error n
    have hP' : textT l' i k (out ++ encL p) = .error n := hP
    rw [textT_back (by omega) hc', escL_agree h hb e (by omega)]
    simp only
    exact hP'
  · intro j out m hj c e en
    have hjn : j < n := by omega
    have e' : stepL l' j = (m, false) := by
      unfold stepL at e ⊢
      refine step_cut (l.length - j) (l'.length - j) (fun q => bx l (j + q)) (fun q => bx l' (j + q)) m (bx_lo _ _) (bx_hi _ _) e (h.bx (j := j + 0) (by omega)) (fun q hq => h.bx (j := j + q) (by omega)) (by omega) (.inr (.inr ⟨by omega, h.bx (j := j + m) (by omega)⟩))
    show textT l' i j out = .error n
    rw [textT_step (by omega) (by rw [h.bx hjn]; exact c), e']
    simp only [Bool.false_eq_true, if_false]
    rw [en]
  · intro j out m hj c e hk hP
    have hjn : j < n := by omega
    show textT l' i j out = .error n
    rw [textT_step (by omega) (by rw [h.bx hjn]; exact c), stepL_good h e (by omega)]
    simp only [if_true]
    rw [h.sub (by omega)]
    exact hP
theorem stands_err {k : Nat} {l : List UInt8} {i n : Nat} {p : Pl} (h : stands k l i p = .error n) : p = .error n := by
  cases p with
  | error m =>
    have h' : (Except.error m : Tk) = .error n := h
    rw [Except.error.inj h']
  | ok e => cases h
/-- The ways in which what is read at a place is bad. -/
theorem readL_bad {l : List UInt8} {p n : Nat} (hp : p ≤ l.length) (h : readL l p = .error n) : p < l.length ∧ signB (bx l p) = false ∧
    ((bx l p = 110 ∧ spelledL l p [110, 117, 108, 108] = .error n) ∨ (bx l p = 116 ∧ spelledL l p [116, 114, 117, 101] = .error n) ∨ (bx l p = 102 ∧ spelledL l p [102, 97, 108, 115, 101] = .error n) ∨
     ((bx l p = 45 ∨ digitB (bx l p) = true) ∧ numberL l p = .error n) ∨ (bx l p = 34 ∧ textL l p = .error n) ∨
     (bx l p ≠ 110 ∧ bx l p ≠ 116 ∧ bx l p ≠ 102 ∧ bx l p ≠ 45 ∧ digitB (bx l p) = false ∧ bx l p ≠ 34 ∧ n = p + 1)) := by
  unfold readL at h
  split at h
  · cases h
  · rename_i h0
    split at h
    · cases h
    · rename_i hs
      refine ⟨by omega, by simpa using hs, ?_⟩
      split at h
      · rename_i c; exact .inl ⟨c, stands_err h⟩
      · rename_i n1
        split at h
        · rename_i c; exact .inr (.inl ⟨c, stands_err h⟩)
        · rename_i n2
          split at h
          · rename_i c; exact .inr (.inr (.inl ⟨c, stands_err h⟩))
          · rename_i n3
            split at h
            · rename_i c; exact .inr (.inr (.inr (.inl ⟨c, stands_err h⟩)))
            · rename_i n4
              split at h
              · rename_i c; exact .inr (.inr (.inr (.inr (.inl ⟨c, h⟩))))
              · rename_i n5
                have e := Except.error.inj h
                have n6 : ¬ bx l p = 45 := fun c => n4 (.inl c)
                have n7 : digitB (bx l p) = false := by
                  cases hd : digitB (bx l p)
                  · rfl
                  · exact absurd (.inr hd) n4
                exact .inr (.inr (.inr (.inr (.inr ⟨n1, n2, n3, n6, n7, n5, e.symm⟩))))
theorem readL_err {l l' : List UInt8} {n : Nat} (h : Agree l l' n) {p : Nat} (hp : p ≤ l.length) (hr : readL l p = .error n) : readL l' p = .error n ∧ p < n := by
  have hn' := h.le'
  obtain ⟨hlt, hs, hw⟩ := readL_bad hp hr
  have hpn : p < n := by
    rcases hw with ⟨_, w⟩ | ⟨_, w⟩ | ⟨_, w⟩ | ⟨_, w⟩ | ⟨_, w⟩ | w
    · exact (spelled_gt _ w).1
    · exact (spelled_gt _ w).1
    · exact (spelled_gt _ w).1
    · exact (number_err h w).2
    · have := textL_gt hlt w; omega
    · omega
  have hb := h.bx hpn
  have hlt' : p < l'.length := by omega
  have RW := readL_word (l := l') hlt' (by rw [hb]; exact hs)
  rw [hb] at RW
  refine ⟨?_, hpn⟩
  rcases hw with ⟨c, w⟩ | ⟨c, w⟩ | ⟨c, w⟩ | ⟨c, w⟩ | ⟨c, w⟩ | ⟨n1, n2, n3, n4, n5, n6, e⟩
  · rw [RW.1 c, spelled_err h _ w]; rfl
  · rw [RW.2.1 c, spelled_err h _ w]; rfl
  · rw [RW.2.2.1 c, spelled_err h _ w]; rfl
  · rcases c with c | c
    · rw [RW.2.2.2.1 c, (number_err h w).1]; rfl
    · rw [RW.2.2.2.2.1 c, (number_err h w).1]; rfl
  · rw [RW.2.2.2.2.2 c, text_err h hlt w]
  · rw [readL_none hlt' (by rw [hb]; exact hs) (by rw [hb]; exact n1) (by rw [hb]; exact n2) (by rw [hb]; exact n3) (by rw [hb]; exact n4) (by rw [hb]; exact n5) (by rw [hb]; exact n6), e]
/-- What is bad stays so, whatever stands behind the bad beginning. -/
theorem next_err {l : List UInt8} {n : Nat} (hr : nextL l 0 = .error n) (hn : n ≤ l.length) (more : List UInt8) : nextL (l.take n ++ more) 0 = .error n := by
  have h := agree_take l more n hn
  have a := readL_err h (pass_le (Nat.zero_le _)) hr
  unfold nextL
  rw [pass_agree h blankB a.2]
  exact a.1
end Go.Proofs.YtngpkgmgjbahgaaDoor
