/-
  A token depends on nothing behind it: plain mathematics of what lex.Next answers. No condition.
  A token's text is no longer than where it ends. No condition.
  Plain mathematics: a whole step of UTF-8, and what the model's own decoding of a text makes of it. No condition but that the bytes are those of the text.
-/
import Derived.Test.YtlahlnocjfphjaaGreatDoorJoined33
import Derived.Test.YtlahlnocjfphjaaGreatDoorJoined6
namespace Go.Proofs.YtlahlnocjfphjaaGreatDoor.Lx
open Go.RowKit

/-- Two rows of bytes that agree up to a place. -/
structure Agree (l l' : List UInt8) (n : Nat) : Prop where
  le : n ≤ l.length
  le' : n ≤ l'.length
  at_ : ∀ j, j < n → l[j]? = l'[j]?
theorem Agree.mono {l l' : List UInt8} {n m : Nat} (h : Agree l l' n) (hm : m ≤ n) : Agree l l' m := ⟨by have := h.le; omega, by have := h.le'; omega, fun j hj => h.at_ j (by omega)⟩
theorem Agree.bx {l l' : List UInt8} {n : Nat} (h : Agree l l' n) {j : Nat} (hj : j < n) : bx l' j = bx l j := by
  unfold Go.Proofs.YtlahlnocjfphjaaGreatDoor.Lx.bx; rw [h.at_ j hj]
theorem Agree.has {l l' : List UInt8} {n : Nat} (h : Agree l l' n) {j : Nat} (hj : j < n) (p : Int → Bool) : hasAt l' j p = hasAt l j p := by
  have := h.le; have := h.le'
  rw [hasAt_in p (by omega), hasAt_in p (by omega), h.bx hj]
theorem Agree.sub {l l' : List UInt8} {n : Nat} (h : Agree l l' n) {a e : Nat} (he : e ≤ n) : sub l' a e = sub l a e := by
  unfold Go.Proofs.YtlahlnocjfphjaaGreatDoor.Lx.sub
  apply List.ext_getElem?
  intro i
  by_cases hi : i < e - a
  · rw [List.getElem?_take_of_lt hi, List.getElem?_take_of_lt hi, List.getElem?_drop, List.getElem?_drop, h.at_ (a + i) (by omega)]
  · rw [List.getElem?_eq_none (by simp; omega), List.getElem?_eq_none (by simp; omega)]
theorem agree_take (l more : List UInt8) (n : Nat) (hn : n ≤ l.length) : Agree l (l.take n ++ more) n :=
  ⟨hn, by simp; omega, fun j hj => by rw [List.getElem?_append_left (by simp; omega), List.getElem?_take_of_lt hj]⟩

theorem passL_agree {l l' : List UInt8} {n : Nat} (h : Agree l l' n) (p : Int → Bool) (k : Nat) : ∀ i k', passL l p k i < n → l.length ≤ i + k → l'.length ≤ i + k' → passL l' p k' i = passL l p k i := by
  induction k with
  | zero =>
    intro i k' hlt h1 h2
    simp only [passL] at hlt
    have := h.le
    omega
  | succ k ih =>
    intro i k' hlt h1 h2
    have hle := (passL_le l p (k + 1) i).1
    have hin : i < n := by omega
    have e := h.has hin p
    simp only [passL] at hlt ⊢
    cases k' with
    | zero => have := h.le'; omega
    | succ k' =>
      simp only [passL]
      rw [e]
      split at hlt
      · rename_i g
        rw [if_pos g, if_pos g]
        exact ih (i + 1) k' hlt (by omega) (by omega)
      · rename_i g
        rw [if_neg g, if_neg g]
theorem pass_agree {l l' : List UInt8} {n : Nat} (h : Agree l l' n) (p : Int → Bool) {i : Nat} (hi : pass l p i < n) : pass l' p i = pass l p i :=
  passL_agree h p _ i _ hi (by omega) (by omega)
theorem spelled_agree {l l' : List UInt8} {n : Nat} (h : Agree l l' n) (cs : List UInt8) : ∀ {i k : Nat}, spelledL l i cs = .ok k → k ≤ n → spelledL l' i cs = .ok k := by
  induction cs with
  | nil => intro i k hk _; exact hk
  | cons c cs ih =>
    intro i k hk hn
    have hl := (spelledL_le (c :: cs) hk).1
    simp only [spelledL] at hk ⊢
    rw [h.has (by simp at hl; omega)]
    split at hk
    · rename_i g
      rw [if_pos g]
      exact ih hk hn
    · cases hk
theorem unit_agree {l l' : List UInt8} {n : Nat} (h : Agree l l' n) (low : Bool) (k : Nat) : ∀ {i val : Nat} {r : Nat × Nat}, unitF l low k i val = .ok r → r.2 ≤ n → unitF l' low k i val = .ok r := by
  induction k with
  | zero => intro i val r hr _; exact hr
  | succ k ih =>
    intro i val r hr hn
    have hl := (unitF_le (k + 1) hr).1
    simp only [unitF] at hr ⊢
    rw [h.has (by omega), h.bx (by omega)]
    split at hr
    · rename_i g
      rw [if_pos g]
      exact ih hr hn
    · cases hr
theorem pair_agree {l l' : List UInt8} {n : Nat} (h : Agree l l' n) {i high : Nat} {r : Nat × Nat} (hr : pairL l i high = .ok r) (hn : r.2 ≤ n) : pairL l' i high = .ok r := by
  unfold pairL at hr ⊢
  cases hs : spelledL l i [92, 117] with
  | error m => rw [hs] at hr; cases hr
  | ok j =>
    rw [hs] at hr
    simp only at hr
    cases hu : unitL l true j with
    | error m => rw [hu] at hr; cases hr
    | ok q =>
      rw [hu] at hr
      have hq := unitL_le hu
      have e : r.2 = q.2 := by rw [← Except.ok.inj hr]
      rw [spelled_agree h _ hs (by omega)]
      simp only
      rw [show unitL l' true j = .ok q from unit_agree h true 4 hu (by omega)]
      exact hr
theorem point_agree {l l' : List UInt8} {n : Nat} (h : Agree l l' n) {i : Nat} {r : List UInt8 × Nat} (hr : pointL l i = .ok r) (hn : r.2 ≤ n) : pointL l' i = .ok r := by
  unfold pointL at hr ⊢
  cases hu : unitL l false i with
  | error m => rw [hu] at hr; cases hr
  | ok q =>
    rw [hu] at hr
    simp only at hr
    have hq := unitL_le hu
    by_cases g : 55296 ≤ q.1 ∧ q.1 ≤ 56319
    · rw [if_pos g] at hr
      cases hp : pairL l q.2 q.1 with
      | error m => rw [hp] at hr; cases hr
      | ok s =>
        rw [hp] at hr
        have e : r.2 = s.2 := by rw [← Except.ok.inj hr]
        have hs := pairL_le hp g.1 g.2
        rw [show unitL l' false i = .ok q from unit_agree h false 4 hu (by omega)]
        simp only
        rw [if_pos g, pair_agree h hp (by omega)]
        exact hr
    · rw [if_neg g] at hr
      have e : r.2 = q.2 := by rw [← Except.ok.inj hr]
      rw [show unitL l' false i = .ok q from unit_agree h false 4 hu (by omega)]
      simp only
      rw [if_neg g]
      exact hr
theorem escape_agree {l l' : List UInt8} {n : Nat} (h : Agree l l' n) {i : Nat} {r : List UInt8 × Nat} (hr : escapeL l i = .ok r) (hn : r.2 ≤ n) : escapeL l' i = .ok r := by
  have hl := (escapeL_le (t := r.1) (k := r.2) hr).1
  unfold escapeL at hr ⊢
  rw [h.has (by omega)]
  by_cases g : hasAt l i (fun x => x == 92) = true
  · rw [if_pos g] at hr ⊢
    rw [h.has (by omega)]
    by_cases g2 : hasAt l (i + 1) (fun x => x == 117) = true
    · rw [if_pos g2] at hr ⊢
      exact point_agree h hr hn
    · rw [if_neg g2] at hr ⊢
      rw [h.has (by omega), h.bx (by omega)]
      exact hr
  · rw [if_neg g] at hr; cases hr
theorem textF_gt {l : List UInt8} {fr : Nat} (f : Nat) : ∀ {i : Nat} {out : List UInt8} {t : Tok}, textF l fr f i out = .ok t → i < t.to ∧ t.fr = fr ∧ t.kind = 1 ∧ t.to ≤ l.length := by
  induction f with
  | zero => intro i out t h; cases h
  | succ f ih =>
    intro i out t h
    simp only [textF] at h
    cases hp : plainL l i with
    | error m => rw [hp] at h; cases h
    | ok e =>
      rw [hp] at h
      simp only at h
      have he := (plainL_le hp).2.1
      by_cases g : hasAt l e (fun x => x == 34) = true
      · rw [if_pos g] at h
        have := hasAt_lt g
        have h' := Except.ok.inj h
        subst h'
        exact ⟨by show i < e + 1; omega, rfl, rfl, this⟩
      · rw [if_neg g] at h
        cases hx : escapeL l e with
        | error m => rw [hx] at h; cases h
        | ok r =>
          rw [hx] at h
          have a := ih h
          have b := (escapeL_le (t := r.1) (k := r.2) hx).1
          exact ⟨by omega, a.2⟩
theorem textF_agree {l l' : List UInt8} {n : Nat} (h : Agree l l' n) {fr : Nat} (f : Nat) : ∀ {i f' : Nat} {out : List UInt8} {t : Tok}, textF l fr f i out = .ok t → t.to ≤ n → l'.length < i + f' → textF l' fr f' i out = .ok t := by
  induction f with
  | zero => intro i f' out t ht; cases ht
  | succ f ih =>
    intro i f' out t ht hn hf
    have hgt := (textF_gt (f + 1) ht).1
    have := h.le'
    obtain ⟨f', rfl⟩ : ∃ g, f' = g + 1 := ⟨f' - 1, by omega⟩
    simp only [textF] at ht ⊢
    cases hp : plainL l i with
    | error m => rw [hp] at ht; cases ht
    | ok e =>
      rw [hp] at ht
      simp only at ht
      have hpe := (plainL_le hp).1
      have hie := (plainL_le hp).2.1
      have key : e < n → plainL l' i = .ok e := fun hen => by
        unfold plainL at hp ⊢
        rw [← hpe] at hp
        rw [pass_agree h plainB (by omega), ← hpe, h.sub (by omega)]
        exact hp
      by_cases g : hasAt l e (fun x => x == 34) = true
      · rw [if_pos g] at ht
        have h' := Except.ok.inj ht
        have e1 : t.to = e + 1 := by rw [← h']
        rw [key (by omega)]
        simp only
        rw [h.has (by omega), if_pos g, h.sub (by omega)]
        exact ht
      · rw [if_neg g] at ht
        cases hx : escapeL l e with
        | error m => rw [hx] at ht; cases ht
        | ok r =>
          rw [hx] at ht
          have a := (textF_gt f ht).1
          have b := (escapeL_le (t := r.1) (k := r.2) hx).1
          rw [key (by omega)]
          simp only
          rw [h.has (by omega), if_neg g, escape_agree h hx (by omega), h.sub (by omega)]
          exact ih ht hn (by omega)

theorem stands_ok {k : Nat} {l : List UInt8} {i : Nat} {p : Pl} {t : Tok} (h : stands k l i p = .ok t) : ∃ e, p = .ok e ∧ t = ⟨k, sub l i e, i, e⟩ := by
  cases p with
  | error n => cases h
  | ok e => exact ⟨e, rfl, (Except.ok.inj h).symm⟩
theorem spelled_pos {l : List UInt8} {c : UInt8} {cs : List UInt8} {i e : Nat} (h : spelledL l i (c :: cs) = .ok e) : i < e := by
  have := (spelledL_le _ h).1
  simp at this; omega
/-- What a token that is read ends with. -/
theorem readL_le {l : List UInt8} {i : Nat} {t : Tok} (hi : i ≤ l.length) (h : readL l i = .ok t) : (t.kind = 0 ∧ i = l.length) ∨ (i < t.to ∧ t.to ≤ l.length) := by
  unfold readL at h
  by_cases h0 : i = l.length
  · rw [if_pos h0] at h
    have := Except.ok.inj h
    subst this
    exact .inl ⟨rfl, h0⟩
  · rw [if_neg h0] at h
    refine .inr ?_
    by_cases h1 : signB (bx l i) = true
    · rw [if_pos h1] at h
      have := Except.ok.inj h
      subst this
      exact ⟨by show i < i + 1; omega, by show i + 1 ≤ _; omega⟩
    · rw [if_neg h1] at h
      by_cases h2 : bx l i = 110
      · rw [if_pos h2] at h
        obtain ⟨e, he, rfl⟩ := stands_ok h
        exact ⟨spelled_pos he, (spelledL_le _ he).2 hi⟩
      · rw [if_neg h2] at h
        by_cases h3 : bx l i = 116
        · rw [if_pos h3] at h
          obtain ⟨e, he, rfl⟩ := stands_ok h
          exact ⟨spelled_pos he, (spelledL_le _ he).2 hi⟩
        · rw [if_neg h3] at h
          by_cases h4 : bx l i = 102
          · rw [if_pos h4] at h
            obtain ⟨e, he, rfl⟩ := stands_ok h
            exact ⟨spelled_pos he, (spelledL_le _ he).2 hi⟩
          · rw [if_neg h4] at h
            by_cases h5 : bx l i = 45 ∨ digitB (bx l i) = true
            · rw [if_pos h5] at h
              obtain ⟨e, he, rfl⟩ := stands_ok h
              exact numberL_le he
            · rw [if_neg h5] at h
              by_cases h6 : bx l i = 34
              · rw [if_pos h6] at h
                have := textF_gt _ h
                exact ⟨by omega, this.2.2.2⟩
              · rw [if_neg h6] at h; cases h
/-- A token depends on nothing behind it, unless it is a number or the end. -/
theorem read_agree {l l' : List UInt8} {n : Nat} (h : Agree l l' n) {i : Nat} {t : Tok} (hi : i ≤ l.length) (hr : readL l i = .ok t) (hn : t.to ≤ n) (h0 : t.kind ≠ 0) (h2 : t.kind ≠ 2) : readL l' i = .ok t := by
  have hl : i < t.to := by
    rcases readL_le hi hr with g | g
    · exact absurd g.1 h0
    · exact g.1
  have a1 := h.le
  have a2 := h.le'
  unfold readL at hr ⊢
  rw [if_neg (by omega)] at hr ⊢
  rw [h.bx (by omega)]
  by_cases h1 : signB (bx l i) = true
  · rw [if_pos h1] at hr ⊢
    have e := Except.ok.inj hr
    have e2 : t.to = i + 1 := by rw [← e]
    rw [h.sub (by omega)]; exact hr
  · rw [if_neg h1] at hr ⊢
    by_cases g2 : bx l i = 110
    · rw [if_pos g2] at hr ⊢
      obtain ⟨e, he, rfl⟩ := stands_ok hr
      rw [spelled_agree h _ he hn]
      simp only [stands]
      rw [h.sub hn]
    · rw [if_neg g2] at hr ⊢
      by_cases g3 : bx l i = 116
      · rw [if_pos g3] at hr ⊢
        obtain ⟨e, he, rfl⟩ := stands_ok hr
        rw [spelled_agree h _ he hn]
        simp only [stands]
        rw [h.sub hn]
      · rw [if_neg g3] at hr ⊢
        by_cases g4 : bx l i = 102
        · rw [if_pos g4] at hr ⊢
          obtain ⟨e, he, rfl⟩ := stands_ok hr
          rw [spelled_agree h _ he hn]
          simp only [stands]
          rw [h.sub hn]
        · rw [if_neg g4] at hr ⊢
          by_cases g5 : bx l i = 45 ∨ digitB (bx l i) = true
          · rw [if_pos g5] at hr
            obtain ⟨e, he, rfl⟩ := stands_ok hr
            exact absurd rfl h2
          · rw [if_neg g5] at hr ⊢
            by_cases g6 : bx l i = 34
            · rw [if_pos g6] at hr ⊢
              exact textF_agree h _ hr hn (by omega)
            · rw [if_neg g6] at hr; cases hr
theorem read_fr {l : List UInt8} {i : Nat} {t : Tok} (hr : readL l i = .ok t) : t.fr = i := by
  unfold readL at hr
  by_cases h0 : i = l.length
  · rw [if_pos h0] at hr; rw [← Except.ok.inj hr]
  · rw [if_neg h0] at hr
    by_cases h1 : signB (bx l i) = true
    · rw [if_pos h1] at hr; rw [← Except.ok.inj hr]
    · rw [if_neg h1] at hr
      by_cases g2 : bx l i = 110
      · rw [if_pos g2] at hr
        obtain ⟨e, he, rfl⟩ := stands_ok hr
        rfl
      · rw [if_neg g2] at hr
        by_cases g3 : bx l i = 116
        · rw [if_pos g3] at hr
          obtain ⟨e, he, rfl⟩ := stands_ok hr
          rfl
        · rw [if_neg g3] at hr
          by_cases g4 : bx l i = 102
          · rw [if_pos g4] at hr
            obtain ⟨e, he, rfl⟩ := stands_ok hr
            rfl
          · rw [if_neg g4] at hr
            by_cases g5 : bx l i = 45 ∨ digitB (bx l i) = true
            · rw [if_pos g5] at hr
              obtain ⟨e, he, rfl⟩ := stands_ok hr
              rfl
            · rw [if_neg g5] at hr
              by_cases g6 : bx l i = 34
              · rw [if_pos g6] at hr
                exact (textF_gt _ hr).2.1
              · rw [if_neg g6] at hr; cases hr
/-- LexEnds, of lists. -/
theorem next_ends {l : List UInt8} (more : List UInt8) {t : Tok} (hr : nextL l 0 = .ok t) (h0 : t.kind ≠ 0) (h2 : t.kind ≠ 2) : 0 < t.to ∧ t.to ≤ l.length ∧ nextL (l.take t.to ++ more) 0 = .ok t := by
  unfold nextL at hr ⊢
  have hp := pass_le (l := l) (p := blankB) (i := 0) (Nat.zero_le _)
  have hl : pass l blankB 0 < t.to ∧ t.to ≤ l.length := by
    rcases readL_le hp hr with g | g
    · exact absurd g.1 h0
    · exact g
  have ha := agree_take l more t.to hl.2
  rw [pass_agree ha blankB hl.1]
  exact ⟨by omega, hl.2, read_agree ha hp hr (Nat.le_refl _) h0 h2⟩
end Go.Proofs.YtlahlnocjfphjaaGreatDoor.Lx

namespace Go.Proofs.YtlahlnocjfphjaaGreatDoor.Lx

theorem textF_len {l : List UInt8} {fr : Nat} (f : Nat) : ∀ {i : Nat} {out : List UInt8} {t : Tok}, textF l fr f i out = .ok t → out.length ≤ i → i ≤ l.length → t.text.length ≤ t.to := by
  induction f with
  | zero => intro i out t h _ _; simp [textF] at h
  | succ f ih =>
    intro i out t h ho hi
    rw [textF] at h
    cases e : plainL l i with
    | error n => rw [e] at h; cases h
    | ok e' =>
      rw [e] at h
      simp only at h
      obtain ⟨_, p1, p2⟩ := plainL_le e
      have hs : (sub l i e').length = e' - i := sub_length p1 (p2 hi)
      split at h
      · have := Except.ok.inj h
        subst this
        show (out ++ sub l i e').length ≤ e' + 1
        rw [List.length_append, hs]; omega
      · cases e2 : escapeL l e' with
        | error n => rw [e2] at h; cases h
        | ok r =>
          obtain ⟨tb, k⟩ := r
          rw [e2] at h
          simp only at h
          obtain ⟨q1, q2, q3⟩ := escapeL_le e2
          refine ih h ?_ q2
          rw [List.length_append, List.length_append, hs]; omega
theorem readL_text {l : List UInt8} {i : Nat} {t : Tok} (hi : i ≤ l.length) (h : readL l i = .ok t) : t.text.length ≤ l.length := by
  have hle := readL_le hi h
  have sb : ∀ a e, (sub l a e).length ≤ l.length := fun a e => by unfold sub; rw [List.length_take, List.length_drop]; omega
  unfold readL at h
  by_cases h0 : i = l.length
  · rw [if_pos h0] at h
    have := Except.ok.inj h
    subst this
    exact Nat.zero_le _
  · rw [if_neg h0] at h
    by_cases h1 : signB (bx l i) = true
    · rw [if_pos h1] at h
      have := Except.ok.inj h
      subst this
      exact sb _ _
    · rw [if_neg h1] at h
      by_cases h2 : bx l i = 110
      · rw [if_pos h2] at h
        obtain ⟨e, he, rfl⟩ := stands_ok h
        exact sb _ _
      · rw [if_neg h2] at h
        by_cases h3 : bx l i = 116
        · rw [if_pos h3] at h
          obtain ⟨e, he, rfl⟩ := stands_ok h
          exact sb _ _
        · rw [if_neg h3] at h
          by_cases h4 : bx l i = 102
          · rw [if_pos h4] at h
            obtain ⟨e, he, rfl⟩ := stands_ok h
            exact sb _ _
          · rw [if_neg h4] at h
            by_cases h5 : bx l i = 45 ∨ digitB (bx l i) = true
            · rw [if_pos h5] at h
              obtain ⟨e, he, rfl⟩ := stands_ok h
              exact sb _ _
            · rw [if_neg h5] at h
              by_cases h6 : bx l i = 34
              · rw [if_pos h6] at h
                have h7 := textF_gt _ h
                have h8 := textF_len _ h (by simp) (by omega)
                omega
              · rw [if_neg h6] at h; cases h
end Go.Proofs.YtlahlnocjfphjaaGreatDoor.Lx

namespace Go.Proofs.YtlahlnocjfphjaaGreatDoor.Lx
open Go.RowKit
set_option linter.unusedSimpArgs false
set_option linter.unusedVariables false

/-- The code point of n bytes. -/
def ptF (g : Nat → Int) (n : Nat) : Int :=
  if n = 1 then g 0 else if n = 2 then (g 0 % 32) * 64 + g 1 % 64 else if n = 3 then (g 0 % 16) * 4096 + (g 1 % 64) * 64 + g 2 % 64
  else (g 0 % 8) * 262144 + (g 1 % 64) * 4096 + (g 2 % 64) * 64 + g 3 % 64

/-- The whole steps, one by one. -/
theorem stepF_true (r : Nat) (g : Nat → Int) (n : Nat) (h : stepF r g = (n, true)) :
    (n = 1 ∧ stN (g 0) = 1) ∨ (n = 2 ∧ stN (g 0) = 2 ∧ 1 < r ∧ secB (g 0) (g 1) = true) ∨ (n = 3 ∧ stN (g 0) = 3 ∧ 2 < r ∧ secB (g 0) (g 1) = true ∧ folB (g 2) = true) ∨
    (n = 4 ∧ stN (g 0) ≠ 0 ∧ stN (g 0) ≠ 1 ∧ stN (g 0) ≠ 2 ∧ stN (g 0) ≠ 3 ∧ 3 < r ∧ secB (g 0) (g 1) = true ∧ folB (g 2) = true ∧ folB (g 3) = true) := by
  unfold stepF at h
  repeat' split at h
  all_goals simp only [Prod.mk.injEq, Bool.false_eq_true, and_false, and_true] at h
  · exact .inl ⟨h.symm, ‹_›⟩
  · exact .inr (.inl ⟨h.symm, ‹_›, by omega, by simp_all⟩)
  · exact .inr (.inr (.inl ⟨h.symm, ‹_›, by omega, by simp_all, by simp_all⟩))
  · exact .inr (.inr (.inr ⟨h.symm, ‹_›, ‹_›, ‹_›, ‹_›, by omega, by simp_all, by simp_all, by simp_all⟩))

theorem stN_one (c : Int) (e : stN c = 1) : c < 128 := by
  unfold stN at e; repeat' split at e
  all_goals omega
theorem stN_four' (c : Int) (a : stN c ≠ 0) (b : stN c ≠ 1) (d : stN c ≠ 2) (e : stN c ≠ 3) : 240 ≤ c ∧ c ≤ 244 := by
  unfold stN at *; repeat' split at a
  all_goals omega

/-- What the bytes of a whole step are. -/
theorem step_bytes (r : Nat) (g : Nat → Int) (n : Nat) (h : stepF r g = (n, true)) :
    (n = 1 ∧ g 0 < 128) ∨ (n = 2 ∧ 1 < r ∧ 194 ≤ g 0 ∧ g 0 ≤ 223 ∧ 128 ≤ g 1 ∧ g 1 ≤ 191) ∨
    (n = 3 ∧ 2 < r ∧ 224 ≤ g 0 ∧ g 0 ≤ 239 ∧ 128 ≤ g 1 ∧ g 1 ≤ 191 ∧ (g 0 = 224 → 160 ≤ g 1) ∧ (g 0 = 237 → g 1 ≤ 159) ∧ 128 ≤ g 2 ∧ g 2 ≤ 191) ∨
    (n = 4 ∧ 3 < r ∧ 240 ≤ g 0 ∧ g 0 ≤ 244 ∧ 128 ≤ g 1 ∧ g 1 ≤ 191 ∧ (g 0 = 240 → 144 ≤ g 1) ∧ (g 0 = 244 → g 1 ≤ 143) ∧ 128 ≤ g 2 ∧ g 2 ≤ 191 ∧ 128 ≤ g 3 ∧ g 3 ≤ 191) := by
  rcases stepF_true r g n h with ⟨e, a⟩ | ⟨e, a, l, s⟩ | ⟨e, a, l, s, t⟩ | ⟨e, a0, a1, a2, a3, l, s, t, u⟩
  · exact .inl ⟨e, stN_one _ a⟩
  · have b := stN_two _ a
    have f := secB_fol _ _ s
    rw [folB_iff] at f
    exact .inr (.inl ⟨e, l, b.1, b.2, f.1, f.2⟩)
  · have b := stN_three _ a
    have f := secB_fol _ _ s
    rw [folB_iff] at f t
    rw [secB_iff] at s
    refine .inr (.inr (.inl ⟨e, l, b.1, b.2, f.1, f.2, fun k => ?_, fun k => ?_, t.1, t.2⟩))
    · rw [if_pos k] at s; exact s.1
    · rw [if_pos (c := g 0 = 237) k] at s; exact s.2
  · have b := stN_four' _ a0 a1 a2 a3
    have f := secB_fol _ _ s
    rw [folB_iff] at f t u
    rw [secB_iff] at s
    refine .inr (.inr (.inr ⟨e, l, b.1, b.2, f.1, f.2, fun k => ?_, fun k => ?_, t.1, t.2, u.1, u.2⟩))
    · rw [if_neg (by omega), if_pos (c := g 0 = 240) k] at s; exact s.1
    · rw [if_neg (c := g 0 = 237) (by omega), if_pos (c := g 0 = 244) k] at s; exact s.2

theorem decode_step (s : ByteArray) (p r n : Nat) (g : Nat → Int) (hs : ∀ i, i < r → ((s.get! (p + i)).toNat : Int) = g i) (hl : s.size = p + r) (h0 : 0 < r) (h : stepF r g = (n, true)) :
    Utf8.decode s p = ((ptF g n).toNat, n) := by
  have e0 := hs 0 h0
  have e0s : ((s.get! p).toNat : Int) = g 0 := e0
  rcases step_bytes r g n h with ⟨rfl, a⟩ | ⟨rfl, l, a⟩ | ⟨rfl, l, a⟩ | ⟨rfl, l, a⟩
  · have c : (s.get! (p + 0)).toNat < 128 := by omega
    simp only [Utf8.decode, c, if_true, ptF]
    rw [← e0]; simp
  · have e1 := hs 1 (by omega)
    unfold Utf8.decode
    simp only []
    rw [if_neg (by omega), if_pos (by simp; omega), if_pos (by omega)]
    simp only [ptF]
    rw [Prod.mk.injEq]; refine ⟨?_, rfl⟩
    simp; omega
  · have e1 := hs 1 (by omega)
    have e2 := hs 2 (by omega)
    unfold Utf8.decode
    simp only []
    rw [if_neg (by omega), if_neg (by simp; omega), if_pos (by simp; omega), if_pos (by simp [Utf8.valid]; omega)]
    simp only [ptF]
    rw [Prod.mk.injEq]; refine ⟨?_, rfl⟩
    simp; omega
  · have e1 := hs 1 (by omega)
    have e2 := hs 2 (by omega)
    have e3 := hs 3 (by omega)
    unfold Utf8.decode
    simp only []
    rw [if_neg (by omega), if_neg (by simp; omega), if_neg (by simp; omega), if_pos (by simp; omega), if_pos (by simp [Utf8.valid]; omega)]
    simp only [ptF]
    rw [Prod.mk.injEq]; refine ⟨?_, rfl⟩
    simp; omega
end Go.Proofs.YtlahlnocjfphjaaGreatDoor.Lx
