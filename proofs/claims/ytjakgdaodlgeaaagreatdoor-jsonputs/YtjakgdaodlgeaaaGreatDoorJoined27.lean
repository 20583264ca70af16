/-
  A token depends on nothing behind it: plain mathematics of what lex.Next answers. No condition.
  A token's text is no longer than where it ends. No condition.
  Plain mathematics: a whole step of UTF-8, and what the model's own decoding of a text makes of it. No condition but that the bytes are those of the text.
  Plain mathematics: what a step of UTF-8 says of bytes that agree. No condition but that bytes are below 256.
  Plain mathematics: a valid text that is cut at a byte below 128 is valid on both sides. No condition.
  What json's reader reads of a key and of a further value. Conditions: at most 2^20 bytes; the tables as they are laid.
-/
import Derived.Test.YtjakgdaodlgeaaaGreatDoorJoined26
import Derived.Test.YtjakgdaodlgeaaaGreatDoorJoined4
import Derived.Test.YtjakgdaodlgeaaaGreatDoorJoined12
import Derived.Deep.RegionHeld3
namespace Go.Proofs.YtjakgdaodlgeaaaGreatDoor.Lx
open Go.RowKit

structure Agree (l l' : List UInt8) (n : Nat) : Prop where
 le : n ≤ l.length
 le' : n ≤ l'.length
 at_ : ∀ j, j < n → l[j]? = l'[j]?
theorem Agree.mono {l l' : List UInt8} {n m : Nat} (h : Agree l l' n) (hm : m ≤ n) : Agree l l' m := ⟨by have := h.le; omega, by have := h.le'; omega, fun j hj => h.at_ j (by omega)⟩
theorem Agree.bx {l l' : List UInt8} {n : Nat} (h : Agree l l' n) {j : Nat} (hj : j < n) : bx l' j = bx l j := by
 unfold Go.Proofs.YtjakgdaodlgeaaaGreatDoor.Lx.bx; rw [h.at_ j hj]
theorem Agree.has {l l' : List UInt8} {n : Nat} (h : Agree l l' n) {j : Nat} (hj : j < n) (p : Int → Bool) : hasAt l' j p = hasAt l j p := by
 have := h.le; have := h.le'
 rw [hasAt_in p (by omega), hasAt_in p (by omega), h.bx hj]
theorem Agree.sub {l l' : List UInt8} {n : Nat} (h : Agree l l' n) {a e : Nat} (he : e ≤ n) : sub l' a e = sub l a e := by
 unfold Go.Proofs.YtjakgdaodlgeaaaGreatDoor.Lx.sub
 apply List.ext_getElem?
 intro i
 by_cases hi : i < e - a
 ·rw [List.getElem?_take_of_lt hi, List.getElem?_take_of_lt hi, List.getElem?_drop, List.getElem?_drop, h.at_ (a + i) (by omega)]
 ·rw [List.getElem?_eq_none (by simp; omega), List.getElem?_eq_none (by simp; omega)]
theorem agree_take (l more : List UInt8) (n : Nat) (hn : n ≤ l.length) : Agree l (l.take n ++ more) n :=
 ⟨hn, by simp; omega, fun j hj => by rw [List.getElem?_append_left (by simp; omega), List.getElem?_take_of_lt hj]⟩
theorem passL_agree {l l' : List UInt8} {n : Nat} (h : Agree l l' n) (p : Int → Bool) (k : Nat) : ∀ i k', passL l p k i < n → l.length ≤ i + k → l'.length ≤ i + k' → passL l' p k' i = passL l p k i := by
 induction k with
 | zero =>
  intro i k' hlt h1 h2
  simp only [passL] at hlt
  have := h.le
  omega
 | succ k ih =>
  intro i k' hlt h1 h2
  have hle := (passL_le l p (k + 1) i).1
  have hin : i < n := by omega
  have e := h.has hin p
  simp only [passL] at hlt ⊢
  cases k' with
  | zero => have := h.le'; omega
  | succ k' =>
   simp only [passL]
   rw [e]
   split at hlt
   ·rename_i g
    rw [if_pos g, if_pos g]
    exact ih (i + 1) k' hlt (by omega) (by omega)
   ·rename_i g
    rw [if_neg g, if_neg g]
theorem pass_agree {l l' : List UInt8} {n : Nat} (h : Agree l l' n) (p : Int → Bool) {i : Nat} (hi : pass l p i < n) : pass l' p i = pass l p i :=
 passL_agree h p _ i _ hi (by omega) (by omega)
theorem spelled_agree {l l' : List UInt8} {n : Nat} (h : Agree l l' n) (cs : List UInt8) : ∀ {i k : Nat}, spelledL l i cs = .ok k → k ≤ n → spelledL l' i cs = .ok k := by
 induction cs with
 | nil => intro i k hk _; exact hk
 | cons c cs ih =>
  intro i k hk hn
  have hl := (spelledL_le (c :: cs) hk).1
  simp only [spelledL] at hk ⊢
  rw [h.has (by simp at hl; omega)]
  split at hk
  ·rename_i g
   rw [if_pos g]
   exact ih hk hn
  ·cases hk
theorem unit_agree {l l' : List UInt8} {n : Nat} (h : Agree l l' n) (low : Bool) (k : Nat) : ∀ {i val : Nat} {r : Nat × Nat}, unitF l low k i val = .ok r → r.2 ≤ n → unitF l' low k i val = .ok r := by
 induction k with
 | zero => intro i val r hr _; exact hr
 | succ k ih =>
  intro i val r hr hn
  have hl := (unitF_le (k + 1) hr).1
  simp only [unitF] at hr ⊢
  rw [h.has (by omega), h.bx (by omega)]
  split at hr
  ·rename_i g
   rw [if_pos g]
   exact ih hr hn
  ·cases hr
theorem pair_agree {l l' : List UInt8} {n : Nat} (h : Agree l l' n) {i high : Nat} {r : Nat × Nat} (hr : pairL l i high = .ok r) (hn : r.2 ≤ n) : pairL l' i high = .ok r := by
 unfold pairL at hr ⊢
 cases hs : spelledL l i [92, 117] with
 | error m => rw [hs] at hr; cases hr
 | ok j =>
  rw [hs] at hr
  simp only at hr
  cases hu : unitL l true j with
  | error m => rw [hu] at hr; cases hr
  | ok q =>
   rw [hu] at hr
   have hq := unitL_le hu
   have e : r.2 = q.2 := by rw [← Except.ok.inj hr]
   rw [spelled_agree h _ hs (by omega)]
   simp only
   rw [show unitL l' true j = .ok q from unit_agree h true 4 hu (by omega)]
   exact hr
theorem point_agree {l l' : List UInt8} {n : Nat} (h : Agree l l' n) {i : Nat} {r : List UInt8 × Nat} (hr : pointL l i = .ok r) (hn : r.2 ≤ n) : pointL l' i = .ok r := by
 unfold pointL at hr ⊢
 cases hu : unitL l false i with
 | error m => rw [hu] at hr; cases hr
 | ok q =>
  rw [hu] at hr
  simp only at hr
  have hq := unitL_le hu
  by_cases g : 55296 ≤ q.1 ∧ q.1 ≤ 56319
  ·rw [if_pos g] at hr
   cases hp : pairL l q.2 q.1 with
   | error m => rw [hp] at hr; cases hr
   | ok s =>
    rw [hp] at hr
    have e : r.2 = s.2 := by rw [← Except.ok.inj hr]
    have hs := pairL_le hp g.1 g.2
    rw [show unitL l' false i = .ok q from unit_agree h false 4 hu (by omega)]
    simp only
    rw [if_pos g, pair_agree h hp (by omega)]
    exact hr
  ·rw [if_neg g] at hr
   have e : r.2 = q.2 := by rw [← Except.ok.inj hr]
   rw [show unitL l' false i = .ok q from unit_agree h false 4 hu (by omega)]
   simp only
   rw [if_neg g]
   exact hr
theorem escape_agree {l l' : List UInt8} {n : Nat} (h : Agree l l' n) {i : Nat} {r : List UInt8 × Nat} (hr : escapeL l i = .ok r) (hn : r.2 ≤ n) : escapeL l' i = .ok r := by
 have hl := (escapeL_le (t := r.1) (k := r.2) hr).1
 unfold escapeL at hr ⊢
 rw [h.has (by omega)]
 by_cases g : hasAt l i (fun x => x == 92) = true
 ·rw [if_pos g] at hr ⊢
  rw [h.has (by omega)]
  by_cases g2 : hasAt l (i + 1) (fun x => x == 117) = true
  ·rw [if_pos g2] at hr ⊢
   exact point_agree h hr hn
  ·rw [if_neg g2] at hr ⊢
   rw [h.has (by omega), h.bx (by omega)]
   exact hr
 ·rw [if_neg g] at hr; cases hr
theorem textF_gt {l : List UInt8} {fr : Nat} (f : Nat) : ∀ {i : Nat} {out : List UInt8} {t : Tok}, textF l fr f i out = .ok t → i < t.to ∧ t.fr = fr ∧ t.kind = 1 ∧ t.to ≤ l.length := by
 induction f with
 | zero => intro i out t h; cases h
 | succ f ih =>
  intro i out t h
  simp only [textF] at h
  cases hp : plainL l i with
  | error m => rw [hp] at h; cases h
  | ok e =>
   rw [hp] at h
   simp only at h
   have he := (plainL_le hp).2.1
   by_cases g : hasAt l e (fun x => x == 34) = true
   ·rw [if_pos g] at h
    have := hasAt_lt g
    have h' := Except.ok.inj h
    subst h'
    exact ⟨by show i < e + 1; omega, rfl, rfl, this⟩
   ·rw [if_neg g] at h
    cases hx : escapeL l e with
    | error m => rw [hx] at h; cases h
    | ok r =>
     rw [hx] at h
     have a := ih h
     have b := (escapeL_le (t := r.1) (k := r.2) hx).1
     exact ⟨by omega, a.2⟩
theorem textF_agree {l l' : List UInt8} {n : Nat} (h : Agree l l' n) {fr : Nat} (f : Nat) : ∀ {i f' : Nat} {out : List UInt8} {t : Tok}, textF l fr f i out = .ok t → t.to ≤ n → l'.length < i + f' → textF l' fr f' i out = .ok t := by
 induction f with
 | zero => intro i f' out t ht; cases ht
 | succ f ih =>
  intro i f' out t ht hn hf
  have hgt := (textF_gt (f + 1) ht).1
  have := h.le'
  obtain ⟨f', rfl⟩ : ∃ g, f' = g + 1 := ⟨f' - 1, by omega⟩
  simp only [textF] at ht ⊢
  cases hp : plainL l i with
  | error m => rw [hp] at ht; cases ht
  | ok e =>
   rw [hp] at ht
   simp only at ht
   have hpe := (plainL_le hp).1
   have hie := (plainL_le hp).2.1
   have key : e < n → plainL l' i = .ok e := fun hen => by
    unfold plainL at hp ⊢
    rw [← hpe] at hp
    rw [pass_agree h plainB (by omega), ← hpe, h.sub (by omega)]
    exact hp
   by_cases g : hasAt l e (fun x => x == 34) = true
   ·rw [if_pos g] at ht
    have h' := Except.ok.inj ht
    have e1 : t.to = e + 1 := by rw [← h']
    rw [key (by omega)]
    simp only
    rw [h.has (by omega), if_pos g, h.sub (by omega)]
    exact ht
   ·rw [if_neg g] at ht
    cases hx : escapeL l e with
    | error m => rw [hx] at ht; cases ht
    | ok r =>
     rw [hx] at ht
     have a := (textF_gt f ht).1
     have b := (escapeL_le (t := r.1) (k := r.2) hx).1
     rw [key (by omega)]
     simp only
     rw [h.has (by omega), if_neg g, escape_agree h hx (by omega), h.sub (by omega)]
     exact ih ht hn (by omega)
theorem stands_ok {k : Nat} {l : List UInt8} {i : Nat} {p : Pl} {t : Tok} (h : stands k l i p = .ok t) : ∃ e, p = .ok e ∧ t = ⟨k, sub l i e, i, e⟩ := by
 cases p with
 | error n => cases h
 | ok e => exact ⟨e, rfl, (Except.ok.inj h).symm⟩
theorem spelled_pos {l : List UInt8} {c : UInt8} {cs : List UInt8} {i e : Nat} (h : spelledL l i (c :: cs) = .ok e) : i < e := by
 have := (spelledL_le _ h).1
 simp at this; omega
theorem readL_le {l : List UInt8} {i : Nat} {t : Tok} (hi : i ≤ l.length) (h : readL l i = .ok t) : (t.kind = 0 ∧ i = l.length) ∨ (i < t.to ∧ t.to ≤ l.length) := by
 unfold readL at h
 by_cases h0 : i = l.length
 ·rw [if_pos h0] at h
  have := Except.ok.inj h
  subst this
  exact .inl ⟨rfl, h0⟩
 ·rw [if_neg h0] at h
  refine .inr ?_
  by_cases h1 : signB (bx l i) = true
  ·rw [if_pos h1] at h
   have := Except.ok.inj h
   subst this
   exact ⟨by show i < i + 1; omega, by show i + 1 ≤ _; omega⟩
  ·rw [if_neg h1] at h
   by_cases h2 : bx l i = 110
   ·rw [if_pos h2] at h
    obtain ⟨e, he, rfl⟩ := stands_ok h
    exact ⟨spelled_pos he, (spelledL_le _ he).2 hi⟩
   ·rw [if_neg h2] at h
    by_cases h3 : bx l i = 116
    ·rw [if_pos h3] at h
     obtain ⟨e, he, rfl⟩ := stands_ok h
     exact ⟨spelled_pos he, (spelledL_le _ he).2 hi⟩
    ·rw [if_neg h3] at h
     by_cases h4 : bx l i = 102
     ·rw [if_pos h4] at h
      obtain ⟨e, he, rfl⟩ := stands_ok h
      exact ⟨spelled_pos he, (spelledL_le _ he).2 hi⟩
     ·rw [if_neg h4] at h
      by_cases h5 : bx l i = 45 ∨ digitB (bx l i) = true
      ·rw [if_pos h5] at h
       obtain ⟨e, he, rfl⟩ := stands_ok h
       exact numberL_le he
      ·rw [if_neg h5] at h
       by_cases h6 : bx l i = 34
       ·rw [if_pos h6] at h
        have := textF_gt _ h
        exact ⟨by omega, this.2.2.2⟩
       ·rw [if_neg h6] at h; cases h
theorem read_agree {l l' : List UInt8} {n : Nat} (h : Agree l l' n) {i : Nat} {t : Tok} (hi : i ≤ l.length) (hr : readL l i = .ok t) (hn : t.to ≤ n) (h0 : t.kind ≠ 0) (h2 : t.kind ≠ 2) : readL l' i = .ok t := by
 have hl : i < t.to := by
  rcases readL_le hi hr with g | g
  ·exact absurd g.1 h0
  ·exact g.1
 have a1 := h.le
 have a2 := h.le'
 unfold readL at hr ⊢
 rw [if_neg (by omega)] at hr ⊢
 rw [h.bx (by omega)]
 by_cases h1 : signB (bx l i) = true
 ·rw [if_pos h1] at hr ⊢
  have e := Except.ok.inj hr
  have e2 : t.to = i + 1 := by rw [← e]
  rw [h.sub (by omega)]; exact hr
 ·rw [if_neg h1] at hr ⊢
  by_cases g2 : bx l i = 110
  ·rw [if_pos g2] at hr ⊢
   obtain ⟨e, he, rfl⟩ := stands_ok hr
   rw [spelled_agree h _ he hn]
   simp only [stands]
   rw [h.sub hn]
  ·rw [if_neg g2] at hr ⊢
   by_cases g3 : bx l i = 116
   ·rw [if_pos g3] at hr ⊢
    obtain ⟨e, he, rfl⟩ := stands_ok hr
    rw [spelled_agree h _ he hn]
    simp only [stands]
    rw [h.sub hn]
   ·rw [if_neg g3] at hr ⊢
    by_cases g4 : bx l i = 102
    ·rw [if_pos g4] at hr ⊢
     obtain ⟨e, he, rfl⟩ := stands_ok hr
     rw [spelled_agree h _ he hn]
     simp only [stands]
     rw [h.sub hn]
    ·rw [if_neg g4] at hr ⊢
     by_cases g5 : bx l i = 45 ∨ digitB (bx l i) = true
     ·rw [if_pos g5] at hr
      obtain ⟨e, he, rfl⟩ := stands_ok hr
      exact absurd rfl h2
     ·rw [if_neg g5] at hr ⊢
      by_cases g6 : bx l i = 34
      ·rw [if_pos g6] at hr ⊢
       exact textF_agree h _ hr hn (by omega)
      ·rw [if_neg g6] at hr; cases hr
theorem read_fr {l : List UInt8} {i : Nat} {t : Tok} (hr : readL l i = .ok t) : t.fr = i := by
 unfold readL at hr
 by_cases h0 : i = l.length
 ·rw [if_pos h0] at hr; rw [← Except.ok.inj hr]
 ·rw [if_neg h0] at hr
  by_cases h1 : signB (bx l i) = true
  ·rw [if_pos h1] at hr; rw [← Except.ok.inj hr]
  ·rw [if_neg h1] at hr
   by_cases g2 : bx l i = 110
   ·rw [if_pos g2] at hr
    obtain ⟨e, he, rfl⟩ := stands_ok hr
    rfl
   ·rw [if_neg g2] at hr
    by_cases g3 : bx l i = 116
    ·rw [if_pos g3] at hr
     obtain ⟨e, he, rfl⟩ := stands_ok hr
     rfl
    ·rw [if_neg g3] at hr
     by_cases g4 : bx l i = 102
     ·rw [if_pos g4] at hr
      obtain ⟨e, he, rfl⟩ := stands_ok hr
      rfl
     ·rw [if_neg g4] at hr
      by_cases g5 : bx l i = 45 ∨ digitB (bx l i) = true
      ·rw [if_pos g5] at hr
       obtain ⟨e, he, rfl⟩ := stands_ok hr
       rfl
      ·rw [if_neg g5] at hr
       by_cases g6 : bx l i = 34
       ·rw [if_pos g6] at hr
        exact (textF_gt _ hr).2.1
       ·rw [if_neg g6] at hr; cases hr
end Go.Proofs.YtjakgdaodlgeaaaGreatDoor.Lx

namespace Go.Proofs.YtjakgdaodlgeaaaGreatDoor.Lx

theorem textF_len {l : List UInt8} {fr : Nat} (f : Nat) : ∀ {i : Nat} {out : List UInt8} {t : Tok}, textF l fr f i out = .ok t → out.length ≤ i → i ≤ l.length → t.text.length ≤ t.to := by
 induction f with
 | zero => intro i out t h _ _; simp [textF] at h
 | succ f ih =>
  intro i out t h ho hi
  rw [textF] at h
  cases e : plainL l i with
  | error n => rw [e] at h; cases h
  | ok e' =>
   rw [e] at h
   simp only at h
   obtain ⟨_, p1, p2⟩ := plainL_le e
   have hs : (sub l i e').length = e' - i := sub_length p1 (p2 hi)
   split at h
   ·have := Except.ok.inj h
    subst this
    show (out ++ sub l i e').length ≤ e' + 1
    rw [List.length_append, hs]; omega
   ·cases e2 : escapeL l e' with
    | error n => rw [e2] at h; cases h
    | ok r =>
     obtain ⟨tb, k⟩ := r
     rw [e2] at h
     simp only at h
     obtain ⟨q1, q2, q3⟩ := escapeL_le e2
     refine ih h ?_ q2
     rw [List.length_append, List.length_append, hs]; omega
theorem readL_text {l : List UInt8} {i : Nat} {t : Tok} (hi : i ≤ l.length) (h : readL l i = .ok t) : t.text.length ≤ l.length := by
 have hle := readL_le hi h
 have sb : ∀ a e, (sub l a e).length ≤ l.length := fun a e => by unfold sub; rw [List.length_take, List.length_drop]; omega
 unfold readL at h
 by_cases h0 : i = l.length
 ·rw [if_pos h0] at h
  have := Except.ok.inj h
  subst this
  exact Nat.zero_le _
 ·rw [if_neg h0] at h
  by_cases h1 : signB (bx l i) = true
  ·rw [if_pos h1] at h
   have := Except.ok.inj h
   subst this
   exact sb _ _
  ·rw [if_neg h1] at h
   by_cases h2 : bx l i = 110
   ·rw [if_pos h2] at h
    obtain ⟨e, he, rfl⟩ := stands_ok h
    exact sb _ _
   ·rw [if_neg h2] at h
    by_cases h3 : bx l i = 116
    ·rw [if_pos h3] at h
     obtain ⟨e, he, rfl⟩ := stands_ok h
     exact sb _ _
    ·rw [if_neg h3] at h
     by_cases h4 : bx l i = 102
     ·rw [if_pos h4] at h
      obtain ⟨e, he, rfl⟩ := stands_ok h
      exact sb _ _
     ·rw [if_neg h4] at h
      by_cases h5 : bx l i = 45 ∨ digitB (bx l i) = true
      ·rw [if_pos h5] at h
       obtain ⟨e, he, rfl⟩ := stands_ok h
       exact sb _ _
      ·rw [if_neg h5] at h
       by_cases h6 : bx l i = 34
       ·rw [if_pos h6] at h
        have h7 := textF_gt _ h
        have h8 := textF_len _ h (by simp) (by omega)
        omega
       ·rw [if_neg h6] at h; cases h
end Go.Proofs.YtjakgdaodlgeaaaGreatDoor.Lx

namespace Go.Proofs.YtjakgdaodlgeaaaGreatDoor.Lx
open Go.RowKit
set_option linter.unusedSimpArgs false
set_option linter.unusedVariables false

end Go.Proofs.YtjakgdaodlgeaaaGreatDoor.Lx

namespace Go.Proofs.YtjakgdaodlgeaaaGreatDoor.Lx
open Go.RowKit

end Go.Proofs.YtjakgdaodlgeaaaGreatDoor.Lx

namespace Go.Proofs.YtjakgdaodlgeaaaGreatDoor.Lx
open Go.RowKit

theorem passL_end {l : List UInt8} {p : Int → Bool} (k : Nat) : ∀ i, l.length ≤ i + k → hasAt l (passL l p k i) p = false := by
 induction k with
 | zero => intro i h; simp only [passL]; exact hasAt_out p (by omega)
 | succ k ih =>
  intro i h
  simp only [passL]
  split
  ·exact ih (i + 1) (by omega)
  ·rename_i g; simpa using g
theorem pass_end (l : List UInt8) (p : Int → Bool) (i : Nat) : hasAt l (pass l p i) p = false := passL_end _ i (by omega)
end Go.Proofs.YtjakgdaodlgeaaaGreatDoor.Lx

namespace Go.Proofs.YtjakgdaodlgeaaaGreatDoor
open Go.RowKit Go.Maps

@[instance_reducible] def exAdd (X : Ex) (B : Nat → Prop) : Ex := ⟨fun b => X.E b ∨ B b⟩
theorem ST.add {X : Ex} {w w' : World} {rb : Nat} {ov : Value} {hs : List HC} (h : @ST X w rb ov hs) (hb : Below w.heap.size w w') (B : Nat → Prop) (hB : ∀ b, B b → w.heap.size ≤ b ∧ b < w'.heap.size) : @ST (exAdd X B) w' rb ov hs := by
 have h' := h.bel hb
 refine @ST.mk (exAdd X B) w' rb ov hs h'.row h'.nd (fun x hx => ?_) h'.kd (fun b hb1 e => ?_) (fun b hb1 => ?_)
 ·refine (h.ho x hx).keep (fun b hb1 => hb.block b ((h.ho x hx).lt b hb1).2) (fun b hb1 hl => ⟨hb.block b hl, fun e => ?_⟩)
  rcases e with e | e
  ·rcases e with e | e
   ·exact hb1 (Or.inl e)
   ·have := (hB b e).1; omega
  ·exact hb1 (Or.inr e)
 ·rcases e with e | e
  ·exact h.ex b hb1 e
  ·have h1 := (hB b e).1
   have := (h.lt b hb1).2
   omega
 ·rcases hb1 with e | e
  ·exact h'.exlt b e
  ·exact (hB b e).2
theorem ST.less {X : Ex} {w : World} {rb : Nat} {ov : Value} {hs : List HC} {B : Nat → Prop} (h : @ST (exAdd X B) w rb ov hs) : @ST X w rb ov hs := by
 obtain ⟨row, nd, ho, kd, ex, exlt⟩ := h
 refine @ST.mk X w rb ov hs row nd (fun x hx => (ho x hx).keep (fun _ _ => rfl) (fun b hb1 _ => ⟨rfl, fun e => hb1 ?_⟩)) kd (fun b hb1 e => ex b hb1 (Or.inl e)) (fun b hb1 => exlt b (Or.inl hb1))
 rcases e with e | e
 ·exact Or.inl (Or.inl e)
 ·exact Or.inr e
theorem ST.side [Ex] {w w' : World} {rb : Nat} {ov : Value} {hs : List HC} (h : ST w rb ov hs) (hb : But (fun b => Ex.E b) w w') : ST w' rb ov hs := by
 have key : ∀ b ∈ muts ov hs, w'.heap[b]? = w.heap[b]? := fun b hb' => hb.block b (h.lt b hb').2 (h.ex b hb')
 exact ⟨own_keep h.row fun b hb' => key b (mem_mutsO hb'), h.nd, fun x hx => (h.ho x hx).keep (fun b hb' => key b (mem_muts hx hb')) (fun b hb1 hlt => ⟨hb.block b hlt (fun e => hb1 (Or.inl e)), hb1⟩), h.kd, h.ex, fun b hb' => Nat.lt_of_lt_of_le (h.exlt b hb') hb.size⟩
theorem JR.add {X : Ex} {W : World} {l : List UInt8} {v : Value} {lm : Nat → Int} {rb : Nat} {s : SS} {ov : Value} {hs : List HC} {w w' : World} (h : @JR X W l v lm rb s ov hs w) (hb : Below w.heap.size w w') (B : Nat → Prop) (hB : ∀ b, B b → w.heap.size ≤ b ∧ b < w'.heap.size) : @JR (exAdd X B) W l v lm rb s ov hs w' :=
 @JR.mk (exAdd X B) W l v lm rb s ov hs w' (h.rd.below hb) (h.st.add hb B hB) h.eq h.sn (vb_t h.bel hb) h.lo h.le h.n1 h.n2 h.n3
theorem JR.less {X : Ex} {W : World} {l : List UInt8} {v : Value} {lm : Nat → Int} {rb : Nat} {s : SS} {ov : Value} {hs : List HC} {w : World} {B : Nat → Prop} (h : @JR (exAdd X B) W l v lm rb s ov hs w) : @JR X W l v lm rb s ov hs w := by
 obtain ⟨rd, st, eq, sn, bel, lo, le, n1, n2, n3⟩ := h
 exact @JR.mk X W l v lm rb s ov hs w rd (ST.less st) eq sn bel lo le n1 n2 n3
theorem JR.side [Ex] {W : World} {l : List UInt8} {v : Value} {lm : Nat → Int} {rb : Nat} {s : SS} {ov : Value} {hs : List HC} {w w' : World} (h : JR W l v lm rb s ov hs w) (hb : But (fun b => Ex.E b) w w') (hrb : ∀ b, Ex.E b → rb < b) : JR W l v lm rb s ov hs w' := by
 have he : w'.heap[rb]? = w.heap[rb]? := hb.block rb h.rd.lt (fun e => by have := hrb rb e; omega)
 refine ⟨fun j hj => ⟨(World.cell?_of_block (w := w) (w' := w') he).trans (h.rd j hj).1, by have := (h.rd j hj).2; unfold World.frozen? at this ⊢; rw [he]; exact this⟩, h.st.side hb, h.eq, h.sn, ?_, h.lo, h.le, h.n1, h.n2, h.n3⟩
 refine h.bel.trans ⟨hb.os, hb.tape, hb.output, hb.size, fun k hk => hb.block k (by have := h.rd.lt; have := h.lo; omega) (fun e => ?_)⟩
 have := hrb k e
 have := h.lo
 omega
def StepR {α : Type} (x : Except Nat α) (ok : α → Ending → World → Prop) (rb : Nat) (w : World) (r : Ending) (w' : World) : Prop :=
 match x with
 | .ok a => ok a r w'
 | .error n => r = stopE 3 (n : Nat) ∧ Below rb w w'
theorem but_rb {rb : Nat} {w w' : World} (h : But (· = rb) w w') (hlt : rb < w.heap.size) : Below rb w w' := ⟨h.os, h.tape, h.output, h.size, fun k hk => h.block k (by omega) (by omega)⟩
theorem JR.take [Ex] {W : World} {l : List UInt8} {v : Value} {lm : Nat → Int} {rb : Nat} {s : SS} {ov : Value} {hs : List HC} {w w' : World} (hJ : JR W l v lm rb s ov hs w) (hb : But (· = rb) w w') (i : Nat) (hr : Rd w' rb (upd (RF v lm s.i ov s.dp s.ps) 1 (.int .i64 (i : Nat)))) (hi : s.i ≤ i) (hl : i ≤ l.length) : JR W l v lm rb { s with i := i } ov hs w' := by
 rw [RF_i] at hr
 exact ⟨hr, hJ.st.rb hb, hJ.eq, hJ.sn, hJ.bel.trans ((but_rb hb hJ.rd.lt).mono hJ.lo), hJ.lo, hl, Nat.le_trans hJ.n1 hi, fun h hh => ⟨Nat.le_trans (hJ.n2 h hh).1 hi, Nat.le_trans (hJ.n2 h hh).2 hi⟩, Nat.le_trans hJ.n3 hi⟩
theorem takeL_ok {fs : ByteArray} {l : List UInt8} {i : Nat} {t : Lx.Tok} (h : takeS fs l i = .ok t) : i < t.to ∧ t.to ≤ l.length ∧ t.text.length ≤ l.length := by
 unfold takeS takeL at h
 split at h
 ·rename_i hh
  have hlt : Lx.pass l Lx.blankB i < l.length := Classical.byContradiction fun hc => by rw [Lx.hasAt_out _ hc] at hh; cases hh
  have hge := Lx.pass_ge l Lx.blankB i
  unfold Lx.nextL at h
  have hge2 := Lx.pass_ge l Lx.blankB (Lx.pass l Lx.blankB i)
  have hle2 : Lx.pass l Lx.blankB (Lx.pass l Lx.blankB i) ≤ l.length := Lx.pass_le (by omega)
  have h3 := Lx.readL_text hle2 h
  rcases Lx.readL_le hle2 h with ⟨h1, h2⟩ | ⟨h1, h2⟩
  ·rw [Lx.pass_stop (Lx.pass_end l Lx.blankB i)] at h2
   omega
  ·exact ⟨by omega, h2, h3⟩
 ·cases h
theorem take_jr [Ex] {W : World} {l : List UInt8} {v : Value} {lm : Nat → Int} {rb : Nat} {s : SS} {ov : Value} {hs : List HC} {w : World} (hE : Lx.Env W) (hB : Lx.Byt W v l) (hl : l.length ≤ 1048576) (hJ : JR W l v lm rb s ov hs w) (fs : ByteArray) :
  Calls Tryz.prog 51 #[.pointer (some ⟨rb, 0, none⟩), .string fs] w (StepR (takeS fs l s.i) (fun t r w' => r = .returned (Lx.tokV t) ∧ JR W l v lm rb { s with i := t.to } ov hs w' ∧ But (· = rb) w w' ∧ (s.i < t.to ∧ t.to ≤ l.length ∧ t.text.length ≤ l.length)) rb w) := by
 refine (take_any l v W w rb s.i (RF v lm s.i ov s.dp s.ps) fs hE hB (by omega) hJ.bel hJ.lo hJ.rd rfl rfl hJ.le).mono fun r w' hr => ?_
 obtain ⟨hb, hr⟩ := hr
 have e : takeL fs l (Lx.pass l Lx.blankB s.i) = takeS fs l s.i := rfl
 rw [e] at hr
 cases ht : takeS fs l s.i with
 | error n =>
  rw [ht] at hr
  exact ⟨hr, but_rb hb hJ.rd.lt⟩
 | ok t =>
  rw [ht] at hr
  obtain ⟨h1, h2⟩ := hr
  have h3 := takeL_ok ht
  exact ⟨h1, hJ.take hb t.to h2 (by omega) h3.2.1, hb, h3⟩
theorem lastS_of [Ex] {W : World} {l : List UInt8} {v : Value} {lm : Nat → Int} {rb : Nat} {s : SS} {ov : Value} {hs0 : List HC} {h : HC} {w : World} (hJ : JR W l v lm rb s ov (hs0 ++ [h]) w) : lastS s = (h.k, h.vs.map (·.1), h.ks) := by unfold lastS; rw [hJ.eq]; simp
theorem JR.keep [Ex] {W : World} {l : List UInt8} {v : Value} {lm : Nat → Int} {rb : Nat} {s : SS} {ov : Value} {hs0 : List HC} {h : HC} {kv mv : Value} {key : ByteArray} {w w' : World} (hJ : JR W l v lm rb s ov (hs0 ++ [h]) w) (hst : ST w' rb ov (hs0 ++ [hkey h kv mv key])) (hm : Mr rb ov (hs0 ++ [h]) w ov (hs0 ++ [hkey h kv mv key]) w') (hn : h.ks.length < s.i) : JR W l v lm rb (addK key s) ov (hs0 ++ [hkey h kv mv key]) w' := by
 refine ⟨hm.rd hJ.rd, hst, ?_, fun x hx => ?_, hJ.bel.trans ((hm.mv.below hJ.st hJ.rd.lt).mono hJ.lo), hJ.lo, hJ.le, ?_, fun x hx => ?_, hJ.n3⟩
 ·show s.hs.dropLast ++ [((lastS s).1, (lastS s).2.1, (lastS s).2.2 ++ [key])] = _
  rw [lastS_of hJ, hJ.eq]
  simp [hkey]
 ·rcases List.mem_append.1 hx with hx | hx
  ·exact hJ.sn x (List.mem_append_left _ hx)
  ·obtain rfl : x = hkey h kv mv key := by simpa using hx
   show h.sn ++ [key] = h.ks ++ [key]
   rw [hJ.sn h (by simp)]
 ·have := hJ.n1; simp at this ⊢; exact this
 ·rcases List.mem_append.1 hx with hx | hx
  ·exact hJ.n2 x (List.mem_append_left _ hx)
  ·obtain rfl : x = hkey h kv mv key := by simpa using hx
   refine ⟨(hJ.n2 h (by simp)).1, ?_⟩
   show (h.ks ++ [key]).length ≤ s.i
   simp; omega
end Go.Proofs.YtjakgdaodlgeaaaGreatDoor
