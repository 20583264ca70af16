/-
  What is bad depends on nothing behind it: plain mathematics of what lex.Next answers. No condition.
  What is bad becomes good by another end: plain mathematics of what lex.Next answers. No condition.
  What is bad becomes good by another end: escapes. Plain mathematics. No condition.
  What is bad becomes good by another end: strings, and all. Plain mathematics. No condition.
  What is read of bytes that are cut off, or that others stand behind: plain mathematics of what lex.Next answers. No condition.
  What json reads of bytes that are cut off where they are bad, or that others stand behind. Conditions: none.
  A bad text stays bad at the same place, whatever stands behind; cut off just ahead it is bad there, or it is whole. Conditions: at most 2^20 bytes.
  The same of whole texts. Conditions: at most 2^20 bytes.
  The document's reader of tokens, one by one, as mathematics. Conditions: none.
-/
import Derived.Test.YtjakgdaodlgeaaaGreatDoorJoined31
import Derived.Test.YtjakgdaodlgeaaaGreatDoorJoined27
namespace Go.Proofs.YtjakgdaodlgeaaaGreatDoor.Lx
open Go.RowKit

theorem digits_ok {l l' : List UInt8} {n : Nat} (h : Agree l l' n) {i k : Nat} (hr : digitsL l i = .ok k) (hk : k < n) : digitsL l' i = .ok k := by
  have e := digitsL_le hr
  unfold digitsL at hr ⊢
  rw [h.has (by omega)]
  split at hr
  · rename_i g
    have e2 := Except.ok.inj hr
    rw [if_pos g, pass_agree h digitB (by omega), e2]
  · cases hr
theorem aft_agree {l l' : List UInt8} {n : Nat} (h : Agree l l' n) {i : Nat} (hi : i < n) (p : Int → Bool) : aft l' i p = aft l i p := by
  unfold aft
  rw [h.has hi]
theorem whole_ok {l l' : List UInt8} {n : Nat} (h : Agree l l' n) {i k : Nat} (hr : wholeL l i = .ok k) (hk : k < n) : wholeL l' i = .ok k := by
  have e := wholeL_le hr
  unfold wholeL at hr ⊢
  rw [aft_agree h (by omega)]
  have ha := aft_le l i (· == 45)
  split at hr
  · rename_i g
    have e2 := Except.ok.inj hr
    rw [h.has (by omega), if_pos g, e2]
  · rename_i g
    have e2 := digitsL_le hr
    rw [h.has (by omega), if_neg g]
    exact digits_ok h hr hk
theorem frac_ok {l l' : List UInt8} {n : Nat} (h : Agree l l' n) {i k : Nat} (hi : i ≤ l.length) (hr : fracPart l (.ok i) = .ok k) (hk : k < n) : fracPart l' (.ok i) = .ok k := by
  have e := fracPart_le hi hr
  simp only [fracPart] at hr ⊢
  rw [h.has (by omega)]
  split at hr
  · rename_i g
    rw [if_pos g]
    exact digits_ok h hr hk
  · rename_i g
    rw [if_neg g]
    exact hr
theorem stands_err {k : Nat} {l : List UInt8} {i n : Nat} {p : Pl} (h : stands k l i p = .error n) : p = .error n := by
  cases p with
  | error m =>
    have h' : (Except.error m : Tk) = .error n := h
    rw [Except.error.inj h']
  | ok e => cases h
theorem readL_bad {l : List UInt8} {p n : Nat} (hp : p ≤ l.length) (h : readL l p = .error n) : p < l.length ∧ signB (bx l p) = false ∧
    ((bx l p = 110 ∧ spelledL l p [110, 117, 108, 108] = .error n) ∨ (bx l p = 116 ∧ spelledL l p [116, 114, 117, 101] = .error n) ∨ (bx l p = 102 ∧ spelledL l p [102, 97, 108, 115, 101] = .error n) ∨
     ((bx l p = 45 ∨ digitB (bx l p) = true) ∧ numberL l p = .error n) ∨ (bx l p = 34 ∧ textL l p = .error n) ∨
     (bx l p ≠ 110 ∧ bx l p ≠ 116 ∧ bx l p ≠ 102 ∧ bx l p ≠ 45 ∧ digitB (bx l p) = false ∧ bx l p ≠ 34 ∧ n = p + 1)) := by
  unfold readL at h
  split at h
  · cases h
  · rename_i h0
    split at h
    · cases h
    · rename_i hs
      refine ⟨by omega, by simpa using hs, ?_⟩
      split at h
      · rename_i c; exact .inl ⟨c, stands_err h⟩
      · rename_i n1
        split at h
        · rename_i c; exact .inr (.inl ⟨c, stands_err h⟩)
        · rename_i n2
          split at h
          · rename_i c; exact .inr (.inr (.inl ⟨c, stands_err h⟩))
          · rename_i n3
            split at h
            · rename_i c; exact .inr (.inr (.inr (.inl ⟨c, stands_err h⟩)))
            · rename_i n4
              split at h
              · rename_i c; exact .inr (.inr (.inr (.inr (.inl ⟨c, h⟩))))
              · rename_i n5
                have e := Except.error.inj h
                have n6 : ¬ bx l p = 45 := fun c => n4 (.inl c)
                have n7 : digitB (bx l p) = false := by
                  cases hd : digitB (bx l p)
                  · rfl
                  · exact absurd (.inr hd) n4
                exact .inr (.inr (.inr (.inr (.inr ⟨n1, n2, n3, n6, n7, n5, e.symm⟩))))
end Go.Proofs.YtjakgdaodlgeaaaGreatDoor.Lx

namespace Go.Proofs.YtjakgdaodlgeaaaGreatDoor.Lx
open Go.RowKit

end Go.Proofs.YtjakgdaodlgeaaaGreatDoor.Lx

namespace Go.Proofs.YtjakgdaodlgeaaaGreatDoor.Lx
open Go.RowKit

end Go.Proofs.YtjakgdaodlgeaaaGreatDoor.Lx

namespace Go.Proofs.YtjakgdaodlgeaaaGreatDoor.Lx
open Go.RowKit

end Go.Proofs.YtjakgdaodlgeaaaGreatDoor.Lx

namespace Go.Proofs.YtjakgdaodlgeaaaGreatDoor.Lx
open Go.RowKit

theorem agree_cut (l : List UInt8) {N : Nat} (h : N ≤ l.length) : Agree l (l.take N) N := by
 have := agree_take l [] N h
 rwa [List.append_nil] at this
theorem Agree.symm {l l' : List UInt8} {n : Nat} (h : Agree l l' n) : Agree l' l n := ⟨h.le', h.le, fun j hj => (h.at_ j hj).symm⟩
theorem cut_has {l : List UInt8} {N j : Nat} (h : N ≤ l.length) (hj : j < N) (p : Int → Bool) : hasAt (l.take N) j p = hasAt l j p := (agree_cut l h).has hj p
theorem cut_out {l : List UInt8} {N j : Nat} (hj : N ≤ j) (p : Int → Bool) : hasAt (l.take N) j p = false := hasAt_out p (by simp; omega)
theorem pass_cut {l : List UInt8} {N : Nat} (h : N ≤ l.length) (p : Int → Bool) (d : Nat) : ∀ i, N - i = d → i ≤ N → pass l p i ≤ N → pass (l.take N) p i = pass l p i := by
 induction d with
 | zero =>
  intro i hd hi hp
  have : i = N := by omega
  subst this
  have := pass_ge l p i
  rw [pass_stop (cut_out (Nat.le_refl _) p)]
  omega
 | succ d ih =>
  intro i hd hi hp
  cases hh : hasAt l i p
  ·rw [pass_stop hh, pass_stop (by rw [cut_has h (by omega)]; exact hh)]
  ·rw [pass_go hh, pass_go (by rw [cut_has h (by omega)]; exact hh)]
   rw [pass_go hh] at hp
   exact ih (i + 1) (by omega) (by omega) hp
theorem digits_cut {l : List UInt8} {N i k : Nat} (h : N ≤ l.length) (hr : digitsL l i = .ok k) (hk : k ≤ N) : digitsL (l.take N) i = .ok k := by
 have e := digitsL_le hr
 unfold digitsL at hr ⊢
 rw [cut_has h (by omega)]
 split at hr
 ·rename_i g
  have e2 := Except.ok.inj hr
  rw [if_pos g, pass_cut h digitB _ (i + 1) rfl (by omega) (by omega), e2]
 ·cases hr
theorem whole_cut {l : List UInt8} {N i k : Nat} (h : N ≤ l.length) (hr : wholeL l i = .ok k) (hk : k ≤ N) : wholeL (l.take N) i = .ok k := by
 have e := wholeL_le hr
 unfold wholeL at hr ⊢
 have ea : aft (l.take N) i (· == 45) = aft l i (· == 45) := aft_agree (agree_cut l h) (by omega) _
 rw [ea]
 have ha := aft_le l i (· == 45)
 split at hr
 ·rename_i g
  have e2 := Except.ok.inj hr
  rw [cut_has h (by omega), if_pos g, e2]
 ·rename_i g
  have e2 := digitsL_le hr
  rw [cut_has h (by omega), if_neg g]
  exact digits_cut h hr hk
theorem frac_cut {l : List UInt8} {N i k : Nat} (h : N ≤ l.length) (hr : fracPart l (.ok i) = .ok k) (hk : k ≤ N) : fracPart (l.take N) (.ok i) = .ok k := by
 simp only [fracPart] at hr ⊢
 split at hr
 ·rename_i g
  have e2 := digitsL_le hr
  rw [cut_has h (by omega), if_pos g]
  exact digits_cut h hr hk
 ·rename_i g
  have e2 := Except.ok.inj hr
  by_cases hi : i < N
  ·rw [cut_has h hi, if_neg g, e2]
  ·rw [cut_out (by omega), if_neg (by simp), e2]
theorem exp_cut {l : List UInt8} {N i k : Nat} (h : N ≤ l.length) (hr : expPart l (.ok i) = .ok k) (hk : k ≤ N) : expPart (l.take N) (.ok i) = .ok k := by
 simp only [expPart] at hr ⊢
 split at hr
 ·rename_i g
  unfold exponentL at hr ⊢
  have e2 := digitsL_le hr
  have ha := aft_le l (i + 1) (fun c => c == 43 || c == 45)
  have ea : aft (l.take N) (i + 1) (fun c => c == 43 || c == 45) = aft l (i + 1) (fun c => c == 43 || c == 45) := aft_agree (agree_cut l h) (by omega) _
  rw [cut_has h (by omega), if_pos g, ea]
  exact digits_cut h hr hk
 ·rename_i g
  have e2 := Except.ok.inj hr
  by_cases hi : i < N
  ·rw [cut_has h hi, if_neg g, e2]
  ·rw [cut_out (by omega), if_neg (by simp), e2]
theorem exp_le {l : List UInt8} {i k : Nat} (h : expPart l (.ok i) = .ok k) : i ≤ k := by
 simp only [expPart] at h
 split at h
 ·have := exponentL_le h; omega
 ·have := Except.ok.inj h; omega
theorem number_parts {l : List UInt8} {i k : Nat} (h : numberL l i = .ok k) : ∃ a b, wholeL l i = .ok a ∧ fracPart l (.ok a) = .ok b ∧ expPart l (.ok b) = .ok k ∧ a ≤ b ∧ b ≤ k ∧ i < a := by
 unfold numberL at h
 cases hw : wholeL l i with
 | error a => rw [hw] at h; cases h
 | ok a =>
  rw [hw] at h
  have hwl := wholeL_le hw
  cases hf : fracPart l (.ok a) with
  | error b => rw [hf] at h; cases h
  | ok b =>
   rw [hf] at h
   exact ⟨a, b, rfl, hf, h, (fracPart_le hwl.2 hf).1, exp_le h, hwl.1⟩
theorem number_cut {l : List UInt8} {N i k : Nat} (h : N ≤ l.length) (hr : numberL l i = .ok k) (hk : k ≤ N) : numberL (l.take N) i = .ok k := by
 obtain ⟨a, b, h1, h2, h3, h4, h5, _⟩ := number_parts hr
 unfold numberL
 rw [whole_cut h h1 (by omega), frac_cut h h2 (by omega), exp_cut h h3 hk]
theorem number_agree {l l' : List UInt8} {n i k : Nat} (h : Agree l l' n) (hr : numberL l i = .ok k) (hk : k < n) : numberL l' i = .ok k := by
 obtain ⟨a, b, h1, h2, h3, h4, h5, h6⟩ := number_parts hr
 have hwl := wholeL_le h1
 unfold numberL
 rw [whole_ok h h1 (by omega), frac_ok h hwl.2 h2 (by omega)]
 simp only [expPart] at h3 ⊢
 rw [h.has (by omega)]
 split at h3
 ·rename_i g
  rw [if_pos g]
  unfold exponentL at h3 ⊢
  have e2 := digitsL_le h3
  have ha := aft_le l (b + 1) (fun c => c == 43 || c == 45)
  rw [aft_agree h (by omega)]
  exact digits_ok h h3 hk
 ·rename_i g
  rw [if_neg g]
  exact h3
theorem read_kind {l : List UInt8} {p : Nat} {t : Tok} (hlt : p < l.length) (h : readL l p = .ok t) : t.kind ≠ 0 := by
 unfold readL at h
 rw [if_neg (by omega)] at h
 have hst : ∀ (kd : Nat) (y : Pl), kd ≠ 0 → stands kd l p y = .ok t → t.kind ≠ 0 := fun kd y hkd hy => by
  obtain ⟨e, _, ht⟩ := stands_ok hy
  rw [ht]; exact hkd
 split at h
 ·injection h with h; rw [← h]; simp
 ·split at h
  ·exact hst 3 _ (by decide) h
  ·split at h
   ·exact hst 3 _ (by decide) h
   ·split at h
    ·exact hst 3 _ (by decide) h
    ·split at h
     ·exact hst 2 _ (by decide) h
     ·split at h
      ·have := (textF_gt _ h).2.2.1; omega
      ·cases h
theorem read_num {l : List UInt8} {p : Nat} {t : Tok} (hlt : p < l.length) (h : readL l p = .ok t) (h2 : t.kind = 2) : signB (bx l p) = false ∧ (bx l p = 45 ∨ digitB (bx l p) = true) ∧ numberL l p = .ok t.to ∧ t = ⟨2, sub l p t.to, p, t.to⟩ := by
 unfold readL at h
 rw [if_neg (by omega)] at h
 split at h
 ·injection h with h; rw [← h] at h2; simp at h2
 ·rename_i hs
  refine ⟨by simpa using hs, ?_⟩
  have hst : ∀ (kd : Nat) (y : Pl), kd ≠ 2 → stands kd l p y = .ok t → False := fun kd y hkd hy => by
   obtain ⟨e, _, ht⟩ := stands_ok hy
   rw [ht] at h2; exact hkd h2
  split at h
  ·exact (hst 3 _ (by decide) h).elim
  ·split at h
   ·exact (hst 3 _ (by decide) h).elim
   ·split at h
    ·exact (hst 3 _ (by decide) h).elim
    ·split at h
     ·rename_i c
      obtain ⟨e, he, ht⟩ := stands_ok h
      exact ⟨c, by rw [ht]; exact he, by rw [ht]⟩
     ·split at h
      ·have := (textF_gt _ h).2.2.1; omega
      ·cases h
theorem read_of_num {l : List UInt8} {p k : Nat} (hlt : p < l.length) (hs : signB (bx l p) = false) (hc : bx l p = 45 ∨ digitB (bx l p) = true) (h : numberL l p = .ok k) : readL l p = .ok ⟨2, sub l p k, p, k⟩ := by
 have RW := readL_word hlt hs
 rcases hc with c | c
 ·rw [RW.2.2.2.1 c, h]; rfl
 ·rw [RW.2.2.2.2.1 c, h]; rfl
theorem read_agree2 {l l' : List UInt8} {n p : Nat} {t : Tok} (h : Agree l l' n) (hp : p < l.length) (hr : readL l p = .ok t) (hn : t.to < n) : readL l' p = .ok t := by
 have hle := readL_le (by omega) hr
 have h0 : t.kind ≠ 0 := read_kind hp hr
 by_cases h2 : t.kind = 2
 ·have hpt : p < t.to := by rcases hle with ⟨x, _⟩ | ⟨x, _⟩ <;> omega
  obtain ⟨a, b, c, d⟩ := read_num hp hr h2
  have hb := h.bx (j := p) (by omega)
  have := h.le'
  rw [read_of_num (l := l') (p := p) (k := t.to) (by omega) (by rw [hb]; exact a) (by rw [hb]; exact b) (number_agree h c hn), h.sub (by omega), ← d]
 ·exact read_agree h (by omega) hr (by omega) h0 h2
end Go.Proofs.YtjakgdaodlgeaaaGreatDoor.Lx

namespace Go.Proofs.YtjakgdaodlgeaaaGreatDoor
open Go.RowKit

theorem takeS_eq (fs : ByteArray) (l : List UInt8) (i : Nat) : takeS fs l i = if Lx.hasAt l (Lx.pass l Lx.blankB i) (may fs) = true then Lx.readL l (Lx.pass l Lx.blankB i) else .error (Lx.pass l Lx.blankB i + 1) := by
 unfold takeS takeL Lx.nextL
 rw [Lx.pass_stop (Lx.pass_end l Lx.blankB i)]
structure Lk (l l' : List UInt8) (n : Nat) : Prop where
 len : n ≤ l'.length + 1
 ok : ∀ fs i t, takeS fs l i = .ok t → t.to < n → takeS fs l' i = .ok t
 err : ∀ fs i, i < n → i ≤ l.length → takeS fs l i = .error n → takeS fs l' i = .error n
 key : ∀ fs i t, takeS fs l i = .ok t → t.kind = 1 → t.to = n → takeS fs l' i = .ok t ∨ takeS fs l' i = .error n
theorem takeS_at {fs : ByteArray} {l : List UInt8} {i : Nat} {t : Lx.Tok} (h : takeS fs l i = .ok t) : Lx.pass l Lx.blankB i < l.length ∧ Lx.hasAt l (Lx.pass l Lx.blankB i) (may fs) = true ∧ Lx.readL l (Lx.pass l Lx.blankB i) = .ok t ∧ Lx.pass l Lx.blankB i < t.to := by
 rw [takeS_eq] at h
 split at h
 ·rename_i hh
  have hlt := Lx.hasAt_lt hh
  refine ⟨hlt, hh, h, ?_⟩
  rcases Lx.readL_le (Nat.le_of_lt hlt) h with ⟨_, e⟩ | ⟨e, _⟩
  ·omega
  ·exact e
 ·cases h
theorem key_kind {l : List UInt8} {i : Nat} {t : Lx.Tok} (hl : l.length ≤ 1048576) (h : takeS fosC l i = .ok t) (hf : sgnB t sgF = false) : t.kind = 1 := by
 obtain ⟨h1, h2, h3, h4⟩ := takeS_at h
 generalize Lx.pass l Lx.blankB i = p at *
 rw [Lx.hasAt_in _ h1] at h2
 have hb : Lx.bx l p = 34 ∨ Lx.bx l p = 125 := by
  have e2 : Lx.bx l p = (l[p].toNat : Int) := by simp [Lx.bx, h1]
  have : ∀ c : Nat, c < 256 → may fosC (c : Int) = true → c = 34 ∨ c = 125 := by decide +kernel
  rw [e2] at h2 ⊢
  have := this _ (UInt8.toNat_lt _) h2
  omega
 rcases hb with hb | hb
 ·have hs : Lx.signB (Lx.bx l p) = false := by rw [hb]; decide
  rw [(Lx.readL_word h1 hs).2.2.2.2.2 hb] at h3
  exact (Lx.textF_gt _ h3).2.2.1
 ·exfalso
  have hs : Lx.signB (Lx.bx l p) = true := by rw [hb]; decide
  rw [Lx.readL_sign h1 hs] at h3
  injection h3 with h3
  have e1 : Lx.sub l p (p + 1) = [l[p]] := by
   unfold Lx.sub
   rw [show p + 1 - p = 1 by omega, List.drop_eq_getElem_cons h1]
   rfl
  have e2 : l[p] = 125 := by
   have : Lx.bx l p = (l[p].toNat : Int) := by simp [Lx.bx, h1]
   rw [this] at hb
   have hb : l[p].toNat = 125 := by omega
   exact UInt8.toNat_inj.1 hb
  rw [← h3, e1, e2] at hf
  unfold sgnB isL jeqT at hf
  have : (decide (((4 : Nat) : Int) = 4 ∧ txtB ⟨4, [125], p, p + 1⟩ = sgF ∧ (p : Int) = (p : Int) ∧ ((p + 1 : Nat) : Int) = wrap64 ((p : Int) + (sgF.size : Int)))) = true := by
   rw [decide_eq_true_eq]
   refine ⟨rfl, rfl, rfl, ?_⟩
   have e : (sgF.size : Int) = 1 := rfl
   rw [e]
   unfold wrap64
   omega
  rw [this] at hf
  cases hf
theorem key_kind' {l : List UInt8} {i : Nat} {t : Lx.Tok} (h : takeS fos l i = .ok t) : t.kind = 1 := by
 obtain ⟨h1, h2, h3, h4⟩ := takeS_at h
 generalize Lx.pass l Lx.blankB i = p at *
 rw [Lx.hasAt_in _ h1] at h2
 have hb : Lx.bx l p = 34 := by
  have e2 : Lx.bx l p = (l[p].toNat : Int) := by simp [Lx.bx, h1]
  have : ∀ c : Nat, c < 256 → may fos (c : Int) = true → c = 34 := by decide +kernel
  rw [e2] at h2 ⊢
  have := this _ (UInt8.toNat_lt _) h2
  omega
 have hs : Lx.signB (Lx.bx l p) = false := by rw [hb]; decide
 rw [(Lx.readL_word h1 hs).2.2.2.2.2 hb] at h3
 exact (Lx.textF_gt _ h3).2.2.1
end Go.Proofs.YtjakgdaodlgeaaaGreatDoor

namespace Go.Proofs.YtjakgdaodlgeaaaGreatDoor
open Go.RowKit

theorem valueOf_le {l : List UInt8} {t : Lx.Tok} {s : SS} {x : Lx.Tok × SS} (h : valueOfS l t s = .ok x) : x.2.i ≤ l.length := by
 unfold valueOfS at h
 split at h
 ·cases h
 ·split at h
  ·cases h
  ·split at h
   ·cases h
   ·rename_i t2 h2
    injection h with h
    rw [← h]
    exact (takeL_ok h2).2.1
theorem first_le {l : List UInt8} {m : LM} : ∀ k t s x, firstS l m k t s = .ok x → s.i ≤ x.2.i
 | 0, _, _, _, h => by simp [firstS] at h
 | k + 1, t, s, x, h => by
  unfold firstS at h
  split at h
  ·split at h
   ·cases h
   ·rename_i t1 h1
    have := first_le k _ _ _ h
    have e : ({ openS 5 s with i := t1.to } : SS).i = t1.to := rfl
    rw [e] at this
    have := (takeL_ok h1).1
    omega
  ·split at h
   ·split at h
    ·cases h
    ·rename_i t1 h1
     have o1 := (takeL_ok h1).1
     have e : ({ openS 6 s with i := t1.to } : SS).i = t1.to := rfl
     split at h
     ·have := first_le k _ _ _ h
      rw [e] at this
      omega
     ·split at h
      ·cases h
      ·rename_i t2 s2 h2
       have o2 := (valueOfS_ok h2).1
       rw [e] at o2
       have := first_le k _ _ _ h
       simp only at o2
       omega
   ·split at h
    ·injection h with h; rw [← h]; exact Nat.le_refl _
    ·injection h with h; rw [← h]; exact Nat.le_refl _
end Go.Proofs.YtjakgdaodlgeaaaGreatDoor

namespace Go.Proofs.YtjakgdaodlgeaaaGreatDoor
open Go.RowKit

theorem nextOf_le {l : List UInt8} {s : SS} {x : Lx.Tok × SS} (h : nextOfS l s = .ok x) : s.i < x.2.i ∧ x.2.i ≤ l.length := by
 unfold nextOfS at h
 split at h
 ·split at h
  ·cases h
  ·rename_i t h1
   have o1 := (takeL_ok h1).1
   have o2 := (valueOfS_ok h).1
   have e : ({ s with i := t.to } : SS).i = t.to := rfl
   rw [e] at o2
   exact ⟨by omega, valueOf_le h⟩
 ·split at h
  ·cases h
  ·rename_i t h1
   injection h with h
   rw [← h]
   exact ⟨(takeL_ok h1).1, (takeL_ok h1).2.1⟩
theorem first_hi {l : List UInt8} {m : LM} : ∀ k t s x, firstS l m k t s = .ok x → s.i ≤ l.length → x.2.i ≤ l.length
 | 0, _, _, _, h, _ => by simp [firstS] at h
 | k + 1, t, s, x, h, hs => by
  unfold firstS at h
  split at h
  ·split at h
   ·cases h
   ·rename_i t1 h1
    exact first_hi k _ _ _ h (takeL_ok h1).2.1
  ·split at h
   ·split at h
    ·cases h
    ·rename_i t1 h1
     split at h
     ·exact first_hi k _ _ _ h (takeL_ok h1).2.1
     ·split at h
      ·cases h
      ·rename_i t2 s2 h2
       exact first_hi k _ _ _ h (valueOf_le h2)
   ·split at h
    ·injection h with h; rw [← h]; exact hs
    ·injection h with h; rw [← h]; exact hs
theorem loop_hi {l : List UInt8} {m : LM} : ∀ k v s x, loopS l m k v s = .ok x → s.i ≤ l.length → x.2.i ≤ l.length
 | 0, _, _, _, h, _ => by simp [loopS] at h
 | k + 1, v, s, x, h, hs => by
  unfold loopS at h
  split at h
  ·injection h with h; rw [← h]; exact hs
  ·split at h
   ·cases h
   ·rename_i t h1
    split at h
    ·split at h
     ·cases h
     ·rename_i t1 s1 h2
      split at h
      ·cases h
      ·rename_i v1 s2 h3
       exact loop_hi k _ _ _ h (first_hi _ _ _ _ h3 (nextOf_le h2).2)
    ·exact loop_hi k _ _ _ h (takeL_ok h1).2.1
end Go.Proofs.YtjakgdaodlgeaaaGreatDoor

namespace Go.Proofs.YtjakgdaodlgeaaaGreatDoor
open Go.RowKit

structure PR where
 hs : List HS
 nx : Nat
 v : JV
 dp : Nat
 ps : Nat
def lastP (p : PR) : HS := p.hs.getLastD (0, [], [])
def putR (v : JV) (p : PR) : PR := if p.hs = [] then { p with v := v, nx := 6 } else { p with hs := p.hs.dropLast ++ [((lastP p).1, (lastP p).2.1 ++ [v], (lastP p).2.2)], nx := 5 }
def hsV (h : HS) : JV := .mk h.1 false ⟨#[]⟩ 0 ⟨#[]⟩ h.2.1 h.2.2
def closeR (p : PR) : PR := putR (hsV (lastP p)) { p with hs := p.hs.dropLast }
def beginR (k : Int) (p : PR) : PR := { p with hs := p.hs ++ [(k, [], [])], dp := max p.dp (p.hs.length + 1), nx := if k = 6 then 3 else 1 }
def valueR (rl : List UInt8 → Nat) (rd : List UInt8 → JV) (t : Lx.Tok) (p : PR) : Option PR :=
 if t.kind = 1 then some (putR (.mk 4 false ⟨#[]⟩ 0 (txtB t) [] []) p)
 else if t.kind = 2 then some (putR (rd t.text) { p with ps := if p.ps ≠ 0 then p.ps else rl t.text })
 else if t.kind = 3 then some (putR (zeroJ (if t.text = [110, 117, 108, 108] then 0 else if t.text = [102, 97, 108, 115, 101] then 1 else 2)) p)
 else if t.kind = 4 ∧ t.text = [91] then some (beginR 5 p)
 else if t.kind = 4 ∧ t.text = [123] then some (beginR 6 p)
 else none
def keyedR (t : Lx.Tok) (p : PR) : Except Nat PR :=
 if inK (txtB t) (lastP p).2.2 = true then .error t.to else .ok { p with hs := p.hs.dropLast ++ [((lastP p).1, (lastP p).2.1, (lastP p).2.2 ++ [txtB t])], nx := 4 }
def endsR (t : Lx.Tok) (p : PR) : Prop := p.hs ≠ [] ∧ t.kind = 4 ∧ ((t.text = [93] ∧ (lastP p).1 = 5) ∨ (t.text = [125] ∧ (lastP p).1 = 6))
instance (t : Lx.Tok) (p : PR) : Decidable (endsR t p) := by unfold endsR; infer_instance
def tokenR (rl : List UInt8 → Nat) (rd : List UInt8 → JV) (t : Lx.Tok) (p : PR) : Except Nat PR :=
 if endsR t p ∧ (p.nx = 1 ∨ p.nx = 3 ∨ p.nx = 5) then .ok (closeR p)
 else if p.nx = 5 ∧ t.kind = 4 ∧ t.text = [44] then .ok { p with nx := if (lastP p).1 = 6 then 2 else 0 }
 else if p.nx = 4 ∧ t.kind = 4 ∧ t.text = [58] then .ok { p with nx := 0 }
 else if (p.nx = 2 ∨ p.nx = 3) ∧ t.kind = 1 then keyedR t p
 else if p.nx = 0 ∨ p.nx = 1 then (match valueR rl rd t p with | some q => .ok q | none => .error (t.fr + 1))
 else .error (t.fr + 1)
def standsR (l : List UInt8) (p : PR) (i : Nat) : Prop := Lx.hasAt l (Lx.pass l Lx.blankB i) (· == 34) = true ∧ (p.nx = 2 ∨ p.nx = 3)
instance (l : List UInt8) (p : PR) (i : Nat) : Decidable (standsR l p i) := by unfold standsR; infer_instance
def readR (l : List UInt8) (rl : List UInt8 → Nat) (rd : List UInt8 → JV) : Nat → PR → Nat → Except Nat PR
 | 0, _, _ => .error 0
 | f + 1, p, i => match Lx.nextL l i with
  | .error n => if p.nx = 0 ∨ p.nx = 1 ∨ standsR l p i then .error n else .error (Lx.pass l Lx.blankB i + 1)
  | .ok t => if t.kind = 0 then (if p.nx = 6 then .ok p else .error (l.length + 1)) else
   match tokenR rl rd t p with
   | .error e => .error e
   | .ok q => readR l rl rd f q t.to
def RR (l : List UInt8) (rl : List UInt8 → Nat) (rd : List UInt8 → JV) (p : PR) (i : Nat) : Except Nat PR := readR l rl rd (l.length + 1 - i) p i
def judgedR (l : List UInt8) (m : LM) (rl : List UInt8 → Nat) (rd : List UInt8 → JV) : Except (Int × Int) JV :=
 if 1048576 < l.length then .error (4, 1) else
 match RR l rl rd ⟨[], 0, zeroJ 0, 0, 0⟩ 0 with
 | .error e => .error (3, e)
 | .ok p => if m.dep < (p.dp : Int) then .error (4, 2) else if p.ps ≠ 0 then .error (4, p.ps) else .ok p.v
theorem next_to {l : List UInt8} {i : Nat} {t : Lx.Tok} (hi : i ≤ l.length) (h : Lx.nextL l i = .ok t) : (t.kind = 0 ∧ Lx.pass l Lx.blankB i = l.length) ∨ (Lx.pass l Lx.blankB i < l.length ∧ t.kind ≠ 0 ∧ i < t.to ∧ t.to ≤ l.length) := by
 have hle := Lx.pass_le (l := l) (p := Lx.blankB) hi
 have hge := Lx.pass_ge l Lx.blankB i
 by_cases hp : Lx.pass l Lx.blankB i < l.length
 ·have hk := Lx.read_kind hp h
  rcases Lx.readL_le hle h with ⟨a, _⟩ | ⟨a, b⟩
  ·exact absurd a hk
  ·exact Or.inr ⟨hp, hk, by omega, b⟩
 ·have he : Lx.pass l Lx.blankB i = l.length := by omega
  left
  unfold Lx.nextL Lx.readL at h
  rw [if_pos he] at h
  injection h with h
  exact ⟨by rw [← h], he⟩
theorem RR_step {l : List UInt8} {rl : List UInt8 → Nat} {rd : List UInt8 → JV} {p : PR} {i : Nat} (hi : i ≤ l.length) : RR l rl rd p i = match Lx.nextL l i with
  | .error n => if p.nx = 0 ∨ p.nx = 1 ∨ standsR l p i then .error n else .error (Lx.pass l Lx.blankB i + 1)
  | .ok t => if t.kind = 0 then (if p.nx = 6 then .ok p else .error (l.length + 1)) else
   match tokenR rl rd t p with
   | .error e => .error e
   | .ok q => RR l rl rd q t.to := by
 have fuel : ∀ f f' p i, i ≤ l.length → l.length < f + i → l.length < f' + i → readR l rl rd f p i = readR l rl rd f' p i := by
  intro f
  induction f with
  | zero => intro f' p i h1 h2 h3; omega
  | succ f ih =>
   intro f' p i h1 h2 h3
   cases f' with
   | zero => omega
   | succ f' =>
    unfold readR
    cases hn : Lx.nextL l i with
    | error n => rfl
    | ok t =>
     simp only
     split
     ·rfl
     ·rename_i hk
      cases tokenR rl rd t p with
      | error e => rfl
      | ok q =>
       simp only
       rcases next_to h1 hn with ⟨a, _⟩ | ⟨_, _, a, b⟩
       ·exact absurd a hk
       ·exact ih f' q t.to b (by omega) (by omega)
 unfold RR
 obtain ⟨f, hf⟩ : ∃ f, l.length + 1 - i = f + 1 := ⟨l.length - i, by omega⟩
 rw [hf]
 rw [readR]
 cases hn : Lx.nextL l i with
 | error n => rfl
 | ok t =>
  simp only
  split
  ·rfl
  ·rename_i hk
   cases tokenR rl rd t p with
   | error e => rfl
   | ok q =>
    simp only
    rcases next_to hi hn with ⟨a, _⟩ | ⟨_, _, a, b⟩
    ·exact absurd a hk
    ·exact fuel f _ q t.to b (by omega) (by omega)
end Go.Proofs.YtjakgdaodlgeaaaGreatDoor
