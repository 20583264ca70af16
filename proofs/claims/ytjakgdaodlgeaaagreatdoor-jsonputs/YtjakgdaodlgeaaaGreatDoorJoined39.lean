/-
  The document's reader says what json's says. Conditions: at most 2^20 bytes for what is read; of numbers the two say the same.
  What ref3.far and ref3.Value answer: the number of parts, however far its exponent is. Conditions: the parts are digits.
  What the document's reader holds a number against is what json's does. Conditions: the limits are at most the greatest.
  What ref3.Value answers: the number of parts, however far its exponent is. Conditions: the parts are digits.
  How a number's text is cut into parts, place by place: plain mathematics. No condition.
  What ref3.Cut answers from the exponent on. Conditions: at most 2^47 bytes.
  What ref3.Cut answers: the parts of a number's text, or that it is none. Conditions: at most 2^47 bytes.
  What ref3.Parse answers: the number that a text is, or which error. Conditions: at most 2^47 bytes.
-/
import Derived.Test.YtjakgdaodlgeaaaGreatDoorJoined38
import Derived.Test.YtjakgdaodlgeaaaGreatDoorJoined19
import Derived.Test.YtjakgdaodlgeaaaGreatDoorJoined1
import Derived.Deep.CutRange
import Derived.Deep.DeepCutAuto
import Derived.Deep.CutBlock
import Derived.Test.YtjakgdaodlgeaaaGreatDoorJoined21
namespace Go.Proofs.YtjakgdaodlgeaaaGreatDoor
open Go.RowKit

def KD (s : SS) : Prop := ∀ h ∈ s.hs, h.1 = 5 ∨ h.1 = 6
theorem KD.last {s : SS} (h : KD s) (h0 : s.hs ≠ []) : (lastS s).1 = 5 ∨ (lastS s).1 = 6 := by
 unfold lastS
 cases e : s.hs with
 | nil => exact absurd e h0
 | cons a l =>
  rw [List.getLastD_cons]
  exact h _ (by rw [e]; exact getLastD_mem l a)
theorem KD.open {s : SS} (h : KD s) {k : Int} (hk : k = 5 ∨ k = 6) (i : Nat) : KD { openS k s with i := i } := fun x hx => by
 have hx : x ∈ s.hs ++ [(k, [], [])] := hx
 rcases List.mem_append.1 hx with hx | hx
 ·exact h x hx
 ·obtain rfl : x = (k, [], []) := by simpa using hx
  exact hk
theorem KD.turn {s : SS} (h : KD s) (h0 : s.hs ≠ []) {y : HS} (hy : y.1 = (lastS s).1) : ∀ x ∈ s.hs.dropLast ++ [y], x.1 = 5 ∨ x.1 = 6 := fun x hx => by
 rcases List.mem_append.1 hx with hx | hx
 ·exact h x (List.dropLast_subset _ hx)
 ·obtain rfl : x = y := by simpa using hx
  rw [hy]; exact h.last h0
theorem valueOf_kd {l : List UInt8} {t : Lx.Tok} {s : SS} {x : Lx.Tok × SS} (h : valueOfS l t s = .ok x) (hk : KD s) (h0 : s.hs ≠ []) : KD x.2 := by
 unfold valueOfS at h
 split at h
 ·cases h
 ·split at h
  ·cases h
  ·split at h
   ·cases h
   ·injection h with h
    rw [← h]
    exact hk.turn h0 rfl
theorem nextOf_kd {l : List UInt8} {s : SS} {x : Lx.Tok × SS} (h : nextOfS l s = .ok x) (hk : KD s) (h0 : s.hs ≠ []) : KD x.2 := by
 unfold nextOfS at h
 split at h
 ·split at h
  ·cases h
  ·exact valueOf_kd h hk h0
 ·split at h
  ·cases h
  ·injection h with h
   rw [← h]
   exact hk
theorem first_kd {l : List UInt8} {m : LM} : ∀ k t s x, firstS l m k t s = .ok x → KD s → KD x.2
 | 0, _, _, _, h, _ => by simp [firstS] at h
 | k + 1, t, s, x, h, hk => by
  unfold firstS at h
  split at h
  ·split at h
   ·cases h
   ·exact first_kd k _ _ _ h (hk.open (Or.inl rfl) _)
  ·split at h
   ·split at h
    ·cases h
    ·rename_i t1 h1
     split at h
     ·exact first_kd k _ _ _ h (hk.open (Or.inr rfl) _)
     ·split at h
      ·cases h
      ·rename_i t2 s2 h2
       exact first_kd k _ _ _ h (valueOf_kd h2 (hk.open (Or.inr rfl) _) (by show s.hs ++ _ ≠ []; simp))
   ·split at h
    ·injection h with h; rw [← h]; exact fun y hy => hk y (List.dropLast_subset _ hy)
    ·injection h with h; rw [← h]; exact hk
theorem put_last {v : JV} {p : PR} (hne : p.hs ≠ []) : (putR v p).nx = 5 ∧ (lastP (putR v p)).1 = (lastP p).1 ∧ (putR v p).hs ≠ [] ∧ (putR v p).hs = p.hs.dropLast ++ [((lastP p).1, (lastP p).2.1 ++ [v], (lastP p).2.2)] := by
 unfold putR
 rw [if_neg hne]
 refine ⟨rfl, ?_, by simp, rfl⟩
 unfold lastP
 simp
theorem loop_ref {l : List UInt8} {m : LM} {rl : List UInt8 → Nat} {rd : List UInt8 → JV} (hl : l.length ≤ 1048576) (HN : NumOK l m rl rd) : ∀ k v s p v1, PRel s p → KD s → (s.ps = 0 → v1 = v) → s.i ≤ l.length → l.length < k + s.i →
  (∀ e, loopS l m k v s = .error e → RR l rl rd (putR v1 p) s.i = .error e) ∧ (∀ v2 s2, loopS l m k v s = .ok (v2, s2) → ∃ p2 v3, PRel s2 p2 ∧ p2.hs = [] ∧ (s2.ps = 0 → v3 = v2) ∧ RR l rl rd (putR v1 p) s.i = RR l rl rd (putR v3 p2) s2.i)
 | 0, _, s, _, _, _, _, _, hi, hk => by omega
 | k + 1, v, s, p, v1, hR, hK, hv, hi, hk => by
  unfold loopS
  by_cases h0 : s.hs = []
  ·rw [if_pos h0]
   refine ⟨fun e he => (by cases he), fun v2 s2 he => ?_⟩
   injection he with he
   injection he with he1 he2
   subst he1 he2
   exact ⟨p, v1, hR, hR.nil.2 h0, hv, rfl⟩
  ·rw [if_neg h0]
   have hne : p.hs ≠ [] := fun e => h0 (hR.nil.1 e)
   obtain ⟨n5, l5, ne5, _⟩ := put_last (v := v1) hne
   have hl1 := hR.last1
   have hkd := hK.last h0
   have e1 := RR_5 (rl := rl) (rd := rd) hi n5 (by rw [l5, hl1]; exact hkd)
   have ec : (if (lastP (putR v1 p)).1 = 6 then (⟨#[44, 125]⟩ : ByteArray) else ⟨#[44, 93]⟩) = closing s := by unfold closing; rw [l5, hl1]
   rw [ec] at e1
   cases h1 : takeS (closing s) l s.i with
   | error e0 =>
    rw [h1] at e1
    exact ⟨fun e he => (by injection he with he; rw [e1, he]), fun v2 s2 he => (by cases he)⟩
   | ok t =>
    rw [h1] at e1
    have o1 := takeL_ok h1
    simp only at e1 ⊢
    have sK := sgn_iff hl h1 44
    by_cases c1 : sgnB t sgK = true
    ·rw [if_pos c1]
     obtain ⟨k4, tx⟩ := sK.1 c1
     have et : tokenR rl rd t (putR v1 p) = .ok { putR v1 p with nx := if (lastP (putR v1 p)).1 = 6 then 2 else 0 } := by
      unfold tokenR
      rw [if_neg, if_pos ⟨n5, k4, tx⟩]
      rintro ⟨⟨_, _, e⟩, _⟩
      rw [tx] at e
      simp at e
     rw [et] at e1
     simp only at e1
     obtain ⟨pp, hpp⟩ : ∃ pp : PR, pp = { putR v1 p with nx := if (lastP (putR v1 p)).1 = 6 then 2 else 0 } := ⟨_, rfl⟩
     rw [← hpp] at e1
     have hRp : PRel { addV v s with i := t.to } pp := by rw [hpp]; exact hR.val hv hne _ _
     have hpl : lastP pp = lastP (putR v1 p) := by rw [hpp]; rfl
     obtain ⟨a1, a2⟩ := nextOf_ref (l := l) (rl := rl) (rd := rd) (s := { addV v s with i := t.to }) (p := pp) hRp (by rw [hpl, hpp]) o1.2.1
     cases h2 : nextOfS l { addV v s with i := t.to } with
     | error e0 =>
      have := a1 e0 h2
      exact ⟨fun e he => (by injection he with he; rw [e1, ← he]; exact this), fun v2 s2 he => (by cases he)⟩
     | ok y =>
      obtain ⟨t1, s1⟩ := y
      obtain ⟨p1, b1, b2, b3, b4⟩ := a2 t1 s1 h2
      have e2 : RR l rl rd (putR v1 p) s.i = TK l rl rd t1 p1 s1.i := by rw [e1]; exact b3
      have hadd : ({ addV v s with i := t.to } : SS).hs ≠ [] := by show s.hs.dropLast ++ _ ≠ []; simp
      have hKa : KD { addV v s with i := t.to } := hK.turn h0 rfl
      have hK1 := nextOf_kd h2 hKa hadd
      have g2 := nextOf_le h2
      have e6 : ({ addV v s with i := t.to } : SS).i = t.to := rfl
      rw [e6] at g2
      simp only at g2 ⊢
      obtain ⟨c1, c2⟩ := first_ref hl HN (l.length + 1) t1 s1 p1 b1 b2 b4 (by omega)
      cases h3 : firstS l m (l.length + 1) t1 s1 with
      | error e0 =>
       have := c1 e0 h3
       exact ⟨fun e he => (by injection he with he; rw [e2, ← he]; exact this), fun v2 s2 he => (by cases he)⟩
      | ok z =>
       obtain ⟨v2, s2⟩ := z
       obtain ⟨p2, w2, d1, d2, d3⟩ := c2 v2 s2 h3
       have g3 := first_le _ _ _ _ h3
       have g4 := first_hi _ _ _ _ h3 b4
       simp only at g3 g4
       rw [e2, d3]
       exact loop_ref hl HN k v2 s2 p2 w2 d1 (first_kd _ _ _ _ h3 hK1) d2 g4 (by omega)
    ·rw [if_neg c1]
     have hend : endsR t (putR v1 p) ∧ ((putR v1 p).nx = 1 ∨ (putR v1 p).nx = 3 ∨ (putR v1 p).nx = 5) := by
      refine ⟨⟨ne5, ?_⟩, Or.inr (Or.inr n5)⟩
      rw [l5, hl1]
      obtain ⟨n, hn, hm, hc⟩ := take_cls h1
      rcases hc with ⟨a, b, _⟩ | ⟨_, d, _⟩
      ·refine ⟨a, ?_⟩
       have n44 : n ≠ 44 := fun e => c1 (sK.2 ⟨a, (b 44).2 e⟩)
       unfold closing at hm
       rcases hkd with hkd | hkd
       ·rw [if_neg (by omega)] at hm
        have := (may_cls.2.2.2.2.2.2 n hn).1 hm
        refine Or.inl ⟨(b 93).2 ?_, hkd⟩
        have e93 : (93 : UInt8).toNat = 93 := rfl
        omega
       ·rw [if_pos hkd] at hm
        have := (may_cls.2.2.2.2.2.1 n hn).1 hm
        refine Or.inr ⟨(b 125).2 ?_, hkd⟩
        have e125 : (125 : UInt8).toNat = 125 := rfl
        omega
      ·exfalso
       unfold closing at hm
       split at hm
       ·have := (may_cls.2.2.2.2.2.1 n hn).1 hm; omega
       ·have := (may_cls.2.2.2.2.2.2 n hn).1 hm; omega
     have et : tokenR rl rd t (putR v1 p) = .ok (closeR (putR v1 p)) := by
      unfold tokenR
      rw [if_pos hend]
     rw [et] at e1
     simp only at e1
     have hRp : PRel { addV v s with i := t.to } { putR v1 p with nx := 5 } := hR.val hv hne _ _
     have hRq : PRel (closeS { addV v s with i := t.to }).2 { putR v1 p with hs := (putR v1 p).hs.dropLast } := by
      refine ⟨?_, hRp.dp, hRp.ps, fun z => ?_⟩
      ·show (putR v1 p).hs.dropLast.map shp = (addV v s).hs.dropLast.map shp
       rw [map_dropLast, map_dropLast]
       have := hRp.hs
       exact congrArg List.dropLast this
      ·show (putR v1 p).hs.dropLast = (addV v s).hs.dropLast
       have := hRp.eq z
       exact congrArg List.dropLast this
     have hKq : KD (closeS { addV v s with i := t.to }).2 := fun y hy => (hK.turn h0 (y := ((lastS s).1, (lastS s).2.1 ++ [v], (lastS s).2.2)) rfl) y (List.dropLast_subset _ hy)
     have hvq : (closeS { addV v s with i := t.to }).2.ps = 0 → hsV (lastP (putR v1 p)) = (closeS { addV v s with i := t.to }).1 := fun z => by
      have : lastP (putR v1 p) = lastS { addV v s with i := t.to } := by
       have := hRp.lastE z
       exact this
      rw [this]
      rfl
     rw [e1]
     exact loop_ref hl HN k _ (closeS { addV v s with i := t.to }).2 { putR v1 p with hs := (putR v1 p).hs.dropLast } _ hRq hKq hvq o1.2.1 (by show l.length < k + t.to; omega)
theorem judged_ref {l : List UInt8} {m : LM} {rl : List UInt8 → Nat} {rd : List UInt8 → JV} (HN : l.length ≤ 1048576 → NumOK l m rl rd) : judgedR l m rl rd = judgedS l m := by
 unfold judgedR judgedS
 by_cases hl : 1048576 < l.length
 ·rw [if_pos hl, if_pos hl]
 ·rw [if_neg hl, if_neg hl]
  have hl : l.length ≤ 1048576 := by omega
  have HN := HN hl
  have e1 := RR_0 (l := l) (rl := rl) (rd := rd) (p := ⟨[], 0, zeroJ 0, 0, 0⟩) (Nat.zero_le _) rfl
  unfold textS
  cases h1 : takeS fov l 0 with
  | error e0 =>
   rw [h1] at e1
   rw [e1]
  | ok t =>
   rw [h1] at e1
   have o1 := takeL_ok h1
   have e2 : RR l rl rd ⟨[], 0, zeroJ 0, 0, 0⟩ 0 = TK l rl rd t ⟨[], 0, zeroJ 0, 0, 0⟩ t.to := e1
   have hR0 : PRel ⟨t.to, [], 0, 0⟩ ⟨[], 0, zeroJ 0, 0, 0⟩ := ⟨rfl, rfl, rfl, fun _ => rfl⟩
   obtain ⟨c1, c2⟩ := first_ref hl HN (l.length + 1) t ⟨t.to, [], 0, 0⟩ _ hR0 ⟨0, Or.inl ⟨rfl, h1⟩⟩ o1.2.1 (by show l.length < l.length + 1 + t.to; omega)
   simp only
   cases h2 : firstS l m (l.length + 1) t ⟨t.to, [], 0, 0⟩ with
   | error e0 =>
    have := c1 e0 h2
    have e3 : TK l rl rd t ⟨[], 0, zeroJ 0, 0, 0⟩ t.to = .error e0 := this
    rw [e2, e3]
   | ok y =>
    obtain ⟨v, s⟩ := y
    obtain ⟨p1, w1, d1, d2, d3⟩ := c2 v s h2
    have e3 : TK l rl rd t ⟨[], 0, zeroJ 0, 0, 0⟩ t.to = RR l rl rd (putR w1 p1) s.i := d3
    have g4 := first_hi _ _ _ _ h2 o1.2.1
    have hK := first_kd _ _ _ _ h2 (fun x hx => by cases hx)
    simp only at g4 hK
    obtain ⟨q1, q2⟩ := loop_ref hl HN (l.length + 1) v s p1 w1 d1 hK d2 g4 (by omega)
    simp only
    cases h3 : loopS l m (l.length + 1) v s with
    | error e0 =>
     rw [e2, e3, q1 e0 h3]
    | ok z =>
     obtain ⟨v2, s2⟩ := z
     obtain ⟨p2, w2, r1, r2, r3, r4⟩ := q2 v2 s2 h3
     have g5 := loop_hi _ _ _ _ h3 g4
     simp only at g5
     have e4 : putR w2 p2 = { p2 with v := w2, nx := 6 } := by unfold putR; rw [if_pos r2]
     rw [e2, e3, r4, e4, RR_6 g5 rfl]
     simp only
     by_cases hp : Lx.pass l Lx.blankB s2.i < l.length
     ·rw [if_pos hp, if_pos hp]
     ·rw [if_neg hp, if_neg hp]
      simp only
      rw [r1.dp, r1.ps]
      by_cases z1 : m.dep < (s2.dp : Int)
      ·rw [if_pos z1, if_pos z1]
      ·rw [if_neg z1, if_neg z1]
       by_cases z2 : s2.ps = 0
       ·rw [if_neg (by simpa using z2), if_neg (by simpa using z2), r3 z2]
       ·rw [if_pos z2, if_pos z2]
end Go.Proofs.YtjakgdaodlgeaaaGreatDoor

namespace Go.Proofs.YtjakgdaodlgeaaaGreatDoor
open Go.RowKit
attribute [local go_sem] setCell_drewN alloc_drewN

structure Cuts (l : List UInt8) (lo hi : Nat) : Prop where
 le : lo ≤ hi
 hi' : hi ≤ l.length
 ahead : ∀ j c, j < lo → l[j]? = some c → c = 48
 first : lo = l.length ∨ ∀ c, l[lo]? = some c → c ≠ 48
 behind : ∀ j c, hi ≤ j → l[j]? = some c → c = 48
 last : hi = lo ∨ ∀ c, l[hi - 1]? = some c → c ≠ 48
theorem all48 {l : List UInt8} (h : ∀ (j : Nat) (c : UInt8), l[j]? = some c → c = 48) : ∀ x ∈ l, (x == 48) = true := by
 intro x hx
 obtain ⟨i, hi, e⟩ := List.mem_iff_getElem.1 hx
 have := h i x (by rw [List.getElem?_eq_getElem hi, e])
 subst this
 rfl
theorem drop_all {l : List UInt8} (h : ∀ x ∈ l, (x == 48) = true) (r : List UInt8) : (l ++ r).dropWhile (· == 48) = r.dropWhile (· == 48) := by
 induction l with
 | nil => rfl
 | cons c t ih =>
  rw [List.cons_append, List.dropWhile_cons, if_pos (h c (List.mem_cons_self ..))]
  exact ih (fun x hx => h x (List.mem_cons_of_mem _ hx))
theorem trimRight_zeros {a b : List UInt8} (h : ∀ x ∈ b, (x == 48) = true) : Lib.trimRightB (a ++ b) 48 = Lib.trimRightB a 48 := by
 unfold Lib.trimRightB
 rw [List.reverse_append, drop_all (fun x hx => h x (List.mem_reverse.1 hx))]
theorem trimLeft_zeros {a b : List UInt8} (h : ∀ x ∈ a, (x == 48) = true) : Lib.trimLeftB (a ++ b) 48 = Lib.trimLeftB b 48 := by
 unfold Lib.trimLeftB
 exact drop_all h b
theorem Cuts.none {l : List UInt8} {lo : Nat} (h : Cuts l lo lo) : Lib.trimLeftB (Lib.trimRightB l 48) 48 = [] := by
 have : ∀ x ∈ l, (x == 48) = true := all48 (fun j c hc => by
  by_cases hj : j < lo
  ·exact h.ahead j c hj hc
  ·exact h.behind j c (by omega) hc)
 have e := trimRight_zeros (a := []) this
 rw [List.nil_append] at e
 rw [e]
 rfl
theorem Cuts.some {l : List UInt8} {lo hi : Nat} (h : Cuts l lo hi) (hne : lo < hi) : Lib.trimRightB l 48 = l.take hi ∧ Lib.trimLeftB (Lib.trimRightB l 48) 48 = (l.take hi).drop lo ∧ (l.take hi).drop lo ≠ [] := by
 have hl := h.hi'
 have e1 : Lib.trimRightB l 48 = l.take hi := by
  have e := trimRight_zeros (a := l.take hi) (b := l.drop hi) (all48 (fun j c hc => by
   rw [List.getElem?_drop] at hc
   exact h.behind _ c (by omega) hc))
  rw [List.take_append_drop] at e
  rw [e]
  refine trimRight_id _ ?_
  rw [List.getLast?_eq_getElem?, List.length_take, Nat.min_eq_left hl, List.getElem?_take_of_lt (by omega)]
  rcases h.last with e | e
  ·omega
  ·intro hc
   exact e 48 hc rfl
 have e3 : (l.take hi).drop lo ≠ [] := by
  intro e
  have := congrArg List.length e
  simp at this
  omega
 refine ⟨e1, ?_, e3⟩
 rw [e1]
 have e := trimLeft_zeros (a := (l.take hi).take lo) (b := (l.take hi).drop lo) (all48 (fun j c hc => by
  have hj : j < lo := by
   rcases Nat.lt_or_ge j lo with q | q
   ·exact q
   ·rw [List.getElem?_eq_none (by simp; omega)] at hc; cases hc
  rw [List.getElem?_take_of_lt hj, List.getElem?_take_of_lt (by omega)] at hc
  exact h.ahead j c hj hc))
 rw [List.take_append_drop] at e
 rw [e]
 refine trimLeft_id _ ?_
 rw [List.head?_eq_getElem?, List.getElem?_drop, Nat.add_zero, List.getElem?_take_of_lt hne]
 rcases h.first with e | e
 ·omega
 ·intro hc
  exact e 48 hc rfl
end Go.Proofs.YtjakgdaodlgeaaaGreatDoor

namespace Go.Proofs.YtjakgdaodlgeaaaGreatDoor
open Go.RowKit

theorem drop_at {l : List UInt8} {i : Nat} {p : Int → Bool} (h : Lx.hasAt l i p = true) : ∃ c : UInt8, l.drop i = c :: l.drop (i + 1) ∧ p (c.toNat : Int) = true ∧ Lx.bx l i = (c.toNat : Int) := by
 have hi := Lx.hasAt_lt h
 refine ⟨l[i], List.drop_eq_getElem_cons hi, ?_, ?_⟩
 ·simp [Lx.hasAt, Lx.bx, hi] at h
  exact h
 ·simp [Lx.bx, hi]
theorem dig_isD (c : UInt8) : Lx.digitB (c.toNat : Int) = isD c := by
 unfold Lx.digitB isD
 by_cases a : 48 ≤ c.toNat <;> by_cases b : c.toNat ≤ 57 <;> simp [a, b] <;> omega
theorem pass_dig (l : List UInt8) : ∀ n i, l.length - i = n → ∃ D : List UInt8, l.drop i = D ++ l.drop (Lx.pass l Lx.digitB i) ∧ D.all isD = true
 | 0, i, h => by
  have : Lx.hasAt l i Lx.digitB = false := by
   cases e : Lx.hasAt l i Lx.digitB with
   | false => rfl
   | true => have := Lx.hasAt_lt e; omega
  rw [Lx.pass_stop this]
  exact ⟨[], rfl, rfl⟩
 | n + 1, i, h => by
  cases e : Lx.hasAt l i Lx.digitB with
  | false =>
   rw [Lx.pass_stop e]
   exact ⟨[], rfl, rfl⟩
  | true =>
   obtain ⟨c, h1, h2, _⟩ := drop_at e
   obtain ⟨D, h3, h4⟩ := pass_dig l n (i + 1) (by omega)
   rw [Lx.pass_go e]
   refine ⟨c :: D, by rw [h1, h3]; rfl, ?_⟩
   rw [List.all_cons, h4, ← dig_isD, h2]; rfl
theorem digits_parts {l : List UInt8} {i k : Nat} (h : Lx.digitsL l i = .ok k) : ∃ D : List UInt8, l.drop i = D ++ l.drop k ∧ D.all isD = true ∧ D ≠ [] := by
 unfold Lx.digitsL at h
 split at h
 ·rename_i g
  injection h with h
  obtain ⟨c, h1, h2, _⟩ := drop_at g
  obtain ⟨D, h3, h4⟩ := pass_dig l _ (i + 1) rfl
  rw [h] at h3
  refine ⟨c :: D, by rw [h1, h3]; rfl, ?_, by simp⟩
  rw [List.all_cons, h4, ← dig_isD, h2]; rfl
 ·cases h
theorem c_of {c n : UInt8} (h : ((c.toNat : Int) == (n.toNat : Int)) = true) : c = n := UInt8.toNat_inj.1 (by have := eq_of_beq h; omega)
structure NP (s : List UInt8) (M W F E : List UInt8) : Prop where
 eq : s = M ++ (W ++ (F ++ E))
 m : M = [] ∨ M = [45]
 w : W.all isD = true ∧ W ≠ [] ∧ (W = [48] ∨ W.head? ≠ some 48)
 f : F = [] ∨ ∃ D : List UInt8, F = 46 :: D ∧ D.all isD = true ∧ D ≠ []
 e : E = [] ∨ ∃ (c : UInt8) (G D : List UInt8), E = c :: (G ++ D) ∧ (c = 101 ∨ c = 69) ∧ (G = [] ∨ G = [43] ∨ G = [45]) ∧ D.all isD = true ∧ D ≠ []
theorem whole_parts2 {l : List UInt8} {i k : Nat} (h : Lx.wholeL l i = .ok k) : ∃ M W : List UInt8, l.drop i = M ++ (W ++ l.drop k) ∧ (M = [] ∨ M = [45]) ∧ W.all isD = true ∧ W ≠ [] ∧ (W = [48] ∨ W.head? ≠ some 48) := by
 obtain ⟨M, hM, hM2⟩ : ∃ M : List UInt8, l.drop i = M ++ l.drop (Lx.aft l i (· == 45)) ∧ (M = [] ∨ M = [45]) := by
  unfold Lx.aft
  split
  ·rename_i g
   obtain ⟨c, h1, h2, _⟩ := drop_at g
   have : c = 45 := c_of h2
   exact ⟨[45], by rw [h1, this]; rfl, Or.inr rfl⟩
  ·exact ⟨[], rfl, Or.inl rfl⟩
 unfold Lx.wholeL at h
 split at h
 ·rename_i g
  injection h with h
  obtain ⟨c, h1, h2, _⟩ := drop_at g
  have : c = 48 := c_of h2
  rw [h] at h1
  exact ⟨M, [48], by rw [hM, h1, this]; rfl, hM2, rfl, by simp, Or.inl rfl⟩
 ·rename_i g
  obtain ⟨D, h1, h2, h3⟩ := digits_parts h
  refine ⟨M, D, by rw [hM, h1], hM2, h2, h3, Or.inr fun hh => g ?_⟩
  cases D with
  | nil => simp at hh
  | cons c D =>
   obtain rfl : c = 48 := by simpa using hh
   have hlt : Lx.aft l i (· == 45) < l.length := by
    rcases Nat.lt_or_ge (Lx.aft l i (· == 45)) l.length with a | a
    ·exact a
    ·rw [List.drop_eq_nil_of_le a] at h1
     cases h1
   rw [List.drop_eq_getElem_cons hlt] at h1
   have h1 : l[Lx.aft l i (· == 45)] = 48 := by injection h1
   simp [Lx.hasAt, Lx.bx, hlt, h1]
theorem frac_parts {l : List UInt8} {k b : Nat} (h : Lx.fracPart l (.ok k) = .ok b) : ∃ F : List UInt8, l.drop k = F ++ l.drop b ∧ (F = [] ∨ ∃ D : List UInt8, F = 46 :: D ∧ D.all isD = true ∧ D ≠ []) := by
 unfold Lx.fracPart at h
 simp only at h
 split at h
 ·rename_i g
  obtain ⟨c, h1, h2, _⟩ := drop_at g
  have : c = 46 := c_of h2
  obtain ⟨D, h3, h4, h5⟩ := digits_parts h
  exact ⟨46 :: D, by rw [h1, h3, this]; rfl, Or.inr ⟨D, rfl, h4, h5⟩⟩
 ·injection h with h
  exact ⟨[], by rw [h]; rfl, Or.inl rfl⟩
theorem exp_parts {l : List UInt8} {k b : Nat} (h : Lx.expPart l (.ok k) = .ok b) : ∃ E : List UInt8, l.drop k = E ++ l.drop b ∧ (E = [] ∨ ∃ (c : UInt8) (G D : List UInt8), E = c :: (G ++ D) ∧ (c = 101 ∨ c = 69) ∧ (G = [] ∨ G = [43] ∨ G = [45]) ∧ D.all isD = true ∧ D ≠ []) := by
 unfold Lx.expPart at h
 simp only at h
 split at h
 ·rename_i g
  obtain ⟨c, h1, h2, _⟩ := drop_at g
  have hc : c = 101 ∨ c = 69 := by
   rcases Bool.or_eq_true _ _ ▸ h2 with a | a
   ·exact Or.inl (c_of a)
   ·exact Or.inr (c_of a)
  unfold Lx.exponentL at h
  obtain ⟨G, hG, hG2⟩ : ∃ G : List UInt8, l.drop (k + 1) = G ++ l.drop (Lx.aft l (k + 1) (fun c => c == 43 || c == 45)) ∧ (G = [] ∨ G = [43] ∨ G = [45]) := by
   unfold Lx.aft
   split
   ·rename_i g
    obtain ⟨c, h1, h2, _⟩ := drop_at g
    rcases Bool.or_eq_true _ _ ▸ h2 with a | a
    ·have : c = 43 := c_of a
     exact ⟨[43], by rw [h1, this]; rfl, Or.inr (Or.inl rfl)⟩
    ·have : c = 45 := c_of a
     exact ⟨[45], by rw [h1, this]; rfl, Or.inr (Or.inr rfl)⟩
   ·exact ⟨[], rfl, Or.inl rfl⟩
  obtain ⟨D, h3, h4, h5⟩ := digits_parts h
  exact ⟨c :: (G ++ D), by rw [h1, hG, h3]; simp, Or.inr ⟨c, G, D, rfl, hc, hG2, h4, h5⟩⟩
 ·injection h with h
  exact ⟨[], by rw [h]; rfl, Or.inl rfl⟩
theorem num_np {l : List UInt8} {i k : Nat} (h : Lx.numberL l i = .ok k) (hk : k ≤ l.length) : ∃ M W F E, NP (Lx.sub l i k) M W F E := by
 obtain ⟨a, b, h1, h2, h3, h4, h5, h6⟩ := Lx.number_parts h
 obtain ⟨M, W, e1, m, w⟩ := whole_parts2 h1
 obtain ⟨F, e2, f⟩ := frac_parts h2
 obtain ⟨E, e3, e⟩ := exp_parts h3
 refine ⟨M, W, F, E, ?_, m, w, f, e⟩
 have e4 : l.drop i = (M ++ (W ++ (F ++ E))) ++ l.drop k := by rw [e1, e2, e3]; simp
 have e5 : (M ++ (W ++ (F ++ E))).length = k - i := by
  have := congrArg List.length e4
  rw [List.length_append, List.length_drop, List.length_drop] at this
  omega
 unfold Lx.sub
 rw [e4, ← e5, List.take_left]
end Go.Proofs.YtjakgdaodlgeaaaGreatDoor

namespace Go.Proofs.YtjakgdaodlgeaaaGreatDoor
open Go.RowKit
attribute [local go_sem] setCell_drewN alloc_drewN

def vD (p : P3) : D3 := if dgOf p = [] then zeroD else ⟨p.neg, dgOf p, exOf 99999999 p⟩
end Go.Proofs.YtjakgdaodlgeaaaGreatDoor

namespace Go.Proofs.YtjakgdaodlgeaaaGreatDoor
open Go.RowKit

def TwDw (s : ByteArray) (i k : Nat) : Prop := tw (s.data.toList.drop i) = (s.data.toList.drop i).take (k - i) ∧ dw (s.data.toList.drop i) = s.data.toList.drop k
theorem TwDw.len {s : ByteArray} {i k : Nat} (h : TwDw s i k) : (tw (s.data.toList.drop i)).length ≤ s.size := by
 rw [h.1, List.length_take, List.length_drop, len_of]; omega
end Go.Proofs.YtjakgdaodlgeaaaGreatDoor

namespace Go.Proofs.YtjakgdaodlgeaaaGreatDoor
open Go.RowKit
attribute [local go_sem] setCell_drewN alloc_drewN

end Go.Proofs.YtjakgdaodlgeaaaGreatDoor

namespace Go.Proofs.YtjakgdaodlgeaaaGreatDoor
open Go.RowKit
attribute [local go_sem] setCell_drewN alloc_drewN

end Go.Proofs.YtjakgdaodlgeaaaGreatDoor

namespace Go.Proofs.YtjakgdaodlgeaaaGreatDoor
open Go.RowKit
attribute [local go_sem] setCell_drewN alloc_drewN

theorem pl_some {l : List UInt8} {p : P3} (h : cutL l = some p) : parseL l = if 65536 < (allOf p).length ∨ (vD p).ex < -1000000 ∨ 1000000 < (vD p).ex then (31, zeroD) else (0, vD p) := by
 unfold parseL
 rw [h]
 simp only
 rw [← value_cap 99999999 (by decide) p]
 unfold valueL vD
 by_cases h1 : 65536 < (allOf p).length
 ·rw [if_pos h1, if_pos (.inl h1)]
 ·rw [if_neg h1]
  by_cases h2 : dgOf p = []
  ·rw [if_pos h2, if_pos h2, if_neg]
   rintro (q | q | q)
   ·exact h1 q
   ·exact absurd q (by decide)
   ·exact absurd q (by decide)
  ·rw [if_neg h2, if_neg h2]
   by_cases h3 : exOf 99999999 p < -1000000 ∨ 1000000 < exOf 99999999 p
   ·rw [if_pos h3, if_pos (.inr h3)]
   ·rw [if_neg h3, if_neg]
    rintro (q | q)
    ·exact h1 q
    ·exact h3 q
end Go.Proofs.YtjakgdaodlgeaaaGreatDoor
