/-
  json's reader and the document's, to the end. Conditions: at most 2^20 bytes; of numbers the two say the same.
  The document's reader says what json's says. Conditions: at most 2^20 bytes for what is read; of numbers the two say the same.
  What ref3.far and ref3.Value answer: the number of parts, however far its exponent is. Conditions: the parts are digits.
-/
import Derived.Test.YtfoehebnmommfaaGreatDoorJoined30
import Derived.Test.YtfoehebnmommfaaGreatDoorJoined15
import Derived.Test.YtfoehebnmommfaaGreatDoorJoined0
namespace Go.Proofs.YtfoehebnmommfaaGreatDoor
open Go.RowKit

def NumOK (l : List UInt8) (m : LM) (rl : List UInt8 → Nat) (rd : List UInt8 → JV) : Prop := ∀ fs i t, takeS fs l i = .ok t → t.kind = 2 → rl t.text = (limL m t.text).2 ∧ ((limL m t.text).2 = 0 → rd t.text = numJ (limL m t.text).1)
def Acc (l : List UInt8) (t : Lx.Tok) (p : PR) : Prop := ∃ i0, (p.nx = 0 ∧ takeS fov l i0 = .ok t) ∨ (p.nx = 1 ∧ p.hs ≠ [] ∧ (lastP p).1 = 5 ∧ takeS fovC l i0 = .ok t) ∨ (p.nx = 3 ∧ p.hs ≠ [] ∧ (lastP p).1 = 6 ∧ sgnB t sgF = true ∧ takeS fosC l i0 = .ok t)
theorem Acc.take {l : List UInt8} {t : Lx.Tok} {p : PR} (h : Acc l t p) : ∃ fs i0, takeS fs l i0 = .ok t := by
 obtain ⟨i0, ⟨_, a⟩ | ⟨_, _, _, a⟩ | ⟨_, _, _, _, a⟩⟩ := h
 ·exact ⟨_, _, a⟩
 ·exact ⟨_, _, a⟩
 ·exact ⟨_, _, a⟩
theorem begin_last (k : Int) (p : PR) : lastP (beginR k p) = (k, [], []) ∧ (beginR k p).hs ≠ [] := by
 unfold lastP beginR
 simp
theorem word_ref {l : List UInt8} {fs : ByteArray} {i : Nat} {t : Lx.Tok} (hl : l.length ≤ 1048576) (h : takeS fs l i = .ok t) (hk : t.kind = 3) : (if t.text = [110, 117, 108, 108] then (0 : Int) else if t.text = [102, 97, 108, 115, 101] then 1 else 2) = wordL t.kind (txtB t) t.fr t.to := by
 obtain ⟨h1, _, h3, _⟩ := takeS_at h
 have hto := takeL_ok h
 rcases tok_cls h1 h3 with ⟨_, rfl⟩ | ⟨_, hfr, c3⟩
 ·simp at hk
 ·have hle := Lx.pass_le (l := l) (p := Lx.blankB) (i := i)
  rcases c3 with ⟨_, _, tx, te⟩ | ⟨_, _, tx, te⟩ | ⟨_, _, tx, te⟩ | ⟨_, d⟩ | ⟨_, d⟩
  ·unfold wordL isL jeqT txtB
   rw [tx]
   simp
  ·unfold wordL isL jeqT txtB
   rw [tx, if_neg (by decide), if_neg (by decide), if_pos]
   rw [decide_eq_true_eq]
   refine ⟨by omega, rfl, rfl, ?_⟩
   have e : ((⟨#[116, 114, 117, 101]⟩ : ByteArray).size : Int) = 4 := rfl
   rw [e]
   unfold wrap64
   omega
  ·unfold wordL isL jeqT txtB
   rw [tx, if_neg (by decide), if_pos rfl, if_neg, if_pos]
   ·rw [decide_eq_true_eq]
    refine ⟨by omega, rfl, rfl, ?_⟩
    have e : ((⟨#[102, 97, 108, 115, 101]⟩ : ByteArray).size : Int) = 5 := rfl
    rw [e]
    unfold wrap64
    omega
   ·rw [decide_eq_true_eq]
    rintro ⟨_, e, _⟩
    revert e
    decide
  ·omega
  ·omega
theorem first_ref {l : List UInt8} {m : LM} {rl : List UInt8 → Nat} {rd : List UInt8 → JV} (hl : l.length ≤ 1048576) (HN : NumOK l m rl rd) : ∀ k t s p, PRel s p → Acc l t p → s.i ≤ l.length → l.length < k + s.i →
  (∀ e, firstS l m k t s = .error e → TK l rl rd t p s.i = .error e) ∧ (∀ v s1, firstS l m k t s = .ok (v, s1) → ∃ p1 v1, PRel s1 p1 ∧ (s1.ps = 0 → v1 = v) ∧ TK l rl rd t p s.i = RR l rl rd (putR v1 p1) s1.i)
 | 0, _, s, _, _, _, hi, hk => by omega
 | k + 1, t, s, p, hR, hA, hi, hk => by
  obtain ⟨fs, i0, ht⟩ := hA.take
  have sA := sgn_iff hl ht 91
  have sO := sgn_iff hl ht 123
  have sE := sgn_iff hl ht 93
  have sF := sgn_iff hl ht 125
  have h01 : sgnB t sgF = true ∨ p.nx = 0 ∨ p.nx = 1 := by
   obtain ⟨i1, ⟨a, _⟩ | ⟨a, _⟩ | ⟨_, _, _, a, _⟩⟩ := hA
   ·exact Or.inr (Or.inl a)
   ·exact Or.inr (Or.inr a)
   ·exact Or.inl a
  have tokV : (p.nx = 0 ∨ p.nx = 1) → ¬ (t.kind = 4 ∧ (t.text = [93] ∨ t.text = [125])) → tokenR rl rd t p = match valueR rl rd t p with | some q => .ok q | none => .error (t.fr + 1) := fun hnx hno => by
   unfold tokenR
   rw [if_neg (fun h => hno ⟨h.1.2.1, by rcases h.1.2.2 with e | e; exact Or.inl e.1; exact Or.inr e.1⟩), if_neg (fun h => by omega), if_neg (fun h => by omega), if_neg (fun h => by omega), if_pos hnx]
   cases valueR rl rd t p <;> rfl
  unfold firstS
  by_cases c1 : sgnB t sgA = true
  ·obtain ⟨k4, tx⟩ := sA.1 c1
   have hnx : p.nx = 0 ∨ p.nx = 1 := by
    rcases h01 with e | e
    ·have := (sF.1 e).2; rw [tx] at this; simp at this
    ·exact e
   have e1 : TK l rl rd t p s.i = RR l rl rd (beginR 5 p) s.i := by
    unfold TK
    rw [tokV hnx (by rw [tx]; simp)]
    have : valueR rl rd t p = some (beginR 5 p) := by
     unfold valueR
     rw [if_neg (by omega), if_neg (by omega), if_neg (by omega), if_pos ⟨k4, tx⟩]
    rw [this]
   rw [RR_1 hi (show (beginR 5 p).nx = 1 by simp [beginR]) (by rw [(begin_last 5 p).1])] at e1
   rw [if_pos c1]
   cases h1 : takeS fovC l s.i with
   | error e0 =>
    rw [h1] at e1
    exact ⟨fun e he => (by injection he with he; rw [e1, he]), fun v s1 he => (by cases he)⟩
   | ok t1 =>
    rw [h1] at e1
    have o1 := takeL_ok h1
    have ih := first_ref hl HN k t1 { openS 5 s with i := t1.to } (beginR 5 p) (hR.open 5 t1.to) ⟨_, Or.inr (Or.inl ⟨by simp [beginR], (begin_last 5 p).2, by rw [(begin_last 5 p).1], h1⟩)⟩ o1.2.1 (by show l.length < k + t1.to; omega)
    have e2 : TK l rl rd t p s.i = TK l rl rd t1 (beginR 5 p) t1.to := e1
    rw [e2]
    exact ih
  ·rw [if_neg c1]
   by_cases c2 : sgnB t sgO = true
   ·obtain ⟨k4, tx⟩ := sO.1 c2
    have hnx : p.nx = 0 ∨ p.nx = 1 := by
     rcases h01 with e | e
     ·have := (sF.1 e).2; rw [tx] at this; simp at this
     ·exact e
    have e1 : TK l rl rd t p s.i = RR l rl rd (beginR 6 p) s.i := by
     unfold TK
     rw [tokV hnx (by rw [tx]; simp)]
     have : valueR rl rd t p = some (beginR 6 p) := by
      unfold valueR
      rw [if_neg (by omega), if_neg (by omega), if_neg (by omega), if_neg (by rw [tx]; simp), if_pos ⟨k4, tx⟩]
     rw [this]
    rw [RR_3 hi (show (beginR 6 p).nx = 3 by simp [beginR]) (by rw [(begin_last 6 p).1])] at e1
    rw [if_pos c2]
    cases h1 : takeS fosC l s.i with
    | error e0 =>
     rw [h1] at e1
     exact ⟨fun e he => (by injection he with he; rw [e1, he]), fun v s1 he => (by cases he)⟩
    | ok t1 =>
     rw [h1] at e1
     have o1 := takeL_ok h1
     have e2 : TK l rl rd t p s.i = TK l rl rd t1 (beginR 6 p) t1.to := e1
     rw [e2]
     simp only
     by_cases c3 : sgnB t1 sgF = true
     ·rw [if_pos c3]
      exact first_ref hl HN k t1 { openS 6 s with i := t1.to } (beginR 6 p) (hR.open 6 t1.to) ⟨_, Or.inr (Or.inr ⟨by simp [beginR], (begin_last 6 p).2, by rw [(begin_last 6 p).1], c3, h1⟩)⟩ o1.2.1 (by show l.length < k + t1.to; omega)
     ·rw [if_neg c3]
      have hkd := key_kind hl h1 (by simpa using c3)
      obtain ⟨v1, v2⟩ := valueOf_ref (rl := rl) (rd := rd) (hR.open 6 t1.to) (Or.inr (by simp [beginR])) hkd (show ({ openS 6 s with i := t1.to } : SS).i ≤ l.length from o1.2.1)
      cases h2 : valueOfS l t1 { openS 6 s with i := t1.to } with
      | error e0 =>
       exact ⟨fun e he => (by injection he with he; rw [← he]; exact v1 e0 h2), fun v s1 he => (by cases he)⟩
      | ok y =>
       obtain ⟨t3, s3⟩ := y
       obtain ⟨p3, a1, a2, a3, a4, a5⟩ := v2 t3 s3 h2
       have e5 : TK l rl rd t1 (beginR 6 p) t1.to = TK l rl rd t3 p3 s3.i := a3
       rw [e5]
       obtain ⟨i3, a4⟩ := a4
       have o2 := (valueOfS_ok h2).1
       have e6 : ({ openS 6 s with i := t1.to } : SS).i = t1.to := rfl
       rw [e6] at o2
       simp only at o2
       exact first_ref hl HN k t3 s3 p3 a1 ⟨i3, Or.inl ⟨a2, a4⟩⟩ a5 (by omega)
   ·rw [if_neg c2]
    by_cases c3 : sgnB t sgE = true ∨ sgnB t sgF = true
    ·rw [if_pos c3]
     have hend : endsR t p ∧ (p.nx = 1 ∨ p.nx = 3 ∨ p.nx = 5) := by
      obtain ⟨i1, ⟨a, b⟩ | ⟨a, b, c, d⟩ | ⟨a, b, c, d, _⟩⟩ := hA
      ·exact absurd c3 (take_fov b)
      ·obtain ⟨n, hn, hm, hc⟩ := take_cls d
       have hm := (may_cls.2.1 n hn).1 hm
       refine ⟨⟨b, ?_, Or.inl ⟨?_, c⟩⟩, Or.inl a⟩
       ·rcases c3 with e | e
        ·exact (sE.1 e).1
        ·exact (sF.1 e).1
       ·rcases c3 with e | e
        ·exact (sE.1 e).2
        ·exfalso
         obtain ⟨x1, x2⟩ := sF.1 e
         rcases hc with ⟨_, y, _⟩ | ⟨y, _⟩
         ·have := (y 125).1 x2
          have e125 : (125 : UInt8).toNat = 125 := rfl
          omega
         ·omega
      ·exact ⟨⟨b, (sF.1 d).1, Or.inr ⟨(sF.1 d).2, c⟩⟩, Or.inr (Or.inl a)⟩
     have e1 : TK l rl rd t p s.i = RR l rl rd (closeR p) s.i := by
      unfold TK tokenR
      rw [if_pos hend]
     refine ⟨fun e he => (by cases he), fun v s1 he => ?_⟩
     injection he with he
     injection he with he1 he2
     refine ⟨{ p with hs := p.hs.dropLast }, hsV (lastP p), ?_, fun h0 => ?_, ?_⟩
     ·rw [← he2]
      refine ⟨?_, hR.dp, hR.ps, fun h0 => ?_⟩
      ·show p.hs.dropLast.map shp = s.hs.dropLast.map shp
       rw [map_dropLast, map_dropLast, hR.hs]
      ·show p.hs.dropLast = s.hs.dropLast
       rw [hR.eq h0]
     ·rw [← he2] at h0
      rw [hR.lastE h0, ← he1]
      rfl
     ·rw [e1, ← he2]
      rfl
    ·rw [if_neg c3]
     have hnx : p.nx = 0 ∨ p.nx = 1 := by
      rcases h01 with e | e
      ·exact absurd (Or.inr e) c3
      ·exact e
     have hno : ¬ (t.kind = 4 ∧ (t.text = [93] ∨ t.text = [125])) := by
      rintro ⟨a, b | b⟩
      ·exact c3 (Or.inl (sE.2 ⟨a, b⟩))
      ·exact c3 (Or.inr (sF.2 ⟨a, b⟩))
     have hkd : t.kind = 1 ∨ t.kind = 2 ∨ t.kind = 3 := by
      obtain ⟨n, hn, hm, hc⟩ := take_cls ht
      rcases hc with ⟨a, b, c⟩ | ⟨a, _⟩
      ·exfalso
       have hm' : n = 91 ∨ n = 123 ∨ n = 93 := by
        obtain ⟨i1, ⟨x, y⟩ | ⟨x, _, _, y⟩ | ⟨x, _⟩⟩ := hA
        ·obtain ⟨n', hn', hm', hc'⟩ := take_cls y
         have := (may_cls.1 n' hn').1 hm'
         rcases hc' with ⟨_, b', _⟩ | ⟨d, _⟩
         ·rcases this with h | h | h | h | h | h | h | h
          ·omega
          ·exact Or.inl ((b 91).1 ((b' 91).2 h))
          ·exact Or.inr (Or.inl ((b 123).1 ((b' 123).2 h)))
          ·omega
          ·omega
          ·omega
          ·omega
          ·omega
         ·omega
        ·obtain ⟨n', hn', hm', hc'⟩ := take_cls y
         have := (may_cls.2.1 n' hn').1 hm'
         rcases hc' with ⟨_, b', _⟩ | ⟨d, _⟩
         ·rcases this with h | h | h | h | h | h | h | h | h
          ·omega
          ·exact Or.inl ((b 91).1 ((b' 91).2 h))
          ·exact Or.inr (Or.inl ((b 123).1 ((b' 123).2 h)))
          ·omega
          ·omega
          ·omega
          ·omega
          ·omega
          ·exact Or.inr (Or.inr ((b 93).1 ((b' 93).2 h)))
         ·omega
        ·omega
       rcases hm' with h | h | h
       ·exact c1 (sA.2 ⟨a, (b 91).2 h⟩)
       ·exact c2 (sO.2 ⟨a, (b 123).2 h⟩)
       ·exact c3 (Or.inl (sE.2 ⟨a, (b 93).2 h⟩))
      ·exact a
     refine ⟨fun e he => (by cases he), fun v s1 he => ?_⟩
     injection he with he
     injection he with he1 he2
     have e0 : TK l rl rd t p s.i = match valueR rl rd t p with | some q => RR l rl rd q s.i | none => .error (t.fr + 1) := by
      unfold TK
      rw [tokV hnx hno]
      cases valueR rl rd t p <;> rfl
     rcases hkd with hkd | hkd | hkd
     ·have hs : simpleS m t s.ps = (.mk 4 false ⟨#[]⟩ 0 (txtB t) [] [], s.ps) := by unfold simpleS; rw [if_pos hkd]
      have hv : valueR rl rd t p = some (putR (.mk 4 false ⟨#[]⟩ 0 (txtB t) [] []) p) := by unfold valueR; rw [if_pos hkd]
      rw [hs] at he1 he2
      rw [hv] at e0
      exact ⟨p, _, by rw [← he2]; exact hR, fun _ => he1, by rw [e0, ← he2]⟩
     ·obtain ⟨n1, n2⟩ := HN _ _ _ ht hkd
      have hv : valueR rl rd t p = some (putR (rd t.text) { p with ps := if p.ps ≠ 0 then p.ps else rl t.text }) := by unfold valueR; rw [if_neg (by omega), if_pos hkd]
      rw [hv] at e0
      have hs2 : (simpleS m t s.ps).2 = if p.ps ≠ 0 then p.ps else rl t.text := by
       unfold simpleS
       rw [if_neg (by omega), if_pos hkd, hR.ps, n1]
       split <;> rfl
      refine ⟨_, _, ?_, fun h0 => ?_, by rw [e0, ← he2]⟩
      ·rw [← he2]
       refine ⟨hR.hs, hR.dp, hs2.symm, fun h0 => hR.eq (simple_ps t s.ps h0)⟩
      ·rw [← he2] at h0
       have hp0 := simple_ps t s.ps h0
       rw [← he1]
       unfold simpleS at h0 ⊢
       rw [if_neg (by omega), if_pos hkd, if_neg (by simpa using hp0)] at h0 ⊢
       exact n2 h0
     ·have hs : simpleS m t s.ps = (zeroJ (wordL t.kind (txtB t) t.fr t.to), s.ps) := by unfold simpleS; rw [if_neg (by omega), if_neg (by omega)]
      have hv : valueR rl rd t p = some (putR (zeroJ (if t.text = [110, 117, 108, 108] then 0 else if t.text = [102, 97, 108, 115, 101] then 1 else 2)) p) := by unfold valueR; rw [if_neg (by omega), if_neg (by omega), if_pos hkd]
      rw [hs] at he1 he2
      rw [hv, word_ref hl ht hkd] at e0
      exact ⟨p, _, by rw [← he2]; exact hR, fun _ => he1, by rw [e0, ← he2]⟩
theorem nextOf_ref {l : List UInt8} {rl : List UInt8 → Nat} {rd : List UInt8 → JV} {s : SS} {p : PR} (hR : PRel s p) (hnx : p.nx = if (lastP p).1 = 6 then 2 else 0) (hi : s.i ≤ l.length) :
  (∀ e, nextOfS l s = .error e → RR l rl rd p s.i = .error e) ∧ (∀ t1 s1, nextOfS l s = .ok (t1, s1) → ∃ p1, PRel s1 p1 ∧ Acc l t1 p1 ∧ RR l rl rd p s.i = TK l rl rd t1 p1 s1.i ∧ s1.i ≤ l.length) := by
 have hl1 := hR.last1
 by_cases h6 : (lastS s).1 = 6
 ·have n2 : p.nx = 2 := by rw [hnx, if_pos (by rw [hl1]; exact h6)]
  have e1 := RR_2 (rl := rl) (rd := rd) hi n2
  unfold nextOfS
  rw [if_pos h6]
  cases h1 : takeS fos l s.i with
  | error e0 =>
   rw [h1] at e1
   exact ⟨fun e he => (by injection he with he; rw [e1, he]), fun v s1 he => (by cases he)⟩
  | ok t =>
   rw [h1] at e1
   have o1 := takeL_ok h1
   have e2 : RR l rl rd p s.i = TK l rl rd t p t.to := e1
   have hkd := key_kind' h1
   obtain ⟨v1, v2⟩ := valueOf_ref (rl := rl) (rd := rd) (s := { s with i := t.to }) (p := p) ⟨hR.hs, hR.dp, hR.ps, hR.eq⟩ (Or.inl n2) hkd (show ({ s with i := t.to } : SS).i ≤ l.length from o1.2.1)
   refine ⟨fun e he => ?_, fun t3 s3 he => ?_⟩
   ·rw [e2]; exact v1 e he
   ·obtain ⟨p3, a1, a2, a3, ⟨i3, a4⟩, a5⟩ := v2 t3 s3 he
    exact ⟨p3, a1, ⟨i3, Or.inl ⟨a2, a4⟩⟩, by rw [e2]; exact a3, a5⟩
 ·have n0 : p.nx = 0 := by rw [hnx, if_neg (by rw [hl1]; exact h6)]
  have e1 := RR_0 (rl := rl) (rd := rd) hi n0
  unfold nextOfS
  rw [if_neg h6]
  cases h1 : takeS fov l s.i with
  | error e0 =>
   rw [h1] at e1
   exact ⟨fun e he => (by injection he with he; rw [e1, he]), fun v s1 he => (by cases he)⟩
  | ok t =>
   rw [h1] at e1
   have o1 := takeL_ok h1
   refine ⟨fun e he => (by cases he), fun t3 s3 he => ?_⟩
   injection he with he
   injection he with he1 he2
   subst he1 he2
   exact ⟨p, ⟨hR.hs, hR.dp, hR.ps, hR.eq⟩, ⟨_, Or.inl ⟨n0, h1⟩⟩, e1, o1.2.1⟩
theorem RR_6 {l : List UInt8} {rl : List UInt8 → Nat} {rd : List UInt8 → JV} {p : PR} {i : Nat} (hi : i ≤ l.length) (h : p.nx = 6) : RR l rl rd p i = if Lx.pass l Lx.blankB i < l.length then .error (Lx.pass l Lx.blankB i + 1) else .ok p := by
 rw [RR_step hi]
 have hle := Lx.pass_le (l := l) (p := Lx.blankB) hi
 by_cases hP : Lx.pass l Lx.blankB i < l.length
 ·rw [if_pos hP]
  have hnx : Lx.nextL l i = Lx.readL l (Lx.pass l Lx.blankB i) := rfl
  rw [hnx]
  cases hr : Lx.readL l (Lx.pass l Lx.blankB i) with
  | error e =>
   simp only
   rw [if_neg]
   rintro (a | a | a)
   ·omega
   ·omega
   ·exact st_no (by omega) (by omega) a
  | ok t =>
   have hk := Lx.read_kind hP hr
   have hfr := Lx.read_fr hr
   simp only
   rw [if_neg hk, token_else (fun h => by omega) (fun h => by omega) (fun h => by omega) (fun h => by omega) (fun h => by omega), hfr]
 ·rw [if_neg hP]
  have he : Lx.pass l Lx.blankB i = l.length := by omega
  have hnx : Lx.nextL l i = .ok ⟨0, [], l.length, l.length⟩ := by unfold Lx.nextL Lx.readL; rw [if_pos he, he]
  rw [hnx]
  simp only [↓reduceIte]
  rw [if_pos h]
end Go.Proofs.YtfoehebnmommfaaGreatDoor

namespace Go.Proofs.YtfoehebnmommfaaGreatDoor
open Go.RowKit

def KD (s : SS) : Prop := ∀ h ∈ s.hs, h.1 = 5 ∨ h.1 = 6
theorem KD.last {s : SS} (h : KD s) (h0 : s.hs ≠ []) : (lastS s).1 = 5 ∨ (lastS s).1 = 6 := by
 unfold lastS
 cases e : s.hs with
 | nil => exact absurd e h0
 | cons a l =>
  rw [List.getLastD_cons]
  exact h _ (by rw [e]; exact getLastD_mem l a)
theorem KD.open {s : SS} (h : KD s) {k : Int} (hk : k = 5 ∨ k = 6) (i : Nat) : KD { openS k s with i := i } := fun x hx => by
 have hx : x ∈ s.hs ++ [(k, [], [])] := hx
 rcases List.mem_append.1 hx with hx | hx
 ·exact h x hx
 ·obtain rfl : x = (k, [], []) := by simpa using hx
  exact hk
theorem KD.turn {s : SS} (h : KD s) (h0 : s.hs ≠ []) {y : HS} (hy : y.1 = (lastS s).1) : ∀ x ∈ s.hs.dropLast ++ [y], x.1 = 5 ∨ x.1 = 6 := fun x hx => by
 rcases List.mem_append.1 hx with hx | hx
 ·exact h x (List.dropLast_subset _ hx)
 ·obtain rfl : x = y := by simpa using hx
  rw [hy]; exact h.last h0
theorem valueOf_kd {l : List UInt8} {t : Lx.Tok} {s : SS} {x : Lx.Tok × SS} (h : valueOfS l t s = .ok x) (hk : KD s) (h0 : s.hs ≠ []) : KD x.2 := by
 unfold valueOfS at h
 split at h
 ·cases h
 ·split at h
  ·cases h
  ·split at h
   ·cases h
   ·injection h with h
    rw [← h]
    exact hk.turn h0 rfl
theorem nextOf_kd {l : List UInt8} {s : SS} {x : Lx.Tok × SS} (h : nextOfS l s = .ok x) (hk : KD s) (h0 : s.hs ≠ []) : KD x.2 := by
 unfold nextOfS at h
 split at h
 ·split at h
  ·cases h
  ·exact valueOf_kd h hk h0
 ·split at h
  ·cases h
  ·injection h with h
   rw [← h]
   exact hk
theorem first_kd {l : List UInt8} {m : LM} : ∀ k t s x, firstS l m k t s = .ok x → KD s → KD x.2
 | 0, _, _, _, h, _ => by simp [firstS] at h
 | k + 1, t, s, x, h, hk => by
  unfold firstS at h
  split at h
  ·split at h
   ·cases h
   ·exact first_kd k _ _ _ h (hk.open (Or.inl rfl) _)
  ·split at h
   ·split at h
    ·cases h
    ·rename_i t1 h1
     split at h
     ·exact first_kd k _ _ _ h (hk.open (Or.inr rfl) _)
     ·split at h
      ·cases h
      ·rename_i t2 s2 h2
       exact first_kd k _ _ _ h (valueOf_kd h2 (hk.open (Or.inr rfl) _) (by show s.hs ++ _ ≠ []; simp))
   ·split at h
    ·injection h with h; rw [← h]; exact fun y hy => hk y (List.dropLast_subset _ hy)
    ·injection h with h; rw [← h]; exact hk
theorem put_last {v : JV} {p : PR} (hne : p.hs ≠ []) : (putR v p).nx = 5 ∧ (lastP (putR v p)).1 = (lastP p).1 ∧ (putR v p).hs ≠ [] ∧ (putR v p).hs = p.hs.dropLast ++ [((lastP p).1, (lastP p).2.1 ++ [v], (lastP p).2.2)] := by
 unfold putR
 rw [if_neg hne]
 refine ⟨rfl, ?_, by simp, rfl⟩
 unfold lastP
 simp
theorem loop_ref {l : List UInt8} {m : LM} {rl : List UInt8 → Nat} {rd : List UInt8 → JV} (hl : l.length ≤ 1048576) (HN : NumOK l m rl rd) : ∀ k v s p v1, PRel s p → KD s → (s.ps = 0 → v1 = v) → s.i ≤ l.length → l.length < k + s.i →
  (∀ e, loopS l m k v s = .error e → RR l rl rd (putR v1 p) s.i = .error e) ∧ (∀ v2 s2, loopS l m k v s = .ok (v2, s2) → ∃ p2 v3, PRel s2 p2 ∧ p2.hs = [] ∧ (s2.ps = 0 → v3 = v2) ∧ RR l rl rd (putR v1 p) s.i = RR l rl rd (putR v3 p2) s2.i)
 | 0, _, s, _, _, _, _, _, hi, hk => by omega
 | k + 1, v, s, p, v1, hR, hK, hv, hi, hk => by
  unfold loopS
  by_cases h0 : s.hs = []
  ·rw [if_pos h0]
   refine ⟨fun e he => (by cases he), fun v2 s2 he => ?_⟩
   injection he with he
   injection he with he1 he2
   subst he1 he2
   exact ⟨p, v1, hR, hR.nil.2 h0, hv, rfl⟩
  ·rw [if_neg h0]
   have hne : p.hs ≠ [] := fun e => h0 (hR.nil.1 e)
   obtain ⟨n5, l5, ne5, _⟩ := put_last (v := v1) hne
   have hl1 := hR.last1
   have hkd := hK.last h0
   have e1 := RR_5 (rl := rl) (rd := rd) hi n5 (by rw [l5, hl1]; exact hkd)
   have ec : (if (lastP (putR v1 p)).1 = 6 then (⟨#[44, 125]⟩ : ByteArray) else ⟨#[44, 93]⟩) = closing s := by unfold closing; rw [l5, hl1]
   rw [ec] at e1
   cases h1 : takeS (closing s) l s.i with
   | error e0 =>
    rw [h1] at e1
    exact ⟨fun e he => (by injection he with he; rw [e1, he]), fun v2 s2 he => (by cases he)⟩
   | ok t =>
    rw [h1] at e1
    have o1 := takeL_ok h1
    simp only at e1 ⊢
    have sK := sgn_iff hl h1 44
    by_cases c1 : sgnB t sgK = true
    ·rw [if_pos c1]
     obtain ⟨k4, tx⟩ := sK.1 c1
     have et : tokenR rl rd t (putR v1 p) = .ok { putR v1 p with nx := if (lastP (putR v1 p)).1 = 6 then 2 else 0 } := by
      unfold tokenR
      rw [if_neg, if_pos ⟨n5, k4, tx⟩]
      rintro ⟨⟨_, _, e⟩, _⟩
      rw [tx] at e
      simp at e
     rw [et] at e1
     simp only at e1
     obtain ⟨pp, hpp⟩ : ∃ pp : PR, pp = { putR v1 p with nx := if (lastP (putR v1 p)).1 = 6 then 2 else 0 } := ⟨_, rfl⟩
     rw [← hpp] at e1
     have hRp : PRel { addV v s with i := t.to } pp := by rw [hpp]; exact hR.val hv hne _ _
     have hpl : lastP pp = lastP (putR v1 p) := by rw [hpp]; rfl
     obtain ⟨a1, a2⟩ := nextOf_ref (l := l) (rl := rl) (rd := rd) (s := { addV v s with i := t.to }) (p := pp) hRp (by rw [hpl, hpp]) o1.2.1
     cases h2 : nextOfS l { addV v s with i := t.to } with
     | error e0 =>
      have := a1 e0 h2
      exact ⟨fun e he => (by injection he with he; rw [e1, ← he]; exact this), fun v2 s2 he => (by cases he)⟩
     | ok y =>
      obtain ⟨t1, s1⟩ := y
      obtain ⟨p1, b1, b2, b3, b4⟩ := a2 t1 s1 h2
      have e2 : RR l rl rd (putR v1 p) s.i = TK l rl rd t1 p1 s1.i := by rw [e1]; exact b3
      have hadd : ({ addV v s with i := t.to } : SS).hs ≠ [] := by show s.hs.dropLast ++ _ ≠ []; simp
      have hKa : KD { addV v s with i := t.to } := hK.turn h0 rfl
      have hK1 := nextOf_kd h2 hKa hadd
      have g2 := nextOf_le h2
      have e6 : ({ addV v s with i := t.to } : SS).i = t.to := rfl
      rw [e6] at g2
      simp only at g2 ⊢
      obtain ⟨c1, c2⟩ := first_ref hl HN (l.length + 1) t1 s1 p1 b1 b2 b4 (by omega)
      cases h3 : firstS l m (l.length + 1) t1 s1 with
      | error e0 =>
       have := c1 e0 h3
       exact ⟨fun e he => (by injection he with he; rw [e2, ← he]; exact this), fun v2 s2 he => (by cases he)⟩
      | ok z =>
       obtain ⟨v2, s2⟩ := z
       obtain ⟨p2, w2, d1, d2, d3⟩ := c2 v2 s2 h3
       have g3 := first_le _ _ _ _ h3
       have g4 := first_hi _ _ _ _ h3 b4
       simp only at g3 g4
       rw [e2, d3]
       exact loop_ref hl HN k v2 s2 p2 w2 d1 (first_kd _ _ _ _ h3 hK1) d2 g4 (by omega)
    ·rw [if_neg c1]
     have hend : endsR t (putR v1 p) ∧ ((putR v1 p).nx = 1 ∨ (putR v1 p).nx = 3 ∨ (putR v1 p).nx = 5) := by
      refine ⟨⟨ne5, ?_⟩, Or.inr (Or.inr n5)⟩
      rw [l5, hl1]
      obtain ⟨n, hn, hm, hc⟩ := take_cls h1
      rcases hc with ⟨a, b, _⟩ | ⟨_, d, _⟩
      ·refine ⟨a, ?_⟩
       have n44 : n ≠ 44 := fun e => c1 (sK.2 ⟨a, (b 44).2 e⟩)
       unfold closing at hm
       rcases hkd with hkd | hkd
       ·rw [if_neg (by omega)] at hm
        have := (may_cls.2.2.2.2.2.2 n hn).1 hm
        refine Or.inl ⟨(b 93).2 ?_, hkd⟩
        have e93 : (93 : UInt8).toNat = 93 := rfl
        omega
       ·rw [if_pos hkd] at hm
        have := (may_cls.2.2.2.2.2.1 n hn).1 hm
        refine Or.inr ⟨(b 125).2 ?_, hkd⟩
        have e125 : (125 : UInt8).toNat = 125 := rfl
        omega
      ·exfalso
       unfold closing at hm
       split at hm
       ·have := (may_cls.2.2.2.2.2.1 n hn).1 hm; omega
       ·have := (may_cls.2.2.2.2.2.2 n hn).1 hm; omega
     have et : tokenR rl rd t (putR v1 p) = .ok (closeR (putR v1 p)) := by
      unfold tokenR
      rw [if_pos hend]
     rw [et] at e1
     simp only at e1
     have hRp : PRel { addV v s with i := t.to } { putR v1 p with nx := 5 } := hR.val hv hne _ _
     have hRq : PRel (closeS { addV v s with i := t.to }).2 { putR v1 p with hs := (putR v1 p).hs.dropLast } := by
      refine ⟨?_, hRp.dp, hRp.ps, fun z => ?_⟩
      ·show (putR v1 p).hs.dropLast.map shp = (addV v s).hs.dropLast.map shp
       rw [map_dropLast, map_dropLast]
       have := hRp.hs
       exact congrArg List.dropLast this
      ·show (putR v1 p).hs.dropLast = (addV v s).hs.dropLast
       have := hRp.eq z
       exact congrArg List.dropLast this
     have hKq : KD (closeS { addV v s with i := t.to }).2 := fun y hy => (hK.turn h0 (y := ((lastS s).1, (lastS s).2.1 ++ [v], (lastS s).2.2)) rfl) y (List.dropLast_subset _ hy)
     have hvq : (closeS { addV v s with i := t.to }).2.ps = 0 → hsV (lastP (putR v1 p)) = (closeS { addV v s with i := t.to }).1 := fun z => by
      have : lastP (putR v1 p) = lastS { addV v s with i := t.to } := by
       have := hRp.lastE z
       exact this
      rw [this]
      rfl
     rw [e1]
     exact loop_ref hl HN k _ (closeS { addV v s with i := t.to }).2 { putR v1 p with hs := (putR v1 p).hs.dropLast } _ hRq hKq hvq o1.2.1 (by show l.length < k + t.to; omega)
theorem judged_ref {l : List UInt8} {m : LM} {rl : List UInt8 → Nat} {rd : List UInt8 → JV} (HN : l.length ≤ 1048576 → NumOK l m rl rd) : judgedR l m rl rd = judgedS l m := by
 unfold judgedR judgedS
 by_cases hl : 1048576 < l.length
 ·rw [if_pos hl, if_pos hl]
 ·rw [if_neg hl, if_neg hl]
  have hl : l.length ≤ 1048576 := by omega
  have HN := HN hl
  have e1 := RR_0 (l := l) (rl := rl) (rd := rd) (p := ⟨[], 0, zeroJ 0, 0, 0⟩) (Nat.zero_le _) rfl
  unfold textS
  cases h1 : takeS fov l 0 with
  | error e0 =>
   rw [h1] at e1
   rw [e1]
  | ok t =>
   rw [h1] at e1
   have o1 := takeL_ok h1
   have e2 : RR l rl rd ⟨[], 0, zeroJ 0, 0, 0⟩ 0 = TK l rl rd t ⟨[], 0, zeroJ 0, 0, 0⟩ t.to := e1
   have hR0 : PRel ⟨t.to, [], 0, 0⟩ ⟨[], 0, zeroJ 0, 0, 0⟩ := ⟨rfl, rfl, rfl, fun _ => rfl⟩
   obtain ⟨c1, c2⟩ := first_ref hl HN (l.length + 1) t ⟨t.to, [], 0, 0⟩ _ hR0 ⟨0, Or.inl ⟨rfl, h1⟩⟩ o1.2.1 (by show l.length < l.length + 1 + t.to; omega)
   simp only
   cases h2 : firstS l m (l.length + 1) t ⟨t.to, [], 0, 0⟩ with
   | error e0 =>
    have := c1 e0 h2
    have e3 : TK l rl rd t ⟨[], 0, zeroJ 0, 0, 0⟩ t.to = .error e0 := this
    rw [e2, e3]
   | ok y =>
    obtain ⟨v, s⟩ := y
    obtain ⟨p1, w1, d1, d2, d3⟩ := c2 v s h2
    have e3 : TK l rl rd t ⟨[], 0, zeroJ 0, 0, 0⟩ t.to = RR l rl rd (putR w1 p1) s.i := d3
    have g4 := first_hi _ _ _ _ h2 o1.2.1
    have hK := first_kd _ _ _ _ h2 (fun x hx => by cases hx)
    simp only at g4 hK
    obtain ⟨q1, q2⟩ := loop_ref hl HN (l.length + 1) v s p1 w1 d1 hK d2 g4 (by omega)
    simp only
    cases h3 : loopS l m (l.length + 1) v s with
    | error e0 =>
     rw [e2, e3, q1 e0 h3]
    | ok z =>
     obtain ⟨v2, s2⟩ := z
     obtain ⟨p2, w2, r1, r2, r3, r4⟩ := q2 v2 s2 h3
     have g5 := loop_hi _ _ _ _ h3 g4
     simp only at g5
     have e4 : putR w2 p2 = { p2 with v := w2, nx := 6 } := by unfold putR; rw [if_pos r2]
     rw [e2, e3, r4, e4, RR_6 g5 rfl]
     simp only
     by_cases hp : Lx.pass l Lx.blankB s2.i < l.length
     ·rw [if_pos hp, if_pos hp]
     ·rw [if_neg hp, if_neg hp]
      simp only
      rw [r1.dp, r1.ps]
      by_cases z1 : m.dep < (s2.dp : Int)
      ·rw [if_pos z1, if_pos z1]
      ·rw [if_neg z1, if_neg z1]
       by_cases z2 : s2.ps = 0
       ·rw [if_neg (by simpa using z2), if_neg (by simpa using z2), r3 z2]
       ·rw [if_pos z2, if_pos z2]
end Go.Proofs.YtfoehebnmommfaaGreatDoor

namespace Go.Proofs.YtfoehebnmommfaaGreatDoor
open Go.RowKit
attribute [local go_sem] setCell_drewN alloc_drewN

set_option maxRecDepth 100000 in
set_option maxHeartbeats 800000 in
theorem rfar_any (x : ByteArray) (w : World) (hx : x.size ≤ maxLen) (hd : x.data.toList.all isD = true) :
  Calls Tryz.prog 112 #[.string x] w fun e w' => e = .returned (.int .i64 (capN 99999999 x x.size)) ∧ w = w' := by
 unfold maxLen at hx
 have HB : Hid (∀ k, 0 ≤ capN 99999999 x k ∧ capN 99999999 x k ≤ 99999999) := fun k => capN_bd _ (by decide) x k hd
 have HS : Hid (∀ k, k < x.size → capN 99999999 x (k + 1) = min (capN 99999999 x k * 10 + (cx x k - 48)) 99999999 ∧ 48 ≤ cx x k ∧ cx x k ≤ 57) := fun k hk => capN_succ _ (by decide) x k hk hd
 obtain ⟨Z, hZ⟩ : ∃ Z, capN 99999999 x x.size = Z := ⟨_, rfl⟩
 rw [hZ]
 have HZ : Hid (capN 99999999 x x.size = Z) := hZ
 clear hd hZ
 go_enter Tryz.func112, Tryz.ntmps112
 go_wp2
 go_loop [3, 4] (fun v i => ∃ k : Nat, k ≤ x.size ∧ i = .int .i64 k ∧ v = .int .i64 (capN 99999999 x k)) (fun _ i => x.size - (intOf i).toNat)
 case atStart => exact ⟨0, Nat.zero_le _, rfl, rfl⟩
 case round =>
  obtain ⟨k, hk, rfl, rfl⟩ := hrel
  have hb := HB.out k
  by_cases hlt : k < x.size
  ·have hI : (k : Int) < (x.size : Int) := by omega
   have hc := cx_at x k hlt
   obtain ⟨s1, s2, s3⟩ := HS.out k hlt
   have HE : Hid (capN 99999999 x (k + 1) = min (10 * capN 99999999 x k + (cx x k - 48)) 99999999) := by
    show _ = _
    rw [s1, Int.mul_comm]
   clear s1
   generalize cx x k = y at *
   generalize hz : capN 99999999 x k = z at *
   clear hz
   go_wp2
   go_round
   case rel => exact ⟨k + 1, by omega, by go_num, by rw [HE.out]⟩
   case measure => simp [intOf]; omega
  ·have e : k = x.size := by omega
   subst e
   rw [HZ.out] at hb ⊢
   go_wp2
   go_ret
   exact ⟨rfl, rfl⟩
structure Cuts (l : List UInt8) (lo hi : Nat) : Prop where
 le : lo ≤ hi
 hi' : hi ≤ l.length
 ahead : ∀ j c, j < lo → l[j]? = some c → c = 48
 first : lo = l.length ∨ ∀ c, l[lo]? = some c → c ≠ 48
 behind : ∀ j c, hi ≤ j → l[j]? = some c → c = 48
 last : hi = lo ∨ ∀ c, l[hi - 1]? = some c → c ≠ 48
theorem all48 {l : List UInt8} (h : ∀ (j : Nat) (c : UInt8), l[j]? = some c → c = 48) : ∀ x ∈ l, (x == 48) = true := by
 intro x hx
 obtain ⟨i, hi, e⟩ := List.mem_iff_getElem.1 hx
 have := h i x (by rw [List.getElem?_eq_getElem hi, e])
 subst this
 rfl
theorem drop_all {l : List UInt8} (h : ∀ x ∈ l, (x == 48) = true) (r : List UInt8) : (l ++ r).dropWhile (· == 48) = r.dropWhile (· == 48) := by
 induction l with
 | nil => rfl
 | cons c t ih =>
  rw [List.cons_append, List.dropWhile_cons, if_pos (h c (List.mem_cons_self ..))]
  exact ih (fun x hx => h x (List.mem_cons_of_mem _ hx))
theorem trimRight_zeros {a b : List UInt8} (h : ∀ x ∈ b, (x == 48) = true) : Lib.trimRightB (a ++ b) 48 = Lib.trimRightB a 48 := by
 unfold Lib.trimRightB
 rw [List.reverse_append, drop_all (fun x hx => h x (List.mem_reverse.1 hx))]
theorem trimLeft_zeros {a b : List UInt8} (h : ∀ x ∈ a, (x == 48) = true) : Lib.trimLeftB (a ++ b) 48 = Lib.trimLeftB b 48 := by
 unfold Lib.trimLeftB
 exact drop_all h b
theorem Cuts.none {l : List UInt8} {lo : Nat} (h : Cuts l lo lo) : Lib.trimLeftB (Lib.trimRightB l 48) 48 = [] := by
 have : ∀ x ∈ l, (x == 48) = true := all48 (fun j c hc => by
  by_cases hj : j < lo
  ·exact h.ahead j c hj hc
  ·exact h.behind j c (by omega) hc)
 have e := trimRight_zeros (a := []) this
 rw [List.nil_append] at e
 rw [e]
 rfl
theorem Cuts.some {l : List UInt8} {lo hi : Nat} (h : Cuts l lo hi) (hne : lo < hi) : Lib.trimRightB l 48 = l.take hi ∧ Lib.trimLeftB (Lib.trimRightB l 48) 48 = (l.take hi).drop lo ∧ (l.take hi).drop lo ≠ [] := by
 have hl := h.hi'
 have e1 : Lib.trimRightB l 48 = l.take hi := by
  have e := trimRight_zeros (a := l.take hi) (b := l.drop hi) (all48 (fun j c hc => by
   rw [List.getElem?_drop] at hc
   exact h.behind _ c (by omega) hc))
  rw [List.take_append_drop] at e
  rw [e]
  refine trimRight_id _ ?_
  rw [List.getLast?_eq_getElem?, List.length_take, Nat.min_eq_left hl, List.getElem?_take_of_lt (by omega)]
  rcases h.last with e | e
  ·omega
  ·intro hc
   exact e 48 hc rfl
 have e3 : (l.take hi).drop lo ≠ [] := by
  intro e
  have := congrArg List.length e
  simp at this
  omega
 refine ⟨e1, ?_, e3⟩
 rw [e1]
 have e := trimLeft_zeros (a := (l.take hi).take lo) (b := (l.take hi).drop lo) (all48 (fun j c hc => by
  have hj : j < lo := by
   rcases Nat.lt_or_ge j lo with q | q
   ·exact q
   ·rw [List.getElem?_eq_none (by simp; omega)] at hc; cases hc
  rw [List.getElem?_take_of_lt hj, List.getElem?_take_of_lt (by omega)] at hc
  exact h.ahead j c hj hc))
 rw [List.take_append_drop] at e
 rw [e]
 refine trimLeft_id _ ?_
 rw [List.head?_eq_getElem?, List.getElem?_drop, Nat.add_zero, List.getElem?_take_of_lt hne]
 rcases h.first with e | e
 ·omega
 ·intro hc
  exact e 48 hc rfl
end Go.Proofs.YtfoehebnmommfaaGreatDoor
