/-
  json's reader and the document's, to the end. Conditions: at most 2^20 bytes; of numbers the two say the same.
-/
import Derived.Test.YtjakgdaodlgeaaaGreatDoorJoined36
import Derived.Test.YtjakgdaodlgeaaaGreatDoorJoined37
namespace Go.Proofs.YtjakgdaodlgeaaaGreatDoor
open Go.RowKit

def NumOK (l : List UInt8) (m : LM) (rl : List UInt8 → Nat) (rd : List UInt8 → JV) : Prop := ∀ fs i t, takeS fs l i = .ok t → t.kind = 2 → rl t.text = (limL m t.text).2 ∧ ((limL m t.text).2 = 0 → rd t.text = numJ (limL m t.text).1)
def Acc (l : List UInt8) (t : Lx.Tok) (p : PR) : Prop := ∃ i0, (p.nx = 0 ∧ takeS fov l i0 = .ok t) ∨ (p.nx = 1 ∧ p.hs ≠ [] ∧ (lastP p).1 = 5 ∧ takeS fovC l i0 = .ok t) ∨ (p.nx = 3 ∧ p.hs ≠ [] ∧ (lastP p).1 = 6 ∧ sgnB t sgF = true ∧ takeS fosC l i0 = .ok t)
theorem Acc.take {l : List UInt8} {t : Lx.Tok} {p : PR} (h : Acc l t p) : ∃ fs i0, takeS fs l i0 = .ok t := by
 obtain ⟨i0, ⟨_, a⟩ | ⟨_, _, _, a⟩ | ⟨_, _, _, _, a⟩⟩ := h
 ·exact ⟨_, _, a⟩
 ·exact ⟨_, _, a⟩
 ·exact ⟨_, _, a⟩
theorem begin_last (k : Int) (p : PR) : lastP (beginR k p) = (k, [], []) ∧ (beginR k p).hs ≠ [] := by
 unfold lastP beginR
 simp
theorem word_ref {l : List UInt8} {fs : ByteArray} {i : Nat} {t : Lx.Tok} (hl : l.length ≤ 1048576) (h : takeS fs l i = .ok t) (hk : t.kind = 3) : (if t.text = [110, 117, 108, 108] then (0 : Int) else if t.text = [102, 97, 108, 115, 101] then 1 else 2) = wordL t.kind (txtB t) t.fr t.to := by
 obtain ⟨h1, _, h3, _⟩ := takeS_at h
 have hto := takeL_ok h
 rcases tok_cls h1 h3 with ⟨_, rfl⟩ | ⟨_, hfr, c3⟩
 ·simp at hk
 ·have hle := Lx.pass_le (l := l) (p := Lx.blankB) (i := i)
  rcases c3 with ⟨_, _, tx, te⟩ | ⟨_, _, tx, te⟩ | ⟨_, _, tx, te⟩ | ⟨_, d⟩ | ⟨_, d⟩
  ·unfold wordL isL jeqT txtB
   rw [tx]
   simp
  ·unfold wordL isL jeqT txtB
   rw [tx, if_neg (by decide), if_neg (by decide), if_pos]
   rw [decide_eq_true_eq]
   refine ⟨by omega, rfl, rfl, ?_⟩
   have e : ((⟨#[116, 114, 117, 101]⟩ : ByteArray).size : Int) = 4 := rfl
   rw [e]
   unfold wrap64
   omega
  ·unfold wordL isL jeqT txtB
   rw [tx, if_neg (by decide), if_pos rfl, if_neg, if_pos]
   ·rw [decide_eq_true_eq]
    refine ⟨by omega, rfl, rfl, ?_⟩
    have e : ((⟨#[102, 97, 108, 115, 101]⟩ : ByteArray).size : Int) = 5 := rfl
    rw [e]
    unfold wrap64
    omega
   ·rw [decide_eq_true_eq]
    rintro ⟨_, e, _⟩
    revert e
    decide
  ·omega
  ·omega
theorem first_ref {l : List UInt8} {m : LM} {rl : List UInt8 → Nat} {rd : List UInt8 → JV} (hl : l.length ≤ 1048576) (HN : NumOK l m rl rd) : ∀ k t s p, PRel s p → Acc l t p → s.i ≤ l.length → l.length < k + s.i →
  (∀ e, firstS l m k t s = .error e → TK l rl rd t p s.i = .error e) ∧ (∀ v s1, firstS l m k t s = .ok (v, s1) → ∃ p1 v1, PRel s1 p1 ∧ (s1.ps = 0 → v1 = v) ∧ TK l rl rd t p s.i = RR l rl rd (putR v1 p1) s1.i)
 | 0, _, s, _, _, _, hi, hk => by omega
 | k + 1, t, s, p, hR, hA, hi, hk => by
  obtain ⟨fs, i0, ht⟩ := hA.take
  have sA := sgn_iff hl ht 91
  have sO := sgn_iff hl ht 123
  have sE := sgn_iff hl ht 93
  have sF := sgn_iff hl ht 125
  have h01 : sgnB t sgF = true ∨ p.nx = 0 ∨ p.nx = 1 := by
   obtain ⟨i1, ⟨a, _⟩ | ⟨a, _⟩ | ⟨_, _, _, a, _⟩⟩ := hA
   ·exact Or.inr (Or.inl a)
   ·exact Or.inr (Or.inr a)
   ·exact Or.inl a
  have tokV : (p.nx = 0 ∨ p.nx = 1) → ¬ (t.kind = 4 ∧ (t.text = [93] ∨ t.text = [125])) → tokenR rl rd t p = match valueR rl rd t p with | some q => .ok q | none => .error (t.fr + 1) := fun hnx hno => by
   unfold tokenR
   rw [if_neg (fun h => hno ⟨h.1.2.1, by rcases h.1.2.2 with e | e; exact Or.inl e.1; exact Or.inr e.1⟩), if_neg (fun h => by omega), if_neg (fun h => by omega), if_neg (fun h => by omega), if_pos hnx]
   cases valueR rl rd t p <;> rfl
  unfold firstS
  by_cases c1 : sgnB t sgA = true
  ·obtain ⟨k4, tx⟩ := sA.1 c1
   have hnx : p.nx = 0 ∨ p.nx = 1 := by
    rcases h01 with e | e
    ·have := (sF.1 e).2; rw [tx] at this; simp at this
    ·exact e
   have e1 : TK l rl rd t p s.i = RR l rl rd (beginR 5 p) s.i := by
    unfold TK
    rw [tokV hnx (by rw [tx]; simp)]
    have : valueR rl rd t p = some (beginR 5 p) := by
     unfold valueR
     rw [if_neg (by omega), if_neg (by omega), if_neg (by omega), if_pos ⟨k4, tx⟩]
    rw [this]
   rw [RR_1 hi (show (beginR 5 p).nx = 1 by simp [beginR]) (by rw [(begin_last 5 p).1])] at e1
   rw [if_pos c1]
   cases h1 : takeS fovC l s.i with
   | error e0 =>
    rw [h1] at e1
    exact ⟨fun e he => (by injection he with he; rw [e1, he]), fun v s1 he => (by cases he)⟩
   | ok t1 =>
    rw [h1] at e1
    have o1 := takeL_ok h1
    have ih := first_ref hl HN k t1 { openS 5 s with i := t1.to } (beginR 5 p) (hR.open 5 t1.to) ⟨_, Or.inr (Or.inl ⟨by simp [beginR], (begin_last 5 p).2, by rw [(begin_last 5 p).1], h1⟩)⟩ o1.2.1 (by show l.length < k + t1.to; omega)
    have e2 : TK l rl rd t p s.i = TK l rl rd t1 (beginR 5 p) t1.to := e1
    rw [e2]
    exact ih
  ·rw [if_neg c1]
   by_cases c2 : sgnB t sgO = true
   ·obtain ⟨k4, tx⟩ := sO.1 c2
    have hnx : p.nx = 0 ∨ p.nx = 1 := by
     rcases h01 with e | e
     ·have := (sF.1 e).2; rw [tx] at this; simp at this
     ·exact e
    have e1 : TK l rl rd t p s.i = RR l rl rd (beginR 6 p) s.i := by
     unfold TK
     rw [tokV hnx (by rw [tx]; simp)]
     have : valueR rl rd t p = some (beginR 6 p) := by
      unfold valueR
      rw [if_neg (by omega), if_neg (by omega), if_neg (by omega), if_neg (by rw [tx]; simp), if_pos ⟨k4, tx⟩]
     rw [this]
    rw [RR_3 hi (show (beginR 6 p).nx = 3 by simp [beginR]) (by rw [(begin_last 6 p).1])] at e1
    rw [if_pos c2]
    cases h1 : takeS fosC l s.i with
    | error e0 =>
     rw [h1] at e1
     exact ⟨fun e he => (by injection he with he; rw [e1, he]), fun v s1 he => (by cases he)⟩
    | ok t1 =>
     rw [h1] at e1
     have o1 := takeL_ok h1
     have e2 : TK l rl rd t p s.i = TK l rl rd t1 (beginR 6 p) t1.to := e1
     rw [e2]
     simp only
     by_cases c3 : sgnB t1 sgF = true
     ·rw [if_pos c3]
      exact first_ref hl HN k t1 { openS 6 s with i := t1.to } (beginR 6 p) (hR.open 6 t1.to) ⟨_, Or.inr (Or.inr ⟨by simp [beginR], (begin_last 6 p).2, by rw [(begin_last 6 p).1], c3, h1⟩)⟩ o1.2.1 (by show l.length < k + t1.to; omega)
     ·rw [if_neg c3]
      have hkd := key_kind hl h1 (by simpa using c3)
      obtain ⟨v1, v2⟩ := valueOf_ref (rl := rl) (rd := rd) (hR.open 6 t1.to) (Or.inr (by simp [beginR])) hkd (show ({ openS 6 s with i := t1.to } : SS).i ≤ l.length from o1.2.1)
      cases h2 : valueOfS l t1 { openS 6 s with i := t1.to } with
      | error e0 =>
       exact ⟨fun e he => (by injection he with he; rw [← he]; exact v1 e0 h2), fun v s1 he => (by cases he)⟩
      | ok y =>
       obtain ⟨t3, s3⟩ := y
       obtain ⟨p3, a1, a2, a3, a4, a5⟩ := v2 t3 s3 h2
       have e5 : TK l rl rd t1 (beginR 6 p) t1.to = TK l rl rd t3 p3 s3.i := a3
       rw [e5]
       obtain ⟨i3, a4⟩ := a4
       have o2 := (valueOfS_ok h2).1
       have e6 : ({ openS 6 s with i := t1.to } : SS).i = t1.to := rfl
       rw [e6] at o2
       simp only at o2
       exact first_ref hl HN k t3 s3 p3 a1 ⟨i3, Or.inl ⟨a2, a4⟩⟩ a5 (by omega)
   ·rw [if_neg c2]
    by_cases c3 : sgnB t sgE = true ∨ sgnB t sgF = true
    ·rw [if_pos c3]
     have hend : endsR t p ∧ (p.nx = 1 ∨ p.nx = 3 ∨ p.nx = 5) := by
      obtain ⟨i1, ⟨a, b⟩ | ⟨a, b, c, d⟩ | ⟨a, b, c, d, _⟩⟩ := hA
      ·exact absurd c3 (take_fov b)
      ·obtain ⟨n, hn, hm, hc⟩ := take_cls d
       have hm := (may_cls.2.1 n hn).1 hm
       refine ⟨⟨b, ?_, Or.inl ⟨?_, c⟩⟩, Or.inl a⟩
       ·rcases c3 with e | e
        ·exact (sE.1 e).1
        ·exact (sF.1 e).1
       ·rcases c3 with e | e
        ·exact (sE.1 e).2
        ·exfalso
         obtain ⟨x1, x2⟩ := sF.1 e
         rcases hc with ⟨_, y, _⟩ | ⟨y, _⟩
         ·have := (y 125).1 x2
          have e125 : (125 : UInt8).toNat = 125 := rfl
          omega
         ·omega
      ·exact ⟨⟨b, (sF.1 d).1, Or.inr ⟨(sF.1 d).2, c⟩⟩, Or.inr (Or.inl a)⟩
     have e1 : TK l rl rd t p s.i = RR l rl rd (closeR p) s.i := by
      unfold TK tokenR
      rw [if_pos hend]
     refine ⟨fun e he => (by cases he), fun v s1 he => ?_⟩
     injection he with he
     injection he with he1 he2
     refine ⟨{ p with hs := p.hs.dropLast }, hsV (lastP p), ?_, fun h0 => ?_, ?_⟩
     ·rw [← he2]
      refine ⟨?_, hR.dp, hR.ps, fun h0 => ?_⟩
      ·show p.hs.dropLast.map shp = s.hs.dropLast.map shp
       rw [map_dropLast, map_dropLast, hR.hs]
      ·show p.hs.dropLast = s.hs.dropLast
       rw [hR.eq h0]
     ·rw [← he2] at h0
      rw [hR.lastE h0, ← he1]
      rfl
     ·rw [e1, ← he2]
      rfl
    ·rw [if_neg c3]
     have hnx : p.nx = 0 ∨ p.nx = 1 := by
      rcases h01 with e | e
      ·exact absurd (Or.inr e) c3
      ·exact e
     have hno : ¬ (t.kind = 4 ∧ (t.text = [93] ∨ t.text = [125])) := by
      rintro ⟨a, b | b⟩
      ·exact c3 (Or.inl (sE.2 ⟨a, b⟩))
      ·exact c3 (Or.inr (sF.2 ⟨a, b⟩))
     have hkd : t.kind = 1 ∨ t.kind = 2 ∨ t.kind = 3 := by
      obtain ⟨n, hn, hm, hc⟩ := take_cls ht
      rcases hc with ⟨a, b, c⟩ | ⟨a, _⟩
      ·exfalso
       have hm' : n = 91 ∨ n = 123 ∨ n = 93 := by
        obtain ⟨i1, ⟨x, y⟩ | ⟨x, _, _, y⟩ | ⟨x, _⟩⟩ := hA
        ·obtain ⟨n', hn', hm', hc'⟩ := take_cls y
         have := (may_cls.1 n' hn').1 hm'
         rcases hc' with ⟨_, b', _⟩ | ⟨d, _⟩
         ·rcases this with h | h | h | h | h | h | h | h
          ·omega
          ·exact Or.inl ((b 91).1 ((b' 91).2 h))
          ·exact Or.inr (Or.inl ((b 123).1 ((b' 123).2 h)))
          ·omega
          ·omega
          ·omega
          ·omega
          ·omega
         ·omega
        ·obtain ⟨n', hn', hm', hc'⟩ := take_cls y
         have := (may_cls.2.1 n' hn').1 hm'
         rcases hc' with ⟨_, b', _⟩ | ⟨d, _⟩
         ·rcases this with h | h | h | h | h | h | h | h | h
          ·omega
          ·exact Or.inl ((b 91).1 ((b' 91).2 h))
          ·exact Or.inr (Or.inl ((b 123).1 ((b' 123).2 h)))
          ·omega
          ·omega
          ·omega
          ·omega
          ·omega
          ·exact Or.inr (Or.inr ((b 93).1 ((b' 93).2 h)))
         ·omega
        ·omega
       rcases hm' with h | h | h
       ·exact c1 (sA.2 ⟨a, (b 91).2 h⟩)
       ·exact c2 (sO.2 ⟨a, (b 123).2 h⟩)
       ·exact c3 (Or.inl (sE.2 ⟨a, (b 93).2 h⟩))
      ·exact a
     refine ⟨fun e he => (by cases he), fun v s1 he => ?_⟩
     injection he with he
     injection he with he1 he2
     have e0 : TK l rl rd t p s.i = match valueR rl rd t p with | some q => RR l rl rd q s.i | none => .error (t.fr + 1) := by
      unfold TK
      rw [tokV hnx hno]
      cases valueR rl rd t p <;> rfl
     rcases hkd with hkd | hkd | hkd
     ·have hs : simpleS m t s.ps = (.mk 4 false ⟨#[]⟩ 0 (txtB t) [] [], s.ps) := by unfold simpleS; rw [if_pos hkd]
      have hv : valueR rl rd t p = some (putR (.mk 4 false ⟨#[]⟩ 0 (txtB t) [] []) p) := by unfold valueR; rw [if_pos hkd]
      rw [hs] at he1 he2
      rw [hv] at e0
      exact ⟨p, _, by rw [← he2]; exact hR, fun _ => he1, by rw [e0, ← he2]⟩
     ·obtain ⟨n1, n2⟩ := HN _ _ _ ht hkd
      have hv : valueR rl rd t p = some (putR (rd t.text) { p with ps := if p.ps ≠ 0 then p.ps else rl t.text }) := by unfold valueR; rw [if_neg (by omega), if_pos hkd]
      rw [hv] at e0
      have hs2 : (simpleS m t s.ps).2 = if p.ps ≠ 0 then p.ps else rl t.text := by
       unfold simpleS
       rw [if_neg (by omega), if_pos hkd, hR.ps, n1]
       split <;> rfl
      refine ⟨_, _, ?_, fun h0 => ?_, by rw [e0, ← he2]⟩
      ·rw [← he2]
       refine ⟨hR.hs, hR.dp, hs2.symm, fun h0 => hR.eq (simple_ps t s.ps h0)⟩
      ·rw [← he2] at h0
       have hp0 := simple_ps t s.ps h0
       rw [← he1]
       unfold simpleS at h0 ⊢
       rw [if_neg (by omega), if_pos hkd, if_neg (by simpa using hp0)] at h0 ⊢
       exact n2 h0
     ·have hs : simpleS m t s.ps = (zeroJ (wordL t.kind (txtB t) t.fr t.to), s.ps) := by unfold simpleS; rw [if_neg (by omega), if_neg (by omega)]
      have hv : valueR rl rd t p = some (putR (zeroJ (if t.text = [110, 117, 108, 108] then 0 else if t.text = [102, 97, 108, 115, 101] then 1 else 2)) p) := by unfold valueR; rw [if_neg (by omega), if_neg (by omega), if_pos hkd]
      rw [hs] at he1 he2
      rw [hv, word_ref hl ht hkd] at e0
      exact ⟨p, _, by rw [← he2]; exact hR, fun _ => he1, by rw [e0, ← he2]⟩
theorem nextOf_ref {l : List UInt8} {rl : List UInt8 → Nat} {rd : List UInt8 → JV} {s : SS} {p : PR} (hR : PRel s p) (hnx : p.nx = if (lastP p).1 = 6 then 2 else 0) (hi : s.i ≤ l.length) :
  (∀ e, nextOfS l s = .error e → RR l rl rd p s.i = .error e) ∧ (∀ t1 s1, nextOfS l s = .ok (t1, s1) → ∃ p1, PRel s1 p1 ∧ Acc l t1 p1 ∧ RR l rl rd p s.i = TK l rl rd t1 p1 s1.i ∧ s1.i ≤ l.length) := by
 have hl1 := hR.last1
 by_cases h6 : (lastS s).1 = 6
 ·have n2 : p.nx = 2 := by rw [hnx, if_pos (by rw [hl1]; exact h6)]
  have e1 := RR_2 (rl := rl) (rd := rd) hi n2
  unfold nextOfS
  rw [if_pos h6]
  cases h1 : takeS fos l s.i with
  | error e0 =>
   rw [h1] at e1
   exact ⟨fun e he => (by injection he with he; rw [e1, he]), fun v s1 he => (by cases he)⟩
  | ok t =>
   rw [h1] at e1
   have o1 := takeL_ok h1
   have e2 : RR l rl rd p s.i = TK l rl rd t p t.to := e1
   have hkd := key_kind' h1
   obtain ⟨v1, v2⟩ := valueOf_ref (rl := rl) (rd := rd) (s := { s with i := t.to }) (p := p) ⟨hR.hs, hR.dp, hR.ps, hR.eq⟩ (Or.inl n2) hkd (show ({ s with i := t.to } : SS).i ≤ l.length from o1.2.1)
   refine ⟨fun e he => ?_, fun t3 s3 he => ?_⟩
   ·rw [e2]; exact v1 e he
   ·obtain ⟨p3, a1, a2, a3, ⟨i3, a4⟩, a5⟩ := v2 t3 s3 he
    exact ⟨p3, a1, ⟨i3, Or.inl ⟨a2, a4⟩⟩, by rw [e2]; exact a3, a5⟩
 ·have n0 : p.nx = 0 := by rw [hnx, if_neg (by rw [hl1]; exact h6)]
  have e1 := RR_0 (rl := rl) (rd := rd) hi n0
  unfold nextOfS
  rw [if_neg h6]
  cases h1 : takeS fov l s.i with
  | error e0 =>
   rw [h1] at e1
   exact ⟨fun e he => (by injection he with he; rw [e1, he]), fun v s1 he => (by cases he)⟩
  | ok t =>
   rw [h1] at e1
   have o1 := takeL_ok h1
   refine ⟨fun e he => (by cases he), fun t3 s3 he => ?_⟩
   injection he with he
   injection he with he1 he2
   subst he1 he2
   exact ⟨p, ⟨hR.hs, hR.dp, hR.ps, hR.eq⟩, ⟨_, Or.inl ⟨n0, h1⟩⟩, e1, o1.2.1⟩
theorem RR_6 {l : List UInt8} {rl : List UInt8 → Nat} {rd : List UInt8 → JV} {p : PR} {i : Nat} (hi : i ≤ l.length) (h : p.nx = 6) : RR l rl rd p i = if Lx.pass l Lx.blankB i < l.length then .error (Lx.pass l Lx.blankB i + 1) else .ok p := by
 rw [RR_step hi]
 have hle := Lx.pass_le (l := l) (p := Lx.blankB) hi
 by_cases hP : Lx.pass l Lx.blankB i < l.length
 ·rw [if_pos hP]
  have hnx : Lx.nextL l i = Lx.readL l (Lx.pass l Lx.blankB i) := rfl
  rw [hnx]
  cases hr : Lx.readL l (Lx.pass l Lx.blankB i) with
  | error e =>
   simp only
   rw [if_neg]
   rintro (a | a | a)
   ·omega
   ·omega
   ·exact st_no (by omega) (by omega) a
  | ok t =>
   have hk := Lx.read_kind hP hr
   have hfr := Lx.read_fr hr
   simp only
   rw [if_neg hk, token_else (fun h => by omega) (fun h => by omega) (fun h => by omega) (fun h => by omega) (fun h => by omega), hfr]
 ·rw [if_neg hP]
  have he : Lx.pass l Lx.blankB i = l.length := by omega
  have hnx : Lx.nextL l i = .ok ⟨0, [], l.length, l.length⟩ := by unfold Lx.nextL Lx.readL; rw [if_pos he, he]
  rw [hnx]
  simp only [↓reduceIte]
  rw [if_pos h]
end Go.Proofs.YtjakgdaodlgeaaaGreatDoor
