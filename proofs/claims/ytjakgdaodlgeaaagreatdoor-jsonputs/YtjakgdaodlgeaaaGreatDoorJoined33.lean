/-
  The document's reader inside what is open: the same tokens do the same there, one by one. No condition.
  What is read of bytes does not hang on how many stand ahead: plain mathematics of what lex.Next answers. No condition.
  A token by itself: what is read of its bytes wherever they stand, if nothing behind carries a number on. No condition.
  Texts with the same tokens, whatever blanks stand between: they are read alike. Conditions: at most 2^21 bytes.
-/
import Derived.Test.YtjakgdaodlgeaaaGreatDoorJoined32
namespace Go.Proofs.YtjakgdaodlgeaaaGreatDoor
open Go.RowKit

structure Lw (H : List HS) (Q p q : PR) : Prop where
 hs : q.hs = H ++ p.hs
 dp : q.dp = max Q.dp (H.length + p.dp)
 ps : q.ps = if Q.ps ≠ 0 then Q.ps else p.ps
structure Fn (H : List HS) (Q p q : PR) : Prop where
 p0 : p.hs = [] ∧ p.nx = 6
 hs : q.hs = H.dropLast ++ [((H.getLastD (0, [], [])).1, (H.getLastD (0, [], [])).2.1 ++ [p.v], (H.getLastD (0, [], [])).2.2)]
 nx : q.nx = 5
 dp : q.dp = max Q.dp (H.length + p.dp)
 ps : q.ps = if Q.ps ≠ 0 then Q.ps else p.ps
def Rl (H : List HS) (Q p q : PR) : Prop := (Lw H Q p q ∧ p.hs ≠ [] ∧ q.nx = p.nx ∧ p.nx ≠ 6) ∨ Fn H Q p q
theorem last_app {H hs : List HS} (h : hs ≠ []) (d : HS) : (H ++ hs).getLastD d = hs.getLastD d := by
 rcases List.eq_nil_or_concat hs with rfl | ⟨a, b, rfl⟩
 ·exact absurd rfl h
 ·rw [List.concat_eq_append, ← List.append_assoc]; simp
theorem Lw.last {H : List HS} {Q p q : PR} (h : Lw H Q p q) (hne : p.hs ≠ []) : lastP q = lastP p := by
 unfold lastP; rw [h.hs]; exact last_app hne _
theorem put_rl {H : List HS} {Q p q : PR} (hH : H ≠ []) (h : Lw H Q p q) (v : JV) : Rl H Q (putR v p) (putR v q) := by
 have hq : q.hs ≠ [] := fun e => by rw [h.hs] at e; exact hH (List.append_eq_nil_iff.1 e).1
 by_cases hp : p.hs = []
 ·right
  have e1 : putR v p = { p with v := v, nx := 6 } := by unfold putR; rw [if_pos hp]
  have e2 : putR v q = { q with hs := q.hs.dropLast ++ [((lastP q).1, (lastP q).2.1 ++ [v], (lastP q).2.2)], nx := 5 } := by unfold putR; rw [if_neg hq]
  have eh : q.hs = H := by rw [h.hs, hp, List.append_nil]
  rw [e1, e2]
  exact ⟨⟨hp, rfl⟩, by show q.hs.dropLast ++ _ = _; unfold lastP; rw [eh], rfl, h.dp, h.ps⟩
 ·left
  have e1 : putR v p = { p with hs := p.hs.dropLast ++ [((lastP p).1, (lastP p).2.1 ++ [v], (lastP p).2.2)], nx := 5 } := by unfold putR; rw [if_neg hp]
  have e2 : putR v q = { q with hs := q.hs.dropLast ++ [((lastP q).1, (lastP q).2.1 ++ [v], (lastP q).2.2)], nx := 5 } := by unfold putR; rw [if_neg hq]
  rw [e1, e2, h.last hp]
  refine ⟨⟨?_, h.dp, h.ps⟩, by simp, rfl, by simp⟩
  show q.hs.dropLast ++ _ = H ++ (p.hs.dropLast ++ _)
  rw [h.hs, List.dropLast_append_of_ne_nil hp, List.append_assoc]
theorem close_rl {H : List HS} {Q p q : PR} (hH : H ≠ []) (h : Lw H Q p q) (hne : p.hs ≠ []) : Rl H Q (closeR p) (closeR q) := by
 unfold closeR
 rw [h.last hne]
 refine put_rl (p := { p with hs := p.hs.dropLast }) (q := { q with hs := q.hs.dropLast }) hH ⟨?_, h.dp, h.ps⟩ _
 show q.hs.dropLast = H ++ p.hs.dropLast
 rw [h.hs, List.dropLast_append_of_ne_nil hne]
theorem begin_rl {H : List HS} {Q p q : PR} (h : Lw H Q p q) (k : Int) : Rl H Q (beginR k p) (beginR k q) := by
 left
 refine ⟨⟨?_, ?_, h.ps⟩, by simp [beginR], rfl, by simp only [beginR]; split <;> decide⟩
 ·show q.hs ++ _ = H ++ (p.hs ++ _); rw [h.hs, List.append_assoc]
 ·show max q.dp (q.hs.length + 1) = max Q.dp (H.length + max p.dp (p.hs.length + 1))
  rw [h.dp, h.hs, List.length_append]; omega
theorem value_rl {H : List HS} {Q p q p' : PR} {rl : List UInt8 → Nat} {rd : List UInt8 → JV} {t t' : Lx.Tok} (hH : H ≠ []) (h : Lw H Q p q) (hk : t'.kind = t.kind) (hx : t'.text = t.text) (hv : valueR rl rd t p = some p') : ∃ q', valueR rl rd t' q = some q' ∧ Rl H Q p' q' := by
 have ht : txtB t' = txtB t := by unfold txtB; rw [hx]
 unfold valueR at hv ⊢
 rw [hk, hx, ht]
 by_cases k1 : t.kind = 1
 ·rw [if_pos k1] at hv ⊢
  injection hv with hv
  exact ⟨_, rfl, hv ▸ put_rl hH h _⟩
 rw [if_neg k1] at hv ⊢
 by_cases k2 : t.kind = 2
 ·rw [if_pos k2] at hv ⊢
  injection hv with hv
  refine ⟨_, rfl, hv ▸ put_rl (p := { p with ps := if p.ps ≠ 0 then p.ps else rl t.text }) (q := { q with ps := if q.ps ≠ 0 then q.ps else rl t.text }) hH ⟨h.hs, h.dp, ?_⟩ _⟩
  show (if q.ps ≠ 0 then q.ps else rl t.text) = if Q.ps ≠ 0 then Q.ps else if p.ps ≠ 0 then p.ps else rl t.text
  rw [h.ps]
  by_cases e : Q.ps = 0
  ·simp [e]
  ·simp [e]
 rw [if_neg k2] at hv ⊢
 by_cases k3 : t.kind = 3
 ·rw [if_pos k3] at hv ⊢
  injection hv with hv
  exact ⟨_, rfl, hv ▸ put_rl hH h _⟩
 rw [if_neg k3] at hv ⊢
 by_cases k4 : t.kind = 4 ∧ t.text = [91]
 ·rw [if_pos k4] at hv ⊢
  injection hv with hv
  exact ⟨_, rfl, hv ▸ begin_rl h _⟩
 rw [if_neg k4] at hv ⊢
 by_cases k5 : t.kind = 4 ∧ t.text = [123]
 ·rw [if_pos k5] at hv ⊢
  injection hv with hv
  exact ⟨_, rfl, hv ▸ begin_rl h _⟩
 rw [if_neg k5] at hv
 cases hv
theorem value_no {rl : List UInt8 → Nat} {rd : List UInt8 → JV} {t : Lx.Tok} {p p' : PR} (hv : valueR rl rd t p = some p') (q : PR) : ¬ endsR t q := by
 intro he
 obtain ⟨_, k4, hx⟩ := he
 unfold valueR at hv
 rw [if_neg (by omega), if_neg (by omega), if_neg (by omega), if_neg (fun e => by rcases hx with ⟨hx, _⟩ | ⟨hx, _⟩ <;> (rw [hx] at e; cases e.2)), if_neg (fun e => by rcases hx with ⟨hx, _⟩ | ⟨hx, _⟩ <;> (rw [hx] at e; cases e.2))] at hv
 cases hv
theorem ends_tq {t t' : Lx.Tok} {p : PR} (hk : t'.kind = t.kind) (hx : t'.text = t.text) : endsR t' p ↔ endsR t p := by
 unfold endsR; rw [hk, hx]
theorem start_rl {H : List HS} {Q p q p' : PR} {rl : List UInt8 → Nat} {rd : List UInt8 → JV} {t t' : Lx.Tok} (hH : H ≠ []) (h : Lw H Q p q) (hp : p.hs = []) (h0 : p.nx = 0) (hq : q.nx = 0 ∨ q.nx = 1) (hk : t'.kind = t.kind) (hx : t'.text = t.text) (ht : tokenR rl rd t p = .ok p') : ∃ q', tokenR rl rd t' q = .ok q' ∧ Rl H Q p' q' := by
 unfold tokenR at ht
 rw [if_neg (fun e => e.1.1 hp), if_neg (by omega), if_neg (by omega), if_neg (by omega), if_pos (by omega)] at ht
 cases hv : valueR rl rd t p with
 | none => rw [hv] at ht; cases ht
 | some x =>
  rw [hv] at ht
  injection ht with ht
  obtain ⟨q', h1, h2⟩ := value_rl hH h hk hx hv
  refine ⟨q', ?_, ht ▸ h2⟩
  unfold tokenR
  rw [if_neg (fun e => value_no hv q ((ends_tq hk hx).1 e.1)), if_neg (by omega), if_neg (by omega), if_neg (by omega), if_pos (by omega), h1]
theorem token_rl {H : List HS} {Q p q p' : PR} {rl : List UInt8 → Nat} {rd : List UInt8 → JV} {t t' : Lx.Tok} (hH : H ≠ []) (h : Lw H Q p q) (hp : p.hs ≠ []) (hq : q.nx = p.nx) (hk : t'.kind = t.kind) (hx : t'.text = t.text) (ht : tokenR rl rd t p = .ok p') : ∃ q', tokenR rl rd t' q = .ok q' ∧ Rl H Q p' q' := by
 have hl := h.last hp
 have hqne : q.hs ≠ [] := fun e => by rw [h.hs] at e; exact hH (List.append_eq_nil_iff.1 e).1
 have he : endsR t' q ↔ endsR t p := by
  rw [ends_tq hk hx]; unfold endsR; rw [hl]
  exact ⟨fun e => ⟨hp, e.2⟩, fun e => ⟨hqne, e.2⟩⟩
 have htb : txtB t' = txtB t := by unfold txtB; rw [hx]
 unfold tokenR at ht ⊢
 rw [hq, hk, hx]
 by_cases c1 : endsR t p ∧ (p.nx = 1 ∨ p.nx = 3 ∨ p.nx = 5)
 ·rw [if_pos c1] at ht
  rw [if_pos ⟨he.2 c1.1, c1.2⟩]
  injection ht with ht
  exact ⟨_, rfl, ht ▸ close_rl hH h hp⟩
 rw [if_neg c1] at ht
 rw [if_neg (fun e => c1 ⟨he.1 e.1, e.2⟩)]
 by_cases c2 : p.nx = 5 ∧ t.kind = 4 ∧ t.text = [44]
 ·rw [if_pos c2] at ht ⊢
  injection ht with ht
  rw [← ht, hl]
  exact ⟨_, rfl, Or.inl ⟨⟨h.hs, h.dp, h.ps⟩, hp, rfl, by show (if _ then 2 else 0) ≠ 6; split <;> decide⟩⟩
 rw [if_neg c2] at ht ⊢
 by_cases c3 : p.nx = 4 ∧ t.kind = 4 ∧ t.text = [58]
 ·rw [if_pos c3] at ht ⊢
  injection ht with ht
  rw [← ht]
  exact ⟨_, rfl, Or.inl ⟨⟨h.hs, h.dp, h.ps⟩, hp, rfl, by simp⟩⟩
 rw [if_neg c3] at ht ⊢
 by_cases c4 : (p.nx = 2 ∨ p.nx = 3) ∧ t.kind = 1
 ·rw [if_pos c4] at ht ⊢
  unfold keyedR at ht ⊢
  rw [hl, htb]
  split at ht
  ·cases ht
  ·rename_i hin
   rw [if_neg hin]
   injection ht with ht
   rw [← ht]
   refine ⟨_, rfl, Or.inl ⟨⟨?_, h.dp, h.ps⟩, by simp, rfl, by simp⟩⟩
   show q.hs.dropLast ++ _ = H ++ (p.hs.dropLast ++ _)
   rw [h.hs, List.dropLast_append_of_ne_nil hp, List.append_assoc]
 rw [if_neg c4] at ht ⊢
 by_cases c5 : p.nx = 0 ∨ p.nx = 1
 ·rw [if_pos c5] at ht ⊢
  cases hv : valueR rl rd t p with
  | none => rw [hv] at ht; cases ht
  | some x =>
   rw [hv] at ht
   injection ht with ht
   obtain ⟨q', h1, h2⟩ := value_rl hH h hk hx hv
   rw [h1]
   exact ⟨q', rfl, ht ▸ h2⟩
 ·rw [if_neg c5] at ht
  cases ht
end Go.Proofs.YtjakgdaodlgeaaaGreatDoor

namespace Go.Proofs.YtjakgdaodlgeaaaGreatDoor.Lx
open Go.RowKit

theorem sh_at (x y : List UInt8) (p : Nat) : (x ++ y)[x.length + p]? = y[p]? := by
 rw [List.getElem?_append_right (by omega)]
 congr 1; omega
theorem sh_bx (x y : List UInt8) (p : Nat) : bx (x ++ y) (x.length + p) = bx y p := by
 unfold bx; rw [sh_at]
theorem sh_has (x y : List UInt8) (p : Nat) (q : Int → Bool) : hasAt (x ++ y) (x.length + p) q = hasAt y p q := by
 unfold hasAt
 rw [sh_bx]
 congr 1
 simp
theorem sh_sub (x y : List UInt8) (a e : Nat) : sub (x ++ y) (x.length + a) (x.length + e) = sub y a e := by
 unfold sub
 rw [show x.length + e - (x.length + a) = e - a by omega, List.drop_append, List.drop_of_length_le (by omega), List.nil_append]
 congr 2; omega
theorem sh_pass (x y : List UInt8) (q : Int → Bool) (d : Nat) : ∀ p, y.length - p = d → pass (x ++ y) q (x.length + p) = x.length + pass y q p := by
 induction d with
 | zero =>
  intro p hp
  rw [pass_stop (hasAt_out (l := y) q (by omega)), pass_stop (by rw [sh_has]; exact hasAt_out q (by omega))]
 | succ d ih =>
  intro p hp
  cases hh : hasAt y p q
  ·rw [pass_stop hh, pass_stop (by rw [sh_has]; exact hh)]
  ·rw [pass_go hh, pass_go (by rw [sh_has]; exact hh), Nat.add_assoc]
   exact ih (p + 1) (by omega)
theorem sh_pass' (x y : List UInt8) (q : Int → Bool) (p : Nat) : pass (x ++ y) q (x.length + p) = x.length + pass y q p := sh_pass x y q _ p rfl
def shP (d : Nat) : Pl → Pl
 | .ok k => .ok (d + k)
 | .error n => .error (d + n)
theorem sh_digits (x y : List UInt8) (i : Nat) : digitsL (x ++ y) (x.length + i) = shP x.length (digitsL y i) := by
 unfold digitsL
 rw [sh_has, Nat.add_assoc, sh_pass']
 split <;> rfl
theorem sh_aft (x y : List UInt8) (i : Nat) (q : Int → Bool) : aft (x ++ y) (x.length + i) q = x.length + aft y i q := by
 unfold aft
 rw [sh_has]
 split <;> omega
theorem sh_whole (x y : List UInt8) (i : Nat) : wholeL (x ++ y) (x.length + i) = shP x.length (wholeL y i) := by
 unfold wholeL
 rw [sh_aft, sh_has, sh_digits]
 split <;> rfl
theorem sh_exponent (x y : List UInt8) (i : Nat) : exponentL (x ++ y) (x.length + i) = shP x.length (exponentL y i) := by
 unfold exponentL
 rw [sh_aft, sh_digits]
theorem sh_frac (x y : List UInt8) (p : Pl) : fracPart (x ++ y) (shP x.length p) = shP x.length (fracPart y p) := by
 cases p with
 | error n => rfl
 | ok k =>
  simp only [shP, fracPart]
  rw [sh_has, Nat.add_assoc, sh_digits]
  split <;> rfl
theorem sh_exp (x y : List UInt8) (p : Pl) : expPart (x ++ y) (shP x.length p) = shP x.length (expPart y p) := by
 cases p with
 | error n => rfl
 | ok k =>
  simp only [shP, expPart]
  rw [sh_has, Nat.add_assoc, sh_exponent]
  split <;> rfl
theorem sh_number (x y : List UInt8) (i : Nat) : numberL (x ++ y) (x.length + i) = shP x.length (numberL y i) := by
 unfold numberL
 rw [sh_whole, sh_frac, sh_exp]
theorem sh_spelled (x y : List UInt8) (cs : List UInt8) : ∀ i, spelledL (x ++ y) (x.length + i) cs = shP x.length (spelledL y i cs) := by
 induction cs with
 | nil => intro i; rfl
 | cons c cs ih =>
  intro i
  simp only [spelledL]
  rw [sh_has, Nat.add_assoc, ih (i + 1)]
  split
  ·rfl
  ·simp only [shP]
def shU (d : Nat) : Except Nat (Nat × Nat) → Except Nat (Nat × Nat)
 | .ok r => .ok (r.1, d + r.2)
 | .error n => .error (d + n)
theorem sh_unitF (x y : List UInt8) (low : Bool) (k : Nat) : ∀ i val, unitF (x ++ y) low k (x.length + i) val = shU x.length (unitF y low k i val) := by
 induction k with
 | zero => intro i val; rfl
 | succ k ih =>
  intro i val
  simp only [unitF]
  rw [sh_has, sh_bx, Nat.add_assoc, ih (i + 1)]
  split
  ·rfl
  ·simp only [shU]
theorem sh_unit (x y : List UInt8) (low : Bool) (i : Nat) : unitL (x ++ y) low (x.length + i) = shU x.length (unitL y low i) := sh_unitF x y low 4 i 0
theorem sh_pair (x y : List UInt8) (i high : Nat) : pairL (x ++ y) (x.length + i) high = shU x.length (pairL y i high) := by
 unfold pairL
 rw [sh_spelled]
 cases spelledL y i [92, 117] with
 | error n => rfl
 | ok j =>
  simp only [shP]
  rw [sh_unit]
  cases unitL y true j with
  | error n => rfl
  | ok r => rfl
def shB (d : Nat) : Bp → Bp
 | .ok r => .ok (r.1, d + r.2)
 | .error n => .error (d + n)
theorem sh_point (x y : List UInt8) (i : Nat) : pointL (x ++ y) (x.length + i) = shB x.length (pointL y i) := by
 unfold pointL
 rw [sh_unit]
 cases unitL y false i with
 | error n => rfl
 | ok r =>
  obtain ⟨a, b⟩ := r
  simp only [shU]
  rw [sh_pair]
  by_cases c : 55296 ≤ a ∧ a ≤ 56319
  ·rw [if_pos c, if_pos c]
   cases pairL y b a with
   | error n => simp only [shU, shB]
   | ok q => simp only [shU, shB]
  ·rw [if_neg c, if_neg c]
   simp only [shB]
theorem sh_escape (x y : List UInt8) (i : Nat) : escapeL (x ++ y) (x.length + i) = shB x.length (escapeL y i) := by
 unfold escapeL
 rw [sh_has, Nat.add_assoc, Nat.add_assoc, sh_has, sh_has, sh_point, sh_bx]
 split
 ·split
  ·rfl
  ·split
   ·rfl
   ·rfl
 ·rfl
theorem sh_plain (x y : List UInt8) (i : Nat) : plainL (x ++ y) (x.length + i) = shP x.length (plainL y i) := by
 unfold plainL
 rw [sh_pass', sh_sub]
 split
 ·rfl
 ·simp only [shP]; congr 1; omega
def shT (d : Nat) : Tk → Tk
 | .ok t => .ok ⟨t.kind, t.text, d + t.fr, d + t.to⟩
 | .error n => .error (d + n)
theorem sh_textF (x y : List UInt8) (fr f : Nat) : ∀ i out, textF (x ++ y) (x.length + fr) f (x.length + i) out = shT x.length (textF y fr f i out) := by
 induction f with
 | zero => intro i out; rfl
 | succ f ih =>
  intro i out
  simp only [textF]
  rw [sh_plain]
  cases plainL y i with
  | error n => rfl
  | ok e =>
   simp only [shP]
   rw [sh_has, sh_sub, sh_escape]
   split
   ·rfl
   ·cases escapeL y e with
    | error n => rfl
    | ok r =>
     simp only [shB]
     exact ih r.2 _
theorem textF_more {l : List UInt8} {fr f i f' : Nat} {out : List UInt8} {t : Tok} (h : textF l fr f i out = .ok t) (hf : l.length < i + f') : textF l fr f' i out = .ok t :=
 textF_agree (l := l) (l' := l) (n := l.length) ⟨Nat.le_refl _, Nat.le_refl _, fun _ _ => rfl⟩ f h (textF_gt f h).2.2.2 hf
theorem sh_text {x y : List UInt8} {i : Nat} {t : Tok} (h : textL y i = .ok t) : textL (x ++ y) (x.length + i) = .ok ⟨t.kind, t.text, x.length + t.fr, x.length + t.to⟩ := by
 unfold textL at h ⊢
 have := sh_textF x y i (y.length + 1) (i + 1) []
 rw [h] at this
 exact textF_more this (by simp; omega)
theorem sh_stands {k : Nat} {x y : List UInt8} {i : Nat} {p : Pl} {t : Tok} (h : stands k y i p = .ok t) : stands k (x ++ y) (x.length + i) (shP x.length p) = .ok ⟨t.kind, t.text, x.length + t.fr, x.length + t.to⟩ := by
 obtain ⟨e, rfl, rfl⟩ := stands_ok h
 simp only [shP, stands]
 rw [sh_sub]
theorem sh_read {x y : List UInt8} {p : Nat} {t : Tok} (h : readL y p = .ok t) : readL (x ++ y) (x.length + p) = .ok ⟨t.kind, t.text, x.length + t.fr, x.length + t.to⟩ := by
 unfold readL at h ⊢
 rw [sh_bx]
 by_cases h0 : p = y.length
 ·rw [if_pos h0] at h
  rw [if_pos (by simp; omega)]
  injection h with h
  rw [← h]
 ·rw [if_neg h0] at h
  rw [if_neg (by simp; omega)]
  by_cases hs : signB (bx y p) = true
  ·rw [if_pos hs] at h ⊢
   injection h with h
   rw [← h, Nat.add_assoc, sh_sub]
  ·rw [if_neg hs] at h ⊢
   by_cases h1 : bx y p = 110
   ·rw [if_pos h1] at h ⊢
    rw [sh_spelled]; exact sh_stands h
   ·rw [if_neg h1] at h ⊢
    by_cases h2 : bx y p = 116
    ·rw [if_pos h2] at h ⊢
     rw [sh_spelled]; exact sh_stands h
    ·rw [if_neg h2] at h ⊢
     by_cases h3 : bx y p = 102
     ·rw [if_pos h3] at h ⊢
      rw [sh_spelled]; exact sh_stands h
     ·rw [if_neg h3] at h ⊢
      by_cases h4 : bx y p = 45 ∨ digitB (bx y p) = true
      ·rw [if_pos h4] at h ⊢
       rw [sh_number]; exact sh_stands h
      ·rw [if_neg h4] at h ⊢
       by_cases h5 : bx y p = 34
       ·rw [if_pos h5] at h ⊢
        exact sh_text h
       ·rw [if_neg h5] at h
        cases h
end Go.Proofs.YtjakgdaodlgeaaaGreatDoor.Lx

namespace Go.Proofs.YtjakgdaodlgeaaaGreatDoor.Lx
open Go.RowKit

def eE (c : Int) : Bool := c == 101 || c == 69
theorem pass_ext {l l' : List UInt8} (hA : Agree l l' l.length) (hd : hasAt l' l.length digitB = false) (d : Nat) : ∀ j, l.length - j = d → j ≤ l.length → pass l' digitB j = pass l digitB j := by
 induction d with
 | zero =>
  intro j h1 h2
  have : j = l.length := by omega
  subst this
  rw [pass_stop hd, pass_stop (hasAt_out _ (by omega))]
 | succ d ih =>
  intro j h1 h2
  cases hh : hasAt l j digitB
  ·rw [pass_stop hh, pass_stop (by rw [hA.has (by omega)]; exact hh)]
  ·rw [pass_go hh, pass_go (by rw [hA.has (by omega)]; exact hh)]
   exact ih (j + 1) (by omega) (by omega)
theorem digits_ext {l l' : List UInt8} (hA : Agree l l' l.length) (hd : hasAt l' l.length digitB = false) {i m : Nat} (h : digitsL l i = .ok m) : digitsL l' i = .ok m := by
 have e := digitsL_le h
 unfold digitsL at h ⊢
 rw [hA.has (by omega), pass_ext hA hd _ (i + 1) rfl (by omega)]
 exact h
theorem whole_ext {l l' : List UInt8} (hA : Agree l l' l.length) (hd : hasAt l' l.length digitB = false) {i m : Nat} (h : wholeL l i = .ok m) : wholeL l' i = .ok m := by
 have e := wholeL_le h
 unfold wholeL at h ⊢
 have ha := aft_le l i (· == 45)
 rw [aft_agree hA (by omega)]
 split at h
 ·rename_i g
  have := hasAt_lt g
  rw [hA.has (by omega), if_pos g]
  exact h
 ·rename_i g
  have e2 := digitsL_le h
  rw [hA.has (by omega), if_neg g]
  exact digits_ext hA hd h
theorem frac_ext {l l' : List UInt8} (hA : Agree l l' l.length) (hd : hasAt l' l.length digitB = false) (hp : hasAt l' l.length (· == 46) = false) {i m : Nat} (hi : i ≤ l.length) (h : fracPart l (.ok i) = .ok m) : fracPart l' (.ok i) = .ok m := by
 simp only [fracPart] at h ⊢
 split at h
 ·rename_i g
  have := hasAt_lt g
  rw [hA.has (by omega), if_pos g]
  exact digits_ext hA hd h
 ·rename_i g
  by_cases hk : i < l.length
  ·rw [hA.has hk, if_neg g]; exact h
  ·have e : i = l.length := by omega
   have hp' : hasAt l' i (· == 46) = false := by rw [e]; exact hp
   rw [hp']
   simpa using h
theorem exp_ext {l l' : List UInt8} (hA : Agree l l' l.length) (hd : hasAt l' l.length digitB = false) (he : hasAt l' l.length eE = false) {i m : Nat} (hi : i ≤ l.length) (h : expPart l (.ok i) = .ok m) : expPart l' (.ok i) = .ok m := by
 simp only [expPart] at h ⊢
 split at h
 ·rename_i g
  have := hasAt_lt g
  rw [hA.has (by omega), if_pos g]
  unfold exponentL at h ⊢
  have e2 := digitsL_le h
  have ha := aft_le l (i + 1) (fun c => c == 43 || c == 45)
  rw [aft_agree hA (by omega)]
  exact digits_ext hA hd h
 ·rename_i g
  by_cases hk : i < l.length
  ·rw [hA.has hk, if_neg g]; exact h
  ·have e : i = l.length := by omega
   have he' : hasAt l' i (fun c => c == 101 || c == 69) = false := by rw [e]; exact he
   rw [he']
   simpa using h
theorem number_ext {l l' : List UInt8} (hA : Agree l l' l.length) (hd : hasAt l' l.length digitB = false) (hp : hasAt l' l.length (· == 46) = false) (he : hasAt l' l.length eE = false) {i m : Nat} (h : numberL l i = .ok m) : numberL l' i = .ok m := by
 obtain ⟨a, b, h1, h2, h3, h4, h5, _⟩ := number_parts h
 have e1 := wholeL_le h1
 have e2 := fracPart_le e1.2 h2
 unfold numberL
 rw [whole_ext hA hd h1, frac_ext hA hd hp e1.2 h2, exp_ext hA hd he e2.2 h3]
theorem stands_back {k : Nat} {x y : List UInt8} {i : Nat} {p : Pl} {t : Tok} (h : stands k (x ++ y) (x.length + i) (shP x.length p) = .ok t) : ∃ t0, stands k y i p = .ok t0 ∧ t = ⟨t0.kind, t0.text, x.length + t0.fr, x.length + t0.to⟩ := by
 cases p with
 | error n => cases h
 | ok e =>
  simp only [shP, stands] at h
  injection h with h
  refine ⟨⟨k, sub y i e, i, e⟩, rfl, ?_⟩
  rw [← h, sh_sub]
theorem sh_back {x y : List UInt8} {p : Nat} {t : Tok} (h : readL (x ++ y) (x.length + p) = .ok t) : ∃ t0, readL y p = .ok t0 ∧ t = ⟨t0.kind, t0.text, x.length + t0.fr, x.length + t0.to⟩ := by
 unfold readL at h ⊢
 rw [sh_bx] at h
 by_cases h0 : p = y.length
 ·rw [if_pos h0]
  rw [if_pos (by simp; omega)] at h
  injection h with h
  exact ⟨_, rfl, by rw [← h]⟩
 ·rw [if_neg h0]
  rw [if_neg (by simp; omega)] at h
  by_cases hs : signB (bx y p) = true
  ·rw [if_pos hs] at h ⊢
   injection h with h
   refine ⟨_, rfl, ?_⟩
   rw [← h, Nat.add_assoc, sh_sub]
  ·rw [if_neg hs] at h ⊢
   by_cases h1 : bx y p = 110
   ·rw [if_pos h1] at h ⊢
    rw [sh_spelled] at h; exact stands_back h
   ·rw [if_neg h1] at h ⊢
    by_cases h2 : bx y p = 116
    ·rw [if_pos h2] at h ⊢
     rw [sh_spelled] at h; exact stands_back h
    ·rw [if_neg h2] at h ⊢
     by_cases h3 : bx y p = 102
     ·rw [if_pos h3] at h ⊢
      rw [sh_spelled] at h; exact stands_back h
     ·rw [if_neg h3] at h ⊢
      by_cases h4 : bx y p = 45 ∨ digitB (bx y p) = true
      ·rw [if_pos h4] at h ⊢
       rw [sh_number] at h; exact stands_back h
      ·rw [if_neg h4] at h ⊢
       by_cases h5 : bx y p = 34
       ·rw [if_pos h5] at h ⊢
        unfold textL at h ⊢
        have hs := sh_textF x y p ((x ++ y).length + 1) (p + 1) []
        rw [← Nat.add_assoc, h] at hs
        cases hy : textF y p ((x ++ y).length + 1) (p + 1) [] with
        | error n => rw [hy] at hs; cases hs
        | ok t0 =>
         rw [hy] at hs
         have e : t = ⟨t0.kind, t0.text, x.length + t0.fr, x.length + t0.to⟩ := Except.ok.inj hs
         exact ⟨t0, textF_more hy (by omega), e⟩
       ·rw [if_neg h5] at h
        cases h
theorem read_ctx {l : List UInt8} {p : Nat} {t : Tok} (hlt : p < l.length) (h : readL l p = .ok t) (pre r : List UInt8) (hnum : t.kind = 2 → hasAt r 0 digitB = false ∧ hasAt r 0 (· == 46) = false ∧ hasAt r 0 eE = false) :
  readL (pre ++ (sub l p t.to ++ r)) pre.length = .ok ⟨t.kind, t.text, pre.length, pre.length + (t.to - p)⟩ ∧ p < t.to ∧ t.to ≤ l.length := by
 have hk0 := read_kind hlt h
 have hle : p < t.to ∧ t.to ≤ l.length := by
  rcases readL_le (by omega) h with ⟨x, _⟩ | x
  ·exact absurd x hk0
  ·exact x
 refine ⟨?_, hle⟩
 have hlen : (l.take p).length = p := by simp; omega
 have hspl : l.take p ++ l.drop p = l := List.take_append_drop p l
 obtain ⟨t0, ht0, htt⟩ := sh_back (x := l.take p) (y := l.drop p) (p := 0) (t := t) (by rw [hspl, hlen]; exact h)
 rw [hlen] at htt
 have hfr := read_fr ht0
 have hylt : 0 < (l.drop p).length := by simp; omega
 have hto : t0.to = t.to - p := by rw [htt]; simp
 have hkd : t0.kind = t.kind := by rw [htt]
 have htx : t0.text = t.text := by rw [htt]
 have hsub : sub l p t.to = (l.drop p).take t0.to := by unfold sub; rw [hto]
 have hty : t0.to ≤ (l.drop p).length := by simp; omega
 rw [hsub]
 have hA := agree_take (l.drop p) r t0.to hty
 have key : readL ((l.drop p).take t0.to ++ r) 0 = .ok t0 := by
  by_cases h2 : t0.kind = 2
  ·obtain ⟨a, b, c, d⟩ := read_num hylt ht0 h2
   have hl1 : ((l.drop p).take t0.to).length = t0.to := by simp; omega
   have c1 := number_cut hty c (Nat.le_refl _)
   have hA1 : Agree ((l.drop p).take t0.to) ((l.drop p).take t0.to ++ r) ((l.drop p).take t0.to).length := ⟨Nat.le_refl _, by simp, fun j hj => by rw [List.getElem?_append_left hj]⟩
   obtain ⟨s1, s2, s3⟩ := hnum (by omega)
   have hat : ∀ q, hasAt ((l.drop p).take t0.to ++ r) ((l.drop p).take t0.to).length q = hasAt r 0 q := fun q => by
    have := sh_has ((l.drop p).take t0.to) r 0 q
    rwa [Nat.add_zero] at this
   have c2 := number_ext hA1 (by rw [hat]; exact s1) (by rw [hat]; exact s2) (by rw [hat]; exact s3) c1
   have hb := hA.bx (j := 0) (by omega)
   have hp0 : 0 < ((l.drop p).take t0.to ++ r).length := by rw [List.length_append]; omega
   rw [read_of_num hp0 (by rw [hb]; exact a) (by rw [hb]; exact b) c2, hA.sub (Nat.le_refl _), ← d]
  ·exact read_agree hA (by omega) ht0 (Nat.le_refl _) (by omega) h2
 have := sh_read (x := pre) key
 rw [Nat.add_zero] at this
 rw [this, hfr, hkd, htx, hto]
 simp
end Go.Proofs.YtjakgdaodlgeaaaGreatDoor.Lx

namespace Go.Proofs.YtjakgdaodlgeaaaGreatDoor
open Go.RowKit

def Blk (bl : List UInt8) : Prop := ∀ c ∈ bl, Lx.blankB (c.toNat : Int) = true
inductive Mk (l : List UInt8) : Nat → List UInt8 → Prop
 | nil {i : Nat} (bl : List UInt8) (hb : Blk bl) (he : Lx.pass l Lx.blankB i = l.length) : Mk l i bl
 | cons {i : Nat} {t : Lx.Tok} {r : List UInt8} (bl : List UInt8) (hb : Blk bl) (hp : Lx.pass l Lx.blankB i < l.length) (hr : Lx.readL l (Lx.pass l Lx.blankB i) = .ok t) (hm : Mk l t.to r) : Mk l i (bl ++ (Lx.sub l (Lx.pass l Lx.blankB i) t.to ++ r))
structure Tq (t t' : Lx.Tok) : Prop where
 k : t'.kind = t.kind
 x : t'.text = t.text
 d : t'.to + t.fr = t.to + t'.fr
 b : t.fr ≤ 2097152 ∧ t'.fr ≤ 2097152 ∧ t.to ≤ 2097152 ∧ t'.to ≤ 2097152
theorem sign_not {c : Int} (h : (c == 44 || c == 93 || c == 125) = true) : Lx.digitB c = false ∧ (c == 46) = false ∧ Lx.eE c = false := by
 simp only [Bool.or_eq_true, beq_iff_eq] at h
 rcases h with (h | h) | h <;> (rw [h]; decide)
end Go.Proofs.YtjakgdaodlgeaaaGreatDoor
