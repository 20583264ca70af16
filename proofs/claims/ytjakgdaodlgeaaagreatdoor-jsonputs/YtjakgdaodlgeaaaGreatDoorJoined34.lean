/-
  The document's reader at a value's text that stands inside another text, behind it a comma or a closing sign. No condition.
  Texts of values in an array, as the document's reader takes them. No condition.
  An array's text whole, an object's text whole, as the document's reader takes them. No condition.
  Texts of values in an object, with keys that are unlike, as the document's reader takes them. Conditions: at most thirty keys.
-/
import Derived.Test.YtjakgdaodlgeaaaGreatDoorJoined33
namespace Go.Proofs.YtjakgdaodlgeaaaGreatDoor
open Go.RowKit

theorem agree_r (l r : List UInt8) : Lx.Agree l (l ++ r) l.length := ⟨Nat.le_refl _, by simp, fun j hj => by rw [List.getElem?_append_left hj]⟩
theorem pass_extp {l l' : List UInt8} {p : Int → Bool} (hA : Lx.Agree l l' l.length) (hd : Lx.hasAt l' l.length p = false) (d : Nat) : ∀ j, l.length - j = d → j ≤ l.length → Lx.pass l' p j = Lx.pass l p j := by
 induction d with
 | zero =>
  intro j h1 h2
  have : j = l.length := by omega
  subst this
  rw [Lx.pass_stop hd, Lx.pass_stop (Lx.hasAt_out _ (by omega))]
 | succ d ih =>
  intro j h1 h2
  cases hh : Lx.hasAt l j p
  ·rw [Lx.pass_stop hh, Lx.pass_stop (by rw [hA.has (by omega)]; exact hh)]
  ·rw [Lx.pass_go hh, Lx.pass_go (by rw [hA.has (by omega)]; exact hh)]
   exact ih (j + 1) (by omega) (by omega)
def Aft (r : List UInt8) : Prop := Lx.hasAt r 0 (fun c => c == 44 || c == 93 || c == 125) = true
theorem has_r (l r : List UInt8) (q : Int → Bool) : Lx.hasAt (l ++ r) l.length q = Lx.hasAt r 0 q := by
 have := Lx.sh_has l r 0 q
 simpa using this
theorem aft_no {r : List UInt8} (h : Aft r) {q : Int → Bool} (hq : ∀ c, (c == 44 || c == 93 || c == 125) = true → q c = false) : Lx.hasAt r 0 q = false := by
 have h0 := Lx.hasAt_lt h
 unfold Aft at h
 rw [Lx.hasAt_in _ h0] at h ⊢
 exact hq _ h
theorem aft_blank {r : List UInt8} (h : Aft r) : Lx.hasAt r 0 Lx.blankB = false := aft_no h (fun c hc => by
 simp only [Bool.or_eq_true, beq_iff_eq] at hc
 rcases hc with (rfl | rfl) | rfl <;> decide)
theorem pass_r {l r : List UInt8} (h : Aft r) {i : Nat} (hi : i ≤ l.length) : Lx.pass (l ++ r) Lx.blankB i = Lx.pass l Lx.blankB i :=
 pass_extp (agree_r l r) (by rw [has_r]; exact aft_blank h) _ i rfl hi
theorem next_r {l r : List UInt8} (hr : Aft r) {i : Nat} {t : Lx.Tok} (hi : i ≤ l.length) (h : Lx.nextL l i = .ok t) (hk : t.kind ≠ 0) : Lx.nextL (l ++ r) i = .ok t := by
 rcases next_to hi h with ⟨a, _⟩ | ⟨hp, _, _, hto⟩
 ·exact absurd a hk
 ·unfold Lx.nextL at h ⊢
  rw [pass_r hr hi]
  generalize Lx.pass l Lx.blankB i = p at *
  by_cases hlt : t.to < l.length
  ·exact Lx.read_agree2 (agree_r l r) hp h hlt
  ·have hte : t.to = l.length := by omega
   have hc := (Lx.read_ctx hp h (l.take p) r (fun _ => by
    refine ⟨aft_no hr (fun c hc => (sign_not hc).1), aft_no hr (fun c hc => (sign_not hc).2.1), aft_no hr (fun c hc => (sign_not hc).2.2)⟩)).1
   have e1 : l.take p ++ (Lx.sub l p t.to ++ r) = l ++ r := by
    have hs : Lx.sub l p l.length = l.drop p := by unfold Lx.sub; exact List.take_of_length_le (by simp)
    rw [hte, hs, ← List.append_assoc, List.take_append_drop]
   have e2 : (l.take p).length = p := by simp; omega
   rw [e1, e2] at hc
   rw [hc]
   have hf := Lx.read_fr h
   congr 1
   cases t
   simp only at hf hte ⊢
   congr 1
   ·exact hf.symm
   ·omega
theorem next_ctx {pre l r : List UInt8} (hr : Aft r) {i : Nat} {t : Lx.Tok} (hi : i ≤ l.length) (h : Lx.nextL l i = .ok t) (hk : t.kind ≠ 0) : Lx.nextL (pre ++ (l ++ r)) (pre.length + i) = .ok ⟨t.kind, t.text, pre.length + t.fr, pre.length + t.to⟩ := by
 have := next_r hr hi h hk
 unfold Lx.nextL at this ⊢
 rw [Lx.sh_pass']
 exact Lx.sh_read this
theorem pass_ctx {pre l r : List UInt8} (hr : Aft r) {i : Nat} (hi : i ≤ l.length) : Lx.pass (pre ++ (l ++ r)) Lx.blankB (pre.length + i) = pre.length + Lx.pass l Lx.blankB i := by
 rw [Lx.sh_pass', pass_r hr hi]
theorem fin_tok {H : List HS} {Q p q : PR} (h : Fn H Q p q) {rl : List UInt8 → Nat} {rd : List UInt8 → JV} {t : Lx.Tok} {p' : PR} (ht : tokenR rl rd t p = .ok p') : False := by
 have h6 := h.p0.2
 unfold tokenR at ht
 rw [if_neg (fun e => e.1.1 h.p0.1), if_neg (by omega), if_neg (by omega), if_neg (by omega), if_neg (by omega)] at ht
 cases ht
theorem ctx_rl {pre l r : List UInt8} {rl : List UInt8 → Nat} {rd : List UInt8 → JV} {H : List HS} {Q p1 : PR} (hr : Aft r) (hH : H ≠ []) : ∀ n i p q, l.length - i ≤ n → i ≤ l.length → RR l rl rd p i = .ok p1 → Rl H Q p q →
  ∃ q1 j, RR (pre ++ (l ++ r)) rl rd q (pre.length + i) = RR (pre ++ (l ++ r)) rl rd q1 (pre.length + j) ∧ Fn H Q p1 q1 ∧ j ≤ l.length ∧ Lx.pass l Lx.blankB j = l.length := by
 intro n
 induction n with
 | zero =>
  intro i p q h1 h2 h3 h4
  rw [RR_step h2] at h3
  cases hn : Lx.nextL l i with
  | error e => rw [hn] at h3; simp only at h3; split at h3 <;> cases h3
  | ok t =>
   rw [hn] at h3
   rcases next_to h2 hn with ⟨a, b⟩ | ⟨_, _, a, b⟩
   ·simp only [a, if_true] at h3
    by_cases n6 : p.nx = 6
    ·rw [if_pos n6] at h3
     injection h3 with h3
     subst h3
     rcases h4 with ⟨_, _, _, h4⟩ | h4
     ·exact absurd n6 h4
     ·exact ⟨q, i, rfl, h4, h2, b⟩
    ·rw [if_neg n6] at h3; cases h3
   ·omega
 | succ n ih =>
  intro i p q h1 h2 h3 h4
  rw [RR_step h2] at h3
  cases hn : Lx.nextL l i with
  | error e => rw [hn] at h3; simp only at h3; split at h3 <;> cases h3
  | ok t =>
   rw [hn] at h3
   rcases next_to h2 hn with ⟨a, b⟩ | ⟨_, k0, a, b⟩
   ·simp only [a, if_true] at h3
    by_cases n6 : p.nx = 6
    ·rw [if_pos n6] at h3
     injection h3 with h3
     subst h3
     rcases h4 with ⟨_, _, _, h4⟩ | h4
     ·exact absurd n6 h4
     ·exact ⟨q, i, rfl, h4, h2, b⟩
    ·rw [if_neg n6] at h3; cases h3
   ·simp only [k0, if_false] at h3
    cases htk : tokenR rl rd t p with
    | error e => rw [htk] at h3; cases h3
    | ok p' =>
     rw [htk] at h3
     rcases h4 with ⟨h4, h5, h6, _⟩ | h4
     ·obtain ⟨q', hq, hR⟩ := token_rl (t := t) (t' := ⟨t.kind, t.text, pre.length + t.fr, pre.length + t.to⟩) hH h4 h5 h6 rfl rfl htk
      obtain ⟨q1, j, e, hF, hj, hp⟩ := ih t.to p' q' (by omega) b h3 hR
      refine ⟨q1, j, ?_, hF, hj, hp⟩
      rw [RR_step (by simp; omega), next_ctx hr h2 hn k0]
      simp only [k0, if_false]
      rw [hq]
      exact e
     ·exact (fin_tok h4 htk).elim
theorem val_ctx {pre l r : List UInt8} {rl : List UInt8 → Nat} {rd : List UInt8 → JV} {Q p1 : PR} (hr : Aft r) (hH : Q.hs ≠ []) (hQ : Q.nx = 0 ∨ Q.nx = 1) (hd : Q.hs.length ≤ Q.dp) (h : RR l rl rd ⟨[], 0, zeroJ 0, 0, 0⟩ 0 = .ok p1) :
  ∃ q1 j, RR (pre ++ (l ++ r)) rl rd Q pre.length = RR (pre ++ (l ++ r)) rl rd q1 (pre.length + j) ∧ Fn Q.hs Q p1 q1 ∧ j ≤ l.length ∧ Lx.pass l Lx.blankB j = l.length := by
 have h0 : (0 : Nat) ≤ l.length := Nat.zero_le _
 rw [RR_step h0] at h
 cases hn : Lx.nextL l 0 with
 | error e => rw [hn] at h; simp only at h; split at h <;> cases h
 | ok t =>
  rw [hn] at h
  rcases next_to h0 hn with ⟨a, b⟩ | ⟨_, k0, a, b⟩
  ·simp [a] at h
  ·simp only [k0, if_false] at h
   cases htk : tokenR rl rd t ⟨[], 0, zeroJ 0, 0, 0⟩ with
   | error e => rw [htk] at h; cases h
   | ok p' =>
    rw [htk] at h
    obtain ⟨q', hq, hR⟩ := start_rl (p := ⟨[], 0, zeroJ 0, 0, 0⟩) (t := t) (t' := ⟨t.kind, t.text, pre.length + t.fr, pre.length + t.to⟩) (H := Q.hs) (Q := Q) (q := Q) hH ⟨by simp, by simp; omega, by simp⟩ rfl rfl hQ rfl rfl htk
    obtain ⟨q1, j, e, hF, hj, hp⟩ := ctx_rl (pre := pre) hr hH l.length t.to p' q' (by omega) b h hR
    refine ⟨q1, j, ?_, hF, hj, hp⟩
    have hn2 := next_ctx (pre := pre) hr h0 hn k0
    rw [Nat.add_zero] at hn2
    rw [RR_step (by simp), hn2]
    simp only [k0, if_false]
    rw [hq]
    exact e
end Go.Proofs.YtjakgdaodlgeaaaGreatDoor

namespace Go.Proofs.YtjakgdaodlgeaaaGreatDoor
open Go.RowKit

def body : List (List UInt8) → List UInt8
 | [] => []
 | [l] => l
 | l :: m :: ls => l ++ 44 :: body (m :: ls)
theorem body_snoc : ∀ (ls : List (List UInt8)) (l : List UInt8), ls ≠ [] → body (ls ++ [l]) = body ls ++ 44 :: l
 | [a], l, _ => rfl
 | a :: b :: ls, l, _ => by
  show a ++ 44 :: body (b :: ls ++ [l]) = (a ++ 44 :: body (b :: ls)) ++ 44 :: l
  rw [body_snoc (b :: ls) l (by simp)]
  simp
def Alone (rl : List UInt8 → Nat) (rd : List UInt8 → JV) (l : List UInt8) (p : PR) : Prop := RR l rl rd ⟨[], 0, zeroJ 0, 0, 0⟩ 0 = .ok p
theorem next_sign {L : List UInt8} {i q : Nat} {c : UInt8} (hp : Lx.pass L Lx.blankB i = q) (hc : L[q]? = some c) (hs : Lx.signB ((c.toNat : Nat) : Int) = true) : Lx.nextL L i = .ok ⟨4, [c], q, q + 1⟩ := by
 obtain ⟨hq, hcq⟩ := List.getElem?_eq_some_iff.1 hc
 have hb : Lx.bx L q = ((c.toNat : Nat) : Int) := by
  unfold Lx.bx
  rw [hc]
  rfl
 unfold Lx.nextL Lx.readL
 rw [hp, if_neg (by omega), if_pos (by rw [hb]; exact hs)]
 have e : Lx.sub L q (q + 1) = [c] := by
  unfold Lx.sub
  rw [show q + 1 - q = 1 by omega, List.drop_eq_getElem_cons hq]
  simp [hcq]
 rw [e]
theorem Fn.len {H : List HS} {Q p q : PR} (h : Fn H Q p q) (hH : H ≠ []) : q.hs.length = H.length := by
 rw [h.hs, List.length_append, List.length_dropLast, List.length_singleton]
 have := List.length_pos_iff.2 hH
 omega
theorem at_app (pre l r : List UInt8) (c : UInt8) : (pre ++ (l ++ c :: r))[pre.length + l.length]? = some c := by
 rw [← List.append_assoc, List.getElem?_append_right (by simp)]
 simp
theorem one_app (pre l r : List UInt8) (c : UInt8) : pre ++ (l ++ c :: r) = (pre ++ (l ++ [c])) ++ r := by simp
theorem tok_comma {rl : List UInt8 → Nat} {rd : List UInt8 → JV} {q : PR} {vs : List JV} {ks : List ByteArray} {k : Int} (hq : q.hs = [(k, vs, ks)]) (hn : q.nx = 5) (a b : Nat) : tokenR rl rd ⟨4, [44], a, b⟩ q = .ok { q with nx := if k = 6 then 2 else 0 } := by
 have hl : lastP q = (k, vs, ks) := by unfold lastP; rw [hq]; rfl
 unfold tokenR
 rw [if_neg (fun e => by rcases e.1.2.2 with ⟨e, _⟩ | ⟨e, _⟩ <;> cases e), if_pos ⟨hn, rfl, rfl⟩, hl]
theorem arr_go {rl : List UInt8 → Nat} {rd : List UInt8 → JV} {r : List UInt8} (hr : Aft r) : ∀ (ls : List (List UInt8)) (ps : List PR) (pre : List UInt8) (Q : PR) (vs0 : List JV), ls ≠ [] → ls.length = ps.length → (∀ i (h : i < ls.length) (h' : i < ps.length), Alone rl rd ls[i] ps[i] ∧ ps[i].ps = 0) → Q.hs = [(5, vs0, [])] → (Q.nx = 0 ∨ Q.nx = 1) → 1 ≤ Q.dp → Q.ps = 0 →
  ∃ q j, RR (pre ++ (body ls ++ r)) rl rd Q pre.length = RR (pre ++ (body ls ++ r)) rl rd q j ∧ q.hs = [(5, vs0 ++ ps.map (·.v), [])] ∧ q.nx = 5 ∧ q.ps = 0 ∧ j ≤ pre.length + (body ls).length ∧ Lx.pass (pre ++ (body ls ++ r)) Lx.blankB j = pre.length + (body ls).length ∧ ∀ M, Q.dp ≤ M → (∀ p ∈ ps, 1 + p.dp ≤ M) → q.dp ≤ M
 | [], _, _, _, _, h, _, _, _, _, _, _ => absurd rfl h
 | [l], ps, pre, Q, vs0, _, hlen, hA, hQ, hn, hd, hps => by
  match ps, hlen with
  | [p1], _ =>
   obtain ⟨h1, h1p⟩ := hA 0 (by simp) (by simp)
   simp only [List.getElem_cons_zero] at h1 h1p
   obtain ⟨q, j, e, hF, hj, hp⟩ := val_ctx (pre := pre) (r := r) (Q := Q) hr (by rw [hQ]; simp) hn (by rw [hQ]; exact hd) h1
   refine ⟨q, pre.length + j, e, ?_, hF.nx, ?_, ?_, ?_, ?_⟩
   ·rw [hF.hs, hQ]; rfl
   ·rw [hF.ps, hps]; simp [h1p]
   ·show pre.length + j ≤ pre.length + l.length; omega
   ·show Lx.pass (pre ++ (l ++ r)) Lx.blankB (pre.length + j) = pre.length + l.length
    rw [pass_ctx hr hj, hp]
   ·intro M hM hps'
    rw [hF.dp, hQ]
    have := hps' p1 (by simp)
    simp only [List.length_singleton]
    omega
 | l :: m :: ls, ps, pre, Q, vs0, _, hlen, hA, hQ, hn, hd, hps => by
  match ps, hlen with
  | p1 :: ps', hlen =>
   obtain ⟨h1, h1p⟩ := hA 0 (by simp) (by simp)
   simp only [List.getElem_cons_zero] at h1 h1p
   have hr1 : Aft (44 :: (body (m :: ls) ++ r)) := by unfold Aft; rfl
   obtain ⟨q, j, e, hF, hj, hp⟩ := val_ctx (pre := pre) (r := 44 :: (body (m :: ls) ++ r)) (Q := Q) hr1 (by rw [hQ]; simp) hn (by rw [hQ]; exact hd) h1
   have hqh : q.hs = [(5, vs0 ++ [p1.v], [])] := by rw [hF.hs, hQ]; rfl
   have eL : pre ++ (body (l :: m :: ls) ++ r) = pre ++ (l ++ 44 :: (body (m :: ls) ++ r)) := by
    show pre ++ ((l ++ 44 :: body (m :: ls)) ++ r) = _
    simp
   have eL2 : pre ++ (l ++ 44 :: (body (m :: ls) ++ r)) = (pre ++ (l ++ [44])) ++ (body (m :: ls) ++ r) := one_app _ _ _ _
   have hpass : Lx.pass (pre ++ (l ++ 44 :: (body (m :: ls) ++ r))) Lx.blankB (pre.length + j) = pre.length + l.length := by rw [pass_ctx hr1 hj, hp]
   have hnx := next_sign hpass (at_app pre l _ 44) (by decide)
   obtain ⟨q2, j2, e2, g1, g2, g3, g4, g5, g6⟩ := arr_go hr (m :: ls) ps' (pre ++ (l ++ [44])) { q with nx := 0 } (vs0 ++ [p1.v]) (by simp) (by simpa using hlen) (fun i h h' => by
    have := hA (i + 1) (by simp at h ⊢; omega) (by simp at h' ⊢; omega)
    simpa using this) hqh (Or.inl rfl) (by show 1 ≤ q.dp; rw [hF.dp]; omega) (by show q.ps = 0; rw [hF.ps, hps]; simp [h1p])
   have hpl : (pre ++ (l ++ [44])).length = pre.length + l.length + 1 := by simp; omega
   have hbl : (body (l :: m :: ls)).length = l.length + 1 + (body (m :: ls)).length := by
    show (l ++ 44 :: body (m :: ls)).length = _
    simp; omega
   refine ⟨q2, j2, ?_, ?_, g2, g3, ?_, ?_, ?_⟩
   ·rw [eL, e, RR_step (by simp; omega), hnx]
    simp only [show ((4 : Nat) = 0) = False by simp, if_false]
    rw [tok_comma hqh hF.nx]
    simp only [show ((5 : Int) = 6) = False by simp, if_false]
    rw [← hpl, eL2]
    exact e2
   ·rw [g1]; simp
   ·rw [hbl]; omega
   ·rw [eL, eL2, g5, hpl, hbl]; omega
   ·intro M hM hps'
    refine g6 M ?_ (fun p hp => hps' p (by simp [hp]))
    show q.dp ≤ M
    rw [hF.dp, hQ]
    have := hps' p1 (by simp)
    simp only [List.length_singleton]
    omega
end Go.Proofs.YtjakgdaodlgeaaaGreatDoor

namespace Go.Proofs.YtjakgdaodlgeaaaGreatDoor
open Go.RowKit

theorem tok_open {rl : List UInt8 → Nat} {rd : List UInt8 → JV} (c : UInt8) (k : Int) (hc : (c = 91 ∧ k = 5) ∨ (c = 123 ∧ k = 6)) (a b : Nat) : tokenR rl rd ⟨4, [c], a, b⟩ ⟨[], 0, zeroJ 0, 0, 0⟩ = .ok ⟨[(k, [], [])], if k = 6 then 3 else 1, zeroJ 0, 1, 0⟩ := by
 unfold tokenR
 rw [if_neg (fun e => e.1.1 rfl), if_neg (by simp), if_neg (by simp), if_neg (by simp), if_pos (Or.inl rfl)]
 rcases hc with ⟨rfl, rfl⟩ | ⟨rfl, rfl⟩ <;> rfl
theorem tok_close {rl : List UInt8 → Nat} {rd : List UInt8 → JV} {q : PR} {vs : List JV} {ks : List ByteArray} (c : UInt8) (k : Int) (hc : (c = 93 ∧ k = 5) ∨ (c = 125 ∧ k = 6)) (hq : q.hs = [(k, vs, ks)]) (hn : q.nx = 1 ∨ q.nx = 3 ∨ q.nx = 5) (a b : Nat) : tokenR rl rd ⟨4, [c], a, b⟩ q = .ok { q with hs := [], v := .mk k false ⟨#[]⟩ 0 ⟨#[]⟩ vs ks, nx := 6 } := by
 have hl : lastP q = (k, vs, ks) := by unfold lastP; rw [hq]; rfl
 have he : endsR ⟨4, [c], a, b⟩ q := by
  refine ⟨by rw [hq]; simp, rfl, ?_⟩
  rw [hl]
  rcases hc with ⟨rfl, rfl⟩ | ⟨rfl, rfl⟩
  ·exact Or.inl ⟨rfl, rfl⟩
  ·exact Or.inr ⟨rfl, rfl⟩
 unfold tokenR
 rw [if_pos ⟨he, hn⟩]
 unfold closeR putR
 rw [hl, hq]
 rfl
theorem pass_here {L : List UInt8} {q : Nat} {c : UInt8} (hc : L[q]? = some c) (hb : Lx.blankB ((c.toNat : Nat) : Int) = false) : Lx.pass L Lx.blankB q = q := by
 obtain ⟨hq, _⟩ := List.getElem?_eq_some_iff.1 hc
 refine Lx.pass_stop ?_
 rw [Lx.hasAt_in _ hq]
 unfold Lx.bx
 rw [hc]
 exact hb
theorem end_ok {L : List UInt8} {rl : List UInt8 → Nat} {rd : List UInt8 → JV} {p : PR} (h6 : p.nx = 6) : RR L rl rd p L.length = .ok p := by
 have hp : Lx.pass L Lx.blankB L.length = L.length := Lx.pass_stop (Lx.hasAt_out _ (by omega))
 have hn : Lx.nextL L L.length = .ok ⟨0, [], L.length, L.length⟩ := by
  unfold Lx.nextL Lx.readL
  rw [hp, if_pos rfl]
 rw [RR_step (Nat.le_refl _), hn]
 simp only [if_true]
 rw [if_pos h6]
theorem shut_ok {pre : List UInt8} {rl : List UInt8 → Nat} {rd : List UInt8 → JV} {q : PR} {vs : List JV} {ks : List ByteArray} (c : UInt8) (k : Int) (hc : (c = 93 ∧ k = 5) ∨ (c = 125 ∧ k = 6)) (hq : q.hs = [(k, vs, ks)]) (hn : q.nx = 1 ∨ q.nx = 3 ∨ q.nx = 5) {j : Nat} (hj : j ≤ pre.length) (hp : Lx.pass (pre ++ [c]) Lx.blankB j = pre.length) :
  RR (pre ++ [c]) rl rd q j = .ok { q with hs := [], v := .mk k false ⟨#[]⟩ 0 ⟨#[]⟩ vs ks, nx := 6 } := by
 have hat : (pre ++ [c])[pre.length]? = some c := by simp
 have hs : Lx.signB ((c.toNat : Nat) : Int) = true := by rcases hc with ⟨rfl, _⟩ | ⟨rfl, _⟩ <;> decide
 rw [RR_step (by simp; omega), next_sign hp hat hs]
 simp only [show ((4 : Nat) = 0) = False by simp, if_false]
 rw [tok_close c k hc hq hn]
 have e : pre.length + 1 = (pre ++ [c]).length := by simp
 simp only
 rw [e]
 exact end_ok rfl
theorem open_ok {L : List UInt8} {rl : List UInt8 → Nat} {rd : List UInt8 → JV} (c : UInt8) (k : Int) (hc : (c = 91 ∧ k = 5) ∨ (c = 123 ∧ k = 6)) (hL : L[0]? = some c) : RR L rl rd ⟨[], 0, zeroJ 0, 0, 0⟩ 0 = RR L rl rd ⟨[(k, [], [])], if k = 6 then 3 else 1, zeroJ 0, 1, 0⟩ 1 := by
 have hs : Lx.signB ((c.toNat : Nat) : Int) = true := by rcases hc with ⟨rfl, _⟩ | ⟨rfl, _⟩ <;> decide
 have hb : Lx.blankB ((c.toNat : Nat) : Int) = false := by rcases hc with ⟨rfl, _⟩ | ⟨rfl, _⟩ <;> decide
 rw [RR_step (Nat.zero_le _), next_sign (pass_here hL hb) hL hs]
 simp only [show ((4 : Nat) = 0) = False by simp, if_false]
 rw [tok_open c k hc]
theorem arr_ok {rl : List UInt8 → Nat} {rd : List UInt8 → JV} (ls : List (List UInt8)) (ps : List PR) (hlen : ls.length = ps.length) (hA : ∀ i (h : i < ls.length) (h' : i < ps.length), Alone rl rd ls[i] ps[i] ∧ ps[i].ps = 0) :
  ∃ p, Alone rl rd ([91] ++ (body ls ++ [93])) p ∧ p.v = .mk 5 false ⟨#[]⟩ 0 ⟨#[]⟩ (ps.map (·.v)) [] ∧ p.ps = 0 ∧ ∀ M, 1 ≤ M → (∀ p ∈ ps, 1 + p.dp ≤ M) → p.dp ≤ M := by
 unfold Alone
 rw [open_ok 91 5 (Or.inl ⟨rfl, rfl⟩) rfl]
 simp only [show ((5 : Int) = 6) = False by simp, if_false]
 match ls, ps, hlen, hA with
 | [], [], _, _ =>
  refine ⟨_, shut_ok (pre := [91]) 93 5 (Or.inl ⟨rfl, rfl⟩) rfl (Or.inl rfl) (j := 1) (Nat.le_refl _) rfl, rfl, rfl, fun M hM _ => hM⟩
 | l :: ls, ps, hlen, hA =>
  obtain ⟨q, j, e, g1, g2, g3, g4, g5, g6⟩ := arr_go (r := [93]) rfl (l :: ls) ps [91] ⟨[(5, [], [])], 1, zeroJ 0, 1, 0⟩ [] (by simp) hlen hA rfl (Or.inr rfl) (Nat.le_refl _) rfl
  have eL : [91] ++ (body (l :: ls) ++ [93]) = ([91] ++ body (l :: ls)) ++ [93] := by simp
  have hb : ([91] ++ body (l :: ls)).length = [91].length + (body (l :: ls)).length := by simp; omega
  refine ⟨{ q with hs := [], v := .mk 5 false ⟨#[]⟩ 0 ⟨#[]⟩ ([] ++ ps.map (·.v)) [], nx := 6 }, e.trans ?_, rfl, ?_, ?_⟩
  ·rw [eL] at g5 ⊢
   exact shut_ok 93 5 (Or.inl ⟨rfl, rfl⟩) g1 (Or.inr (Or.inr g2)) (by rw [hb]; exact g4) (by rw [hb]; exact g5)
  ·exact g3
  ·exact g6
end Go.Proofs.YtjakgdaodlgeaaaGreatDoor

namespace Go.Proofs.YtjakgdaodlgeaaaGreatDoor
open Go.RowKit

def kyA (i : Nat) : UInt8 := UInt8.ofNat (97 + i / 26)
def kyB (i : Nat) : UInt8 := UInt8.ofNat (97 + i % 26)
def kyS (i : Nat) : ByteArray := ⟨#[kyA i, kyB i]⟩
def memT (i : Nat) (l : List UInt8) : List UInt8 := [34, kyA i, kyB i, 34, 58] ++ l
def kyOK (i : Nat) : Bool := match Lx.readL [34, kyA i, kyB i, 34] 0 with
 | .ok t => t.kind == 1 && t.text == [kyA i, kyB i] && t.fr == 0 && t.to == 4
 | .error _ => false
theorem ky_all : (List.range 30).all kyOK = true := by kernel_rfl
theorem ky_read {i : Nat} (hi : i < 30) : Lx.readL [34, kyA i, kyB i, 34] 0 = .ok ⟨1, [kyA i, kyB i], 0, 4⟩ := by
 have h := List.all_eq_true.1 ky_all i (List.mem_range.2 hi)
 unfold kyOK at h
 cases e : Lx.readL [34, kyA i, kyB i, 34] 0 with
 | error n => rw [e] at h; cases h
 | ok t =>
  rw [e] at h
  simp only [Bool.and_eq_true, beq_iff_eq] at h
  obtain ⟨⟨⟨h1, h2⟩, h3⟩, h4⟩ := h
  cases t
  simp only at h1 h2 h3 h4
  subst h1 h2 h3 h4
  rfl
def kyNe (n : Nat) : Bool := (List.range n).all fun i => (List.range n).all fun j => i == j || !(kyA i == kyA j && kyB i == kyB j)
theorem ky_ne : kyNe 30 = true := by kernel_rfl
theorem ky_inj {i j : Nat} (hi : i < 30) (hj : j < 30) (h : kyS i = kyS j) : i = j := by
 have h1 := List.all_eq_true.1 (List.all_eq_true.1 ky_ne i (List.mem_range.2 hi)) j (List.mem_range.2 hj)
 have ha : kyA i = kyA j ∧ kyB i = kyB j := by
  unfold kyS at h
  injection h with h
  injection h with h
  injection h with ha h
  injection h with hb _
  exact ⟨ha, hb⟩
 simp [ha.1, ha.2] at h1
 exact h1
theorem key_next (pre r : List UInt8) {i : Nat} (hi : i < 30) : Lx.nextL (pre ++ ([34, kyA i, kyB i, 34] ++ r)) pre.length = .ok ⟨1, [kyA i, kyB i], pre.length, pre.length + 4⟩ := by
 have h := (Lx.read_ctx (l := [34, kyA i, kyB i, 34]) (p := 0) (by simp) (ky_read hi) pre r (fun h => by cases h)).1
 have e : Lx.sub [34, kyA i, kyB i, 34] 0 4 = [34, kyA i, kyB i, 34] := rfl
 simp only [e] at h
 have hp : Lx.pass (pre ++ ([34, kyA i, kyB i, 34] ++ r)) Lx.blankB pre.length = pre.length := pass_here (c := 34) (by rw [List.getElem?_append_right (Nat.le_refl _)]; simp) (by decide)
 unfold Lx.nextL
 rw [hp]
 exact h
theorem inK_ky {n : Nat} (hn : n < 30) : inK (kyS n) ((List.range n).map kyS) = false := by
 unfold inK
 rw [List.any_eq_false]
 intro x hx
 obtain ⟨j, hj, rfl⟩ := List.mem_map.1 hx
 have hj := List.mem_range.1 hj
 simp only [decide_eq_true_eq]
 intro e
 have := ky_inj (by omega) hn e
 omega
theorem key_go {rl : List UInt8 → Nat} {rd : List UInt8 → JV} (pre r : List UInt8) {n : Nat} (hn : n < 30) (Q : PR) (vs : List JV) (hQ : Q.hs = [(6, vs, (List.range n).map kyS)]) (hx : Q.nx = 2 ∨ Q.nx = 3) :
  RR (pre ++ ([34, kyA n, kyB n, 34, 58] ++ r)) rl rd Q pre.length = RR (pre ++ ([34, kyA n, kyB n, 34, 58] ++ r)) rl rd { Q with hs := [(6, vs, (List.range (n + 1)).map kyS)], nx := 0 } (pre.length + 5) := by
 have hl : lastP Q = (6, vs, (List.range n).map kyS) := by unfold lastP; rw [hQ]; rfl
 have e1 : pre ++ ([34, kyA n, kyB n, 34, 58] ++ r) = pre ++ ([34, kyA n, kyB n, 34] ++ (58 :: r)) := by simp
 have hk := key_next pre (58 :: r) hn
 rw [← e1] at hk
 have h58 : (pre ++ ([34, kyA n, kyB n, 34, 58] ++ r))[pre.length + 4]? = some 58 := by
  rw [List.getElem?_append_right (by omega)]
  simp
 have hc := next_sign (i := pre.length + 4) (pass_here h58 (by decide)) h58 (by decide)
 rw [RR_step (by simp), hk]
 simp only [show ((1 : Nat) = 0) = False by simp, if_false]
 have t1 : tokenR rl rd ⟨1, [kyA n, kyB n], pre.length, pre.length + 4⟩ Q = .ok { Q with hs := [(6, vs, (List.range (n + 1)).map kyS)], nx := 4 } := by
  unfold tokenR
  rw [if_neg (fun e => by have := e.1.2.1; cases this), if_neg (fun e => by cases e.2.1), if_neg (fun e => by cases e.2.1), if_pos ⟨hx, rfl⟩]
  unfold keyedR
  rw [hl, hQ]
  have : inK (kyS n) ((List.range n).map kyS) = false := inK_ky hn
  rw [if_neg (by show ¬ inK (kyS n) _ = true; rw [this]; decide)]
  rw [List.range_succ, List.map_append]
  rfl
 rw [t1]
 simp only
 rw [RR_step (by simp), hc]
 simp only [show ((4 : Nat) = 0) = False by simp, if_false]
 have t2 : ∀ a b, tokenR rl rd ⟨4, [58], a, b⟩ { Q with hs := [(6, vs, (List.range (n + 1)).map kyS)], nx := 4 } = .ok { Q with hs := [(6, vs, (List.range (n + 1)).map kyS)], nx := 0 } := fun a b => by
  unfold tokenR
  rw [if_neg (fun e => by rcases e.1.2.2 with ⟨e, _⟩ | ⟨e, _⟩ <;> cases e), if_neg (fun e => by cases e.1), if_pos ⟨rfl, rfl, rfl⟩]
 rw [t2]
end Go.Proofs.YtjakgdaodlgeaaaGreatDoor
