/-
  An object's text whole, as the document's reader takes it. Conditions: at most thirty members.
  How deep the document's reader comes is how deep the value is. No condition.
  A token is taken by the document's reader where json takes it, and refused at the same place. Conditions: none.
-/
import Derived.Test.YtjakgdaodlgeaaaGreatDoorJoined34
import Derived.Test.YtjakgdaodlgeaaaGreatDoorJoined32
namespace Go.Proofs.YtjakgdaodlgeaaaGreatDoor
open Go.RowKit

def mems : Nat → List (List UInt8) → List (List UInt8)
 | _, [] => []
 | n, l :: ls => memT n l :: mems (n + 1) ls
theorem mem_go {rl : List UInt8 → Nat} {rd : List UInt8 → JV} {r l : List UInt8} (hr : Aft r) {p1 : PR} (pre : List UInt8) (Q : PR) (vs0 : List JV) (n : Nat) (hn : n < 30) (h1 : Alone rl rd l p1) (h1p : p1.ps = 0) (hQ : Q.hs = [(6, vs0, (List.range n).map kyS)]) (hx : Q.nx = 2 ∨ Q.nx = 3) (hd : 1 ≤ Q.dp) (hps : Q.ps = 0) :
  ∃ q j, RR (pre ++ (memT n l ++ r)) rl rd Q pre.length = RR (pre ++ (memT n l ++ r)) rl rd q j ∧ q.hs = [(6, vs0 ++ [p1.v], (List.range (n + 1)).map kyS)] ∧ q.nx = 5 ∧ q.ps = 0 ∧ q.dp = max Q.dp (1 + p1.dp) ∧ j ≤ pre.length + (memT n l).length ∧ Lx.pass (pre ++ (memT n l ++ r)) Lx.blankB j = pre.length + (memT n l).length := by
 have e1 : pre ++ (memT n l ++ r) = pre ++ ([34, kyA n, kyB n, 34, 58] ++ (l ++ r)) := by unfold memT; simp
 have e2 : pre ++ ([34, kyA n, kyB n, 34, 58] ++ (l ++ r)) = (pre ++ [34, kyA n, kyB n, 34, 58]) ++ (l ++ r) := by simp
 have hl5 : (pre ++ [34, kyA n, kyB n, 34, 58]).length = pre.length + 5 := by simp
 have hml : (memT n l).length = 5 + l.length := by unfold memT; simp; omega
 have hk := key_go (rl := rl) (rd := rd) pre (l ++ r) hn Q vs0 hQ hx
 obtain ⟨q, j, e, hF, hj, hp⟩ := val_ctx (pre := pre ++ [34, kyA n, kyB n, 34, 58]) (r := r) (Q := { Q with hs := [(6, vs0, (List.range (n + 1)).map kyS)], nx := 0 }) hr (by simp) (Or.inl rfl) (by simpa using hd) h1
 refine ⟨q, pre.length + 5 + j, ?_, ?_, hF.nx, ?_, hF.dp, ?_, ?_⟩
 ·rw [e1, hk, e2, ← hl5]
  exact e
 ·rw [hF.hs]; rfl
 ·rw [hF.ps]; simp [hps, h1p]
 ·rw [hml]; omega
 ·rw [e1, e2, ← hl5, pass_ctx hr hj, hp, hl5, hml]; omega
theorem obj_go {rl : List UInt8 → Nat} {rd : List UInt8 → JV} {r : List UInt8} (hr : Aft r) : ∀ (ls : List (List UInt8)) (ps : List PR) (pre : List UInt8) (Q : PR) (vs0 : List JV) (n : Nat), ls ≠ [] → n + ls.length ≤ 30 → ls.length = ps.length → (∀ i (h : i < ls.length) (h' : i < ps.length), Alone rl rd ls[i] ps[i] ∧ ps[i].ps = 0) → Q.hs = [(6, vs0, (List.range n).map kyS)] → (Q.nx = 2 ∨ Q.nx = 3) → 1 ≤ Q.dp → Q.ps = 0 →
  ∃ q j, RR (pre ++ (body (mems n ls) ++ r)) rl rd Q pre.length = RR (pre ++ (body (mems n ls) ++ r)) rl rd q j ∧ q.hs = [(6, vs0 ++ ps.map (·.v), (List.range (n + ls.length)).map kyS)] ∧ q.nx = 5 ∧ q.ps = 0 ∧ j ≤ pre.length + (body (mems n ls)).length ∧ Lx.pass (pre ++ (body (mems n ls) ++ r)) Lx.blankB j = pre.length + (body (mems n ls)).length ∧ ∀ M, Q.dp ≤ M → (∀ p ∈ ps, 1 + p.dp ≤ M) → q.dp ≤ M
 | [], _, _, _, _, _, h, _, _, _, _, _, _, _ => absurd rfl h
 | [l], ps, pre, Q, vs0, n, _, hn30, hlen, hA, hQ, hn, hd, hps => by
  match ps, hlen with
  | [p1], _ =>
   obtain ⟨h1, h1p⟩ := hA 0 (by simp) (by simp)
   simp only [List.getElem_cons_zero] at h1 h1p
   obtain ⟨q, j, e, g1, g2, g3, g4, g5, g6⟩ := mem_go (r := r) hr pre Q vs0 n (by simp at hn30; omega) h1 h1p hQ hn hd hps
   refine ⟨q, j, e, g1, g2, g3, g5, g6, fun M hM hps' => ?_⟩
   have := hps' p1 (by simp)
   rw [g4]; omega
 | l :: m :: ls, ps, pre, Q, vs0, n, _, hn30, hlen, hA, hQ, hn, hd, hps => by
  match ps, hlen with
  | p1 :: ps', hlen =>
   obtain ⟨h1, h1p⟩ := hA 0 (by simp) (by simp)
   simp only [List.getElem_cons_zero] at h1 h1p
   have hr1 : Aft (44 :: (body (mems (n + 1) (m :: ls)) ++ r)) := by unfold Aft; rfl
   obtain ⟨q, j, e, k1, k2, k3, k4, k5, k6⟩ := mem_go (r := 44 :: (body (mems (n + 1) (m :: ls)) ++ r)) hr1 pre Q vs0 n (by simp at hn30; omega) h1 h1p hQ hn hd hps
   have eL : pre ++ (body (mems n (l :: m :: ls)) ++ r) = pre ++ (memT n l ++ 44 :: (body (mems (n + 1) (m :: ls)) ++ r)) := by
    show pre ++ ((memT n l ++ 44 :: body (mems (n + 1) (m :: ls))) ++ r) = _
    simp
   have eL2 : pre ++ (memT n l ++ 44 :: (body (mems (n + 1) (m :: ls)) ++ r)) = (pre ++ (memT n l ++ [44])) ++ (body (mems (n + 1) (m :: ls)) ++ r) := one_app _ _ _ _
   have hnx := next_sign k6 (at_app pre (memT n l) _ 44) (by decide)
   obtain ⟨q2, j2, e2, g1, g2, g3, g4, g5, g6⟩ := obj_go hr (m :: ls) ps' (pre ++ (memT n l ++ [44])) { q with nx := 2 } (vs0 ++ [p1.v]) (n + 1) (by simp) (by simp at hn30 ⊢; omega) (by simpa using hlen) (fun i h h' => by
    have := hA (i + 1) (by simp at h ⊢; omega) (by simp at h' ⊢; omega)
    simpa using this) k1 (Or.inl rfl) (by show 1 ≤ q.dp; rw [k4]; omega) k3
   have hpl : (pre ++ (memT n l ++ [44])).length = pre.length + (memT n l).length + 1 := by simp; omega
   have hbl : (body (mems n (l :: m :: ls))).length = (memT n l).length + 1 + (body (mems (n + 1) (m :: ls))).length := by
    show (memT n l ++ 44 :: body (mems (n + 1) (m :: ls))).length = _
    simp; omega
   refine ⟨q2, j2, ?_, ?_, g2, g3, ?_, ?_, ?_⟩
   ·rw [eL, e, RR_step (by simp; omega), hnx]
    simp only [show ((4 : Nat) = 0) = False by simp, if_false]
    rw [tok_comma k1 k2]
    simp only [if_true]
    rw [← hpl, eL2]
    exact e2
   ·rw [g1]
    simp only [List.append_assoc, List.singleton_append, List.map_cons, List.length_cons]
    rw [show n + 1 + (ls.length + 1) = n + (ls.length + 1 + 1) by omega]
   ·rw [hbl]; omega
   ·rw [eL, eL2, g5, hpl, hbl]; omega
   ·intro M hM hps'
    refine g6 M ?_ (fun p hp => hps' p (by simp [hp]))
    show q.dp ≤ M
    have := hps' p1 (by simp)
    rw [k4]; omega
theorem obj_ok {rl : List UInt8 → Nat} {rd : List UInt8 → JV} (ls : List (List UInt8)) (ps : List PR) (h30 : ls.length ≤ 30) (hlen : ls.length = ps.length) (hA : ∀ i (h : i < ls.length) (h' : i < ps.length), Alone rl rd ls[i] ps[i] ∧ ps[i].ps = 0) :
  ∃ p, Alone rl rd ([123] ++ (body (mems 0 ls) ++ [125])) p ∧ p.v = .mk 6 false ⟨#[]⟩ 0 ⟨#[]⟩ (ps.map (·.v)) ((List.range ls.length).map kyS) ∧ p.ps = 0 ∧ ∀ M, 1 ≤ M → (∀ p ∈ ps, 1 + p.dp ≤ M) → p.dp ≤ M := by
 unfold Alone
 rw [open_ok 123 6 (Or.inr ⟨rfl, rfl⟩) rfl]
 simp only [if_true]
 match ls, ps, hlen, hA with
 | [], [], _, _ =>
  refine ⟨_, shut_ok (pre := [123]) 125 6 (Or.inr ⟨rfl, rfl⟩) rfl (Or.inr (Or.inl rfl)) (j := 1) (Nat.le_refl _) rfl, rfl, rfl, fun M hM _ => hM⟩
 | l :: ls, ps, hlen, hA =>
  obtain ⟨q, j, e, g1, g2, g3, g4, g5, g6⟩ := obj_go (r := [125]) rfl (l :: ls) ps [123] ⟨[(6, [], [])], 3, zeroJ 0, 1, 0⟩ [] 0 (by simp) (by simpa using h30) hlen hA rfl (Or.inr rfl) (Nat.le_refl _) rfl
  have eL : [123] ++ (body (mems 0 (l :: ls)) ++ [125]) = ([123] ++ body (mems 0 (l :: ls))) ++ [125] := by simp
  have hb : ([123] ++ body (mems 0 (l :: ls))).length = [123].length + (body (mems 0 (l :: ls))).length := by simp; omega
  refine ⟨{ q with hs := [], v := .mk 6 false ⟨#[]⟩ 0 ⟨#[]⟩ ([] ++ ps.map (·.v)) ((List.range (0 + (l :: ls).length)).map kyS), nx := 6 }, e.trans ?_, by simp, g3, g6⟩
  rw [eL] at g5 ⊢
  exact shut_ok 125 6 (Or.inr ⟨rfl, rfl⟩) g1 (Or.inr (Or.inr g2)) (by rw [hb]; exact g4) (by rw [hb]; exact g5)
end Go.Proofs.YtjakgdaodlgeaaaGreatDoor

namespace Go.Proofs.YtjakgdaodlgeaaaGreatDoor
open Go.RowKit

mutual
def dN : JV → Nat
 | .mk k _ _ _ _ l _ => if k < 5 then 0 else dNL l + 1
def dNL : List JV → Nat
 | [] => 0
 | v :: l => max (dN v) (dNL l)
end
theorem dNL_snoc (l : List JV) (v : JV) : dNL (l ++ [v]) = max (dNL l) (dN v) := by
 induction l with
 | nil => simp [dNL]
 | cons a l ih => rw [List.cons_append, dNL, dNL, ih]; omega
def sd : List HS → Nat
 | [] => 0
 | h :: hs => max (1 + dNL h.2.1) (1 + sd hs)
theorem sd_snoc (hs : List HS) (h : HS) : sd (hs ++ [h]) = max (sd hs) (hs.length + 1 + dNL h.2.1) := by
 induction hs with
 | nil => simp only [List.nil_append, sd, List.length_nil]; omega
 | cons a hs ih => rw [List.cons_append, sd, sd, ih, List.length_cons]; omega
theorem sd_len (hs : List HS) : hs.length ≤ sd hs := by
 induction hs with
 | nil => exact Nat.le_refl _
 | cons a hs ih => rw [sd, List.length_cons]; omega
def DI (p : PR) : Prop := (p.hs ≠ [] ∧ p.nx ≠ 6 ∧ p.dp = sd p.hs) ∨ (p.hs = [] ∧ p.nx = 6 ∧ p.dp = dN p.v) ∨ (p.hs = [] ∧ p.nx = 0 ∧ p.dp = 0)
theorem last_split {p : PR} (h : p.hs ≠ []) : p.hs = p.hs.dropLast ++ [lastP p] := by
 unfold lastP
 rcases List.eq_nil_or_concat p.hs with e | ⟨a, b, e⟩
 ·exact absurd e h
 ·rw [e, List.concat_eq_append]; simp
theorem put_di {v : JV} {p : PR} (h0 : p.hs = [] → p.dp = dN v) (h1 : p.hs ≠ [] → p.dp = max (sd p.hs) (p.hs.length + dN v)) : DI (putR v p) := by
 unfold putR
 by_cases hp : p.hs = []
 ·rw [if_pos hp]; exact Or.inr (Or.inl ⟨hp, rfl, h0 hp⟩)
 ·rw [if_neg hp]
  refine Or.inl ⟨by simp, by simp, ?_⟩
  show p.dp = sd (p.hs.dropLast ++ [((lastP p).1, (lastP p).2.1 ++ [v], (lastP p).2.2)])
  have e := last_split hp
  have h2 := h1 hp
  have hl : p.hs.length = p.hs.dropLast.length + 1 := by have := congrArg List.length e; simpa using this
  rw [e, sd_snoc, ← e, hl] at h2
  rw [sd_snoc, dNL_snoc, h2]
  omega
theorem DI.put0 {v : JV} {p : PR} (h : DI p) (hn : p.nx ≠ 6) (hv : dN v = 0) : DI (putR v p) := by
 refine put_di (fun e => ?_) (fun e => ?_)
 ·rcases h with h | h | h
  ·exact absurd e h.1
  ·exact absurd h.2.1 hn
  ·rw [h.2.2, hv]
 ·rcases h with h | h | h
  ·have := sd_len p.hs; rw [h.2.2, hv]; omega
  ·exact absurd h.1 e
  ·exact absurd h.1 e
theorem begin_di {p : PR} (h : DI p) (hn : p.nx ≠ 6) (k : Int) : DI (beginR k p) := by
 left
 refine ⟨by simp [beginR], by simp only [beginR]; split <;> decide, ?_⟩
 show max p.dp (p.hs.length + 1) = sd (p.hs ++ [(k, [], [])])
 rw [sd_snoc]
 have e0 : dNL ((k, ([] : List JV), ([] : List ByteArray)) : HS).2.1 = 0 := rfl
 rw [e0]
 rcases h with h | h | h
 ·rw [h.2.2]
 ·exact absurd h.2.1 hn
 ·rw [h.2.2, h.1]; simp [sd]
theorem close_di {p : PR} (h : DI p) (hne : p.hs ≠ []) (hk : (lastP p).1 = 5 ∨ (lastP p).1 = 6) : DI (closeR p) := by
 have hd : p.dp = sd p.hs := by
  rcases h with h | h | h
  ·exact h.2.2
  ·exact absurd h.1 hne
  ·exact absurd h.1 hne
 have e := last_split hne
 have hv : dN (hsV (lastP p)) = dNL (lastP p).2.1 + 1 := by
  unfold hsV
  rw [dN, if_neg (by rcases hk with hk | hk <;> rw [hk] <;> decide)]
 unfold closeR
 rw [e, sd_snoc] at hd
 refine put_di (fun e0 => ?_) (fun e0 => ?_)
 ·have e0 : p.hs.dropLast = [] := e0
  show p.dp = _
  rw [hd, hv, e0]; simp [sd]; omega
 ·show p.dp = max (sd p.hs.dropLast) (p.hs.dropLast.length + dN (hsV (lastP p)))
  rw [hd, hv]; omega
theorem value_di {rl : List UInt8 → Nat} {rd : List UInt8 → JV} {t : Lx.Tok} {p q : PR} (hrd : ∀ s, dN (rd s) = 0) (h : DI p) (hn : p.nx ≠ 6) (hv : valueR rl rd t p = some q) : DI q := by
 unfold valueR at hv
 by_cases k1 : t.kind = 1
 ·rw [if_pos k1] at hv; injection hv with hv; rw [← hv]; exact h.put0 hn rfl
 rw [if_neg k1] at hv
 by_cases k2 : t.kind = 2
 ·rw [if_pos k2] at hv; injection hv with hv; rw [← hv]
  exact DI.put0 (p := { p with ps := if p.ps ≠ 0 then p.ps else rl t.text }) h hn (hrd _)
 rw [if_neg k2] at hv
 by_cases k3 : t.kind = 3
 ·rw [if_pos k3] at hv; injection hv with hv; rw [← hv]
  refine h.put0 hn ?_
  unfold zeroJ
  rw [dN, if_pos (by split; decide; split <;> decide)]
 rw [if_neg k3] at hv
 by_cases k4 : t.kind = 4 ∧ t.text = [91]
 ·rw [if_pos k4] at hv; injection hv with hv; rw [← hv]; exact begin_di h hn _
 rw [if_neg k4] at hv
 by_cases k5 : t.kind = 4 ∧ t.text = [123]
 ·rw [if_pos k5] at hv; injection hv with hv; rw [← hv]; exact begin_di h hn _
 rw [if_neg k5] at hv
 cases hv
theorem sd_turn {p : PR} (hne : p.hs ≠ []) (ks : List ByteArray) : sd (p.hs.dropLast ++ [((lastP p).1, (lastP p).2.1, ks)]) = sd p.hs := by
 have e := last_split hne
 rw [sd_snoc, e, sd_snoc]
 simp
theorem token_di {rl : List UInt8 → Nat} {rd : List UInt8 → JV} {t : Lx.Tok} {p q : PR} (hrd : ∀ s, dN (rd s) = 0) (h : DI p) (ht : tokenR rl rd t p = .ok q) : DI q := by
 have hne : p.nx ≠ 0 → p.nx ≠ 6 → p.hs ≠ [] ∧ p.dp = sd p.hs := fun h0 h6 => by
  rcases h with h | h | h
  ·exact ⟨h.1, h.2.2⟩
  ·exact absurd h.2.1 h6
  ·exact absurd h.2.1 h0
 unfold tokenR at ht
 split at ht
 ·rename_i c
  injection ht with ht
  rw [← ht]
  refine close_di h c.1.1 ?_
  rcases c.1.2.2 with ⟨_, e⟩ | ⟨_, e⟩
  ·exact Or.inl e
  ·exact Or.inr e
 ·split at ht
  ·rename_i c
   injection ht with ht
   rw [← ht]
   obtain ⟨a, b⟩ := hne (by omega) (by omega)
   exact Or.inl ⟨a, by show (if _ then 2 else 0) ≠ 6; split <;> decide, b⟩
  ·split at ht
   ·rename_i c
    injection ht with ht
    rw [← ht]
    obtain ⟨a, b⟩ := hne (by omega) (by omega)
    exact Or.inl ⟨a, by simp, b⟩
   ·split at ht
    ·rename_i c
     obtain ⟨a, b⟩ := hne (by omega) (by omega)
     unfold keyedR at ht
     split at ht
     ·cases ht
     ·injection ht with ht
      rw [← ht]
      exact Or.inl ⟨by simp, by simp, by show p.dp = _; rw [b]; exact (sd_turn a _).symm⟩
    ·split at ht
     ·rename_i c
      split at ht
      ·rename_i hv
       injection ht with ht
       rw [← ht]
       exact value_di hrd h (by omega) hv
      ·cases ht
     ·cases ht
theorem run_di {l : List UInt8} {rl : List UInt8 → Nat} {rd : List UInt8 → JV} {p1 : PR} (hrd : ∀ s, dN (rd s) = 0) : ∀ n i p, l.length - i ≤ n → i ≤ l.length → RR l rl rd p i = .ok p1 → DI p → DI p1 ∧ p1.nx = 6 := by
 intro n
 induction n with
 | zero =>
  intro i p h1 h2 h3 h4
  rw [RR_step h2] at h3
  cases hn : Lx.nextL l i with
  | error e => rw [hn] at h3; simp only at h3; split at h3 <;> cases h3
  | ok t =>
   rw [hn] at h3
   rcases next_to h2 hn with ⟨a, b⟩ | ⟨_, _, a, b⟩
   ·simp only [a, if_true] at h3
    split at h3
    ·injection h3 with h3; subst h3; rename_i h6; exact ⟨h4, h6⟩
    ·cases h3
   ·omega
 | succ n ih =>
  intro i p h1 h2 h3 h4
  rw [RR_step h2] at h3
  cases hn : Lx.nextL l i with
  | error e => rw [hn] at h3; simp only at h3; split at h3 <;> cases h3
  | ok t =>
   rw [hn] at h3
   rcases next_to h2 hn with ⟨a, b⟩ | ⟨_, k0, a, b⟩
   ·simp only [a, if_true] at h3
    split at h3
    ·injection h3 with h3; subst h3; rename_i h6; exact ⟨h4, h6⟩
    ·cases h3
   ·simp only [k0, if_false] at h3
    cases htk : tokenR rl rd t p with
    | error e => rw [htk] at h3; cases h3
    | ok p' =>
     rw [htk] at h3
     exact ih t.to p' (by omega) b h3 (token_di hrd h4 htk)
theorem alone_dp {l : List UInt8} {rl : List UInt8 → Nat} {rd : List UInt8 → JV} {p : PR} (hrd : ∀ s, dN (rd s) = 0) (h : Alone rl rd l p) : p.dp = dN p.v := by
 obtain ⟨h1, h6⟩ := run_di hrd l.length 0 _ (by omega) (Nat.zero_le _) h (Or.inr (Or.inr ⟨rfl, rfl, rfl⟩))
 rcases h1 with h1 | h1 | h1
 ·exact absurd h6 h1.2.1
 ·exact h1.2.2
 ·rw [h1.2.1] at h6; cases h6
end Go.Proofs.YtjakgdaodlgeaaaGreatDoor

namespace Go.Proofs.YtjakgdaodlgeaaaGreatDoor
open Go.RowKit

theorem tok_cls {l : List UInt8} {p : Nat} {t : Lx.Tok} (hp : p < l.length) (h : Lx.readL l p = .ok t) :
    (Lx.signB (Lx.bx l p) = true ∧ t = ⟨4, [l[p]], p, p + 1⟩) ∨ (Lx.signB (Lx.bx l p) = false ∧ t.fr = p ∧
      ((Lx.bx l p = 110 ∧ t.kind = 3 ∧ t.text = [110, 117, 108, 108] ∧ t.to = p + 4) ∨ (Lx.bx l p = 116 ∧ t.kind = 3 ∧ t.text = [116, 114, 117, 101] ∧ t.to = p + 4) ∨ (Lx.bx l p = 102 ∧ t.kind = 3 ∧ t.text = [102, 97, 108, 115, 101] ∧ t.to = p + 5) ∨
       ((Lx.bx l p = 45 ∨ Lx.digitB (Lx.bx l p) = true) ∧ t.kind = 2) ∨ (Lx.bx l p = 34 ∧ t.kind = 1))) := by
  have hfr := Lx.read_fr h
  have sp : ∀ (cs : List UInt8) (i e : Nat), Lx.spelledL l i cs = .ok e → e = i + cs.length ∧ Lx.sub l i e = cs := by
    intro cs
    induction cs with
    | nil =>
      intro i e he
      simp only [Lx.spelledL] at he
      injection he with he
      subst he
      exact ⟨by simp, by simp [Lx.sub]⟩
    | cons c cs ih =>
      intro i e he
      simp only [Lx.spelledL] at he
      split at he
      · rename_i hh
        have hlt := Lx.hasAt_lt hh
        obtain ⟨a, b⟩ := ih (i + 1) e he
        refine ⟨by simp; omega, ?_⟩
        rw [Lx.hasAt_in _ hlt] at hh
        have hc : l[i] = c := by
          have e2 : Lx.bx l i = (l[i].toNat : Int) := by simp [Lx.bx, hlt]
          rw [e2] at hh
          have hh : (l[i].toNat : Int) = (c.toNat : Int) := by simpa using hh
          have : l[i].toNat = c.toNat := by omega
          exact UInt8.toNat_inj.1 this
        unfold Lx.sub at b ⊢
        rw [List.drop_eq_getElem_cons hlt, show e - i = (e - (i + 1)) + 1 by omega, List.take_succ_cons, b, hc]
      · cases he
  by_cases hs : Lx.signB (Lx.bx l p) = true
  · left
    rw [Lx.readL_sign hp hs] at h
    injection h with h
    refine ⟨hs, ?_⟩
    rw [← h]
    congr 1
    unfold Lx.sub
    rw [show p + 1 - p = 1 by omega, List.drop_eq_getElem_cons hp]
    rfl
  · have hs' : Lx.signB (Lx.bx l p) = false := by simpa using hs
    refine Or.inr ⟨hs', hfr, ?_⟩
    have RW := Lx.readL_word hp hs'
    by_cases h1 : Lx.bx l p = 110
    · rw [RW.1 h1] at h
      obtain ⟨e, he, ht⟩ := Lx.stands_ok h
      obtain ⟨a, b⟩ := sp _ _ _ he
      left
      rw [ht]
      exact ⟨h1, rfl, b, by simpa using a⟩
    · by_cases h2 : Lx.bx l p = 116
      · rw [RW.2.1 h2] at h
        obtain ⟨e, he, ht⟩ := Lx.stands_ok h
        obtain ⟨a, b⟩ := sp _ _ _ he
        right; left
        rw [ht]
        exact ⟨h2, rfl, b, by simpa using a⟩
      · by_cases h3 : Lx.bx l p = 102
        · rw [RW.2.2.1 h3] at h
          obtain ⟨e, he, ht⟩ := Lx.stands_ok h
          obtain ⟨a, b⟩ := sp _ _ _ he
          right; right; left
          rw [ht]
          exact ⟨h3, rfl, b, by simpa using a⟩
        · by_cases h4 : Lx.bx l p = 45 ∨ Lx.digitB (Lx.bx l p) = true
          · have : Lx.readL l p = Lx.stands 2 l p (Lx.numberL l p) := by
              rcases h4 with c | c
              · exact RW.2.2.2.1 c
              · exact RW.2.2.2.2.1 c
            rw [this] at h
            obtain ⟨e, he, ht⟩ := Lx.stands_ok h
            right; right; right; left
            rw [ht]
            exact ⟨h4, rfl⟩
          · by_cases h5 : Lx.bx l p = 34
            · rw [RW.2.2.2.2.2 h5] at h
              right; right; right; right
              exact ⟨h5, (Lx.textF_gt _ h).2.2.1⟩
            · exfalso
              have n4 : Lx.bx l p ≠ 45 := fun c => h4 (Or.inl c)
              have n5 : Lx.digitB (Lx.bx l p) = false := by
                cases hd : Lx.digitB (Lx.bx l p)
                · rfl
                · exact absurd (Or.inr hd) h4
              rw [Lx.readL_none hp hs' h1 h2 h3 n4 n5 h5] at h
              cases h
structure WF (p : PR) : Prop where
  a : p.nx = 1 → p.hs ≠ [] ∧ (lastP p).1 = 5
  m : p.nx = 3 → p.hs ≠ [] ∧ (lastP p).1 = 6
  k : p.nx = 2 → p.hs ≠ [] ∧ (lastP p).1 = 6
  d : p.nx = 4 → p.hs ≠ [] ∧ (lastP p).1 = 6
  c : p.nx = 5 → p.hs ≠ [] ∧ ((lastP p).1 = 5 ∨ (lastP p).1 = 6)
theorem bx_lt {l : List UInt8} {p : Nat} (hp : p < l.length) : ∃ n : Nat, n < 256 ∧ Lx.bx l p = (n : Int) ∧ l[p].toNat = n := ⟨l[p].toNat, UInt8.toNat_lt _, by simp [Lx.bx, hp], rfl⟩
theorem may_cls : (∀ n : Nat, n < 256 → (may fov (n : Int) = true ↔ (n = 34 ∨ n = 91 ∨ n = 123 ∨ n = 45 ∨ (48 ≤ n ∧ n ≤ 57) ∨ n = 110 ∨ n = 116 ∨ n = 102))) ∧
    (∀ n : Nat, n < 256 → (may fovC (n : Int) = true ↔ (n = 34 ∨ n = 91 ∨ n = 123 ∨ n = 45 ∨ (48 ≤ n ∧ n ≤ 57) ∨ n = 110 ∨ n = 116 ∨ n = 102 ∨ n = 93))) ∧
    (∀ n : Nat, n < 256 → (may fos (n : Int) = true ↔ n = 34)) ∧ (∀ n : Nat, n < 256 → (may fosC (n : Int) = true ↔ (n = 34 ∨ n = 125))) ∧ (∀ n : Nat, n < 256 → (may sgD (n : Int) = true ↔ n = 58)) ∧
    (∀ n : Nat, n < 256 → (may ⟨#[44, 125]⟩ (n : Int) = true ↔ (n = 44 ∨ n = 125))) ∧ (∀ n : Nat, n < 256 → (may ⟨#[44, 93]⟩ (n : Int) = true ↔ (n = 44 ∨ n = 93))) := by
  refine ⟨?_, ?_, ?_, ?_, ?_, ?_, ?_⟩ <;> decide +kernel
theorem sign_cls : ∀ n : Nat, n < 256 → (Lx.signB (n : Int) = true ↔ (n = 91 ∨ n = 93 ∨ n = 123 ∨ n = 125 ∨ n = 44 ∨ n = 58)) := by decide +kernel
theorem digit_cls : ∀ n : Nat, n < 256 → (Lx.digitB (n : Int) = true ↔ (48 ≤ n ∧ n ≤ 57)) := by decide +kernel
theorem u8_lit {a : UInt8} {n : Nat} (h : a.toNat = n) (m : UInt8) : ([a] : List UInt8) = [m] ↔ n = m.toNat := by
  constructor
  · intro e
    have : a = m := by simpa using e
    rw [← this, h]
  · intro e
    have : a = m := UInt8.toNat_inj.1 (by omega)
    rw [this]
theorem RR_of {l : List UInt8} {rl : List UInt8 → Nat} {rd : List UInt8 → JV} {p : PR} {i : Nat} (hi : i ≤ l.length) (h6 : p.nx ≠ 6) (fs : ByteArray)
    (S1 : ∀ (n e : Nat), n < 256 → may fs (n : Int) = true → Lx.pass l Lx.blankB i < l.length → Lx.bx l (Lx.pass l Lx.blankB i) = (n : Int) → Lx.readL l (Lx.pass l Lx.blankB i) = .error e → p.nx = 0 ∨ p.nx = 1 ∨ standsR l p i)
    (S2 : ∀ (n e : Nat), n < 256 → ¬ may fs (n : Int) = true → Lx.pass l Lx.blankB i < l.length → Lx.bx l (Lx.pass l Lx.blankB i) = (n : Int) → Lx.readL l (Lx.pass l Lx.blankB i) = .error e → p.nx = 0 ∨ p.nx = 1 ∨ standsR l p i → e = Lx.pass l Lx.blankB i + 1)
    (S3 : ∀ (n : Nat) (t : Lx.Tok) (hP : Lx.pass l Lx.blankB i < l.length), n < 256 → ¬ may fs (n : Int) = true → Lx.bx l (Lx.pass l Lx.blankB i) = (n : Int) → l[Lx.pass l Lx.blankB i].toNat = n → Lx.readL l (Lx.pass l Lx.blankB i) = .ok t → tokenR rl rd t p = .error (Lx.pass l Lx.blankB i + 1)) :
    RR l rl rd p i = match takeS fs l i with
      | .error e => .error e
      | .ok t => match tokenR rl rd t p with
        | .error e => .error e
        | .ok q => RR l rl rd q t.to := by
  have hle := Lx.pass_le (l := l) (p := Lx.blankB) hi
  rw [RR_step hi, takeS_eq]
  by_cases hP : Lx.pass l Lx.blankB i < l.length
  · obtain ⟨n, hn, hbx, hln⟩ := bx_lt hP
    have hnx : Lx.nextL l i = Lx.readL l (Lx.pass l Lx.blankB i) := rfl
    rw [hnx, Lx.hasAt_in _ hP, hbx]
    cases hr : Lx.readL l (Lx.pass l Lx.blankB i) with
    | error e =>
      by_cases hm : may fs (n : Int) = true
      · rw [if_pos hm]
        simp only
        rw [if_pos (S1 n e hn hm hP hbx hr)]
      · rw [if_neg hm]
        simp only
        split
        · rename_i h
          rw [S2 n e hn hm hP hbx hr h]
        · rfl
    | ok t =>
      have hk := Lx.read_kind hP hr
      simp only
      rw [if_neg hk]
      by_cases hm : may fs (n : Int) = true
      · rw [if_pos hm]
        first | done | rfl
      · rw [if_neg hm, S3 n t hP hn hm hbx hln hr]
  · have he : Lx.pass l Lx.blankB i = l.length := by omega
    have hnx : Lx.nextL l i = .ok ⟨0, [], l.length, l.length⟩ := by unfold Lx.nextL Lx.readL; rw [if_pos he, he]
    rw [hnx, he, Lx.hasAt_out _ (by omega)]
    simp only [↓reduceIte, Bool.false_eq_true]
    rw [if_neg h6]
theorem bad_none {l : List UInt8} {q n e : Nat} (hP : q < l.length) (hbx : Lx.bx l q = (n : Int)) (hn : n < 256) (hr : Lx.readL l q = .error e) (h : ¬ (n = 34 ∨ n = 45 ∨ (48 ≤ n ∧ n ≤ 57) ∨ n = 110 ∨ n = 116 ∨ n = 102)) : e = q + 1 := by
  obtain ⟨_, hs, hbad⟩ := Lx.readL_bad (by omega) hr
  rw [hbx] at hbad
  have dg := digit_cls n hn
  rcases hbad with ⟨c, _⟩ | ⟨c, _⟩ | ⟨c, _⟩ | ⟨c, _⟩ | ⟨c, _⟩ | ⟨_, _, _, _, _, _, c⟩
  · exfalso; apply h; omega
  · exfalso; apply h; omega
  · exfalso; apply h; omega
  · exfalso; apply h
    rcases c with c | c
    · omega
    · have := dg.1 c; omega
  · exfalso; apply h; omega
  · exact c
theorem sign_ok {l : List UInt8} {q n e : Nat} (hP : q < l.length) (hbx : Lx.bx l q = (n : Int)) (hn : n < 256) (hr : Lx.readL l q = .error e) (h : n = 91 ∨ n = 93 ∨ n = 123 ∨ n = 125 ∨ n = 44 ∨ n = 58) : False := by
  have : Lx.signB (Lx.bx l q) = true := by rw [hbx]; exact (sign_cls n hn).2 h
  rw [Lx.readL_sign hP this] at hr
  cases hr
end Go.Proofs.YtjakgdaodlgeaaaGreatDoor
