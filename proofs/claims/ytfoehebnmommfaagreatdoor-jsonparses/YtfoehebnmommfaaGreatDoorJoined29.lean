/-
  The same of whole texts. Conditions: at most 2^20 bytes.
  The document's reader of tokens, one by one, as mathematics. Conditions: none.
  A token is taken by the document's reader where json takes it, and refused at the same place. Conditions: none.
  The document's reader takes what json takes, state by state. Conditions: none.
  What wider limits change of what is read: nothing but what passes them. Conditions: none.
-/
import Derived.Test.YtfoehebnmommfaaGreatDoorJoined28
import Derived.Test.YtfoehebnmommfaaGreatDoorJoined17
namespace Go.Proofs.YtfoehebnmommfaaGreatDoor
open Go.RowKit

theorem nextOf_le {l : List UInt8} {s : SS} {x : Lx.Tok × SS} (h : nextOfS l s = .ok x) : s.i < x.2.i ∧ x.2.i ≤ l.length := by
 unfold nextOfS at h
 split at h
 ·split at h
  ·cases h
  ·rename_i t h1
   have o1 := (takeL_ok h1).1
   have o2 := (valueOfS_ok h).1
   have e : ({ s with i := t.to } : SS).i = t.to := rfl
   rw [e] at o2
   exact ⟨by omega, valueOf_le h⟩
 ·split at h
  ·cases h
  ·rename_i t h1
   injection h with h
   rw [← h]
   exact ⟨(takeL_ok h1).1, (takeL_ok h1).2.1⟩
theorem first_hi {l : List UInt8} {m : LM} : ∀ k t s x, firstS l m k t s = .ok x → s.i ≤ l.length → x.2.i ≤ l.length
 | 0, _, _, _, h, _ => by simp [firstS] at h
 | k + 1, t, s, x, h, hs => by
  unfold firstS at h
  split at h
  ·split at h
   ·cases h
   ·rename_i t1 h1
    exact first_hi k _ _ _ h (takeL_ok h1).2.1
  ·split at h
   ·split at h
    ·cases h
    ·rename_i t1 h1
     split at h
     ·exact first_hi k _ _ _ h (takeL_ok h1).2.1
     ·split at h
      ·cases h
      ·rename_i t2 s2 h2
       exact first_hi k _ _ _ h (valueOf_le h2)
   ·split at h
    ·injection h with h; rw [← h]; exact hs
    ·injection h with h; rw [← h]; exact hs
theorem loop_hi {l : List UInt8} {m : LM} : ∀ k v s x, loopS l m k v s = .ok x → s.i ≤ l.length → x.2.i ≤ l.length
 | 0, _, _, _, h, _ => by simp [loopS] at h
 | k + 1, v, s, x, h, hs => by
  unfold loopS at h
  split at h
  ·injection h with h; rw [← h]; exact hs
  ·split at h
   ·cases h
   ·rename_i t h1
    split at h
    ·split at h
     ·cases h
     ·rename_i t1 s1 h2
      split at h
      ·cases h
      ·rename_i v1 s2 h3
       exact loop_hi k _ _ _ h (first_hi _ _ _ _ h3 (nextOf_le h2).2)
    ·exact loop_hi k _ _ _ h (takeL_ok h1).2.1
end Go.Proofs.YtfoehebnmommfaaGreatDoor

namespace Go.Proofs.YtfoehebnmommfaaGreatDoor
open Go.RowKit

structure PR where
 hs : List HS
 nx : Nat
 v : JV
 dp : Nat
 ps : Nat
def lastP (p : PR) : HS := p.hs.getLastD (0, [], [])
def putR (v : JV) (p : PR) : PR := if p.hs = [] then { p with v := v, nx := 6 } else { p with hs := p.hs.dropLast ++ [((lastP p).1, (lastP p).2.1 ++ [v], (lastP p).2.2)], nx := 5 }
def hsV (h : HS) : JV := .mk h.1 false ⟨#[]⟩ 0 ⟨#[]⟩ h.2.1 h.2.2
def closeR (p : PR) : PR := putR (hsV (lastP p)) { p with hs := p.hs.dropLast }
def beginR (k : Int) (p : PR) : PR := { p with hs := p.hs ++ [(k, [], [])], dp := max p.dp (p.hs.length + 1), nx := if k = 6 then 3 else 1 }
def valueR (rl : List UInt8 → Nat) (rd : List UInt8 → JV) (t : Lx.Tok) (p : PR) : Option PR :=
 if t.kind = 1 then some (putR (.mk 4 false ⟨#[]⟩ 0 (txtB t) [] []) p)
 else if t.kind = 2 then some (putR (rd t.text) { p with ps := if p.ps ≠ 0 then p.ps else rl t.text })
 else if t.kind = 3 then some (putR (zeroJ (if t.text = [110, 117, 108, 108] then 0 else if t.text = [102, 97, 108, 115, 101] then 1 else 2)) p)
 else if t.kind = 4 ∧ t.text = [91] then some (beginR 5 p)
 else if t.kind = 4 ∧ t.text = [123] then some (beginR 6 p)
 else none
def keyedR (t : Lx.Tok) (p : PR) : Except Nat PR :=
 if inK (txtB t) (lastP p).2.2 = true then .error t.to else .ok { p with hs := p.hs.dropLast ++ [((lastP p).1, (lastP p).2.1, (lastP p).2.2 ++ [txtB t])], nx := 4 }
def endsR (t : Lx.Tok) (p : PR) : Prop := p.hs ≠ [] ∧ t.kind = 4 ∧ ((t.text = [93] ∧ (lastP p).1 = 5) ∨ (t.text = [125] ∧ (lastP p).1 = 6))
instance (t : Lx.Tok) (p : PR) : Decidable (endsR t p) := by unfold endsR; infer_instance
def tokenR (rl : List UInt8 → Nat) (rd : List UInt8 → JV) (t : Lx.Tok) (p : PR) : Except Nat PR :=
 if endsR t p ∧ (p.nx = 1 ∨ p.nx = 3 ∨ p.nx = 5) then .ok (closeR p)
 else if p.nx = 5 ∧ t.kind = 4 ∧ t.text = [44] then .ok { p with nx := if (lastP p).1 = 6 then 2 else 0 }
 else if p.nx = 4 ∧ t.kind = 4 ∧ t.text = [58] then .ok { p with nx := 0 }
 else if (p.nx = 2 ∨ p.nx = 3) ∧ t.kind = 1 then keyedR t p
 else if p.nx = 0 ∨ p.nx = 1 then (match valueR rl rd t p with | some q => .ok q | none => .error (t.fr + 1))
 else .error (t.fr + 1)
def standsR (l : List UInt8) (p : PR) (i : Nat) : Prop := Lx.hasAt l (Lx.pass l Lx.blankB i) (· == 34) = true ∧ (p.nx = 2 ∨ p.nx = 3)
instance (l : List UInt8) (p : PR) (i : Nat) : Decidable (standsR l p i) := by unfold standsR; infer_instance
def readR (l : List UInt8) (rl : List UInt8 → Nat) (rd : List UInt8 → JV) : Nat → PR → Nat → Except Nat PR
 | 0, _, _ => .error 0
 | f + 1, p, i => match Lx.nextL l i with
  | .error n => if p.nx = 0 ∨ p.nx = 1 ∨ standsR l p i then .error n else .error (Lx.pass l Lx.blankB i + 1)
  | .ok t => if t.kind = 0 then (if p.nx = 6 then .ok p else .error (l.length + 1)) else
   match tokenR rl rd t p with
   | .error e => .error e
   | .ok q => readR l rl rd f q t.to
def RR (l : List UInt8) (rl : List UInt8 → Nat) (rd : List UInt8 → JV) (p : PR) (i : Nat) : Except Nat PR := readR l rl rd (l.length + 1 - i) p i
def judgedR (l : List UInt8) (m : LM) (rl : List UInt8 → Nat) (rd : List UInt8 → JV) : Except (Int × Int) JV :=
 if 1048576 < l.length then .error (4, 1) else
 match RR l rl rd ⟨[], 0, zeroJ 0, 0, 0⟩ 0 with
 | .error e => .error (3, e)
 | .ok p => if m.dep < (p.dp : Int) then .error (4, 2) else if p.ps ≠ 0 then .error (4, p.ps) else .ok p.v
theorem next_to {l : List UInt8} {i : Nat} {t : Lx.Tok} (hi : i ≤ l.length) (h : Lx.nextL l i = .ok t) : (t.kind = 0 ∧ Lx.pass l Lx.blankB i = l.length) ∨ (Lx.pass l Lx.blankB i < l.length ∧ t.kind ≠ 0 ∧ i < t.to ∧ t.to ≤ l.length) := by
 have hle := Lx.pass_le (l := l) (p := Lx.blankB) hi
 have hge := Lx.pass_ge l Lx.blankB i
 by_cases hp : Lx.pass l Lx.blankB i < l.length
 ·have hk := Lx.read_kind hp h
  rcases Lx.readL_le hle h with ⟨a, _⟩ | ⟨a, b⟩
  ·exact absurd a hk
  ·exact Or.inr ⟨hp, hk, by omega, b⟩
 ·have he : Lx.pass l Lx.blankB i = l.length := by omega
  left
  unfold Lx.nextL Lx.readL at h
  rw [if_pos he] at h
  injection h with h
  exact ⟨by rw [← h], he⟩
theorem RR_step {l : List UInt8} {rl : List UInt8 → Nat} {rd : List UInt8 → JV} {p : PR} {i : Nat} (hi : i ≤ l.length) : RR l rl rd p i = match Lx.nextL l i with
  | .error n => if p.nx = 0 ∨ p.nx = 1 ∨ standsR l p i then .error n else .error (Lx.pass l Lx.blankB i + 1)
  | .ok t => if t.kind = 0 then (if p.nx = 6 then .ok p else .error (l.length + 1)) else
   match tokenR rl rd t p with
   | .error e => .error e
   | .ok q => RR l rl rd q t.to := by
 have fuel : ∀ f f' p i, i ≤ l.length → l.length < f + i → l.length < f' + i → readR l rl rd f p i = readR l rl rd f' p i := by
  intro f
  induction f with
  | zero => intro f' p i h1 h2 h3; omega
  | succ f ih =>
   intro f' p i h1 h2 h3
   cases f' with
   | zero => omega
   | succ f' =>
    unfold readR
    cases hn : Lx.nextL l i with
    | error n => rfl
    | ok t =>
     simp only
     split
     ·rfl
     ·rename_i hk
      cases tokenR rl rd t p with
      | error e => rfl
      | ok q =>
       simp only
       rcases next_to h1 hn with ⟨a, _⟩ | ⟨_, _, a, b⟩
       ·exact absurd a hk
       ·exact ih f' q t.to b (by omega) (by omega)
 unfold RR
 obtain ⟨f, hf⟩ : ∃ f, l.length + 1 - i = f + 1 := ⟨l.length - i, by omega⟩
 rw [hf]
 rw [readR]
 cases hn : Lx.nextL l i with
 | error n => rfl
 | ok t =>
  simp only
  split
  ·rfl
  ·rename_i hk
   cases tokenR rl rd t p with
   | error e => rfl
   | ok q =>
    simp only
    rcases next_to hi hn with ⟨a, _⟩ | ⟨_, _, a, b⟩
    ·exact absurd a hk
    ·exact fuel f _ q t.to b (by omega) (by omega)
end Go.Proofs.YtfoehebnmommfaaGreatDoor

namespace Go.Proofs.YtfoehebnmommfaaGreatDoor
open Go.RowKit

theorem tok_cls {l : List UInt8} {p : Nat} {t : Lx.Tok} (hp : p < l.length) (h : Lx.readL l p = .ok t) :
    (Lx.signB (Lx.bx l p) = true ∧ t = ⟨4, [l[p]], p, p + 1⟩) ∨ (Lx.signB (Lx.bx l p) = false ∧ t.fr = p ∧
      ((Lx.bx l p = 110 ∧ t.kind = 3 ∧ t.text = [110, 117, 108, 108] ∧ t.to = p + 4) ∨ (Lx.bx l p = 116 ∧ t.kind = 3 ∧ t.text = [116, 114, 117, 101] ∧ t.to = p + 4) ∨ (Lx.bx l p = 102 ∧ t.kind = 3 ∧ t.text = [102, 97, 108, 115, 101] ∧ t.to = p + 5) ∨
       ((Lx.bx l p = 45 ∨ Lx.digitB (Lx.bx l p) = true) ∧ t.kind = 2) ∨ (Lx.bx l p = 34 ∧ t.kind = 1))) := by
  have hfr := Lx.read_fr h
  have sp : ∀ (cs : List UInt8) (i e : Nat), Lx.spelledL l i cs = .ok e → e = i + cs.length ∧ Lx.sub l i e = cs := by
    intro cs
    induction cs with
    | nil =>
      intro i e he
      simp only [Lx.spelledL] at he
      injection he with he
      subst he
      exact ⟨by simp, by simp [Lx.sub]⟩
    | cons c cs ih =>
      intro i e he
      simp only [Lx.spelledL] at he
      split at he
      · rename_i hh
        have hlt := Lx.hasAt_lt hh
        obtain ⟨a, b⟩ := ih (i + 1) e he
        refine ⟨by simp; omega, ?_⟩
        rw [Lx.hasAt_in _ hlt] at hh
        have hc : l[i] = c := by
          have e2 : Lx.bx l i = (l[i].toNat : Int) := by simp [Lx.bx, hlt]
          rw [e2] at hh
          have hh : (l[i].toNat : Int) = (c.toNat : Int) := by simpa using hh
          have : l[i].toNat = c.toNat := by omega
          exact UInt8.toNat_inj.1 this
        unfold Lx.sub at b ⊢
        rw [List.drop_eq_getElem_cons hlt, show e - i = (e - (i + 1)) + 1 by omega, List.take_succ_cons, b, hc]
      · cases he
  by_cases hs : Lx.signB (Lx.bx l p) = true
  · left
    rw [Lx.readL_sign hp hs] at h
    injection h with h
    refine ⟨hs, ?_⟩
    rw [← h]
    congr 1
    unfold Lx.sub
    rw [show p + 1 - p = 1 by omega, List.drop_eq_getElem_cons hp]
    rfl
  · have hs' : Lx.signB (Lx.bx l p) = false := by simpa using hs
    refine Or.inr ⟨hs', hfr, ?_⟩
    have RW := Lx.readL_word hp hs'
    by_cases h1 : Lx.bx l p = 110
    · rw [RW.1 h1] at h
      obtain ⟨e, he, ht⟩ := Lx.stands_ok h
      obtain ⟨a, b⟩ := sp _ _ _ he
      left
      rw [ht]
      exact ⟨h1, rfl, b, by simpa using a⟩
    · by_cases h2 : Lx.bx l p = 116
      · rw [RW.2.1 h2] at h
        obtain ⟨e, he, ht⟩ := Lx.stands_ok h
        obtain ⟨a, b⟩ := sp _ _ _ he
        right; left
        rw [ht]
        exact ⟨h2, rfl, b, by simpa using a⟩
      · by_cases h3 : Lx.bx l p = 102
        · rw [RW.2.2.1 h3] at h
          obtain ⟨e, he, ht⟩ := Lx.stands_ok h
          obtain ⟨a, b⟩ := sp _ _ _ he
          right; right; left
          rw [ht]
          exact ⟨h3, rfl, b, by simpa using a⟩
        · by_cases h4 : Lx.bx l p = 45 ∨ Lx.digitB (Lx.bx l p) = true
          · have : Lx.readL l p = Lx.stands 2 l p (Lx.numberL l p) := by
              rcases h4 with c | c
              · exact RW.2.2.2.1 c
              · exact RW.2.2.2.2.1 c
            rw [this] at h
            obtain ⟨e, he, ht⟩ := Lx.stands_ok h
            right; right; right; left
            rw [ht]
            exact ⟨h4, rfl⟩
          · by_cases h5 : Lx.bx l p = 34
            · rw [RW.2.2.2.2.2 h5] at h
              right; right; right; right
              exact ⟨h5, (Lx.textF_gt _ h).2.2.1⟩
            · exfalso
              have n4 : Lx.bx l p ≠ 45 := fun c => h4 (Or.inl c)
              have n5 : Lx.digitB (Lx.bx l p) = false := by
                cases hd : Lx.digitB (Lx.bx l p)
                · rfl
                · exact absurd (Or.inr hd) h4
              rw [Lx.readL_none hp hs' h1 h2 h3 n4 n5 h5] at h
              cases h
structure WF (p : PR) : Prop where
  a : p.nx = 1 → p.hs ≠ [] ∧ (lastP p).1 = 5
  m : p.nx = 3 → p.hs ≠ [] ∧ (lastP p).1 = 6
  k : p.nx = 2 → p.hs ≠ [] ∧ (lastP p).1 = 6
  d : p.nx = 4 → p.hs ≠ [] ∧ (lastP p).1 = 6
  c : p.nx = 5 → p.hs ≠ [] ∧ ((lastP p).1 = 5 ∨ (lastP p).1 = 6)
theorem bx_lt {l : List UInt8} {p : Nat} (hp : p < l.length) : ∃ n : Nat, n < 256 ∧ Lx.bx l p = (n : Int) ∧ l[p].toNat = n := ⟨l[p].toNat, UInt8.toNat_lt _, by simp [Lx.bx, hp], rfl⟩
theorem may_cls : (∀ n : Nat, n < 256 → (may fov (n : Int) = true ↔ (n = 34 ∨ n = 91 ∨ n = 123 ∨ n = 45 ∨ (48 ≤ n ∧ n ≤ 57) ∨ n = 110 ∨ n = 116 ∨ n = 102))) ∧
    (∀ n : Nat, n < 256 → (may fovC (n : Int) = true ↔ (n = 34 ∨ n = 91 ∨ n = 123 ∨ n = 45 ∨ (48 ≤ n ∧ n ≤ 57) ∨ n = 110 ∨ n = 116 ∨ n = 102 ∨ n = 93))) ∧
    (∀ n : Nat, n < 256 → (may fos (n : Int) = true ↔ n = 34)) ∧ (∀ n : Nat, n < 256 → (may fosC (n : Int) = true ↔ (n = 34 ∨ n = 125))) ∧ (∀ n : Nat, n < 256 → (may sgD (n : Int) = true ↔ n = 58)) ∧
    (∀ n : Nat, n < 256 → (may ⟨#[44, 125]⟩ (n : Int) = true ↔ (n = 44 ∨ n = 125))) ∧ (∀ n : Nat, n < 256 → (may ⟨#[44, 93]⟩ (n : Int) = true ↔ (n = 44 ∨ n = 93))) := by
  refine ⟨?_, ?_, ?_, ?_, ?_, ?_, ?_⟩ <;> decide +kernel
theorem sign_cls : ∀ n : Nat, n < 256 → (Lx.signB (n : Int) = true ↔ (n = 91 ∨ n = 93 ∨ n = 123 ∨ n = 125 ∨ n = 44 ∨ n = 58)) := by decide +kernel
theorem digit_cls : ∀ n : Nat, n < 256 → (Lx.digitB (n : Int) = true ↔ (48 ≤ n ∧ n ≤ 57)) := by decide +kernel
theorem u8_lit {a : UInt8} {n : Nat} (h : a.toNat = n) (m : UInt8) : ([a] : List UInt8) = [m] ↔ n = m.toNat := by
  constructor
  · intro e
    have : a = m := by simpa using e
    rw [← this, h]
  · intro e
    have : a = m := UInt8.toNat_inj.1 (by omega)
    rw [this]
theorem RR_of {l : List UInt8} {rl : List UInt8 → Nat} {rd : List UInt8 → JV} {p : PR} {i : Nat} (hi : i ≤ l.length) (h6 : p.nx ≠ 6) (fs : ByteArray)
    (S1 : ∀ (n e : Nat), n < 256 → may fs (n : Int) = true → Lx.pass l Lx.blankB i < l.length → Lx.bx l (Lx.pass l Lx.blankB i) = (n : Int) → Lx.readL l (Lx.pass l Lx.blankB i) = .error e → p.nx = 0 ∨ p.nx = 1 ∨ standsR l p i)
    (S2 : ∀ (n e : Nat), n < 256 → ¬ may fs (n : Int) = true → Lx.pass l Lx.blankB i < l.length → Lx.bx l (Lx.pass l Lx.blankB i) = (n : Int) → Lx.readL l (Lx.pass l Lx.blankB i) = .error e → p.nx = 0 ∨ p.nx = 1 ∨ standsR l p i → e = Lx.pass l Lx.blankB i + 1)
    (S3 : ∀ (n : Nat) (t : Lx.Tok) (hP : Lx.pass l Lx.blankB i < l.length), n < 256 → ¬ may fs (n : Int) = true → Lx.bx l (Lx.pass l Lx.blankB i) = (n : Int) → l[Lx.pass l Lx.blankB i].toNat = n → Lx.readL l (Lx.pass l Lx.blankB i) = .ok t → tokenR rl rd t p = .error (Lx.pass l Lx.blankB i + 1)) :
    RR l rl rd p i = match takeS fs l i with
      | .error e => .error e
      | .ok t => match tokenR rl rd t p with
        | .error e => .error e
        | .ok q => RR l rl rd q t.to := by
  have hle := Lx.pass_le (l := l) (p := Lx.blankB) hi
  rw [RR_step hi, takeS_eq]
  by_cases hP : Lx.pass l Lx.blankB i < l.length
  · obtain ⟨n, hn, hbx, hln⟩ := bx_lt hP
    have hnx : Lx.nextL l i = Lx.readL l (Lx.pass l Lx.blankB i) := rfl
    rw [hnx, Lx.hasAt_in _ hP, hbx]
    cases hr : Lx.readL l (Lx.pass l Lx.blankB i) with
    | error e =>
      by_cases hm : may fs (n : Int) = true
      · rw [if_pos hm]
        simp only
        rw [if_pos (S1 n e hn hm hP hbx hr)]
      · rw [if_neg hm]
        simp only
        split
        · rename_i h
          rw [S2 n e hn hm hP hbx hr h]
        · rfl
    | ok t =>
      have hk := Lx.read_kind hP hr
      simp only
      rw [if_neg hk]
      by_cases hm : may fs (n : Int) = true
      · rw [if_pos hm]
        first | done | rfl
      · rw [if_neg hm, S3 n t hP hn hm hbx hln hr]
  · have he : Lx.pass l Lx.blankB i = l.length := by omega
    have hnx : Lx.nextL l i = .ok ⟨0, [], l.length, l.length⟩ := by unfold Lx.nextL Lx.readL; rw [if_pos he, he]
    rw [hnx, he, Lx.hasAt_out _ (by omega)]
    simp only [↓reduceIte, Bool.false_eq_true]
    rw [if_neg h6]
theorem bad_none {l : List UInt8} {q n e : Nat} (hP : q < l.length) (hbx : Lx.bx l q = (n : Int)) (hn : n < 256) (hr : Lx.readL l q = .error e) (h : ¬ (n = 34 ∨ n = 45 ∨ (48 ≤ n ∧ n ≤ 57) ∨ n = 110 ∨ n = 116 ∨ n = 102)) : e = q + 1 := by
  obtain ⟨_, hs, hbad⟩ := Lx.readL_bad (by omega) hr
  rw [hbx] at hbad
  have dg := digit_cls n hn
  rcases hbad with ⟨c, _⟩ | ⟨c, _⟩ | ⟨c, _⟩ | ⟨c, _⟩ | ⟨c, _⟩ | ⟨_, _, _, _, _, _, c⟩
  · exfalso; apply h; omega
  · exfalso; apply h; omega
  · exfalso; apply h; omega
  · exfalso; apply h
    rcases c with c | c
    · omega
    · have := dg.1 c; omega
  · exfalso; apply h; omega
  · exact c
theorem sign_ok {l : List UInt8} {q n e : Nat} (hP : q < l.length) (hbx : Lx.bx l q = (n : Int)) (hn : n < 256) (hr : Lx.readL l q = .error e) (h : n = 91 ∨ n = 93 ∨ n = 123 ∨ n = 125 ∨ n = 44 ∨ n = 58) : False := by
  have : Lx.signB (Lx.bx l q) = true := by rw [hbx]; exact (sign_cls n hn).2 h
  rw [Lx.readL_sign hP this] at hr
  cases hr
end Go.Proofs.YtfoehebnmommfaaGreatDoor

namespace Go.Proofs.YtfoehebnmommfaaGreatDoor
open Go.RowKit

theorem st_no {l : List UInt8} {p : PR} {i : Nat} (h2 : p.nx ≠ 2) (h3 : p.nx ≠ 3) : ¬ standsR l p i := fun h => by
 rcases h.2 with e | e
 ·exact h2 e
 ·exact h3 e
theorem st_yes {l : List UInt8} {p : PR} {i n : Nat} (hP : Lx.pass l Lx.blankB i < l.length) (hbx : Lx.bx l (Lx.pass l Lx.blankB i) = (n : Int)) (h : p.nx = 2 ∨ p.nx = 3) : standsR l p i ↔ n = 34 := by
 unfold standsR
 rw [Lx.hasAt_in _ hP, hbx]
 simp only [beq_iff_eq]
 constructor
 ·rintro ⟨a, _⟩; omega
 ·intro a; exact ⟨by omega, h⟩
theorem tk_sign {l : List UInt8} {q n : Nat} {t : Lx.Tok} (hP : q < l.length) (hbx : Lx.bx l q = (n : Int)) (hn : n < 256) (hr : Lx.readL l q = .ok t) : t.fr = q ∧ ((t.kind = 4 ∧ t.text = [l[q]] ∧ (n = 91 ∨ n = 93 ∨ n = 123 ∨ n = 125 ∨ n = 44 ∨ n = 58)) ∨ (t.kind ≠ 4 ∧ (n = 34 ∨ n = 45 ∨ (48 ≤ n ∧ n ≤ 57) ∨ n = 110 ∨ n = 116 ∨ n = 102) ∧ (t.kind = 1 ↔ n = 34))) := by
 have hcl := tok_cls hP hr
 rw [hbx] at hcl
 have dg := digit_cls n hn
 rcases hcl with ⟨c1, rfl⟩ | ⟨c1, c2, c3⟩
 ·exact ⟨rfl, Or.inl ⟨rfl, rfl, (sign_cls n hn).1 c1⟩⟩
 ·refine ⟨c2, Or.inr ?_⟩
  rcases c3 with ⟨c, d, _⟩ | ⟨c, d, _⟩ | ⟨c, d, _⟩ | ⟨c, d⟩ | ⟨c, d⟩
  ·exact ⟨by omega, by omega, by omega⟩
  ·exact ⟨by omega, by omega, by omega⟩
  ·exact ⟨by omega, by omega, by omega⟩
  ·rcases c with c | c
   ·exact ⟨by omega, by omega, by omega⟩
   ·have := dg.1 c
    exact ⟨by omega, by omega, by omega⟩
  ·exact ⟨by omega, by omega, by omega⟩
theorem lit93 {a : UInt8} {n : Nat} (h : a.toNat = n) : ([a] : List UInt8) = [93] ↔ n = 93 := u8_lit h 93
theorem lit125 {a : UInt8} {n : Nat} (h : a.toNat = n) : ([a] : List UInt8) = [125] ↔ n = 125 := u8_lit h 125
theorem lit44 {a : UInt8} {n : Nat} (h : a.toNat = n) : ([a] : List UInt8) = [44] ↔ n = 44 := u8_lit h 44
theorem lit58 {a : UInt8} {n : Nat} (h : a.toNat = n) : ([a] : List UInt8) = [58] ↔ n = 58 := u8_lit h 58
theorem lit91 {a : UInt8} {n : Nat} (h : a.toNat = n) : ([a] : List UInt8) = [91] ↔ n = 91 := u8_lit h 91
theorem lit123 {a : UInt8} {n : Nat} (h : a.toNat = n) : ([a] : List UInt8) = [123] ↔ n = 123 := u8_lit h 123
theorem token_else {rl : List UInt8 → Nat} {rd : List UInt8 → JV} {t : Lx.Tok} {p : PR} (h1 : ¬ (endsR t p ∧ (p.nx = 1 ∨ p.nx = 3 ∨ p.nx = 5))) (h2 : ¬ (p.nx = 5 ∧ t.kind = 4 ∧ t.text = [44])) (h3 : ¬ (p.nx = 4 ∧ t.kind = 4 ∧ t.text = [58])) (h4 : ¬ ((p.nx = 2 ∨ p.nx = 3) ∧ t.kind = 1)) (h5 : p.nx = 0 ∨ p.nx = 1 → valueR rl rd t p = none) : tokenR rl rd t p = .error (t.fr + 1) := by
 unfold tokenR
 rw [if_neg h1, if_neg h2, if_neg h3, if_neg h4]
 split
 ·rename_i h
  rw [h5 h]
 ·rfl
theorem RR_0 {l : List UInt8} {rl : List UInt8 → Nat} {rd : List UInt8 → JV} {p : PR} {i : Nat} (hi : i ≤ l.length) (h : p.nx = 0) : RR l rl rd p i = match takeS fov l i with
  | .error e => .error e
  | .ok t => match tokenR rl rd t p with
   | .error e => .error e
   | .ok q => RR l rl rd q t.to := by
 refine RR_of hi (by omega) fov (fun n e hn hm hP hbx hr => Or.inl h) (fun n e hn hm hP hbx hr hc => ?_) (fun n t hP hn hm hbx hln hr => ?_)
 ·have m := may_cls.1 n hn
  exact bad_none hP hbx hn hr (fun c => hm (m.2 (by omega)))
 ·have m := may_cls.1 n hn
  obtain ⟨hfr, hc⟩ := tk_sign hP hbx hn hr
  have hc : t.kind = 4 ∧ t.text = [l[Lx.pass l Lx.blankB i]] ∧ (n = 91 ∨ n = 93 ∨ n = 123 ∨ n = 125 ∨ n = 44 ∨ n = 58) := by
   rcases hc with hc | ⟨_, c, _⟩
   ·exact hc
   ·exact absurd (m.2 (by omega)) hm
  obtain ⟨k4, tx, _⟩ := hc
  rw [← hfr]
  have n91 : n ≠ 91 := fun e => hm (m.2 (by omega))
  have n123 : n ≠ 123 := fun e => hm (m.2 (by omega))
  refine token_else (by omega) (by omega) (by omega) (by omega) (fun _ => ?_)
  unfold valueR
  rw [if_neg (by omega), if_neg (by omega), if_neg (by omega), if_neg, if_neg]
  ·rintro ⟨_, e⟩
   rw [tx, lit123 hln] at e
   exact n123 e
  ·rintro ⟨_, e⟩
   rw [tx, lit91 hln] at e
   exact n91 e
theorem RR_1 {l : List UInt8} {rl : List UInt8 → Nat} {rd : List UInt8 → JV} {p : PR} {i : Nat} (hi : i ≤ l.length) (h : p.nx = 1) (hk : (lastP p).1 = 5) : RR l rl rd p i = match takeS fovC l i with
  | .error e => .error e
  | .ok t => match tokenR rl rd t p with
   | .error e => .error e
   | .ok q => RR l rl rd q t.to := by
 refine RR_of hi (by omega) fovC (fun n e hn hm hP hbx hr => Or.inr (Or.inl h)) (fun n e hn hm hP hbx hr hc => ?_) (fun n t hP hn hm hbx hln hr => ?_)
 ·have m := may_cls.2.1 n hn
  exact bad_none hP hbx hn hr (fun c => hm (m.2 (by omega)))
 ·have m := may_cls.2.1 n hn
  obtain ⟨hfr, hc⟩ := tk_sign hP hbx hn hr
  have hc : t.kind = 4 ∧ t.text = [l[Lx.pass l Lx.blankB i]] ∧ (n = 91 ∨ n = 93 ∨ n = 123 ∨ n = 125 ∨ n = 44 ∨ n = 58) := by
   rcases hc with hc | ⟨_, c, _⟩
   ·exact hc
   ·exact absurd (m.2 (by omega)) hm
  obtain ⟨k4, tx, _⟩ := hc
  rw [← hfr]
  have n91 : n ≠ 91 := fun e => hm (m.2 (by omega))
  have n123 : n ≠ 123 := fun e => hm (m.2 (by omega))
  have n93 : n ≠ 93 := fun e => hm (m.2 (by omega))
  refine token_else ?_ (by omega) (by omega) (by omega) (fun _ => ?_)
  ·rintro ⟨⟨_, _, e⟩, _⟩
   rcases e with ⟨e, _⟩ | ⟨_, e⟩
   ·rw [tx, lit93 hln] at e; exact n93 e
   ·omega
  ·unfold valueR
   rw [if_neg (by omega), if_neg (by omega), if_neg (by omega), if_neg, if_neg]
   ·rintro ⟨_, e⟩
    rw [tx, lit123 hln] at e
    exact n123 e
   ·rintro ⟨_, e⟩
    rw [tx, lit91 hln] at e
    exact n91 e
theorem RR_2 {l : List UInt8} {rl : List UInt8 → Nat} {rd : List UInt8 → JV} {p : PR} {i : Nat} (hi : i ≤ l.length) (h : p.nx = 2) : RR l rl rd p i = match takeS fos l i with
  | .error e => .error e
  | .ok t => match tokenR rl rd t p with
   | .error e => .error e
   | .ok q => RR l rl rd q t.to := by
 refine RR_of hi (by omega) fos (fun n e hn hm hP hbx hr => Or.inr (Or.inr ((st_yes hP hbx (Or.inl h)).2 ((may_cls.2.2.1 n hn).1 hm)))) (fun n e hn hm hP hbx hr hc => ?_) (fun n t hP hn hm hbx hln hr => ?_)
 ·exfalso
  rcases hc with hc | hc | hc
  ·omega
  ·omega
  ·exact hm ((may_cls.2.2.1 n hn).2 ((st_yes hP hbx (Or.inl h)).1 hc))
 ·have m := may_cls.2.2.1 n hn
  obtain ⟨hfr, hc⟩ := tk_sign hP hbx hn hr
  have k1 : t.kind ≠ 1 := fun e => by
   rcases hc with ⟨c, _⟩ | ⟨_, _, c⟩
   ·omega
   ·exact hm (m.2 (c.1 e))
  rw [← hfr]
  exact token_else (by omega) (by omega) (by omega) (by omega) (by omega)
theorem RR_3 {l : List UInt8} {rl : List UInt8 → Nat} {rd : List UInt8 → JV} {p : PR} {i : Nat} (hi : i ≤ l.length) (h : p.nx = 3) (hk : (lastP p).1 = 6) : RR l rl rd p i = match takeS fosC l i with
  | .error e => .error e
  | .ok t => match tokenR rl rd t p with
   | .error e => .error e
   | .ok q => RR l rl rd q t.to := by
 refine RR_of hi (by omega) fosC (fun n e hn hm hP hbx hr => ?_) (fun n e hn hm hP hbx hr hc => ?_) (fun n t hP hn hm hbx hln hr => ?_)
 ·rcases (may_cls.2.2.2.1 n hn).1 hm with e1 | e1
  ·exact Or.inr (Or.inr ((st_yes hP hbx (Or.inr h)).2 e1))
  ·exact (sign_ok hP hbx hn hr (by omega)).elim
 ·exfalso
  rcases hc with hc | hc | hc
  ·omega
  ·omega
  ·exact hm ((may_cls.2.2.2.1 n hn).2 (Or.inl ((st_yes hP hbx (Or.inr h)).1 hc)))
 ·have m := may_cls.2.2.2.1 n hn
  obtain ⟨hfr, hc⟩ := tk_sign hP hbx hn hr
  have k1 : t.kind ≠ 1 := fun e => by
   rcases hc with ⟨c, _⟩ | ⟨_, _, c⟩
   ·omega
   ·exact hm (m.2 (Or.inl (c.1 e)))
  have n125 : n ≠ 125 := fun e => hm (m.2 (Or.inr e))
  rw [← hfr]
  refine token_else ?_ (by omega) (by omega) (by omega) (by omega)
  rintro ⟨⟨_, e0, e⟩, _⟩
  rcases e with ⟨_, e⟩ | ⟨e, _⟩
  ·omega
  ·rcases hc with ⟨_, tx, _⟩ | ⟨c, _⟩
   ·rw [tx, lit125 hln] at e; exact n125 e
   ·exact c e0
theorem RR_4 {l : List UInt8} {rl : List UInt8 → Nat} {rd : List UInt8 → JV} {p : PR} {i : Nat} (hi : i ≤ l.length) (h : p.nx = 4) : RR l rl rd p i = match takeS sgD l i with
  | .error e => .error e
  | .ok t => match tokenR rl rd t p with
   | .error e => .error e
   | .ok q => RR l rl rd q t.to := by
 refine RR_of hi (by omega) sgD (fun n e hn hm hP hbx hr => ?_) (fun n e hn hm hP hbx hr hc => ?_) (fun n t hP hn hm hbx hln hr => ?_)
 ·exact (sign_ok hP hbx hn hr (by have := (may_cls.2.2.2.2.1 n hn).1 hm; omega)).elim
 ·rcases hc with hc | hc | hc
  ·omega
  ·omega
  ·exact absurd hc (st_no (by omega) (by omega))
 ·have m := may_cls.2.2.2.2.1 n hn
  obtain ⟨hfr, hc⟩ := tk_sign hP hbx hn hr
  rw [← hfr]
  refine token_else (by omega) (by omega) ?_ (by omega) (by omega)
  rintro ⟨_, e0, e⟩
  rcases hc with ⟨_, tx, _⟩ | ⟨c, _⟩
  ·rw [tx, lit58 hln] at e; exact hm (m.2 e)
  ·exact c e0
theorem RR_5 {l : List UInt8} {rl : List UInt8 → Nat} {rd : List UInt8 → JV} {p : PR} {i : Nat} (hi : i ≤ l.length) (h : p.nx = 5) (hk : (lastP p).1 = 5 ∨ (lastP p).1 = 6) : RR l rl rd p i = match takeS (if (lastP p).1 = 6 then ⟨#[44, 125]⟩ else ⟨#[44, 93]⟩) l i with
  | .error e => .error e
  | .ok t => match tokenR rl rd t p with
   | .error e => .error e
   | .ok q => RR l rl rd q t.to := by
 have m : ∀ n : Nat, n < 256 → (may (if (lastP p).1 = 6 then ⟨#[44, 125]⟩ else ⟨#[44, 93]⟩) (n : Int) = true ↔ (n = 44 ∨ ((lastP p).1 = 6 ∧ n = 125) ∨ ((lastP p).1 = 5 ∧ n = 93))) := fun n hn => by
  rcases hk with hk | hk
  ·rw [if_neg (by omega), may_cls.2.2.2.2.2.2 n hn]; omega
  ·rw [if_pos hk, may_cls.2.2.2.2.2.1 n hn]; omega
 refine RR_of hi (by omega) _ (fun n e hn hm hP hbx hr => ?_) (fun n e hn hm hP hbx hr hc => ?_) (fun n t hP hn hm hbx hln hr => ?_)
 ·exact (sign_ok hP hbx hn hr (by have := (m n hn).1 hm; omega)).elim
 ·rcases hc with hc | hc | hc
  ·omega
  ·omega
  ·exact absurd hc (st_no (by omega) (by omega))
 ·have m := m n hn
  obtain ⟨hfr, hc⟩ := tk_sign hP hbx hn hr
  rw [← hfr]
  refine token_else ?_ ?_ (by omega) (by omega) (by omega)
  ·rintro ⟨⟨_, e0, e⟩, _⟩
   rcases hc with ⟨_, tx, _⟩ | ⟨c, _⟩
   ·rw [tx, lit93 hln, lit125 hln] at e
    exact hm (m.2 (by omega))
   ·exact c e0
  ·rintro ⟨_, e0, e⟩
   rcases hc with ⟨_, tx, _⟩ | ⟨c, _⟩
   ·rw [tx, lit44 hln] at e; exact hm (m.2 (by omega))
   ·exact c e0
end Go.Proofs.YtfoehebnmommfaaGreatDoor

namespace Go.Proofs.YtfoehebnmommfaaGreatDoor
open Go.RowKit

def shp (h : HS) : Int × List ByteArray := (h.1, h.2.2)
structure SR (s s' : SS) : Prop where
 i : s'.i = s.i
 dp : s'.dp = s.dp
 hs : s'.hs.map shp = s.hs.map shp
 eq : s.ps = 0 → s'.hs = s.hs ∧ s'.ps = 0
theorem SR.refl (s : SS) : SR s s := ⟨rfl, rfl, rfl, fun h => ⟨rfl, h⟩⟩
theorem SR.len {s s' : SS} (h : SR s s') : s'.hs.length = s.hs.length := by
 have := congrArg List.length h.hs
 simpa using this
theorem getLastD_map {α β : Type} (f : α → β) (l : List α) (d : α) : f (l.getLastD d) = (l.map f).getLastD (f d) := by
 cases l with
 | nil => rfl
 | cons a l =>
  induction l generalizing a with
  | nil => rfl
  | cons b l ih => simpa [List.getLastD_cons] using ih b
theorem SR.last {s s' : SS} (h : SR s s') : shp (lastS s') = shp (lastS s) := by
 unfold lastS
 rw [getLastD_map shp, getLastD_map shp, h.hs]
theorem SR.last1 {s s' : SS} (h : SR s s') : (lastS s').1 = (lastS s).1 := by
 have := congrArg Prod.fst h.last
 exact this
theorem SR.last2 {s s' : SS} (h : SR s s') : (lastS s').2.2 = (lastS s).2.2 := by
 have := congrArg Prod.snd h.last
 exact this
theorem SR.open {s s' : SS} (h : SR s s') (k : Int) (j : Nat) : SR { openS k s with i := j } { openS k s' with i := j } := by
 refine ⟨rfl, ?_, ?_, fun h0 => ?_⟩
 ·show max s'.dp (s'.hs.length + 1) = max s.dp (s.hs.length + 1)
  rw [h.dp, h.len]
 ·show (s'.hs ++ [(k, [], [])]).map shp = (s.hs ++ [(k, [], [])]).map shp
  rw [List.map_append, List.map_append, h.hs]
 ·obtain ⟨h1, h2⟩ := h.eq h0
  exact ⟨by show s'.hs ++ _ = s.hs ++ _; rw [h1], h2⟩
theorem SR.at {s s' : SS} (h : SR s s') (j : Nat) : SR { s with i := j } { s' with i := j } := ⟨rfl, h.dp, h.hs, h.eq⟩
theorem map_dropLast {α β : Type} (f : α → β) (l : List α) : (l.dropLast).map f = (l.map f).dropLast := by simp
theorem SR.key {s s' : SS} (h : SR s s') (k : ByteArray) (j : Nat) : SR { addK k s with i := j } { addK k s' with i := j } := by
 refine ⟨rfl, h.dp, ?_, fun h0 => ?_⟩
 ·show (s'.hs.dropLast ++ [((lastS s').1, (lastS s').2.1, (lastS s').2.2 ++ [k])]).map shp = (s.hs.dropLast ++ [((lastS s).1, (lastS s).2.1, (lastS s).2.2 ++ [k])]).map shp
  rw [List.map_append, List.map_append, map_dropLast, map_dropLast, h.hs]
  simp only [List.map_cons, List.map_nil, shp, h.last1, h.last2]
 ·obtain ⟨h1, h2⟩ := h.eq h0
  have e : lastS s' = lastS s := by unfold lastS; rw [h1]
  exact ⟨by show s'.hs.dropLast ++ _ = s.hs.dropLast ++ _; rw [h1, e], h2⟩
theorem SR.val {s s' : SS} (h : SR s s') {v v' : JV} (hv : s.ps = 0 → v' = v) (j : Nat) : SR { addV v s with i := j } { addV v' s' with i := j } := by
 refine ⟨rfl, h.dp, ?_, fun h0 => ?_⟩
 ·show (s'.hs.dropLast ++ [((lastS s').1, (lastS s').2.1 ++ [v'], (lastS s').2.2)]).map shp = (s.hs.dropLast ++ [((lastS s).1, (lastS s).2.1 ++ [v], (lastS s).2.2)]).map shp
  rw [List.map_append, List.map_append, map_dropLast, map_dropLast, h.hs]
  simp only [List.map_cons, List.map_nil, shp, h.last1, h.last2]
 ·obtain ⟨h1, h2⟩ := h.eq h0
  have e : lastS s' = lastS s := by unfold lastS; rw [h1]
  exact ⟨by show s'.hs.dropLast ++ _ = s.hs.dropLast ++ _; rw [h1, e, hv h0], h2⟩
theorem SR.close {s s' : SS} (h : SR s s') : SR (closeS s).2 (closeS s').2 ∧ ((closeS s).2.ps = 0 → (closeS s').1 = (closeS s).1) := by
 refine ⟨⟨h.i, h.dp, ?_, fun h0 => ?_⟩, fun h0 => ?_⟩
 ·show s'.hs.dropLast.map shp = s.hs.dropLast.map shp
  rw [map_dropLast, map_dropLast, h.hs]
 ·obtain ⟨h1, h2⟩ := h.eq h0
  exact ⟨by show s'.hs.dropLast = s.hs.dropLast; rw [h1], h2⟩
 ·obtain ⟨h1, h2⟩ := h.eq h0
  have e : lastS s' = lastS s := by unfold lastS; rw [h1]
  unfold closeS
  simp only [e]
theorem simple_ps {m : LM} (t : Lx.Tok) (p : Nat) (h : (simpleS m t p).2 = 0) : p = 0 := by
 unfold simpleS at h
 by_cases h1 : t.kind = 1
 ·simpa [h1] using h
 ·by_cases h2 : t.kind = 2
  ·by_cases h3 : p = 0
   ·exact h3
   ·exfalso
    simp [h2, h3] at h
  ·simpa [h1, h2] using h
end Go.Proofs.YtfoehebnmommfaaGreatDoor
