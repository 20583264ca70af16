/-
  The document's reader takes what json takes, state by state. Conditions: none.
  What wider limits change of what is read: nothing but what passes them. Conditions: none.
  json's reader and the document's go on alike. Conditions: at most 2^20 bytes.
-/
import Derived.Test.YtjakgdaodlgeaaaGreatDoorJoined35
import Derived.Test.YtjakgdaodlgeaaaGreatDoorJoined21
namespace Go.Proofs.YtjakgdaodlgeaaaGreatDoor
open Go.RowKit

theorem st_no {l : List UInt8} {p : PR} {i : Nat} (h2 : p.nx ≠ 2) (h3 : p.nx ≠ 3) : ¬ standsR l p i := fun h => by
 rcases h.2 with e | e
 ·exact h2 e
 ·exact h3 e
theorem st_yes {l : List UInt8} {p : PR} {i n : Nat} (hP : Lx.pass l Lx.blankB i < l.length) (hbx : Lx.bx l (Lx.pass l Lx.blankB i) = (n : Int)) (h : p.nx = 2 ∨ p.nx = 3) : standsR l p i ↔ n = 34 := by
 unfold standsR
 rw [Lx.hasAt_in _ hP, hbx]
 simp only [beq_iff_eq]
 constructor
 ·rintro ⟨a, _⟩; omega
 ·intro a; exact ⟨by omega, h⟩
theorem tk_sign {l : List UInt8} {q n : Nat} {t : Lx.Tok} (hP : q < l.length) (hbx : Lx.bx l q = (n : Int)) (hn : n < 256) (hr : Lx.readL l q = .ok t) : t.fr = q ∧ ((t.kind = 4 ∧ t.text = [l[q]] ∧ (n = 91 ∨ n = 93 ∨ n = 123 ∨ n = 125 ∨ n = 44 ∨ n = 58)) ∨ (t.kind ≠ 4 ∧ (n = 34 ∨ n = 45 ∨ (48 ≤ n ∧ n ≤ 57) ∨ n = 110 ∨ n = 116 ∨ n = 102) ∧ (t.kind = 1 ↔ n = 34))) := by
 have hcl := tok_cls hP hr
 rw [hbx] at hcl
 have dg := digit_cls n hn
 rcases hcl with ⟨c1, rfl⟩ | ⟨c1, c2, c3⟩
 ·exact ⟨rfl, Or.inl ⟨rfl, rfl, (sign_cls n hn).1 c1⟩⟩
 ·refine ⟨c2, Or.inr ?_⟩
  rcases c3 with ⟨c, d, _⟩ | ⟨c, d, _⟩ | ⟨c, d, _⟩ | ⟨c, d⟩ | ⟨c, d⟩
  ·exact ⟨by omega, by omega, by omega⟩
  ·exact ⟨by omega, by omega, by omega⟩
  ·exact ⟨by omega, by omega, by omega⟩
  ·rcases c with c | c
   ·exact ⟨by omega, by omega, by omega⟩
   ·have := dg.1 c
    exact ⟨by omega, by omega, by omega⟩
  ·exact ⟨by omega, by omega, by omega⟩
theorem lit93 {a : UInt8} {n : Nat} (h : a.toNat = n) : ([a] : List UInt8) = [93] ↔ n = 93 := u8_lit h 93
theorem lit125 {a : UInt8} {n : Nat} (h : a.toNat = n) : ([a] : List UInt8) = [125] ↔ n = 125 := u8_lit h 125
theorem lit44 {a : UInt8} {n : Nat} (h : a.toNat = n) : ([a] : List UInt8) = [44] ↔ n = 44 := u8_lit h 44
theorem lit58 {a : UInt8} {n : Nat} (h : a.toNat = n) : ([a] : List UInt8) = [58] ↔ n = 58 := u8_lit h 58
theorem lit91 {a : UInt8} {n : Nat} (h : a.toNat = n) : ([a] : List UInt8) = [91] ↔ n = 91 := u8_lit h 91
theorem lit123 {a : UInt8} {n : Nat} (h : a.toNat = n) : ([a] : List UInt8) = [123] ↔ n = 123 := u8_lit h 123
theorem token_else {rl : List UInt8 → Nat} {rd : List UInt8 → JV} {t : Lx.Tok} {p : PR} (h1 : ¬ (endsR t p ∧ (p.nx = 1 ∨ p.nx = 3 ∨ p.nx = 5))) (h2 : ¬ (p.nx = 5 ∧ t.kind = 4 ∧ t.text = [44])) (h3 : ¬ (p.nx = 4 ∧ t.kind = 4 ∧ t.text = [58])) (h4 : ¬ ((p.nx = 2 ∨ p.nx = 3) ∧ t.kind = 1)) (h5 : p.nx = 0 ∨ p.nx = 1 → valueR rl rd t p = none) : tokenR rl rd t p = .error (t.fr + 1) := by
 unfold tokenR
 rw [if_neg h1, if_neg h2, if_neg h3, if_neg h4]
 split
 ·rename_i h
  rw [h5 h]
 ·rfl
theorem RR_0 {l : List UInt8} {rl : List UInt8 → Nat} {rd : List UInt8 → JV} {p : PR} {i : Nat} (hi : i ≤ l.length) (h : p.nx = 0) : RR l rl rd p i = match takeS fov l i with
  | .error e => .error e
  | .ok t => match tokenR rl rd t p with
   | .error e => .error e
   | .ok q => RR l rl rd q t.to := by
 refine RR_of hi (by omega) fov (fun n e hn hm hP hbx hr => Or.inl h) (fun n e hn hm hP hbx hr hc => ?_) (fun n t hP hn hm hbx hln hr => ?_)
 ·have m := may_cls.1 n hn
  exact bad_none hP hbx hn hr (fun c => hm (m.2 (by omega)))
 ·have m := may_cls.1 n hn
  obtain ⟨hfr, hc⟩ := tk_sign hP hbx hn hr
  have hc : t.kind = 4 ∧ t.text = [l[Lx.pass l Lx.blankB i]] ∧ (n = 91 ∨ n = 93 ∨ n = 123 ∨ n = 125 ∨ n = 44 ∨ n = 58) := by
   rcases hc with hc | ⟨_, c, _⟩
   ·exact hc
   ·exact absurd (m.2 (by omega)) hm
  obtain ⟨k4, tx, _⟩ := hc
  rw [← hfr]
  have n91 : n ≠ 91 := fun e => hm (m.2 (by omega))
  have n123 : n ≠ 123 := fun e => hm (m.2 (by omega))
  refine token_else (by omega) (by omega) (by omega) (by omega) (fun _ => ?_)
  unfold valueR
  rw [if_neg (by omega), if_neg (by omega), if_neg (by omega), if_neg, if_neg]
  ·rintro ⟨_, e⟩
   rw [tx, lit123 hln] at e
   exact n123 e
  ·rintro ⟨_, e⟩
   rw [tx, lit91 hln] at e
   exact n91 e
theorem RR_1 {l : List UInt8} {rl : List UInt8 → Nat} {rd : List UInt8 → JV} {p : PR} {i : Nat} (hi : i ≤ l.length) (h : p.nx = 1) (hk : (lastP p).1 = 5) : RR l rl rd p i = match takeS fovC l i with
  | .error e => .error e
  | .ok t => match tokenR rl rd t p with
   | .error e => .error e
   | .ok q => RR l rl rd q t.to := by
 refine RR_of hi (by omega) fovC (fun n e hn hm hP hbx hr => Or.inr (Or.inl h)) (fun n e hn hm hP hbx hr hc => ?_) (fun n t hP hn hm hbx hln hr => ?_)
 ·have m := may_cls.2.1 n hn
  exact bad_none hP hbx hn hr (fun c => hm (m.2 (by omega)))
 ·have m := may_cls.2.1 n hn
  obtain ⟨hfr, hc⟩ := tk_sign hP hbx hn hr
  have hc : t.kind = 4 ∧ t.text = [l[Lx.pass l Lx.blankB i]] ∧ (n = 91 ∨ n = 93 ∨ n = 123 ∨ n = 125 ∨ n = 44 ∨ n = 58) := by
   rcases hc with hc | ⟨_, c, _⟩
   ·exact hc
   ·exact absurd (m.2 (by omega)) hm
  obtain ⟨k4, tx, _⟩ := hc
  rw [← hfr]
  have n91 : n ≠ 91 := fun e => hm (m.2 (by omega))
  have n123 : n ≠ 123 := fun e => hm (m.2 (by omega))
  have n93 : n ≠ 93 := fun e => hm (m.2 (by omega))
  refine token_else ?_ (by omega) (by omega) (by omega) (fun _ => ?_)
  ·rintro ⟨⟨_, _, e⟩, _⟩
   rcases e with ⟨e, _⟩ | ⟨_, e⟩
   ·rw [tx, lit93 hln] at e; exact n93 e
   ·omega
  ·unfold valueR
   rw [if_neg (by omega), if_neg (by omega), if_neg (by omega), if_neg, if_neg]
   ·rintro ⟨_, e⟩
    rw [tx, lit123 hln] at e
    exact n123 e
   ·rintro ⟨_, e⟩
    rw [tx, lit91 hln] at e
    exact n91 e
theorem RR_2 {l : List UInt8} {rl : List UInt8 → Nat} {rd : List UInt8 → JV} {p : PR} {i : Nat} (hi : i ≤ l.length) (h : p.nx = 2) : RR l rl rd p i = match takeS fos l i with
  | .error e => .error e
  | .ok t => match tokenR rl rd t p with
   | .error e => .error e
   | .ok q => RR l rl rd q t.to := by
 refine RR_of hi (by omega) fos (fun n e hn hm hP hbx hr => Or.inr (Or.inr ((st_yes hP hbx (Or.inl h)).2 ((may_cls.2.2.1 n hn).1 hm)))) (fun n e hn hm hP hbx hr hc => ?_) (fun n t hP hn hm hbx hln hr => ?_)
 ·exfalso
  rcases hc with hc | hc | hc
  ·omega
  ·omega
  ·exact hm ((may_cls.2.2.1 n hn).2 ((st_yes hP hbx (Or.inl h)).1 hc))
 ·have m := may_cls.2.2.1 n hn
  obtain ⟨hfr, hc⟩ := tk_sign hP hbx hn hr
  have k1 : t.kind ≠ 1 := fun e => by
   rcases hc with ⟨c, _⟩ | ⟨_, _, c⟩
   ·omega
   ·exact hm (m.2 (c.1 e))
  rw [← hfr]
  exact token_else (by omega) (by omega) (by omega) (by omega) (by omega)
theorem RR_3 {l : List UInt8} {rl : List UInt8 → Nat} {rd : List UInt8 → JV} {p : PR} {i : Nat} (hi : i ≤ l.length) (h : p.nx = 3) (hk : (lastP p).1 = 6) : RR l rl rd p i = match takeS fosC l i with
  | .error e => .error e
  | .ok t => match tokenR rl rd t p with
   | .error e => .error e
   | .ok q => RR l rl rd q t.to := by
 refine RR_of hi (by omega) fosC (fun n e hn hm hP hbx hr => ?_) (fun n e hn hm hP hbx hr hc => ?_) (fun n t hP hn hm hbx hln hr => ?_)
 ·rcases (may_cls.2.2.2.1 n hn).1 hm with e1 | e1
  ·exact Or.inr (Or.inr ((st_yes hP hbx (Or.inr h)).2 e1))
  ·exact (sign_ok hP hbx hn hr (by omega)).elim
 ·exfalso
  rcases hc with hc | hc | hc
  ·omega
  ·omega
  ·exact hm ((may_cls.2.2.2.1 n hn).2 (Or.inl ((st_yes hP hbx (Or.inr h)).1 hc)))
 ·have m := may_cls.2.2.2.1 n hn
  obtain ⟨hfr, hc⟩ := tk_sign hP hbx hn hr
  have k1 : t.kind ≠ 1 := fun e => by
   rcases hc with ⟨c, _⟩ | ⟨_, _, c⟩
   ·omega
   ·exact hm (m.2 (Or.inl (c.1 e)))
  have n125 : n ≠ 125 := fun e => hm (m.2 (Or.inr e))
  rw [← hfr]
  refine token_else ?_ (by omega) (by omega) (by omega) (by omega)
  rintro ⟨⟨_, e0, e⟩, _⟩
  rcases e with ⟨_, e⟩ | ⟨e, _⟩
  ·omega
  ·rcases hc with ⟨_, tx, _⟩ | ⟨c, _⟩
   ·rw [tx, lit125 hln] at e; exact n125 e
   ·exact c e0
theorem RR_4 {l : List UInt8} {rl : List UInt8 → Nat} {rd : List UInt8 → JV} {p : PR} {i : Nat} (hi : i ≤ l.length) (h : p.nx = 4) : RR l rl rd p i = match takeS sgD l i with
  | .error e => .error e
  | .ok t => match tokenR rl rd t p with
   | .error e => .error e
   | .ok q => RR l rl rd q t.to := by
 refine RR_of hi (by omega) sgD (fun n e hn hm hP hbx hr => ?_) (fun n e hn hm hP hbx hr hc => ?_) (fun n t hP hn hm hbx hln hr => ?_)
 ·exact (sign_ok hP hbx hn hr (by have := (may_cls.2.2.2.2.1 n hn).1 hm; omega)).elim
 ·rcases hc with hc | hc | hc
  ·omega
  ·omega
  ·exact absurd hc (st_no (by omega) (by omega))
 ·have m := may_cls.2.2.2.2.1 n hn
  obtain ⟨hfr, hc⟩ := tk_sign hP hbx hn hr
  rw [← hfr]
  refine token_else (by omega) (by omega) ?_ (by omega) (by omega)
  rintro ⟨_, e0, e⟩
  rcases hc with ⟨_, tx, _⟩ | ⟨c, _⟩
  ·rw [tx, lit58 hln] at e; exact hm (m.2 e)
  ·exact c e0
theorem RR_5 {l : List UInt8} {rl : List UInt8 → Nat} {rd : List UInt8 → JV} {p : PR} {i : Nat} (hi : i ≤ l.length) (h : p.nx = 5) (hk : (lastP p).1 = 5 ∨ (lastP p).1 = 6) : RR l rl rd p i = match takeS (if (lastP p).1 = 6 then ⟨#[44, 125]⟩ else ⟨#[44, 93]⟩) l i with
  | .error e => .error e
  | .ok t => match tokenR rl rd t p with
   | .error e => .error e
   | .ok q => RR l rl rd q t.to := by
 have m : ∀ n : Nat, n < 256 → (may (if (lastP p).1 = 6 then ⟨#[44, 125]⟩ else ⟨#[44, 93]⟩) (n : Int) = true ↔ (n = 44 ∨ ((lastP p).1 = 6 ∧ n = 125) ∨ ((lastP p).1 = 5 ∧ n = 93))) := fun n hn => by
  rcases hk with hk | hk
  ·rw [if_neg (by omega), may_cls.2.2.2.2.2.2 n hn]; omega
  ·rw [if_pos hk, may_cls.2.2.2.2.2.1 n hn]; omega
 refine RR_of hi (by omega) _ (fun n e hn hm hP hbx hr => ?_) (fun n e hn hm hP hbx hr hc => ?_) (fun n t hP hn hm hbx hln hr => ?_)
 ·exact (sign_ok hP hbx hn hr (by have := (m n hn).1 hm; omega)).elim
 ·rcases hc with hc | hc | hc
  ·omega
  ·omega
  ·exact absurd hc (st_no (by omega) (by omega))
 ·have m := m n hn
  obtain ⟨hfr, hc⟩ := tk_sign hP hbx hn hr
  rw [← hfr]
  refine token_else ?_ ?_ (by omega) (by omega) (by omega)
  ·rintro ⟨⟨_, e0, e⟩, _⟩
   rcases hc with ⟨_, tx, _⟩ | ⟨c, _⟩
   ·rw [tx, lit93 hln, lit125 hln] at e
    exact hm (m.2 (by omega))
   ·exact c e0
  ·rintro ⟨_, e0, e⟩
   rcases hc with ⟨_, tx, _⟩ | ⟨c, _⟩
   ·rw [tx, lit44 hln] at e; exact hm (m.2 (by omega))
   ·exact c e0
end Go.Proofs.YtjakgdaodlgeaaaGreatDoor

namespace Go.Proofs.YtjakgdaodlgeaaaGreatDoor
open Go.RowKit

def shp (h : HS) : Int × List ByteArray := (h.1, h.2.2)
structure SR (s s' : SS) : Prop where
 i : s'.i = s.i
 dp : s'.dp = s.dp
 hs : s'.hs.map shp = s.hs.map shp
 eq : s.ps = 0 → s'.hs = s.hs ∧ s'.ps = 0
theorem SR.refl (s : SS) : SR s s := ⟨rfl, rfl, rfl, fun h => ⟨rfl, h⟩⟩
theorem SR.len {s s' : SS} (h : SR s s') : s'.hs.length = s.hs.length := by
 have := congrArg List.length h.hs
 simpa using this
theorem getLastD_map {α β : Type} (f : α → β) (l : List α) (d : α) : f (l.getLastD d) = (l.map f).getLastD (f d) := by
 cases l with
 | nil => rfl
 | cons a l =>
  induction l generalizing a with
  | nil => rfl
  | cons b l ih => simpa [List.getLastD_cons] using ih b
theorem SR.last {s s' : SS} (h : SR s s') : shp (lastS s') = shp (lastS s) := by
 unfold lastS
 rw [getLastD_map shp, getLastD_map shp, h.hs]
theorem SR.last1 {s s' : SS} (h : SR s s') : (lastS s').1 = (lastS s).1 := by
 have := congrArg Prod.fst h.last
 exact this
theorem SR.last2 {s s' : SS} (h : SR s s') : (lastS s').2.2 = (lastS s).2.2 := by
 have := congrArg Prod.snd h.last
 exact this
theorem SR.open {s s' : SS} (h : SR s s') (k : Int) (j : Nat) : SR { openS k s with i := j } { openS k s' with i := j } := by
 refine ⟨rfl, ?_, ?_, fun h0 => ?_⟩
 ·show max s'.dp (s'.hs.length + 1) = max s.dp (s.hs.length + 1)
  rw [h.dp, h.len]
 ·show (s'.hs ++ [(k, [], [])]).map shp = (s.hs ++ [(k, [], [])]).map shp
  rw [List.map_append, List.map_append, h.hs]
 ·obtain ⟨h1, h2⟩ := h.eq h0
  exact ⟨by show s'.hs ++ _ = s.hs ++ _; rw [h1], h2⟩
theorem SR.at {s s' : SS} (h : SR s s') (j : Nat) : SR { s with i := j } { s' with i := j } := ⟨rfl, h.dp, h.hs, h.eq⟩
theorem map_dropLast {α β : Type} (f : α → β) (l : List α) : (l.dropLast).map f = (l.map f).dropLast := by simp
theorem SR.key {s s' : SS} (h : SR s s') (k : ByteArray) (j : Nat) : SR { addK k s with i := j } { addK k s' with i := j } := by
 refine ⟨rfl, h.dp, ?_, fun h0 => ?_⟩
 ·show (s'.hs.dropLast ++ [((lastS s').1, (lastS s').2.1, (lastS s').2.2 ++ [k])]).map shp = (s.hs.dropLast ++ [((lastS s).1, (lastS s).2.1, (lastS s).2.2 ++ [k])]).map shp
  rw [List.map_append, List.map_append, map_dropLast, map_dropLast, h.hs]
  simp only [List.map_cons, List.map_nil, shp, h.last1, h.last2]
 ·obtain ⟨h1, h2⟩ := h.eq h0
  have e : lastS s' = lastS s := by unfold lastS; rw [h1]
  exact ⟨by show s'.hs.dropLast ++ _ = s.hs.dropLast ++ _; rw [h1, e], h2⟩
theorem SR.val {s s' : SS} (h : SR s s') {v v' : JV} (hv : s.ps = 0 → v' = v) (j : Nat) : SR { addV v s with i := j } { addV v' s' with i := j } := by
 refine ⟨rfl, h.dp, ?_, fun h0 => ?_⟩
 ·show (s'.hs.dropLast ++ [((lastS s').1, (lastS s').2.1 ++ [v'], (lastS s').2.2)]).map shp = (s.hs.dropLast ++ [((lastS s).1, (lastS s).2.1 ++ [v], (lastS s).2.2)]).map shp
  rw [List.map_append, List.map_append, map_dropLast, map_dropLast, h.hs]
  simp only [List.map_cons, List.map_nil, shp, h.last1, h.last2]
 ·obtain ⟨h1, h2⟩ := h.eq h0
  have e : lastS s' = lastS s := by unfold lastS; rw [h1]
  exact ⟨by show s'.hs.dropLast ++ _ = s.hs.dropLast ++ _; rw [h1, e, hv h0], h2⟩
theorem SR.close {s s' : SS} (h : SR s s') : SR (closeS s).2 (closeS s').2 ∧ ((closeS s).2.ps = 0 → (closeS s').1 = (closeS s).1) := by
 refine ⟨⟨h.i, h.dp, ?_, fun h0 => ?_⟩, fun h0 => ?_⟩
 ·show s'.hs.dropLast.map shp = s.hs.dropLast.map shp
  rw [map_dropLast, map_dropLast, h.hs]
 ·obtain ⟨h1, h2⟩ := h.eq h0
  exact ⟨by show s'.hs.dropLast = s.hs.dropLast; rw [h1], h2⟩
 ·obtain ⟨h1, h2⟩ := h.eq h0
  have e : lastS s' = lastS s := by unfold lastS; rw [h1]
  unfold closeS
  simp only [e]
theorem simple_ps {m : LM} (t : Lx.Tok) (p : Nat) (h : (simpleS m t p).2 = 0) : p = 0 := by
 unfold simpleS at h
 by_cases h1 : t.kind = 1
 ·simpa [h1] using h
 ·by_cases h2 : t.kind = 2
  ·by_cases h3 : p = 0
   ·exact h3
   ·exfalso
    simp [h2, h3] at h
  ·simpa [h1, h2] using h
end Go.Proofs.YtjakgdaodlgeaaaGreatDoor

namespace Go.Proofs.YtjakgdaodlgeaaaGreatDoor
open Go.RowKit

structure PRel (s : SS) (p : PR) : Prop where
 hs : p.hs.map shp = s.hs.map shp
 dp : p.dp = s.dp
 ps : p.ps = s.ps
 eq : s.ps = 0 → p.hs = s.hs
theorem PRel.len {s : SS} {p : PR} (h : PRel s p) : p.hs.length = s.hs.length := by
 have := congrArg List.length h.hs
 simpa using this
theorem PRel.last {s : SS} {p : PR} (h : PRel s p) : shp (lastP p) = shp (lastS s) := by
 unfold lastP lastS
 rw [getLastD_map shp, getLastD_map shp, h.hs]
theorem PRel.last1 {s : SS} {p : PR} (h : PRel s p) : (lastP p).1 = (lastS s).1 := by
 have := congrArg Prod.fst h.last
 exact this
theorem PRel.last2 {s : SS} {p : PR} (h : PRel s p) : (lastP p).2.2 = (lastS s).2.2 := by
 have := congrArg Prod.snd h.last
 exact this
theorem PRel.lastE {s : SS} {p : PR} (h : PRel s p) (h0 : s.ps = 0) : lastP p = lastS s := by unfold lastP lastS; rw [h.eq h0]
theorem PRel.at {s : SS} {p : PR} (h : PRel s p) (i n : Nat) : PRel { s with i := i } { p with nx := n } := ⟨h.hs, h.dp, h.ps, h.eq⟩
theorem PRel.open {s : SS} {p : PR} (h : PRel s p) (k : Int) (i : Nat) : PRel { openS k s with i := i } (beginR k p) := by
 refine ⟨?_, ?_, h.ps, fun h0 => ?_⟩
 ·show (p.hs ++ [(k, [], [])]).map shp = (s.hs ++ [(k, [], [])]).map shp
  rw [List.map_append, List.map_append, h.hs]
 ·show max p.dp (p.hs.length + 1) = max s.dp (s.hs.length + 1)
  rw [h.dp, h.len]
 ·show p.hs ++ _ = s.hs ++ _
  rw [h.eq h0]
theorem PRel.key {s : SS} {p : PR} (h : PRel s p) (k : ByteArray) (i n : Nat) : PRel { addK k s with i := i } { p with hs := p.hs.dropLast ++ [((lastP p).1, (lastP p).2.1, (lastP p).2.2 ++ [k])], nx := n } := by
 refine ⟨?_, h.dp, h.ps, fun h0 => ?_⟩
 ·show (p.hs.dropLast ++ [((lastP p).1, (lastP p).2.1, (lastP p).2.2 ++ [k])]).map shp = (s.hs.dropLast ++ [((lastS s).1, (lastS s).2.1, (lastS s).2.2 ++ [k])]).map shp
  rw [List.map_append, List.map_append, map_dropLast, map_dropLast, h.hs]
  simp only [List.map_cons, List.map_nil, shp, h.last1, h.last2]
 ·show p.hs.dropLast ++ _ = s.hs.dropLast ++ _
  rw [h.eq h0, h.lastE h0]
theorem PRel.val {s : SS} {p : PR} (h : PRel s p) {v v1 : JV} (hv : s.ps = 0 → v1 = v) (hne : p.hs ≠ []) (i n : Nat) : PRel { addV v s with i := i } { putR v1 p with nx := n } := by
 unfold putR
 rw [if_neg hne]
 refine ⟨?_, h.dp, h.ps, fun h0 => ?_⟩
 ·show (p.hs.dropLast ++ [((lastP p).1, (lastP p).2.1 ++ [v1], (lastP p).2.2)]).map shp = (s.hs.dropLast ++ [((lastS s).1, (lastS s).2.1 ++ [v], (lastS s).2.2)]).map shp
  rw [List.map_append, List.map_append, map_dropLast, map_dropLast, h.hs]
  simp only [List.map_cons, List.map_nil, shp, h.last1, h.last2]
 ·show p.hs.dropLast ++ _ = s.hs.dropLast ++ _
  rw [h.eq h0, h.lastE h0, hv h0]
theorem PRel.nil {s : SS} {p : PR} (h : PRel s p) : p.hs = [] ↔ s.hs = [] := by
 have := h.len
 constructor
 ·intro e; rw [e] at this; exact List.eq_nil_of_length_eq_zero this.symm
 ·intro e; rw [e] at this; exact List.eq_nil_of_length_eq_zero this
def TK (l : List UInt8) (rl : List UInt8 → Nat) (rd : List UInt8 → JV) (t : Lx.Tok) (p : PR) (i : Nat) : Except Nat PR := match tokenR rl rd t p with
 | .error e => .error e
 | .ok q => RR l rl rd q i
theorem sgn_iff {l : List UInt8} {fs : ByteArray} {i : Nat} {t : Lx.Tok} (hl : l.length ≤ 1048576) (h : takeS fs l i = .ok t) (c : UInt8) : sgnB t ⟨#[c]⟩ = true ↔ t.kind = 4 ∧ t.text = [c] := by
 obtain ⟨h1, _, h3, _⟩ := takeS_at h
 unfold sgnB isL jeqT
 rw [decide_eq_true_eq]
 have htx : (txtB t = ⟨#[c]⟩) ↔ t.text = [c] := by
  unfold txtB
  constructor
  ·intro e
   have : (⟨t.text.toArray⟩ : ByteArray).data.toList = (⟨#[c]⟩ : ByteArray).data.toList := by rw [e]
   simpa using this
  ·intro e; rw [e]
 rw [htx]
 constructor
 ·rintro ⟨a, b, _⟩; exact ⟨by omega, b⟩
 ·rintro ⟨a, b⟩
  refine ⟨by omega, b, rfl, ?_⟩
  rcases tok_cls h1 h3 with ⟨_, rfl⟩ | ⟨_, _, c3⟩
  ·have e : ((⟨#[c]⟩ : ByteArray).size : Int) = 1 := rfl
   rw [e]
   unfold wrap64
   simp only
   omega
  ·exfalso
   rcases c3 with ⟨_, d, _⟩ | ⟨_, d, _⟩ | ⟨_, d, _⟩ | ⟨_, d⟩ | ⟨_, d⟩ <;> omega
theorem take_cls {l : List UInt8} {fs : ByteArray} {i : Nat} {t : Lx.Tok} (h : takeS fs l i = .ok t) : ∃ n : Nat, n < 256 ∧ may fs (n : Int) = true ∧ ((t.kind = 4 ∧ (∀ m : UInt8, t.text = [m] ↔ n = m.toNat) ∧ (n = 91 ∨ n = 93 ∨ n = 123 ∨ n = 125 ∨ n = 44 ∨ n = 58)) ∨ ((t.kind = 1 ∨ t.kind = 2 ∨ t.kind = 3) ∧ (n = 34 ∨ n = 45 ∨ (48 ≤ n ∧ n ≤ 57) ∨ n = 110 ∨ n = 116 ∨ n = 102) ∧ (t.kind = 1 ↔ n = 34))) := by
 obtain ⟨h1, h2, h3, _⟩ := takeS_at h
 obtain ⟨n, hn, hbx, hln⟩ := bx_lt h1
 rw [Lx.hasAt_in _ h1, hbx] at h2
 refine ⟨n, hn, h2, ?_⟩
 obtain ⟨_, hc⟩ := tk_sign h1 hbx hn h3
 rcases hc with ⟨a, b, c⟩ | ⟨a, b, c⟩
 ·exact Or.inl ⟨a, fun m => by rw [b]; exact u8_lit hln m, c⟩
 ·refine Or.inr ⟨?_, b, c⟩
  rcases tok_cls h1 h3 with ⟨_, rfl⟩ | ⟨_, _, c3⟩
  ·exact absurd rfl a
  ·rcases c3 with ⟨_, d, _⟩ | ⟨_, d, _⟩ | ⟨_, d, _⟩ | ⟨_, d⟩ | ⟨_, d⟩ <;> omega
theorem valueOf_ref {l : List UInt8} {rl : List UInt8 → Nat} {rd : List UInt8 → JV} {t : Lx.Tok} {s : SS} {p : PR} (hR : PRel s p) (hnx : p.nx = 2 ∨ p.nx = 3) (hk : t.kind = 1) (hi : s.i ≤ l.length) :
  (∀ e, valueOfS l t s = .error e → TK l rl rd t p s.i = .error e) ∧ (∀ t3 s3, valueOfS l t s = .ok (t3, s3) → ∃ p3, PRel s3 p3 ∧ p3.nx = 0 ∧ TK l rl rd t p s.i = TK l rl rd t3 p3 s3.i ∧ (∃ i0, takeS fov l i0 = .ok t3) ∧ s3.i ≤ l.length) := by
 have e1 : tokenR rl rd t p = keyedR t p := by
  unfold tokenR
  rw [if_neg (fun h => by have := h.1.2.1; omega), if_neg (fun h => by omega), if_neg (fun h => by omega), if_pos ⟨hnx, hk⟩]
 have hl2 := hR.last2
 by_cases hd : inK (txtB t) (lastS s).2.2 = true
 ·have e2 : TK l rl rd t p s.i = .error t.to := by unfold TK; rw [e1]; unfold keyedR; rw [hl2, if_pos hd]
  refine ⟨fun e he => ?_, fun t3 s3 he => ?_⟩
  ·unfold valueOfS at he
   rw [if_pos hd] at he
   injection he with he
   rw [e2, he]
  ·unfold valueOfS at he
   rw [if_pos hd] at he
   cases he
 ·obtain ⟨q4, hq4⟩ : ∃ q4 : PR, q4 = { p with hs := p.hs.dropLast ++ [((lastP p).1, (lastP p).2.1, (lastP p).2.2 ++ [txtB t])], nx := 4 } := ⟨_, rfl⟩
  have e2 : TK l rl rd t p s.i = RR l rl rd q4 s.i := by unfold TK; rw [e1]; unfold keyedR; rw [hl2, if_neg hd, hq4, hl2]
  have n4 : q4.nx = 4 := by rw [hq4]
  rw [RR_4 hi n4] at e2
  cases h1 : takeS sgD l s.i with
  | error e0 =>
   rw [h1] at e2
   refine ⟨fun e he => ?_, fun t3 s3 he => ?_⟩
   ·unfold valueOfS at he
    rw [if_neg hd, h1] at he
    injection he with he
    rw [e2, he]
   ·unfold valueOfS at he
    rw [if_neg hd, h1] at he
    cases he
  | ok t1 =>
   rw [h1] at e2
   have o1 := takeL_ok h1
   obtain ⟨n, hn, hm, hc⟩ := take_cls h1
   have n58 := (may_cls.2.2.2.2.1 n hn).1 hm
   have hc : t1.kind = 4 ∧ t1.text = [58] := by
    rcases hc with ⟨a, b, _⟩ | ⟨_, b, _⟩
    ·exact ⟨a, (b 58).2 n58⟩
    ·omega
   have e3 : tokenR rl rd t1 q4 = .ok { q4 with nx := 0 } := by
    unfold tokenR
    rw [if_neg (fun h => by omega), if_neg (fun h => by omega), if_pos ⟨n4, hc.1, hc.2⟩]
   simp only at e2
   rw [e3] at e2
   simp only at e2
   rw [RR_0 (p := { q4 with nx := 0 }) o1.2.1 rfl] at e2
   cases h2 : takeS fov l t1.to with
   | error e0 =>
    rw [h2] at e2
    refine ⟨fun e he => ?_, fun t3 s3 he => ?_⟩
    ·unfold valueOfS at he
     rw [if_neg hd, h1] at he
     simp only at he
     rw [h2] at he
     injection he with he
     rw [e2, he]
    ·unfold valueOfS at he
     rw [if_neg hd, h1] at he
     simp only at he
     rw [h2] at he
     cases he
   | ok t2 =>
    rw [h2] at e2
    have o2 := takeL_ok h2
    have hv : valueOfS l t s = .ok (t2, { addK (txtB t) s with i := t2.to }) := by
     unfold valueOfS
     rw [if_neg hd, h1]
     simp only
     rw [h2]
    refine ⟨fun e he => (by rw [hv] at he; cases he), fun t3 s3 he => ?_⟩
    rw [hv] at he
    injection he with he
    injection he with he1 he2
    subst he1 he2
    exact ⟨{ q4 with nx := 0 }, by rw [hq4]; exact hR.key _ _ _, rfl, e2, ⟨_, h2⟩, o2.2.1⟩
end Go.Proofs.YtjakgdaodlgeaaaGreatDoor
