/-
  Going depth first, as mathematics: what is left, in which order; what is told where one comes back to the path. No condition.
-/
import Derived.Test.YtnlgeiofkfkhbaaProg
namespace Go.Proofs.Ytnlgeiofkfkhbaa.Lg
/-- One comes from one number to another one by edges, perhaps by none. -/
inductive Rch (R : Nat → List Nat) : Nat → Nat → Prop
 | refl (a : Nat) : Rch R a a
 | step {a b c : Nat} (h : b ∈ R a) (t : Rch R b c) : Rch R a c
theorem Rch.trans {R : Nat → List Nat} {a b c : Nat} (h : Rch R a b) (t : Rch R b c) : Rch R a c := by
 induction h with
 | refl => exact t
 | step h _ ih => exact .step h (ih t)
theorem Rch.one {R : Nat → List Nat} {a b : Nat} (h : b ∈ R a) : Rch R a b := .step h (.refl b)
/-- Each leads to the next one. -/
def Ch (R : Nat → List Nat) : List Nat → Prop
 | [] => True
 | [_] => True
 | a :: b :: l => b ∈ R a ∧ Ch R (b :: l)
theorem Ch.tail {R : Nat → List Nat} {a : Nat} {l : List Nat} (h : Ch R (a :: l)) : Ch R l := by
 cases l with
 | nil => trivial
 | cons b l => exact h.2
theorem Ch.drop {R : Nat → List Nat} {l : List Nat} (h : Ch R l) (n : Nat) : Ch R (l.drop n) := by
 induction n generalizing l with
 | zero => exact h
 | succ n ih =>
  cases l with
  | nil => trivial
  | cons a l => exact ih h.tail
theorem Ch.snoc {R : Nat → List Nat} : ∀ {l : List Nat} {v t : Nat}, Ch R (l ++ [v]) → t ∈ R v → Ch R (l ++ [v] ++ [t])
 | [], _, _, _, ht => ⟨ht, trivial⟩
 | [_], _, _, h, ht => ⟨h.1, ht, trivial⟩
 | _ :: b :: l, _, _, h, ht => ⟨h.1, Ch.snoc (l := b :: l) h.2 ht⟩
theorem Ch.last {R : Nat → List Nat} : ∀ {l : List Nat} {v x : Nat}, Ch R (l ++ [v]) → x ∈ l ++ [v] → Rch R x v
 | [], v, x, _, hx => by
  simp at hx; subst hx; exact .refl _
 | [_], _, _, h, hx => by
  simp at hx
  rcases hx with rfl | rfl
  ·exact .one h.1
  ·exact .refl _
 | a :: b :: l, v, x, h, hx => by
  rcases List.mem_cons.1 hx with rfl | hx
  ·exact .step h.1 (Ch.last (l := b :: l) h.2 (by simp))
  ·exact Ch.last (l := b :: l) h.2 hx
/-- A cycle: each leads to the next one, the last one to the first. -/
def Cyc (R : Nat → List Nat) (c : List Nat) : Prop := ∃ l v t, c = l ++ [v] ∧ Ch R c ∧ c.head? = some t ∧ t ∈ R v

def go (stop : Bool) (rec : List Nat → List Nat → Nat → Except (List Nat) (List Nat)) (path : List Nat) (v : Nat) : List Nat → List Nat → Except (List Nat) (List Nat)
 | [], fin => .ok (fin ++ [v])
 | t :: ts, fin =>
  if t ∈ path ++ [v] then (if stop then .error ((path ++ [v]).drop ((path ++ [v]).idxOf t)) else go stop rec path v ts fin)
  else if t ∈ fin then go stop rec path v ts fin
  else match rec fin (path ++ [v]) t with
   | .error c => .error c
   | .ok fin' => go stop rec path v ts fin'
def visit (R : Nat → List Nat) (stop : Bool) : Nat → List Nat → List Nat → Nat → Except (List Nat) (List Nat)
 | 0, _, _, _ => .error []
 | f + 1, fin, path, v => go stop (visit R stop f) path v (R v) fin
/-- What stands ahead of a call. -/
structure Pre (R : Nat → List Nat) (m : Nat) (fin path : List Nat) (v : Nat) : Prop where
 ch : Ch R (path ++ [v])
 nd : (path ++ [v]).Nodup
 fnd : fin.Nodup
 dis : ∀ x ∈ fin, x ∉ path ++ [v]
 cl : ∀ a ∈ fin, ∀ y ∈ R a, y ∈ fin ∨ y ∈ path ++ [v]
 lt : ∀ x ∈ path ++ [v], x < m
 flt : ∀ x ∈ fin, x < m
/-- What stands behind it. -/
structure Post (R : Nat → List Nat) (m : Nat) (stop : Bool) (fin path : List Nat) (v : Nat) (fin' : List Nat) : Prop where
 ex : ∃ D, fin' = fin ++ D ∧ ∀ x ∈ D, Rch R v x
 fnd : fin'.Nodup
 dis : ∀ x ∈ fin', x ∉ path
 cl : ∀ a ∈ fin', ∀ y ∈ R a, y ∈ fin' ∨ y ∈ path
 flt : ∀ x ∈ fin', x < m
 mem : v ∈ fin'
 q : ∀ A u B, fin' = A ++ u :: B → fin.length ≤ A.length → ∀ a ∈ A ++ [u], ∀ y ∈ R a, y ∈ A ++ [u] ∨ Rch R y u
 s : stop = true → ∀ A u B, fin' = A ++ u :: B → fin.length ≤ A.length → ∀ y ∈ R u, y ∈ A
/-- .. within a call's loop: v is not left yet. -/
structure Mid (R : Nat → List Nat) (m : Nat) (stop : Bool) (fin0 fin path : List Nat) (v : Nat) (ts : List Nat) : Prop where
 pre : Pre R m fin path v
 ex : ∃ D, fin = fin0 ++ D ∧ ∀ x ∈ D, Rch R v x
 q : ∀ A u B, fin = A ++ u :: B → fin0.length ≤ A.length → ∀ a ∈ A ++ [u], ∀ y ∈ R a, y ∈ A ++ [u] ∨ Rch R y u
 s : stop = true → ∀ A u B, fin = A ++ u :: B → fin0.length ≤ A.length → ∀ y ∈ R u, y ∈ A
 done : ∀ y ∈ R v, y ∈ fin ∨ (y ∈ path ++ [v] ∧ stop = false) ∨ y ∈ ts
theorem split_snoc {fin A B : List Nat} {u v : Nat} (h : fin ++ [v] = A ++ u :: B) : (B = [] ∧ A = fin ∧ u = v) ∨ ∃ B', B = B' ++ [v] ∧ fin = A ++ u :: B' := by
 rcases List.eq_nil_or_concat B with rfl | ⟨B', b, rfl⟩
 ·have := List.append_inj' (h : fin ++ [v] = A ++ [u]) rfl
  obtain ⟨h1, h2⟩ := this
  simp at h2
  exact .inl ⟨rfl, h1.symm, h2.symm⟩
 ·right
  rw [List.concat_eq_append] at h ⊢
  have : fin ++ [v] = (A ++ u :: B') ++ [b] := by rw [h]; simp
  obtain ⟨h1, h2⟩ := List.append_inj' this rfl
  simp at h2
  exact ⟨B', by rw [h2], h1⟩
theorem Mid.fin {R : Nat → List Nat} {m : Nat} {stop : Bool} {fin0 fin path : List Nat} {v : Nat} (h : Mid R m stop fin0 fin path v []) : Post R m stop fin0 path v (fin ++ [v]) := by
 have hp := h.pre
 have hvf : v ∉ fin := fun e => hp.dis v e (by simp)
 have hvp : v ∉ path := by
  have := hp.nd
  rw [List.nodup_append] at this
  exact fun e => this.2.2 v e v (by simp) rfl
 have hcl : ∀ a ∈ fin ++ [v], ∀ y ∈ R a, y ∈ fin ++ [v] ∨ y ∈ path := by
  intro a ha y hy
  rcases List.mem_append.1 ha with ha | ha
  ·rcases hp.cl a ha y hy with e | e
   ·exact .inl (by simp [e])
   ·rcases List.mem_append.1 e with e | e
    ·exact .inr e
    ·exact .inl (by simp at e; simp [e])
  ·have ha : a = v := by simpa using ha
   subst ha
   rcases h.done y hy with e | ⟨e, _⟩ | e
   ·exact .inl (by simp [e])
   ·rcases List.mem_append.1 e with e | e
    ·exact .inr e
    ·exact .inl (by simp at e; simp [e])
   ·simp at e
 refine ⟨?_, ?_, ?_, hcl, ?_, by simp, ?_, ?_⟩
 ·obtain ⟨D, rfl, hD⟩ := h.ex
  refine ⟨D ++ [v], by simp, fun x hx => ?_⟩
  rcases List.mem_append.1 hx with hx | hx
  ·exact hD x hx
  ·have : x = v := by simpa using hx
   subst this; exact .refl _
 ·rw [List.nodup_append]
  exact ⟨hp.fnd, by simp, fun a ha b hb e => by
   have : b = v := by simpa using hb
   subst this e; exact hvf ha⟩
 ·intro x hx
  rcases List.mem_append.1 hx with hx | hx
  ·exact fun e => hp.dis x hx (by simp [e])
  ·have : x = v := by simpa using hx
   subst this; exact hvp
 ·intro x hx
  rcases List.mem_append.1 hx with hx | hx
  ·exact hp.flt x hx
  ·exact hp.lt x (by simp at hx; simp [hx])
 ·intro A u B e hl
  rcases split_snoc e with ⟨rfl, rfl, rfl⟩ | ⟨B', rfl, e2⟩
  ·intro a ha y hy
   rcases hcl a ha y hy with e | e
   ·exact .inl e
   ·exact .inr (hp.ch.last (by simp [e]))
  ·exact h.q A u B' e2 hl
 ·intro hs A u B e hl
  rcases split_snoc e with ⟨rfl, rfl, rfl⟩ | ⟨B', rfl, e2⟩
  ·intro y hy
   rcases h.done y hy with e | ⟨_, e⟩ | e
   ·exact e
   ·rw [hs] at e; cases e
   ·simp at e
  ·exact h.s hs A u B' e2 hl
theorem nodup_len : ∀ (m : Nat) (l : List Nat), l.Nodup → (∀ x ∈ l, x < m) → l.length ≤ m
 | 0, l, _, h => by
  cases l with
  | nil => simp
  | cons a l => exact absurd (h a (by simp)) (by omega)
 | m + 1, l, hn, h => by
  have h1 := nodup_len m (l.erase m) (hn.erase m) (fun x hx => by
   have h2 := h x (List.mem_of_mem_erase hx)
   have h3 : x ≠ m := fun e => by
    subst e
    exact (List.Nodup.not_mem_erase hn) hx
   omega)
  by_cases hm : m ∈ l
  ·rw [List.length_erase_of_mem hm] at h1; omega
  ·rw [List.erase_of_not_mem hm] at h1; omega
/-- A call: what it answers. -/
def Says (R : Nat → List Nat) (m : Nat) (stop : Bool) (fin path : List Nat) (v : Nat) (r : Except (List Nat) (List Nat)) : Prop :=
 match r with
 | .ok fin' => Post R m stop fin path v fin'
 | .error c => stop = true ∧ Cyc R c
theorem go_says {R : Nat → List Nat} {m : Nat} {stop : Bool} (hR : ∀ v, ∀ t ∈ R v, t < m) {rec : List Nat → List Nat → Nat → Except (List Nat) (List Nat)} {path : List Nat} {v : Nat} (fin0 : List Nat)
  (hrec : ∀ fin t, Pre R m fin (path ++ [v]) t → Says R m stop fin (path ++ [v]) t (rec fin (path ++ [v]) t)) :
  ∀ (ts fin : List Nat), (∀ t ∈ ts, t ∈ R v) → Mid R m stop fin0 fin path v ts → Says R m stop fin0 path v (go stop rec path v ts fin)
 | [], fin, _, h => h.fin
 | t :: ts, fin, hts, h => by
  have hp := h.pre
  have ht : t ∈ R v := hts t (by simp)
  have hts' : ∀ t ∈ ts, t ∈ R v := fun x hx => hts x (by simp [hx])
  unfold go
  by_cases h1 : t ∈ path ++ [v]
  ·rw [if_pos h1]
   cases hst : stop with
   | true =>
    subst hst
    rw [if_pos rfl]
    refine ⟨rfl, ?_⟩
    have hi : (path ++ [v]).idxOf t < (path ++ [v]).length := List.idxOf_lt_length_of_mem h1
    generalize hk : (path ++ [v]).idxOf t = k at *
    have hkl : k ≤ path.length := by simp at hi; omega
    refine ⟨path.drop k, v, t, ?_, hp.ch.drop k, ?_, ht⟩
    ·rw [List.drop_append_of_le_length hkl]
    ·rw [List.head?_drop, List.getElem?_eq_getElem hi]
     congr 1
     subst hk
     exact List.getElem_idxOf hi
   | false =>
    subst hst
    rw [if_neg (by simp)]
    exact go_says hR fin0 hrec ts fin hts' ⟨h.pre, h.ex, h.q, h.s, fun y hy => by
     rcases h.done y hy with e | e | e
     ·exact .inl e
     ·exact .inr (.inl e)
     ·rcases List.mem_cons.1 e with rfl | e
      ·exact .inr (.inl ⟨h1, rfl⟩)
      ·exact .inr (.inr e)⟩
  ·rw [if_neg h1]
   by_cases h2 : t ∈ fin
   ·rw [if_pos h2]
    exact go_says hR fin0 hrec ts fin hts' ⟨h.pre, h.ex, h.q, h.s, fun y hy => by
     rcases h.done y hy with e | e | e
     ·exact .inl e
     ·exact .inr (.inl e)
     ·rcases List.mem_cons.1 e with rfl | e
      ·exact .inl h2
      ·exact .inr (.inr e)⟩
   ·rw [if_neg h2]
    have hpre : Pre R m fin (path ++ [v]) t := by
     refine ⟨hp.ch.snoc ht, ?_, hp.fnd, fun x hx e => ?_, fun a ha y hy => ?_, fun x hx => ?_, hp.flt⟩
     ·rw [List.nodup_append]
      exact ⟨hp.nd, by simp, fun a ha b hb e => by
       have : b = t := by simpa using hb
       subst this e; exact h1 ha⟩
     ·rcases List.mem_append.1 e with e | e
      ·exact hp.dis x hx e
      ·have : x = t := by simpa using e
       subst this; exact h2 hx
     ·rcases hp.cl a ha y hy with e | e
      ·exact .inl e
      ·exact .inr (List.mem_append_left _ e)
     ·rcases List.mem_append.1 hx with e | e
      ·exact hp.lt x e
      ·have : x = t := by simpa using e
       subst this; exact hR v _ ht
    have hs := hrec fin t hpre
    generalize rec fin (path ++ [v]) t = r at hs
    cases r with
    | error c => exact hs
    | ok fin' =>
     have hs : Post R m stop fin (path ++ [v]) t fin' := hs
     obtain ⟨D, rfl, hD⟩ := hs.ex
     obtain ⟨D0, rfl, hD0⟩ := h.ex
     refine go_says hR fin0 hrec ts _ hts' ⟨⟨hp.ch, hp.nd, hs.fnd, hs.dis, hs.cl, hp.lt, hs.flt⟩, ⟨D0 ++ D, by simp, fun x hx => ?_⟩, fun A u B e hl => ?_, fun hst A u B e hl => ?_, fun y hy => ?_⟩
     ·rcases List.mem_append.1 hx with hx | hx
      ·exact hD0 x hx
      ·exact .step ht (hD x hx)
     ·by_cases hlen : (fin0 ++ D0).length ≤ A.length
      ·exact hs.q A u B e hlen
      ·have e' : (fin0 ++ D0) ++ D = (A ++ [u]) ++ B := by rw [e]; simp
       obtain ⟨C, hC⟩ : ∃ C, fin0 ++ D0 = (A ++ [u]) ++ C := by
        have := List.append_eq_append_iff.1 e'
        rcases this with ⟨C, h3, h4⟩ | ⟨C, h3, h4⟩
        ·have h5 := congrArg List.length h3
         simp at h5
         have : C = [] := List.eq_nil_of_length_eq_zero (by simp at hlen; omega)
         exact ⟨[], by rw [h3, this]; simp⟩
        ·exact ⟨C, h3⟩
       exact h.q A u C (by rw [hC]; simp) hl
     ·by_cases hlen : (fin0 ++ D0).length ≤ A.length
      ·exact hs.s hst A u B e hlen
      ·have e' : (fin0 ++ D0) ++ D = (A ++ [u]) ++ B := by rw [e]; simp
       obtain ⟨C, hC⟩ : ∃ C, fin0 ++ D0 = (A ++ [u]) ++ C := by
        have := List.append_eq_append_iff.1 e'
        rcases this with ⟨C, h3, h4⟩ | ⟨C, h3, h4⟩
        ·have h5 := congrArg List.length h3
         simp at h5
         have : C = [] := List.eq_nil_of_length_eq_zero (by simp at hlen; omega)
         exact ⟨[], by rw [h3, this]; simp⟩
        ·exact ⟨C, h3⟩
       exact h.s hst A u C (by rw [hC]; simp) hl
     ·rcases h.done y hy with e | e | e
      ·exact .inl (List.mem_append_left _ e)
      ·exact .inr (.inl e)
      ·rcases List.mem_cons.1 e with rfl | e
       ·exact .inl hs.mem
       ·exact .inr (.inr e)
theorem visit_says {R : Nat → List Nat} {m : Nat} {stop : Bool} (hR : ∀ v, ∀ t ∈ R v, t < m) : ∀ (f : Nat) (fin path : List Nat) (v : Nat), Pre R m fin path v → m + 1 ≤ f + (path ++ [v]).length → Says R m stop fin path v (visit R stop f fin path v)
 | 0, fin, path, v, h, hf => by
  have := nodup_len m _ h.nd h.lt
  omega
 | f + 1, fin, path, v, h, hf => by
  unfold visit
  refine go_says hR fin (fun fin2 t h2 => visit_says hR f fin2 _ t h2 (by simp at hf ⊢; omega)) (R v) fin (fun _ h => h) ⟨h, ⟨[], by simp, fun x hx => by simp at hx⟩, fun A u B e hl => ?_, fun _ A u B e hl => ?_, fun y hy => .inr (.inr hy)⟩
  ·have := congrArg List.length e
   simp at this; omega
  ·have := congrArg List.length e
   simp at this; omega
end Go.Proofs.Ytnlgeiofkfkhbaa.Lg
