/-
  Going depth first, step by step: what stands between two steps of a call's loop. No condition.
-/
import Derived.Test.YtnlgeiofkfkhbaaJoined10
namespace Go.Proofs.Ytnlgeiofkfkhbaa.Lg
theorem Mid.start {R : Nat → List Nat} {m : Nat} {stop : Bool} {fin path : List Nat} {v : Nat} (h : Pre R m fin path v) : Mid R m stop fin fin path v (R v) :=
 ⟨h, ⟨[], by simp, fun x hx => by simp at hx⟩, fun A u B e hl => by have := congrArg List.length e; simp at this; omega, fun _ A u B e hl => by have := congrArg List.length e; simp at this; omega, fun y hy => .inr (.inr hy)⟩
/-- The next one stands on the path. -/
theorem Mid.onPath {R : Nat → List Nat} {m : Nat} {fin0 fin path : List Nat} {v t : Nat} {ts : List Nat} (h : Mid R m false fin0 fin path v (t :: ts)) (h1 : t ∈ path ++ [v]) : Mid R m false fin0 fin path v ts :=
 ⟨h.pre, h.ex, h.q, h.s, fun y hy => by
  rcases h.done y hy with e | e | e
  ·exact .inl e
  ·exact .inr (.inl e)
  ·rcases List.mem_cons.1 e with rfl | e
   ·exact .inr (.inl ⟨h1, rfl⟩)
   ·exact .inr (.inr e)⟩
/-- .. has been left. -/
theorem Mid.isLeft {R : Nat → List Nat} {m : Nat} {stop : Bool} {fin0 fin path : List Nat} {v t : Nat} {ts : List Nat} (h : Mid R m stop fin0 fin path v (t :: ts)) (h2 : t ∈ fin) : Mid R m stop fin0 fin path v ts :=
 ⟨h.pre, h.ex, h.q, h.s, fun y hy => by
  rcases h.done y hy with e | e | e
  ·exact .inl e
  ·exact .inr (.inl e)
  ·rcases List.mem_cons.1 e with rfl | e
   ·exact .inl h2
   ·exact .inr (.inr e)⟩
/-- .. is new. -/
theorem Mid.enter {R : Nat → List Nat} {m : Nat} {stop : Bool} (hR : ∀ v, ∀ t ∈ R v, t < m) {fin0 fin path : List Nat} {v t : Nat} {ts : List Nat} (h : Mid R m stop fin0 fin path v (t :: ts)) (ht : t ∈ R v) (h1 : t ∉ path ++ [v]) (h2 : t ∉ fin) : Pre R m fin (path ++ [v]) t := by
 have hp := h.pre
 refine ⟨hp.ch.snoc ht, ?_, hp.fnd, fun x hx e => ?_, fun a ha y hy => ?_, fun x hx => ?_, hp.flt⟩
 ·rw [List.nodup_append]
  exact ⟨hp.nd, by simp, fun a ha b hb e => by
   have : b = t := by simpa using hb
   subst this e; exact h1 ha⟩
 ·rcases List.mem_append.1 e with e | e
  ·exact hp.dis x hx e
  ·have : x = t := by simpa using e
   subst this; exact h2 hx
 ·rcases hp.cl a ha y hy with e | e
  ·exact .inl e
  ·exact .inr (List.mem_append_left _ e)
 ·rcases List.mem_append.1 hx with e | e
  ·exact hp.lt x e
  ·have : x = t := by simpa using e
   subst this; exact hR v _ ht
/-- .. and behind its call. -/
theorem Mid.back {R : Nat → List Nat} {m : Nat} {stop : Bool} {fin0 fin fin' path : List Nat} {v t : Nat} {ts : List Nat} (h : Mid R m stop fin0 fin path v (t :: ts)) (ht : t ∈ R v) (hs : Post R m stop fin (path ++ [v]) t fin') : Mid R m stop fin0 fin' path v ts := by
 have hp := h.pre
 obtain ⟨D, rfl, hD⟩ := hs.ex
 obtain ⟨D0, rfl, hD0⟩ := h.ex
 refine ⟨⟨hp.ch, hp.nd, hs.fnd, hs.dis, hs.cl, hp.lt, hs.flt⟩, ⟨D0 ++ D, by simp, fun x hx => ?_⟩, fun A u B e hl => ?_, fun hst A u B e hl => ?_, fun y hy => ?_⟩
 ·rcases List.mem_append.1 hx with hx | hx
  ·exact hD0 x hx
  ·exact .step ht (hD x hx)
 ·by_cases hlen : (fin0 ++ D0).length ≤ A.length
  ·exact hs.q A u B e hlen
  ·have e' : (fin0 ++ D0) ++ D = (A ++ [u]) ++ B := by rw [e]; simp
   obtain ⟨C, hC⟩ : ∃ C, fin0 ++ D0 = (A ++ [u]) ++ C := by
    have := List.append_eq_append_iff.1 e'
    rcases this with ⟨C, h3, h4⟩ | ⟨C, h3, h4⟩
    ·have h5 := congrArg List.length h3
     simp at h5
     have : C = [] := List.eq_nil_of_length_eq_zero (by simp at hlen; omega)
     exact ⟨[], by rw [h3, this]; simp⟩
    ·exact ⟨C, h3⟩
   exact h.q A u C (by rw [hC]; simp) hl
 ·by_cases hlen : (fin0 ++ D0).length ≤ A.length
  ·exact hs.s hst A u B e hlen
  ·have e' : (fin0 ++ D0) ++ D = (A ++ [u]) ++ B := by rw [e]; simp
   obtain ⟨C, hC⟩ : ∃ C, fin0 ++ D0 = (A ++ [u]) ++ C := by
    have := List.append_eq_append_iff.1 e'
    rcases this with ⟨C, h3, h4⟩ | ⟨C, h3, h4⟩
    ·have h5 := congrArg List.length h3
     simp at h5
     have : C = [] := List.eq_nil_of_length_eq_zero (by simp at hlen; omega)
     exact ⟨[], by rw [h3, this]; simp⟩
    ·exact ⟨C, h3⟩
   exact h.s hst A u C (by rw [hC]; simp) hl
 ·rcases h.done y hy with e | e | e
  ·exact .inl (List.mem_append_left _ e)
  ·exact .inr (.inl e)
  ·rcases List.mem_cons.1 e with rfl | e
   ·exact .inl hs.mem
   ·exact .inr (.inr e)
theorem Pre.len {R : Nat → List Nat} {m : Nat} {fin path : List Nat} {v : Nat} (h : Pre R m fin path v) : (path ++ [v]).length + fin.length ≤ m := by
 have := nodup_len m (path ++ [v] ++ fin) (by
  rw [List.nodup_append]
  exact ⟨h.nd, h.fnd, fun a ha b hb e => by subst e; exact h.dis a hb ha⟩) (fun x hx => by
  rcases List.mem_append.1 hx with e | e
  ·exact h.lt x e
  ·exact h.flt x e)
 simp only [List.length_append] at this ⊢
 exact this
/-- The rows' steps. -/
theorem go_nil {stop : Bool} {rec : List Nat → List Nat → Nat → Except (List Nat) (List Nat)} {path fin : List Nat} {v : Nat} : go stop rec path v [] fin = .ok (fin ++ [v]) := by unfold go; rfl
theorem go_path {stop : Bool} {rec : List Nat → List Nat → Nat → Except (List Nat) (List Nat)} {path ts fin : List Nat} {v t : Nat} (h : t ∈ path ++ [v]) : go stop rec path v (t :: ts) fin = (if stop then .error ((path ++ [v]).drop ((path ++ [v]).idxOf t)) else go stop rec path v ts fin) := by
 rw [go, if_pos h]
theorem go_left {stop : Bool} {rec : List Nat → List Nat → Nat → Except (List Nat) (List Nat)} {path ts fin : List Nat} {v t : Nat} (h : t ∉ path ++ [v]) (h2 : t ∈ fin) : go stop rec path v (t :: ts) fin = go stop rec path v ts fin := by
 rw [go, if_neg h, if_pos h2]
theorem go_new {stop : Bool} {rec : List Nat → List Nat → Nat → Except (List Nat) (List Nat)} {path ts fin : List Nat} {v t : Nat} (h : t ∉ path ++ [v]) (h2 : t ∉ fin) : go stop rec path v (t :: ts) fin = (match rec fin (path ++ [v]) t with | .error c => .error c | .ok fin' => go stop rec path v ts fin') := by
 rw [go, if_neg h, if_neg h2]
 cases rec fin (path ++ [v]) t <;> rfl
theorem drop_at {l : List Nat} {k : Nat} (h : k < l.length) : l.drop k = l[k] :: l.drop (k + 1) := (List.getElem_cons_drop h).symm
end Go.Proofs.Ytnlgeiofkfkhbaa.Lg
