/-
  The limits and the value of a number, as the document's reader takes them, are json's. Conditions: the limits are at most the greatest.
-/
import Derived.Test.YtjakgdaodlgeaaaGreatDoorJoined39
namespace Go.Proofs.YtjakgdaodlgeaaaGreatDoor
open Go.RowKit

def rlR (m : LM) (s : List UInt8) : Nat := match cutL s with
 | none => 0
 | some p => if m.dig < ((allOf p).length : Int) then 3 else if (vD p).ex < -m.exp ∨ m.exp < (vD p).ex then 4 else 0
def rdR (s : List UInt8) : JV := numJ (parseL s).2
theorem tw_app {W R : List UInt8} (h : W.all isD = true) (hr : ∀ c : UInt8, R.head? = some c → isD c = false) : tw (W ++ R) = W ∧ dw (W ++ R) = R := by
 unfold tw dw
 have h2 : ∀ x ∈ W, isD x = true := List.all_eq_true.1 h
 rw [List.takeWhile_append_of_pos h2, List.dropWhile_append_of_pos h2]
 cases R with
 | nil => simp
 | cons c R =>
  have := hr c rfl
  simp [this]
theorem da_dig {W : List UInt8} (h : W.all isD = true) (R : List UInt8) : daL (W ++ R) = W.length + daL R := by
 induction W with
 | nil => simp
 | cons c W ih =>
  rw [List.all_cons, Bool.and_eq_true] at h
  have hc := (isD_iff c).1 h.1
  have n1 : ¬ (c = 101 ∨ c = 69) := by
   rintro (e | e) <;> (rw [e] at hc; simp at hc)
  rw [List.cons_append, daL, if_neg n1, if_pos h.1, ih h.2, List.length_cons]
  omega
theorem NP.cut {s M W F E : List UInt8} (h : NP s M W F E) : ∃ p, cutL s = some p ∧ (allOf p).length = daL s := by
 obtain ⟨rfl, hm, ⟨w1, w2, w3⟩, hf, he⟩ := h
 have e1 : ∀ c : UInt8, E.head? = some c → isD c = false := fun c hc => by
  rcases he with rfl | ⟨c, G, D, rfl, hc2, _⟩
  ·cases hc
  ·obtain rfl := Option.some.inj hc
   rcases hc2 with rfl | rfl <;> rfl
 have f1 : ∀ c : UInt8, (F ++ E).head? = some c → isD c = false := fun c hc => by
  rcases hf with rfl | ⟨D, rfl, _⟩
  ·exact e1 c hc
  ·obtain rfl := Option.some.inj hc
   rfl
 obtain ⟨t1, t2⟩ := tw_app w1 f1
 obtain ⟨c0, W', hW⟩ : ∃ c W', W = c :: W' := by
  cases W with
  | nil => exact absurd rfl w2
  | cons c W => exact ⟨c, W, rfl⟩
 have hc0 : isD c0 = true := by rw [hW, List.all_cons, Bool.and_eq_true] at w1; exact w1.1
 have n45 : c0 ≠ 45 := fun e => by rw [e] at hc0; cases hc0
 have hmin : minusL (M ++ (W ++ (F ++ E))) = W ++ (F ++ E) := by
  unfold minusL
  rcases hm with rfl | rfl
  ·rw [if_neg]
   ·rfl
   ·rw [hW]; simpa using n45
  ·rw [if_pos (by rfl)]; rfl
 have hE : ∃ mi x, expL E = some (mi, x, []) := by
  unfold expL
  rcases he with rfl | ⟨c, G, D, rfl, hc, hG, hD, hD2⟩
  ·exact ⟨false, [], by rw [if_neg (by simp)]⟩
  ·rw [if_pos (by rcases hc with rfl | rfl <;> simp)]
   have hs : signL (G ++ D) = D := by
    unfold signL
    rcases hG with rfl | rfl | rfl
    ·rw [if_neg]
     ·rfl
     ·cases D with
      | nil => exact absurd rfl hD2
      | cons d D =>
       rw [List.all_cons, Bool.and_eq_true] at hD
       have := (isD_iff d).1 hD.1
       rintro (e | e) <;> (have e : d = _ := Option.some.inj e; rw [e] at this; simp at this)
    ·rw [if_pos (Or.inl (by rfl))]; rfl
    ·rw [if_pos (Or.inr (by rfl))]; rfl
   have ⟨a1, a2⟩ := tw_app (R := []) hD (fun c hc => by cases hc)
   rw [List.append_nil] at a1 a2
   refine ⟨decide ((G ++ D).head? = some 45), D, ?_⟩
   rw [List.tail_cons, hs, if_neg (by rw [a1]; exact hD2), a1, a2]
 obtain ⟨mi, x, hE⟩ := hE
 have dE : daL E = 0 := by
  rcases he with rfl | ⟨c, G, D, rfl, hc, _⟩
  ·rfl
  ·rw [daL, if_pos hc]
 have dM : daL (M ++ (W ++ (F ++ E))) = W.length + daL (F ++ E) := by
  rcases hm with rfl | rfl
  ·exact da_dig w1 _
  ·rw [List.singleton_append, daL, if_neg (by decide), if_neg (by decide)]
   exact da_dig w1 _
 have hF : ∃ f, fracL (F ++ E) = some (f, E) ∧ f.length = daL (F ++ E) := by
  unfold fracL
  rcases hf with rfl | ⟨D, rfl, hD, hD2⟩
  ·refine ⟨[], ?_, by rw [List.nil_append, dE]; rfl⟩
   rw [if_neg]
   ·rfl
   ·rcases he with rfl | ⟨c, G, D, rfl, hc, _⟩
    ·simp
    ·rcases hc with rfl | rfl <;> simp
  ·have ⟨a1, a2⟩ := tw_app hD e1
   refine ⟨D, ?_, ?_⟩
   ·rw [if_pos (by rfl), List.cons_append, List.tail_cons, if_neg (by rw [a1]; exact hD2), a1, a2]
   ·rw [List.cons_append, daL, if_neg (by decide), if_neg (by decide), da_dig hD, dE]; rfl
 obtain ⟨f, hF, hf2⟩ := hF
 refine ⟨⟨decide ((M ++ (W ++ (F ++ E))).head? = some 45), W, f, mi, x⟩, ?_, ?_⟩
 ·unfold cutL
  rw [hmin, t1, t2, if_neg]
  ·unfold behindL
   rw [hF]
   simp only [hE]
   rfl
  ·rintro (e | ⟨e, e2⟩)
   ·exact w2 e
   ·rcases w3 with rfl | w3
    ·simp at e
    ·exact w3 e2
 ·rw [dM]
  unfold allOf
  rw [List.length_append, hf2]
theorem numOK {l : List UInt8} {m : LM} (h1 : m.dig ≤ 65536) (h2 : m.exp ≤ 1000000) : NumOK l m (rlR m) rdR := by
 intro fs i t ht hk
 obtain ⟨p1, p2, p3, _⟩ := takeS_at ht
 have o1 := takeL_ok ht
 have hr : Lx.readL l (Lx.pass l Lx.blankB i) = .ok t := p3
 obtain ⟨_, _, hn, he⟩ := Lx.read_num p1 hr hk
 obtain ⟨M, W, F, E, hN⟩ := num_np hn o1.2.1
 have hx : t.text = Lx.sub l (Lx.pass l Lx.blankB i) t.to := by rw [he]
 rw [← hx] at hN
 obtain ⟨p, c1, c2⟩ := hN.cut
 have hp := pl_some c1
 unfold rlR rdR limL
 rw [c1]
 simp only
 rw [← c2]
 by_cases z1 : m.dig < ((allOf p).length : Int)
 ·rw [if_pos z1, if_pos z1]
  exact ⟨rfl, fun z => by cases z⟩
 ·rw [if_neg z1, if_neg z1]
  by_cases z2 : 65536 < (allOf p).length ∨ (vD p).ex < -1000000 ∨ 1000000 < (vD p).ex
  ·rw [hp, if_pos z2]
   have z3 : (vD p).ex < -m.exp ∨ m.exp < (vD p).ex := by omega
   rw [if_pos z3]
   simp
  ·rw [hp, if_neg z2]
   by_cases z3 : (vD p).ex < -m.exp ∨ m.exp < (vD p).ex
   ·rw [if_pos z3, if_pos (Or.inr z3)]
    exact ⟨rfl, fun z => by cases z⟩
   ·rw [if_neg z3, if_neg (by simp; omega)]
    exact ⟨rfl, fun _ => rfl⟩
end Go.Proofs.YtjakgdaodlgeaaaGreatDoor
