/-
  What ref3.Parse answers: the number that a text is, or which error. Conditions: at most 2^47 bytes.
  The limits and the value of a number, as the document's reader takes them, are json's. Conditions: the limits are at most the greatest.
  ref5.bound, ref5.Bound. Conditions: none.
  ref5.first: where the next token begins. Conditions: the bytes lie in memory; the place lies within them.
-/
import Derived.Test.YtfoehebnmommfaaGreatDoorJoined33
import Derived.Test.YtfoehebnmommfaaGreatDoorJoined16
import Derived.Test.YtfoehebnmommfaaGreatDoorJoined32
import Derived.Test.YtfoehebnmommfaaGreatDoorJoined28
import Derived.Deep.RegionHeld3
import Derived.Deep.DeepCutAuto
import Derived.Deep.LoopGhost
import Derived.Deep.CutBlock
namespace Go.Proofs.YtfoehebnmommfaaGreatDoor
open Go.RowKit
attribute [local go_sem] setCell_drewN alloc_drewN

theorem wholeL_some {x : Option (P3 × List UInt8)} {p : P3} (h : wholeL x = some p) : x = some (p, []) := by
 match x, h with
 | some (q, r), h =>
  simp only [wholeL] at h
  split at h
  ·rename_i e
   rw [← Option.some.inj h, e]
  ·cases h
theorem twdw_len (l : List UInt8) : (tw l).length + (dw l).length = l.length := by
 rw [← List.length_append]
 unfold tw dw
 rw [List.takeWhile_append_dropWhile]
theorem cut_len {l : List UInt8} {p : P3} (h : cutL l = some p) : p.int.length + p.frac.length ≤ l.length ∧ p.exp.length ≤ l.length := by
 unfold cutL at h
 split at h
 ·cases h
 ·have e := behindL_len (wholeL_some h)
  have t := twdw_len (minusL l)
  have m : (minusL l).length ≤ l.length := by
   unfold minusL
   split
   ·simp
   ·exact Nat.le_refl _
  rw [e.1]
  omega
theorem pl_none {l : List UInt8} (h : cutL l = none) : parseL l = (30, zeroD) := by
 unfold parseL; rw [h]
theorem pl_some {l : List UInt8} {p : P3} (h : cutL l = some p) : parseL l = if 65536 < (allOf p).length ∨ (vD p).ex < -1000000 ∨ 1000000 < (vD p).ex then (31, zeroD) else (0, vD p) := by
 unfold parseL
 rw [h]
 simp only
 rw [← value_cap 99999999 (by decide) p]
 unfold valueL vD
 by_cases h1 : 65536 < (allOf p).length
 ·rw [if_pos h1, if_pos (.inl h1)]
 ·rw [if_neg h1]
  by_cases h2 : dgOf p = []
  ·rw [if_pos h2, if_pos h2, if_neg]
   rintro (q | q | q)
   ·exact h1 q
   ·exact absurd q (by decide)
   ·exact absurd q (by decide)
  ·rw [if_neg h2, if_neg h2]
   by_cases h3 : exOf 99999999 p < -1000000 ∨ 1000000 < exOf 99999999 p
   ·rw [if_pos h3, if_pos (.inr h3)]
   ·rw [if_neg h3, if_neg]
    rintro (q | q)
    ·exact h1 q
    ·exact h3 q
theorem cap_bd (p : P3) (hd : p.exp.all isD = true) : -99999999 ≤ expOf 99999999 p ∧ expOf 99999999 p ≤ 99999999 := by
 have := num_nonneg hd
 unfold expOf
 split <;> omega
set_option maxRecDepth 100000 in
set_option maxHeartbeats 1600000 in
theorem rparse_any (s : ByteArray) (w : World) (hs : s.size ≤ 140737488355328) :
  Calls Tryz.prog 64 #[.string s] w fun r w' => r = .returned (.tuple #[d3 (parseL s.data.toList).2, .int .i64 (parseL s.data.toList).1]) ∧ Below w.heap.size w w' := by
 have h1 := fun w => rcut_any s w hs
 obtain ⟨V, hV⟩ : ∃ V : Int × D3, parseL s.data.toList = V := ⟨_, rfl⟩
 rw [hV]
 have HV : Hid (parseL s.data.toList = V) := hV
 clear hV
 go_enter Tryz.func64, Tryz.ntmps64
 go_wp2_with fail
 refine (h1 _).mono ?_
 rintro r w1 ⟨n, a, b, m, x, ok, rfl, hOK, hb1⟩
 obtain ⟨k1, z1⟩ : (∀ o, w1.cell? ⟨w.heap.size, o, none⟩ = #[Value.bool false, .string ⟨#[]⟩, .int .i64 0][o]?) ∧ w.heap.size < w1.heap.size := by
  refine ⟨fun o => ?_, ?_⟩
  ·rw [hb1.cell (p := ⟨w.heap.size, o, none⟩) (by simp)]
   rw [World.cell?_alloc_at _ _ _ _ rfl]
  ·have := hb1.size; simp at this; omega
 have f1 : ∀ o, w1.frozen? ⟨w.heap.size, o, none⟩ = false := fun o => by
  rw [hb1.frozen (p := ⟨w.heap.size, o, none⟩) (by simp)]
  simp [go_sem]
 rcases hOK with ⟨hn, rfl⟩ | ⟨p, hp, rfl, rfl, rfl, rfl, rfl, rfl⟩
 ·have hP := HV.out
  rw [pl_none hn] at hP
  subst hP
  clear hn HV h1
  go_wp2
  refine bodyPost_ret (v := .tuple #[.agg #[.bool false, .string ⟨#[]⟩, .int .i64 0], .int .i64 30]) ?_ rfl ?_
  ·simp [results, Tryz.results64, go_sem, k1, z1]
  ·exact ⟨rfl, (by with_reducible repeat (first | exact Below.refl _ _ | refine bl_t ?_ hb1 | refine bl_d ?_ | refine bl_a ?_ _ | refine bl_s ?_ (by first | exact Nat.le_refl _ | omega) _))⟩
 ·have hl := cut_len hp
  rw [len_of] at hl
  have hpd := cutL_pd hp
  have hall : (allOf p).length = (bs p.int).size + (bs p.frac).size := by unfold allOf; rw [List.length_append, bs_size, bs_size]
  have hall2 : (allOf p).length ≤ 140737488355328 := by rw [hall, bs_size, bs_size]; omega
  have h2 := fun w => rvalue_any p w hall2 hpd.2.2 (by unfold maxLen; omega)
  have hP := HV.out
  rw [pl_some hp, hall] at hP
  rw [hall] at hall2
  have hcd := cap_bd p hpd.2.2
  have hexb : -200000000000000 ≤ (vD p).ex ∧ (vD p).ex ≤ 200000000000000 := by
   unfold vD
   split
   ·exact ⟨by decide, by decide⟩
   ·show _ ≤ exOf 99999999 p ∧ exOf 99999999 p ≤ _
    unfold exOf
    have t1 : (upOf p).length ≤ (allOf p).length := trimRight_le _ _
    rw [hall] at t1
    have t2 : p.frac.length = (bs p.frac).size := (bs_size _).symm
    rw [hall]
    omega
  unfold pv d3 at h2
  have HP : Hid ((if 65536 < (bs p.int).size + (bs p.frac).size ∨ (vD p).ex < -1000000 ∨ 1000000 < (vD p).ex then (31, zeroD) else (0, vD p)) = V) := hP
  have sI : ((bs p.int).size : Int) + ((bs p.frac).size : Int) ≤ 140737488355328 := by omega
  clear hl hpd hall hall2 hP HV h1 hp hcd
  obtain ⟨D, hD⟩ : ∃ D, vD p = D := ⟨_, rfl⟩
  rw [hD] at h2 HP hexb
  clear hD
  generalize bs p.int = a at *
  generalize bs p.frac = b at *
  generalize bs p.exp = x at *
  obtain ⟨G, hG⟩ : ∃ G, bs D.dg = G := ⟨_, rfl⟩
  rw [hG] at h2
  have HG : Hid (d3 D = .agg #[.bool D.neg, .string G, .int .i64 D.ex]) := by show d3 D = _; rw [← hG]; rfl
  clear hG
  go_wp2_with fail
  refine (h2 _).mono ?_
  rintro r w2 ⟨rfl, hb2⟩
  have z2 : w.heap.size < w2.heap.size := by have := hb2.size; simp at this; omega
  have y2 : w1.heap.size < w2.heap.size := by have := hb2.size; simp at this; omega
  have k2 : ∀ o, w2.cell? ⟨w.heap.size, o, none⟩ = #[Value.bool false, .string ⟨#[]⟩, .int .i64 0][o]? := fun o => by
   rw [hb2.cell (p := ⟨w.heap.size, o, none⟩) (by simp; omega), World.cell?_alloc_lt _ _ ⟨w.heap.size, o, none⟩ z1]
   exact k1 o
  have f2 : ∀ o, w2.frozen? ⟨w.heap.size, o, none⟩ = false := fun o => by
   rw [hb2.frozen (p := ⟨w.heap.size, o, none⟩) (by simp; omega)]
   simp [go_sem, z1, f1]
  have j2 : ∀ o, w2.cell? ⟨w1.heap.size, o, none⟩ = #[Value.bool p.neg, .string a, .string b, .bool p.minus, .string x][o]? := fun o => by
   rw [hb2.cell (p := ⟨w1.heap.size, o, none⟩) (by simp)]
   rw [World.cell?_alloc_at _ _ _ _ rfl]
  clear k1 f1
  by_cases c1 : 65536 < a.size + b.size
  ·have hP := HP.out
   rw [if_pos (.inl c1)] at hP
   subst hP
   have c1I : (65536 : Int) < (a.size : Int) + (b.size : Int) := by omega
   clear HP c1
   go_wp2
   refine bodyPost_ret (v := .tuple #[.agg #[.bool false, .string ⟨#[]⟩, .int .i64 0], .int .i64 31]) ?_ rfl ?_
   ·simp [results, Tryz.results64, go_sem, k2, z2]
   ·exact ⟨rfl, (by with_reducible repeat (first | exact Below.refl _ _ | refine bl_t ?_ hb2 | refine bl_t ?_ hb1 | refine bl_d ?_ | refine bl_a ?_ _ | refine bl_s ?_ (by first | exact Nat.le_refl _ | omega) _))⟩
  ·have c1I : decide ((65536 : Int) < (a.size : Int) + (b.size : Int)) = false := decide_eq_false (by omega)
   by_cases c2 : D.ex < -1000000
   ·have hP := HP.out
    rw [if_pos (.inr (.inl c2))] at hP
    subst hP
    clear HP c1
    go_wp2
    refine bodyPost_ret (v := .tuple #[.agg #[.bool false, .string ⟨#[]⟩, .int .i64 0], .int .i64 31]) ?_ rfl ?_
    ·simp [results, Tryz.results64, go_sem, k2, z2]
    ·exact ⟨rfl, (by with_reducible repeat (first | exact Below.refl _ _ | refine bl_t ?_ hb2 | refine bl_t ?_ hb1 | refine bl_d ?_ | refine bl_a ?_ _ | refine bl_s ?_ (by first | exact Nat.le_refl _ | omega) _))⟩
   ·by_cases c3 : 1000000 < D.ex
    ·have hP := HP.out
     rw [if_pos (.inr (.inr c3))] at hP
     subst hP
     clear HP c1
     go_wp2
     refine bodyPost_ret (v := .tuple #[.agg #[.bool false, .string ⟨#[]⟩, .int .i64 0], .int .i64 31]) ?_ rfl ?_
     ·simp [results, Tryz.results64, go_sem, k2, z2]
     ·exact ⟨rfl, (by with_reducible repeat (first | exact Below.refl _ _ | refine bl_t ?_ hb2 | refine bl_t ?_ hb1 | refine bl_d ?_ | refine bl_a ?_ _ | refine bl_s ?_ (by first | exact Nat.le_refl _ | omega) _))⟩
    ·have hP := HP.out
     rw [if_neg (by rintro (q | q | q); exact c1 q; exact c2 q; exact c3 q)] at hP
     subst hP
     clear HP c1
     go_wp2
     refine bodyPost_ret (v := .tuple #[.agg #[.bool D.neg, .string G, .int .i64 D.ex], .int .i64 0]) ?_ rfl ?_
     ·simp [results, Tryz.results64, go_sem, k2, z2]
     ·exact ⟨(by show _ = Ending.returned (.tuple #[d3 D, .int .i64 0]); rw [HG.out]), (by with_reducible repeat (first | exact Below.refl _ _ | refine bl_t ?_ hb2 | refine bl_t ?_ hb1 | refine bl_d ?_ | refine bl_a ?_ _ | refine bl_s ?_ (by first | exact Nat.le_refl _ | omega) _))⟩
end Go.Proofs.YtfoehebnmommfaaGreatDoor

namespace Go.Proofs.YtfoehebnmommfaaGreatDoor
open Go.RowKit

def rlR (m : LM) (s : List UInt8) : Nat := match cutL s with
 | none => 0
 | some p => if m.dig < ((allOf p).length : Int) then 3 else if (vD p).ex < -m.exp ∨ m.exp < (vD p).ex then 4 else 0
def rdR (s : List UInt8) : JV := numJ (parseL s).2
theorem tw_app {W R : List UInt8} (h : W.all isD = true) (hr : ∀ c : UInt8, R.head? = some c → isD c = false) : tw (W ++ R) = W ∧ dw (W ++ R) = R := by
 unfold tw dw
 have h2 : ∀ x ∈ W, isD x = true := List.all_eq_true.1 h
 rw [List.takeWhile_append_of_pos h2, List.dropWhile_append_of_pos h2]
 cases R with
 | nil => simp
 | cons c R =>
  have := hr c rfl
  simp [this]
theorem da_dig {W : List UInt8} (h : W.all isD = true) (R : List UInt8) : daL (W ++ R) = W.length + daL R := by
 induction W with
 | nil => simp
 | cons c W ih =>
  rw [List.all_cons, Bool.and_eq_true] at h
  have hc := (isD_iff c).1 h.1
  have n1 : ¬ (c = 101 ∨ c = 69) := by
   rintro (e | e) <;> (rw [e] at hc; simp at hc)
  rw [List.cons_append, daL, if_neg n1, if_pos h.1, ih h.2, List.length_cons]
  omega
theorem NP.cut {s M W F E : List UInt8} (h : NP s M W F E) : ∃ p, cutL s = some p ∧ (allOf p).length = daL s := by
 obtain ⟨rfl, hm, ⟨w1, w2, w3⟩, hf, he⟩ := h
 have e1 : ∀ c : UInt8, E.head? = some c → isD c = false := fun c hc => by
  rcases he with rfl | ⟨c, G, D, rfl, hc2, _⟩
  ·cases hc
  ·obtain rfl := Option.some.inj hc
   rcases hc2 with rfl | rfl <;> rfl
 have f1 : ∀ c : UInt8, (F ++ E).head? = some c → isD c = false := fun c hc => by
  rcases hf with rfl | ⟨D, rfl, _⟩
  ·exact e1 c hc
  ·obtain rfl := Option.some.inj hc
   rfl
 obtain ⟨t1, t2⟩ := tw_app w1 f1
 obtain ⟨c0, W', hW⟩ : ∃ c W', W = c :: W' := by
  cases W with
  | nil => exact absurd rfl w2
  | cons c W => exact ⟨c, W, rfl⟩
 have hc0 : isD c0 = true := by rw [hW, List.all_cons, Bool.and_eq_true] at w1; exact w1.1
 have n45 : c0 ≠ 45 := fun e => by rw [e] at hc0; cases hc0
 have hmin : minusL (M ++ (W ++ (F ++ E))) = W ++ (F ++ E) := by
  unfold minusL
  rcases hm with rfl | rfl
  ·rw [if_neg]
   ·rfl
   ·rw [hW]; simpa using n45
  ·rw [if_pos (by rfl)]; rfl
 have hE : ∃ mi x, expL E = some (mi, x, []) := by
  unfold expL
  rcases he with rfl | ⟨c, G, D, rfl, hc, hG, hD, hD2⟩
  ·exact ⟨false, [], by rw [if_neg (by simp)]⟩
  ·rw [if_pos (by rcases hc with rfl | rfl <;> simp)]
   have hs : signL (G ++ D) = D := by
    unfold signL
    rcases hG with rfl | rfl | rfl
    ·rw [if_neg]
     ·rfl
     ·cases D with
      | nil => exact absurd rfl hD2
      | cons d D =>
       rw [List.all_cons, Bool.and_eq_true] at hD
       have := (isD_iff d).1 hD.1
       rintro (e | e) <;> (have e : d = _ := Option.some.inj e; rw [e] at this; simp at this)
    ·rw [if_pos (Or.inl (by rfl))]; rfl
    ·rw [if_pos (Or.inr (by rfl))]; rfl
   have ⟨a1, a2⟩ := tw_app (R := []) hD (fun c hc => by cases hc)
   rw [List.append_nil] at a1 a2
   refine ⟨decide ((G ++ D).head? = some 45), D, ?_⟩
   rw [List.tail_cons, hs, if_neg (by rw [a1]; exact hD2), a1, a2]
 obtain ⟨mi, x, hE⟩ := hE
 have dE : daL E = 0 := by
  rcases he with rfl | ⟨c, G, D, rfl, hc, _⟩
  ·rfl
  ·rw [daL, if_pos hc]
 have dM : daL (M ++ (W ++ (F ++ E))) = W.length + daL (F ++ E) := by
  rcases hm with rfl | rfl
  ·exact da_dig w1 _
  ·rw [List.singleton_append, daL, if_neg (by decide), if_neg (by decide)]
   exact da_dig w1 _
 have hF : ∃ f, fracL (F ++ E) = some (f, E) ∧ f.length = daL (F ++ E) := by
  unfold fracL
  rcases hf with rfl | ⟨D, rfl, hD, hD2⟩
  ·refine ⟨[], ?_, by rw [List.nil_append, dE]; rfl⟩
   rw [if_neg]
   ·rfl
   ·rcases he with rfl | ⟨c, G, D, rfl, hc, _⟩
    ·simp
    ·rcases hc with rfl | rfl <;> simp
  ·have ⟨a1, a2⟩ := tw_app hD e1
   refine ⟨D, ?_, ?_⟩
   ·rw [if_pos (by rfl), List.cons_append, List.tail_cons, if_neg (by rw [a1]; exact hD2), a1, a2]
   ·rw [List.cons_append, daL, if_neg (by decide), if_neg (by decide), da_dig hD, dE]; rfl
 obtain ⟨f, hF, hf2⟩ := hF
 refine ⟨⟨decide ((M ++ (W ++ (F ++ E))).head? = some 45), W, f, mi, x⟩, ?_, ?_⟩
 ·unfold cutL
  rw [hmin, t1, t2, if_neg]
  ·unfold behindL
   rw [hF]
   simp only [hE]
   rfl
  ·rintro (e | ⟨e, e2⟩)
   ·exact w2 e
   ·rcases w3 with rfl | w3
    ·simp at e
    ·exact w3 e2
 ·rw [dM]
  unfold allOf
  rw [List.length_append, hf2]
theorem numOK {l : List UInt8} {m : LM} (h1 : m.dig ≤ 65536) (h2 : m.exp ≤ 1000000) : NumOK l m (rlR m) rdR := by
 intro fs i t ht hk
 obtain ⟨p1, p2, p3, _⟩ := takeS_at ht
 have o1 := takeL_ok ht
 have hr : Lx.readL l (Lx.pass l Lx.blankB i) = .ok t := p3
 obtain ⟨_, _, hn, he⟩ := Lx.read_num p1 hr hk
 obtain ⟨M, W, F, E, hN⟩ := num_np hn o1.2.1
 have hx : t.text = Lx.sub l (Lx.pass l Lx.blankB i) t.to := by rw [he]
 rw [← hx] at hN
 obtain ⟨p, c1, c2⟩ := hN.cut
 have hp := pl_some c1
 unfold rlR rdR limL
 rw [c1]
 simp only
 rw [← c2]
 by_cases z1 : m.dig < ((allOf p).length : Int)
 ·rw [if_pos z1, if_pos z1]
  exact ⟨rfl, fun z => by cases z⟩
 ·rw [if_neg z1, if_neg z1]
  by_cases z2 : 65536 < (allOf p).length ∨ (vD p).ex < -1000000 ∨ 1000000 < (vD p).ex
  ·rw [hp, if_pos z2]
   have z3 : (vD p).ex < -m.exp ∨ m.exp < (vD p).ex := by omega
   rw [if_pos z3]
   simp
  ·rw [hp, if_neg z2]
   by_cases z3 : (vD p).ex < -m.exp ∨ m.exp < (vD p).ex
   ·rw [if_pos z3, if_pos (Or.inr z3)]
    exact ⟨rfl, fun z => by cases z⟩
   ·rw [if_neg z3, if_neg (by simp; omega)]
    exact ⟨rfl, fun _ => rfl⟩
end Go.Proofs.YtfoehebnmommfaaGreatDoor

namespace Go.Proofs.YtfoehebnmommfaaGreatDoor
open Go.RowKit Go.Maps

set_option maxRecDepth 100000 in
theorem rbound_any (a m : Int) (w : World) : Calls Tryz.prog 25 #[.int .i64 a, .int .i64 m] w fun r w' => r = .returned (.int .i64 (boundedL a m)) ∧ w' = w := by
 by_cases h0 : a < 1
 ·go_enter Tryz.func25, Tryz.ntmps25
  go_wp2_with fail
  go_ret
  exact ⟨by rw [boundedL, if_neg (by omega)]; rfl, rfl⟩
 ·by_cases h1 : m < a
  ·go_enter Tryz.func25, Tryz.ntmps25
   go_wp2_with fail
   go_ret
   exact ⟨by rw [boundedL, if_neg (by omega)]; rfl, rfl⟩
  ·go_enter Tryz.func25, Tryz.ntmps25
   go_wp2_with fail
   go_ret
   exact ⟨by rw [boundedL, if_pos ⟨by omega, by omega⟩]; rfl, rfl⟩
set_option maxRecDepth 100000 in
set_option maxHeartbeats 3200000 in
theorem rBound_any (a1 a2 a3 a4 a5 : Int) (w : World) : Calls Tryz.prog 13 #[limV a1 a2 a3 a4 a5] w fun r w' => r = .returned (limV (boundedL a1 10000) (boundedL a2 65536) (boundedL a3 1000000) (boundedL a4 65536) (boundedL a5 16384)) ∧ Below w.heap.size w w' := by
 obtain ⟨P, hP⟩ : ∃ P : Ending → World → Prop, P = fun r w' => r = .returned (limV (boundedL a1 10000) (boundedL a2 65536) (boundedL a3 1000000) (boundedL a4 65536) (boundedL a5 16384)) ∧ Below w.heap.size w w' := ⟨_, rfl⟩
 rw [← hP]
 have HP := hid_intro hP
 obtain ⟨A, hA⟩ : ∃ A, (w.alloc (.cells #[.int .i64 a1, .int .i64 a2, .int .i64 a3, .int .i64 a4, .int .i64 a5] 24)).alloc (.cells #[.int .i64 0, .int .i64 0, .int .i64 0, .int .i64 0, .int .i64 0] 24) = A := ⟨_, rfl⟩
 have HBA : Hid (Below w.heap.size w A) := hid_intro (hA ▸ vb_a (vb_a (Below.refl _ _) _) _)
 have HTA : Hid (Bj A w.heap.size #[.int .i64 a1, .int .i64 a2, .int .i64 a3, .int .i64 a4, .int .i64 a5]) := hid_intro (hA ▸ (Bj.new _ _ _).al _)
 have HVA : Hid (Bj A (w.heap.size + 1) #[.int .i64 0, .int .i64 0, .int .i64 0, .int .i64 0, .int .i64 0]) := hid_intro (hA ▸ Bj.new' _ _ _ _ (by simp))
 have HS : Hid (∀ w', Below A.heap.size A w' → w'.cell? ⟨w.heap.size, 0, none⟩ = some (.int .i64 a1) ∧ w'.cell? ⟨w.heap.size, 1, none⟩ = some (.int .i64 a2) ∧ w'.cell? ⟨w.heap.size, 2, none⟩ = some (.int .i64 a3) ∧ w'.cell? ⟨w.heap.size, 3, none⟩ = some (.int .i64 a4) ∧ w'.cell? ⟨w.heap.size, 4, none⟩ = some (.int .i64 a5)) := hid_intro (fun w' hb => ⟨(HTA.out.bel hb).cell 0, (HTA.out.bel hb).cell 1, (HTA.out.bel hb).cell 2, (HTA.out.bel hb).cell 3, (HTA.out.bel hb).cell 4⟩)
 have HB : Hid (∀ x m w', Below A.heap.size A w' → Calls Tryz.prog 25 #[.int .i64 x, .int .i64 m] w' fun r w2 => r = .returned (.int .i64 (boundedL x m)) ∧ Below A.heap.size A w2) := hid_intro (fun x m w' hb => (rbound_any x m w').mono fun r w2 hr => ⟨hr.1, hr.2 ▸ hb⟩)
 have HSV : Hid (∀ w', Below A.heap.size A w' → w'.cell? ⟨w.heap.size + 1, 0, none⟩ = some (.int .i64 0) ∧ w'.cell? ⟨w.heap.size + 1, 1, none⟩ = some (.int .i64 0) ∧ w'.cell? ⟨w.heap.size + 1, 2, none⟩ = some (.int .i64 0) ∧ w'.cell? ⟨w.heap.size + 1, 3, none⟩ = some (.int .i64 0) ∧ w'.cell? ⟨w.heap.size + 1, 4, none⟩ = some (.int .i64 0) ∧ w'.frozen? ⟨w.heap.size + 1, 0, none⟩ = false ∧ w'.frozen? ⟨w.heap.size + 1, 1, none⟩ = false ∧ w'.frozen? ⟨w.heap.size + 1, 2, none⟩ = false ∧ w'.frozen? ⟨w.heap.size + 1, 3, none⟩ = false ∧ w'.frozen? ⟨w.heap.size + 1, 4, none⟩ = false) := hid_intro (fun w' hb => ⟨(HVA.out.bel hb).cell 0, (HVA.out.bel hb).cell 1, (HVA.out.bel hb).cell 2, (HVA.out.bel hb).cell 3, (HVA.out.bel hb).cell 4, (HVA.out.bel hb).frz 0, (HVA.out.bel hb).frz 1, (HVA.out.bel hb).frz 2, (HVA.out.bel hb).frz 3, (HVA.out.bel hb).frz 4⟩)
 have HS2 : Hid (∀ w' v0 v1 v2 v3 v4, Below A.heap.size A w' → (((((w'.setCell ⟨w.heap.size + 1, 0, none⟩ v0).setCell ⟨w.heap.size + 1, 1, none⟩ v1).setCell ⟨w.heap.size + 1, 2, none⟩ v2).setCell ⟨w.heap.size + 1, 3, none⟩ v3).setCell ⟨w.heap.size + 1, 4, none⟩ v4).cell? ⟨w.heap.size, 0, none⟩ = some (.int .i64 a1) ∧ (((((w'.setCell ⟨w.heap.size + 1, 0, none⟩ v0).setCell ⟨w.heap.size + 1, 1, none⟩ v1).setCell ⟨w.heap.size + 1, 2, none⟩ v2).setCell ⟨w.heap.size + 1, 3, none⟩ v3).setCell ⟨w.heap.size + 1, 4, none⟩ v4).cell? ⟨w.heap.size, 1, none⟩ = some (.int .i64 a2) ∧ (((((w'.setCell ⟨w.heap.size + 1, 0, none⟩ v0).setCell ⟨w.heap.size + 1, 1, none⟩ v1).setCell ⟨w.heap.size + 1, 2, none⟩ v2).setCell ⟨w.heap.size + 1, 3, none⟩ v3).setCell ⟨w.heap.size + 1, 4, none⟩ v4).cell? ⟨w.heap.size, 2, none⟩ = some (.int .i64 a3) ∧ (((((w'.setCell ⟨w.heap.size + 1, 0, none⟩ v0).setCell ⟨w.heap.size + 1, 1, none⟩ v1).setCell ⟨w.heap.size + 1, 2, none⟩ v2).setCell ⟨w.heap.size + 1, 3, none⟩ v3).setCell ⟨w.heap.size + 1, 4, none⟩ v4).cell? ⟨w.heap.size, 3, none⟩ = some (.int .i64 a4) ∧ (((((w'.setCell ⟨w.heap.size + 1, 0, none⟩ v0).setCell ⟨w.heap.size + 1, 1, none⟩ v1).setCell ⟨w.heap.size + 1, 2, none⟩ v2).setCell ⟨w.heap.size + 1, 3, none⟩ v3).setCell ⟨w.heap.size + 1, 4, none⟩ v4).cell? ⟨w.heap.size, 4, none⟩ = some (.int .i64 a5)) := hid_intro (fun w' v0 v1 v2 v3 v4 hb => by
  have hn : ∀ i, w.heap.size ≠ (⟨w.heap.size + 1, i, none⟩ : Addr).block := fun i => by simp
  have h5 := ((((((HTA.out.bel hb).away (v := v0) (hn 0)).away (v := v1) (hn 1)).away (v := v2) (hn 2)).away (v := v3) (hn 3)).away (v := v4) (hn 4))
  exact ⟨h5.cell 0, h5.cell 1, h5.cell 2, h5.cell 3, h5.cell 4⟩)
 have hc := Below.refl A.heap.size A
 unfold limV
 clear hP
 go_enter Tryz.func13, Tryz.ntmps13
 go_wp2_with fail
 go_region_held3 (fun w' => w'.cell? ⟨w.heap.size, 0, none⟩ = some (.int .i64 a1) ∧ w'.cell? ⟨w.heap.size, 1, none⟩ = some (.int .i64 a2) ∧ w'.cell? ⟨w.heap.size, 2, none⟩ = some (.int .i64 a3) ∧ w'.cell? ⟨w.heap.size, 3, none⟩ = some (.int .i64 a4) ∧ w'.cell? ⟨w.heap.size, 4, none⟩ = some (.int .i64 a5)) (first | (refine HS.out _ ?_; (with_reducible repeat (first | exact hc | refine vb_d ?_)); done) | (refine HS2.out _ _ _ _ _ _ ?_; (with_reducible repeat (first | exact hc | refine vb_d ?_)); done) | fail) (first | (go_at_call 25; refine (HB.out _ _ _ ?_).mono ?_; (with_reducible repeat (first | exact hc | refine vb_d ?_)); rintro r w3 ⟨rfl, hc⟩; obtain ⟨y0, y1, y2, y3, y4, z0, z1, z2, z3, z4⟩ := HSV.out _ hc) | fail)
 all_goals
  go_wp2_with fail
  refine bodyPost_ret (v := .agg #[.int .i64 (boundedL a1 10000), .int .i64 (boundedL a2 65536), .int .i64 (boundedL a3 1000000), .int .i64 (boundedL a4 65536), .int .i64 (boundedL a5 16384)]) (by simp [results, Tryz.results13, go_sem, y0, y1, y2, y3, y4]) rfl ?_
  rw [HP.out]
  refine ⟨rfl, ?_⟩
  have hb5 : But (· = w.heap.size + 1) w3 (((((w3.setCell ⟨w.heap.size + 1, 0, none⟩ (.int .i64 (boundedL a1 10000))).setCell ⟨w.heap.size + 1, 1, none⟩ (.int .i64 (boundedL a2 65536))).setCell ⟨w.heap.size + 1, 2, none⟩ (.int .i64 (boundedL a3 1000000))).setCell ⟨w.heap.size + 1, 3, none⟩ (.int .i64 (boundedL a4 65536))).setCell ⟨w.heap.size + 1, 4, none⟩ (.int .i64 (boundedL a5 16384))) := (((((But.refl _ w3).setr _).setr _).setr _).setr _).setr _
  have hw3 := vb_t HBA.out hc
  exact hw3.trans ⟨hb5.os, hb5.tape, hb5.output, hb5.size, fun k hk => hb5.block k (Nat.lt_of_lt_of_le hk hw3.size) (by omega)⟩
end Go.Proofs.YtfoehebnmommfaaGreatDoor

namespace Go.Proofs.YtfoehebnmommfaaGreatDoor
open Go.RowKit Go.Maps

set_option maxRecDepth 100000 in
set_option maxHeartbeats 3200000 in
theorem rfirst_any (l : List UInt8) (i : Nat) (v : Value) (w : World) (hB : Lx.Byt w v l) (h0 : 0 < l.length) (hi : i ≤ l.length) (hm : l.length ≤ 140737488351232) :
  Calls Tryz.prog 22 #[v, .int .i64 i] w fun r w' => r = .returned (.int .i64 ((Lx.pass l Lx.blankB i : Nat) : Int)) ∧ w' = w := by
 obtain ⟨P, hP⟩ : ∃ P : Ending → World → Prop, P = fun r w' => r = .returned (.int .i64 ((Lx.pass l Lx.blankB i : Nat) : Int)) ∧ w' = w := ⟨_, rfl⟩
 rw [← hP]
 have HR := hid_intro hP
 clear hP
 obtain ⟨b, off, cap, ev, hc, hm'⟩ : ∃ b off cap, v = .slice (some ⟨b, off, none⟩) l.length cap ∧ l.length ≤ cap ∧ cap ≤ maxLen := by
  rcases hB with ⟨h, _⟩ | ⟨b, off, cap, e, hc, hm', _⟩
  ·omega
  ·exact ⟨b, off, cap, e, hc, hm'⟩
 subst ev
 have hcI : (cap : Int) ≤ 9223372036854775807 := by unfold maxLen at hm'; omega
 have hcI2 : (l.length : Int) ≤ (cap : Int) := by omega
 have hlI : (l.length : Int) ≤ 140737488351232 := by omega
 have hiI : (i : Int) ≤ (l.length : Int) := by omega
 have hL0 := (Lx.byt_lies hB h0).1
 clear hB
 go_enter Tryz.func22, Tryz.ntmps22
 go_wp2_with fail
 go_loopg [1] (l.length - i) (fun g s1 wx => ∃ k : Nat, k ≤ l.length ∧ g = l.length - k ∧ s1 = .int .i64 (k : Int) ∧ Hid (Lx.pass l Lx.blankB k = Lx.pass l Lx.blankB i) ∧ w = wx)
 case atStart => exact ⟨i, hi, rfl, rfl, rfl, rfl⟩
 case round =>
  obtain ⟨k, hk, rfl, rfl, HP, rfl⟩ := hrel
  by_cases hkl : k < l.length
  ·have hcell := hL0.cell k hkl
   have hI : (k : Int) < (l.length : Int) := by omega
   have h2 := fun w => (Lx.rblank_any (Lx.bx l k) w).mono fun r w' h => (show r = .returned (.bool (Lx.blankB (Lx.bx l k))) ∧ w = w' from ⟨h.1, h.2.symm⟩)
   have hq := Lx.hasAt_in (l := l) Lx.blankB hkl
   cases hp : Lx.blankB (Lx.bx l k)
   ·rw [hp] at h2 hq
    have HF : Hid (Lx.pass l Lx.blankB i = k) := by show _ = _; rw [← HP.out, Lx.pass_stop hq]
    clear HP hq hp
    generalize Lx.bx l k = c at *
    go_wp2_with (go_at_call 34; refine (h2 _).mono ?_; rintro r w' ⟨rfl, rfl⟩)
    rw [HR.out]
    exact ⟨by rw [HF.out]; rfl, rfl⟩
   ·rw [hp] at h2 hq
    have HF : Hid (Lx.pass l Lx.blankB (k + 1) = Lx.pass l Lx.blankB i) := by show _ = _; rw [← HP.out, Lx.pass_go hq]
    clear HP hq hp
    generalize Lx.bx l k = c at *
    go_wp2_with (go_at_call 34; refine (h2 _).mono ?_; rintro r w' ⟨rfl, rfl⟩)
    go_roundg (l.length - (k + 1))
    case measure => omega
    case rel => exact ⟨k + 1, by omega, rfl, by go_num, HF, rfl⟩
  ·have hI : ¬ (k : Int) < (l.length : Int) := by omega
   have d : decide ((k : Int) < (l.length : Int)) = false := decide_eq_false hI
   have HF : Hid (Lx.pass l Lx.blankB i = k) := by show _ = _; rw [← HP.out, Lx.pass_stop (Lx.hasAt_out _ hkl)]
   clear HP
   go_wp2
   rw [HR.out]
   exact ⟨by rw [HF.out], rfl⟩
def stB (l : List UInt8) (nx i : Nat) : Bool := Lx.hasAt l (Lx.pass l Lx.blankB i) (· == 34) && (decide (nx = 2) || decide (nx = 3))
set_option maxRecDepth 100000 in
set_option maxHeartbeats 3200000 in
theorem rstands_any (l : List UInt8) (i nx pb : Nat) (v : Value) (w : World) (hB : Lx.Byt w v l) (h0 : 0 < l.length) (hi : i ≤ l.length) (hm : l.length ≤ 140737488351232) (hp : w.cell? ⟨pb, 6, none⟩ = some (.int .i64 (nx : Int))) :
  Calls Tryz.prog 21 #[.pointer (some ⟨pb, 0, none⟩), v, .int .i64 i] w fun r w' => r = .returned (.bool (stB l nx i)) ∧ w' = w := by
 obtain ⟨P, hP⟩ : ∃ P : Ending → World → Prop, P = fun r w' => r = .returned (.bool (stB l nx i)) ∧ w' = w := ⟨_, rfl⟩
 rw [← hP]
 have HR := hid_intro hP
 clear hP
 have H1 := hid_intro (rfirst_any l i v w hB h0 hi hm)
 obtain ⟨b, off, cap, ev, hc, hm'⟩ : ∃ b off cap, v = .slice (some ⟨b, off, none⟩) l.length cap ∧ l.length ≤ cap ∧ cap ≤ maxLen := by
  rcases hB with ⟨h, _⟩ | ⟨b, off, cap, e, hc, hm', _⟩
  ·omega
  ·exact ⟨b, off, cap, e, hc, hm'⟩
 subst ev
 have hcI : (cap : Int) ≤ 9223372036854775807 := by unfold maxLen at hm'; omega
 have hcI2 : (l.length : Int) ≤ (cap : Int) := by omega
 have hlI : (l.length : Int) ≤ 140737488351232 := by omega
 have hL0 := (Lx.byt_lies hB h0).1
 have hpl := Lx.pass_le (l := l) (p := Lx.blankB) hi
 have HS : Hid (stB l nx i = (Lx.hasAt l (Lx.pass l Lx.blankB i) (· == 34) && (decide (nx = 2) || decide (nx = 3)))) := hid_intro rfl
 clear hB
 generalize Lx.pass l Lx.blankB i = k at *
 by_cases hkl : k < l.length
 ·have hcell := hL0.cell k hkl
  have hI : (k : Int) < (l.length : Int) := by omega
  have hq := Lx.hasAt_in (l := l) (· == 34) hkl
  rw [hq] at HS
  clear hq
  generalize Lx.bx l k = c at *
  by_cases hc34 : c = 34
  ·subst hc34
   by_cases n2 : (nx : Int) = 2
   ·go_enter Tryz.func21, Tryz.ntmps21
    go_wp2_with (go_at_call 22; refine H1.out.mono ?_; rintro r w' ⟨rfl, rfl⟩)
    rw [HR.out, HS.out]
    exact ⟨by simp [show nx = 2 by omega], rfl⟩
   ·by_cases n3 : (nx : Int) = 3
    ·go_enter Tryz.func21, Tryz.ntmps21
     go_wp2_with (go_at_call 22; refine H1.out.mono ?_; rintro r w' ⟨rfl, rfl⟩)
     rw [HR.out, HS.out]
     exact ⟨by simp [show nx = 3 by omega], rfl⟩
    ·go_enter Tryz.func21, Tryz.ntmps21
     go_wp2_with (go_at_call 22; refine H1.out.mono ?_; rintro r w' ⟨rfl, rfl⟩)
     rw [HR.out, HS.out]
     exact ⟨by simp [show nx ≠ 2 by omega, show nx ≠ 3 by omega, n2, n3], rfl⟩
  ·go_enter Tryz.func21, Tryz.ntmps21
   go_wp2_with (go_at_call 22; refine H1.out.mono ?_; rintro r w' ⟨rfl, rfl⟩)
   rw [HR.out, HS.out]
   exact ⟨by simp [hc34], rfl⟩
 ·have hI : ¬ (k : Int) < (l.length : Int) := by omega
  have hq := Lx.hasAt_out (l := l) (· == 34) hkl
  rw [hq] at HS
  go_enter Tryz.func21, Tryz.ntmps21
  go_wp2_with (go_at_call 22; refine H1.out.mono ?_; rintro r w' ⟨rfl, rfl⟩)
  rw [HR.out, HS.out]
  exact ⟨by simp, rfl⟩
end Go.Proofs.YtfoehebnmommfaaGreatDoor
