/-
  Values put into an array, and into an object, are read as they were: the reader as mathematics. Conditions: at most thirty texts of at most 10,000 bytes, values of depth at most 9,000.
  ref5.Depth: how deep a value is. Conditions: the value lies in memory.
  Whole texts with the same tokens are read alike. Conditions: at most 2^20 bytes each.
  ref5.Same answers true of two values that are the same tree. Conditions: none.
-/
import Derived.Test.YtjakgdaodlgeaaaGreatDoorJoined35
import Derived.Test.YtjakgdaodlgeaaaGreatDoorJoined40
import Derived.Test.YtjakgdaodlgeaaaGreatDoorJoined43
import Derived.Deep.LoopGhost
import Derived.Test.YtjakgdaodlgeaaaGreatDoorJoined33
import Derived.Test.YtjakgdaodlgeaaaGreatDoorJoined0
import Derived.Test.YtjakgdaodlgeaaaGreatDoorJoined18
import Derived.Laws.StructEq
import Derived.Deep.RegionHeld3
namespace Go.Proofs.YtjakgdaodlgeaaaGreatDoor
open Go.RowKit

theorem refj (l : List UInt8) : judgedR l (bm 0 0 0) (rlR (bm 0 0 0)) rdR = judgedS l (bm 0 0 0) :=
 judged_ref (fun _ => numOK (bounded_in 0 65536 (by decide)).2 (bounded_in 0 1000000 (by decide)).2)
theorem rd_flat (s : List UInt8) : dN (rdR s) = 0 := by unfold rdR numJ; rw [dN, if_pos (by decide)]
theorem judged_alone {l : List UInt8} {v : JV} (h : judgedS l (bm 0 0 0) = .ok v) : ∃ p, Alone (rlR (bm 0 0 0)) rdR l p ∧ p.ps = 0 ∧ p.v = v ∧ p.dp = dN v := by
 rw [← refj] at h
 unfold judgedR at h
 split at h
 ·cases h
 ·split at h
  ·cases h
  ·rename_i p hp
   split at h
   ·cases h
   ·split at h
    ·cases h
    ·rename_i h1 h2
     injection h with h
     exact ⟨p, hp, by simpa using h2, h, by rw [← h]; exact alone_dp rd_flat hp⟩
theorem alone_judged {l : List UInt8} {p : PR} (hl : l.length ≤ 1048576) (h : Alone (rlR (bm 0 0 0)) rdR l p) (h0 : p.ps = 0) (hd : p.dp ≤ 10000) : judgedS l (bm 0 0 0) = .ok p.v := by
 rw [← refj]
 unfold judgedR
 have h : RR l (rlR (bm 0 0 0)) rdR ⟨[], 0, zeroJ 0, 0, 0⟩ 0 = .ok p := h
 have e : (bm 0 0 0).dep = 10000 := by decide
 rw [if_neg (by omega), h]
 simp only
 rw [e, if_neg (by omega), if_neg (by simp [h0])]
theorem pick : ∀ (ls : List (List UInt8)) (vs : List JV), ls.length = vs.length → (∀ i (h1 : i < ls.length) (h2 : i < vs.length), judgedS ls[i] (bm 0 0 0) = .ok vs[i]) → ∃ ps : List PR, ls.length = ps.length ∧ ps.map (·.v) = vs ∧ (∀ i (h : i < ls.length) (h' : i < ps.length), Alone (rlR (bm 0 0 0)) rdR ls[i] ps[i] ∧ ps[i].ps = 0) ∧ ∀ p ∈ ps, p.dp = dN p.v
 | [], [], _, _ => ⟨[], rfl, rfl, fun i h => absurd h (by simp), fun p hp => by simp at hp⟩
 | l :: ls, v :: vs, hlen, h => by
  obtain ⟨ps, g1, g2, g3, g4⟩ := pick ls vs (by simpa using hlen) (fun i h1 h2 => by
   have := h (i + 1) (by simp; omega) (by simp; omega)
   simpa using this)
  obtain ⟨p, p1, p2, p3, p4⟩ := judged_alone (h 0 (by simp) (by simp))
  refine ⟨p :: ps, by simp [g1], by simp [g2]; exact p3, fun i hi hi' => ?_, fun q hq => ?_⟩
  ·cases i with
   | zero => exact ⟨p1, p2⟩
   | succ i => simpa using g3 i (by simp at hi; omega) (by simp at hi'; omega)
  ·rcases List.mem_cons.1 hq with rfl | hq
   ·rw [p4, p3]
   ·exact g4 q hq
theorem body_len {B : Nat} : ∀ (ls : List (List UInt8)), (∀ l ∈ ls, l.length ≤ B) → (body ls).length ≤ ls.length * (B + 1)
 | [], _ => Nat.zero_le _
 | [l], h => by have := h l (by simp); show l.length ≤ 1 * (B + 1); omega
 | l :: m :: ls, h => by
  have h1 := h l (by simp)
  have h2 := body_len (m :: ls) (fun x hx => h x (by simp at hx ⊢; exact Or.inr hx))
  show (l ++ 44 :: body (m :: ls)).length ≤ _
  simp only [List.length_append, List.length_cons] at h2 ⊢
  have e : (ls.length + 1 + 1) * (B + 1) = (ls.length + 1) * (B + 1) + (B + 1) := by rw [Nat.add_mul (ls.length + 1) 1, Nat.one_mul]
  rw [e]; omega
theorem mems_len : ∀ (n : Nat) (ls : List (List UInt8)), (mems n ls).length = ls.length
 | _, [] => rfl
 | n, l :: ls => by simp [mems, mems_len (n + 1) ls]
theorem mems_le {B : Nat} : ∀ (n : Nat) (ls : List (List UInt8)), (∀ l ∈ ls, l.length ≤ B) → ∀ x ∈ mems n ls, x.length ≤ B + 5
 | _, [], _, x, hx => by simp [mems] at hx
 | n, l :: ls, h, x, hx => by
  rcases List.mem_cons.1 hx with rfl | hx
  ·have := h l (by simp); unfold memT; simp; omega
  ·exact mems_le (n + 1) ls (fun y hy => h y (by simp [hy])) x hx
set_option maxRecDepth 100000 in
theorem puts_ok {ls : List (List UInt8)} {vs : List JV} (h30 : ls.length ≤ 30) (hB : ∀ l ∈ ls, l.length ≤ 10000) (hlen : ls.length = vs.length) (h : ∀ i (h1 : i < ls.length) (h2 : i < vs.length), judgedS ls[i] (bm 0 0 0) = .ok vs[i]) (hd : ∀ v ∈ vs, dN v ≤ 9000) :
  judgedS ([91] ++ (body ls ++ [93])) (bm 0 0 0) = .ok (.mk 5 false ⟨#[]⟩ 0 ⟨#[]⟩ vs []) ∧ judgedS ([123] ++ (body (mems 0 ls) ++ [125])) (bm 0 0 0) = .ok (.mk 6 false ⟨#[]⟩ 0 ⟨#[]⟩ vs ((List.range ls.length).map kyS)) := by
 obtain ⟨ps, g1, g2, g3, g4⟩ := pick ls vs hlen h
 have hM : ∀ p ∈ ps, 1 + p.dp ≤ 9001 := fun p hp => by
  have := hd p.v (by rw [← g2]; exact List.mem_map.2 ⟨p, hp, rfl⟩)
  rw [g4 p hp]; omega
 constructor
 ·obtain ⟨p, a1, a2, a3, a4⟩ := arr_ok (rl := rlR (bm 0 0 0)) (rd := rdR) ls ps g1 g3
  have hl := Nat.le_trans (body_len ls hB) (Nat.mul_le_mul_right 10001 h30)
  have := alone_judged (by simp only [List.length_append, List.length_cons, List.length_nil]; omega) a1 a3 (Nat.le_trans (a4 9001 (by omega) hM) (by omega))
  rw [this, a2, g2]
 ·obtain ⟨p, a1, a2, a3, a4⟩ := obj_ok (rl := rlR (bm 0 0 0)) (rd := rdR) ls ps h30 g1 g3
  have hl := body_len (mems 0 ls) (mems_le 0 ls hB)
  rw [mems_len] at hl
  have hl := Nat.le_trans hl (Nat.mul_le_mul_right 10006 h30)
  have := alone_judged (by simp only [List.length_append, List.length_cons, List.length_nil]; omega) a1 a3 (Nat.le_trans (a4 9001 (by omega) hM) (by omega))
  rw [this, a2, g2]
end Go.Proofs.YtjakgdaodlgeaaaGreatDoor

namespace Go.Proofs.YtjakgdaodlgeaaaGreatDoor
open Go.RowKit

set_option maxRecDepth 100000 in
set_option maxHeartbeats 3200000 in
theorem r5depth_any (v : JV) : ∀ (f : Nat → Value) (w : World), VI w (fun _ => False) v f →
  Calls Tryz.prog 18 #[va f] w fun r w' => r = .returned (.int .i64 (depthV rholds v)) ∧ Below w.heap.size w w' := by
 induction v using JV.ind with
 | h k n g e t l ks ih =>
 intro f w hv
 obtain ⟨ao, cap, ko, kc, G, hf, hll, hkl, hr, hl, hk⟩ := hv.open
 rw [hf]
 have hm : (l.length : Int) ≤ 9223372036854775807 := by unfold maxLen at hll; omega
 generalize hW : w.alloc (.cells #[.int .i64 k, .bool n, .string g, .int .i64 e, .string t, .slice ao l.length cap, .slice ko ks.length kc] 31) = W
 have hb0 : Below w.heap.size w W := hW ▸ vb_a (Below.refl _ _) _
 have hc5 : W.cell? ⟨w.heap.size, 5, none⟩ = some (.slice ao l.length cap) := by rw [← hW]; simp
 have z0 : W.cell? ⟨w.heap.size, 0, none⟩ = some (.int .i64 k) := by rw [← hW]; simp
 have z1 : W.cell? ⟨w.heap.size, 1, none⟩ = some (.bool n) := by rw [← hW]; simp
 have z2 : W.cell? ⟨w.heap.size, 2, none⟩ = some (.string g) := by rw [← hW]; simp
 have z3 : W.cell? ⟨w.heap.size, 3, none⟩ = some (.int .i64 e) := by rw [← hW]; simp
 have z4 : W.cell? ⟨w.heap.size, 4, none⟩ = some (.string t) := by rw [← hW]; simp
 have z6 : W.cell? ⟨w.heap.size, 6, none⟩ = some (.slice ko ks.length kc) := by rw [← hW]; simp
 by_cases hq : rholds k = true
 case neg =>
  have hq' : rholds k = false := by simpa using hq
  go_enter Tryz.func18, Tryz.ntmps18
  have hk5 : (k < 5) := by simpa [rholds] using hq
  go_wp2_with fail
  go_ret
  exact ⟨by rw [depthV, if_neg hq]; rfl, hb0⟩
 go_enter Tryz.func18, Tryz.ntmps18
 have hk5 : ¬ (k < 5) := by simpa [rholds] using hq
 go_wp2_with fail
 go_loopg [3, 4] l.length (fun gg s3 s8 wr => ∃ (i : Nat) (a : Int), i ≤ l.length ∧ gg = l.length - i ∧ s8 = .int .i64 (i : Int) ∧ s3 = .int .i64 a ∧ Hid (depthL rholds (l.drop i) a = depthL rholds l 0) ∧ Below W.heap.size W wr)
 case atStart => first | exact ⟨0, 0, Nat.zero_le _, rfl, rfl, rfl, rfl, Below.refl _ _⟩ | exact ⟨0, 0, Nat.zero_le _, rfl, rfl, rfl, rfl, hb1⟩
 case round =>
  obtain ⟨i, a, hi, rfl, rfl, rfl, hh, hbel⟩ := hrel
  have hlt0 : w.heap.size < W.heap.size := by rw [← hW]; simp
  have hc5' : wr.cell? ⟨w.heap.size, 5, none⟩ = some (.slice ao l.length cap) := (hbel.cell hlt0).trans hc5
  by_cases h : i < l.length
  ·obtain ⟨b, off, rfl, hbs, hce⟩ := hl.resolve_left (fun e => by rw [e] at h; exact absurd h (by simp))
   have hI : (i : Int) < (l.length : Int) := by omega
   have hcx : ∀ j, j < 7 → wr.cell? ⟨b, off + i * 7 + j, none⟩ = some (G i j) := fun j hj => (hbel.cell (p := ⟨b, _, none⟩) (by exact Nat.lt_trans hbs hlt0)).trans ((hb0.cell (p := ⟨b, _, none⟩) hbs).trans (hce i h j hj))
   have d0 : wr.cell? ⟨b, off + i * 7, none⟩ = some (G i 0) := hcx 0 (by omega)
   have d1 := hcx 1 (by omega)
   have d2 := hcx 2 (by omega)
   have d3 := hcx 3 (by omega)
   have d4 := hcx 4 (by omega)
   have d5 := hcx 5 (by omega)
   have d6 := hcx 6 (by omega)
   have cal := ih l[i] (List.getElem_mem h) (G i) wr (((hr i h).kept hb0).kept hbel)
   rw [List.drop_eq_getElem_cons h, depthL] at hh
   generalize depthV rholds l[i] = S at *
   clear hce hcx hr hl hk ih
   go_wp2_with (first | (go_at_call 18; refine cal.mono ?_; rintro r w1 ⟨rfl, hb1⟩))
   all_goals (go_roundg (l.length - (i + 1)); (case measure => omega); (case rel => exact ⟨i + 1, max a S, by omega, rfl, by go_num, by congr 1 <;> omega, hh, vb_t hbel hb1⟩))
  ·have hI : ¬ ((i : Int) < (l.length : Int)) := by omega
   go_wp2_with fail
   go_ret
   have hh := hh.out
   rw [List.drop_eq_nil_of_le (by omega), depthL] at hh
   exact ⟨by rw [depthV, if_pos hq, ← hh]; rfl, vb_t hb0 hbel⟩
theorem depth_dN (v : JV) : dN v ≤ 4611686018427387904 → depthV rholds v = (dN v : Int) := by
 induction v using JV.ind with
 | h k n g e t l ks ih =>
 intro hd
 rw [depthV, dN]
 by_cases hk : k < 5
 ·rw [if_pos hk, if_neg (by simp [rholds, hk])]; rfl
 ·rw [dN, if_neg hk] at hd
  rw [if_neg hk, if_pos (by simp [rholds, hk])]
  have key : ∀ (l' : List JV), (∀ x ∈ l', x ∈ l) → ∀ a : Nat, dNL l' ≤ 4611686018427387904 → depthL rholds l' (a : Int) = ((max a (dNL l') : Nat) : Int) := by
   intro l'
   induction l' with
   | nil => intro _ a _; rw [depthL, dNL]; simp
   | cons x l' ih' =>
    intro hm a hb
    rw [dNL] at hb
    rw [depthL, ih x (hm x (by simp)) (by omega)]
    have e1 : max (a : Int) ((dN x : Nat) : Int) = ((max a (dN x) : Nat) : Int) := by omega
    rw [e1, ih' (fun y hy => hm y (by simp [hy])) (max a (dN x)) (by omega), dNL]
    congr 1
    omega
  have h0 := key l (fun _ h => h) 0 (by omega)
  rw [show ((0 : Nat) : Int) = 0 from rfl] at h0
  rw [h0]
  unfold wrap64
  omega
end Go.Proofs.YtjakgdaodlgeaaaGreatDoor

namespace Go.Proofs.YtjakgdaodlgeaaaGreatDoor
open Go.RowKit

end Go.Proofs.YtjakgdaodlgeaaaGreatDoor

namespace Go.Proofs.YtjakgdaodlgeaaaGreatDoor
open Go.RowKit
attribute [local go_sem] setCell_drewN alloc_drewN

structure C7 (w : World) (b : Nat) (x0 x1 x2 x3 x4 x5 x6 : Value) : Prop where
 c0 : w.cell? ⟨b, 0, none⟩ = some x0
 c1 : w.cell? ⟨b, 1, none⟩ = some x1
 c2 : w.cell? ⟨b, 2, none⟩ = some x2
 c3 : w.cell? ⟨b, 3, none⟩ = some x3
 c4 : w.cell? ⟨b, 4, none⟩ = some x4
 c5 : w.cell? ⟨b, 5, none⟩ = some x5
 c6 : w.cell? ⟨b, 6, none⟩ = some x6
 z0 : w.frozen? ⟨b, 0, none⟩ = false
 z1 : w.frozen? ⟨b, 1, none⟩ = false
 z2 : w.frozen? ⟨b, 2, none⟩ = false
 z3 : w.frozen? ⟨b, 3, none⟩ = false
 z4 : w.frozen? ⟨b, 4, none⟩ = false
 z5 : w.frozen? ⟨b, 5, none⟩ = false
 z6 : w.frozen? ⟨b, 6, none⟩ = false
theorem C7.new (w : World) (x0 x1 x2 x3 x4 x5 x6 : Value) (t : TypeId) : C7 (w.alloc (.cells #[x0, x1, x2, x3, x4, x5, x6] t)) w.heap.size x0 x1 x2 x3 x4 x5 x6 := by
 constructor <;> first | exact World.frozen?_alloc_at _ _ _ _ rfl | (rw [World.cell?_alloc_at _ _ _ _ rfl]; rfl)
theorem C7.lt {w : World} {b : Nat} {x0 x1 x2 x3 x4 x5 x6 : Value} (h : C7 w b x0 x1 x2 x3 x4 x5 x6) : b < w.heap.size := World.block_lt_of_cell? w _ h.c0
theorem C7.below {w w' : World} {b B : Nat} {x0 x1 x2 x3 x4 x5 x6 : Value} (h : C7 w b x0 x1 x2 x3 x4 x5 x6) (hb : Below B w w') (hlt : b < B) : C7 w' b x0 x1 x2 x3 x4 x5 x6 := by
 have k : ∀ o, w'.cell? ⟨b, o, none⟩ = w.cell? ⟨b, o, none⟩ := fun o => hb.cell hlt
 have f : ∀ o, w'.frozen? ⟨b, o, none⟩ = w.frozen? ⟨b, o, none⟩ := fun o => hb.frozen hlt
 exact ⟨(k _).trans h.c0, (k _).trans h.c1, (k _).trans h.c2, (k _).trans h.c3, (k _).trans h.c4, (k _).trans h.c5, (k _).trans h.c6, (f _).trans h.z0, (f _).trans h.z1, (f _).trans h.z2, (f _).trans h.z3, (f _).trans h.z4, (f _).trans h.z5, (f _).trans h.z6⟩
theorem C7.al {w : World} {b : Nat} {x0 x1 x2 x3 x4 x5 x6 : Value} (h : C7 w b x0 x1 x2 x3 x4 x5 x6) (o : Obj) : C7 (w.alloc o) b x0 x1 x2 x3 x4 x5 x6 := h.below (bl_a (Below.refl _ _) _) h.lt
theorem eqIn_same (a : Bool) (s : ByteArray) (e : Int) (w : World) :
  (Op.equalIn 10000 27 (.agg #[.bool a, .string s, .int .i64 e]) (.agg #[.bool a, .string s, .int .i64 e])).run Tryz.prog w = .ok true w := by
 have u3 := Tryz.underlying3
 have u4 := Tryz.underlying4
 have u9 := Tryz.underlying9
 have a3 := Tryz.isAgg3
 have a4 := Tryz.isAgg4
 have a9 := Tryz.isAgg9
 have z3 := Tryz.sizeOf3
 have z4 := Tryz.sizeOf4
 have z9 := Tryz.sizeOf9
 have hS : Tryz.prog.underlying 27 = some (.struct (Tryz.prog.fieldsOf 27)) := by kernel_rfl
 have hp : Tryz.prog.stoodInHeld 27 = false := by kernel_rfl
 rw [show (10000 : Nat) = 9999 + 1 from rfl, run_equalIn_agg w 9999 27 _ _ hS hp]
 simp only [Program.fieldsOf, Tryz.underlying27]
 go_simp
theorem neq_same (a : Bool) (s : ByteArray) (e : Int) (w : World) :
  (binOp .neq 27 (.agg #[.bool a, .string s, .int .i64 e]) (.agg #[.bool a, .string s, .int .i64 e])).run Tryz.prog w = .ok (.bool false) w := by
 rw [run_neq_struct, eqIn_same]; rfl
set_option maxRecDepth 100000 in
set_option maxHeartbeats 3200000 in
theorem same_refl (v : JV) : ∀ (f f' : Nat → Value) (w : World), VI w (fun _ => False) v f → VI w (fun _ => False) v f' →
  Calls Tryz.prog 11 #[va f, va f'] w fun r w' => r = .returned (.bool true) ∧ Below w.heap.size w w' := by
 induction v using JV.ind with
 | h k n g e t l ks ih =>
 intro f f' w hv hv'
 obtain ⟨ao, cap, ko, kc, G, hva, s1, s2, hr, hl, hk⟩ := hv.open
 obtain ⟨ao', cap', ko', kc', G', hva', _, _, hr', hl', hk'⟩ := hv'.open
 rw [hva, hva']
 clear hva hva' hv hv'
 have hdec := neq_same n g e
 have htx : (t.toList == t.toList) = true := by simp
 have hlI : (l.length : Int) ≤ 9223372036854775807 := by unfold maxLen at s1; omega
 have hkI : (ks.length : Int) ≤ 9223372036854775807 := by unfold maxLen at s2; omega
 generalize hW : (w.alloc (.cells #[.int .i64 k, .bool n, .string g, .int .i64 e, .string t, .slice ao l.length cap, .slice ko ks.length kc] 31)).alloc (.cells #[.int .i64 k, .bool n, .string g, .int .i64 e, .string t, .slice ao' l.length cap', .slice ko' ks.length kc'] 31) = W
 have hbW : Below w.heap.size w W := by rw [← hW]; exact bl_a (bl_a (Below.refl _ _) _) _
 have hA : C7 W w.heap.size (.int .i64 k) (.bool n) (.string g) (.int .i64 e) (.string t) (.slice ao l.length cap) (.slice ko ks.length kc) := by
  rw [← hW]; exact (C7.new w _ _ _ _ _ _ _ _).al _
 have hB : C7 W (w.heap.size + 1) (.int .i64 k) (.bool n) (.string g) (.int .i64 e) (.string t) (.slice ao' l.length cap') (.slice ko' ks.length kc') := by
  rw [← hW]
  have := C7.new (w.alloc (.cells #[.int .i64 k, .bool n, .string g, .int .i64 e, .string t, .slice ao l.length cap, .slice ko ks.length kc] 31)) (.int .i64 k) (.bool n) (.string g) (.int .i64 e) (.string t) (.slice ao' l.length cap') (.slice ko' ks.length kc') 31
  simpa using this
 have HA : Hid (∀ w', Below W.heap.size W w' → C7 w' w.heap.size (.int .i64 k) (.bool n) (.string g) (.int .i64 e) (.string t) (.slice ao l.length cap) (.slice ko ks.length kc)) := fun w' hb => hA.below hb hA.lt
 have HB : Hid (∀ w', Below W.heap.size W w' → C7 w' (w.heap.size + 1) (.int .i64 k) (.bool n) (.string g) (.int .i64 e) (.string t) (.slice ao' l.length cap') (.slice ko' ks.length kc')) := fun w' hb => hB.below hb hB.lt
 have HK : Hid (∀ w', Below W.heap.size W w' → (ks = [] ∨ ∃ b off, ko = some ⟨b, off, none⟩ ∧ ∀ i (h : i < ks.length), w'.cell? ⟨b, off + i, none⟩ = some (.string ks[i]))) := fun w' hb => by
  rcases hk with hk | ⟨b, off, h1, h2, h3⟩
  ·exact .inl hk
  ·exact .inr ⟨b, off, h1, fun i hi => by rw [(bl_t hbW hb).cell (p := ⟨b, off + i, none⟩) h2]; exact h3 i hi⟩
 have HK' : Hid (∀ w', Below W.heap.size W w' → (ks = [] ∨ ∃ b off, ko' = some ⟨b, off, none⟩ ∧ ∀ i (h : i < ks.length), w'.cell? ⟨b, off + i, none⟩ = some (.string ks[i]))) := fun w' hb => by
  rcases hk' with hk | ⟨b, off, h1, h2, h3⟩
  ·exact .inl hk
  ·exact .inr ⟨b, off, h1, fun i hi => by rw [(bl_t hbW hb).cell (p := ⟨b, off + i, none⟩) h2]; exact h3 i hi⟩
 have HL : Hid (∀ w', Below W.heap.size W w' → (l = [] ∨ ∃ b off, ao = some ⟨b, off, none⟩ ∧ ∀ i, i < l.length → ∀ j, j < 7 → w'.cell? ⟨b, off + i * 7 + j, none⟩ = some (G i j))) := fun w' hb => by
  rcases hl with hl | ⟨b, off, h1, h2, h3⟩
  ·exact .inl hl
  ·exact .inr ⟨b, off, h1, fun i hi j hj => by rw [(bl_t hbW hb).cell (p := ⟨b, off + i * 7 + j, none⟩) h2]; exact h3 i hi j hj⟩
 have HL' : Hid (∀ w', Below W.heap.size W w' → (l = [] ∨ ∃ b off, ao' = some ⟨b, off, none⟩ ∧ ∀ i, i < l.length → ∀ j, j < 7 → w'.cell? ⟨b, off + i * 7 + j, none⟩ = some (G' i j))) := fun w' hb => by
  rcases hl' with hl | ⟨b, off, h1, h2, h3⟩
  ·exact .inl hl
  ·exact .inr ⟨b, off, h1, fun i hi j hj => by rw [(bl_t hbW hb).cell (p := ⟨b, off + i * 7 + j, none⟩) h2]; exact h3 i hi j hj⟩
 have HI : Hid (∀ w' i (h : i < l.length), Below W.heap.size W w' → Calls Tryz.prog 11 #[.agg #[G i 0, G i 1, G i 2, G i 3, G i 4, G i 5, G i 6], .agg #[G' i 0, G' i 1, G' i 2, G' i 3, G' i 4, G' i 5, G' i 6]] w' fun r w2 => r = .returned (.bool true) ∧ Below w'.heap.size w' w2) := fun w' i h hb => ih l[i] (List.getElem_mem h) (G i) (G' i) w' ((hr i h).kept (bl_t hbW hb)) ((hr' i h).kept (bl_t hbW hb))
 have HX : Hid (∀ w', Below W.heap.size W w' → Below w.heap.size w w') := fun w' hb => bl_t hbW hb
 clear hk hk' hl hl' hr hr' ih hbW s1 s2
 obtain ⟨a0, a1, a2, a3, a4, a5, a6, _, _, _, _, _, _, _⟩ := hA
 obtain ⟨b0, b1, b2, b3, b4, b5, b6, _, _, _, _, _, _, _⟩ := hB
 go_enter Tryz.func11, Tryz.ntmps11
 go_wp2_with fail
 clear a0 a1 a2 a3 a4 a5 a6 b0 b1 b2 b3 b4 b5 b6 hdec htx
 go_loopw [5] (fun tv wr => ∃ i : Nat, i ≤ ks.length ∧ tv = .int .i64 i ∧ Hid (Below W.heap.size W wr)) (fun tv _ => ks.length - (intOf tv).toNat)
 case atStart => exact ⟨0, Nat.zero_le _, rfl, Below.refl _ _⟩
 case round =>
  obtain ⟨i, hi, rfl, HW⟩ := hrel
  have a6 := (HA.out wr HW.out).c6
  have b6 := (HB.out wr HW.out).c6
  by_cases hlt : i < ks.length
  ·have hI : (i : Int) < (ks.length : Int) := by omega
   obtain ⟨b, off, rfl, hc⟩ := (HK.out wr HW.out).resolve_left (fun e => by rw [e] at hlt; exact absurd hlt (by simp))
   obtain ⟨b', off', rfl, hc'⟩ := (HK'.out wr HW.out).resolve_left (fun e => by rw [e] at hlt; exact absurd hlt (by simp))
   have d1 := hc i hlt
   have d2 := hc' i hlt
   have heq : (ks[i].toList == ks[i].toList) = true := by simp
   clear hc hc' HA HB HK HK' HL HL' HI HX
   generalize ks[i] = y at *
   go_wp2_with fail
   go_quiet (fail)
   go_wp2
   go_roundw
   case rel => exact ⟨i + 1, by omega, by go_num, bl_n HW.out _⟩
   case measure => simp [intOf]; omega
  ·have hI : ¬ (i : Int) < (ks.length : Int) := by omega
   clear HK HK' a6 b6
   have a6 := (HA.out wr HW.out).c6
   go_wp2_with fail
   clear a6
   go_loopw [6] (fun tv wq => ∃ j : Nat, j ≤ l.length ∧ tv = .int .i64 j ∧ Hid (Below W.heap.size W wq)) (fun tv _ => l.length - (intOf tv).toNat)
   case atStart => exact ⟨0, Nat.zero_le _, rfl, HW⟩
   case round =>
    obtain ⟨j, hj, rfl, HZ⟩ := hrel
    clear HW
    have a5 := (HA.out wr HZ.out).c5
    by_cases hlt : j < l.length
    ·have hJ : (j : Int) < (l.length : Int) := by omega
     have b5 := (HB.out wr HZ.out).c5
     have hS : ∀ w', Below wr.heap.size wr w' → ∃ b off b' off', ao = some ⟨b, off, none⟩ ∧ ao' = some ⟨b', off', none⟩ := fun w' hb => by
      obtain ⟨b, off, h1, _⟩ := (HL.out w' (bl_t HZ.out hb)).resolve_left (fun e => by rw [e] at hlt; exact absurd hlt (by simp))
      obtain ⟨b', off', h2, _⟩ := (HL'.out w' (bl_t HZ.out hb)).resolve_left (fun e => by rw [e] at hlt; exact absurd hlt (by simp))
      exact ⟨b, off, b', off', h1, h2⟩
     obtain ⟨b, off, b', off', rfl, rfl⟩ := hS wr (Below.refl _ _)
     have HS : Hid (∀ w', Below wr.heap.size wr w' → w'.cell? ⟨w.heap.size, 5, none⟩ = some (.slice (some ⟨b, off, none⟩) l.length cap) ∧ w'.cell? ⟨w.heap.size + 1, 5, none⟩ = some (.slice (some ⟨b', off', none⟩) l.length cap') ∧ w'.cell? ⟨b, off + j * 7, none⟩ = some (G j 0) ∧ w'.cell? ⟨b, off + j * 7 + 1, none⟩ = some (G j 1) ∧ w'.cell? ⟨b, off + j * 7 + 2, none⟩ = some (G j 2) ∧ w'.cell? ⟨b, off + j * 7 + 3, none⟩ = some (G j 3) ∧ w'.cell? ⟨b, off + j * 7 + 4, none⟩ = some (G j 4) ∧ w'.cell? ⟨b, off + j * 7 + 5, none⟩ = some (G j 5) ∧ w'.cell? ⟨b, off + j * 7 + 6, none⟩ = some (G j 6) ∧ w'.cell? ⟨b', off' + j * 7, none⟩ = some (G' j 0) ∧ w'.cell? ⟨b', off' + j * 7 + 1, none⟩ = some (G' j 1) ∧ w'.cell? ⟨b', off' + j * 7 + 2, none⟩ = some (G' j 2) ∧ w'.cell? ⟨b', off' + j * 7 + 3, none⟩ = some (G' j 3) ∧ w'.cell? ⟨b', off' + j * 7 + 4, none⟩ = some (G' j 4) ∧ w'.cell? ⟨b', off' + j * 7 + 5, none⟩ = some (G' j 5) ∧ w'.cell? ⟨b', off' + j * 7 + 6, none⟩ = some (G' j 6)) := fun w' hb => by
      have hb2 := bl_t HZ.out hb
      obtain ⟨c, o, h1, h3⟩ := (HL.out w' hb2).resolve_left (fun e => by rw [e] at hlt; exact absurd hlt (by simp))
      obtain ⟨c', o', h2, h4⟩ := (HL'.out w' hb2).resolve_left (fun e => by rw [e] at hlt; exact absurd hlt (by simp))
      injection h1 with h1
      injection h1 with h1a h1b _
      subst h1a h1b
      injection h2 with h2
      injection h2 with h2a h2b _
      subst h2a h2b
      exact ⟨(HA.out w' hb2).c5, (HB.out w' hb2).c5, h3 j hlt 0 (by omega), h3 j hlt 1 (by omega), h3 j hlt 2 (by omega), h3 j hlt 3 (by omega), h3 j hlt 4 (by omega), h3 j hlt 5 (by omega), h3 j hlt 6 (by omega), h4 j hlt 0 (by omega), h4 j hlt 1 (by omega), h4 j hlt 2 (by omega), h4 j hlt 3 (by omega), h4 j hlt 4 (by omega), h4 j hlt 5 (by omega), h4 j hlt 6 (by omega)⟩
     have HC : Hid (∀ w', Below wr.heap.size wr w' → Calls Tryz.prog 11 #[.agg #[G j 0, G j 1, G j 2, G j 3, G j 4, G j 5, G j 6], .agg #[G' j 0, G' j 1, G' j 2, G' j 3, G' j 4, G' j 5, G' j 6]] w' fun r w2 => r = .returned (.bool true) ∧ Below w'.heap.size w' w2) := fun w' hb => HI.out w' j hlt (bl_t HZ.out hb)
     clear hS HA HB HL HL' HI HX b5
     go_wp2_with fail
     go_region_held3 (fun w' => w'.cell? ⟨w.heap.size, 5, none⟩ = some (.slice (some ⟨b, off, none⟩) l.length cap) ∧ w'.cell? ⟨w.heap.size + 1, 5, none⟩ = some (.slice (some ⟨b', off', none⟩) l.length cap') ∧ w'.cell? ⟨b, off + j * 7, none⟩ = some (G j 0) ∧ w'.cell? ⟨b, off + j * 7 + 1, none⟩ = some (G j 1) ∧ w'.cell? ⟨b, off + j * 7 + 2, none⟩ = some (G j 2) ∧ w'.cell? ⟨b, off + j * 7 + 3, none⟩ = some (G j 3) ∧ w'.cell? ⟨b, off + j * 7 + 4, none⟩ = some (G j 4) ∧ w'.cell? ⟨b, off + j * 7 + 5, none⟩ = some (G j 5) ∧ w'.cell? ⟨b, off + j * 7 + 6, none⟩ = some (G j 6) ∧ w'.cell? ⟨b', off' + j * 7, none⟩ = some (G' j 0) ∧ w'.cell? ⟨b', off' + j * 7 + 1, none⟩ = some (G' j 1) ∧ w'.cell? ⟨b', off' + j * 7 + 2, none⟩ = some (G' j 2) ∧ w'.cell? ⟨b', off' + j * 7 + 3, none⟩ = some (G' j 3) ∧ w'.cell? ⟨b', off' + j * 7 + 4, none⟩ = some (G' j 4) ∧ w'.cell? ⟨b', off' + j * 7 + 5, none⟩ = some (G' j 5) ∧ w'.cell? ⟨b', off' + j * 7 + 6, none⟩ = some (G' j 6)) (first | (refine HS.out _ ?_; with_reducible repeat (first | exact Below.refl _ _ | refine bl_t ?_ hb3 | refine bl_d ?_)) | fail) (first | (go_at_call 11; refine (HC.out _ ?_).mono ?_; (with_reducible repeat (first | exact Below.refl _ _ | refine bl_d ?_)); rintro r w3 ⟨rfl, hb3⟩) | fail)
     all_goals
      have hnx := bl_t HZ.out (show Below wr.heap.size wr w3 from bl_t (by with_reducible repeat (first | exact Below.refl _ _ | refine bl_d ?_)) hb3)
      have HNX : Hid (Below W.heap.size W w3) := hnx
      clear hnx HS HC
      go_wp2
      go_roundw
      case rel => exact ⟨j + 1, by omega, by go_num, HNX⟩
      case measure => simp [intOf]; omega
    ·have hJ : ¬ (j : Int) < (l.length : Int) := by omega
     have hfin := HX.out wr HZ.out
     clear HA HB HL HL' HI HX
     go_wp2
     go_ret
     exact ⟨rfl, hfin⟩
end Go.Proofs.YtjakgdaodlgeaaaGreatDoor
