/-
  What JsonPuts' first loop holds: two rows of bytes and a row of values, all of the call's own; a row of bytes may be a literal yet that nothing was put behind. No condition.
  Texts that came in, one by one. No condition.
  What JsonPuts' first loop has written behind i texts, and what one more does to it. No condition.
-/
import Derived.Test.YtjakgdaodlgeaaaGreatDoorJoined44
import Derived.Test.YtjakgdaodlgeaaaGreatDoorJoined45
import Derived.ArgAppend
import Derived.Deep.RegionLawGrows
import Derived.Deep.AppendLies
namespace Go.Proofs.YtjakgdaodlgeaaaGreatDoor
open Go.RowKit Go.Maps

def RowB (B : Nat) (v : Value) (xs : List UInt8) (w : World) : Prop := w.ownsRow B 5 1 v xs.length (Lx.cellsL xs) ∨ ∃ g, v = .slice (some ⟨g, 0, none⟩) xs.length xs.length ∧ B ≤ g ∧ g < w.heap.size ∧ ∀ j u, (Lx.cellsL xs)[j]? = some u → w.cell? ⟨g, j, none⟩ = some u
theorem RowB.lt {B : Nat} {v : Value} {xs : List UInt8} {w : World} (h : RowB B v xs w) : ∀ b, v.ownBlock = some b → B ≤ b ∧ b < w.heap.size := fun b hb => by
 rcases h with h | ⟨g, rfl, h1, h2, _⟩
 ·exact h.lt b hb
 ·simp only [Value.ownBlock] at hb
  injection hb with hb
  omega
theorem RowB.keep {B : Nat} {v : Value} {xs : List UInt8} {w w' : World} (h : RowB B v xs w) (hs : w.heap.size ≤ w'.heap.size) (hk : ∀ b, v.ownBlock = some b → w'.heap[b]? = w.heap[b]?) : RowB B v xs w' := by
 rcases h with h | ⟨g, rfl, h1, h2, h3⟩
 ·exact Or.inl (own_keep h fun b hb => hk b (by simpa using hb))
 ·exact Or.inr ⟨g, rfl, h1, by omega, fun j u hu => (World.cell?_of_block (w := w) (w' := w') (hk g rfl)).trans (h3 j u hu)⟩
def RowN (B : Nat) (v v' : Value) (zs : List UInt8) (w w' : World) : Prop := w'.ownsRow B 5 1 v' zs.length (Lx.cellsL zs) ∧ w.grownBy w' v.ownBlock ∧ (v'.ownBlock = v.ownBlock ∨ ∃ b, v'.ownBlock = some b ∧ w.heap.size ≤ b)
theorem grown_none {w w' : World} (h : w.grownBy w' none) (o : Option Nat) : w.grownBy w' o := ⟨h.os, h.tape, h.output, h.size, fun i hi _ => h.block i hi (by simp)⟩
theorem own_up {w : World} {B B' : Nat} {e : TypeId} {size : Nat} {v : Value} {n : Nat} {xs : List Value} (h : w.ownsRow B e size v n xs) (hB : B' ≤ B) : w.ownsRow B' e size v n xs := by
 obtain ⟨h1, h2⟩ := h
 refine ⟨h1, ?_⟩
 rcases h2 with h2 | ⟨g, cap, cur, r1, r2, r3⟩
 ·exact Or.inl h2
 ·exact Or.inr ⟨g, cap, cur, r1, Nat.le_trans hB r2, r3⟩
theorem own_blk {w : World} {B : Nat} {v : Value} {xs : List UInt8} (h : w.ownsRow B 5 1 v xs.length (Lx.cellsL xs)) (hne : xs ≠ []) : ∃ b, v.ownBlock = some b ∧ B ≤ b := by
 rcases h.2 with ⟨_, hz⟩ | ⟨g, cap, cur, e, h1, _⟩
 ·exact absurd (List.eq_nil_of_length_eq_zero hz) hne
 ·subst e
  exact ⟨g, rfl, h1⟩
set_option maxRecDepth 100000 in
theorem wp_app_rb {w : World} {ops : Array Oper} {rest : List Oper} {o : Oper} {a : Act} {Q : Exit → Act → World → Prop} (hgd : o.guard = none) (s x : Operand)
  (ho : o.op = .call { callee := .builtin .append, args := #[s, x], argTypes := #[22, 22] }) (B : Nat) (v : Value) (xs : List UInt8) (hs : a.eval s = v) (v1 : Value) (ys : List UInt8) (hx : a.eval x = v1)
  (hb : xs.length + ys.length ≤ 1000000) (hy : ys ≠ []) (hown : RowB B v xs w) (hR : Lx.Byt w v1 ys) (hB : B ≤ w.heap.size)
  (h : ∀ v' w', RowN B v v' (xs ++ ys) w w' → wpList Tryz.prog ops Q rest (a.put o.dst v') w') : wpList Tryz.prog ops Q (o :: rest) a w := by
 rcases hown with hown | ⟨g, rfl, h1, h2, h3⟩
 ·exact wp_app_at hgd s x ho B v xs hs v1 ys hx hb hy hown hR hB (fun v' w' k1 k2 k3 => h v' w' ⟨k1, k2, k3.imp id fun e => ⟨_, e, Nat.le_refl _⟩⟩)
 ·obtain ⟨i0, hi, hz0, hz1, hz2⟩ := info_parts infoU8
  unfold Lx.Byt at hR
  rcases hR with ⟨h0, _⟩ | ⟨b, off, cap, rfl, hc, hm, hL⟩
  ·exact absurd (List.eq_nil_of_length_eq_zero h0) hy
  ·have hpos : 0 < ys.length := List.length_pos_iff.2 hy
   refine wpList_append_grows w hgd s x 22 ho 5 i0 (.int .u8 0) 1 1 Tryz.underlying22 hi hz0 hz1 hz2 rfl (by decide) (some ⟨g, 0, none⟩) xs.length xs.length (Lx.cellsL xs) hs (fun e => by cases e) (by rw [cellsL_len]; omega) (fun b' e j u hj => ?_) ⟨b, off, none⟩ ys.length cap (Lx.cellsL ys) hx (by rw [cellsL_len]; omega) (fun j u hj => ?_) (fun u hu => ?_) (by omega) (by unfold maxLen; omega) (by omega) (fun v' w' k1 k2 => ?_)
   ·injection e with e
    subst e
    rw [addZ]
    exact h3 j u hj
   ·have hlt : j < ys.length := by have := (List.getElem?_eq_some_iff.1 hj).1; rwa [cellsL_len] at this
    rw [Lx.add_at, hL.cell j hlt, ← hj]
    simp [Lx.cellsL, Lx.bx, hlt]
   ·simp only [Lx.cellsL, List.mem_map] at hu
    obtain ⟨i, _, rfl⟩ := hu
    rfl
   ·rw [← cellsL_app, ← List.length_append] at k1
    exact h v' w' ⟨own_up k1 hB, grown_none k2 _, Or.inr (own_blk k1 (by simp [hy]))⟩
set_option maxRecDepth 100000 in
theorem step_app_rb {w : World} {ops : Array Oper} {o : Oper} {a : Act} {K : Act → World → Prop} {Q : Exit → Act → World → Prop} {E : Prop} (hgd : o.guard = none) (s x : Operand)
  (ho : o.op = .call { callee := .builtin .append, args := #[s, x], argTypes := #[22, 22] }) (B : Nat) (v : Value) (xs : List UInt8) (hs : a.eval s = v) (v1 : Value) (ys : List UInt8) (hx : a.eval x = v1)
  (hb : xs.length + ys.length ≤ 1000000) (hy : ys ≠ []) (hown : RowB B v xs w) (hR : Lx.Byt w v1 ys) (hB : B ≤ w.heap.size)
  (h : ∀ v' w', RowN B v v' (xs ++ ys) w w' → K (a.put o.dst v') w') :
  if Region.wanted o (yielded ops a.tmps) = true then Oper.wp Tryz.prog o a w K Q else E := by
 obtain ⟨i0, hi, hz0, hz1, hz2⟩ := info_parts infoU8
 unfold Lx.Byt at hR
 rcases hR with ⟨h0, _⟩ | ⟨b, off, cap, rfl, hc, hm, hL⟩
 ·exact absurd (List.eq_nil_of_length_eq_zero h0) hy
 ·have hpos : 0 < ys.length := List.length_pos_iff.2 hy
  have hnew : ∀ j u, (Lx.cellsL ys)[j]? = some u → w.cell? ((⟨b, off, none⟩ : Addr).add j) = some u := fun j u hj => by
   have hlt : j < ys.length := by have := (List.getElem?_eq_some_iff.1 hj).1; rwa [cellsL_len] at this
   rw [Lx.add_at, hL.cell j hlt, ← hj]
   simp [Lx.cellsL, Lx.bx, hlt]
  have hone : ∀ u ∈ Lx.cellsL ys, u.oneCell' = true := fun u hu => by
   simp only [Lx.cellsL, List.mem_map] at hu
   obtain ⟨i, _, rfl⟩ := hu
   rfl
  rcases hown with hown | ⟨g, rfl, h1, h2, h3⟩
  ·refine step_append_lies (P := Tryz.prog) w hgd s x 22 ho B 5 i0 (.int .u8 0) 1 1 Tryz.underlying22 hi hz0 hz1 hz2 rfl (by decide) v xs.length (Lx.cellsL xs) hs hown ⟨b, off, none⟩ ys.length cap (Lx.cellsL ys) hx (by rw [cellsL_len]; omega) hnew hone (by omega) (by unfold maxLen; omega) (by omega) hB w.heap.size rfl (fun g c w' k1 k2 k3 _ => h _ w' ⟨?_, k2, ?_⟩)
   ·rw [cellsL_app, List.length_append]
    exact k1
   ·rcases k3 with k3 | k3
    ·exact Or.inl k3.symm
    ·exact Or.inr ⟨g, rfl, by omega⟩
  ·refine step_append_grows hgd s x 22 ho 5 i0 (.int .u8 0) 1 1 Tryz.underlying22 hi hz0 hz1 hz2 rfl (by decide) (some ⟨g, 0, none⟩) xs.length xs.length (Lx.cellsL xs) hs (fun e => by cases e) (by rw [cellsL_len]; omega) (fun b' e j u hj => ?_) ⟨b, off, none⟩ ys.length cap (Lx.cellsL ys) hx (by rw [cellsL_len]; omega) hnew hone (by omega) (by unfold maxLen; omega) (by omega) (fun v' w' k1 k2 => ?_)
   ·injection e with e
    subst e
    rw [addZ]
    exact h3 j u hj
   ·rw [← cellsL_app, ← List.length_append] at k1
    exact h v' w' ⟨own_up k1 hB, grown_none k2 _, Or.inr (own_blk k1 (by simp [hy]))⟩
def tX (vA vO vV : Value) : Nat → Prop := fun b => vA.ownBlock = some b ∨ vO.ownBlock = some b ∨ vV.ownBlock = some b
structure Thr (B : Nat) (vA vO vV : Value) (Ar Ob : List UInt8) (pvs : List PV) (w : World) : Prop where
 ra : RowB B vA Ar w
 ro : RowB B vO Ob w
 row : w.ownsRow B 31 7 vV pvs.length (flat7 pvs)
 ne : ∀ g, vA.ownBlock = some g → vO.ownBlock ≠ some g
 na : ∀ g, vV.ownBlock = some g → vA.ownBlock ≠ some g ∧ vO.ownBlock ≠ some g
 vis : ∀ pv ∈ pvs, VI w (tX vA vO vV) pv.1 pv.2
theorem Thr.bel {B : Nat} {vA vO vV : Value} {Ar Ob : List UInt8} {pvs : List PV} {w w' : World} (h : Thr B vA vO vV Ar Ob pvs w) (hb : Below w.heap.size w w') : Thr B vA vO vV Ar Ob pvs w' :=
 ⟨h.ra.keep hb.size fun b e => hb.block b (h.ra.lt b e).2, h.ro.keep hb.size fun b e => hb.block b (h.ro.lt b e).2, own_keep h.row fun b hb' => hb.block b (own_lt h.row b hb').2, h.ne, h.na, fun pv hp => (h.vis pv hp).carry fun b hx hl => ⟨hb.block b hl, hx⟩⟩
theorem Thr.arr {B : Nat} {vA vA' vO vV : Value} {Ar Ar' Ob : List UInt8} {pvs : List PV} {w w' : World} (h : Thr B vA vO vV Ar Ob pvs w) (hn : RowN B vA vA' Ar' w w') : Thr B vA' vO vV Ar' Ob pvs w' := by
 obtain ⟨ho, hg, h4⟩ := hn
 have hnew : ∀ b, vA'.ownBlock = some b → vA.ownBlock = some b ∨ w.heap.size ≤ b := fun b e => by
  rcases h4 with h4 | ⟨b', h4, h5⟩
  ·exact Or.inl (by rw [← h4]; exact e)
  ·rw [h4] at e; injection e with e; exact Or.inr (by omega)
 refine ⟨Or.inl ho, h.ro.keep hg.size fun b e => hg.block b (h.ro.lt b e).2 (fun e2 => h.ne b e2.symm e), own_keep h.row fun b hb => hg.block b (own_lt h.row b hb).2 (fun e => ?_), fun g g1 g2 => ?_, fun g hg1 => ⟨fun hg2 => ?_, (h.na g hg1).2⟩, fun pv hp => (h.vis pv hp).carry fun b hx hl => ⟨hg.block b hl (fun e => hx (Or.inl e.symm)), fun e => ?_⟩⟩
 ·exact (h.na b (by simpa using hb)).1 e.symm
 ·rcases hnew g g1 with e | e
  ·exact h.ne g e g2
  ·have := (h.ro.lt g g2).2; omega
 ·rcases hnew g hg2 with e | e
  ·exact (h.na g hg1).1 e
  ·have := (h.row.lt g hg1).2; omega
 ·rcases e with e | e
  ·rcases hnew b e with e | e
   ·exact hx (Or.inl e)
   ·omega
  ·exact hx (Or.inr e)
theorem Thr.obj {B : Nat} {vA vO vO' vV : Value} {Ar Ob Ob' : List UInt8} {pvs : List PV} {w w' : World} (h : Thr B vA vO vV Ar Ob pvs w) (hn : RowN B vO vO' Ob' w w') : Thr B vA vO' vV Ar Ob' pvs w' := by
 obtain ⟨ho, hg, h4⟩ := hn
 have hnew : ∀ b, vO'.ownBlock = some b → vO.ownBlock = some b ∨ w.heap.size ≤ b := fun b e => by
  rcases h4 with h4 | ⟨b', h4, h5⟩
  ·exact Or.inl (by rw [← h4]; exact e)
  ·rw [h4] at e; injection e with e; exact Or.inr (by omega)
 refine ⟨h.ra.keep hg.size fun b e => hg.block b (h.ra.lt b e).2 (fun e2 => h.ne b e e2.symm), Or.inl ho, own_keep h.row fun b hb => hg.block b (own_lt h.row b hb).2 (fun e => ?_), fun g g1 g2 => ?_, fun g hg1 => ⟨(h.na g hg1).1, fun hg2 => ?_⟩, fun pv hp => (h.vis pv hp).carry fun b hx hl => ⟨hg.block b hl (fun e => hx (Or.inr (Or.inl e.symm))), fun e => ?_⟩⟩
 ·exact (h.na b (by simpa using hb)).2 e.symm
 ·rcases hnew g g2 with e | e
  ·exact h.ne g g1 e
  ·have := (h.ra.lt g g1).2; omega
 ·rcases hnew g hg2 with e | e
  ·exact (h.na g hg1).2 e
  ·have := (h.row.lt g hg1).2; omega
 ·rcases e with e | e | e
  ·exact hx (Or.inl e)
  ·rcases hnew b e with e | e
   ·exact hx (Or.inr (Or.inl e))
   ·omega
  ·exact hx (Or.inr (Or.inr e))
theorem Thr.val {B : Nat} {vA vO vV vV' : Value} {Ar Ob : List UInt8} {pvs : List PV} {w w' : World} (h : Thr B vA vO vV Ar Ob pvs w) {x : JV} {f : Nat → Value} (hx : VI w (tX vA vO vV) x f) (ho : w'.ownsRow B 31 7 vV' (pvs.length + 1) (flat7 pvs ++ seven f)) (hg : w.grownBy w' vV.ownBlock) (h4 : vV'.ownBlock = vV.ownBlock ∨ vV'.ownBlock = some w.heap.size) : Thr B vA vO vV' Ar Ob (pvs ++ [(x, f)]) w' := by
 have key : ∀ b, ¬ tX vA vO vV b → b < w.heap.size → w'.heap[b]? = w.heap[b]? ∧ ¬ tX vA vO vV' b := fun b hb hl => by
  refine ⟨hg.block b hl (fun e => hb (Or.inr (Or.inr e.symm))), fun e => ?_⟩
  rcases e with e | e | e
  ·exact hb (Or.inl e)
  ·exact hb (Or.inr (Or.inl e))
  ·rcases h4 with h4 | h4
   ·exact hb (Or.inr (Or.inr (by rw [← h4]; exact e)))
   ·rw [h4] at e; injection e with e; omega
 have hne : ∀ g, vV'.ownBlock = some g → vA.ownBlock ≠ some g ∧ vO.ownBlock ≠ some g := fun g hg1 => by
  rcases h4 with h4 | h4
  ·exact h.na g (by rw [← h4]; exact hg1)
  ·rw [h4] at hg1; injection hg1 with hg1
   exact ⟨fun e => by have := (h.ra.lt g e).2; omega, fun e => by have := (h.ro.lt g e).2; omega⟩
 refine ⟨h.ra.keep hg.size fun b e => hg.block b (h.ra.lt b e).2 (fun e2 => (h.na b e2.symm).1 e), h.ro.keep hg.size fun b e => hg.block b (h.ro.lt b e).2 (fun e2 => (h.na b e2.symm).2 e), ?_, h.ne, hne, fun pv hp => ?_⟩
 ·rw [flat7_snoc, List.length_append]; exact ho
 ·rcases List.mem_append.1 hp with hp | hp
  ·exact (h.vis pv hp).carry key
  ·obtain rfl : pv = (x, f) := by simpa using hp
   exact hx.carry key
theorem Thr.new {B : Nat} {vA vO vV : Value} {Ar Ob : List UInt8} {pvs : List PV} {w w' : World} (h : Thr B vA vO vV Ar Ob pvs w) {x : JV} {f : Nat → Value} (hx : VI w' (· < w.heap.size) x f) : VI w' (tX vA vO vV) x f := hx.carry fun b hb _ => ⟨rfl, fun e => hb (by
 rcases e with e | e | e
 ·exact (h.ra.lt b e).2
 ·exact (h.ro.lt b e).2
 ·exact (h.row.lt b e).2)⟩
end Go.Proofs.YtjakgdaodlgeaaaGreatDoor

namespace Go.Proofs.YtjakgdaodlgeaaaGreatDoor
open Go.RowKit Go.Maps

def Rws (w : World) (v : Value) (ls : List (List UInt8)) : Prop := ∃ ao cap, v = .slice ao ls.length cap ∧ ls.length ≤ cap ∧ cap ≤ maxLen ∧ (ls = [] ∨ ∃ b off, ao = some ⟨b, off, none⟩ ∧ b < w.heap.size ∧ ∀ i (h : i < ls.length), ∃ a c, w.cell? ⟨b, off + i, none⟩ = some (.slice a ls[i].length c) ∧ Lx.Byt w (.slice a ls[i].length c) ls[i])
theorem Rws.below {w w' : World} {v : Value} {ls : List (List UInt8)} (h : Rws w v ls) (hb : Below w.heap.size w w') : Rws w' v ls := by
 obtain ⟨ao, cap, e, h1, h2, h3⟩ := h
 refine ⟨ao, cap, e, h1, h2, ?_⟩
 rcases h3 with h3 | ⟨b, off, e2, hlt, hc⟩
 ·exact Or.inl h3
 ·refine Or.inr ⟨b, off, e2, Nat.lt_of_lt_of_le hlt hb.size, fun i hi => ?_⟩
  obtain ⟨a, c, k1, k2⟩ := hc i hi
  exact ⟨a, c, (hb.cell (p := ⟨b, off + i, none⟩) hlt).trans k1, k2.below hb⟩
end Go.Proofs.YtjakgdaodlgeaaaGreatDoor

namespace Go.Proofs.YtjakgdaodlgeaaaGreatDoor
open Go.RowKit Go.Maps

def ArT (ls : List (List UInt8)) (i : Nat) : List UInt8 := [91] ++ body (ls.take i)
def ObT (ls : List (List UInt8)) (i : Nat) : List UInt8 := [123] ++ body (mems 0 (ls.take i))
def kyT (i : Nat) : List UInt8 := [34, kyA i, kyB i, 34, 58]
def cmT (i : Nat) : List UInt8 := if 0 < i then [44] else []
theorem body_snoc' (ls : List (List UInt8)) (l : List UInt8) : body (ls ++ [l]) = body ls ++ (cmT ls.length ++ l) := by
 cases ls with
 | nil => rfl
 | cons a ls => rw [body_snoc _ _ (by simp)]; simp [cmT]
theorem mems_snoc : ∀ (n : Nat) (ls : List (List UInt8)) (l : List UInt8), mems n (ls ++ [l]) = mems n ls ++ [memT (n + ls.length) l]
 | n, [], l => rfl
 | n, a :: ls, l => by
  show memT n a :: mems (n + 1) (ls ++ [l]) = memT n a :: (mems (n + 1) ls ++ [memT (n + (ls.length + 1)) l])
  rw [mems_snoc (n + 1) ls l, show n + 1 + ls.length = n + (ls.length + 1) by omega]
theorem arT_succ {ls : List (List UInt8)} {i : Nat} (h : i < ls.length) : ArT ls (i + 1) = (ArT ls i ++ cmT i) ++ ls[i] := by
 unfold ArT
 rw [List.take_succ_eq_append_getElem h, body_snoc', List.length_take, Nat.min_eq_left (by omega)]
 simp
theorem obT_succ {ls : List (List UInt8)} {i : Nat} (h : i < ls.length) : ObT ls (i + 1) = ((ObT ls i ++ cmT i) ++ kyT i) ++ ls[i] := by
 unfold ObT
 rw [List.take_succ_eq_append_getElem h, mems_snoc, body_snoc', mems_len, List.length_take, Nat.min_eq_left (by omega), Nat.zero_add]
 unfold memT kyT
 simp
theorem arT_len {ls : List (List UInt8)} {i : Nat} (hi : i ≤ 30) (hB : ∀ j (h : j < ls.length), j < i → ls[j].length ≤ 10000) : (ArT ls i).length ≤ 300100 ∧ (ObT ls i).length ≤ 300300 := by
 have hm : ∀ l ∈ ls.take i, l.length ≤ 10000 := fun l hl => by
  obtain ⟨j, hj, rfl⟩ := List.getElem_of_mem hl
  have hj2 : j < i ∧ j < ls.length := by simp at hj; omega
  rw [List.getElem_take]
  exact hB j hj2.2 hj2.1
 have h1 := body_len _ hm
 have h2 := body_len _ (mems_le 0 _ hm)
 rw [mems_len] at h2
 have hl : (ls.take i).length ≤ 30 := by simp; omega
 have e1 := Nat.le_trans h1 (Nat.mul_le_mul_right 10001 hl)
 have e2 := Nat.le_trans h2 (Nat.mul_le_mul_right 10006 hl)
 unfold ArT ObT
 simp only [List.length_append, List.length_cons, List.length_nil]
 omega
theorem lit_row {w : World} {B g : Nat} {c : UInt8} (hg : B ≤ g) (hl : g < w.heap.size) (hc : w.cell? ⟨g, 0, none⟩ = some (.int .u8 (c.toNat : Nat))) : RowB B (.slice (some ⟨g, 0, none⟩) 1 1) [c] w :=
 Or.inr ⟨g, rfl, hg, hl, fun j u hu => by
  match j, hu with
  | 0, hu => simp [Lx.cellsL] at hu; rw [hc, ← hu]
  | j + 1, hu => simp [Lx.cellsL] at hu⟩
structure PU (w : World) (ls : List (List UInt8)) (i : Nat) (vA vO vV : Value) (pvs : List PV) (wr : World) : Prop where
 thr : Thr w.heap.size vA vO vV (ArT ls i) (ObT ls i) pvs wr
 len : pvs.length = i
 ok : ∀ j (h1 : j < ls.length) (h2 : j < pvs.length), judgedS ls[j] (bm 0 0 0) = .ok pvs[j].1
 dep : ∀ pv ∈ pvs, dN pv.1 ≤ 9000
 sz : ∀ j (h : j < ls.length), j < i → ls[j].length ≤ 10000
 bel : Below w.heap.size w wr
 i30 : i ≤ 30 ∧ i ≤ ls.length
theorem PU.start {w w' : World} {ls : List (List UInt8)} (hb : Below w.heap.size w w') (hs : w'.heap.size = w.heap.size + 2) (h1 : w'.cell? ⟨w.heap.size, 0, none⟩ = some (.int .u8 91)) (h2 : w'.cell? ⟨w.heap.size + 1, 0, none⟩ = some (.int .u8 123)) : PU w ls 0 (.slice (some ⟨w.heap.size, 0, none⟩) 1 1) (.slice (some ⟨w.heap.size + 1, 0, none⟩) 1 1) (.slice none 0 0) [] w' := by
 have a1 := lit_row (w := w') (B := w.heap.size) (c := 91) (Nat.le_refl _) (by omega) h1
 have a2 := lit_row (w := w') (B := w.heap.size) (c := 123) (Nat.le_succ _) (by omega) h2
 refine ⟨⟨a1, a2, World.ownsRow_nil w' _ _ 7, fun g hg hg2 => ?_, fun g hg => by simp [Value.ownBlock] at hg, fun pv hp => by simp at hp⟩, rfl, fun j _ h2 => by simp at h2, fun pv hp => by simp at hp, fun j _ hj => by omega, hb, ⟨Nat.zero_le _, Nat.zero_le _⟩⟩
 simp only [Value.ownBlock] at hg hg2
 injection hg with hg
 injection hg2 with hg2
 omega
theorem PU.step {w : World} {ls : List (List UInt8)} {i : Nat} {vA vO vV vA' vO' vV' : Value} {pvs : List PV} {wr w' : World} (h : PU w ls i vA vO vV pvs wr) (hi : i < ls.length) (hi30 : i < 30) {x : JV} {f : Nat → Value} (hj : judgedS ls[i] (bm 0 0 0) = .ok x) (hd : dN x ≤ 9000) (hz : ls[i].length ≤ 10000) (ht : Thr w.heap.size vA' vO' vV' ((ArT ls i ++ cmT i) ++ ls[i]) (((ObT ls i ++ cmT i) ++ kyT i) ++ ls[i]) (pvs ++ [(x, f)]) w') (hb : Below w.heap.size w w') : PU w ls (i + 1) vA' vO' vV' (pvs ++ [(x, f)]) w' := by
 refine ⟨by rw [arT_succ hi, obT_succ hi]; exact ht, by simp [h.len], fun j h1 h2 => ?_, fun pv hp => ?_, fun j h1 h2 => ?_, hb, ⟨by omega, by omega⟩⟩
 ·by_cases e : j < pvs.length
  ·rw [List.getElem_append_left e]; exact h.ok j h1 e
  ·have e2 : j = i := by have := h.len; simp at h2; omega
   subst e2
   rw [List.getElem_append_right (by omega)]
   simpa using hj
 ·rcases List.mem_append.1 hp with hp | hp
  ·exact h.dep pv hp
  ·obtain rfl : pv = (x, f) := by simpa using hp
   exact hd
 ·by_cases e : j < i
  ·exact h.sz j h1 e
  ·have e2 : j = i := by omega
   subst e2
   exact hz
theorem PU.reads {w : World} {ls : List (List UInt8)} {i : Nat} {vA vO vV : Value} {pvs : List PV} {wr : World} (h : PU w ls i vA vO vV pvs wr) :
  judgedS (ArT ls i ++ [93]) (bm 0 0 0) = .ok (.mk 5 false ⟨#[]⟩ 0 ⟨#[]⟩ (pvs.map (·.1)) []) ∧ judgedS (ObT ls i ++ [125]) (bm 0 0 0) = .ok (.mk 6 false ⟨#[]⟩ 0 ⟨#[]⟩ (pvs.map (·.1)) ((List.range i).map kyS)) := by
 have hl : (ls.take i).length = i := by have := h.i30; simp; omega
 have hp := puts_ok (ls := ls.take i) (vs := pvs.map (·.1)) (by have := h.i30; omega) (fun l hl2 => by
  obtain ⟨j, hj, rfl⟩ := List.getElem_of_mem hl2
  have hj2 : j < i ∧ j < ls.length := by simp at hj; omega
  rw [List.getElem_take]
  exact h.sz j hj2.2 hj2.1) (by rw [hl, List.length_map, h.len]) (fun j h1 h2 => by
  have hj2 : j < ls.length := by simp at h1; omega
  rw [List.getElem_take, List.getElem_map]
  exact h.ok j hj2 (by simpa using h2)) (fun v hv => by
  obtain ⟨pv, hm, rfl⟩ := List.mem_map.1 hv
  exact h.dep pv hm)
 rw [hl] at hp
 unfold ArT ObT
 rw [List.append_assoc, List.append_assoc]
 exact hp
end Go.Proofs.YtjakgdaodlgeaaaGreatDoor
