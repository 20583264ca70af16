/-
  A row of numbers made, and stored into; upTo. Conditions: at most 2^40 numbers.
-/
import Derived.Test.YtnlgeiofkfkhbaaJoined4
import Derived.OwnWalk
namespace Go.Proofs.Ytnlgeiofkfkhbaa
open Go.RowKit Go.Maps
attribute [local go_sem] setCell_drewN alloc_drewN

theorem ivs_rep (n : Nat) (x : Int) : ivs (List.replicate n x) = List.replicate n (.int .i64 x) := by simp [ivs]
theorem i64_0 : I64 0 := by unfold I64; omega
/-- 'make([]int, n)'. -/
theorem wpList_make_i {w : World} {ops : Array Oper} {rest : List Oper} {o : Oper} {a : Act} {Q : Exit → Act → World → Prop} (hg : o.guard = none) (l c : Operand) (hop : o.op = Op.makeSlice 23 l c) (B n : Nat) (hl : a.eval l = .int .i64 (n : Int)) (hc : a.eval c = .int .i64 (n : Int)) (hn : n ≤ 1099511627776) (hB : B ≤ w.heap.size)
  (h : ∀ w', OwnI w' B (.slice (some ⟨w.heap.size, 0, none⟩) n n) (List.replicate n 0) → w.grownBy w' none → w'.heap.size = w'.heap.size → wpList Try.prog ops Q rest (a.put o.dst (.slice (some ⟨w.heap.size, 0, none⟩) n n)) w') : wpList Try.prog ops Q (o :: rest) a w := by
 obtain ⟨i0, hi, hz0, hz1, hz2⟩ := info_parts infoInt
 refine wpList_make_full w hg l c 23 hop B 3 i0 (.int .i64 0) 1 Try.underlying23 hi hz0 hz1 .i64 .i64 (n : Int) (n : Int) n hl hc rfl rfl (by rw [hz2]; omega) (by unfold maxLen; omega) hB (fun w' k1 k2 => h w' ⟨?_, ?_⟩ k2 rfl)
 ·rw [ivs_rep, List.length_replicate]
  rw [Nat.mul_one, show (Value.int .i64 0).cells = #[Value.int .i64 0] from rfl, toList_madeCells_one] at k1
  exact k1
 ·intro x hx
  rw [List.mem_replicate] at hx
  rw [hx.2]; exact i64_0
theorem OwnI.put {w : World} {B g n cap : Nat} {l : List Int} (h : OwnI w B (.slice (some ⟨g, 0, none⟩) n cap) l) (hn : n = l.length) (j : Nat) (x : Int) (hx : I64 x) : OwnI (w.setCell ⟨g, j, none⟩ (.int .i64 x)) B (.slice (some ⟨g, 0, none⟩) n cap) (l.set j x) ∧ w.grownBy (w.setCell ⟨g, j, none⟩ (.int .i64 x)) (some g) := by
 subst hn
 obtain ⟨h1, h2⟩ := h
 obtain ⟨k1, k2⟩ := h1.stored j (.int .i64 x)
 refine ⟨⟨?_, fun y hy => ?_⟩, k2⟩
 ·have e : (ivs l).set j (.int .i64 x) = ivs (l.set j x) := by unfold ivs; rw [List.map_set]
  rw [List.length_set, ← e]
  exact k1
 ·rcases List.mem_or_eq_of_mem_set hy with hy | rfl
  ·exact h2 y hy
  ·exact hx
theorem OwnI.at {w : World} {B g n cap : Nat} {l : List Int} (h : OwnI w B (.slice (some ⟨g, 0, none⟩) n cap) l) (hn : n = l.length) {j : Nat} (hj : j < l.length) : w.cell? ⟨g, j, none⟩ = some (.int .i64 (ia l j)) ∧ w.frozen? ⟨g, j, none⟩ = false := by
 subst hn
 refine ⟨?_, h.1.frozenAt j⟩
 rw [h.1.cellAt j (by omega)]
 unfold ivs ia
 rw [List.getElem?_map, List.getElem?_eq_getElem hj, List.getD_eq_getElem?_getD, List.getElem?_eq_getElem hj]; rfl
/-- The numbers below one. -/
def upL (N : Nat) : List Int := (List.range N).map fun (k : Nat) => (k : Int)
def upI (N i : Nat) : List Int := (List.range N).map fun (k : Nat) => if k < i then (k : Int) else 0
theorem upI_len (N i : Nat) : (upI N i).length = N := by simp [upI]
theorem upI_0 (N : Nat) : upI N 0 = List.replicate N 0 := by
 apply List.ext_getElem (by simp [upI])
 intro i h1 h2
 simp [upI]
theorem upI_all (N : Nat) : upI N N = upL N := by
 unfold upI upL
 exact List.map_congr_left fun k hk => by rw [if_pos (List.mem_range.1 hk)]
theorem upI_set (N i : Nat) : (upI N i).set i (i : Int) = upI N (i + 1) := by
 apply List.ext_getElem (by simp [upI])
 intro j h1 h2
 rw [List.getElem_set]
 simp only [upI, List.getElem_map, List.getElem_range]
 by_cases e : i = j
 ·subst e; simp
 ·rw [if_neg e]
  by_cases k : j < i
  ·rw [if_pos k, if_pos (by omega)]
  ·rw [if_neg k, if_neg (by omega)]

set_option maxRecDepth 100000 in
set_option maxHeartbeats 3200000 in
theorem upTo_nat (N : Nat) (hN : N ≤ 1099511627776) (w : World) :
  Calls Try.prog 26 #[.int .i64 (N : Int)] w fun r w' => ∃ v, r = .returned v ∧ OwnI w' w.heap.size v (upL N) ∧ Below w.heap.size w w' := by
 obtain ⟨P, hP⟩ : ∃ P : Ending → World → Prop, P = fun r w' => ∃ v, r = .returned v ∧ OwnI w' w.heap.size v (upL N) ∧ Below w.heap.size w w' := ⟨_, rfl⟩
 rw [← hP]
 have HP := hid_intro hP
 have hmax : max (N : Int) 0 = (N : Int) := by omega
 have hge : (0 : Int) ≤ (N : Int) := by omega
 have hNI : (N : Int) ≤ 1099511627776 := by omega
 have HN := hid_intro hN
 clear hP hN
 go_enter Try.func26, Try.ntmps26
 go_wp2_with (at_make; refine wpList_make_i rfl _ _ rfl w.heap.size N rfl rfl HN.out (Nat.le_refl _) ?_; intro w1 ho1 hg1 _; have HO1 := hid_intro ho1; have HB1 : Hid (Below w.heap.size w w1) := hid_intro ((Below.refl _ _).grown hg1 (Nat.le_refl _) (fun b e => by cases e)); clear ho1 hg1)
 go_loopg [10] (N) (fun g s10 wr => ∃ i : Nat, g = N - i ∧ s10 = .int .i64 (i : Int) ∧ Hid (Below w.heap.size w wr ∧ i ≤ N ∧ OwnI wr w.heap.size (.slice (some ⟨w.heap.size, 0, none⟩) N N) (upI N i)))
 case atStart => exact ⟨0, rfl, rfl, hid_intro ⟨HB1.out, Nat.zero_le _, by rw [upI_0]; exact HO1.out⟩⟩
 case round =>
  obtain ⟨i, rfl, rfl, HI⟩ := hrel
  by_cases hlt : i < N
  ·have hI : (i : Int) < (N : Int) := by omega
   obtain ⟨c0, z0⟩ := HI.out.2.2.at (upI_len N i).symm (by rw [upI_len]; exact hlt)
   have HQ := hid_intro (HI.out.2.2.put (upI_len N i).symm i (i : Int) (by unfold I64; omega))
   have HLT := hid_intro hlt
   have HBB := hid_intro (HI.out.1.grown HQ.out.2 HI.out.1.size (fun b e => by injection e with e; omega))
   go_wp2_with fail
   go_roundg (N - (i + 1))
   case measure => have := HLT.out; omega
   case rel => exact ⟨i + 1, rfl, by go_num, hid_intro ⟨HBB.out, HLT.out, by rw [← upI_set]; exact HQ.out.1⟩⟩
  ·have hI : ¬ (i : Int) < (N : Int) := by omega
   have he : i = N := by have := HI.out.2.1; omega
   go_wp2_with fail
   rw [HP.out]
   exact ⟨_, rfl, by subst he; rw [← upI_all]; exact HI.out.2.2, HI.out.1⟩

set_option maxRecDepth 100000 in
set_option maxHeartbeats 3200000 in
theorem upTo_neg (n : Int) (hn : n < 0) (w : World) :
  Calls Try.prog 26 #[.int .i64 n] w fun r w' => ∃ v, r = .returned v ∧ OwnI w' w.heap.size v [] ∧ Below w.heap.size w w' := by
 obtain ⟨P, hP⟩ : ∃ P : Ending → World → Prop, P = fun r w' => ∃ v, r = .returned v ∧ OwnI w' w.heap.size v [] ∧ Below w.heap.size w w' := ⟨_, rfl⟩
 rw [← hP]
 have HP := hid_intro hP
 have hmax : max n 0 = 0 := by omega
 have hge : ¬ (0 : Int) ≤ n := by omega
 have hle : n ≤ 0 := by omega
 clear hP hn
 go_enter Try.func26, Try.ntmps26
 go_wp2_with (at_make; refine wpList_make_i rfl _ _ rfl w.heap.size 0 rfl rfl (Nat.zero_le _) (Nat.le_refl _) ?_; intro w1 ho1 hg1 _; have HO1 := hid_intro ho1; have HB1 : Hid (Below w.heap.size w w1) := hid_intro ((Below.refl _ _).grown hg1 (Nat.le_refl _) (fun b e => by cases e)); clear ho1 hg1)
 go_loopg [10] (0) (fun g s10 wr => g = 0 ∧ s10 = .int .i64 0 ∧ Hid (Below w.heap.size w wr ∧ OwnI wr w.heap.size (.slice (some ⟨w.heap.size, 0, none⟩) 0 0) []))
 case atStart => exact ⟨rfl, rfl, hid_intro ⟨HB1.out, HO1.out⟩⟩
 case round =>
  obtain ⟨rfl, rfl, HI⟩ := hrel
  go_wp2_with fail
  rw [HP.out]
  exact ⟨_, rfl, HI.out.2, HI.out.1⟩

theorem upTo_any (n : Int) (hn : n ≤ 1099511627776) (w : World) :
  Calls Try.prog 26 #[.int .i64 n] w fun r w' => ∃ v, r = .returned v ∧ OwnI w' w.heap.size v (upL n.toNat) ∧ Below w.heap.size w w' := by
 by_cases h : n < 0
 ·have e : n.toNat = 0 := by omega
  rw [e]
  exact upTo_neg n h w
 ·have e : n = (n.toNat : Int) := by omega
  have := upTo_nat n.toNat (by omega) w
  rw [← e] at this
  exact this
end Go.Proofs.Ytnlgeiofkfkhbaa
