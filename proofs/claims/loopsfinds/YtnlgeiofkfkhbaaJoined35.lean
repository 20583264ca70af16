/-
  slices.Backward at numbers: what its function hands on. Conditions: at most 2^20 numbers.
-/
import Derived.Test.YtnlgeiofkfkhbaaJoined34
import Derived.RangeFuncNested
import Derived.RangeFuncBound
import Derived.RangeFuncCalls
import Derived.RangeFuncLeaves
import Derived.RangeFuncWrites
import Derived.Shelf.Abstract
import Derived.Shelf.RegionOpen
import Derived.OwnWalkIn
import Derived.TacticsInMore
import Derived.LoopNIn
import Derived.LoopIn
namespace Go.Proofs.Ytnlgeiofkfkhbaa
open Go.RowKit Go.Maps Lg
attribute [local go_sem] Oper.semAt_some

/-- What a round leaves of two blocks. -/
def Kb (x y : Nat) (A B : World) : Prop := B.heap[x]? = A.heap[x]? ∧ B.heap[y]? = A.heap[y]?
/-- What has come when the places from k on are over. -/
def bw {α : Type} (xs : List α) (k : Nat) : List α := (xs.drop k).reverse
theorem bw_len {α : Type} (xs : List α) (k : Nat) : (bw xs k).length = xs.length - k := by simp [bw]
theorem bw_step {α : Type} (xs : List α) {k : Nat} (hk : k < xs.length) : bw xs (k + 1) ++ [xs[k]] = bw xs k := by
 unfold bw
 rw [List.drop_eq_getElem_cons hk, List.reverse_cons]
theorem bw_end {α : Type} (xs : List α) : bw xs xs.length = [] := by simp [bw]

set_option maxRecDepth 100000 in
set_option maxHeartbeats 2000000 in
theorem back1_in {α : Type} (en : α → Nat × Nat) (xs : List α) (F : Fence) (n : Nat) (h50 : F.fn 50) (hro : F.round = none) (hn : 1 ≤ n) (l Bs b off cap : Nat) (zs : List Nat) (hl : zs.length ≤ 1048576) (hxl : xs.length = zs.length) (hen : ∀ k (h : k < xs.length), en xs[k] = (k, zs.getD k 0)) (J Jx : List α → World → Prop)
  (hY : ∀ pre x W, J pre W → pre.length < zs.length → YieldAt F (n - 1) Try.prog l #[.int .i64 ((en x).1 : Int), .int .i64 ((en x).2 : Int)] W fun e W' =>
   (e = .returned (.bool true) ∧ J (pre ++ [x]) W' ∧ Kb Bs b W W') ∨ (e = .returned (.bool false) ∧ Jx (pre ++ [x]) W'))
  (W : World) (hBs : W.cell? ⟨Bs, 0, none⟩ = some (.slice (some ⟨b, off, none⟩) zs.length cap)) (hc : ∀ j (h : j < zs.length), W.cell? ⟨b, off + j, none⟩ = some (.int .i64 (zs[j] : Int))) (h0 : J [] W) :
  CallsIn F n Try.prog 50 #[.func (.yield l) #[] #[], .pointer (some ⟨Bs, 0, none⟩)] W fun e W' => (∃ v, e = .returned v) ∧ ((∃ ys, ys = bw xs 0 ∧ J ys W') ∨ (∃ pre, True ∧ Jx pre W')) := by
 have hlI : (zs.length : Int) ≤ 1048576 := by omega
 refine callsIn_of_wp Try.func50 rfl h50 ?_ hro
 simp only [Try.ntmps50, List.size_toArray, List.length_cons, List.length_nil, Nat.reduceAdd, Nat.reduceSub, Array.replicate_succ, Array.replicate_zero, List.push_toArray, List.append_toArray, List.nil_append, List.cons_append]
 gi_wp2
 gi_loopw [3] (fun i wr => ∃ k : Nat, k ≤ zs.length ∧ i = .int .i64 ((k : Int) - 1) ∧ J (bw xs k) wr ∧ Kb Bs b W wr)
  (fun i _ => (intOf i + 1).toNat)
 case atStart => exact ⟨zs.length, Nat.le_refl _, rfl, by rw [← hxl, bw_end]; exact h0, rfl, rfl⟩
 case round =>
  obtain ⟨k, hk, rfl, hJs, hK⟩ := hrel
  have hbs := (World.cell?_of_block (w := W) (w' := wr) (a := ⟨Bs, 0, none⟩) hK.1).trans hBs
  cases k with
  | zero =>
   gi_wp2
   go_end0
   exact ⟨⟨_, rfl⟩, .inl ⟨_, rfl, hJs⟩⟩
  | succ k =>
   have hlt : k < zs.length := by omega
   have hcx := (World.cell?_of_block (w := W) (w' := wr) (a := ⟨b, off + k, none⟩) hK.2).trans (hc k hlt)
   have hgd : zs.getD k 0 = zs[k] := by simp [hlt]
   have hxk : k < xs.length := by omega
   obtain ⟨fn, tmps, assign, body, hy, hR⟩ := hY _ xs[k] wr hJs (by rw [bw_len]; omega)
   rw [hen k hxk, hgd] at hy
   dsimp only at hy
   have hkI : ((k + 1 : Nat) : Int) - 1 = (k : Int) := by omega
   have hkl : (k : Int) < (zs.length : Int) := by omega
   have hk0 : (0 : Int) ≤ (k : Int) := by omega
   rw [hkI]
   clear hc hBs hen
   have hbs2 := bw_step xs hxk
   generalize zs[k] = y at *
   clear hgd
   gi_wp2
   refine hR.mono ?_
   rintro e W3 (⟨rfl, hJ3, hk3⟩ | ⟨rfl, hJx3⟩)
   ·have hkw : IntKind.i64.wrap ((k : Int) - 1) = (k : Int) - 1 := by simp [IntKind.wrap, IntKind.bits, IntKind.signed]; omega
    gi_wp2
    go_roundw
    case rel => exact ⟨k, by omega, by simp, by rw [hbs2] at hJ3; exact hJ3, hk3.1.trans hK.1, hk3.2.trans hK.2⟩
    case measure => simp [intOf]
   ·gi_wp2
    refine bodyPost_ret (results_none rfl _ _ _) rfl ?_
    exact ⟨⟨_, rfl⟩, .inr ⟨_, trivial, hJx3⟩⟩
set_option maxRecDepth 100000 in
set_option maxHeartbeats 2000000 in
theorem back1_nil_in {α : Type} (F : Fence) (n : Nat) (h50 : F.fn 50) (hro : F.round = none) (l Bs cap : Nat) (ao : Option Addr) (J : List α → World → Prop) (W : World) (hBs : W.cell? ⟨Bs, 0, none⟩ = some (.slice ao 0 cap)) (h0 : J [] W) :
  CallsIn F n Try.prog 50 #[.func (.yield l) #[] #[], .pointer (some ⟨Bs, 0, none⟩)] W fun e W' => (∃ v, e = .returned v) ∧ J [] W' := by
 refine callsIn_of_wp Try.func50 rfl h50 ?_ hro
 simp only [Try.ntmps50, List.size_toArray, List.length_cons, List.length_nil, Nat.reduceAdd, Nat.reduceSub, Array.replicate_succ, Array.replicate_zero, List.push_toArray, List.append_toArray, List.nil_append, List.cons_append]
 gi_wp2
 gi_loopw [3] (fun i wr => i = .int .i64 (-1) ∧ J [] wr) (fun _ _ => 0)
 case atStart => exact ⟨rfl, h0⟩
 case round =>
  obtain ⟨rfl, hJs⟩ := hrel
  gi_wp2
  go_end0
  exact ⟨⟨_, rfl⟩, hJs⟩
/-- slices.Backward's function, for whatever is done with what it hands on. -/
theorem back_stops {α : Type} (en : α → Nat × Nat) (xs : List α) (F : Fence) (n : Nat) (h50 : F.fn 50) (hro : F.round = none) (hn : 1 ≤ n) (Bs b : Nat) (ao : Option Addr) (cap : Nat) (zs : List Nat) (hl : zs.length ≤ 1048576) (hxl : xs.length = zs.length) (hen : ∀ k (h : k < xs.length), en xs[k] = (k, zs.getD k 0)) (w : World) (hBs : Bs < w.heap.size) (hb : b < w.heap.size)
  (hc : w.cell? ⟨Bs, 0, none⟩ = some (.slice ao zs.length cap)) (hz : zs = [] ∨ ∃ off, ao = some ⟨b, off, none⟩ ∧ ∀ j (h : j < zs.length), w.cell? ⟨b, off + j, none⟩ = some (.int .i64 (zs[j] : Int))) :
  SeqStopsK F n Try.prog 50 #[.pointer (some ⟨Bs, 0, none⟩)] (fun x : α => #[Value.int .i64 ((en x).1 : Int), Value.int .i64 ((en x).2 : Int)]) (Kb Bs b) (fun ys => ys = bw xs 0) (fun _ => True) zs.length w := fun l J Jx W hW _ _ hY h0 => by
 have hc' := (hW.cell (p := ⟨Bs, 0, none⟩) hBs).trans hc
 rcases hz with rfl | ⟨off, rfl, hcs⟩
 ·exact (back1_nil_in F n h50 hro l Bs cap ao J W hc' h0).mono fun e W' ⟨he, hj⟩ => ⟨he, .inl ⟨_, by rw [List.eq_nil_of_length_eq_zero hxl]; rfl, hj⟩⟩
 ·exact back1_in en xs F n h50 hro hn l Bs b off cap zs hl hxl hen J Jx hY W hc' (fun j hj => (hW.cell (p := ⟨b, off + j, none⟩) hb).trans (hcs j hj)) h0
end Go.Proofs.Ytnlgeiofkfkhbaa
