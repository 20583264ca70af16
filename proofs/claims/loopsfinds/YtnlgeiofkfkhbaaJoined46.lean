/-
  upTo: where its row lies. Condition: at most 2^40 numbers.
-/
import Derived.Test.YtnlgeiofkfkhbaaJoined5
namespace Go.Proofs.Ytnlgeiofkfkhbaa
open Go.RowKit Go.Maps
attribute [local go_sem] setCell_drewN alloc_drewN

set_option maxRecDepth 100000 in
set_option maxHeartbeats 3200000 in
theorem upTo_rnat (N : Nat) (hN : N ≤ 1099511627776) (w : World) :
  Calls Try.prog 26 #[.int .i64 (N : Int)] w fun r w' => r = .returned (.slice (some ⟨w.heap.size, 0, none⟩) N N) ∧ OwnI w' w.heap.size (.slice (some ⟨w.heap.size, 0, none⟩) N N) (upL N) ∧ Below w.heap.size w w' := by
 obtain ⟨P, hP⟩ : ∃ P : Ending → World → Prop, P = fun r w' => r = .returned (.slice (some ⟨w.heap.size, 0, none⟩) N N) ∧ OwnI w' w.heap.size (.slice (some ⟨w.heap.size, 0, none⟩) N N) (upL N) ∧ Below w.heap.size w w' := ⟨_, rfl⟩
 rw [← hP]
 have HP := hid_intro hP
 have hmax : max (N : Int) 0 = (N : Int) := by omega
 have hge : (0 : Int) ≤ (N : Int) := by omega
 have hNI : (N : Int) ≤ 1099511627776 := by omega
 have HN := hid_intro hN
 clear hP hN
 go_enter Try.func26, Try.ntmps26
 go_wp2_with (at_make; refine wpList_make_i rfl _ _ rfl w.heap.size N rfl rfl HN.out (Nat.le_refl _) ?_; intro w1 ho1 hg1 _; have HO1 := hid_intro ho1; have HB1 : Hid (Below w.heap.size w w1) := hid_intro ((Below.refl _ _).grown hg1 (Nat.le_refl _) (fun b e => by cases e)); clear ho1 hg1)
 go_loopg [10] (N) (fun g s10 wr => ∃ i : Nat, g = N - i ∧ s10 = .int .i64 (i : Int) ∧ Hid (Below w.heap.size w wr ∧ i ≤ N ∧ OwnI wr w.heap.size (.slice (some ⟨w.heap.size, 0, none⟩) N N) (upI N i)))
 case atStart => exact ⟨0, rfl, rfl, hid_intro ⟨HB1.out, Nat.zero_le _, by rw [upI_0]; exact HO1.out⟩⟩
 case round =>
  obtain ⟨i, rfl, rfl, HI⟩ := hrel
  by_cases hlt : i < N
  ·have hI : (i : Int) < (N : Int) := by omega
   obtain ⟨c0, z0⟩ := HI.out.2.2.at (upI_len N i).symm (by rw [upI_len]; exact hlt)
   have HQ := hid_intro (HI.out.2.2.put (upI_len N i).symm i (i : Int) (by unfold I64; omega))
   have HLT := hid_intro hlt
   have HBB := hid_intro (HI.out.1.grown HQ.out.2 HI.out.1.size (fun b e => by injection e with e; omega))
   go_wp2_with fail
   go_roundg (N - (i + 1))
   case measure => have := HLT.out; omega
   case rel => exact ⟨i + 1, rfl, by go_num, hid_intro ⟨HBB.out, HLT.out, by rw [← upI_set]; exact HQ.out.1⟩⟩
  ·have hI : ¬ (i : Int) < (N : Int) := by omega
   have he : i = N := by have := HI.out.2.1; omega
   go_wp2_with fail
   rw [HP.out]
   exact ⟨rfl, by subst he; rw [← upI_all]; exact HI.out.2.2, HI.out.1⟩

set_option maxRecDepth 100000 in
set_option maxHeartbeats 3200000 in
theorem upTo_rneg (n : Int) (hn : n < 0) (w : World) :
  Calls Try.prog 26 #[.int .i64 n] w fun r w' => r = .returned (.slice (some ⟨w.heap.size, 0, none⟩) 0 0) ∧ OwnI w' w.heap.size (.slice (some ⟨w.heap.size, 0, none⟩) 0 0) (upL 0) ∧ Below w.heap.size w w' := by
 obtain ⟨P, hP⟩ : ∃ P : Ending → World → Prop, P = fun r w' => r = .returned (.slice (some ⟨w.heap.size, 0, none⟩) 0 0) ∧ OwnI w' w.heap.size (.slice (some ⟨w.heap.size, 0, none⟩) 0 0) (upL 0) ∧ Below w.heap.size w w' := ⟨_, rfl⟩
 rw [← hP]
 have HP := hid_intro hP
 have hmax : max n 0 = 0 := by omega
 have hge : ¬ (0 : Int) ≤ n := by omega
 have hle : n ≤ 0 := by omega
 clear hP hn
 go_enter Try.func26, Try.ntmps26
 go_wp2_with (at_make; refine wpList_make_i rfl _ _ rfl w.heap.size 0 rfl rfl (Nat.zero_le _) (Nat.le_refl _) ?_; intro w1 ho1 hg1 _; have HO1 := hid_intro ho1; have HB1 : Hid (Below w.heap.size w w1) := hid_intro ((Below.refl _ _).grown hg1 (Nat.le_refl _) (fun b e => by cases e)); clear ho1 hg1)
 go_loopg [10] (0) (fun g s10 wr => g = 0 ∧ s10 = .int .i64 0 ∧ Hid (Below w.heap.size w wr ∧ OwnI wr w.heap.size (.slice (some ⟨w.heap.size, 0, none⟩) 0 0) []))
 case atStart => exact ⟨rfl, rfl, hid_intro ⟨HB1.out, HO1.out⟩⟩
 case round =>
  obtain ⟨rfl, rfl, HI⟩ := hrel
  go_wp2_with fail
  rw [HP.out]
  exact ⟨rfl, HI.out.2, HI.out.1⟩

theorem upTo_row (n : Int) (hn : n ≤ 1099511627776) (w : World) :
  Calls Try.prog 26 #[.int .i64 n] w fun r w' => r = .returned (.slice (some ⟨w.heap.size, 0, none⟩) n.toNat n.toNat) ∧ OwnI w' w.heap.size (.slice (some ⟨w.heap.size, 0, none⟩) n.toNat n.toNat) (upL n.toNat) ∧ Below w.heap.size w w' := by
 by_cases h : n < 0
 ·have e : n.toNat = 0 := by omega
  rw [e]
  exact upTo_rneg n h w
 ·have e : n = (n.toNat : Int) := by omega
  have := upTo_rnat n.toNat (by omega) w
  rw [← e] at this
  exact this
end Go.Proofs.Ytnlgeiofkfkhbaa
