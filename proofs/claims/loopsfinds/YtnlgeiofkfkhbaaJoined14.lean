/-
  What a search is given: what puts a place into a row, what is told of a cycle; a place leaves the path. Conditions: there is room.
-/
import Derived.Test.YtnlgeiofkfkhbaaJoined13
import Derived.Shelf.Abstract
namespace Go.Proofs.Ytnlgeiofkfkhbaa
open Go.RowKit Go.Maps Lg
attribute [local go_sem] setCell_drewN alloc_drewN

/-- A function value that is called with one argument, at the operation. -/
theorem wpList_clo1 {w : World} {ops : Array Oper} {rest : List Oper} {o : Oper} {a : Act} {Q : Exit → Act → World → Prop} (hg : o.guard = none) (t x : Operand) (tys : Array TypeId) (hop : o.op = .call { callee := .value t, args := #[x], argTypes := tys })
  (f : FuncId) (l : List Value) (ht : a.eval t = .func (.func f) #[] l.toArray) (hent : ∀ args w, (callFunc f args).run Try.prog w = .ok (.enter f args) w) (u : Value) (hx : a.eval x = u) (S : Ending → World → Prop)
  (hc : Calls Try.prog f (u :: l).toArray w S) (h : ∀ v w', S (.returned v) w' → wpList Try.prog ops Q rest (a.put o.dst v) w') (hS : ∀ e w', S e w' → ∃ v, e = .returned v) : wpList Try.prog ops Q (o :: rest) a w := by
 refine wpList_plain hg fun K hK => ?_
 have hrun : (execOp a.eval o).run Try.prog w = .ok (.enter f (u :: l).toArray) w := by
  unfold execOp
  simp [hop, resolve, invoke, ht, hx, Deferred.ofValue, hent]
 unfold Oper.wp
 rw [hrun, Oper.upon_enter]
 refine hc.mono fun e w' hh => ?_
 obtain ⟨v, rfl⟩ := hS e w' hh
 exact hK _ _ (h v w' hh)
/-- What a function does that puts a place into a row. -/
def PutOK (K : FuncId) : Prop := ∀ (ab B t : Nat) (A : List Nat) (va : Value) (w : World), t ≤ 1048576 → A.length ≤ 1048576 → ab < B → B ≤ w.heap.size → Bk w ab #[va] → OwnI w B va (il A) →
 Calls Try.prog K #[.int .i64 (t : Int), pt ab] w fun r w' => r = .returned (.tuple #[]) ∧ ∃ va', Bk w' ab #[va'] ∧ OwnI w' B va' (il (A ++ [t])) ∧ But (fun b => b = ab ∨ va.ownBlock = some b) w w' ∧ (∀ b, va'.ownBlock = some b → va.ownBlock = some b ∨ w.heap.size ≤ b)

set_option maxRecDepth 100000 in
theorem put1_any : PutOK 35 := by
 intro ab B t A va w ht hA hab hB ka oa
 obtain ⟨Q0, hQ0⟩ : ∃ P' : Ending → World → Prop, P' = fun r w' => r = .returned (.tuple #[]) ∧ ∃ va', Bk w' ab #[va'] ∧ OwnI w' B va' (il (A ++ [t])) ∧ But (fun b => b = ab ∨ va.ownBlock = some b) w w' ∧ (∀ b, va'.ownBlock = some b → va.ownBlock = some b ∨ w.heap.size ≤ b) := ⟨_, rfl⟩
 rw [← hQ0]
 have HP := hid_intro hQ0
 have HKA := hid_intro ka
 have HOA := hid_intro oa
 have HT := hid_intro (show I64 (t : Int) from ⟨by omega, by omega⟩)
 have HL := hid_intro (show (il A).length ≤ 1099511627776 by rw [il_len]; omega)
 have HSZ := hid_intro hB
 have HAB := hid_intro hab
 have c0 := ka.q1
 have c1 : ∀ o, (w.alloc o).cell? ⟨ab, 0, none⟩ = some va := fun o => (ka.al o).q1
 dsimp only [pt]
 clear hQ0 ka oa ht hA hab hB
 go_enter Try.func35, Try.ntmps35
 go_wp2_with (at_builtin; refine wpList_append_i rfl _ _ rfl B va (il A) rfl HOA.out HSZ.out HL.out (t : Int) HT.out _ rfl rfl ?_; intro g cap w2 ho2 hg2 hloc; have hk2 := (HKA.out.al _).gr hg2 (fun h => absurd (HOA.out.lt h).1 (by have := HAB.out; omega)); have z0 := hk2.q1; have z1 := hk2.frz 0; have HO2 := hid_intro ho2; have HG2 := hid_intro hg2; have HL2 := hid_intro hloc; have HK2 := hid_intro hk2; clear hk2 ho2 hg2 hloc)
 go_end0
 rw [HP.out]
 refine ⟨rfl, _, Bk.set HK2.out 0 _ rfl, ?_, ?_, ?_⟩
 ·rw [il_append]
  exact HO2.out.set _ _ HAB.out
 ·exact ((((But.refl (fun b => b = ab ∨ va.ownBlock = some b) w).alloc _).grown HG2.out (fun b h => Or.inl (Or.inr h)))).set (p := ⟨ab, 0, none⟩) (Or.inl (Or.inl rfl)) _
 ·refine loc_blk (wc := w) (HL2.out.imp id (fun h => by omega)) (Nat.le_refl _)

set_option maxRecDepth 100000 in
theorem put2_any : PutOK 39 := by
 intro ab B t A va w ht hA hab hB ka oa
 obtain ⟨Q0, hQ0⟩ : ∃ P' : Ending → World → Prop, P' = fun r w' => r = .returned (.tuple #[]) ∧ ∃ va', Bk w' ab #[va'] ∧ OwnI w' B va' (il (A ++ [t])) ∧ But (fun b => b = ab ∨ va.ownBlock = some b) w w' ∧ (∀ b, va'.ownBlock = some b → va.ownBlock = some b ∨ w.heap.size ≤ b) := ⟨_, rfl⟩
 rw [← hQ0]
 have HP := hid_intro hQ0
 have HKA := hid_intro ka
 have HOA := hid_intro oa
 have HT := hid_intro (show I64 (t : Int) from ⟨by omega, by omega⟩)
 have HL := hid_intro (show (il A).length ≤ 1099511627776 by rw [il_len]; omega)
 have HSZ := hid_intro hB
 have HAB := hid_intro hab
 have c0 := ka.q1
 have c1 : ∀ o, (w.alloc o).cell? ⟨ab, 0, none⟩ = some va := fun o => (ka.al o).q1
 dsimp only [pt]
 clear hQ0 ka oa ht hA hab hB
 go_enter Try.func39, Try.ntmps39
 go_wp2_with (at_builtin; refine wpList_append_i rfl _ _ rfl B va (il A) rfl HOA.out HSZ.out HL.out (t : Int) HT.out _ rfl rfl ?_; intro g cap w2 ho2 hg2 hloc; have hk2 := (HKA.out.al _).gr hg2 (fun h => absurd (HOA.out.lt h).1 (by have := HAB.out; omega)); have z0 := hk2.q1; have z1 := hk2.frz 0; have HO2 := hid_intro ho2; have HG2 := hid_intro hg2; have HL2 := hid_intro hloc; have HK2 := hid_intro hk2; clear hk2 ho2 hg2 hloc)
 go_end0
 rw [HP.out]
 refine ⟨rfl, _, Bk.set HK2.out 0 _ rfl, ?_, ?_, ?_⟩
 ·rw [il_append]
  exact HO2.out.set _ _ HAB.out
 ·exact ((((But.refl (fun b => b = ab ∨ va.ownBlock = some b) w).alloc _).grown HG2.out (fun b h => Or.inl (Or.inr h)))).set (p := ⟨ab, 0, none⟩) (Or.inl (Or.inl rfl)) _
 ·refine loc_blk (wc := w) (HL2.out.imp id (fun h => by omega)) (Nat.le_refl _)

set_option maxRecDepth 100000 in
theorem put3_any : PutOK 41 := by
 intro ab B t A va w ht hA hab hB ka oa
 obtain ⟨Q0, hQ0⟩ : ∃ P' : Ending → World → Prop, P' = fun r w' => r = .returned (.tuple #[]) ∧ ∃ va', Bk w' ab #[va'] ∧ OwnI w' B va' (il (A ++ [t])) ∧ But (fun b => b = ab ∨ va.ownBlock = some b) w w' ∧ (∀ b, va'.ownBlock = some b → va.ownBlock = some b ∨ w.heap.size ≤ b) := ⟨_, rfl⟩
 rw [← hQ0]
 have HP := hid_intro hQ0
 have HKA := hid_intro ka
 have HOA := hid_intro oa
 have HT := hid_intro (show I64 (t : Int) from ⟨by omega, by omega⟩)
 have HL := hid_intro (show (il A).length ≤ 1099511627776 by rw [il_len]; omega)
 have HSZ := hid_intro hB
 have HAB := hid_intro hab
 have c0 := ka.q1
 have c1 : ∀ o, (w.alloc o).cell? ⟨ab, 0, none⟩ = some va := fun o => (ka.al o).q1
 dsimp only [pt]
 clear hQ0 ka oa ht hA hab hB
 go_enter Try.func41, Try.ntmps41
 go_wp2_with (at_builtin; refine wpList_append_i rfl _ _ rfl B va (il A) rfl HOA.out HSZ.out HL.out (t : Int) HT.out _ rfl rfl ?_; intro g cap w2 ho2 hg2 hloc; have hk2 := (HKA.out.al _).gr hg2 (fun h => absurd (HOA.out.lt h).1 (by have := HAB.out; omega)); have z0 := hk2.q1; have z1 := hk2.frz 0; have HO2 := hid_intro ho2; have HG2 := hid_intro hg2; have HL2 := hid_intro hloc; have HK2 := hid_intro hk2; clear hk2 ho2 hg2 hloc)
 go_end0
 rw [HP.out]
 refine ⟨rfl, _, Bk.set HK2.out 0 _ rfl, ?_, ?_, ?_⟩
 ·rw [il_append]
  exact HO2.out.set _ _ HAB.out
 ·exact ((((But.refl (fun b => b = ab ∨ va.ownBlock = some b) w).alloc _).grown HG2.out (fun b h => Or.inl (Or.inr h)))).set (p := ⟨ab, 0, none⟩) (Or.inl (Or.inl rfl)) _
 ·refine loc_blk (wc := w) (HL2.out.imp id (fun h => by omega)) (Nat.le_refl _)


set_option maxRecDepth 100000 in
theorem met_any (cy : Nat) (x v : Value) (ao : Option Addr) (n cap : Nat) (w : World) (h : Bk w cy #[x]) (hv : v = .slice ao n cap) :
  Calls Try.prog 36 #[v, pt cy] w fun r w' => r = .returned (.bool false) ∧ w' = w.setCell ⟨cy, 0, none⟩ v := by
 subst hv
 have c0 := h.q1
 have z0 := h.frz 0
 dsimp only [pt]
 clear h
 go_enter Try.func36, Try.ntmps36
 go_wp2_with fail
 go_ret
 exact ⟨rfl, rfl⟩
set_option maxRecDepth 100000 in
theorem goOn_any (v : Value) (w : World) :
  Calls Try.prog 38 #[v] w fun r w' => r = .returned (.bool true) ∧ w' = w := by
 go_enter Try.func38, Try.ntmps38
 go_wp2_with fail
 go_ret
 exact ⟨rfl, rfl⟩
end Go.Proofs.Ytnlgeiofkfkhbaa
