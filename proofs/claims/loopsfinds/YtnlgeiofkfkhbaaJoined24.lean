/-
  eachCounting hands on the two numbers of each edge that counts: for whatever is done with them. Conditions: at most 2^20 edges.
-/
import Derived.Test.YtnlgeiofkfkhbaaJoined19
namespace Go.Proofs.Ytnlgeiofkfkhbaa
open Go.RowKit Go.Maps Lg
attribute [local go_sem] setCell_drewN alloc_drewN

/-- A function value that is called with two arguments, at the operation. -/
theorem wpList_clo2 {w : World} {ops : Array Oper} {rest : List Oper} {o : Oper} {a : Act} {Q : Exit → Act → World → Prop} (hg : o.guard = none) (t x y : Operand) (tys : Array TypeId) (hop : o.op = .call { callee := .value t, args := #[x, y], argTypes := tys })
  (f : FuncId) (l : List Value) (ht : a.eval t = .func (.func f) #[] l.toArray) (hent : ∀ args w, (callFunc f args).run Try.prog w = .ok (.enter f args) w) (u v : Value) (hx : a.eval x = u) (hy : a.eval y = v) (S : Ending → World → Prop)
  (hc : Calls Try.prog f (u :: v :: l).toArray w S) (h : ∀ v w', S (.returned v) w' → wpList Try.prog ops Q rest (a.put o.dst v) w') (hS : ∀ e w', S e w' → ∃ v, e = .returned v) : wpList Try.prog ops Q (o :: rest) a w := by
 refine wpList_plain hg fun K hK => ?_
 have hrun : (execOp a.eval o).run Try.prog w = .ok (.enter f (u :: v :: l).toArray) w := by
  unfold execOp
  simp [hop, resolve, invoke, ht, hx, hy, Deferred.ofValue, hent]
 unfold Oper.wp
 rw [hrun, Oper.upon_enter]
 refine hc.mono fun e w' hh => ?_
 obtain ⟨v, rfl⟩ := hS e w' hh
 exact hK _ _ (h v w' hh)
def wi (n k : Int) : Bool := decide (0 ≤ k) && decide (k < n)
theorem cnt_parts (n : Int) (e : Ed) : cnt n e = (e.s && (wi n e.f && wi n e.t)) := by
 unfold cnt wi; rw [Bool.and_assoc]

set_option maxRecDepth 100000 in
set_option maxHeartbeats 3200000 in
theorem each_any (n : Int) (E : List Ed) (hEl : E.length ≤ 1048576) (v : Value) (f : FuncId) (l : List Value) (hent : ∀ args w, (callFunc f args).run Try.prog w = .ok (.enter f args) w) (I : Nat → World → Prop)
  (hbel : ∀ i w w', I i w → Below w.heap.size w w' → I i w') (hE : ∀ i w, I i w → EdI w v E) (hno : ∀ i (h : i < E.length) w, cnt n E[i] = false → I i w → I (i + 1) w)
  (hyes : ∀ i (h : i < E.length) w, cnt n E[i] = true → I i w → Calls Try.prog f (.int .i64 E[i].f :: .int .i64 E[i].t :: l).toArray w fun r w' => r = .returned (.tuple #[]) ∧ I (i + 1) w')
  (w : World) (h0 : I 0 w) : Calls Try.prog 22 #[.int .i64 n, v, .func (.func f) #[] l.toArray] w fun r w' => r = .returned (.tuple #[]) ∧ I E.length w' := by
 obtain ⟨Q0, hQ0⟩ : ∃ P' : Ending → World → Prop, P' = fun r w' => r = .returned (.tuple #[]) ∧ I E.length w' := ⟨_, rfl⟩
 rw [← hQ0]
 have HQ := hid_intro hQ0
 have HE := hid_intro hE
 have HBL := hid_intro hbel
 have HNO := hid_intro hno
 have HYE := hid_intro hyes
 have HEN := hid_intro hent
 have H0 := hid_intro h0
 have hEI : (E.length : Int) ≤ 1048576 := by omega
 obtain ⟨eo, ec, rfl, -⟩ := hE 0 w h0
 clear hQ0 hE hbel hno hyes hent h0 hEl
 go_enter Try.func22, Try.ntmps22
 go_wp2_with fail
 go_loopg [7, 10] (E.length) (fun g s7 s10 wr => ∃ i : Nat, g = E.length - i ∧ s10 = .int .i64 (i : Int) ∧ i ≤ E.length ∧ Hid (I i wr))
 case atStart => exact ⟨0, rfl, rfl, Nat.zero_le _, H0⟩
 case round =>
  obtain ⟨i, rfl, rfl, hil, HI⟩ := hrel
  by_cases hi : i < E.length
  ·have hiI : (i : Int) < (E.length : Int) := by omega
   have HLT := hid_intro hi
   obtain ⟨eo', ec', he, -, -, hr⟩ := HE.out i wr HI.out
   injection he with he1 he2 he3
   subst he1 he3
   obtain ⟨bb, off, rfl, hbl, hcell⟩ := hr.resolve_left (fun e => by rw [e] at hi; exact absurd hi (by simp))
   obtain ⟨k0, k1, k2, k3, k4⟩ := hcell i hi
   have HN := hid_intro (fun w' hc hI => HNO.out i hi w' hc hI)
   have HY := hid_intro (fun w' hc hI => HYE.out i hi w' hc hI)
   have hcp := cnt_parts n E[i]
   clear hcell hil HNO HYE
   generalize E[i] = ed at *
   clear hi
   obtain ⟨ef, et, wd, sv, dy⟩ := ed
   dsimp only at k0 k1 k2 k3 k4 hcp HY
   have HBX := hid_intro (HBL.out i wr _ HI.out (vb_a (Below.refl _ _) (.cells #[.int .i64 ef, .int .i64 et, .string wd, .bool sv, .string dy] 32)))
   cases sv with
   | false =>
    have HR := hid_intro (HN.out _ (by rw [hcp]; rfl) HBX.out)
    clear hcp
    go_wp2_with fail
    go_roundg (E.length - (i + 1))
    case measure => have := HLT.out; omega
    case rel => exact ⟨i + 1, rfl, by go_num, HLT.out, HR⟩
   | true =>
    have HW := hid_intro (fun k w' => (show Calls Try.prog 37 #[.int .i64 n, .int .i64 k] w' fun r w2 => r = .returned (.bool (wi n k)) ∧ w2 = w' from within_any n k w'))
    cases hfa : wi n ef with
    | false =>
     have HR := hid_intro (HN.out _ (by rw [hcp, hfa]; rfl) HBX.out)
     clear hcp
     go_wp2_with (go_at_call 37; refine (HW.out _ _).mono ?_; rintro e w4 ⟨rfl, rfl⟩)
     go_roundg (E.length - (i + 1))
     case measure => have := HLT.out; omega
     case rel => exact ⟨i + 1, rfl, by go_num, HLT.out, HR⟩
    | true =>
     cases hta : wi n et with
     | false =>
      have HR := hid_intro (HN.out _ (by rw [hcp, hfa, hta]; rfl) HBX.out)
      clear hcp
      go_wp2_with (first | (go_at_call 37; refine (HW.out _ _).mono ?_; rintro e w4 ⟨rfl, rfl⟩))
      go_roundg (E.length - (i + 1))
      case measure => have := HLT.out; omega
      case rel => exact ⟨i + 1, rfl, by go_num, HLT.out, HR⟩
     | true =>
      have HR := hid_intro (HY.out _ (by rw [hcp, hfa, hta]; rfl) HBX.out)
      clear hcp
      go_wp2_with (first | (go_at_call 37; refine (HW.out _ _).mono ?_; rintro e w4 ⟨rfl, rfl⟩) | (refine wpList_clo2 rfl _ _ _ _ rfl _ _ rfl HEN.out _ _ rfl rfl _ HR.out ?_ ?_; rotate_left; (intro e w' h; exact ⟨_, h.1⟩); intro v4 w4 hs4; obtain ⟨hv4, hs4⟩ := hs4; injection hv4 with hv4; subst hv4; have HN4 := hid_intro hs4; clear hs4))
      go_roundg (E.length - (i + 1))
      case measure => have := HLT.out; omega
      case rel => exact ⟨i + 1, rfl, by go_num, HLT.out, HN4⟩
  ·have hiI : ¬ (i : Int) < (E.length : Int) := by omega
   have hie : i = E.length := by omega
   subst hie
   go_wp2_with fail
   go_end0
   rw [HQ.out]
   exact ⟨rfl, HI.out⟩
end Go.Proofs.Ytnlgeiofkfkhbaa
