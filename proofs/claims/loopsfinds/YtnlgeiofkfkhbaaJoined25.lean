/-
  named: the numbers that a net is made of, put into a row. Conditions: at most 2^20 edges.
-/
import Derived.Test.YtnlgeiofkfkhbaaJoined22
namespace Go.Proofs.Ytnlgeiofkfkhbaa
open Go.RowKit Go.Maps Lg
attribute [local go_sem] setCell_drewN alloc_drewN

/-- Two numbers more in a row. -/
theorem wpList_append_i2 {w : World} {ops : Array Oper} {rest : List Oper} {o : Oper} {a : Act} {Q : Exit → Act → World → Prop} (hgd : o.guard = none) (s x : Operand)
  (ho : o.op = .call { callee := .builtin .append, args := #[s, x], argTypes := #[23, 23] }) (B : Nat) (v : Value) (l : List Int) (hs : a.eval s = v) (hown : OwnI w B v l) (hB : B ≤ w.heap.size) (hn : l.length ≤ 1099511627776) (y z : Int) (hy : I64 y) (hz : I64 z)
  (t : Nat) (ht : w.heap.size = t) (hx : a.eval x = .slice (some ⟨t, 0, none⟩) 2 2)
  (h : ∀ g cap w', OwnI w' B (.slice (some ⟨g, 0, none⟩) (l.length + 2) cap) (l ++ [y, z]) → (w.alloc (.cells #[.int .i64 y, .int .i64 z] 3)).grownBy w' v.ownBlock → (v.ownBlock = some g ∨ w.heap.size < g) → wpList Try.prog ops Q rest (a.put o.dst (.slice (some ⟨g, 0, none⟩) (l.length + 2) cap)) w') :
  wpList Try.prog ops Q (o :: rest) a (w.alloc (.cells #[.int .i64 y, .int .i64 z] 3)) := by
 subst ht
 obtain ⟨i0, hi, hz0, hz1, hz2⟩ := info_parts infoInt
 have hk := Bk.new w #[.int .i64 y, .int .i64 z] 3
 refine wpList_append_lies _ hgd s x 23 ho B 3 i0 (.int .i64 0) 1 8 Try.underlying23 hi hz0 hz1 hz2 rfl (by decide) v l.length (ivs l) hs (hown.bel (vb_a (Below.refl _ _) _)).1 ⟨w.heap.size, 0, none⟩ 2 2 [.int .i64 y, .int .i64 z] hx rfl (fun j u hu => ?_) (ints_oneCell .i64 [y, z]) (by decide) (by unfold maxLen; omega) (by omega) (by simp; omega) _ rfl ?_
 ·rw [add_at, Nat.zero_add, hk.cell j]
  simpa using hu
 intro g cap w' h1 h2 h3 h4
 refine h g cap w' ⟨?_, ?_⟩ h2 (h3.imp id (fun e => by rw [e]; simp))
 ·have e : ivs (l ++ [y, z]) = ivs l ++ [.int .i64 y, .int .i64 z] := by simp [ivs]
  rw [e, List.length_append]
  exact h1
 ·intro u hu
  rcases List.mem_append.1 hu with hu | hu
  ·exact hown.2 u hu
  ·rcases List.mem_cons.1 hu with rfl | hu
   ·exact hy
   ·simp at hu; exact hu ▸ hz
theorem ent_named1 : ∀ args w, (callFunc 43 args).run Try.prog w = .ok (.enter 43 args) w := enters_of Try.func43 (by kernel_rfl) rfl
set_option maxRecDepth 100000 in
theorem named1_any (ab B f t : Nat) (A : List Nat) (va : Value) (w : World) (hf : f ≤ 1099511627776) (ht : t ≤ 1099511627776) (hA : A.length ≤ 1099511627776) (hab : ab < B) (hB : B ≤ w.heap.size) (ka : Bk w ab #[va]) (oa : OwnI w B va (il A)) :
  Calls Try.prog 43 #[.int .i64 (f : Int), .int .i64 (t : Int), pt ab] w fun r w' => r = .returned (.tuple #[]) ∧ ∃ va', Bk w' ab #[va'] ∧ OwnI w' B va' (il (A ++ [f, t])) ∧ But (fun b => b = ab ∨ B ≤ b) w w' := by
 obtain ⟨Q0, hQ0⟩ : ∃ P' : Ending → World → Prop, P' = fun r w' => r = .returned (.tuple #[]) ∧ ∃ va', Bk w' ab #[va'] ∧ OwnI w' B va' (il (A ++ [f, t])) ∧ But (fun b => b = ab ∨ B ≤ b) w w' := ⟨_, rfl⟩
 rw [← hQ0]
 have HP := hid_intro hQ0
 have HKA := hid_intro ka
 have HOA := hid_intro oa
 have HT := hid_intro (show I64 (f : Int) ∧ I64 (t : Int) from ⟨⟨by omega, by omega⟩, by omega, by omega⟩)
 have HL := hid_intro (show (il A).length ≤ 1099511627776 by rw [il_len]; omega)
 have HSZ := hid_intro hB
 have HAB := hid_intro hab
 have c0 := ka.q1
 have c1 : ∀ o, (w.alloc o).cell? ⟨ab, 0, none⟩ = some va := fun o => (ka.al o).q1
 dsimp only [pt]
 clear hQ0 ka oa ht hf hA hab hB
 go_enter Try.func43, Try.ntmps43
 go_wp2_with (at_builtin; refine wpList_append_i2 rfl _ _ rfl B va (il A) rfl HOA.out HSZ.out HL.out (f : Int) (t : Int) HT.out.1 HT.out.2 _ rfl rfl ?_; intro g cap w2 ho2 hg2 hloc; have hk2 := (HKA.out.al _).gr hg2 (fun h => absurd (HOA.out.lt h).1 (by have := HAB.out; omega)); have z0 := hk2.q1; have z1 := hk2.frz 0; have HO2 := hid_intro ho2; have HG2 := hid_intro hg2; have HK2 := hid_intro hk2; clear hk2 ho2 hg2 hloc)
 go_end0
 rw [HP.out]
 refine ⟨rfl, _, Bk.set HK2.out 0 _ rfl, ?_, ?_⟩
 ·rw [il_append]
  exact HO2.out.set _ _ HAB.out
 ·exact ((((But.refl (fun b => b = ab ∨ B ≤ b) w).alloc _).grown HG2.out (fun b h => Or.inl (Or.inr (HOA.out.lt h).1)))).set (p := ⟨ab, 0, none⟩) (Or.inl (Or.inl rfl)) _
end Go.Proofs.Ytnlgeiofkfkhbaa
