/-
  searcher: its box of rows is what it was handed. Condition: at most 1000 places.
-/
import Derived.Test.YtnlgeiofkfkhbaaJoined18
namespace Go.Proofs.Ytnlgeiofkfkhbaa
open Go.RowKit Go.Maps Lg
attribute [local go_sem] setCell_drewN alloc_drewN

theorem ss_rows (w : World) (rv lv cl : Value) (m : Nat) (e : SV) : Bk (wB w rv lv cl m e) w.heap.size #[rv] := by
 have up : ∀ b cs, Bk (wA w rv lv cl m) b cs → Bk (wB w rv lv cl m e) b cs := fun b cs h => (h.al _).al _
 exact up _ _ ((((((((((Bk.new w _ _).al _).al _).al _).al _).al _).al _).al _).al _).al _)

set_option maxRecDepth 100000 in
set_option maxHeartbeats 3200000 in
theorem searcher_rows (ab cy rg m : Nat) (K : FuncId) (stop : Bool) (x0 : Value) (R : Nat → List Nat) (hm : m ≤ 1000) (w : World) (hab : ab ≠ cy) (ka : Bk w ab #[.slice none 0 0]) (kc : Bk w cy #[x0]) (hM : MX w (SV.X ⟨w.heap.size, ab, cy, K, stop, x0⟩) rg m R) (v1 v2 : Value) (h1 : v1 = SV.lv ⟨w.heap.size, ab, cy, K, stop, x0⟩) (h2 : v2 = SV.cl ⟨w.heap.size, ab, cy, K, stop, x0⟩) :
  Calls Try.prog 34 #[.slice (some ⟨rg, 0, none⟩) m m, v1, v2] w fun r w' => r = .returned (SV.fn ⟨w.heap.size, ab, cy, K, stop, x0⟩) ∧ SS w' ⟨w.heap.size, ab, cy, K, stop, x0⟩ m R [] [] [] [] false ∧ Below w.heap.size w w' ∧ Bk w' w.heap.size #[.slice (some ⟨rg, 0, none⟩) m m] := by
 obtain ⟨Q0, hQ0⟩ : ∃ P' : Ending → World → Prop, P' = fun r w' => r = .returned (SV.fn ⟨w.heap.size, ab, cy, K, stop, x0⟩) ∧ SS w' ⟨w.heap.size, ab, cy, K, stop, x0⟩ m R [] [] [] [] false ∧ Below w.heap.size w w' ∧ Bk w' w.heap.size #[.slice (some ⟨rg, 0, none⟩) m m] := ⟨_, rfl⟩
 rw [← hQ0]
 have HQ := hid_intro hQ0
 have HM := hid_intro hM
 have HK := hid_intro (And.intro hab (And.intro ka kc))
 have HMM := hid_intro (show m ≤ 1099511627776 by omega)
 have hmI : (m : Int) ≤ 1000 := by omega
 have H12 := hid_intro (And.intro h1 h2)
 have hsl1 : ∃ f c, v1 = .func f #[] c := ⟨_, _, h1⟩
 have hsl2 : ∃ f c, v2 = .func f #[] c := by
  rw [h2]; unfold SV.cl
  cases stop
  ·exact ⟨_, _, rfl⟩
  ·exact ⟨_, _, rfl⟩
 obtain ⟨f1, c1, rfl⟩ := hsl1
 obtain ⟨f2, c2, rfl⟩ := hsl2
 have hmm := @run_makeMap Try.prog
 have hsf : ∀ (fn : Fn) (x y : Array Value) (a : Addr) (m : Mode) (w : World), (store a (.func fn x y) m).run Try.prog w = stored Try.prog w a (.func fn x y) m := fun fn x y a m w => run_store Try.prog w a _ m rfl
 have hmf : ∀ (fn : Fn) (first cap : Array Value) (w : World), (Instr.makeFunc fn first cap).run Try.prog w = .ok (.func fn first cap) w := fun _ _ _ _ => rfl
 have hsA := wA_size w (.slice (some ⟨rg, 0, none⟩) m m) (.func f1 #[] c1) (.func f2 #[] c2) m
 have c0 := (Bk.new' (wA w (.slice (some ⟨rg, 0, none⟩) m m) (.func f1 #[] c1) (.func f2 #[] c2) m) #[.nilFunc] 58 (w.heap.size + 1 + 1 + 1 + 1 + 1 + 1 + 1 + 1 + 1 + 1) hsA).q1
 have d0 := (Bk.new' (wA w (.slice (some ⟨rg, 0, none⟩) m m) (.func f1 #[] c1) (.func f2 #[] c2) m) #[.nilFunc] 58 (w.heap.size + 1 + 1 + 1 + 1 + 1 + 1 + 1 + 1 + 1 + 1) hsA).frz 0
 have c3 := fun o => (Bk.new' ((wA w (.slice (some ⟨rg, 0, none⟩) m m) (.func f1 #[] c1) (.func f2 #[] c2) m).alloc o) #[.nilFunc] 58 (w.heap.size + 1 + 1 + 1 + 1 + 1 + 1 + 1 + 1 + 1 + 1 + 1) (by simp [hsA])).q1
 have d3 := fun o => (Bk.new' ((wA w (.slice (some ⟨rg, 0, none⟩) m m) (.func f1 #[] c1) (.func f2 #[] c2) m).alloc o) #[.nilFunc] 58 (w.heap.size + 1 + 1 + 1 + 1 + 1 + 1 + 1 + 1 + 1 + 1 + 1) (by simp [hsA])).frz 0
 unfold wA at c0 d0 c3 d3
 clear hQ0 hM ka kc hab hm h1 h2 hsA
 go_enter Try.func34, Try.ntmps34
 go_wp2_with (at_make; refine wpList_make_b rfl _ _ rfl m rfl rfl HMM.out ?_)
 rw [HQ.out]
 obtain ⟨e1, e2⟩ := H12.out
 obtain ⟨s1, s2⟩ := ss_start (e := ⟨w.heap.size, ab, cy, K, stop, x0⟩) (m := m) rfl HK.out.1 HK.out.2.1 HK.out.2.2 HM.out
 have s3 := ss_rows w (.slice (some ⟨rg, 0, none⟩) m m) (SV.lv ⟨w.heap.size, ab, cy, K, stop, x0⟩) (SV.cl ⟨w.heap.size, ab, cy, K, stop, x0⟩) m ⟨w.heap.size, ab, cy, K, stop, x0⟩
 rw [← e1, ← e2] at s1 s2 s3
 exact ⟨rfl, s1, s2, s3⟩
end Go.Proofs.Ytnlgeiofkfkhbaa
