/-
  The search made. Conditions: at most 1000 places.
-/
import Derived.Test.YtnlgeiofkfkhbaaJoined17
namespace Go.Proofs.Ytnlgeiofkfkhbaa
open Go.RowKit Go.Maps Lg
attribute [local go_sem] setCell_drewN alloc_drewN

theorem infoBool : (Try.prog.info? 4).map (fun i => (i.zero, i.size, i.bytes)) = some (some (.bool false), 1, 1) := by kernel_rfl
/-- 'make([]bool, n)'. -/
theorem wpList_make_b {w : World} {ops : Array Oper} {rest : List Oper} {o : Oper} {a : Act} {Q : Exit → Act → World → Prop} (hg : o.guard = none) (l c : Operand) (hop : o.op = Op.makeSlice 33 l c) (n : Nat) (hl : a.eval l = .int .i64 (n : Int)) (hc : a.eval c = .int .i64 (n : Int)) (hn : n ≤ 1099511627776)
  (h : wpList Try.prog ops Q rest (a.put o.dst (.slice (some ⟨w.heap.size, 0, none⟩) n n)) (w.alloc (.cells (lfs n []) 4))) : wpList Try.prog ops Q (o :: rest) a w := by
 obtain ⟨i0, hi, hz0, hz1, hz2⟩ := info_parts infoBool
 refine wpList_plain hg fun K hK' => ?_
 have hrun := run_make (P := Try.prog) w 33 4 i0 (.bool false) Try.underlying33 hi hz0 .i64 .i64 n n (by omega) (Int.le_refl _) (by rw [hz2]; omega) (by omega)
 simp only [Int.toNat_natCast, hz1, Nat.mul_one] at hrun
 have e : madeCells (Value.bool false).cells n = lfs n [] := by
  apply Array.toList_inj.1
  rw [lfs_nil, show (Value.bool false).cells = #[Value.bool false] from rfl, toList_madeCells_one]
 rw [e] at hrun
 unfold Oper.wp
 simp [execOp, hop, hl, hc, hrun, Result.andThen]
 exact hK' _ _ h

/-- The world that a search begins in. -/
def wA (w : World) (rv lv cl : Value) (m : Nat) : World := (((((((((w.alloc (.cells #[rv] 34)).alloc (.cells #[lv] 58)).alloc (.cells #[cl] 59)).alloc (.cells #[.slice none 0 0] 23)).alloc (.cells #[.slice none 0 0] 23)).alloc (.map #[] 0)).alloc (.cells #[.map (some (w.heap.size + 1 + 1 + 1 + 1 + 1))] 67)).alloc (.cells (lfs m []) 4)).alloc (.cells #[.slice (some ⟨w.heap.size + 1 + 1 + 1 + 1 + 1 + 1 + 1, 0, none⟩) m m] 33)).alloc (.cells #[.bool false] 4)
def wB (w : World) (rv lv cl : Value) (m : Nat) (e : SV) : World := ((wA w rv lv cl m).alloc (.cells #[e.en] 58)).alloc (.cells #[e.se] 58)
theorem wA_size (w : World) (rv lv cl : Value) (m : Nat) : (wA w rv lv cl m).heap.size = w.heap.size + 10 := by unfold wA; simp
theorem hgt_nil (x : Int) : hgt [] x = none := by unfold hgt; rw [if_neg (by simp [il])]
theorem ss_start {w : World} {e : SV} {m rg : Nat} {R : Nat → List Nat} (hB : e.B = w.heap.size) (hab : e.ab ≠ e.cy) (ka : Bk w e.ab #[.slice none 0 0]) (kc : Bk w e.cy #[e.x0]) (hM : MX w e.X rg m R) :
  SS (wB w (.slice (some ⟨rg, 0, none⟩) m m) e.lv e.cl m e) e m R [] [] [] [] false ∧ Below w.heap.size w (wB w (.slice (some ⟨rg, 0, none⟩) m m) e.lv e.cl m e) := by
 have hsA := wA_size w (.slice (some ⟨rg, 0, none⟩) m m) e.lv e.cl m
 have hA : Below w.heap.size w (wA w (.slice (some ⟨rg, 0, none⟩) m m) e.lv e.cl m) := vb_a (vb_a (vb_a (vb_a (vb_a (vb_a (vb_a (vb_a (vb_a (vb_a (Below.refl _ _) _) _) _) _) _) _) _) _) _) _
 have hb : Below w.heap.size w (wB w (.slice (some ⟨rg, 0, none⟩) m m) e.lv e.cl m e) := vb_a (vb_a hA _) _
 have hsz : (wB w (.slice (some ⟨rg, 0, none⟩) m m) e.lv e.cl m e).heap.size = w.heap.size + 12 := by unfold wB; simp [hsA]
 have up : ∀ b cs, Bk (wA w (.slice (some ⟨rg, 0, none⟩) m m) e.lv e.cl m) b cs → Bk (wB w (.slice (some ⟨rg, 0, none⟩) m m) e.lv e.cl m e) b cs := fun b cs h => (h.al _).al _
 have n : ∀ (w : World) (o : Obj), (w.alloc o).heap.size = w.heap.size + 1 := fun w o => by simp
 refine ⟨⟨⟨by rw [hsz]; omega, ⟨by rw [hB]; exact ka.lt, by rw [hB]; exact kc.lt, hab⟩, ⟨rg, ?_, hM.but (But.ofBelow hb)⟩, ?_, ?_, ?_, ?_, ?_, ?_⟩, ⟨.slice none 0 0, .slice none 0 0, .slice none 0 0, ?_, ?_, ka.bel hb, OwnI.nil _ _, OwnI.nil _ _, OwnI.nil _ _, (fun b h => by cases h), (fun b h => by cases h), (fun b h => by cases h)⟩, ⟨0, ?_, by simp⟩, ?_, ?_, ⟨e.x0, kc.bel hb, fun _ => rfl⟩⟩, hb⟩
 ·rw [hB]
  exact up _ _ ((((((((((Bk.new w _ _).al _).al _).al _).al _).al _).al _).al _).al _).al _)
 ·exact up _ _ (((((((((Bk.new' _ _ _ (e.B + 1) (by rw [n, hB])).al _).al _).al _).al _).al _).al _).al _).al _)
 ·exact up _ _ ((((((((Bk.new' _ _ _ (e.B + 2) (by rw [n, n, hB])).al _).al _).al _).al _).al _).al _).al _)
 ·have := up _ _ ((((Bk.new' (((((w.alloc (.cells #[.slice (some ⟨rg, 0, none⟩) m m] 34)).alloc (.cells #[e.lv] 58)).alloc (.cells #[e.cl] 59)).alloc (.cells #[.slice none 0 0] 23)).alloc (.cells #[.slice none 0 0] 23) |>.alloc (.map #[] 0)) #[.map (some (w.heap.size + 1 + 1 + 1 + 1 + 1))] 67 (e.B + 6) (by rw [n, n, n, n, n, n, hB])).al _).al _).al _)
  rw [hB] at this ⊢
  exact this
 ·have := up _ _ ((Bk.new' ((((((((w.alloc (.cells #[.slice (some ⟨rg, 0, none⟩) m m] 34)).alloc (.cells #[e.lv] 58)).alloc (.cells #[e.cl] 59)).alloc (.cells #[.slice none 0 0] 23)).alloc (.cells #[.slice none 0 0] 23)).alloc (.map #[] 0)).alloc (.cells #[.map (some (w.heap.size + 1 + 1 + 1 + 1 + 1))] 67)).alloc (.cells (lfs m []) 4)) #[.slice (some ⟨w.heap.size + 1 + 1 + 1 + 1 + 1 + 1 + 1, 0, none⟩) m m] 33 (e.B + 8) (by rw [n, n, n, n, n, n, n, n, hB])).al _)
  rw [hB] at this ⊢
  exact this
 ·exact (Bk.new' _ _ _ (e.B + 10) (by rw [hsA, hB])).al _
 ·exact Bk.new' _ _ _ (e.B + 11) (by rw [n, hsA, hB])
 ·exact up _ _ (((((((Bk.new' _ _ _ (e.B + 3) (by rw [n, n, n, hB])).al _).al _).al _).al _).al _).al _)
 ·exact up _ _ ((((((Bk.new' _ _ _ (e.B + 4) (by rw [n, n, n, n, hB])).al _).al _).al _).al _).al _)
 ·have h := PM.made (((((w.alloc (.cells #[.slice (some ⟨rg, 0, none⟩) m m] 34)).alloc (.cells #[e.lv] 58)).alloc (.cells #[e.cl] 59)).alloc (.cells #[.slice none 0 0] 23)).alloc (.cells #[.slice none 0 0] 23))
  rw [show (((((w.alloc (.cells #[.slice (some ⟨rg, 0, none⟩) m m] 34)).alloc (.cells #[e.lv] 58)).alloc (.cells #[e.cl] 59)).alloc (.cells #[.slice none 0 0] 23)).alloc (.cells #[.slice none 0 0] 23)).heap.size = e.B + 5 by rw [n, n, n, n, n, hB]] at h
  refine (h.ext (fun x _ => (hgt_nil x).symm)).but (X := fun _ => False) (But.ofBelow ?_) (fun h => h)
  exact vb_a (vb_a (vb_a (vb_a (vb_a (vb_a (Below.refl _ _) _) _) _) _) _) _
 ·exact up _ _ (((Bk.new' _ _ _ (e.B + 7) (by rw [n, n, n, n, n, n, n, hB])).al _).al _)
 ·exact up _ _ (Bk.new' _ _ _ (e.B + 9) (by rw [n, n, n, n, n, n, n, n, n, hB]))
set_option maxRecDepth 100000 in
set_option maxHeartbeats 3200000 in
theorem searcher_any (ab cy rg m : Nat) (K : FuncId) (stop : Bool) (x0 : Value) (R : Nat → List Nat) (hm : m ≤ 1000) (w : World) (hab : ab ≠ cy) (ka : Bk w ab #[.slice none 0 0]) (kc : Bk w cy #[x0]) (hM : MX w (SV.X ⟨w.heap.size, ab, cy, K, stop, x0⟩) rg m R) (v1 v2 : Value) (h1 : v1 = SV.lv ⟨w.heap.size, ab, cy, K, stop, x0⟩) (h2 : v2 = SV.cl ⟨w.heap.size, ab, cy, K, stop, x0⟩) :
  Calls Try.prog 34 #[.slice (some ⟨rg, 0, none⟩) m m, v1, v2] w fun r w' => r = .returned (SV.fn ⟨w.heap.size, ab, cy, K, stop, x0⟩) ∧ SS w' ⟨w.heap.size, ab, cy, K, stop, x0⟩ m R [] [] [] [] false ∧ Below w.heap.size w w' := by
 obtain ⟨Q0, hQ0⟩ : ∃ P' : Ending → World → Prop, P' = fun r w' => r = .returned (SV.fn ⟨w.heap.size, ab, cy, K, stop, x0⟩) ∧ SS w' ⟨w.heap.size, ab, cy, K, stop, x0⟩ m R [] [] [] [] false ∧ Below w.heap.size w w' := ⟨_, rfl⟩
 rw [← hQ0]
 have HQ := hid_intro hQ0
 have HM := hid_intro hM
 have HK := hid_intro (And.intro hab (And.intro ka kc))
 have HMM := hid_intro (show m ≤ 1099511627776 by omega)
 have hmI : (m : Int) ≤ 1000 := by omega
 have H12 := hid_intro (And.intro h1 h2)
 have hsl1 : ∃ f c, v1 = .func f #[] c := ⟨_, _, h1⟩
 have hsl2 : ∃ f c, v2 = .func f #[] c := by
  rw [h2]; unfold SV.cl
  cases stop
  ·exact ⟨_, _, rfl⟩
  ·exact ⟨_, _, rfl⟩
 obtain ⟨f1, c1, rfl⟩ := hsl1
 obtain ⟨f2, c2, rfl⟩ := hsl2
 have hmm := @run_makeMap Try.prog
 have hsf : ∀ (fn : Fn) (x y : Array Value) (a : Addr) (m : Mode) (w : World), (store a (.func fn x y) m).run Try.prog w = stored Try.prog w a (.func fn x y) m := fun fn x y a m w => run_store Try.prog w a _ m rfl
 have hmf : ∀ (fn : Fn) (first cap : Array Value) (w : World), (Instr.makeFunc fn first cap).run Try.prog w = .ok (.func fn first cap) w := fun _ _ _ _ => rfl
 have hsA := wA_size w (.slice (some ⟨rg, 0, none⟩) m m) (.func f1 #[] c1) (.func f2 #[] c2) m
 have c0 := (Bk.new' (wA w (.slice (some ⟨rg, 0, none⟩) m m) (.func f1 #[] c1) (.func f2 #[] c2) m) #[.nilFunc] 58 (w.heap.size + 1 + 1 + 1 + 1 + 1 + 1 + 1 + 1 + 1 + 1) hsA).q1
 have d0 := (Bk.new' (wA w (.slice (some ⟨rg, 0, none⟩) m m) (.func f1 #[] c1) (.func f2 #[] c2) m) #[.nilFunc] 58 (w.heap.size + 1 + 1 + 1 + 1 + 1 + 1 + 1 + 1 + 1 + 1) hsA).frz 0
 have c3 := fun o => (Bk.new' ((wA w (.slice (some ⟨rg, 0, none⟩) m m) (.func f1 #[] c1) (.func f2 #[] c2) m).alloc o) #[.nilFunc] 58 (w.heap.size + 1 + 1 + 1 + 1 + 1 + 1 + 1 + 1 + 1 + 1 + 1) (by simp [hsA])).q1
 have d3 := fun o => (Bk.new' ((wA w (.slice (some ⟨rg, 0, none⟩) m m) (.func f1 #[] c1) (.func f2 #[] c2) m).alloc o) #[.nilFunc] 58 (w.heap.size + 1 + 1 + 1 + 1 + 1 + 1 + 1 + 1 + 1 + 1 + 1) (by simp [hsA])).frz 0
 unfold wA at c0 d0 c3 d3
 clear hQ0 hM ka kc hab hm h1 h2 hsA
 go_enter Try.func34, Try.ntmps34
 go_wp2_with (at_make; refine wpList_make_b rfl _ _ rfl m rfl rfl HMM.out ?_)
 rw [HQ.out]
 obtain ⟨e1, e2⟩ := H12.out
 obtain ⟨s1, s2⟩ := ss_start (e := ⟨w.heap.size, ab, cy, K, stop, x0⟩) (m := m) rfl HK.out.1 HK.out.2.1 HK.out.2.2 HM.out
 rw [← e1, ← e2] at s1 s2
 exact ⟨rfl, s1, s2⟩
end Go.Proofs.Ytnlgeiofkfkhbaa
