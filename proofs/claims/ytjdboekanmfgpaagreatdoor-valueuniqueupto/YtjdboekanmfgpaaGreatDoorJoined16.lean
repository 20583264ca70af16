/-
  No step of the machine takes a draw back: so a call's draws rise. No condition.
  A row of places made, stored into, and how it lies; what a sort that may lay blocks leaves. Conditions: at most 2^40 places.
  Keys in order; rows of members sorted by their keys: one such row alone. No condition.
-/
import Derived.Test.YtjdboekanmfgpaaGreatDoorJoined15
import Derived.Below
import Derived.Sort.Grow
import Derived.Deep.Draws
import Derived.Test.YtjdboekanmfgpaaGreatDoorJoined5
import Derived.OwnWalk
import Derived.Shelf.SlSortCmp.Kit1
import Derived.Test.YtjdboekanmfgpaaGreatDoorJoined0
import Derived.Lib.Bytealg
namespace Go.Proofs.YtjdboekanmfgpaaGreatDoor.Up

/-- Where a machine's step goes on, the count of draws has not fallen. -/
def sup (w : World) : Stepped → Prop
  | .next m => w.drawn ≤ m.world.drawn
  | .ended _ _ => True
theorem sup_mono {w w1 : World} {s : Stepped} (h : w.drawn ≤ w1.drawn) (k : sup w1 s) : sup w s := by
  cases s with
  | next m => exact Nat.le_trans h k
  | ended o w => trivial
theorem look_up (p : Program) (gs : Array Goroutine) (rest : Rest) (w : World) : sup w (look p gs rest w) := by
  unfold look
  split
  · dsimp only
    split
    · trivial
    split
    · trivial
    split
    · rename_i hq
      have h := run_ok hq
      exact h
    · trivial
    · trivial
  · trivial
theorem drain_up (w : World) (c : Nat) : (drain w c).2.drawn = w.drawn := by
  unfold drain
  split <;> rfl
theorem retime_up (m : Machine) (k : Nat) (t : Timer) (when period : Nat) : (retime m k t when period).2.world.drawn = m.world.drawn := by
  unfold retime
  cases t.chan with
  | none => rfl
  | some c => exact drain_up m.world c
theorem timer_up {m : Machine} {op : TimerOp} {r : Value × Machine} (h : timerOp m op = .ok r) : m.world.drawn ≤ r.2.world.drawn := by
  unfold timerOp at h
  split at h
  · split at h
    · injection h with h; subst h; exact Nat.le_refl _
    · split at h
      · dsimp only at h
        split at h
        · cases h
        · injection h with h; subst h; exact Nat.le_refl _
      · cases h
  · unfold timerOp.named at h
    split at h
    · injection h with h; subst h; rw [retime_up]; exact Nat.le_refl _
    · cases h
  · split at h
    · rename_i m1 hm
      unfold timerOp.named at h
      split at h
      · injection h with h; subst h; rw [retime_up]
        unfold timerOp.opened at hm
        split at hm
        · split at hm
          · injection hm with hm; subst hm; exact Nat.le_refl _
          · cases hm
        · injection hm with hm; subst hm; exact Nat.le_refl _
      · cases h
    · cases h
  · injection h with h; subst h; exact Nat.le_refl _
theorem serve_up (p : Program) (m : Machine) (k : Nat) : sup m.world (serve p m k) := by
  unfold serve
  split
  · trivial
  · exact Nat.le_refl _
  · dsimp only
    split
    · trivial
    · exact Nat.le_refl _
theorem waitingAt_up {rest : Rest} {cases : Array CommCase} {w w' : World} (h : waitingAt rest cases w = some w') : w'.drawn = w.drawn := by
  unfold waitingAt at h
  split at h
  · split at h
    · injection h with h; subst h; rfl
    · cases h
  · injection h with h; subst h; rfl
theorem comm_up (p : Program) (rest : Rest) (gs : Array Goroutine) (i : Nat) (g : Goroutine) (cases : Array CommCase) (b : Bool) (shape : CommShape) (w : World) : sup w (communicate p rest gs i g cases b shape w).1 := by
  unfold communicate
  dsimp only
  split
  · trivial
  split
  · split
    · split
      · rename_i hq
        have := waitingAt_up hq
        exact Nat.le_of_eq this.symm
      · trivial
    · exact Nat.le_refl _
  · split
    · trivial
    · rename_i hq
      have hw := run_ok hq
      split
      · split
        · rename_i hq2
          exact Nat.le_trans hw (run_halt hq2)
        · trivial
      · exact hw
      · exact hw
      · split
        · exact hw
        · split
          · rename_i hq2
            have h := run_ok hq2
            exact Nat.le_trans hw h
          · trivial
      · exact hw
      · exact hw
      · trivial
/-- What a move gives. -/
def mup (w : World) : Move → Prop
  | .goroutine m _ => w.drawn ≤ m.world.drawn
  | .machine s _ => sup w s
theorem endWith_sup (w : World) (fd : Nat) (t : ByteArray) (o : Outcome) : ∀ g w' es, endWith w fd t o ≠ .go g w' es := by
  intro g w' es h
  unfold endWith at h
  dsimp only at h
  split at h
  · split at h <;> cases h
  · cases h
  · cases h
theorem askOn_up (p : Program) (m : Machine) : mup m.world (askOn p m) := by
  have hpick : ∀ m1 : Machine, m.world.drawn ≤ m1.world.drawn → mup m.world (match (choose (.sched (runnable m.gs m.world.os.mono).length)).run p m1.world with
      | .halt _ w => .machine (.ended (.stuck "sched" "") w)
      | .ok k world =>
        if (runnable m.gs m.world.os.mono).length ≤ 1 then .goroutine { m1 with world } ((runnable m.gs m.world.os.mono).getD k 0) else
        match (choose (.extern "sched.slice" 65536)).run p world with
        | .halt _ w => .machine (.ended (.stuck "sched.slice" "") w)
        | .ok n world => .goroutine { m1 with world, rest := { m1.rest with slice := if n = 0 then none else some ((runnable m.gs m.world.os.mono).getD k 0, n) } } ((runnable m.gs m.world.os.mono).getD k 0)) := by
    intro m1 h1
    split
    · trivial
    · rename_i hq
      have h2 := Nat.le_trans h1 (run_ok hq)
      split
      · exact h2
      · split
        · trivial
        · rename_i hq2
          have h3 := run_ok hq2
          exact Nat.le_trans h2 h3
  unfold askOn
  dsimp only
  split
  · trivial
  · rename_i k world hq
    have h1 := run_ok hq
    split
    · exact sup_mono h1 (serve_up p { m with world } _)
    · split
      · split
        · exact h1
        · split
          · exact h1
          · split <;> trivial
      · split
        · exact hpick { m with world } h1
        · split
          · trivial
          · rename_i hq2
            have h2 := Nat.le_trans h1 (run_ok hq2)
            exact hpick { m with world := _ } h2
          · rename_i hq2
            have h2 := Nat.le_trans h1 (run_ok hq2)
            exact h2
          · rename_i hq2
            have h2 := Nat.le_trans h1 (run_ok hq2)
            exact hpick (Machine.advanceTo { m with world := _ } _) h2
theorem ask_up' (p : Program) (m : Machine) : mup m.world (ask p m) := by
  unfold ask
  split
  · split
    · trivial
    · rename_i world hq
      have h1 := run_ok hq
      have h2 := look_up p m.gs m.rest world
      split
      · rename_i m2 hq2
        rw [hq2] at h2
        have h3 := askOn_up p m2
        generalize askOn p m2 = s at *
        cases s with
        | goroutine m3 i => exact Nat.le_trans h1 (Nat.le_trans h2 h3)
        | machine s ops => exact sup_mono (Nat.le_trans h1 h2) h3
      · exact sup_mono h1 h2
    · rename_i world _ hq
      have h1 := run_ok hq
      have h3 := askOn_up p { m with world }
      generalize askOn p { m with world } = s at *
      cases s with
      | goroutine m3 i => exact Nat.le_trans h1 h3
      | machine s ops => exact sup_mono h1 h3
  · exact askOn_up p m
theorem move_up (p : Program) (m : Machine) : mup m.world (move p m) := by
  unfold move
  split
  · split
    · exact Nat.le_refl _
    · trivial
  · split
    · split
      · exact Nat.le_refl _
      · exact ask_up' p { m with rest := { m.rest with slice := none } }
    · exact ask_up' p m
theorem runT_up (p : Program) (m : Machine) (i : Nat) : sup m.world (runT p m i).1 := by
  unfold runT
  dsimp only
  have hg := stepG_up p (i == 0) (m.gs.swapAt! i { (default : Goroutine) with status := .finished }).1 m.world
  split
  · trivial
  · rename_i hs
    rw [hs] at hg
    exact sup_mono hg (comm_up _ _ _ _ _ _ _ _ _)
  · rename_i hs
    rw [hs] at hg
    exact hg
  · rename_i hs
    rw [hs] at hg
    exact hg
  · rename_i hs
    rw [hs] at hg
    split
    · trivial
    · exact hg
  · rename_i hs
    rw [hs] at hg
    exact hg
  · rename_i hs
    rw [hs] at hg
    exact sup_mono hg (look_up _ _ _ _)
  · rename_i hs
    rw [hs] at hg
    exact hg
  · rename_i hs
    rw [hs] at hg
    exact hg
  · rename_i hs
    rw [hs] at hg
    split
    · exact hg
    · exact hg
    · trivial
  · rename_i hs
    rw [hs] at hg
    split
    · rename_i hq
      have h2 := timer_up hq
      exact Nat.le_trans hg h2
    · exact hg
    · trivial
    · trivial
theorem step_up {p : Program} {m m' : Machine} (h : step p m = .next m') : m.world.drawn ≤ m'.world.drawn := by
  have hm := move_up p m
  unfold step stepT at h
  generalize move p m = s at *
  cases s with
  | goroutine m1 i =>
    have h1 := runT_up p m1 i
    simp only at h
    rw [h] at h1
    exact Nat.le_trans hm h1
  | machine s ops =>
    simp only at h
    rw [h] at hm
    exact hm
theorem steps_up {p : Program} {m m' : Machine} (h : Steps p m m') : m.world.drawn ≤ m'.world.drawn := by
  obtain ⟨n, hn⟩ := h
  induction n generalizing m with
  | zero => simp [runN] at hn; exact hn ▸ Nat.le_refl _
  | succ n ih =>
    simp only [runN] at hn
    cases hs : step p m with
    | next m' => rw [hs] at hn; exact Nat.le_trans (step_up hs) (ih hn)
    | ended o w => rw [hs] at hn; simp at hn
/-- A call that comes back has drawn no less. -/
theorem calls_up {P : Program} {f : FuncId} {args : Array Value} {w : World} {R : Ending → World → Prop} (h : Calls P f args w R) : Calls P f args w fun e w' => R e w' ∧ (e = .outgrown ∨ w.drawn ≤ w'.drawn) := by
  intro cs
  obtain ⟨e, w', fr, hR, hc, hf, hl⟩ := h cs
  refine ⟨e, w', fr, ⟨hR, ?_⟩, hc, hf, hl⟩
  cases e with
  | outgrown => exact Or.inl rfl
  | returned v => exact Or.inr (steps_up hc)
  | panicked c => exact Or.inr (steps_up hc)
open Go.RowKit Go.Sort in
/-- What is as it was below the heap's end, with draws that have not fallen, is the world with new blocks behind it. -/
theorem md_below_grow {w w' : World} (h : Below w.heap.size w w') (hd : w.drawn ≤ w'.drawn) : ∃ q os, w' = grow (w.drewN q) os := by
  refine ⟨w'.drawn - w.drawn, w'.heap.extract w.heap.size w'.heap.size, ?_⟩
  have hh : w'.heap = w.heap ++ w'.heap.extract w.heap.size w'.heap.size := by
    apply Array.ext_getElem?
    intro k
    rw [Array.getElem?_append]
    split
    · rename_i hk
      exact h.block k hk
    · rename_i hk
      rw [Array.getElem?_extract]
      split
      · rw [show w.heap.size + (k - w.heap.size) = k by omega]
      · rename_i hk2
        have hs := h.size
        exact Array.getElem?_eq_none (by omega)
  obtain ⟨heap, tape, drawn, os, output⟩ := w
  obtain ⟨heap', tape', drawn', os', output'⟩ := w'
  have e1 := h.os
  have e2 := h.tape
  have e3 := h.output
  simp only at e1 e2 e3 hd hh
  subst e1 e2 e3
  unfold grow World.drewN
  simp only [World.mk.injEq, and_true, true_and]
  exact ⟨hh, by omega⟩
open Go.RowKit Go.Sort in
/-- .. so a call that comes back and leaves what was there leaves the world with new blocks behind it. -/
theorem calls_grow {P : Program} {f : FuncId} {args : Array Value} {w : World} {v : Value} (h : Calls P f args w fun e w' => e = .returned v ∧ Below w.heap.size w w') : Calls P f args w fun e w' => e = .returned v ∧ ∃ q os, w' = grow (w.drewN q) os :=
  (calls_up h).mono fun _ _ ⟨⟨he, hb⟩, hd⟩ => ⟨he, md_below_grow hb (hd.resolve_left (fun e => by rw [he] at e; cases e))⟩
end Go.Proofs.YtjdboekanmfgpaaGreatDoor.Up

namespace Go.Proofs.YtjdboekanmfgpaaGreatDoor
open Go.RowKit Go.Maps Go.Shelf Go.Lib Go.Sort
attribute [local go_sem] setCell_drewN alloc_drewN

/-- Places as a row of numbers. -/
def pI (ps : List Nat) : List Int := ps.map fun (k : Nat) => (k : Int)
theorem pI_len (ps : List Nat) : (pI ps).length = ps.length := by simp [pI]
theorem pI_at {ps : List Nat} {i : Nat} (h : i < ps.length) : ia (pI ps) i = (ps.getD i 0 : Nat) := by
 unfold ia pI
 simp [h]
theorem vivs_rep (n : Nat) (x : Int) : ivs (List.replicate n x) = List.replicate n (.int .i64 x) := by simp [ivs]
theorem vi64_0 : I64 0 := by unfold I64; omega
/-- 'make([]int, n)'. -/
theorem wpList_make_v {w : World} {ops : Array Oper} {rest : List Oper} {o : Oper} {a : Act} {Q : Exit → Act → World → Prop} (hg : o.guard = none) (l c : Operand) (hop : o.op = Op.makeSlice 67 l c) (B n : Nat) (hl : a.eval l = .int .i64 (n : Int)) (hc : a.eval c = .int .i64 (n : Int)) (hn : n ≤ 1099511627776) (hB : B ≤ w.heap.size)
  (h : ∀ w', OwnI w' B (.slice (some ⟨w.heap.size, 0, none⟩) n n) (List.replicate n 0) → w.grownBy w' none → wpList Tryz.prog ops Q rest (a.put o.dst (.slice (some ⟨w.heap.size, 0, none⟩) n n)) w') : wpList Tryz.prog ops Q (o :: rest) a w := by
 obtain ⟨i0, hi, hz0, hz1, hz2⟩ := info_parts infoInt
 refine wpList_make_full w hg l c 67 hop B 3 i0 (.int .i64 0) 1 Tryz.underlying67 hi hz0 hz1 .i64 .i64 (n : Int) (n : Int) n hl hc rfl rfl (by rw [hz2]; omega) (by unfold maxLen; omega) hB (fun w' k1 k2 => h w' ⟨?_, ?_⟩ k2)
 ·rw [vivs_rep, List.length_replicate]
  rw [Nat.mul_one, show (Value.int .i64 0).cells = #[Value.int .i64 0] from rfl, toList_madeCells_one] at k1
  exact k1
 ·intro x hx
  rw [List.mem_replicate] at hx
  rw [hx.2]; exact vi64_0
theorem OwnI.vput {w : World} {B g n cap : Nat} {l : List Int} (h : OwnI w B (.slice (some ⟨g, 0, none⟩) n cap) l) (hn : n = l.length) (j : Nat) (x : Int) (hx : I64 x) : OwnI (w.setCell ⟨g, j, none⟩ (.int .i64 x)) B (.slice (some ⟨g, 0, none⟩) n cap) (l.set j x) ∧ w.grownBy (w.setCell ⟨g, j, none⟩ (.int .i64 x)) (some g) := by
 subst hn
 obtain ⟨h1, h2⟩ := h
 obtain ⟨k1, k2⟩ := h1.stored j (.int .i64 x)
 refine ⟨⟨?_, fun y hy => ?_⟩, k2⟩
 ·have e : (ivs l).set j (.int .i64 x) = ivs (l.set j x) := by unfold ivs; rw [List.map_set]
  rw [List.length_set, ← e]
  exact k1
 ·rcases List.mem_or_eq_of_mem_set hy with hy | rfl
  ·exact h2 y hy
  ·exact hx
theorem OwnI.vat {w : World} {B g n cap : Nat} {l : List Int} (h : OwnI w B (.slice (some ⟨g, 0, none⟩) n cap) l) (hn : n = l.length) {j : Nat} (hj : j < l.length) : w.cell? ⟨g, j, none⟩ = some (.int .i64 (ia l j)) ∧ w.frozen? ⟨g, j, none⟩ = false := by
 subst hn
 refine ⟨?_, h.1.frozenAt j⟩
 rw [h.1.cellAt j (by omega)]
 unfold ivs ia
 rw [List.getElem?_map, List.getElem?_eq_getElem hj, List.getD_eq_getElem?_getD, List.getElem?_eq_getElem hj]; rfl
/-- The first places laid. -/
def vpI (N i : Nat) : List Int := (List.range N).map fun (k : Nat) => if k < i then (k : Int) else 0
theorem vpI_len (N i : Nat) : (vpI N i).length = N := by simp [vpI]
theorem vpI_0 (N : Nat) : vpI N 0 = List.replicate N 0 := by
 apply List.ext_getElem (by simp [vpI])
 intro i h1 h2
 simp [vpI]
theorem vpI_all (N : Nat) : vpI N N = pI (List.range N) := by
 unfold vpI pI
 exact List.map_congr_left fun k hk => by rw [if_pos (List.mem_range.1 hk)]
theorem vpI_set (N i : Nat) : (vpI N i).set i (i : Int) = vpI N (i + 1) := by
 apply List.ext_getElem (by simp [vpI])
 intro j h1 h2
 rw [List.getElem_set]
 simp only [vpI, List.getElem_map, List.getElem_range]
 by_cases e : i = j
 ·subst e; simp
 ·rw [if_neg e]
  by_cases k : j < i
  ·rw [if_pos k, if_pos (by omega)]
  ·rw [if_neg k, if_neg (by omega)]

/-- A function that compares by places, in whatever world that has what was there. -/
def CmpAt (w0 : World) (g : FuncId) (cb : Array Value) (n : Nat) (cf : Nat → Nat → Int) : Prop :=
 (∀ args w, (callFunc g args).run Tryz.prog w = .ok (.enter g args) w) ∧ ∀ w', Below w0.heap.size w0 w' → ∀ i j : Nat, i < n → j < n →
  Calls Tryz.prog g (#[.int .i64 (i : Int), .int .i64 (j : Int)] ++ cb) w' fun r w'' => r = .returned (.int .i64 (cf i j)) ∧ Below w'.heap.size w' w''
theorem CmpAt.on {w0 w1 : World} {g : FuncId} {cb : Array Value} {n : Nat} {cf : Nat → Nat → Int} (h : CmpAt w0 g cb n cf) (hb : Below w0.heap.size w0 w1) : CmpAt w1 g cb n cf :=
 ⟨h.1, fun w' hw i j hi hj => h.2 w' (hb.trans (hw.mono hb.size)) i j hi hj⟩
/-- Places in order. -/
def SortedBy (cf : Nat → Nat → Int) (n : Nat) (ps : List Nat) : Prop := ps.Perm (List.range n) ∧ ps.Pairwise fun i j => ¬ cf j i < 0
/-- An order of places. -/
structure OrdAt (n : Nat) (cf : Nat → Nat → Int) : Prop where
 irr : ∀ i, i < n → ¬ cf i i < 0
 tr : ∀ i j k, i < n → j < n → k < n → cf i j < 0 → cf j k < 0 → cf i k < 0
 nt : ∀ i j k, i < n → j < n → k < n → ¬ cf i j < 0 → ¬ cf j k < 0 → ¬ cf i k < 0

theorem below_sort {α : Type} [Inhabited α] (enc : α → Value) (w : World) (g m : Nat) (d : Array α) (os : Array Obj) (hg : g < w.heap.size) : Below g w (sortWorld enc w g 0 m d os) := by
 have hs : (putRow enc (Sort.ahead w m) g 0 d).heap.size = w.heap.size := size_putRow _ _ _ _ _
 refine ⟨rfl, rfl, rfl, ?_, fun k hk => ?_⟩
 ·show w.heap.size ≤ ((putRow enc (Sort.ahead w m) g 0 d).heap ++ os).size
  rw [Array.size_append, hs]; omega
 ·show (grow (putRow enc (Sort.ahead w m) g 0 d) os).heap[k]? = _
  rw [heap_grow_old _ _ (by rw [hs]; omega)]
  show ((Sort.ahead w m).heap.modify g _)[k]? = _
  rw [Array.getElem?_modify, if_neg (by omega)]
  rfl
/-- A place as it lies. -/
def encP {n : Nat} (x : Fin n) : Value := .int .i64 (x.val : Int)
theorem cmp_lays {n : Nat} [Inhabited (Fin n)] {g : FuncId} {cb : Array Value} {cf : Nat → Nat → Int} {w : World} {b : Nat} (hb : b < w.heap.size)
  (hc : ∀ w', Below b w w' → ∀ i j : Nat, i < n → j < n → Calls Tryz.prog g (#[.int .i64 (i : Int), .int .i64 (j : Int)] ++ cb) w' fun r w'' => r = .returned (.int .i64 (cf i j)) ∧ Below w'.heap.size w' w'') (size : Nat) :
  CmpLays1 Tryz.prog g cb (encP (n := n)) (fun x y => cf x.val y.val) b 0 size w := fun m os dk _ x y =>
 Up.calls_grow (hc _ (below_sort _ w b m dk os hb) x.val y.val x.isLt y.isLt)
theorem swo_at {n : Nat} {cf : Nat → Nat → Int} (h : OrdAt n cf) : SWO (ltOf fun x y : Fin n => cf x.val y.val) where
 irrefl x := by unfold ltOf; exact decide_eq_false (h.irr _ x.isLt)
 trans x y z h1 h2 := by unfold ltOf at *; exact decide_eq_true (h.tr _ _ _ x.isLt y.isLt z.isLt (of_decide_eq_true h1) (of_decide_eq_true h2))
 ntrans x y z h1 h2 := by unfold ltOf at *; exact decide_eq_false (h.nt _ _ _ x.isLt y.isLt z.isLt (of_decide_eq_false h1) (of_decide_eq_false h2))
/-- All places, as the sort takes them. -/
def allP (n : Nat) : Array (Fin n) := (List.finRange n).toArray
theorem allP_size (n : Nat) : (allP n).size = n := by simp [allP]
theorem allP_at {n : Nat} [Inhabited (Fin n)] {j : Nat} (h : j < n) : ((allP n)[j]!).val = j := by
 rw [getElem!_pos (allP n) j (by rw [allP_size]; exact h)]
 simp [allP]
theorem holds_all {n : Nat} [Inhabited (Fin n)] {w : World} {B b cap : Nat} (h : OwnI w B (.slice (some ⟨b, 0, none⟩) n cap) (pI (List.range n))) : Holds (encP (n := n)) w b 0 (allP n) := by
 intro j hj
 rw [allP_size] at hj
 obtain ⟨c, z⟩ := h.vat (by rw [pI_len, List.length_range]) (j := j) (by rw [pI_len, List.length_range]; exact hj)
 rw [Nat.zero_add]
 refine ⟨?_, z⟩
 rw [c, pI_at (by simpa using hj)]
 unfold encP
 rw [allP_at hj]
 simp [hj]
theorem holds_sorted {α : Type} [Inhabited α] (enc : α → Value) (w : World) (g n : Nat) (d0 d : Array α) (os : Array Obj) (h0 : Holds enc w g 0 d0) (hs : d.size = d0.size) (hg : g < w.heap.size) : Holds enc (sortWorld enc w g 0 n d os) g 0 d :=
 holds_sortWorld enc w g 0 n d0 d os hg h0 hs
theorem ext_all {α : Type} (d : Array α) (n : Nat) (h : d.size = n) : d.extract 0 n = d := by
 subst h
 exact Array.extract_size
/-- What the sort leaves, as a row of places. -/
theorem sorted_places {n : Nat} [Inhabited (Fin n)] {cf : Nat → Nat → Int} {w : World} {B b m : Nat} {os : Array Obj} {d : Array (Fin n)} (hn : n ≤ 1099511627776) (hB : B ≤ b) (hg : b < w.heap.size) (h : OwnI w B (.slice (some ⟨b, 0, none⟩) n n) (pI (List.range n)))
  (hp : PermIn 0 (allP n).size (allP n) d) (hs : SortedIn (ltOf fun x y : Fin n => cf x.val y.val) 0 (allP n).size d) :
  ∃ ps : List Nat, SortedBy cf n ps ∧ II (sortWorld encP w b 0 m d os) (· < B) (pI ps) (.slice (some ⟨b, 0, none⟩) n n) := by
 have hsz : d.size = n := by rw [hp.1, allP_size]
 have hH := holds_sorted encP w b m (allP n) d os (holds_all h) hp.1 hg
 refine ⟨d.toList.map Fin.val, ⟨?_, ?_⟩, ?_⟩
 ·have hpp := hp.2.2
  rw [allP_size] at hpp
  have e1 : (d.extract 0 n) = d := ext_all d n hsz
  have e2 : ((allP n).extract 0 n) = allP n := ext_all _ n (allP_size n)
  rw [e1, e2] at hpp
  have := hpp.map Fin.val
  have e3 : (allP n).toList.map Fin.val = List.range n := by
   unfold allP
   rw [List.toList_toArray]
   apply List.ext_getElem (by simp)
   intro i h1 h2
   simp
  rwa [e3] at this
 ·rw [List.pairwise_map, List.pairwise_iff_getElem]
  intro i j hi hj hij
  have hj' : j < d.size := by simpa using hj
  have hi' : i < d.size := by simpa using hi
  have := hs i j (Nat.zero_le _) hij (by rw [allP_size, ← hsz]; exact hj')
  unfold ltOf at this
  have := of_decide_eq_false this
  rw [getElem!_pos d j hj', getElem!_pos d i hi'] at this
  simpa using this
 ·have hl : (d.toList.map Fin.val).length = n := by simp [hsz]
  refine ⟨some ⟨b, 0, none⟩, n, by rw [pI_len, hl], by rw [pI_len, hl]; exact Nat.le_refl _, by unfold maxLen; omega, ?_, Or.inr ⟨b, 0, rfl, by omega, fun i hi => ?_⟩⟩
  ·intro x hx
   unfold pI at hx
   obtain ⟨k, hk, rfl⟩ := List.mem_map.1 hx
   obtain ⟨y, _, rfl⟩ := List.mem_map.1 hk
   have := y.isLt
   unfold I64
   omega
  ·rw [pI_len, hl] at hi
   have hi' : i < d.size := by omega
   have := (hH i hi').1
   rw [this, pI_at (by rw [hl]; exact hi)]
   unfold encP
   rw [getElem!_pos d i hi']
   simp [hi']
/-- A block's cells are of one type. -/
def Tyd (w : World) (b : Nat) (T : TypeId) : Prop := ∃ c fz, w.heap[b]? = some (.cells c T fz)
/-- A row's block is one of numbers. -/
def TyV (w : World) (v : Value) : Prop := ∀ a n c, v = .slice (some a) n c → Tyd w a.block 3
theorem typ_sort {α : Type} [Inhabited α] (enc : α → Value) (w : World) (g m : Nat) (d : Array α) (os : Array Obj) {T : TypeId} (h : Tyd w g T) : Tyd (sortWorld enc w g 0 m d os) g T := by
 obtain ⟨c, fz, h⟩ := h
 have hlt : g < w.heap.size := (Array.getElem?_eq_some_iff.1 h).1
 have hs : (putRow enc (Sort.ahead w m) g 0 d).heap.size = w.heap.size := size_putRow _ _ _ _ _
 refine ⟨putCells enc 0 d c, fz, ?_⟩
 show (grow (putRow enc (Sort.ahead w m) g 0 d) os).heap[g]? = _
 rw [heap_grow_old _ _ (by rw [hs]; omega)]
 simp [putRow, mapBlock, Sort.ahead, Array.getElem?_modify, h, onCells]
theorem OwnI.typ {w : World} {B : Nat} {v : Value} {l : List Int} (h : OwnI w B v l) : TyV w v := by
 intro a n c e
 subst e
 rcases h.1.2 with ⟨h', _⟩ | ⟨g, cap, cur, h', hb, hg, _⟩
 ·cases h'
 ·injection h' with h1 _ _
  injection h1 with h1
  subst h1
  exact ⟨_, _, hg⟩
end Go.Proofs.YtjdboekanmfgpaaGreatDoor

namespace Go.Proofs.YtjdboekanmfgpaaGreatDoor
open Go.Lib

theorem cb_refl : ∀ l : List UInt8, compareBytes l l = 0
 | [] => rfl
 | a :: l => by
  unfold compareBytes
  rw [if_neg (UInt8.lt_irrefl a), if_neg (UInt8.lt_irrefl a)]
  exact cb_refl l
theorem cb_anti : ∀ a b : List UInt8, compareBytes b a = - compareBytes a b
 | [], [] => rfl
 | [], _ :: _ => rfl
 | _ :: _, [] => rfl
 | x :: a, y :: b => by
  show (if y < x then (-1 : Int) else if x < y then 1 else compareBytes b a) = -(if x < y then (-1 : Int) else if y < x then 1 else compareBytes a b)
  by_cases h1 : x < y
  ·have h2 : ¬ y < x := fun h => UInt8.lt_irrefl x (UInt8.lt_trans h1 h)
   simp [h1, h2]
  ·by_cases h2 : y < x
   ·simp [h1, h2]
   ·simp [h1, h2]
    exact cb_anti a b
theorem u8_eq {x y : UInt8} (h1 : ¬ x < y) (h2 : ¬ y < x) : x = y := by
 apply UInt8.toNat_inj.1
 rw [UInt8.lt_iff_toNat_lt] at h1 h2
 omega
theorem cb_zero : ∀ {a b : List UInt8}, compareBytes a b = 0 → a = b
 | [], [], _ => rfl
 | [], _ :: _, h => by simp [compareBytes] at h
 | _ :: _, [], h => by simp [compareBytes] at h
 | x :: a, y :: b, h => by
  unfold compareBytes at h
  by_cases h1 : x < y
  ·rw [if_pos h1] at h; simp at h
  ·by_cases h2 : y < x
   ·rw [if_neg h1, if_pos h2] at h; simp at h
   ·rw [if_neg h1, if_neg h2] at h
    rw [u8_eq h1 h2, cb_zero h]
theorem cb_vals : ∀ a b : List UInt8, compareBytes a b = -1 ∨ compareBytes a b = 0 ∨ compareBytes a b = 1
 | [], [] => .inr (.inl rfl)
 | [], _ :: _ => .inl rfl
 | _ :: _, [] => .inr (.inr rfl)
 | x :: a, y :: b => by
  unfold compareBytes
  by_cases h1 : x < y
  ·rw [if_pos h1]; exact .inl rfl
  ·by_cases h2 : y < x
   ·rw [if_neg h1, if_pos h2]; exact .inr (.inr rfl)
   ·rw [if_neg h1, if_neg h2]; exact cb_vals a b
theorem cb_trans : ∀ {a b c : List UInt8}, compareBytes a b < 0 → compareBytes b c < 0 → compareBytes a c < 0
 | [], [], _, h, _ => by simp [compareBytes] at h
 | _ :: _, [], _, h, _ => by simp [compareBytes] at h
 | _, _ :: _, [], _, h => by simp [compareBytes] at h
 | [], _ :: _, _ :: _, _, _ => by simp [compareBytes]
 | x :: a, y :: b, z :: c, h, k => by
  unfold compareBytes at h k ⊢
  by_cases h1 : x < y
  ·by_cases k1 : y < z
   ·rw [if_pos (UInt8.lt_trans h1 k1)]; omega
   ·rw [if_neg k1] at k
    by_cases k2 : z < y
    ·rw [if_pos k2] at k; omega
    ·rw [← u8_eq k1 k2, if_pos h1]; omega
  ·rw [if_neg h1] at h
   by_cases h2 : y < x
   ·rw [if_pos h2] at h; omega
   ·rw [if_neg h2] at h
    have e := u8_eq h1 h2
    subst e
    by_cases k1 : x < z
    ·rw [if_pos k1]; omega
    ·rw [if_neg k1] at k ⊢
     by_cases k2 : z < x
     ·rw [if_pos k2] at k; omega
     ·rw [if_neg k2] at k ⊢
      exact cb_trans h k
/-- Two keys. -/
def kc (a b : ByteArray) : Int := compareBytes a.data.toList b.data.toList
theorem kc_refl (a : ByteArray) : kc a a = 0 := cb_refl _
theorem kc_anti (a b : ByteArray) : kc b a = - kc a b := cb_anti _ _
theorem kc_zero {a b : ByteArray} (h : kc a b = 0) : a = b := by
 have := cb_zero h
 exact ByteArray.ext (Array.toList_inj.1 this)
theorem kc_vals (a b : ByteArray) : kc a b = -1 ∨ kc a b = 0 ∨ kc a b = 1 := cb_vals _ _
theorem kc_trans {a b c : ByteArray} (h : kc a b < 0) (k : kc b c < 0) : kc a c < 0 := cb_trans h k
/-- Members that rise. -/
abbrev Mem := ByteArray × JV
def Up (l : List Mem) : Prop := l.Pairwise fun x y => kc x.1 y.1 < 0
/-- A member put into its place. -/
def ins (x : Mem) : List Mem → List Mem
 | [] => [x]
 | y :: r => if kc y.1 x.1 < 0 then y :: ins x r else x :: y :: r
def srtM (l : List Mem) : List Mem := l.foldl (fun a x => ins x a) []
theorem ins_perm (x : Mem) : ∀ l : List Mem, (ins x l).Perm (x :: l)
 | [] => .refl _
 | y :: r => by
  unfold ins
  split
  ·exact ((ins_perm x r).cons y).trans (.swap x y r)
  ·exact .refl _
theorem foldl_ins_perm : ∀ (l a : List Mem), (l.foldl (fun a x => ins x a) a).Perm (l ++ a)
 | [], a => .refl _
 | x :: l, a => by
  show (l.foldl (fun a x => ins x a) (ins x a)).Perm (x :: (l ++ a))
  refine (foldl_ins_perm l (ins x a)).trans ?_
  exact ((ins_perm x a).append_left l).trans List.perm_middle
theorem srtM_perm (l : List Mem) : (srtM l).Perm l := by
 have := foldl_ins_perm l []
 rwa [List.append_nil] at this
theorem ins_up {x : Mem} : ∀ {l : List Mem}, Up l → (∀ y ∈ l, y.1 ≠ x.1) → Up (ins x l)
 | [], _, _ => by simp [ins, Up]
 | y :: r, h, hx => by
  have h' := List.pairwise_cons.1 h
  unfold ins
  split
  ·rename_i hlt
   refine List.pairwise_cons.2 ⟨fun z hz => ?_, ins_up h'.2 (fun z hz => hx z (List.mem_cons_of_mem _ hz))⟩
   rcases List.mem_cons.1 ((ins_perm x r).mem_iff.1 hz) with e | hz
   ·rw [e]; exact hlt
   ·exact h'.1 z hz
  ·rename_i hge
   have hlt : kc x.1 y.1 < 0 := by
    have h1 := kc_vals x.1 y.1
    have h2 := kc_anti x.1 y.1
    have h3 : kc y.1 x.1 ≠ 0 := fun e => hx y (by simp) (kc_zero e)
    omega
   refine List.pairwise_cons.2 ⟨fun z hz => ?_, h⟩
   rcases List.mem_cons.1 hz with e | hz
   ·rw [e]; exact hlt
   ·exact kc_trans hlt (h'.1 z hz)
theorem foldl_ins_up : ∀ (l a : List Mem), Up a → ((l ++ a).map (·.1)).Nodup → Up (l.foldl (fun a x => ins x a) a)
 | [], _, h, _ => h
 | x :: l, a, h, hn => by
  show Up (l.foldl (fun a x => ins x a) (ins x a))
  have hn' := List.nodup_cons.1 hn
  refine foldl_ins_up l (ins x a) (ins_up h fun y hy e => hn'.1 ?_) ?_
  ·exact List.mem_map.2 ⟨y, List.mem_append_right _ hy, e⟩
  ·have hp : ((l ++ ins x a).map (·.1)).Perm ((x :: (l ++ a)).map (·.1)) := List.Perm.map _ (((ins_perm x a).append_left l).trans List.perm_middle)
   exact hp.nodup_iff.2 hn
theorem srtM_up {l : List Mem} (h : (l.map (·.1)).Nodup) : Up (srtM l) := foldl_ins_up l [] List.Pairwise.nil (by rwa [List.append_nil])
/-- One alone rises. -/
theorem up_unique : ∀ {a b : List Mem}, Up a → Up b → a.Perm b → a = b
 | [], b, _, _, h => (List.nil_perm.1 h).symm
 | x :: a, [], _, _, h => absurd h.symm (by simp)
 | x :: a, y :: b, h, k, hp => by
  have h' := List.pairwise_cons.1 h
  have k' := List.pairwise_cons.1 k
  have e : x = y := by
   have hx : x ∈ y :: b := hp.mem_iff.1 (by simp)
   have hy : y ∈ x :: a := hp.mem_iff.2 (by simp)
   rcases List.mem_cons.1 hx with e | hx
   ·exact e
   ·rcases List.mem_cons.1 hy with e | hy
    ·exact e.symm
    ·have h1 := k'.1 x hx
     have h2 := h'.1 y hy
     have h3 := kc_anti x.1 y.1
     omega
  subst e
  rw [up_unique h'.2 k'.2 (List.Perm.cons_inv hp)]
theorem srtM_unique {l a : List Mem} (h : (l.map (·.1)).Nodup) (ha : Up a) (hp : a.Perm l) : a = srtM l := up_unique ha (srtM_up h) (hp.trans (srtM_perm l).symm)
end Go.Proofs.YtjdboekanmfgpaaGreatDoor
