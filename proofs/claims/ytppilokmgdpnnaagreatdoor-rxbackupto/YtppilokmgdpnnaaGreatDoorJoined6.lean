/-
  Ranges, trees and the reader as they lie in memory; worlds that differ in some blocks and in new ones alone. No condition.
-/
import Derived.Test.YtppilokmgdpnnaaGreatDoorJoined1
import Derived.Test.YtppilokmgdpnnaaGreatDoorJoined5
import Derived.WalkKit
import Derived.Below
import Derived.ProofKit
import Derived.Deep.Light
import Derived.Laws.AppendOwn
namespace Go.Proofs.YtppilokmgdpnnaaGreatDoor
open Go.RowKit
attribute [local go_sem] setCell_drewN alloc_drewN

theorem hid_intro {p : Prop} (h : p) : Hid p := h
theorem vb_d {B : Nat} {a w : World} (h : Below B a w) : Below B a w.drew := ⟨h.os, h.tape, h.output, h.size, h.block⟩
theorem vb_n {B : Nat} {a w : World} (h : Below B a w) (n : Nat) : Below B a (w.drewN n) := ⟨h.os, h.tape, h.output, h.size, h.block⟩
theorem vb_a {a w : World} (h : Below a.heap.size a w) (o : Obj) : Below a.heap.size a (w.alloc o) := h.alloc h.size o
theorem vb_s {a w : World} (h : Below a.heap.size a w) {b o : Nat} (hb : a.heap.size ≤ b) (v : Value) : Below a.heap.size a (w.setCell ⟨b, o, none⟩ v) := h.setCell hb v
theorem vb_t {a w w2 : World} (h : Below a.heap.size a w) (h2 : Below w.heap.size w w2) : Below a.heap.size a w2 := h.trans (h2.mono h.size)
theorem Tab.below {w w' : World} (h : Tab w) (hb : Below w.heap.size w w') : Tab w' := by
  have key : ∀ o v, w.cell? ⟨0, o, none⟩ = some v → w'.cell? ⟨0, o, none⟩ = some v := fun o v hv => by
    rw [hb.cell (World.block_lt_of_cell? w _ hv)]; exact hv
  exact ⟨key _ _ h.t0, key _ _ h.t1, key _ _ h.t2, key _ _ h.t3⟩

/-- Blocks that were there are as they were, but for those of X. -/
structure But (X : Nat → Prop) (w w' : World) : Prop where
  os : w'.os = w.os
  tape : w'.tape = w.tape
  output : w'.output = w.output
  size : w.heap.size ≤ w'.heap.size
  block : ∀ k, k < w.heap.size → ¬ X k → w'.heap[k]? = w.heap[k]?
theorem But.refl (X : Nat → Prop) (w : World) : But X w w := ⟨rfl, rfl, rfl, Nat.le_refl _, fun _ _ _ => rfl⟩
theorem But.trans {X : Nat → Prop} {a b c : World} (h : But X a b) (k : But X b c) : But X a c :=
  ⟨k.os.trans h.os, k.tape.trans h.tape, k.output.trans h.output, Nat.le_trans h.size k.size, fun i hi hx => (k.block i (Nat.lt_of_lt_of_le hi h.size) hx).trans (h.block i hi hx)⟩
theorem But.ofBelow {X : Nat → Prop} {a b : World} (h : Below a.heap.size a b) : But X a b := ⟨h.os, h.tape, h.output, h.size, fun k hk _ => h.block k hk⟩
theorem But.below {X : Nat → Prop} {a b c : World} (h : But X a b) (k : Below b.heap.size b c) : But X a c := h.trans (But.ofBelow k)
theorem But.alloc {X : Nat → Prop} {a w : World} (h : But X a w) (o : Obj) : But X a (w.alloc o) := h.below (vb_a (Below.refl _ _) o)
theorem But.drew {X : Nat → Prop} {a w : World} (h : But X a w) : But X a w.drew := ⟨h.os, h.tape, h.output, h.size, h.block⟩
theorem But.drewN {X : Nat → Prop} {a w : World} (h : But X a w) (n : Nat) : But X a (w.drewN n) := ⟨h.os, h.tape, h.output, h.size, h.block⟩
theorem But.set {X : Nat → Prop} {a w : World} (h : But X a w) {p : Addr} (hp : X p.block ∨ a.heap.size ≤ p.block) (u : Value) : But X a (w.setCell p u) :=
  ⟨h.os, h.tape, h.output, by have := h.size; simpa [World.setCell] using this, fun k hk hx => (Below.heap_setCell _ _ _ _ (by rcases hp with hp | hp; exact fun e => hx (e ▸ hp); omega)).trans (h.block k hk hx)⟩
theorem But.grown {X : Nat → Prop} {a w w' : World} {o : Option Nat} (h : But X a w) (g : w.grownBy w' o) (ho : ∀ b, o = some b → X b ∨ a.heap.size ≤ b) : But X a w' :=
  ⟨g.os.trans h.os, g.tape.trans h.tape, g.output.trans h.output, Nat.le_trans h.size g.size, fun k hk hx => (g.block k (Nat.lt_of_lt_of_le hk h.size) (fun e => by rcases ho k e.symm with h' | h'; exact hx h'; omega)).trans (h.block k hk hx)⟩
theorem But.tab {X : Nat → Prop} {w w' : World} (hb : But X w w') (h : Tab w) (hx : ¬ X 0) : Tab w' := by
  have key : ∀ o v, w.cell? ⟨0, o, none⟩ = some v → w'.cell? ⟨0, o, none⟩ = some v := fun o v hv =>
    (World.cell?_of_block (w := w) (w' := w') (hb.block _ (World.block_lt_of_cell? w _ hv) hx)).trans hv
  exact ⟨key _ _ h.t0, key _ _ h.t1, key _ _ h.t2, key _ _ h.t3⟩

/-- A number of 64 bits. -/
def I64 (k : Int) : Prop := -9223372036854775808 ≤ k ∧ k ≤ 9223372036854775807
/-- One of a row of ranges. -/
def ra (l : List (Int × Int)) (i : Nat) : Int × Int := l.getD i (0, 0)
theorem ra_mem {l : List (Int × Int)} {i : Nat} (h : i < l.length) : ra l i ∈ l := by
  unfold ra; rw [List.getD_eq_getElem?_getD, List.getElem?_eq_getElem h]; exact List.getElem_mem h
theorem ra_get {l : List (Int × Int)} {i : Nat} (h : i < l.length) : ra l i = l[i] := by
  unfold ra; rw [List.getD_eq_getElem?_getD, List.getElem?_eq_getElem h]; rfl
/-- A row of ranges in a world, outside of blocks that may be written yet. -/
def RI (w : World) (X : Nat → Prop) (l : List (Int × Int)) (v : Value) : Prop :=
  ∃ ao cap, v = .slice ao l.length cap ∧ l.length ≤ cap ∧ cap ≤ maxLen ∧ (∀ r ∈ l, I64 r.1 ∧ I64 r.2) ∧
    (l = [] ∨ ∃ b off, ao = some ⟨b, off, none⟩ ∧ ¬ X b ∧ ∀ i, i < l.length → w.cell? ⟨b, off + i * 2, none⟩ = some (.int .i64 (ra l i).1) ∧ w.cell? ⟨b, off + i * 2 + 1, none⟩ = some (.int .i64 (ra l i).2))
theorem RI.carry {w w' : World} {X X' : Nat → Prop} {l : List (Int × Int)} {v : Value} (h : RI w X l v) (hX : ∀ b, ¬ X b → b < w.heap.size → w'.heap[b]? = w.heap[b]? ∧ ¬ X' b) : RI w' X' l v := by
  obtain ⟨ao, cap, e, h1, h2, h3, h4⟩ := h
  refine ⟨ao, cap, e, h1, h2, h3, ?_⟩
  rcases h4 with h4 | ⟨b, off, h5, h6, h7⟩
  · exact Or.inl h4
  · by_cases hk : l = []
    · exact Or.inl hk
    have h0 : 0 < l.length := List.length_pos_iff.2 hk
    have hb : b < w.heap.size := World.block_lt_of_cell? w _ (h7 0 h0).1
    have hx := hX b h6 hb
    exact Or.inr ⟨b, off, h5, hx.2, fun i hi => ⟨(World.cell?_of_block (w := w) (w' := w') hx.1).trans (h7 i hi).1, (World.cell?_of_block (w := w) (w' := w') hx.1).trans (h7 i hi).2⟩⟩
theorem RI.kept {w w' : World} {X : Nat → Prop} {l : List (Int × Int)} {v : Value} (h : RI w X l v) (hb : Below w.heap.size w w') : RI w' X l v := h.carry fun b hx hlt => ⟨hb.block b hlt, hx⟩
theorem RI.nil (w : World) (X : Nat → Prop) : RI w X [] (.slice none 0 0) := ⟨none, 0, rfl, Nat.le_refl _, by unfold maxLen; omega, fun r hr => by simp at hr, Or.inl rfl⟩
theorem RI.shape {w : World} {X : Nat → Prop} {l : List (Int × Int)} {v : Value} (h : RI w X l v) : ∃ ao cap, v = .slice ao l.length cap ∧ l.length ≤ maxLen := by
  obtain ⟨ao, cap, e, h1, h2, _⟩ := h
  exact ⟨ao, cap, e, Nat.le_trans h1 h2⟩
theorem RI.but {w w' : World} {X Y : Nat → Prop} {l : List (Int × Int)} {v : Value} (h : RI w X l v) (hb : But Y w w') (hxy : ∀ b, Y b → X b) : RI w' X l v := h.carry fun b hx hlt => ⟨hb.block b hlt (fun hy => hx (hxy b hy)), hx⟩
theorem RI.weak {w : World} {X Y : Nat → Prop} {l : List (Int × Int)} {v : Value} (h : RI w X l v) (hxy : ∀ b, Y b → X b) : RI w Y l v := h.carry fun b hx _ => ⟨rfl, fun hy => hx (hxy b hy)⟩

/-- A tree's six cells. -/
inductive XI (w : World) (X : Nat → Prop) : RX → (Nat → Value) → Prop
  | mk {k : Int} {r : List (Int × Int)} {lo hi : Int} {z : Bool} {s : List RX} {f : Nat → Value} (ao : Option Addr) (cap : Nat) (G : Nat → Nat → Value)
    (f0 : f 0 = .int .i64 k) (f1 : RI w X r (f 1)) (f2 : f 2 = .int .i64 lo) (f3 : f 3 = .int .i64 hi) (f4 : f 4 = .bool z) (f5 : f 5 = .slice ao s.length cap)
    (hc : s.length ≤ cap ∧ cap ≤ maxLen) (hw : I64 k ∧ I64 lo ∧ I64 hi)
    (hl : s = [] ∨ ∃ b off, ao = some ⟨b, off, none⟩ ∧ ¬ X b ∧ ∀ i, i < s.length → ∀ j, j < 6 → w.cell? ⟨b, off + i * 6 + j, none⟩ = some (G i j))
    (hr : ∀ i (h : i < s.length), XI w X s[i] (G i)) : XI w X (.mk k r lo hi z s) f
/-- The tree's value itself. -/
def xa (f : Nat → Value) : Value := .agg #[f 0, f 1, f 2, f 3, f 4, f 5]
theorem XI.carry {w w' : World} {X X' : Nat → Prop} {v : RX} {f : Nat → Value} (h : XI w X v f) (hX : ∀ b, ¬ X b → b < w.heap.size → w'.heap[b]? = w.heap[b]? ∧ ¬ X' b) : XI w' X' v f := by
  induction h with
  | mk ao cap G f0 f1 f2 f3 f4 f5 hc hw hl hr ih =>
    refine XI.mk ao cap G f0 (f1.carry hX) f2 f3 f4 f5 hc hw ?_ ih
    rcases hl with h4 | ⟨b, off, h5, h6, h7⟩
    · exact Or.inl h4
    · rename_i s _
      by_cases hk : s = []
      · exact Or.inl hk
      have h0 : 0 < s.length := List.length_pos_iff.2 hk
      have hb : b < w.heap.size := World.block_lt_of_cell? w _ (h7 0 h0 0 (by omega))
      have hx := hX b h6 hb
      exact Or.inr ⟨b, off, h5, hx.2, fun i hi j hj => (World.cell?_of_block (w := w) (w' := w') hx.1).trans (h7 i hi j hj)⟩
theorem XI.kept {w w' : World} {X : Nat → Prop} {v : RX} {f : Nat → Value} (h : XI w X v f) (hb : Below w.heap.size w w') : XI w' X v f := h.carry fun b hx hlt => ⟨hb.block b hlt, hx⟩
theorem XI.but {w w' : World} {X Y : Nat → Prop} {v : RX} {f : Nat → Value} (h : XI w X v f) (hb : But Y w w') (hxy : ∀ b, Y b → X b) : XI w' X v f := h.carry fun b hx hlt => ⟨hb.block b hlt (fun hy => hx (hxy b hy)), hx⟩
theorem XI.weak {w : World} {X Y : Nat → Prop} {v : RX} {f : Nat → Value} (h : XI w X v f) (hxy : ∀ b, Y b → X b) : XI w Y v f := h.carry fun b hx _ => ⟨rfl, fun hy => hx (hxy b hy)⟩

/-- The reader: the code points that are left, and how many groups are open. -/
def RD (w : World) (rb : Nat) (l : List Int) (g : Int) : Prop :=
  ∃ (ao : Option Addr) (n cap a : Nat), w.cell? ⟨rb, 0, none⟩ = some (.slice ao n cap) ∧ w.cell? ⟨rb, 1, none⟩ = some (.int .i64 (a : Int)) ∧ w.cell? ⟨rb, 2, none⟩ = some (.int .i64 g) ∧
    (∀ o, w.frozen? ⟨rb, o, none⟩ = false) ∧ a + l.length = n ∧ n ≤ cap ∧ n ≤ 4096 ∧ (∀ c ∈ l, 0 ≤ c ∧ c ≤ 1114111) ∧ (0 ≤ g ∧ g ≤ 201) ∧
    (l = [] ∨ ∃ pb po, ao = some ⟨pb, po, none⟩ ∧ pb < rb ∧ ∀ i, i < l.length → w.cell? ⟨pb, po + (a + i), none⟩ = some (.int .i64 (pk l i)))
theorem RD.lt {w : World} {rb : Nat} {l : List Int} {g : Int} (h : RD w rb l g) : rb < w.heap.size := by
  obtain ⟨_, _, _, _, c0, _⟩ := h
  exact World.block_lt_of_cell? w _ c0
theorem RD.below {w w' : World} {rb : Nat} {l : List Int} {g : Int} (h : RD w rb l g) (hb : Below w.heap.size w w') : RD w' rb l g := by
  have hlt := h.lt
  obtain ⟨ao, n, cap, a, c0, c1, c2, fr, h1, h2, h3, h4, h5, h6⟩ := h
  refine ⟨ao, n, cap, a, (hb.cell (p := ⟨rb, 0, none⟩) hlt).trans c0, (hb.cell (p := ⟨rb, 1, none⟩) hlt).trans c1, (hb.cell (p := ⟨rb, 2, none⟩) hlt).trans c2, fun o => (hb.frozen (p := ⟨rb, o, none⟩) hlt).trans (fr o), h1, h2, h3, h4, h5, ?_⟩
  rcases h6 with h6 | ⟨pb, po, e, hne, h7⟩
  · exact Or.inl h6
  · exact Or.inr ⟨pb, po, e, hne, fun i hi => (hb.cell (p := ⟨pb, po + (a + i), none⟩) (World.block_lt_of_cell? w _ (h7 i hi))).trans (h7 i hi)⟩
theorem pk_drop (l : List Int) (k i : Nat) : pk (l.drop k) i = pk l (k + i) := by
  simp [pk, List.getD_eq_getElem?_getD, List.getElem?_drop]
theorem pk_mem {l : List Int} {i : Nat} (h : i < l.length) : pk l i ∈ l := by
  unfold pk; rw [List.getD_eq_getElem?_getD, List.getElem?_eq_getElem h]; exact List.getElem_mem h
theorem pk_out {l : List Int} {i : Nat} (h : l.length ≤ i) : pk l i = -1 := by
  unfold pk; rw [List.getD_eq_getElem?_getD, List.getElem?_eq_none h]; rfl
/-- Passing over some. -/
theorem RD.adv {w : World} {rb : Nat} {l : List Int} {g : Int} (h : RD w rb l g) (k : Nat) (hk : k ≤ l.length) (a : Nat) (ha : w.cell? ⟨rb, 1, none⟩ = some (.int .i64 (a : Int))) (x : Int) (hx : x = (a : Int) + k) : RD (w.setCell ⟨rb, 1, none⟩ (.int .i64 x)) rb (l.drop k) g := by
  obtain ⟨ao, n, cap, a', c0, c1, c2, fr, h1, h2, h3, h4, h5, h6⟩ := h
  obtain rfl : a = a' := by rw [ha] at c1; simp at c1; omega
  subst hx
  have oth : ∀ p : Addr, (⟨rb, 1, none⟩ : Addr) ≠ p → ∀ v, (w.setCell ⟨rb, 1, none⟩ v).cell? p = w.cell? p := fun p hp v => World.cell?_setCell_other _ _ _ _ hp
  refine ⟨ao, n, cap, a + k, ?_, ?_, ?_, fun o => by rw [World.frozen?_setCell]; exact fr o, by simp only [List.length_drop]; omega, h2, h3, fun c hc => h4 c (List.mem_of_mem_drop hc), h5, ?_⟩
  · rw [oth _ (by simp)]; exact c0
  · rw [World.cell?_setCell_same _ _ _ ha]; simp
  · rw [oth _ (by simp)]; exact c2
  · rcases h6 with h6 | ⟨pb, po, e, hne, h7⟩
    · subst h6; simp
    · by_cases hz : l.drop k = []
      · exact Or.inl hz
      refine Or.inr ⟨pb, po, e, hne, fun i hi => ?_⟩
      rw [oth _ (by intro he; injection he with he1; omega), pk_drop, show po + (a + k + i) = po + (a + (k + i)) by omega]
      exact h7 (k + i) (by simp only [List.length_drop] at hi; omega)
/-- The count of groups turned. -/
theorem RD.grp {w : World} {rb : Nat} {l : List Int} {g : Int} (h : RD w rb l g) (x : Int) (hx : 0 ≤ x ∧ x ≤ 201) : RD (w.setCell ⟨rb, 2, none⟩ (.int .i64 x)) rb l x := by
  obtain ⟨ao, n, cap, a, c0, c1, c2, fr, h1, h2, h3, h4, h5, h6⟩ := h
  have oth : ∀ p : Addr, (⟨rb, 2, none⟩ : Addr) ≠ p → ∀ v, (w.setCell ⟨rb, 2, none⟩ v).cell? p = w.cell? p := fun p hp v => World.cell?_setCell_other _ _ _ _ hp
  refine ⟨ao, n, cap, a, ?_, ?_, ?_, fun o => by rw [World.frozen?_setCell]; exact fr o, h1, h2, h3, h4, hx, ?_⟩
  · rw [oth _ (by simp)]; exact c0
  · rw [oth _ (by simp)]; exact c1
  · exact World.cell?_setCell_same _ _ _ c2
  · rcases h6 with h6 | ⟨pb, po, e, hne, h7⟩
    · exact Or.inl h6
    · exact Or.inr ⟨pb, po, e, hne, fun i hi => by rw [oth _ (by intro he; injection he with he1; omega)]; exact h7 i hi⟩
/-- A store into a block behind the reader's. -/
theorem RD.away {w : World} {rb : Nat} {l : List Int} {g : Int} (h : RD w rb l g) {b o : Nat} (hb : rb < b) (u : Value) : RD (w.setCell ⟨b, o, none⟩ u) rb l g := by
  obtain ⟨ao, n, cap, a, c0, c1, c2, fr, h1, h2, h3, h4, h5, h6⟩ := h
  have oth : ∀ p : Addr, p.block < b → (w.setCell ⟨b, o, none⟩ u).cell? p = w.cell? p := fun p hp => World.cell?_setCell_other _ _ _ _ (by intro e; rw [← e] at hp; exact Nat.lt_irrefl _ hp)
  refine ⟨ao, n, cap, a, (oth _ hb).trans c0, (oth _ hb).trans c1, (oth _ hb).trans c2, fun o' => by rw [World.frozen?_setCell]; exact fr o', h1, h2, h3, h4, h5, ?_⟩
  rcases h6 with h6 | ⟨pb, po, e, hne, h7⟩
  · exact Or.inl h6
  · exact Or.inr ⟨pb, po, e, hne, fun i hi => (oth _ (by show pb < b; omega)).trans (h7 i hi)⟩
theorem RI.set {w : World} {X : Nat → Prop} {l : List (Int × Int)} {v : Value} (h : RI w X l v) {a : Addr} (ha : X a.block) (u : Value) : RI (w.setCell a u) X l v :=
  h.carry fun b hx _ => ⟨Below.heap_setCell w a u b (fun e => hx (e ▸ ha)), hx⟩
theorem XI.set {w : World} {X : Nat → Prop} {t : RX} {f : Nat → Value} (h : XI w X t f) {a : Addr} (ha : X a.block) (u : Value) : XI (w.setCell a u) X t f :=
  h.carry fun b hx _ => ⟨Below.heap_setCell w a u b (fun e => hx (e ▸ ha)), hx⟩
/-- The panic with ErrRx. -/
abbrev stopX : Ending := .panicked [{ v := .iface 27 (.int .i64 90), recovered := false }]
end Go.Proofs.YtppilokmgdpnnaaGreatDoor
