/-
  Blocks, rows of whole numbers as they lie in memory, worlds that differ in some blocks and in new ones alone. Conditions: there is room.
  What the small functions of package utf answer: isSurrogate, least, lead, follows. Conditions: the table of greatest code points holds its four numbers.
-/
import Derived.Test.YtjdboekanmfgpaaGreatDoorProg
import Derived.WalkSpells
import Derived.WalkLawsBesides
import Derived.Deep.QuietTactic
import Derived.BigQuiet
import Derived.WalkKit
import Derived.Below
import Derived.ProofKit
import Derived.Deep.Light
import Derived.Laws.AppendOwn
import Derived.Laws.OwnMore
import Derived.Lib.Builder
import Derived.Deep.AppendLies
import Derived.Deep.RegionHeld3
import Derived.Deep.LoopGhost
import Derived.Laws.BitsAllLaws
namespace Go.Proofs.YtjdboekanmfgpaaGreatDoor
open Go.RowKit Go.Maps
theorem setCell_drewN (w : World) (n : Nat) (a : Addr) (v : Value) : (w.drewN n).setCell a v = (w.setCell a v).drewN n := rfl
theorem alloc_drewN (w : World) (n : Nat) (o : Obj) : (w.drewN n).alloc o = (w.alloc o).drewN n := rfl
theorem ret_int {k : IntKind} {a b : Int} (h : a = b) : Ending.returned (.int k a) = .returned (.int k b) := by rw [h]
theorem ret_bool {a b : Bool} (h : a = b) : Ending.returned (.bool a) = .returned (.bool b) := by rw [h]
theorem add_at (b off j : Nat) : (⟨b, off, none⟩ : Addr).add j = ⟨b, off + j, none⟩ := by
 simp only [Addr.add]; split
 ·simp_all
 ·rfl
attribute [local go_sem] setCell_drewN alloc_drewN

theorem hid_intro {p : Prop} (h : p) : Hid p := h
theorem vb_d {B : Nat} {a w : World} (h : Below B a w) : Below B a w.drew := ⟨h.os, h.tape, h.output, h.size, h.block⟩
theorem vb_n {B : Nat} {a w : World} (h : Below B a w) (n : Nat) : Below B a (w.drewN n) := ⟨h.os, h.tape, h.output, h.size, h.block⟩
theorem vb_a {a w : World} (h : Below a.heap.size a w) (o : Obj) : Below a.heap.size a (w.alloc o) := h.alloc h.size o
theorem vb_s {a w : World} (h : Below a.heap.size a w) {b o : Nat} (hb : a.heap.size ≤ b) (v : Value) : Below a.heap.size a (w.setCell ⟨b, o, none⟩ v) := h.setCell hb v
theorem vb_t {a w w2 : World} (h : Below a.heap.size a w) (h2 : Below w.heap.size w w2) : Below a.heap.size a w2 := h.trans (h2.mono h.size)
/-- A number of 64 bits. -/
def I64 (k : Int) : Prop := -9223372036854775808 ≤ k ∧ k ≤ 9223372036854775807

/-- A block of a struct's cells. -/
def Bk (w : World) (b : Nat) (cs : Array Value) : Prop := ∃ T, w.heap[b]? = some (.cells cs T (0, 0))
theorem Bk.lt {w : World} {b : Nat} {cs : Array Value} (h : Bk w b cs) : b < w.heap.size := by
 obtain ⟨T, h⟩ := h
 exact (Array.getElem?_eq_some_iff.1 h).1
theorem Bk.cell {w : World} {b : Nat} {cs : Array Value} (h : Bk w b cs) (i : Nat) : w.cell? ⟨b, i, none⟩ = cs[i]? := by
 obtain ⟨T, h⟩ := h
 exact Lib.cell_of_heap h i
theorem Bk.frz {w : World} {b : Nat} {cs : Array Value} (h : Bk w b cs) (i : Nat) : w.frozen? ⟨b, i, none⟩ = false := by
 obtain ⟨T, h⟩ := h
 exact Lib.frozen_of_heap h i
theorem Bk.below {w w' : World} {b B : Nat} {cs : Array Value} (h : Bk w b cs) (hb : Below B w w') (hlt : b < B) : Bk w' b cs := by
 obtain ⟨T, h⟩ := h
 exact ⟨T, by rw [hb.block b hlt]; exact h⟩
theorem Bk.bel {w w' : World} {b : Nat} {cs : Array Value} (h : Bk w b cs) (hb : Below w.heap.size w w') : Bk w' b cs := h.below hb h.lt
theorem Bk.new (w : World) (cs : Array Value) (T : TypeId) : Bk (w.alloc (.cells cs T)) w.heap.size cs := ⟨T, by show (w.heap.push _)[w.heap.size]? = _; simp⟩
theorem Bk.new' (w : World) (cs : Array Value) (T : TypeId) (b : Nat) (hb : w.heap.size = b) : Bk (w.alloc (.cells cs T)) b cs := hb ▸ Bk.new w cs T
theorem Bk.al {w : World} {b : Nat} {cs : Array Value} (h : Bk w b cs) (o : Obj) : Bk (w.alloc o) b cs := h.bel (vb_a (Below.refl _ _) _)
theorem Bk.dr {w : World} {b : Nat} {cs : Array Value} (h : Bk w b cs) (n : Nat) : Bk (w.drewN n) b cs := h
theorem Bk.dw {w : World} {b : Nat} {cs : Array Value} (h : Bk w b cs) : Bk w.drew b cs := h
theorem Bk.away {w : World} {b : Nat} {cs : Array Value} (h : Bk w b cs) {a : Addr} {v : Value} (hne : b ≠ a.block) : Bk (w.setCell a v) b cs := by
 obtain ⟨T, h⟩ := h
 exact ⟨T, by rw [Below.heap_setCell w a v b hne]; exact h⟩
theorem Bk.set {w : World} {b : Nat} {cs cs' : Array Value} (h : Bk w b cs) (i : Nat) (v : Value) (e : cs.setIfInBounds i v = cs') : Bk (w.setCell ⟨b, i, none⟩ v) b cs' := by
 have hl := h.lt
 obtain ⟨T, h⟩ := h
 refine ⟨T, ?_⟩
 subst e
 obtain ⟨hl', e'⟩ := Array.getElem?_eq_some_iff.1 h
 simp only [World.setCell]
 rw [Array.getElem?_eq_getElem (by rw [Array.size_modify]; exact hl), Array.getElem_modify_self, e']
 rfl
theorem Bk.c2 {w : World} {b : Nat} {x0 x1 : Value} (h : Bk w b #[x0, x1]) : w.cell? ⟨b, 0, none⟩ = some x0 ∧ w.cell? ⟨b, 1, none⟩ = some x1 := ⟨h.cell 0, h.cell 1⟩
theorem Bk.z2 {w : World} {b : Nat} {cs : Array Value} (h : Bk w b cs) : w.frozen? ⟨b, 0, none⟩ = false ∧ w.frozen? ⟨b, 1, none⟩ = false := ⟨h.frz 0, h.frz 1⟩
theorem Bk.c6 {w : World} {b : Nat} {x0 x1 x2 x3 x4 x5 : Value} (h : Bk w b #[x0, x1, x2, x3, x4, x5]) :
  w.cell? ⟨b, 0, none⟩ = some x0 ∧ w.cell? ⟨b, 1, none⟩ = some x1 ∧ w.cell? ⟨b, 2, none⟩ = some x2 ∧ w.cell? ⟨b, 3, none⟩ = some x3 ∧ w.cell? ⟨b, 4, none⟩ = some x4 ∧ w.cell? ⟨b, 5, none⟩ = some x5 :=
 ⟨h.cell 0, h.cell 1, h.cell 2, h.cell 3, h.cell 4, h.cell 5⟩
theorem Bk.z6 {w : World} {b : Nat} {cs : Array Value} (h : Bk w b cs) :
  w.frozen? ⟨b, 0, none⟩ = false ∧ w.frozen? ⟨b, 1, none⟩ = false ∧ w.frozen? ⟨b, 2, none⟩ = false ∧ w.frozen? ⟨b, 3, none⟩ = false ∧ w.frozen? ⟨b, 4, none⟩ = false ∧ w.frozen? ⟨b, 5, none⟩ = false :=
 ⟨h.frz 0, h.frz 1, h.frz 2, h.frz 3, h.frz 4, h.frz 5⟩
/-- One of a row of numbers. -/
def ia (t : List Int) (i : Nat) : Int := t.getD i 0
theorem ia_mem {t : List Int} {i : Nat} (h : i < t.length) : ia t i ∈ t := by
 unfold ia; rw [List.getD_eq_getElem?_getD, List.getElem?_eq_getElem h]; exact List.getElem_mem h
/-- A row of numbers in a world, outside of blocks that may be written yet. -/
def II (w : World) (X : Nat → Prop) (t : List Int) (v : Value) : Prop :=
 ∃ ao cap, v = .slice ao t.length cap ∧ t.length ≤ cap ∧ cap ≤ maxLen ∧ (∀ x ∈ t, I64 x) ∧
  (t = [] ∨ ∃ b off, ao = some ⟨b, off, none⟩ ∧ ¬ X b ∧ ∀ i, i < t.length → w.cell? ⟨b, off + i, none⟩ = some (.int .i64 (ia t i)))
theorem II.carry {w w' : World} {X X' : Nat → Prop} {t : List Int} {v : Value} (h : II w X t v) (hX : ∀ b, ¬ X b → b < w.heap.size → w'.heap[b]? = w.heap[b]? ∧ ¬ X' b) : II w' X' t v := by
 obtain ⟨ao, cap, e, h1, h2, h3, h4⟩ := h
 refine ⟨ao, cap, e, h1, h2, h3, ?_⟩
 rcases h4 with h4 | ⟨b, off, h5, h6, h7⟩
 ·exact Or.inl h4
 ·by_cases hk : t = []
  ·exact Or.inl hk
  have h0 : 0 < t.length := List.length_pos_iff.2 hk
  have hb : b < w.heap.size := World.block_lt_of_cell? w _ (h7 0 h0)
  have hx := hX b h6 hb
  exact Or.inr ⟨b, off, h5, hx.2, fun i hi => (World.cell?_of_block (w := w) (w' := w') hx.1).trans (h7 i hi)⟩
theorem II.kept {w w' : World} {X : Nat → Prop} {t : List Int} {v : Value} (h : II w X t v) (hb : Below w.heap.size w w') : II w' X t v := h.carry fun b hx hlt => ⟨hb.block b hlt, hx⟩
theorem Bk.gr {w w' : World} {b : Nat} {cs : Array Value} {o : Option Nat} (h : Bk w b cs) (g : w.grownBy w' o) (ho : o ≠ some b) : Bk w' b cs := by
 have hl := h.lt
 obtain ⟨T, h⟩ := h
 exact ⟨T, by rw [g.block b hl (fun e => ho e.symm)]; exact h⟩
theorem Bk.q1 {w : World} {b : Nat} {x0 : Value} (h : Bk w b #[x0]) : w.cell? ⟨b, 0, none⟩ = some x0 := h.cell 0

def ivs (l : List Int) : List Value := l.map fun x => .int .i64 x
theorem ivs_len (l : List Int) : (ivs l).length = l.length := by simp [ivs]
/-- A row of numbers that the call owns. -/
def OwnI (w : World) (B : Nat) (v : Value) (l : List Int) : Prop := w.ownsRow B 3 1 v l.length (ivs l) ∧ ∀ x ∈ l, I64 x
theorem OwnI.nil (w : World) (B : Nat) : OwnI w B (.slice none 0 0) [] := ⟨World.ownsRow_nil w B _ 1, fun r hr => by simp at hr⟩
theorem OwnI.ii {w : World} {B : Nat} {v : Value} {l : List Int} (h : OwnI w B v l) (X : Nat → Prop) (hX : ∀ b, v.ownBlock = some b → ¬ X b) : II w X l v := by
 obtain ⟨ho, hw⟩ := h
 have ho' := ho
 rcases ho.2 with ⟨rfl, hn⟩ | ⟨g, cap, cur, rfl, hb, hg, hc, hm, hs, ht⟩
 ·have : l = [] := List.eq_nil_of_length_eq_zero hn
  subst this
  exact ⟨_, 0, rfl, Nat.le_refl _, by unfold maxLen; omega, hw, Or.inl rfl⟩
 ·refine ⟨_, cap, rfl, hc, hm, hw, Or.inr ⟨g, 0, rfl, hX g rfl, fun i hi => ?_⟩⟩
  rw [Nat.zero_add, ho'.cellAt _ (by omega)]
  unfold ivs ia
  rw [List.getElem?_map, List.getElem?_eq_getElem hi, List.getD_eq_getElem?_getD, List.getElem?_eq_getElem hi]; rfl
theorem OwnI.blk {w w' : World} {B : Nat} {v : Value} {l : List Int} (h : OwnI w B v l) (hb : ∀ g, v.ownBlock = some g → w'.heap[g]? = w.heap[g]?) : OwnI w' B v l := by
 refine ⟨⟨h.1.1, ?_⟩, h.2⟩
 rcases h.1.2 with h' | ⟨g, c, cur, rfl, hb', hg, hrest⟩
 ·exact Or.inl h'
 ·exact Or.inr ⟨g, c, cur, rfl, hb', (hb g rfl).trans hg, hrest⟩
theorem OwnI.lt {w : World} {B : Nat} {v : Value} {l : List Int} (h : OwnI w B v l) {g : Nat} (hg : v.ownBlock = some g) : B ≤ g ∧ g < w.heap.size := h.1.lt g hg
theorem OwnI.bel {w w' : World} {B : Nat} {v : Value} {l : List Int} (h : OwnI w B v l) (hb : Below w.heap.size w w') : OwnI w' B v l := h.blk fun g hg => hb.block g (h.lt hg).2
theorem OwnI.gr {w w' : World} {B : Nat} {v : Value} {l : List Int} {o : Option Nat} (h : OwnI w B v l) (hb : w.grownBy w' o) (ho : ∀ g, v.ownBlock = some g → o ≠ some g) : OwnI w' B v l := h.blk fun g hg => hb.block g (h.lt hg).2 (fun e => ho g hg e.symm)
theorem OwnI.set {w : World} {B : Nat} {v : Value} {l : List Int} (h : OwnI w B v l) (a : Addr) (u : Value) (ha : a.block < B) : OwnI (w.setCell a u) B v l := h.blk fun g hg => Below.heap_setCell w a u g (fun e => by have := (h.lt hg).1; omega)
theorem OwnI.form {w : World} {B : Nat} {v : Value} {l : List Int} (h : OwnI w B v l) : ∃ ao cap, v = .slice ao l.length cap ∧ l.length ≤ cap ∧ cap ≤ maxLen ∧ (0 < l.length → ∃ g, ao = some ⟨g, 0, none⟩) ∧ (∀ g off u, ao = some ⟨g, off, u⟩ → off = 0 ∧ u = none) := by
 rcases h.1.2 with ⟨rfl, hn⟩ | ⟨g, cap, cur, rfl, hb, hg, hc, hm, hs, ht⟩
 ·exact ⟨none, 0, by rw [hn], by omega, by unfold maxLen; omega, fun h => by omega, fun g off u e => by cases e⟩
 ·exact ⟨_, cap, rfl, hc, hm, fun _ => ⟨g, rfl⟩, fun g' off u e => by cases e; exact ⟨rfl, rfl⟩⟩
/-- The first of a row. -/
theorem OwnI.take {w : World} {B : Nat} {ao : Option Addr} {n cap : Nat} {l : List Int} (h : OwnI w B (.slice ao n cap) l) (k : Nat) (hk : k ≤ l.length) : OwnI w B (.slice ao k cap) (l.take k) := by
 refine ⟨?_, fun x hx => h.2 x (List.mem_of_mem_take hx)⟩
 have hlen : (l.take k).length = k := by rw [List.length_take]; omega
 rw [hlen]
 refine ⟨by rw [ivs_len, hlen]; omega, ?_⟩
 rcases h.1.2 with ⟨e, hn⟩ | ⟨g, cap', cur, e, hb, hg, hc, hm, hs, ht⟩
 ·injection e with e1 e2 e3
  subst e1 e2 e3
  obtain rfl : k = 0 := by omega
  exact Or.inl ⟨rfl, rfl⟩
 ·injection e with e1 e2 e3
  subst e1 e2 e3
  refine Or.inr ⟨g, cap, cur, rfl, hb, hg, by omega, hm, hs, ?_⟩
  have : ivs (l.take k) = (ivs l).take k := by unfold ivs; rw [List.map_take]
  rw [this, ← ht, List.take_take]
  congr 1
  omega
theorem infoInt : (Tryz.prog.info? 3).map (fun i => (i.zero, i.size, i.bytes)) = some (some (.int .i64 0), 1, 8) := by kernel_rfl
/-- A number more in a row. -/
theorem wpList_append_i {w : World} {ops : Array Oper} {rest : List Oper} {o : Oper} {a : Act} {Q : Exit → Act → World → Prop} (hgd : o.guard = none) (s x : Operand)
  (ho : o.op = .call { callee := .builtin .append, args := #[s, x], argTypes := #[67, 67] }) (B : Nat) (v : Value) (l : List Int) (hs : a.eval s = v) (hown : OwnI w B v l) (hB : B ≤ w.heap.size) (hn : l.length ≤ 1099511627776) (y : Int) (hy : I64 y)
  (t : Nat) (ht : w.heap.size = t) (hx : a.eval x = .slice (some ⟨t, 0, none⟩) 1 1)
  (h : ∀ g cap w', OwnI w' B (.slice (some ⟨g, 0, none⟩) (l.length + 1) cap) (l ++ [y]) → (w.alloc (.cells #[.int .i64 y] 3)).grownBy w' v.ownBlock → (v.ownBlock = some g ∨ w.heap.size < g) → wpList Tryz.prog ops Q rest (a.put o.dst (.slice (some ⟨g, 0, none⟩) (l.length + 1) cap)) w') :
  wpList Tryz.prog ops Q (o :: rest) a (w.alloc (.cells #[.int .i64 y] 3)) := by
 subst ht
 obtain ⟨i0, hi, hz0, hz1, hz2⟩ := info_parts infoInt
 refine wpList_append_lies _ hgd s x 67 ho B 3 i0 (.int .i64 0) 1 8 Tryz.underlying67 hi hz0 hz1 hz2 rfl (by decide) v l.length (ivs l) hs (hown.bel (vb_a (Below.refl _ _) _)).1 ⟨w.heap.size, 0, none⟩ 1 1 [.int .i64 y] hx rfl (cell_one_new _ _ _) (ints_oneCell .i64 [y]) (by decide) (by unfold maxLen; omega) (by omega) (by simp; omega) _ rfl ?_
 intro g cap w' h1 h2 h3 h4
 refine h g cap w' ⟨?_, ?_⟩ h2 (h3.imp id (fun e => by rw [e]; simp))
 ·have e : ivs (l ++ [y]) = ivs l ++ [.int .i64 y] := by simp [ivs]
  rw [e, List.length_append]
  exact h1
 ·intro z hz
  rcases List.mem_append.1 hz with hz | hz
  ·exact hown.2 z hz
  ·simp at hz; exact hz ▸ hy

/-- A value's cells as it is handed in. -/
def vbox (w : World) (k : Int) (n : Bool) (g : ByteArray) (e : Int) (t : ByteArray) (lv kv : Value) : World := w.alloc (.cells #[.int .i64 k, .bool n, .string g, .int .i64 e, .string t, lv, kv] 28)
end Go.Proofs.YtjdboekanmfgpaaGreatDoor

namespace Go.Proofs.YtjdboekanmfgpaaGreatDoor.Lx
open Go.RowKit

/-- The table of greatest code points, as it lies in memory. -/
structure Tab (w : World) : Prop where
  t0 : w.cell? ⟨1, 0, none⟩ = some (.int .i64 127)
  t1 : w.cell? ⟨1, 1, none⟩ = some (.int .i64 2047)
  t2 : w.cell? ⟨1, 2, none⟩ = some (.int .i64 65535)
  t3 : w.cell? ⟨1, 3, none⟩ = some (.int .i64 1114111)

def surB (p : Int) : Bool := decide (55296 ≤ p) && decide (p ≤ 57343)

set_option maxHeartbeats 400000 in
theorem sur_any (p : Int) (w : World) :
    Calls Tryz.prog 183 #[.int .i64 p] w fun e w' => e = .returned (.bool (surB p)) ∧ w' = w := by
  by_cases h1 : 55296 ≤ p
  · by_cases h2 : p ≤ 57343
    · go_enter Tryz.func183, Tryz.ntmps183
      go_wp2
      go_ret
      exact ⟨by simp [surB, h1, h2], rfl⟩
    · go_enter Tryz.func183, Tryz.ntmps183
      go_wp2
      go_ret
      exact ⟨by simp [surB, h1, h2], rfl⟩
  · go_enter Tryz.func183, Tryz.ntmps183
    go_wp2
    go_ret
    exact ⟨by have : decide (55296 ≤ p) = false := by simpa using h1
              simp [surB, this], rfl⟩

def leastN (n : Int) : Int := if n = 1 then 0 else if n = 2 then 128 else if n = 3 then 2048 else 65536
def greatN (n : Int) : Int := if n = 1 then 127 else if n = 2 then 2047 else if n = 3 then 65535 else 1114111

set_option maxHeartbeats 400000 in
theorem least_any (n : Int) (w : World) (hT : Tab w) (h1 : 1 ≤ n) (h4 : n ≤ 4) :
    Calls Tryz.prog 182 #[.int .i64 n] w fun e w' => e = .returned (.int .i64 (leastN n)) ∧ w' = w := by
  obtain ⟨t0, t1, t2, t3⟩ := hT
  have hn : n = 1 ∨ n = 2 ∨ n = 3 ∨ n = 4 := by omega
  rcases hn with rfl | rfl | rfl | rfl
  all_goals
    go_enter Tryz.func182, Tryz.ntmps182
    go_wp2
    go_ret
    exact ⟨by rfl, rfl⟩

/-- The first byte: how many bytes it announces, and the bits that it gives. -/
def ldN (c : Int) : Int := if c < 128 then 1 else if c < 192 then 0 else if c < 224 then 2 else if c < 240 then 3 else if c < 248 then 4 else 0
def ldB (c : Int) : Int := if c < 128 then c else if c < 192 then 0 else if c < 224 then c % 32 else if c < 240 then c % 16 else if c < 248 then c % 8 else 0

theorem u8mask (c : Int) (m : Nat) (h0 : 0 ≤ c) (h1 : c < 256) (hm : m < 256) : bits .and .u8 c (m : Int) = ((c.toNat &&& m : Nat) : Int) := by
  rw [u8_and c m h0 h1 (by omega) (by omega)]; rfl
theorem u8m31 (c : Int) (h0 : 0 ≤ c) (h1 : c < 256) : bits .and .u8 c 31 = c % 32 := by
  rw [show (31 : Int) = ((31 : Nat) : Int) from rfl, u8mask c 31 h0 h1 (by omega), nat_mask5]; omega
theorem u8m15 (c : Int) (h0 : 0 ≤ c) (h1 : c < 256) : bits .and .u8 c 15 = c % 16 := by
  rw [show (15 : Int) = ((15 : Nat) : Int) from rfl, u8mask c 15 h0 h1 (by omega), nat_mask4]; omega
theorem u8m7 (c : Int) (h0 : 0 ≤ c) (h1 : c < 256) : bits .and .u8 c 7 = c % 8 := by
  rw [show (7 : Int) = ((7 : Nat) : Int) from rfl, u8mask c 7 h0 h1 (by omega), nat_mask3]; omega
theorem u8m63 (c : Int) (h0 : 0 ≤ c) (h1 : c < 256) : bits .and .u8 c 63 = c % 64 := by
  rw [show (63 : Int) = ((63 : Nat) : Int) from rfl, u8mask c 63 h0 h1 (by omega), nat_mask6]; omega

theorem ret2_int {k l : IntKind} {a b c d : Int} (h : a = b) (g : c = d) : Ending.returned (.tuple #[.int k a, .int l c]) = .returned (.tuple #[.int k b, .int l d]) := by rw [h, g]

set_option maxHeartbeats 400000 in
theorem lead_any (c : Int) (w : World) (h0 : 0 ≤ c) (h1 : c < 256) :
    Calls Tryz.prog 161 #[.int .u8 c] w fun e w' => e = .returned (.tuple #[.int .i64 (ldN c), .int .i64 (ldB c)]) ∧ w' = w := by
  go_enter Tryz.func161, Tryz.ntmps161
  go_wp2
  all_goals go_ret2
  all_goals exact ⟨ret2_int (by unfold ldN; split <;> omega) (by unfold ldB; split <;> omega), rfl⟩

def folB (c : Int) : Bool := decide (128 ≤ c) && decide (c ≤ 191)
set_option maxHeartbeats 400000 in
theorem follows_any (c : Int) (w : World) :
    Calls Tryz.prog 83 #[.int .u8 c] w fun e w' => e = .returned (.bool (folB c)) ∧ w' = w := by
  by_cases h1 : 128 ≤ c
  · by_cases h2 : c ≤ 191
    · go_enter Tryz.func83, Tryz.ntmps83
      go_wp2
      go_ret
      exact ⟨by simp [folB, h1, h2], rfl⟩
    · go_enter Tryz.func83, Tryz.ntmps83
      go_wp2
      go_ret
      exact ⟨by simp [folB, h1, h2], rfl⟩
  · go_enter Tryz.func83, Tryz.ntmps83
    go_wp2
    go_ret
    exact ⟨by have : decide (128 ≤ c) = false := by simpa using h1
              simp [folB, this], rfl⟩

def p64 (m : Int) : Int := if m = 0 then 1 else if m = 1 then 64 else if m = 2 then 4096 else 262144
end Go.Proofs.YtjdboekanmfgpaaGreatDoor.Lx
