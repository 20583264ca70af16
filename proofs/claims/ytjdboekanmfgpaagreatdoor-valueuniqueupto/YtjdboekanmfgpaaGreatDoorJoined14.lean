/-
  slices.Clone at texts and at values: a row of the call's own with the same cells. Conditions: at most 2^30 of them.
  What value.copied keeps from round to round: its own seven cells, the row of values of its own, each a value that lies elsewhere. No condition.
-/
import Derived.Test.YtjdboekanmfgpaaGreatDoorJoined4
import Derived.Test.YtjdboekanmfgpaaGreatDoorJoined13
import Derived.Laws.AppendOwnNone
namespace Go.Proofs.YtjdboekanmfgpaaGreatDoor
open Go.RowKit
attribute [local go_sem] setCell_drewN alloc_drewN

theorem infoS : (Tryz.prog.info? 9).map (fun i => (i.zero, i.size, i.bytes)) = some (some (.string ⟨#[]⟩), 1, 16) := by kernel_rfl
theorem infoV : (Tryz.prog.info? 28).map (fun i => (i.zero, i.size, i.bytes)) = some (some (.agg #[.int .i64 0, .bool false, .string ⟨#[]⟩, .int .i64 0, .string ⟨#[]⟩, .slice none 0 0, .slice none 0 0]), 7, 104) := by kernel_rfl
theorem SI.of_own {w : World} {B : Nat} {v : Value} {ks : List ByteArray} {X : Nat → Prop} (h : w.ownsRow B 9 1 v ks.length (ks.map .string)) (hX : ∀ b, X b → b < B) (hs : ∀ s ∈ ks, s.size ≤ maxLen) : SI w X ks v := by
 have hc : ∀ g, v.ownBlock = some g → ∀ j u, (ks.map Value.string)[j]? = some u → w.cell? ((⟨g, 0, none⟩ : Addr).add j) = some u := fun g hg => World.ownsRow.cells h hg
 rcases h.2 with ⟨hv, hx⟩ | ⟨g, cap, cur, rfl, hg, _, h1, h2, _⟩
 ·have : ks = [] := by simpa using hx
  subst this
  exact ⟨none, 0, hv, Nat.le_refl _, by unfold maxLen; omega, hs, .inl rfl⟩
 ·refine ⟨some ⟨g, 0, none⟩, cap, rfl, h1, h2, hs, .inr ⟨g, 0, rfl, fun hx => by have := hX g hx; omega, fun i hi => ?_⟩⟩
  have := hc g rfl i (.string ks[i]) (by simp [hi])
  rw [add_at] at this
  exact this

set_option maxRecDepth 100000 in
set_option maxHeartbeats 800000 in
theorem cloneS_any (ks : List ByteArray) (v : Value) (X : Nat → Prop) (w : World) (h : SI w X ks v) (hX : ∀ b, X b → b < w.heap.size) (hl : ks.length ≤ 1073741824) :
  Calls Tryz.prog 47 #[v] w fun r w' => ∃ v', r = .returned v' ∧ SI w' X ks v' ∧ Below w.heap.size w w' := by
 have q : ∀ (w : World) (a : Option Addr) (n c n' c' : Nat), (binOp .eql 26 (.slice a n c) (.slice none n' c')).run Tryz.prog w = .ok (.bool a.isNone) w := fun w a n c n' c' => Lib.run_eql_slice_nil w _ _ a n c n' c' Tryz.underlying26
 obtain ⟨ao, cap, rfl, h1, h2, h3, h4⟩ := h
 cases ao with
 | none =>
  have hk : ks = [] := by
   rcases h4 with h4 | ⟨b, off, h5, _⟩
   ·exact h4
   ·cases h5
  subst hk
  go_enter Tryz.func47, Tryz.ntmps47
  go_wp2
  go_ret
  exact ⟨_, rfl, ⟨none, 0, rfl, Nat.le_refl _, by unfold maxLen; omega, h3, .inl rfl⟩, Below.refl _ _⟩
 | some a =>
  obtain ⟨i0, hi, hz0, hz1, hz2⟩ := info_parts infoS
  have hmade : (w.alloc (.cells #[] 9)).ownsRow w.heap.size 9 1 (.slice (some ⟨w.heap.size, 0, none⟩) 0 0) 0 [] := World.ownsRow_made w #[] 0 (Nat.le_refl _) (Nat.zero_le _) rfl
  have hnews : ∀ j u, (ks.map Value.string)[j]? = some u → (w.alloc (.cells #[] 9)).cell? (a.add j) = some u := fun j u hu => by
   obtain ⟨hj, rfl⟩ := List.getElem?_eq_some_iff.1 hu
   have hj' : j < ks.length := by simpa using hj
   rcases h4 with h4 | ⟨b, off, h5, _, h7⟩
   ·rw [h4] at hj'; exact absurd hj' (by simp)
   ·obtain rfl := Option.some.inj h5
    rw [add_at, World.cell?_alloc_past _ _ _ (World.block_lt_of_cell? w _ (h7 j hj'))]
    simp [h7 j hj']
  have hone : ∀ u ∈ ks.map Value.string, u.oneCell' = true := fun u hu => by
   obtain ⟨s, _, rfl⟩ := List.mem_map.1 hu
   rfl
  clear h1 h2 h4
  go_enter Tryz.func47, Tryz.ntmps47
  go_wp2_with (at_builtin; refine wpList_append_own _ rfl (.tmp 5) (.tmp 6) 26 rfl w.heap.size 9 i0 (.string ⟨#[]⟩) 1 16 Tryz.underlying26 hi hz0 hz1 hz2 rfl (by decide) _ 0 [] rfl hmade a ks.length cap (ks.map .string) rfl (by simp) hnews hone (by unfold maxLen; omega) (by omega) (by simp) ?_)
  intro v' w' g1 g2 _
  have hb : Below w.heap.size w w' := (bl_a (Below.refl _ _) _).grown g2 (by simp) (fun j hj => (World.ownsRow.lt hmade j hj).1)
  have hS := SI.of_own (X := X) g1 hX h3
  clear g1 g2 hnews hmade hone
  go_wp2
  go_ret
  exact ⟨_, rfl, hS, hb⟩

/-- The cells of a row of values. -/
def rowG (G : Nat → Nat → Value) (n : Nat) : List Value := (List.range (n * 7)).map fun j => G (j / 7) (j % 7)
theorem rowG_len (G : Nat → Nat → Value) (n : Nat) : (rowG G n).length = n * 7 := by simp [rowG]
theorem rowG_at (G : Nat → Nat → Value) (n i j : Nat) (hi : i < n) (hj : j < 7) : (rowG G n)[i * 7 + j]? = some (G i j) := by
 have h1 : (i * 7 + j) / 7 = i := by omega
 have h2 : (i * 7 + j) % 7 = j := by omega
 have h3 : i * 7 + j < n * 7 := by omega
 simp [rowG, h3, h1, h2]
theorem VI.one {w : World} {X : Nat → Prop} {v : JV} {f : Nat → Value} (h : VI w X v f) (j : Nat) (hj : j < 7) : (f j).oneCell' = true := by
 cases h with
 | mk ao cap G f0 f1 f2 f3 f4 f5 f6 hc hs hw hl hr =>
  obtain ⟨ko, kc, e6, _⟩ := f6
  have : j = 0 ∨ j = 1 ∨ j = 2 ∨ j = 3 ∨ j = 4 ∨ j = 5 ∨ j = 6 := by omega
  rcases this with rfl | rfl | rfl | rfl | rfl | rfl | rfl
  ·rw [f0]; rfl
  ·rw [f1]; rfl
  ·rw [f2]; rfl
  ·rw [f3]; rfl
  ·rw [f4]; rfl
  ·rw [f5]; rfl
  ·rw [e6]; rfl

set_option maxRecDepth 100000 in
set_option maxHeartbeats 800000 in
theorem cloneV_any (l : List JV) (ao : Option Addr) (cap : Nat) (G : Nat → Nat → Value) (X : Nat → Prop) (w : World) (hr : ∀ i (h : i < l.length), VI w X l[i] (G i)) (hl : l.length ≤ 1073741824)
  (h4 : l = [] ∨ ∃ b off, ao = some ⟨b, off, none⟩ ∧ ∀ i, i < l.length → ∀ j, j < 7 → w.cell? ⟨b, off + i * 7 + j, none⟩ = some (G i j)) :
  Calls Tryz.prog 48 #[.slice ao l.length cap] w fun r w' => ∃ v', r = .returned v' ∧ w'.ownsRow w.heap.size 28 7 v' l.length (rowG G l.length) ∧ Below w.heap.size w w' := by
 have q : ∀ (w : World) (a : Option Addr) (n c n' c' : Nat), (binOp .eql 25 (.slice a n c) (.slice none n' c')).run Tryz.prog w = .ok (.bool a.isNone) w := fun w a n c n' c' => Lib.run_eql_slice_nil w _ _ a n c n' c' Tryz.underlying25
 cases ao with
 | none =>
  have hk : l = [] := by
   rcases h4 with h4 | ⟨b, off, h5, _⟩
   ·exact h4
   ·cases h5
  subst hk
  go_enter Tryz.func48, Tryz.ntmps48
  go_wp2
  go_ret
  exact ⟨_, rfl, World.ownsRow_nil _ _ _ _, Below.refl _ _⟩
 | some a =>
  obtain ⟨i0, hi, hz0, hz1, hz2⟩ := info_parts infoV
  have hmade : (w.alloc (.cells #[] 28)).ownsRow w.heap.size 28 7 (.slice (some ⟨w.heap.size, 0, none⟩) 0 0) 0 [] := World.ownsRow_made w #[] 0 (Nat.le_refl _) (Nat.zero_le _) rfl
  have hnews : ∀ j u, (rowG G l.length)[j]? = some u → (w.alloc (.cells #[] 28)).cell? (a.add j) = some u := fun j u hu => by
   have hj : j < l.length * 7 := by have := (List.getElem?_eq_some_iff.1 hu).1; rwa [rowG_len] at this
   have hd : j / 7 < l.length := by omega
   have hm : j % 7 < 7 := by omega
   have e : j / 7 * 7 + j % 7 = j := by omega
   have hr2 := rowG_at G l.length (j / 7) (j % 7) hd hm
   rw [e, hu] at hr2
   rcases h4 with h4 | ⟨b, off, h5, h7⟩
   ·rw [h4] at hd; exact absurd hd (by simp)
   ·obtain rfl := Option.some.inj h5
    have h8 := h7 (j / 7) hd (j % 7) hm
    rw [Nat.add_assoc, e] at h8
    rw [add_at, World.cell?_alloc_past _ _ _ (World.block_lt_of_cell? w _ h8), h8, hr2]
  have hone : ∀ u ∈ rowG G l.length, u.oneCell' = true := fun u hu => by
   obtain ⟨j, hj, rfl⟩ := List.mem_map.1 hu
   have hj := List.mem_range.1 hj
   exact (hr (j / 7) (by omega)).one _ (by omega)
  have hlen := rowG_len G l.length
  clear h4 hr
  go_enter Tryz.func48, Tryz.ntmps48
  go_wp2_with (at_builtin; refine wpList_append_own _ rfl (.tmp 5) (.tmp 6) 25 rfl w.heap.size 28 i0 (.agg #[.int .i64 0, .bool false, .string ⟨#[]⟩, .int .i64 0, .string ⟨#[]⟩, .slice none 0 0, .slice none 0 0]) 7 104 Tryz.underlying25 hi hz0 hz1 hz2 rfl (by decide) _ 0 [] rfl hmade a l.length cap (rowG G l.length) rfl hlen hnews hone (by unfold maxLen; omega) (by omega) (by simp) ?_)
  intro v' w' g1 g2 _
  have hb : Below w.heap.size w w' := (bl_a (Below.refl _ _) _).grown g2 (by simp) (fun j hj => (World.ownsRow.lt hmade j hj).1)
  clear g2 hnews hmade hone
  go_wp2
  go_ret
  exact ⟨_, rfl, g1, hb⟩
end Go.Proofs.YtjdboekanmfgpaaGreatDoor

namespace Go.Proofs.YtjdboekanmfgpaaGreatDoor
open Go.RowKit

theorem C7.set {w : World} {b : Nat} {x0 x1 x2 x3 x4 x5 x6 : Value} (h : C7 w b x0 x1 x2 x3 x4 x5 x6) {a : Addr} {v : Value} (hne : b ≠ a.block) : C7 (w.setCell a v) b x0 x1 x2 x3 x4 x5 x6 := by
 have e := Below.heap_setCell w a v b hne
 have k : ∀ o, (w.setCell a v).cell? ⟨b, o, none⟩ = w.cell? ⟨b, o, none⟩ := fun o => World.cell?_of_block (w := w) e
 have f : ∀ o, (w.setCell a v).frozen? ⟨b, o, none⟩ = w.frozen? ⟨b, o, none⟩ := fun o => World.frozen?_of_block (w := w) e
 exact ⟨(k _).trans h.c0, (k _).trans h.c1, (k _).trans h.c2, (k _).trans h.c3, (k _).trans h.c4, (k _).trans h.c5, (k _).trans h.c6, (f _).trans h.z0, (f _).trans h.z1, (f _).trans h.z2, (f _).trans h.z3, (f _).trans h.z4, (f _).trans h.z5, (f _).trans h.z6⟩
theorem C7.blk {w w' : World} {b : Nat} {x0 x1 x2 x3 x4 x5 x6 : Value} (h : C7 w b x0 x1 x2 x3 x4 x5 x6) (e : w'.heap[b]? = w.heap[b]?) : C7 w' b x0 x1 x2 x3 x4 x5 x6 := by
 have k : ∀ o, w'.cell? ⟨b, o, none⟩ = w.cell? ⟨b, o, none⟩ := fun o => World.cell?_of_block (w := w) e
 have f : ∀ o, w'.frozen? ⟨b, o, none⟩ = w.frozen? ⟨b, o, none⟩ := fun o => World.frozen?_of_block (w := w) e
 exact ⟨(k _).trans h.c0, (k _).trans h.c1, (k _).trans h.c2, (k _).trans h.c3, (k _).trans h.c4, (k _).trans h.c5, (k _).trans h.c6, (f _).trans h.z0, (f _).trans h.z1, (f _).trans h.z2, (f _).trans h.z3, (f _).trans h.z4, (f _).trans h.z5, (f _).trans h.z6⟩

theorem C7.set56 {w : World} {b : Nat} {x0 x1 x2 x3 x4 x5 x6 y5 y6 : Value} (h : C7 w b x0 x1 x2 x3 x4 x5 x6) : C7 ((w.setCell ⟨b, 6, none⟩ y6).setCell ⟨b, 5, none⟩ y5) b x0 x1 x2 x3 x4 y5 y6 := by
 obtain ⟨a0, a1, a2, a3, a4, a5, a6, q0, q1, q2, q3, q4, q5, q6⟩ := h
 constructor <;> simp [go_sem, *]
theorem VI.weak {w : World} {X X' : Nat → Prop} {v : JV} {f : Nat → Value} (h : VI w X v f) (hX : ∀ b, b < w.heap.size → X' b → X b) : VI w X' v f := h.carry fun b hx hlt => ⟨rfl, fun hx' => hx (hX b hlt hx')⟩
theorem own_shape {w : World} {B : Nat} {e : TypeId} {v : Value} {n : Nat} {G : Nat → Nat → Value} (h : w.ownsRow B e 7 v n (rowG G n)) : ∃ a c, v = .slice a n c := by
 rcases h.2 with ⟨hv, hx⟩ | ⟨g, cap, cur, hv, _⟩
 ·have : n * 7 = 0 := by rw [← rowG_len G n, hx]; rfl
  have hn : n = 0 := by omega
  subst hn
  exact ⟨none, 0, hv⟩
 ·exact ⟨_, cap, hv⟩
/-- Blocks that are written yet. -/
def X1 (X : Nat → Prop) (B : Nat) (la : Option Addr) (b : Nat) : Prop := X b ∨ b = B ∨ b = B + 1 ∨ la = some ⟨b, 0, none⟩
/-- What is kept. -/
structure CpR (w : World) (X : Nat → Prop) (v : JV) (la : Option Addr) (lc : Nat) (kv : Value) (wr : World) : Prop where
 box : ∀ k n g e t l ks, v = .mk k n g e t l ks → C7 wr w.heap.size (.int .i64 k) (.bool n) (.string g) (.int .i64 e) (.string t) (.slice la l.length lc) kv
 res : C7 wr (w.heap.size + 1) (.int .i64 0) (.bool false) (.string ⟨#[]⟩) (.int .i64 0) (.string ⟨#[]⟩) (.slice none 0 0) (.slice none 0 0)
 keys : SI wr (X1 X w.heap.size la) v.keys kv
 bel : Below w.heap.size w wr
 fresh : ∀ b o s, la = some ⟨b, o, s⟩ → o = 0 ∧ s = none ∧ w.heap.size + 2 ≤ b ∧ b < wr.heap.size
 cap : v.list.length ≤ lc ∧ lc ≤ maxLen
 row : ∃ G, wr.ownsRow (w.heap.size + 2) 28 7 (.slice la v.list.length lc) v.list.length (rowG G v.list.length) ∧ ∀ i (h : i < v.list.length), VI wr (X1 X w.heap.size la) v.list[i] (G i)
theorem own_base {w : World} {B B' : Nat} {e : TypeId} {size : Nat} {v : Value} {n : Nat} {xs : List Value} (h : w.ownsRow B e size v n xs) (hB : B' ≤ B) : w.ownsRow B' e size v n xs := by
 refine ⟨h.1, ?_⟩
 rcases h.2 with h' | ⟨g, cap, cur, h1, h2, h3⟩
 ·exact .inl h'
 ·exact .inr ⟨g, cap, cur, h1, Nat.le_trans hB h2, h3⟩
theorem rowG_set (G : Nat → Nat → Value) (n i j : Nat) (u : Value) (hj : j < 7) : (rowG G n).set (i * 7 + j) u = rowG (fun a b => if a = i ∧ b = j then u else G a b) n := by
 apply List.ext_getElem?
 intro q
 rw [List.getElem?_set]
 by_cases hq : q < n * 7
 ·have e2 : ∀ H : Nat → Nat → Value, (rowG H n)[q]? = some (H (q / 7) (q % 7)) := fun H => by
   have := rowG_at H n (q / 7) (q % 7) (by omega) (by omega)
   rwa [show q / 7 * 7 + q % 7 = q by omega] at this
  rw [e2, e2]
  by_cases e : i * 7 + j = q
  ·rw [if_pos e, rowG_len, if_pos (by omega), if_pos ⟨by omega, by omega⟩]
  ·rw [if_neg e, if_neg (by omega)]
 ·rw [List.getElem?_eq_none (l := rowG (fun a b => if a = i ∧ b = j then u else G a b) n) (by rw [rowG_len]; omega)]
  split
  ·rw [rowG_len, if_neg (by omega)]
  ·exact List.getElem?_eq_none (by rw [rowG_len]; omega)
/-- At the beginning. -/
theorem cp_start {w W wA wB : World} {X : Nat → Prop} {k : Int} {n : Bool} {g : ByteArray} {e : Int} {t : ByteArray} {l : List JV} {ks : List ByteArray} {lv kv0 : Value} {la : Option Addr} {lc : Nat} {ko : Option Addr} {kc base : Nat} {G : Nat → Nat → Value}
  (hW : Below w.heap.size w W) (hsz : W.heap.size = w.heap.size + 2)
  (hC : C7 W w.heap.size (.int .i64 k) (.bool n) (.string g) (.int .i64 e) (.string t) lv kv0)
  (hR : C7 W (w.heap.size + 1) (.int .i64 0) (.bool false) (.string ⟨#[]⟩) (.int .i64 0) (.string ⟨#[]⟩) (.slice none 0 0) (.slice none 0 0))
  (hr : ∀ i (h : i < l.length), VI W (fun b => X b ∨ b = w.heap.size ∨ b = w.heap.size + 1) l[i] (G i))
  (hA : Below W.heap.size W wA) (hB : Below wA.heap.size wA wB) (hS : SI wA (fun b => X b ∨ b = w.heap.size ∨ b = w.heap.size + 1) ks (.slice ko ks.length kc)) (hb : base = wA.heap.size)
  (hO : wB.ownsRow base 28 7 (.slice la l.length lc) l.length (rowG G l.length)) :
  CpR w X (.mk k n g e t l ks) la lc (.slice ko ks.length kc) ((wB.setCell ⟨w.heap.size, 6, none⟩ (.slice ko ks.length kc)).setCell ⟨w.heap.size, 5, none⟩ (.slice la l.length lc)) := by
 subst hb
 have hWB : Below W.heap.size W wB := bl_t hA hB
 have hle : w.heap.size + 2 ≤ wA.heap.size := by have := hA.size; omega
 have hfr : ∀ b o s, la = some ⟨b, o, s⟩ → o = 0 ∧ s = none ∧ wA.heap.size ≤ b ∧ b < wB.heap.size := fun b o s hl => by
  rcases hO.2 with ⟨h1, _⟩ | ⟨gg, cap, cur, h1, h2, h3, _⟩
  ·rw [hl] at h1; cases h1
  ·rw [hl] at h1
   injection h1 with h1 _ _
   injection h1 with h1
   injection h1 with h1 h4 h5
   subst h1 h4 h5
   exact ⟨rfl, rfl, h2, (Array.getElem?_eq_some_iff.1 h3).1⟩
 have hblk : ∀ b, b ≠ w.heap.size → ((wB.setCell ⟨w.heap.size, 6, none⟩ (.slice ko ks.length kc)).setCell ⟨w.heap.size, 5, none⟩ (.slice la l.length lc)).heap[b]? = wB.heap[b]? := fun b hb => by
  rw [Below.heap_setCell _ _ _ _ hb, Below.heap_setCell _ _ _ _ hb]
 have hsE : ((wB.setCell ⟨w.heap.size, 6, none⟩ (.slice ko ks.length kc)).setCell ⟨w.heap.size, 5, none⟩ (.slice la l.length lc)).heap.size = wB.heap.size := by simp
 have hx1 : ∀ b, b < wA.heap.size → ¬ (X b ∨ b = w.heap.size ∨ b = w.heap.size + 1) → ¬ X1 X w.heap.size la b := fun b hlt hx => by
  rintro (h | h | h | h)
  ·exact hx (.inl h)
  ·exact hx (.inr (.inl h))
  ·exact hx (.inr (.inr h))
  ·have := (hfr _ _ _ h).2.2.1; omega
 refine ⟨?_, ?_, ?_, ?_, ?_, ?_, ?_⟩
 ·intro k' n' g' e' t' l' ks' hv
  cases hv
  exact C7.set56 (hC.below hWB hC.lt)
 ·exact ((hR.below hWB hR.lt).set (by simp)).set (by simp)
 ·refine hS.carry fun b hx hlt => ⟨?_, hx1 b hlt hx⟩
  rw [hblk b (fun e => hx (.inr (.inl e))), hB.block b hlt]
 ·exact bl_s (bl_s (bl_t hW hWB) (Nat.le_refl _) _) (Nat.le_refl _) _
 ·intro b o s hl
  obtain ⟨h1, h2, h3, h4⟩ := hfr b o s hl
  exact ⟨h1, h2, by omega, by rw [hsE]; exact h4⟩
 ·rcases hO.2 with ⟨h1, h2⟩ | ⟨gg, cap, cur, h1, _, _, h3, h4, _⟩
  ·injection h1 with h1 h5 h6
   subst h6
   exact ⟨by show l.length ≤ 0; omega, by unfold maxLen; omega⟩
  ·injection h1 with _ _ h6
   subst h6
   exact ⟨h3, h4⟩
 ·refine ⟨G, own_base (World.ownsRow.kept (row := some w.heap.size) hO ⟨rfl, rfl, rfl, by rw [hsE]; exact Nat.le_refl _, fun q _ hne => hblk q (fun e => hne (by rw [e]))⟩ ?_) hle, fun i h => ?_⟩
  ·right
   intro e
   have := (World.ownsRow.lt hO _ e).1
   omega
  ·refine (hr i h).carry fun b hx hlt => ⟨?_, hx1 b (by have := hA.size; omega) hx⟩
   rw [hblk b (fun e => hx (.inr (.inl e))), hWB.block b hlt]
/-- Seven cells of a row written. -/
def put7 (w : World) (gg o : Nat) (f : Nat → Value) : World := ((((((w.setCell ⟨gg, o, none⟩ (f 0)).setCell ⟨gg, o + 1, none⟩ (f 1)).setCell ⟨gg, o + 2, none⟩ (f 2)).setCell ⟨gg, o + 3, none⟩ (f 3)).setCell ⟨gg, o + 4, none⟩ (f 4)).setCell ⟨gg, o + 5, none⟩ (f 5)).setCell ⟨gg, o + 6, none⟩ (f 6)
theorem put7_size (w : World) (gg o : Nat) (f : Nat → Value) : (put7 w gg o f).heap.size = w.heap.size := by simp [put7]
theorem put7_block (w : World) (gg o : Nat) (f : Nat → Value) (b : Nat) (hb : b ≠ gg) : (put7 w gg o f).heap[b]? = w.heap[b]? := by
 unfold put7
 rw [Below.heap_setCell _ _ _ _ hb, Below.heap_setCell _ _ _ _ hb, Below.heap_setCell _ _ _ _ hb, Below.heap_setCell _ _ _ _ hb, Below.heap_setCell _ _ _ _ hb, Below.heap_setCell _ _ _ _ hb, Below.heap_setCell _ _ _ _ hb]
theorem put7_below {B : Nat} {a w : World} {gg o : Nat} {f : Nat → Value} (h : Below B a w) (hg : B ≤ gg) : Below B a (put7 w gg o f) := by
 unfold put7
 exact ((((((h.setCell hg _).setCell hg _).setCell hg _).setCell hg _).setCell hg _).setCell hg _).setCell hg _
theorem put7_own {w : World} {B gg n c : Nat} {G : Nat → Nat → Value} {f : Nat → Value} {i : Nat} (h : w.ownsRow B 28 7 (.slice (some ⟨gg, 0, none⟩) n c) n (rowG G n)) :
  (put7 w gg (i * 7) f).ownsRow B 28 7 (.slice (some ⟨gg, 0, none⟩) n c) n (rowG (fun a b => if a = i then (if b < 7 then f b else G a b) else G a b) n) := by
 have s0 := (World.ownsRow.stored h (i * 7 + 0) (f 0)).1
 rw [rowG_set G n i 0 _ (by omega)] at s0
 have s1 := (World.ownsRow.stored s0 (i * 7 + 1) (f 1)).1
 rw [rowG_set _ n i 1 _ (by omega)] at s1
 have s2 := (World.ownsRow.stored s1 (i * 7 + 2) (f 2)).1
 rw [rowG_set _ n i 2 _ (by omega)] at s2
 have s3 := (World.ownsRow.stored s2 (i * 7 + 3) (f 3)).1
 rw [rowG_set _ n i 3 _ (by omega)] at s3
 have s4 := (World.ownsRow.stored s3 (i * 7 + 4) (f 4)).1
 rw [rowG_set _ n i 4 _ (by omega)] at s4
 have s5 := (World.ownsRow.stored s4 (i * 7 + 5) (f 5)).1
 rw [rowG_set _ n i 5 _ (by omega)] at s5
 have s6 := (World.ownsRow.stored s5 (i * 7 + 6) (f 6)).1
 rw [rowG_set _ n i 6 _ (by omega)] at s6
 refine cast ?_ s6
 congr 1
 refine List.map_congr_left fun q hq => ?_
 have hm : q % 7 < 7 := by omega
 by_cases e : q / 7 = i
 ·have : q % 7 = 0 ∨ q % 7 = 1 ∨ q % 7 = 2 ∨ q % 7 = 3 ∨ q % 7 = 4 ∨ q % 7 = 5 ∨ q % 7 = 6 := by omega
  rcases this with h | h | h | h | h | h | h <;> simp [e, h]
 ·simp [e]
theorem VI.congr {w : World} {X : Nat → Prop} {v : JV} {f f' : Nat → Value} (h : VI w X v f) (e : ∀ j, j < 7 → f' j = f j) : VI w X v f' := by
 cases h with
 | mk ao cap G f0 f1 f2 f3 f4 f5 f6 hc hs hw hl hr =>
  exact VI.mk ao cap G ((e 0 (by omega)).trans f0) ((e 1 (by omega)).trans f1) ((e 2 (by omega)).trans f2) ((e 3 (by omega)).trans f3) ((e 4 (by omega)).trans f4) ((e 5 (by omega)).trans f5) (by rw [e 6 (by omega)]; exact f6) hc hs hw hl hr
/-- A round. -/
theorem cp_step {w wr w2 : World} {X : Nat → Prop} {v : JV} {gg lc : Nat} {kv : Value} {i : Nat} {f : Nat → Value} (h : CpR w X v (some ⟨gg, 0, none⟩) lc kv wr) (hi : i < v.list.length) (hb : Below wr.heap.size wr w2)
  (hf : VI w2 (X1 X w.heap.size (some ⟨gg, 0, none⟩)) v.list[i] f) : CpR w X v (some ⟨gg, 0, none⟩) lc kv (put7 w2 gg (i * 7) f) := by
 obtain ⟨_, _, hg2, hglt⟩ := h.fresh gg 0 none rfl
 have hkeep : ∀ b, ¬ X1 X w.heap.size (some ⟨gg, 0, none⟩) b → b < w2.heap.size → (put7 w2 gg (i * 7) f).heap[b]? = w2.heap[b]? ∧ ¬ X1 X w.heap.size (some ⟨gg, 0, none⟩) b := fun b hx _ => ⟨put7_block _ _ _ _ _ (fun e => hx (.inr (.inr (.inr (by rw [e]))))), hx⟩
 have hkeep1 : ∀ b, ¬ X1 X w.heap.size (some ⟨gg, 0, none⟩) b → b < wr.heap.size → (put7 w2 gg (i * 7) f).heap[b]? = wr.heap[b]? ∧ ¬ X1 X w.heap.size (some ⟨gg, 0, none⟩) b := fun b hx hlt => ⟨by rw [(hkeep b hx (Nat.lt_of_lt_of_le hlt hb.size)).1, hb.block b hlt], hx⟩
 refine ⟨?_, ?_, h.keys.carry hkeep1, ?_, ?_, h.cap, ?_⟩
 ·intro k n g e t l ks hv
  have hc := h.box k n g e t l ks hv
  exact (hc.below hb hc.lt).blk (put7_block _ _ _ _ _ (by omega))
 ·exact (h.res.below hb h.res.lt).blk (put7_block _ _ _ _ _ (by omega))
 ·exact put7_below (bl_t h.bel hb) (by omega)
 ·intro b o s e
  obtain ⟨a1, a2, a3, a4⟩ := h.fresh b o s e
  exact ⟨a1, a2, a3, by rw [put7_size]; exact Nat.lt_of_lt_of_le a4 hb.size⟩
 ·obtain ⟨G, hO, hr⟩ := h.row
  have hO2 : w2.ownsRow (w.heap.size + 2) 28 7 (.slice (some ⟨gg, 0, none⟩) v.list.length lc) v.list.length (rowG G v.list.length) := World.ownsRow.kept (row := none) hO ⟨hb.os, hb.tape, hb.output, hb.size, fun q hq _ => hb.block q hq⟩ (.inr (by simp [Value.ownBlock]))
  refine ⟨_, put7_own hO2, fun j hj => ?_⟩
  by_cases e : j = i
  ·subst e
   exact (hf.carry hkeep).congr (fun q hq => by simp [hq])
  ·exact ((hr j hj).carry hkeep1).congr (fun q hq => by simp [e])
/-- The row's cells. -/
theorem CpR.cell {w wr : World} {X : Nat → Prop} {v : JV} {gg lc : Nat} {kv : Value} (h : CpR w X v (some ⟨gg, 0, none⟩) lc kv wr) : ∃ G : Nat → Nat → Value, (∀ i (h : i < v.list.length), VI wr (X1 X w.heap.size (some ⟨gg, 0, none⟩)) v.list[i] (G i)) ∧ (∀ i j, i < v.list.length → j < 7 → wr.cell? ⟨gg, i * 7 + j, none⟩ = some (G i j)) ∧ ∀ o, wr.frozen? ⟨gg, o, none⟩ = false := by
 obtain ⟨G, hO, hr⟩ := h.row
 refine ⟨G, hr, fun i j hi hj => ?_, fun o => World.ownsRow.frozenAt hO o⟩
 have := World.ownsRow.cells hO (g := gg) rfl (i * 7 + j) _ (rowG_at G v.list.length i j hi hj)
 rwa [add_at, Nat.zero_add] at this
/-- At the end. -/
theorem cp_end {w wr : World} {X : Nat → Prop} {k : Int} {n : Bool} {g : ByteArray} {e : Int} {t : ByteArray} {l : List JV} {ks : List ByteArray} {la : Option Addr} {lc : Nat} {kv : Value} (hX : ∀ b, X b → b < w.heap.size) (h : CpR w X (.mk k n g e t l ks) la lc kv wr)
  (hs : g.size ≤ maxLen ∧ t.size ≤ maxLen) (hw : (Lit.int .i64 k).wf = true ∧ (Lit.int .i64 e).wf = true) {f : Nat → Value} (f0 : f 0 = .int .i64 k) (f1 : f 1 = .bool n) (f2 : f 2 = .string g) (f3 : f 3 = .int .i64 e) (f4 : f 4 = .string t) (f5 : f 5 = .slice la l.length lc) (f6 : f 6 = kv)
  {w' : World} (hblk : ∀ b, b ≠ w.heap.size + 1 → w'.heap[b]? = wr.heap[b]?) : VI w' X (.mk k n g e t l ks) f := by
 have hcar : ∀ b, ¬ X1 X w.heap.size la b → b < wr.heap.size → w'.heap[b]? = wr.heap[b]? ∧ ¬ X b := fun b hx _ => ⟨hblk b (fun e => hx (.inr (.inr (.inl e)))), fun h => hx (.inl h)⟩
 obtain ⟨G, hO, hr⟩ := h.row
 refine VI.mk la lc G f0 f1 f2 f3 f4 f5 (by rw [f6]; exact h.keys.carry hcar) h.cap hs hw ?_ (fun i hi => (hr i hi).carry hcar)
 by_cases hl : l = []
 ·exact .inl hl
 ·right
  rcases hO.2 with ⟨h1, h2⟩ | ⟨gg, cap, cur, h1, h2, h3, _⟩
  ·exact absurd (List.length_eq_zero_iff.1 h2) hl
  ·injection h1 with h1 _ _
   subst h1
   refine ⟨gg, 0, rfl, fun hx => by have := hX gg hx; omega, fun i hi j hj => ?_⟩
   have hc := World.ownsRow.cells hO (g := gg) rfl (i * 7 + j) _ (rowG_at G l.length i j hi hj)
   rw [add_at] at hc
   rw [World.cell?_of_block (w := wr) (hblk gg (by omega)), Nat.add_assoc]
   exact hc
end Go.Proofs.YtjdboekanmfgpaaGreatDoor
