/-
  Values as trees, and that a tree lies in a world: cells of seven, rows of them, rows of keys. No condition.
  What value.holdsOthers, value.Size, value.Depth and their like of the reference answer. No condition.
-/
import Derived.Test.YtjdboekanmfgpaaGreatDoorProg
import Derived.WalkKit
import Derived.Below
import Derived.ProofKit
import Derived.Deep.Strs
import Derived.WalkSpells
import Derived.WalkLawsBesides
import Derived.Deep.QuietTactic
import Derived.BigQuiet
import Derived.Deep.RegionWith
import Derived.Deep.LoopGhost
namespace Go.Proofs.YtjdboekanmfgpaaGreatDoor
open Go.ChangeShapes Go.WideShapes Go.Deep Go.RowKit

/-- A value: its kind, its number, its text, what it holds, its keys. -/
inductive JV where
 | mk (k : Int) (n : Bool) (g : ByteArray) (e : Int) (t : ByteArray) (l : List JV) (ks : List ByteArray)
def JV.kind : JV → Int | .mk k _ _ _ _ _ _ => k
def JV.list : JV → List JV | .mk _ _ _ _ _ l _ => l
def JV.keys : JV → List ByteArray | .mk _ _ _ _ _ _ ks => ks
def JV.text : JV → ByteArray | .mk _ _ _ _ t _ _ => t
/-- By what it holds. -/
theorem JV.ind {P : JV → Prop} (h : ∀ k n g e t l ks, (∀ v ∈ l, P v) → P (.mk k n g e t l ks)) : ∀ v, P v
 | .mk k n g e t l ks => h k n g e t l ks (fun v _ => JV.ind h v)

/-- A row of texts in a world, outside of blocks that may be written yet. -/
def SI (w : World) (X : Nat → Prop) (ks : List ByteArray) (v : Value) : Prop :=
 ∃ ao cap, v = .slice ao ks.length cap ∧ ks.length ≤ cap ∧ cap ≤ maxLen ∧ (∀ s ∈ ks, s.size ≤ maxLen) ∧
  (ks = [] ∨ ∃ b off, ao = some ⟨b, off, none⟩ ∧ ¬ X b ∧ ∀ i (h : i < ks.length), w.cell? ⟨b, off + i, none⟩ = some (.string ks[i]))

/-- A value's seven cells. -/
inductive VI (w : World) (X : Nat → Prop) : JV → (Nat → Value) → Prop
 | mk {k : Int} {n : Bool} {g : ByteArray} {e : Int} {t : ByteArray} {l : List JV} {ks : List ByteArray} {f : Nat → Value} (ao : Option Addr) (cap : Nat) (G : Nat → Nat → Value)
  (f0 : f 0 = .int .i64 k) (f1 : f 1 = .bool n) (f2 : f 2 = .string g) (f3 : f 3 = .int .i64 e) (f4 : f 4 = .string t) (f5 : f 5 = .slice ao l.length cap) (f6 : SI w X ks (f 6))
  (hc : l.length ≤ cap ∧ cap ≤ maxLen) (hs : g.size ≤ maxLen ∧ t.size ≤ maxLen) (hw : (Lit.int .i64 k).wf = true ∧ (Lit.int .i64 e).wf = true)
  (hl : l = [] ∨ ∃ b off, ao = some ⟨b, off, none⟩ ∧ ¬ X b ∧ ∀ i, i < l.length → ∀ j, j < 7 → w.cell? ⟨b, off + i * 7 + j, none⟩ = some (G i j))
  (hr : ∀ i (h : i < l.length), VI w X l[i] (G i)) : VI w X (.mk k n g e t l ks) f
/-- The value itself. -/
def va (f : Nat → Value) : Value := .agg #[f 0, f 1, f 2, f 3, f 4, f 5, f 6]

theorem SI.carry {w w' : World} {X X' : Nat → Prop} {ks : List ByteArray} {v : Value} (h : SI w X ks v) (hX : ∀ b, ¬ X b → b < w.heap.size → w'.heap[b]? = w.heap[b]? ∧ ¬ X' b) : SI w' X' ks v := by
 obtain ⟨ao, cap, e, h1, h2, h3, h4⟩ := h
 refine ⟨ao, cap, e, h1, h2, h3, ?_⟩
 rcases h4 with h4 | ⟨b, off, h5, h6, h7⟩
 ·exact Or.inl h4
 ·by_cases hk : ks = []
  ·exact Or.inl hk
  have h0 : 0 < ks.length := List.length_pos_iff.2 hk
  have hb : b < w.heap.size := World.block_lt_of_cell? w _ (h7 0 h0)
  have hx := hX b h6 hb
  exact Or.inr ⟨b, off, h5, hx.2, fun i hi => (World.cell?_of_block (w := w) (w' := w') hx.1).trans (h7 i hi)⟩
theorem VI.carry {w w' : World} {X X' : Nat → Prop} {v : JV} {f : Nat → Value} (h : VI w X v f) (hX : ∀ b, ¬ X b → b < w.heap.size → w'.heap[b]? = w.heap[b]? ∧ ¬ X' b) : VI w' X' v f := by
 induction h with
 | mk ao cap G f0 f1 f2 f3 f4 f5 f6 hc hs hw hl hr ih =>
  refine VI.mk ao cap G f0 f1 f2 f3 f4 f5 (f6.carry hX) hc hs hw ?_ ih
  rcases hl with h4 | ⟨b, off, h5, h6, h7⟩
  ·exact Or.inl h4
  ·rename_i l _ _
   by_cases hk : l = []
   ·exact Or.inl hk
   have h0 : 0 < l.length := List.length_pos_iff.2 hk
   have hb : b < w.heap.size := World.block_lt_of_cell? w _ (h7 0 h0 0 (by omega))
   have hx := hX b h6 hb
   exact Or.inr ⟨b, off, h5, hx.2, fun i hi j hj => (World.cell?_of_block (w := w) (w' := w') hx.1).trans (h7 i hi j hj)⟩
theorem VI.kept {w w' : World} {X : Nat → Prop} {v : JV} {f : Nat → Value} (h : VI w X v f) (hb : Below w.heap.size w w') : VI w' X v f :=
 h.carry fun b hx hlt => ⟨hb.block b hlt, hx⟩

theorem cellsValue : Tryz.prog.cellsOf 28 = 7 := by kernel_rfl
theorem cellsKindJ : Tryz.prog.cellsOf 22 = 1 := by kernel_rfl
theorem cellsDecJ : Tryz.prog.cellsOf 24 = 3 := by kernel_rfl
theorem cellsStrJ : Tryz.prog.cellsOf 9 = 1 := by kernel_rfl
theorem cellsBoolJ : Tryz.prog.cellsOf 4 = 1 := by kernel_rfl
theorem cellsIntJ : Tryz.prog.cellsOf 3 = 1 := by kernel_rfl
theorem cellsListJ : Tryz.prog.cellsOf 25 = 1 := by kernel_rfl
theorem cellsKeysJ : Tryz.prog.cellsOf 26 = 1 := by kernel_rfl

theorem trod_struct5 {H : Type} {enc : TypeId × Value → H} {P : Program} {w : World} {base : Nat} {spare : Nat → Bool} {held : Bool} {t : TypeId} {f0 f1 f2 f3 f4 : Field} {fuel : Nat} {cs : List Value} {x : DataW H × List MemPlace} (ht : P.underlying t = some (.struct #[f0, f1, f2, f3, f4])) (h : DataW.trod enc P w base spare held fuel t cs = some x) :
  ∃ y0 y1 y2 y3 y4 n, fuel = n + 1 ∧ x = (.agg [y0.1, y1.1, y2.1, y3.1, y4.1], y0.2 ++ (y1.2 ++ (y2.2 ++ (y3.2 ++ y4.2)))) ∧ cs.length = P.cellsOf t ∧ DataW.trod enc P w base spare held n f0.type ((cs.drop f0.offset).take (P.cellsOf f0.type)) = some y0 ∧
   DataW.trod enc P w base spare held n f1.type ((cs.drop f1.offset).take (P.cellsOf f1.type)) = some y1 ∧ DataW.trod enc P w base spare held n f2.type ((cs.drop f2.offset).take (P.cellsOf f2.type)) = some y2 ∧
   DataW.trod enc P w base spare held n f3.type ((cs.drop f3.offset).take (P.cellsOf f3.type)) = some y3 ∧ DataW.trod enc P w base spare held n f4.type ((cs.drop f4.offset).take (P.cellsOf f4.type)) = some y4 := by
 obtain ⟨xs, n, hn, rfl, hl, hlen, hf⟩ := DataW.trod_struct ht h
 match xs, hlen with
 | [y0, y1, y2, y3, y4], _ => exact ⟨y0, y1, y2, y3, y4, n, hn, by simp, hl, by simpa using hf 0 f0 rfl, by simpa using hf 1 f1 rfl, by simpa using hf 2 f2 rfl, by simpa using hf 3 f3 rfl, by simpa using hf 4 f4 rfl⟩

/-- Keys that come in. -/
theorem open_keys {H : Type} {enc : TypeId × Value → H} {w : World} {base : Nat} {spare : Nat → Bool} {held : Bool} {fuel : Nat} {cs : List Value} {x : DataW H × List MemPlace}
  (h : DataW.trod enc Tryz.prog w base spare held fuel 26 cs = some x) : ∃ ks v, cs = [v] ∧ SI w (fun _ => False) ks v := by
 rcases open_strs Tryz.underlying26 Tryz.underlying9 cellsStrJ h with ⟨rfl, _⟩ | ⟨a, len, cap, m, Sx, rfl, _, hl, hm, hmm, _, hx⟩
 ·exact ⟨[], _, rfl, none, 0, rfl, Nat.le_refl _, by unfold maxLen; omega, fun s hs => absurd hs (by simp), Or.inl rfl⟩
 ·have hlm : len ≤ m := by rw [hmm]; split <;> omega
  refine ⟨(List.range len).map Sx, _, rfl, some a, cap, by simp, by simpa using hl, hm, fun s hs => ?_, ?_⟩
  ·obtain ⟨i, hi, rfl⟩ := List.mem_map.1 hs
   exact (hx i (by have := List.mem_range.1 hi; omega)).2
  ·by_cases h0 : len = 0
   ·subst h0; exact Or.inl rfl
   ·right
    have hsp : a.spot = none := by simpa [Addr.add] using World.cell?_spot (hx 0 (by omega)).1
    obtain ⟨b, off, spot⟩ := a
    simp only at hsp
    subst hsp
    refine ⟨b, off, rfl, fun h => h, fun i hi => ?_⟩
    have hi' : i < len := by simpa using hi
    have := (hx i (by omega)).1
    have e : (Addr.mk b off none).add i = ⟨b, off + i, none⟩ := by
     unfold Addr.add
     split
     ·rename_i h; subst h; rfl
     ·rfl
    rw [e] at this
    simpa using this

set_option maxRecDepth 100000 in
/-- A value that comes in. -/
theorem open_value {H : Type} {enc : TypeId × Value → H} {w : World} {base : Nat} {spare : Nat → Bool} {held : Bool} : ∀ (fuel : Nat) (cs : List Value) (x : DataW H × List MemPlace),
  DataW.trod enc Tryz.prog w base spare held fuel 28 cs = some x → ∃ v f, cs = [f 0, f 1, f 2, f 3, f 4, f 5, f 6] ∧ VI w (fun _ => False) v f := by
 intro fuel
 induction fuel using Nat.strongRecOn with
 | _ fuel ih =>
 intro cs x h
 obtain ⟨y0, y1, y2, y3, y4, m, hm, _, hlen, t0, t1, t2, t3, t4⟩ := trod_struct5 Tryz.underlying28 h
 rw [cellsValue] at hlen
 match cs, hlen with
 | [c0, c1, c2, c3, c4, c5, c6], _ =>
 simp only [cellsKindJ, cellsDecJ, cellsStrJ, cellsListJ, cellsKeysJ, List.drop, List.take] at t0 t1 t2 t3 t4
 obtain ⟨k, h0, _, hk⟩ := DataW.trod_int Tryz.underlying22 t0
 obtain ⟨z0, z1, z2, m1, _, _, u0, u1, u2⟩ := trod_struct3 Tryz.underlying24 t1
 simp only [cellsBoolJ, cellsStrJ, cellsIntJ, List.drop, List.take] at u0 u1 u2
 obtain ⟨n, h1, _⟩ := DataW.trod_bool Tryz.underlying4 u0
 obtain ⟨g, h2, _, hg⟩ := DataW.trod_string Tryz.underlying9 u1
 obtain ⟨e, h3, _, he⟩ := DataW.trod_int Tryz.underlying3 u2
 obtain ⟨t, h4, _, ht⟩ := DataW.trod_string Tryz.underlying9 t2
 obtain ⟨ks, v6, h6, hK⟩ := open_keys t4
 simp only [List.cons.injEq, and_true] at h0 h1 h2 h3 h4 h6
 subst h0 h1 h2 h3 h4 h6
 rcases DataW.trod_slice Tryz.underlying25 t3 with ⟨h5, _⟩ | ⟨a, len, cap, elems, rest, m2, hm2, h5, _, _, hl, hcm, hlen, hel, _, _⟩
 ·simp only [List.cons.injEq, and_true] at h5
  subst h5
  exact ⟨.mk k n g e t [] ks, fun i => [Value.int .i64 k, .bool n, .string g, .int .i64 e, .string t, .slice none 0 0, c6].getD i .nilIface, rfl,
   VI.mk none 0 (fun _ _ => .nilIface) rfl rfl rfl rfl rfl rfl hK ⟨Nat.le_refl _, by unfold maxLen; omega⟩ ⟨hg, ht⟩ ⟨hk, he⟩ (Or.inl rfl) (fun i hi => absurd hi (by simp))⟩
 ·simp only [List.cons.injEq, and_true] at h5
  subst h5
  have each : ∀ i, i < len → ∃ q : JV × (Nat → Value), w.cells? base (a.add (i * 7)) 7 = some [q.2 0, q.2 1, q.2 2, q.2 3, q.2 4, q.2 5, q.2 6] ∧ VI w (fun _ => False) q.1 q.2 := fun i hi => by
   have := hel i hi
   rw [cellsValue, List.getElem?_eq_getElem (by omega)] at this
   obtain ⟨cs', g1, g2⟩ := Option.bind_eq_some_iff.1 this
   obtain ⟨v, f, rfl, hv⟩ := ih m2 (by omega) cs' _ g2
   exact ⟨⟨v, f⟩, g1, hv⟩
  haveI : Inhabited (JV × (Nat → Value)) := ⟨⟨.mk 0 false ⟨#[]⟩ 0 ⟨#[]⟩ [] [], fun _ => .nilIface⟩⟩
  obtain ⟨Q, hQ⟩ := choose_lt each
  refine ⟨.mk k n g e t ((List.range len).map fun i => (Q i).1) ks, fun i => [Value.int .i64 k, .bool n, .string g, .int .i64 e, .string t, .slice (some a) len cap, c6].getD i .nilIface, rfl,
   VI.mk (some a) cap (fun i => (Q i).2) rfl rfl rfl rfl rfl (by simp) hK ⟨by simpa using hl, hcm⟩ ⟨hg, ht⟩ ⟨hk, he⟩ ?_ (fun i hi => ?_)⟩
  ·by_cases h0 : len = 0
   ·subst h0; exact Or.inl rfl
   ·right
    have hcell : ∀ i, i < len → ∀ j, j < 7 → w.cell? ((a.add (i * 7)).add j) = some ((Q i).2 j) := fun i hi j hj => by
     obtain ⟨_, _, hc⟩ := World.cells?_some (hQ i hi).1
     rw [hc j hj]
     match j, hj with
     | 0, _ => rfl
     | 1, _ => rfl
     | 2, _ => rfl
     | 3, _ => rfl
     | 4, _ => rfl
     | 5, _ => rfl
     | 6, _ => rfl
    have hsp : a.spot = none := by simpa [Addr.add] using World.cell?_spot (hcell 0 (by omega) 0 (by omega))
    obtain ⟨b, off, spot⟩ := a
    simp only at hsp
    subst hsp
    refine ⟨b, off, rfl, fun h => h, fun i hi j hj => ?_⟩
    have hi' : i < len := by simpa using hi
    have := hcell i hi' j hj
    have e : ∀ o n, (Addr.mk b o none).add n = ⟨b, o + n, none⟩ := fun o n => by
     unfold Addr.add
     split
     ·rename_i h; subst h; rfl
     ·rfl
    rw [e, e] at this
    exact this
  ·have hi' : i < len := by simpa using hi
   simpa using (hQ i hi').2

end Go.Proofs.YtjdboekanmfgpaaGreatDoor

namespace Go.Proofs.YtjdboekanmfgpaaGreatDoor
open Go.RowKit
theorem vb_a {a w : World} (h : Below a.heap.size a w) (o : Obj) : Below a.heap.size a (w.alloc o) := h.alloc h.size o
theorem vb_t {a w w2 : World} (h : Below a.heap.size a w) (h2 : Below w.heap.size w w2) : Below a.heap.size a w2 := h.trans (h2.mono h.size)

mutual
/-- How many values, as Go counts. -/
def sizeV : JV → Int
 | .mk _ _ _ _ _ l _ => sizeL l 1
def sizeL : List JV → Int → Int
 | [], a => a
 | v :: l, a => sizeL l (wrap64 (a + sizeV v))
end

/-- A value opened: its cells, and its elements. -/
theorem VI.open {w : World} {X : Nat → Prop} {k : Int} {n : Bool} {g : ByteArray} {e : Int} {t : ByteArray} {l : List JV} {ks : List ByteArray} {f : Nat → Value} (h : VI w X (.mk k n g e t l ks) f) :
  ∃ (ao : Option Addr) (cap : Nat) (ko : Option Addr) (kc : Nat) (G : Nat → Nat → Value), va f = .agg #[.int .i64 k, .bool n, .string g, .int .i64 e, .string t, .slice ao l.length cap, .slice ko ks.length kc] ∧
   l.length ≤ maxLen ∧ ks.length ≤ maxLen ∧ (∀ i (h : i < l.length), VI w X l[i] (G i)) ∧
   (l = [] ∨ ∃ b off, ao = some ⟨b, off, none⟩ ∧ b < w.heap.size ∧ ∀ i, i < l.length → ∀ j, j < 7 → w.cell? ⟨b, off + i * 7 + j, none⟩ = some (G i j)) ∧
   (ks = [] ∨ ∃ b off, ko = some ⟨b, off, none⟩ ∧ b < w.heap.size ∧ ∀ i (h : i < ks.length), w.cell? ⟨b, off + i, none⟩ = some (.string ks[i])) := by
 cases h with
 | mk ao cap G f0 f1 f2 f3 f4 f5 f6 hc hs hw hl hr =>
 obtain ⟨ko, kc, e6, k1, k2, _, k4⟩ := f6
 refine ⟨ao, cap, ko, kc, G, by simp only [va, f0, f1, f2, f3, f4, f5, e6], by omega, by omega, hr, ?_, ?_⟩
 ·rcases hl with h | ⟨b, off, h1, _, h2⟩
  ·exact Or.inl h
  ·by_cases hk : l = []
   ·exact Or.inl hk
   exact Or.inr ⟨b, off, h1, World.block_lt_of_cell? w _ (h2 0 (List.length_pos_iff.2 hk) 0 (by omega)), h2⟩
 ·rcases k4 with h | ⟨b, off, h1, _, h2⟩
  ·exact Or.inl h
  ·by_cases hk : ks = []
   ·exact Or.inl hk
   exact Or.inr ⟨b, off, h1, World.block_lt_of_cell? w _ (h2 0 (List.length_pos_iff.2 hk)), h2⟩

set_option maxRecDepth 100000 in
set_option maxHeartbeats 3200000 in
theorem size_any (v : JV) : ∀ (f : Nat → Value) (w : World), VI w (fun _ => False) v f →
  Calls Tryz.prog 23 #[va f] w fun r w' => r = .returned (.int .i64 (sizeV v)) ∧ Below w.heap.size w w' := by
 induction v using JV.ind with
 | h k n g e t l ks ih =>
 intro f w hv
 obtain ⟨ao, cap, ko, kc, G, hf, hll, hkl, hr, hl, hk⟩ := hv.open
 rw [hf]
 have hm : (l.length : Int) ≤ 9223372036854775807 := by unfold maxLen at hll; omega
 generalize hW : w.alloc (.cells #[.int .i64 k, .bool n, .string g, .int .i64 e, .string t, .slice ao l.length cap, .slice ko ks.length kc] 28) = W
 have hb0 : Below w.heap.size w W := hW ▸ vb_a (Below.refl _ _) _
 have hc5 : W.cell? ⟨w.heap.size, 5, none⟩ = some (.slice ao l.length cap) := by rw [← hW]; simp
 go_enter Tryz.func23, Tryz.ntmps23
 go_wp2_with fail
 go_loopg [3, 8] l.length (fun gg s3 s8 wr => ∃ (i : Nat) (a : Int), i ≤ l.length ∧ gg = l.length - i ∧ s8 = .int .i64 (i : Int) ∧ s3 = .int .i64 a ∧ Hid (sizeL (l.drop i) a = sizeL l 1) ∧ Below W.heap.size W wr)
 case atStart => first | exact ⟨0, 1, Nat.zero_le _, rfl, rfl, rfl, rfl, Below.refl _ _⟩ | exact ⟨0, 1, Nat.zero_le _, rfl, rfl, rfl, rfl, hb1⟩
 case round =>
  obtain ⟨i, a, hi, rfl, rfl, rfl, hh, hbel⟩ := hrel
  have hlt0 : w.heap.size < W.heap.size := by rw [← hW]; simp
  have hc5' : wr.cell? ⟨w.heap.size, 5, none⟩ = some (.slice ao l.length cap) := (hbel.cell hlt0).trans hc5
  by_cases h : i < l.length
  ·obtain ⟨b, off, rfl, hbs, hce⟩ := hl.resolve_left (fun e => by rw [e] at h; exact absurd h (by simp))
   have hI : (i : Int) < (l.length : Int) := by omega
   have hcx : ∀ j, j < 7 → wr.cell? ⟨b, off + i * 7 + j, none⟩ = some (G i j) := fun j hj => (hbel.cell (p := ⟨b, _, none⟩) (by exact Nat.lt_trans hbs hlt0)).trans ((hb0.cell (p := ⟨b, _, none⟩) hbs).trans (hce i h j hj))
   have d0 : wr.cell? ⟨b, off + i * 7, none⟩ = some (G i 0) := hcx 0 (by omega)
   have d1 := hcx 1 (by omega)
   have d2 := hcx 2 (by omega)
   have d3 := hcx 3 (by omega)
   have d4 := hcx 4 (by omega)
   have d5 := hcx 5 (by omega)
   have d6 := hcx 6 (by omega)
   have cal := ih l[i] (List.getElem_mem h) (G i) wr (((hr i h).kept hb0).kept hbel)
   rw [List.drop_eq_getElem_cons h, sizeL] at hh
   generalize sizeV l[i] = S at *
   clear hce hcx hr hl hk ih
   go_wp2_with (first | (go_at_call 23; refine cal.mono ?_; rintro r w1 ⟨rfl, hb1⟩))
   all_goals (go_roundg (l.length - (i + 1)); (case measure => omega); (case rel => exact ⟨i + 1, wrap64 (a + S), by omega, rfl, by go_num, rfl, hh, vb_t hbel hb1⟩))
  ·have hI : ¬ ((i : Int) < (l.length : Int)) := by omega
   go_wp2_with fail
   go_ret
   have hh := hh.out
   rw [List.drop_eq_nil_of_le (by omega), sizeL] at hh
   exact ⟨by rw [sizeV, ← hh]; rfl, vb_t hb0 hbel⟩

set_option maxRecDepth 100000 in
set_option maxHeartbeats 3200000 in
theorem rsize_any (v : JV) : ∀ (f : Nat → Value) (w : World), VI w (fun _ => False) v f →
  Calls Tryz.prog 24 #[va f] w fun r w' => r = .returned (.int .i64 (sizeV v)) ∧ Below w.heap.size w w' := by
 induction v using JV.ind with
 | h k n g e t l ks ih =>
 intro f w hv
 obtain ⟨ao, cap, ko, kc, G, hf, hll, hkl, hr, hl, hk⟩ := hv.open
 rw [hf]
 have hm : (l.length : Int) ≤ 9223372036854775807 := by unfold maxLen at hll; omega
 generalize hW : w.alloc (.cells #[.int .i64 k, .bool n, .string g, .int .i64 e, .string t, .slice ao l.length cap, .slice ko ks.length kc] 28) = W
 have hb0 : Below w.heap.size w W := hW ▸ vb_a (Below.refl _ _) _
 have hc5 : W.cell? ⟨w.heap.size, 5, none⟩ = some (.slice ao l.length cap) := by rw [← hW]; simp
 go_enter Tryz.func24, Tryz.ntmps24
 go_wp2_with fail
 go_loopg [3, 4] l.length (fun gg s3 s8 wr => ∃ (i : Nat) (a : Int), i ≤ l.length ∧ gg = l.length - i ∧ s8 = .int .i64 (i : Int) ∧ s3 = .int .i64 a ∧ Hid (sizeL (l.drop i) a = sizeL l 1) ∧ Below W.heap.size W wr)
 case atStart => first | exact ⟨0, 1, Nat.zero_le _, rfl, rfl, rfl, rfl, Below.refl _ _⟩ | exact ⟨0, 1, Nat.zero_le _, rfl, rfl, rfl, rfl, hb1⟩
 case round =>
  obtain ⟨i, a, hi, rfl, rfl, rfl, hh, hbel⟩ := hrel
  have hlt0 : w.heap.size < W.heap.size := by rw [← hW]; simp
  have hc5' : wr.cell? ⟨w.heap.size, 5, none⟩ = some (.slice ao l.length cap) := (hbel.cell hlt0).trans hc5
  by_cases h : i < l.length
  ·obtain ⟨b, off, rfl, hbs, hce⟩ := hl.resolve_left (fun e => by rw [e] at h; exact absurd h (by simp))
   have hI : (i : Int) < (l.length : Int) := by omega
   have hcx : ∀ j, j < 7 → wr.cell? ⟨b, off + i * 7 + j, none⟩ = some (G i j) := fun j hj => (hbel.cell (p := ⟨b, _, none⟩) (by exact Nat.lt_trans hbs hlt0)).trans ((hb0.cell (p := ⟨b, _, none⟩) hbs).trans (hce i h j hj))
   have d0 : wr.cell? ⟨b, off + i * 7, none⟩ = some (G i 0) := hcx 0 (by omega)
   have d1 := hcx 1 (by omega)
   have d2 := hcx 2 (by omega)
   have d3 := hcx 3 (by omega)
   have d4 := hcx 4 (by omega)
   have d5 := hcx 5 (by omega)
   have d6 := hcx 6 (by omega)
   have cal := ih l[i] (List.getElem_mem h) (G i) wr (((hr i h).kept hb0).kept hbel)
   rw [List.drop_eq_getElem_cons h, sizeL] at hh
   generalize sizeV l[i] = S at *
   clear hce hcx hr hl hk ih
   go_wp2_with (first | (go_at_call 24; refine cal.mono ?_; rintro r w1 ⟨rfl, hb1⟩))
   all_goals (go_roundg (l.length - (i + 1)); (case measure => omega); (case rel => exact ⟨i + 1, wrap64 (a + S), by omega, rfl, by go_num, rfl, hh, vb_t hbel hb1⟩))
  ·have hI : ¬ ((i : Int) < (l.length : Int)) := by omega
   go_wp2_with fail
   go_ret
   have hh := hh.out
   rw [List.drop_eq_nil_of_le (by omega), sizeL] at hh
   exact ⟨by rw [sizeV, ← hh]; rfl, vb_t hb0 hbel⟩

def vholds (k : Int) : Bool := decide (k = 5 ∨ k = 6)
def rholds (k : Int) : Bool := !decide (k < 5)
mutual
/-- How deep a value is, by which kinds hold others. -/
def depthV (c : Int → Bool) : JV → Int
 | .mk k _ _ _ _ l _ => if c k = true then wrap64 (depthL c l 0 + 1) else 0
def depthL (c : Int → Bool) : List JV → Int → Int
 | [], a => a
 | v :: l, a => depthL c l (max a (depthV c v))
end

set_option maxRecDepth 100000 in
theorem holds_any (k : Int) (n : Bool) (g : ByteArray) (e : Int) (t : ByteArray) (x y : Value) (w : World) :
  Calls Tryz.prog 53 #[.agg #[.int .i64 k, .bool n, .string g, .int .i64 e, .string t, x, y]] w fun r w' => r = .returned (.bool (vholds k)) ∧ Below w.heap.size w w' := by
 have hb0 : Below w.heap.size w (w.alloc (.cells #[.int .i64 k, .bool n, .string g, .int .i64 e, .string t, x, y] 28)) := vb_a (Below.refl _ _) _
 by_cases h5 : k = 5
 ·subst h5
  go_enter Tryz.func53, Tryz.ntmps53
  go_wp2_with fail
  go_ret
  exact ⟨rfl, hb0⟩
 ·have h5' : (k == 5) = false := beq_eq_false_iff_ne.2 h5
  by_cases h6 : k = 6
  ·subst h6
   go_enter Tryz.func53, Tryz.ntmps53
   go_wp2_with fail
   go_ret
   exact ⟨rfl, hb0⟩
  ·have h6' : (k == 6) = false := beq_eq_false_iff_ne.2 h6
   go_enter Tryz.func53, Tryz.ntmps53
   go_wp2_with fail
   go_ret
   exact ⟨by rw [show vholds k = false by simp [vholds, h5, h6]]; rfl, hb0⟩

set_option maxRecDepth 100000 in
set_option maxHeartbeats 3200000 in
theorem rdepth_any (v : JV) : ∀ (f : Nat → Value) (w : World), VI w (fun _ => False) v f →
  Calls Tryz.prog 28 #[va f] w fun r w' => r = .returned (.int .i64 (depthV rholds v)) ∧ Below w.heap.size w w' := by
 induction v using JV.ind with
 | h k n g e t l ks ih =>
 intro f w hv
 obtain ⟨ao, cap, ko, kc, G, hf, hll, hkl, hr, hl, hk⟩ := hv.open
 rw [hf]
 have hm : (l.length : Int) ≤ 9223372036854775807 := by unfold maxLen at hll; omega
 generalize hW : w.alloc (.cells #[.int .i64 k, .bool n, .string g, .int .i64 e, .string t, .slice ao l.length cap, .slice ko ks.length kc] 28) = W
 have hb0 : Below w.heap.size w W := hW ▸ vb_a (Below.refl _ _) _
 have hc5 : W.cell? ⟨w.heap.size, 5, none⟩ = some (.slice ao l.length cap) := by rw [← hW]; simp
 have z0 : W.cell? ⟨w.heap.size, 0, none⟩ = some (.int .i64 k) := by rw [← hW]; simp
 have z1 : W.cell? ⟨w.heap.size, 1, none⟩ = some (.bool n) := by rw [← hW]; simp
 have z2 : W.cell? ⟨w.heap.size, 2, none⟩ = some (.string g) := by rw [← hW]; simp
 have z3 : W.cell? ⟨w.heap.size, 3, none⟩ = some (.int .i64 e) := by rw [← hW]; simp
 have z4 : W.cell? ⟨w.heap.size, 4, none⟩ = some (.string t) := by rw [← hW]; simp
 have z6 : W.cell? ⟨w.heap.size, 6, none⟩ = some (.slice ko ks.length kc) := by rw [← hW]; simp
 by_cases hq : rholds k = true
 case neg =>
  have hq' : rholds k = false := by simpa using hq
  go_enter Tryz.func28, Tryz.ntmps28
  have hk5 : (k < 5) := by simpa [rholds] using hq
  go_wp2_with fail
  go_ret
  exact ⟨by rw [depthV, if_neg hq]; rfl, hb0⟩
 go_enter Tryz.func28, Tryz.ntmps28
 have hk5 : ¬ (k < 5) := by simpa [rholds] using hq
 go_wp2_with fail
 go_loopg [3, 4] l.length (fun gg s3 s8 wr => ∃ (i : Nat) (a : Int), i ≤ l.length ∧ gg = l.length - i ∧ s8 = .int .i64 (i : Int) ∧ s3 = .int .i64 a ∧ Hid (depthL rholds (l.drop i) a = depthL rholds l 0) ∧ Below W.heap.size W wr)
 case atStart => first | exact ⟨0, 0, Nat.zero_le _, rfl, rfl, rfl, rfl, Below.refl _ _⟩ | exact ⟨0, 0, Nat.zero_le _, rfl, rfl, rfl, rfl, hb1⟩
 case round =>
  obtain ⟨i, a, hi, rfl, rfl, rfl, hh, hbel⟩ := hrel
  have hlt0 : w.heap.size < W.heap.size := by rw [← hW]; simp
  have hc5' : wr.cell? ⟨w.heap.size, 5, none⟩ = some (.slice ao l.length cap) := (hbel.cell hlt0).trans hc5
  by_cases h : i < l.length
  ·obtain ⟨b, off, rfl, hbs, hce⟩ := hl.resolve_left (fun e => by rw [e] at h; exact absurd h (by simp))
   have hI : (i : Int) < (l.length : Int) := by omega
   have hcx : ∀ j, j < 7 → wr.cell? ⟨b, off + i * 7 + j, none⟩ = some (G i j) := fun j hj => (hbel.cell (p := ⟨b, _, none⟩) (by exact Nat.lt_trans hbs hlt0)).trans ((hb0.cell (p := ⟨b, _, none⟩) hbs).trans (hce i h j hj))
   have d0 : wr.cell? ⟨b, off + i * 7, none⟩ = some (G i 0) := hcx 0 (by omega)
   have d1 := hcx 1 (by omega)
   have d2 := hcx 2 (by omega)
   have d3 := hcx 3 (by omega)
   have d4 := hcx 4 (by omega)
   have d5 := hcx 5 (by omega)
   have d6 := hcx 6 (by omega)
   have cal := ih l[i] (List.getElem_mem h) (G i) wr (((hr i h).kept hb0).kept hbel)
   rw [List.drop_eq_getElem_cons h, depthL] at hh
   generalize depthV rholds l[i] = S at *
   clear hce hcx hr hl hk ih
   go_wp2_with (first | (go_at_call 28; refine cal.mono ?_; rintro r w1 ⟨rfl, hb1⟩))
   all_goals (go_roundg (l.length - (i + 1)); (case measure => omega); (case rel => exact ⟨i + 1, max a S, by omega, rfl, by go_num, by congr 1; omega, hh, vb_t hbel hb1⟩))
  ·have hI : ¬ ((i : Int) < (l.length : Int)) := by omega
   go_wp2_with fail
   go_ret
   have hh := hh.out
   rw [List.drop_eq_nil_of_le (by omega), depthL] at hh
   exact ⟨by rw [depthV, if_pos hq, ← hh]; rfl, vb_t hb0 hbel⟩

set_option maxRecDepth 100000 in
set_option maxHeartbeats 3200000 in
theorem depth_any (v : JV) : ∀ (f : Nat → Value) (w : World), VI w (fun _ => False) v f →
  Calls Tryz.prog 27 #[va f] w fun r w' => r = .returned (.int .i64 (depthV vholds v)) ∧ Below w.heap.size w w' := by
 induction v using JV.ind with
 | h k n g e t l ks ih =>
 intro f w hv
 obtain ⟨ao, cap, ko, kc, G, hf, hll, hkl, hr, hl, hk⟩ := hv.open
 rw [hf]
 have hm : (l.length : Int) ≤ 9223372036854775807 := by unfold maxLen at hll; omega
 generalize hW : w.alloc (.cells #[.int .i64 k, .bool n, .string g, .int .i64 e, .string t, .slice ao l.length cap, .slice ko ks.length kc] 28) = W
 have hb0 : Below w.heap.size w W := hW ▸ vb_a (Below.refl _ _) _
 have hc5 : W.cell? ⟨w.heap.size, 5, none⟩ = some (.slice ao l.length cap) := by rw [← hW]; simp
 have z0 : W.cell? ⟨w.heap.size, 0, none⟩ = some (.int .i64 k) := by rw [← hW]; simp
 have z1 : W.cell? ⟨w.heap.size, 1, none⟩ = some (.bool n) := by rw [← hW]; simp
 have z2 : W.cell? ⟨w.heap.size, 2, none⟩ = some (.string g) := by rw [← hW]; simp
 have z3 : W.cell? ⟨w.heap.size, 3, none⟩ = some (.int .i64 e) := by rw [← hW]; simp
 have z4 : W.cell? ⟨w.heap.size, 4, none⟩ = some (.string t) := by rw [← hW]; simp
 have z6 : W.cell? ⟨w.heap.size, 6, none⟩ = some (.slice ko ks.length kc) := by rw [← hW]; simp
 by_cases hq : vholds k = true
 case neg =>
  have hq' : vholds k = false := by simpa using hq
  go_enter Tryz.func27, Tryz.ntmps27
  have cc := holds_any k n g e t (.slice ao l.length cap) (.slice ko ks.length kc) W
  rw [hq'] at cc
  go_wp2_with (go_at_call 53; refine cc.mono ?_; rintro r w1 ⟨rfl, hb1⟩)
  go_ret
  exact ⟨by rw [depthV, if_neg hq]; rfl, vb_t hb0 hb1⟩
 go_enter Tryz.func27, Tryz.ntmps27
 have cc := holds_any k n g e t (.slice ao l.length cap) (.slice ko ks.length kc) W
 rw [hq] at cc
 go_wp2_with (go_at_call 53; refine cc.mono ?_; rintro r w1 ⟨rfl, hb1⟩; have y5 : w1.cell? ⟨w.heap.size, 5, none⟩ = some (.slice ao l.length cap) := (hb1.cell (by rw [← hW]; simp)).trans hc5)
 go_loopg [3, 11] l.length (fun gg s3 s8 wr => ∃ (i : Nat) (a : Int), i ≤ l.length ∧ gg = l.length - i ∧ s8 = .int .i64 (i : Int) ∧ s3 = .int .i64 a ∧ Hid (depthL vholds (l.drop i) a = depthL vholds l 0) ∧ Below W.heap.size W wr)
 case atStart => first | exact ⟨0, 0, Nat.zero_le _, rfl, rfl, rfl, rfl, Below.refl _ _⟩ | exact ⟨0, 0, Nat.zero_le _, rfl, rfl, rfl, rfl, hb1⟩
 case round =>
  obtain ⟨i, a, hi, rfl, rfl, rfl, hh, hbel⟩ := hrel
  have hlt0 : w.heap.size < W.heap.size := by rw [← hW]; simp
  have hc5' : wr.cell? ⟨w.heap.size, 5, none⟩ = some (.slice ao l.length cap) := (hbel.cell hlt0).trans hc5
  by_cases h : i < l.length
  ·obtain ⟨b, off, rfl, hbs, hce⟩ := hl.resolve_left (fun e => by rw [e] at h; exact absurd h (by simp))
   have hI : (i : Int) < (l.length : Int) := by omega
   have hcx : ∀ j, j < 7 → wr.cell? ⟨b, off + i * 7 + j, none⟩ = some (G i j) := fun j hj => (hbel.cell (p := ⟨b, _, none⟩) (by exact Nat.lt_trans hbs hlt0)).trans ((hb0.cell (p := ⟨b, _, none⟩) hbs).trans (hce i h j hj))
   have d0 : wr.cell? ⟨b, off + i * 7, none⟩ = some (G i 0) := hcx 0 (by omega)
   have d1 := hcx 1 (by omega)
   have d2 := hcx 2 (by omega)
   have d3 := hcx 3 (by omega)
   have d4 := hcx 4 (by omega)
   have d5 := hcx 5 (by omega)
   have d6 := hcx 6 (by omega)
   have cal := ih l[i] (List.getElem_mem h) (G i) wr (((hr i h).kept hb0).kept hbel)
   rw [List.drop_eq_getElem_cons h, depthL] at hh
   generalize depthV vholds l[i] = S at *
   clear hce hcx hr hl hk ih
   go_wp2_with (first | (go_at_call 27; refine cal.mono ?_; rintro r w1 ⟨rfl, hb1⟩))
   all_goals (go_roundg (l.length - (i + 1)); (case measure => omega); (case rel => exact ⟨i + 1, max a S, by omega, rfl, by go_num, by congr 1; omega, hh, vb_t hbel hb1⟩))
  ·have hI : ¬ ((i : Int) < (l.length : Int)) := by omega
   go_wp2_with fail
   go_ret
   have hh := hh.out
   rw [List.drop_eq_nil_of_le (by omega), depthL] at hh
   exact ⟨by rw [depthV, if_pos hq, ← hh]; rfl, vb_t hb0 hbel⟩
end Go.Proofs.YtjdboekanmfgpaaGreatDoor
