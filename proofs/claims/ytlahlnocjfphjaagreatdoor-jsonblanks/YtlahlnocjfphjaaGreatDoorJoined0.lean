/-
  Values as trees, and that a tree lies in a world: cells of seven, rows of them, rows of keys. No condition.
  What value.holdsOthers, value.Size, value.Depth and their like of the reference answer. No condition.
  The small functions of package json: bounded, malformed, exceeded, is, isSign, wordKind, digitsAhead. No condition.
-/
import Derived.Test.YtlahlnocjfphjaaGreatDoorProg
import Derived.WalkKit
import Derived.Below
import Derived.ProofKit
import Derived.Deep.Strs
import Derived.WalkSpells
import Derived.WalkLawsBesides
import Derived.Deep.QuietTactic
import Derived.BigQuiet
import Derived.Deep.RegionWith
import Derived.Deep.LoopGhost
import Derived.Lib.SlBytesConst
namespace Go.Proofs.YtlahlnocjfphjaaGreatDoor
open Go.ChangeShapes Go.WideShapes Go.Deep Go.RowKit

/-- A value: its kind, its number, its text, what it holds, its keys. -/
inductive JV where
  | mk (k : Int) (n : Bool) (g : ByteArray) (e : Int) (t : ByteArray) (l : List JV) (ks : List ByteArray)
def JV.kind : JV → Int | .mk k _ _ _ _ _ _ => k
def JV.list : JV → List JV | .mk _ _ _ _ _ l _ => l
def JV.keys : JV → List ByteArray | .mk _ _ _ _ _ _ ks => ks
def JV.text : JV → ByteArray | .mk _ _ _ _ t _ _ => t
/-- By what it holds. -/
theorem JV.ind {P : JV → Prop} (h : ∀ k n g e t l ks, (∀ v ∈ l, P v) → P (.mk k n g e t l ks)) : ∀ v, P v
  | .mk k n g e t l ks => h k n g e t l ks (fun v _ => JV.ind h v)

/-- A row of texts in a world, outside of blocks that may be written yet. -/
def SI (w : World) (X : Nat → Prop) (ks : List ByteArray) (v : Value) : Prop :=
  ∃ ao cap, v = .slice ao ks.length cap ∧ ks.length ≤ cap ∧ cap ≤ maxLen ∧ (∀ s ∈ ks, s.size ≤ maxLen) ∧
    (ks = [] ∨ ∃ b off, ao = some ⟨b, off, none⟩ ∧ ¬ X b ∧ ∀ i (h : i < ks.length), w.cell? ⟨b, off + i, none⟩ = some (.string ks[i]))

/-- A value's seven cells. -/
inductive VI (w : World) (X : Nat → Prop) : JV → (Nat → Value) → Prop
  | mk {k : Int} {n : Bool} {g : ByteArray} {e : Int} {t : ByteArray} {l : List JV} {ks : List ByteArray} {f : Nat → Value} (ao : Option Addr) (cap : Nat) (G : Nat → Nat → Value)
    (f0 : f 0 = .int .i64 k) (f1 : f 1 = .bool n) (f2 : f 2 = .string g) (f3 : f 3 = .int .i64 e) (f4 : f 4 = .string t) (f5 : f 5 = .slice ao l.length cap) (f6 : SI w X ks (f 6))
    (hc : l.length ≤ cap ∧ cap ≤ maxLen) (hs : g.size ≤ maxLen ∧ t.size ≤ maxLen) (hw : (Lit.int .i64 k).wf = true ∧ (Lit.int .i64 e).wf = true)
    (hl : l = [] ∨ ∃ b off, ao = some ⟨b, off, none⟩ ∧ ¬ X b ∧ ∀ i, i < l.length → ∀ j, j < 7 → w.cell? ⟨b, off + i * 7 + j, none⟩ = some (G i j))
    (hr : ∀ i (h : i < l.length), VI w X l[i] (G i)) : VI w X (.mk k n g e t l ks) f
/-- The value itself. -/
def va (f : Nat → Value) : Value := .agg #[f 0, f 1, f 2, f 3, f 4, f 5, f 6]

theorem SI.carry {w w' : World} {X X' : Nat → Prop} {ks : List ByteArray} {v : Value} (h : SI w X ks v) (hX : ∀ b, ¬ X b → b < w.heap.size → w'.heap[b]? = w.heap[b]? ∧ ¬ X' b) : SI w' X' ks v := by
  obtain ⟨ao, cap, e, h1, h2, h3, h4⟩ := h
  refine ⟨ao, cap, e, h1, h2, h3, ?_⟩
  rcases h4 with h4 | ⟨b, off, h5, h6, h7⟩
  · exact Or.inl h4
  · by_cases hk : ks = []
    · exact Or.inl hk
    have h0 : 0 < ks.length := List.length_pos_iff.2 hk
    have hb : b < w.heap.size := World.block_lt_of_cell? w _ (h7 0 h0)
    have hx := hX b h6 hb
    exact Or.inr ⟨b, off, h5, hx.2, fun i hi => (World.cell?_of_block (w := w) (w' := w') hx.1).trans (h7 i hi)⟩
theorem VI.carry {w w' : World} {X X' : Nat → Prop} {v : JV} {f : Nat → Value} (h : VI w X v f) (hX : ∀ b, ¬ X b → b < w.heap.size → w'.heap[b]? = w.heap[b]? ∧ ¬ X' b) : VI w' X' v f := by
  induction h with
  | mk ao cap G f0 f1 f2 f3 f4 f5 f6 hc hs hw hl hr ih =>
    refine VI.mk ao cap G f0 f1 f2 f3 f4 f5 (f6.carry hX) hc hs hw ?_ ih
    rcases hl with h4 | ⟨b, off, h5, h6, h7⟩
    · exact Or.inl h4
    · rename_i l _ _
      by_cases hk : l = []
      · exact Or.inl hk
      have h0 : 0 < l.length := List.length_pos_iff.2 hk
      have hb : b < w.heap.size := World.block_lt_of_cell? w _ (h7 0 h0 0 (by omega))
      have hx := hX b h6 hb
      exact Or.inr ⟨b, off, h5, hx.2, fun i hi j hj => (World.cell?_of_block (w := w) (w' := w') hx.1).trans (h7 i hi j hj)⟩
theorem VI.kept {w w' : World} {X : Nat → Prop} {v : JV} {f : Nat → Value} (h : VI w X v f) (hb : Below w.heap.size w w') : VI w' X v f :=
  h.carry fun b hx hlt => ⟨hb.block b hlt, hx⟩

theorem cellsValue : Tryz.prog.cellsOf 31 = 7 := by kernel_rfl
theorem cellsKindJ : Tryz.prog.cellsOf 25 = 1 := by kernel_rfl
theorem cellsDecJ : Tryz.prog.cellsOf 27 = 3 := by kernel_rfl
theorem cellsStrJ : Tryz.prog.cellsOf 9 = 1 := by kernel_rfl
theorem cellsBoolJ : Tryz.prog.cellsOf 4 = 1 := by kernel_rfl
theorem cellsIntJ : Tryz.prog.cellsOf 3 = 1 := by kernel_rfl
theorem cellsListJ : Tryz.prog.cellsOf 28 = 1 := by kernel_rfl
theorem cellsKeysJ : Tryz.prog.cellsOf 29 = 1 := by kernel_rfl

theorem trod_struct5 {H : Type} {enc : TypeId × Value → H} {P : Program} {w : World} {base : Nat} {spare : Nat → Bool} {held : Bool} {t : TypeId} {f0 f1 f2 f3 f4 : Field} {fuel : Nat} {cs : List Value} {x : DataW H × List MemPlace} (ht : P.underlying t = some (.struct #[f0, f1, f2, f3, f4])) (h : DataW.trod enc P w base spare held fuel t cs = some x) :
    ∃ y0 y1 y2 y3 y4 n, fuel = n + 1 ∧ x = (.agg [y0.1, y1.1, y2.1, y3.1, y4.1], y0.2 ++ (y1.2 ++ (y2.2 ++ (y3.2 ++ y4.2)))) ∧ cs.length = P.cellsOf t ∧ DataW.trod enc P w base spare held n f0.type ((cs.drop f0.offset).take (P.cellsOf f0.type)) = some y0 ∧
      DataW.trod enc P w base spare held n f1.type ((cs.drop f1.offset).take (P.cellsOf f1.type)) = some y1 ∧ DataW.trod enc P w base spare held n f2.type ((cs.drop f2.offset).take (P.cellsOf f2.type)) = some y2 ∧
      DataW.trod enc P w base spare held n f3.type ((cs.drop f3.offset).take (P.cellsOf f3.type)) = some y3 ∧ DataW.trod enc P w base spare held n f4.type ((cs.drop f4.offset).take (P.cellsOf f4.type)) = some y4 := by
  obtain ⟨xs, n, hn, rfl, hl, hlen, hf⟩ := DataW.trod_struct ht h
  match xs, hlen with
  | [y0, y1, y2, y3, y4], _ => exact ⟨y0, y1, y2, y3, y4, n, hn, by simp, hl, by simpa using hf 0 f0 rfl, by simpa using hf 1 f1 rfl, by simpa using hf 2 f2 rfl, by simpa using hf 3 f3 rfl, by simpa using hf 4 f4 rfl⟩

/-- Keys that come in. -/
theorem open_keys {H : Type} {enc : TypeId × Value → H} {w : World} {base : Nat} {spare : Nat → Bool} {held : Bool} {fuel : Nat} {cs : List Value} {x : DataW H × List MemPlace}
    (h : DataW.trod enc Tryz.prog w base spare held fuel 29 cs = some x) : ∃ ks v, cs = [v] ∧ SI w (fun _ => False) ks v := by
  rcases open_strs Tryz.underlying29 Tryz.underlying9 cellsStrJ h with ⟨rfl, _⟩ | ⟨a, len, cap, m, Sx, rfl, _, hl, hm, hmm, _, hx⟩
  · exact ⟨[], _, rfl, none, 0, rfl, Nat.le_refl _, by unfold maxLen; omega, fun s hs => absurd hs (by simp), Or.inl rfl⟩
  · have hlm : len ≤ m := by rw [hmm]; split <;> omega
    refine ⟨(List.range len).map Sx, _, rfl, some a, cap, by simp, by simpa using hl, hm, fun s hs => ?_, ?_⟩
    · obtain ⟨i, hi, rfl⟩ := List.mem_map.1 hs
      exact (hx i (by have := List.mem_range.1 hi; omega)).2
    · by_cases h0 : len = 0
      · subst h0; exact Or.inl rfl
      · right
        have hsp : a.spot = none := by simpa [Addr.add] using World.cell?_spot (hx 0 (by omega)).1
        obtain ⟨b, off, spot⟩ := a
        simp only at hsp
        subst hsp
        refine ⟨b, off, rfl, fun h => h, fun i hi => ?_⟩
        have hi' : i < len := by simpa using hi
        have := (hx i (by omega)).1
        have e : (Addr.mk b off none).add i = ⟨b, off + i, none⟩ := by
          unfold Addr.add
          split
          · rename_i h; subst h; rfl
          · rfl
        rw [e] at this
        simpa using this

set_option maxRecDepth 100000 in
/-- A value that comes in. -/
theorem open_value {H : Type} {enc : TypeId × Value → H} {w : World} {base : Nat} {spare : Nat → Bool} {held : Bool} : ∀ (fuel : Nat) (cs : List Value) (x : DataW H × List MemPlace),
    DataW.trod enc Tryz.prog w base spare held fuel 31 cs = some x → ∃ v f, cs = [f 0, f 1, f 2, f 3, f 4, f 5, f 6] ∧ VI w (fun _ => False) v f := by
  intro fuel
  induction fuel using Nat.strongRecOn with
  | _ fuel ih =>
  intro cs x h
  obtain ⟨y0, y1, y2, y3, y4, m, hm, _, hlen, t0, t1, t2, t3, t4⟩ := trod_struct5 Tryz.underlying31 h
  rw [cellsValue] at hlen
  match cs, hlen with
  | [c0, c1, c2, c3, c4, c5, c6], _ =>
  simp only [cellsKindJ, cellsDecJ, cellsStrJ, cellsListJ, cellsKeysJ, List.drop, List.take] at t0 t1 t2 t3 t4
  obtain ⟨k, h0, _, hk⟩ := DataW.trod_int Tryz.underlying25 t0
  obtain ⟨z0, z1, z2, m1, _, _, u0, u1, u2⟩ := trod_struct3 Tryz.underlying27 t1
  simp only [cellsBoolJ, cellsStrJ, cellsIntJ, List.drop, List.take] at u0 u1 u2
  obtain ⟨n, h1, _⟩ := DataW.trod_bool Tryz.underlying4 u0
  obtain ⟨g, h2, _, hg⟩ := DataW.trod_string Tryz.underlying9 u1
  obtain ⟨e, h3, _, he⟩ := DataW.trod_int Tryz.underlying3 u2
  obtain ⟨t, h4, _, ht⟩ := DataW.trod_string Tryz.underlying9 t2
  obtain ⟨ks, v6, h6, hK⟩ := open_keys t4
  simp only [List.cons.injEq, and_true] at h0 h1 h2 h3 h4 h6
  subst h0 h1 h2 h3 h4 h6
  rcases DataW.trod_slice Tryz.underlying28 t3 with ⟨h5, _⟩ | ⟨a, len, cap, elems, rest, m2, hm2, h5, _, _, hl, hcm, hlen, hel, _, _⟩
  · simp only [List.cons.injEq, and_true] at h5
    subst h5
    exact ⟨.mk k n g e t [] ks, fun i => [Value.int .i64 k, .bool n, .string g, .int .i64 e, .string t, .slice none 0 0, c6].getD i .nilIface, rfl,
      VI.mk none 0 (fun _ _ => .nilIface) rfl rfl rfl rfl rfl rfl hK ⟨Nat.le_refl _, by unfold maxLen; omega⟩ ⟨hg, ht⟩ ⟨hk, he⟩ (Or.inl rfl) (fun i hi => absurd hi (by simp))⟩
  · simp only [List.cons.injEq, and_true] at h5
    subst h5
    have each : ∀ i, i < len → ∃ q : JV × (Nat → Value), w.cells? base (a.add (i * 7)) 7 = some [q.2 0, q.2 1, q.2 2, q.2 3, q.2 4, q.2 5, q.2 6] ∧ VI w (fun _ => False) q.1 q.2 := fun i hi => by
      have := hel i hi
      rw [cellsValue, List.getElem?_eq_getElem (by omega)] at this
      obtain ⟨cs', g1, g2⟩ := Option.bind_eq_some_iff.1 this
      obtain ⟨v, f, rfl, hv⟩ := ih m2 (by omega) cs' _ g2
      exact ⟨⟨v, f⟩, g1, hv⟩
    haveI : Inhabited (JV × (Nat → Value)) := ⟨⟨.mk 0 false ⟨#[]⟩ 0 ⟨#[]⟩ [] [], fun _ => .nilIface⟩⟩
    obtain ⟨Q, hQ⟩ := choose_lt each
    refine ⟨.mk k n g e t ((List.range len).map fun i => (Q i).1) ks, fun i => [Value.int .i64 k, .bool n, .string g, .int .i64 e, .string t, .slice (some a) len cap, c6].getD i .nilIface, rfl,
      VI.mk (some a) cap (fun i => (Q i).2) rfl rfl rfl rfl rfl (by simp) hK ⟨by simpa using hl, hcm⟩ ⟨hg, ht⟩ ⟨hk, he⟩ ?_ (fun i hi => ?_)⟩
    · by_cases h0 : len = 0
      · subst h0; exact Or.inl rfl
      · right
        have hcell : ∀ i, i < len → ∀ j, j < 7 → w.cell? ((a.add (i * 7)).add j) = some ((Q i).2 j) := fun i hi j hj => by
          obtain ⟨_, _, hc⟩ := World.cells?_some (hQ i hi).1
          rw [hc j hj]
          match j, hj with
          | 0, _ => rfl
          | 1, _ => rfl
          | 2, _ => rfl
          | 3, _ => rfl
          | 4, _ => rfl
          | 5, _ => rfl
          | 6, _ => rfl
        have hsp : a.spot = none := by simpa [Addr.add] using World.cell?_spot (hcell 0 (by omega) 0 (by omega))
        obtain ⟨b, off, spot⟩ := a
        simp only at hsp
        subst hsp
        refine ⟨b, off, rfl, fun h => h, fun i hi j hj => ?_⟩
        have hi' : i < len := by simpa using hi
        have := hcell i hi' j hj
        have e : ∀ o n, (Addr.mk b o none).add n = ⟨b, o + n, none⟩ := fun o n => by
          unfold Addr.add
          split
          · rename_i h; subst h; rfl
          · rfl
        rw [e, e] at this
        exact this
    · have hi' : i < len := by simpa using hi
      simpa using (hQ i hi').2

end Go.Proofs.YtlahlnocjfphjaaGreatDoor

namespace Go.Proofs.YtlahlnocjfphjaaGreatDoor
open Go.RowKit
theorem vb_a {a w : World} (h : Below a.heap.size a w) (o : Obj) : Below a.heap.size a (w.alloc o) := h.alloc h.size o
theorem vb_t {a w w2 : World} (h : Below a.heap.size a w) (h2 : Below w.heap.size w w2) : Below a.heap.size a w2 := h.trans (h2.mono h.size)

mutual
/-- How many values, as Go counts. -/
def sizeV : JV → Int
  | .mk _ _ _ _ _ l _ => sizeL l 1
def sizeL : List JV → Int → Int
  | [], a => a
  | v :: l, a => sizeL l (wrap64 (a + sizeV v))
end

/-- A value opened: its cells, and its elements. -/
theorem VI.open {w : World} {X : Nat → Prop} {k : Int} {n : Bool} {g : ByteArray} {e : Int} {t : ByteArray} {l : List JV} {ks : List ByteArray} {f : Nat → Value} (h : VI w X (.mk k n g e t l ks) f) :
    ∃ (ao : Option Addr) (cap : Nat) (ko : Option Addr) (kc : Nat) (G : Nat → Nat → Value), va f = .agg #[.int .i64 k, .bool n, .string g, .int .i64 e, .string t, .slice ao l.length cap, .slice ko ks.length kc] ∧
      l.length ≤ maxLen ∧ ks.length ≤ maxLen ∧ (∀ i (h : i < l.length), VI w X l[i] (G i)) ∧
      (l = [] ∨ ∃ b off, ao = some ⟨b, off, none⟩ ∧ b < w.heap.size ∧ ∀ i, i < l.length → ∀ j, j < 7 → w.cell? ⟨b, off + i * 7 + j, none⟩ = some (G i j)) ∧
      (ks = [] ∨ ∃ b off, ko = some ⟨b, off, none⟩ ∧ b < w.heap.size ∧ ∀ i (h : i < ks.length), w.cell? ⟨b, off + i, none⟩ = some (.string ks[i])) := by
  cases h with
  | mk ao cap G f0 f1 f2 f3 f4 f5 f6 hc hs hw hl hr =>
  obtain ⟨ko, kc, e6, k1, k2, _, k4⟩ := f6
  refine ⟨ao, cap, ko, kc, G, by simp only [va, f0, f1, f2, f3, f4, f5, e6], by omega, by omega, hr, ?_, ?_⟩
  · rcases hl with h | ⟨b, off, h1, _, h2⟩
    · exact Or.inl h
    · by_cases hk : l = []
      · exact Or.inl hk
      exact Or.inr ⟨b, off, h1, World.block_lt_of_cell? w _ (h2 0 (List.length_pos_iff.2 hk) 0 (by omega)), h2⟩
  · rcases k4 with h | ⟨b, off, h1, _, h2⟩
    · exact Or.inl h
    · by_cases hk : ks = []
      · exact Or.inl hk
      exact Or.inr ⟨b, off, h1, World.block_lt_of_cell? w _ (h2 0 (List.length_pos_iff.2 hk)), h2⟩

def vholds (k : Int) : Bool := decide (k = 5 ∨ k = 6)
def rholds (k : Int) : Bool := !decide (k < 5)
mutual
/-- How deep a value is, by which kinds hold others. -/
def depthV (c : Int → Bool) : JV → Int
  | .mk k _ _ _ _ l _ => if c k = true then wrap64 (depthL c l 0 + 1) else 0
def depthL (c : Int → Bool) : List JV → Int → Int
  | [], a => a
  | v :: l, a => depthL c l (max a (depthV c v))
end

end Go.Proofs.YtlahlnocjfphjaaGreatDoor

namespace Go.Proofs.YtlahlnocjfphjaaGreatDoor
open Go.RowKit

theorem vb_s {a w : World} (h : Below a.heap.size a w) {b o : Nat} (hb : a.heap.size ≤ b) (v : Value) : Below a.heap.size a (w.setCell ⟨b, o, none⟩ v) := h.setCell hb v
/-- A block of four cells that was made, behind a call. -/
theorem keep4 {w w1 : World} {a b c d : Value} {ty : TypeId} (h : Below (w.alloc (.cells #[a, b, c, d] ty)).heap.size (w.alloc (.cells #[a, b, c, d] ty)) w1) :
    w1.cell? ⟨w.heap.size, 0, none⟩ = some a ∧ w1.cell? ⟨w.heap.size, 1, none⟩ = some b ∧ w1.cell? ⟨w.heap.size, 2, none⟩ = some c ∧ w1.cell? ⟨w.heap.size, 3, none⟩ = some d := by
  refine ⟨(h.cell (by simp)).trans (by simp), (h.cell (by simp)).trans (by simp), (h.cell (by simp)).trans (by simp), (h.cell (by simp)).trans (by simp)⟩

/-- Are two tokens the same. -/
def jeqT (a : Int) (s : ByteArray) (e g : Int) (b : Int) (t : ByteArray) (f h : Int) : Bool := decide (a = b ∧ s = t ∧ e = f ∧ g = h)
theorem jeq_bytes (s t : ByteArray) : (s.toList == t.toList) = decide (s = t) := by
  rw [← beq_toListBytes]
  obtain ⟨⟨x⟩⟩ := s
  obtain ⟨⟨y⟩⟩ := t
  show ((⟨x⟩ : Array UInt8) == ⟨y⟩) = _
  by_cases h : x = y
  · subst h; simp
  · rw [decide_eq_false (fun e => h (by simpa using e))]; simpa using h
theorem jeqIn_tok (a : Int) (s : ByteArray) (e g : Int) (b : Int) (t : ByteArray) (f h : Int) (w : World) :
    (Op.equalIn 10000 50 (.agg #[.int .i64 a, .string s, .int .i64 e, .int .i64 g]) (.agg #[.int .i64 b, .string t, .int .i64 f, .int .i64 h])).run Tryz.prog w = .ok (jeqT a s e g b t f h) w := by
  have u3 := Tryz.underlying3
  have u4 := Tryz.underlying48
  have u9 := Tryz.underlying9
  have a3 := Tryz.isAgg3
  have a4 := Tryz.isAgg48
  have a9 := Tryz.isAgg9
  have z3 := Tryz.sizeOf3
  have z4 := Tryz.sizeOf48
  have z9 := Tryz.sizeOf9
  have hS : Tryz.prog.underlying 50 = some (.struct (Tryz.prog.fieldsOf 50)) := by kernel_rfl
  have hp : Tryz.prog.stoodInHeld 50 = false := by kernel_rfl
  rw [show (10000 : Nat) = 9999 + 1 from rfl, run_equalIn_agg w 9999 50 _ _ hS hp]
  simp only [Program.fieldsOf, Tryz.underlying50]
  go_simp
  have hl : (s.toList = t.toList) ↔ s = t := by
    have := jeq_bytes s t
    rw [Bool.eq_iff_iff] at this
    simpa using this
  unfold jeqT
  by_cases h1 : a = b <;> by_cases h2 : s = t <;> by_cases h3 : e = f <;> by_cases h4 : g = h <;> simp [h1, h2, h3, h4, hl]

def boundedL (a m : Int) : Int := if 0 < a ∧ a ≤ m then a else m
set_option maxRecDepth 100000 in
theorem bounded_any (a m : Int) (w : World) : Calls Tryz.prog 24 #[.int .i64 a, .int .i64 m] w fun r w' => r = .returned (.int .i64 (boundedL a m)) ∧ w' = w := by
  by_cases h0 : 0 < a
  · by_cases h1 : a ≤ m
    · go_enter Tryz.func24, Tryz.ntmps24
      go_wp2_with fail
      go_ret
      exact ⟨by rw [boundedL, if_pos ⟨h0, h1⟩]; rfl, rfl⟩
    · go_enter Tryz.func24, Tryz.ntmps24
      go_wp2_with fail
      go_ret
      exact ⟨by rw [boundedL, if_neg (by omega)]; rfl, rfl⟩
  · go_enter Tryz.func24, Tryz.ntmps24
    go_wp2_with fail
    go_ret
    exact ⟨by rw [boundedL, if_neg (by omega)]; rfl, rfl⟩

/-- A verdict. -/
def verdV (r n : Int) : Value := .agg #[.int .i64 r, .int .i64 n]
set_option maxRecDepth 100000 in
theorem malformed_any (n : Int) (w : World) : Calls Tryz.prog 83 #[.int .i64 n] w fun r w' => r = .returned (verdV 3 n) ∧ Below w.heap.size w w' := by
  have hb0 := vb_a (Below.refl w.heap.size w) (.cells #[.int .i64 0, .int .i64 0] 34)
  go_enter Tryz.func83, Tryz.ntmps83
  go_wp2_with fail
  refine bodyPost_ret (v := verdV 3 n) ?_ rfl ?_
  all_goals first | (exact ⟨rfl, (by with_reducible repeat (first | exact Below.refl _ _ | refine vb_s ?_ (by omega) _ | refine vb_a ?_ _))⟩) | (simp [results, Tryz.results83, go_sem, verdV])
set_option maxRecDepth 100000 in
theorem exceeded_any (n : Int) (w : World) : Calls Tryz.prog 26 #[.int .i64 n] w fun r w' => r = .returned (verdV 4 n) ∧ Below w.heap.size w w' := by
  have hb0 := vb_a (Below.refl w.heap.size w) (.cells #[.int .i64 0, .int .i64 0] 34)
  go_enter Tryz.func26, Tryz.ntmps26
  go_wp2_with fail
  refine bodyPost_ret (v := verdV 4 n) ?_ rfl ?_
  all_goals first | (exact ⟨rfl, (by with_reducible repeat (first | exact Below.refl _ _ | refine vb_s ?_ (by omega) _ | refine vb_a ?_ _))⟩) | (simp [results, Tryz.results26, go_sem, verdV])

/-- Is a token this one. -/
def isL (k : Int) (s : ByteArray) (f t : Int) (kind : Int) (text : ByteArray) : Bool := jeqT k s f t kind text f (wrap64 (f + (text.size : Int)))
def tkV (k : Int) (s : ByteArray) (f t : Int) : Value := .agg #[.int .i64 k, .string s, .int .i64 f, .int .i64 t]
set_option maxRecDepth 100000 in
theorem is_any (k : Int) (s : ByteArray) (f t : Int) (kind : Int) (text : ByteArray) (w : World) :
    Calls Tryz.prog 84 #[tkV k s f t, .int .i64 kind, .string text] w fun r w' => r = .returned (.bool (isL k s f t kind text)) ∧ Below w.heap.size w w' := by
  have hb0 := vb_a (Below.refl w.heap.size w) (.cells #[.int .i64 k, .string s, .int .i64 f, .int .i64 t] 50)
  have hq := jeqIn_tok k s f t kind text f (wrap64 (f + (text.size : Int)))
  unfold tkV
  go_enter Tryz.func84, Tryz.ntmps84
  go_wp2_with fail
  go_ret
  exact ⟨rfl, hb0⟩
set_option maxRecDepth 100000 in
theorem isSign_any (k : Int) (s : ByteArray) (f t : Int) (text : ByteArray) (w : World) :
    Calls Tryz.prog 53 #[tkV k s f t, .string text] w fun r w' => r = .returned (.bool (isL k s f t 4 text)) ∧ Below w.heap.size w w' := by
  have hb0 := vb_a (Below.refl w.heap.size w) (.cells #[.int .i64 k, .string s, .int .i64 f, .int .i64 t] 50)
  have c1 := fun w => is_any k s f t 4 text w
  unfold tkV at *
  go_enter Tryz.func53, Tryz.ntmps53
  go_wp2_with (go_at_call 84; refine (c1 _).mono ?_; rintro r w1 ⟨rfl, hb1⟩)
  go_ret
  exact ⟨rfl, vb_t hb0 hb1⟩
def wordL (k : Int) (s : ByteArray) (f t : Int) : Int := if isL k s f t 3 ⟨#[116, 114, 117, 101]⟩ = true then 2 else if isL k s f t 3 ⟨#[102, 97, 108, 115, 101]⟩ = true then 1 else 0
set_option maxRecDepth 100000 in
theorem wordKind_any (k : Int) (s : ByteArray) (f t : Int) (w : World) :
    Calls Tryz.prog 106 #[tkV k s f t] w fun r w' => r = .returned (.int .i64 (wordL k s f t)) ∧ Below w.heap.size w w' := by
  have hb0 := vb_a (Below.refl w.heap.size w) (.cells #[.int .i64 k, .string s, .int .i64 f, .int .i64 t] 50)
  have c1 := fun w => is_any k s f t 3 ⟨#[116, 114, 117, 101]⟩ w
  have c2 := fun w => is_any k s f t 3 ⟨#[102, 97, 108, 115, 101]⟩ w
  unfold wordL
  unfold tkV at *
  generalize isL k s f t 3 ⟨#[116, 114, 117, 101]⟩ = x at *
  generalize isL k s f t 3 ⟨#[102, 97, 108, 115, 101]⟩ = y at *
  cases x
  · cases y
    · go_enter Tryz.func106, Tryz.ntmps106
      go_wp2_with (first | (go_at_call_of 84 (Value.string ⟨#[116, 114, 117, 101]⟩); refine (c1 _).mono ?_; rintro r w1 ⟨rfl, hb1⟩; obtain ⟨q1, q2, q3, q4⟩ := keep4 hb1) | (go_at_call 84; refine (c2 _).mono ?_; rintro r w2 ⟨rfl, hb2⟩))
      go_ret
      exact ⟨rfl, vb_t (vb_t hb0 hb1) hb2⟩
    · go_enter Tryz.func106, Tryz.ntmps106
      go_wp2_with (first | (go_at_call_of 84 (Value.string ⟨#[116, 114, 117, 101]⟩); refine (c1 _).mono ?_; rintro r w1 ⟨rfl, hb1⟩; obtain ⟨q1, q2, q3, q4⟩ := keep4 hb1) | (go_at_call 84; refine (c2 _).mono ?_; rintro r w2 ⟨rfl, hb2⟩))
      go_ret
      exact ⟨rfl, vb_t (vb_t hb0 hb1) hb2⟩
  · go_enter Tryz.func106, Tryz.ntmps106
    go_wp2_with (first | (go_at_call_of 84 (Value.string ⟨#[116, 114, 117, 101]⟩); refine (c1 _).mono ?_; rintro r w1 ⟨rfl, hb1⟩))
    go_ret
    exact ⟨rfl, vb_t hb0 hb1⟩
end Go.Proofs.YtlahlnocjfphjaaGreatDoor
