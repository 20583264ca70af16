/-
  What stands while a round of JsonPuts' first loop lets its rows grow: the rows, the value that was read, its box. No condition.
  What JsonPuts' second loop reads: three rows of values, a row of keys. No condition.
-/
import Derived.Test.YtjakgdaodlgeaaaGreatDoorJoined46
import Derived.Laws.IdiomStrings
namespace Go.Proofs.YtjakgdaodlgeaaaGreatDoor
open Go.RowKit Go.Maps

theorem judged_nil : judgedS [] (bm 0 0 0) = .error (3, 1) := by rfl
theorem judged_ne {l : List UInt8} {y : JV} (h : judgedS l (bm 0 0 0) = .ok y) : l ≠ [] := fun e => by
 subst e
 rw [judged_nil] at h
 cases h
structure TV (w0 : World) (vA vO vV : Value) (Ar Ob : List UInt8) (pvs : List PV) (x : JV) (f : Nat → Value) (X0 : Nat) (cs : Array Value) (w : World) : Prop where
 thr : Thr w0.heap.size vA vO vV Ar Ob pvs w
 vi : VI w (tX vA vO vV) x f
 bj : Bj w X0 cs
 nx : ¬ tX vA vO vV X0
 bel : Below w0.heap.size w0 w
theorem TV.bl {w0 : World} {vA vO vV : Value} {Ar Ob : List UInt8} {pvs : List PV} {x : JV} {f : Nat → Value} {X0 : Nat} {cs : Array Value} {w w' : World} (h : TV w0 vA vO vV Ar Ob pvs x f X0 cs w) (hb : Below w.heap.size w w') : TV w0 vA vO vV Ar Ob pvs x f X0 cs w' :=
 ⟨h.thr.bel hb, h.vi.kept hb, h.bj.bel hb, h.nx, vb_t h.bel hb⟩
theorem rown_new {B : Nat} {v v' : Value} {zs : List UInt8} {w w' : World} (h : RowN B v v' zs w w') : ∀ b, v'.ownBlock = some b → v.ownBlock = some b ∨ w.heap.size ≤ b := fun b e => by
 rcases h.2.2 with h4 | ⟨b', h4, h5⟩
 ·exact Or.inl (by rw [← h4]; exact e)
 ·rw [h4] at e; injection e with e; exact Or.inr (by omega)
theorem TV.arr {w0 : World} {vA vA' vO vV : Value} {Ar Ar' Ob : List UInt8} {pvs : List PV} {x : JV} {f : Nat → Value} {X0 : Nat} {cs : Array Value} {w w' : World} (h : TV w0 vA vO vV Ar Ob pvs x f X0 cs w) (hn : RowN w0.heap.size vA vA' Ar' w w') : TV w0 vA' vO vV Ar' Ob pvs x f X0 cs w' := by
 have hnew := rown_new hn
 have hlt := h.bj.lt
 refine ⟨h.thr.arr hn, h.vi.carry fun b hx hl => ⟨hn.2.1.block b hl (fun e => hx (Or.inl e.symm)), fun e => ?_⟩, h.bj.grown hn.2.1 (fun e => h.nx (Or.inl e)), fun e => ?_, h.bel.grown hn.2.1 h.bel.size (fun b e => (h.thr.ra.lt b e).1)⟩
 ·rcases e with e | e
  ·rcases hnew b e with e | e
   ·exact hx (Or.inl e)
   ·omega
  ·exact hx (Or.inr e)
 ·rcases e with e | e
  ·rcases hnew X0 e with e | e
   ·exact h.nx (Or.inl e)
   ·omega
  ·exact h.nx (Or.inr e)
theorem TV.obj {w0 : World} {vA vO vO' vV : Value} {Ar Ob Ob' : List UInt8} {pvs : List PV} {x : JV} {f : Nat → Value} {X0 : Nat} {cs : Array Value} {w w' : World} (h : TV w0 vA vO vV Ar Ob pvs x f X0 cs w) (hn : RowN w0.heap.size vO vO' Ob' w w') : TV w0 vA vO' vV Ar Ob' pvs x f X0 cs w' := by
 have hnew := rown_new hn
 have hlt := h.bj.lt
 refine ⟨h.thr.obj hn, h.vi.carry fun b hx hl => ⟨hn.2.1.block b hl (fun e => hx (Or.inr (Or.inl e.symm))), fun e => ?_⟩, h.bj.grown hn.2.1 (fun e => h.nx (Or.inr (Or.inl e))), fun e => ?_, h.bel.grown hn.2.1 h.bel.size (fun b e => (h.thr.ro.lt b e).1)⟩
 ·rcases e with e | e | e
  ·exact hx (Or.inl e)
  ·rcases hnew b e with e | e
   ·exact hx (Or.inr (Or.inl e))
   ·omega
  ·exact hx (Or.inr (Or.inr e))
 ·rcases e with e | e | e
  ·exact h.nx (Or.inl e)
  ·rcases hnew X0 e with e | e
   ·exact h.nx (Or.inr (Or.inl e))
   ·omega
  ·exact h.nx (Or.inr (Or.inr e))
theorem TV.start {w : World} {ls : List (List UInt8)} {i : Nat} {vA vO vV : Value} {pvs : List PV} {wr w1 A1 : World} {x : JV} {f : Nat → Value} {cs : Array Value} (h : PU w ls i vA vO vV pvs wr) (hb : Below wr.heap.size wr w1) (hs : Below w1.heap.size w1 A1) (hv : VI w1 (· < wr.heap.size) x f) (hj : Bj A1 w1.heap.size cs) :
  TV w vA vO vV (ArT ls i) (ObT ls i) pvs x f w1.heap.size cs A1 :=
 ⟨h.thr.bel (vb_t hb hs), (h.thr.new hv).kept hs, hj, fun e => by
  have hz := hb.size
  rcases e with e | e | e
  ·have := (h.thr.ra.lt _ e).2; omega
  ·have := (h.thr.ro.lt _ e).2; omega
  ·have := (h.thr.row.lt _ e).2; omega, vb_t h.bel (vb_t hb hs)⟩
theorem rest_bel {w0 w w' : World} {vV : Value} {n : Nat} {xs : List Value} {e : TypeId} {sz : Nat} (hb : Below w0.heap.size w0 w) (ho : w.ownsRow w0.heap.size e sz vV n xs) (hg : w.grownBy w' vV.ownBlock) : Below w0.heap.size w0 w' := hb.grown hg hb.size (fun b hb => (ho.lt b hb).1)
theorem byt_bj {w : World} {b : Nat} {l : List UInt8} (h : Bj w b (Lx.cellsL l).toArray) (hl : l.length ≤ maxLen) : Lx.Byt w (.slice (some ⟨b, 0, none⟩) l.length l.length) l := by
 refine .inr ⟨b, 0, l.length, rfl, Nat.le_refl _, hl, ⟨fun j hj => ?_, Lx.bx_lo _, Lx.bx_hi _⟩⟩
 rw [Nat.zero_add, h.cell j]
 simp [Lx.cellsL, Lx.bx, hj]
theorem kyT_cells (i : Nat) (hi : i < 30) : Lx.cellsL (kyT i) = [.int .u8 34, .int .u8 ((97 + i / 26 : Nat) : Int), .int .u8 ((97 + i % 26 : Nat) : Int), .int .u8 34, .int .u8 58] := by
 have h1 : (UInt8.ofNat (97 + i / 26)).toNat = 97 + i / 26 := UInt8.toNat_ofNat_of_lt' (by show _ < 256; omega)
 have h2 : (UInt8.ofNat (97 + i % 26)).toNat = 97 + i % 26 := UInt8.toNat_ofNat_of_lt' (by show _ < 256; omega)
 simp only [Lx.cellsL, kyT, kyA, kyB, List.map_cons, List.map_nil, h1, h2]
 rfl
theorem byt_ky {w : World} {b i qa qb : Nat} (hi : i < 30) (ha : qa = 97 + i / 26) (hb : qb = 97 + i % 26) (h : Bj w b #[.int .u8 34, .int .u8 (qa : Int), .int .u8 (qb : Int), .int .u8 34, .int .u8 58]) : Lx.Byt w (.slice (some ⟨b, 0, none⟩) 5 5) (kyT i) := by
 subst ha hb
 have e : (Lx.cellsL (kyT i)).toArray = #[.int .u8 34, .int .u8 ((97 + i / 26 : Nat) : Int), .int .u8 ((97 + i % 26 : Nat) : Int), .int .u8 34, .int .u8 58] := by rw [kyT_cells i hi]
 exact byt_bj (l := kyT i) (by rw [e]; exact h) (by unfold maxLen; simp [kyT])
theorem ky_num (i : Nat) (hi : i < 30) : ∃ qa qb : Nat, qa = 97 + i / 26 ∧ qb = 97 + i % 26 ∧ IntKind.u8.wrap (IntKind.i64.wrap (97 + IntKind.i64.wrap ((i : Int) / 26))) = (qa : Int) ∧ IntKind.u8.wrap (IntKind.i64.wrap (97 + (i : Int).tmod 26)) = (qb : Int) := by
 refine ⟨_, _, rfl, rfl, ?_, ?_⟩
 ·simp [IntKind.wrap, IntKind.bits, IntKind.signed]; omega
 ·rw [show (i : Int).tmod 26 = ((i % 26 : Nat) : Int) from by rw [Int.tmod_eq_emod_of_nonneg (by omega)]; omega]
  simp [IntKind.wrap, IntKind.bits, IntKind.signed]; omega
end Go.Proofs.YtjakgdaodlgeaaaGreatDoor

namespace Go.Proofs.YtjakgdaodlgeaaaGreatDoor
open Go.RowKit Go.Maps

def RV (w : World) (us : List JV) (ao : Option Addr) (G : Nat → Nat → Value) : Prop :=
 (us = [] ∨ ∃ b off, ao = some ⟨b, off, none⟩ ∧ b < w.heap.size ∧ ∀ i, i < us.length → ∀ j, j < 7 → w.cell? ⟨b, off + i * 7 + j, none⟩ = some (G i j)) ∧ ∀ i (h : i < us.length), VI w (fun _ => False) us[i] (G i)
theorem RV.bel {w w' : World} {us : List JV} {ao : Option Addr} {G : Nat → Nat → Value} (h : RV w us ao G) (hb : Below w.heap.size w w') : RV w' us ao G := by
 refine ⟨?_, fun i hi => (h.2 i hi).kept hb⟩
 rcases h.1 with e | ⟨b, off, e, hl, hc⟩
 ·exact Or.inl e
 ·exact Or.inr ⟨b, off, e, Nat.lt_of_lt_of_le hl hb.size, fun i hi j hj => (hb.cell (p := ⟨b, off + i * 7 + j, none⟩) hl).trans (hc i hi j hj)⟩
theorem VI.noX {w : World} {X : Nat → Prop} {x : JV} {f : Nat → Value} (h : VI w X x f) : VI w (fun _ => False) x f := h.carry fun _ _ _ => ⟨rfl, id⟩
theorem thr_rv {B : Nat} {vA vO vV : Value} {Ar Ob : List UInt8} {pvs : List PV} {w : World} (h : Thr B vA vO vV Ar Ob pvs w) : ∃ ao cap G, vV = .slice ao pvs.length cap ∧ RV w (pvs.map (·.1)) ao G := by
 obtain ⟨ao, cap, e, h1, h2⟩ := own_shape h.row
 refine ⟨ao, cap, fun i j => match pvs[i]? with | some p => p.2 j | none => .bool false, e, ?_, fun i hi => ?_⟩
 ·by_cases hn : pvs = []
  ·exact Or.inl (by rw [hn]; rfl)
  ·have hr := h.row
   subst e
   rcases hr.2 with ⟨_, hz⟩ | ⟨g, cap', cur, e, _, hg, _⟩
   ·exact absurd (List.eq_nil_of_length_eq_zero hz) hn
   ·injection e with e1 e2 e3
    subst e1
    refine Or.inr ⟨g, 0, rfl, (hr.lt g rfl).2, fun i hi j hj => ?_⟩
    rw [List.length_map] at hi
    rw [Nat.zero_add, own_cell hr _ _ (flat7_at pvs i j hi hj)]
    simp [List.getElem?_eq_getElem hi]
 ·rw [List.length_map] at hi
  have := (h.vis pvs[i] (List.getElem_mem hi)).noX
  rw [List.getElem_map]
  simpa [List.getElem?_eq_getElem hi] using this
theorem vi_rv {w : World} {X : Nat → Prop} {k : Int} {n : Bool} {g : ByteArray} {e : Int} {t : ByteArray} {l : List JV} {ks : List ByteArray} {f : Nat → Value} (h : VI w X (.mk k n g e t l ks) f) :
  ∃ (ao : Option Addr) (cap : Nat) (ko : Option Addr) (kc : Nat) (G : Nat → Nat → Value), va f = .agg #[.int .i64 k, .bool n, .string g, .int .i64 e, .string t, .slice ao l.length cap, .slice ko ks.length kc] ∧ RV w l ao G ∧
   (ks = [] ∨ ∃ b off, ko = some ⟨b, off, none⟩ ∧ b < w.heap.size ∧ ∀ i (h : i < ks.length), w.cell? ⟨b, off + i, none⟩ = some (.string ks[i])) := by
 obtain ⟨ao, cap, ko, kc, G, h1, _, _, h4, h5, h6⟩ := h.open
 exact ⟨ao, cap, ko, kc, G, h1, ⟨h5, fun i hi => (h4 i hi).noX⟩, h6⟩
theorem vi_rv_of {w : World} {X : Nat → Prop} {k : Int} {n : Bool} {g : ByteArray} {e : Int} {t : ByteArray} {l : List JV} {ks : List ByteArray} {f : Nat → Value} (h : VI w X (.mk k n g e t l ks) f) {ao ko : Option Addr} {L M cap kc : Nat} (hl : va f = .agg #[.int .i64 k, .bool n, .string g, .int .i64 e, .string t, .slice ao L cap, .slice ko M kc]) :
  ∃ G : Nat → Nat → Value, RV w l ao G ∧ (ks = [] ∨ ∃ b off, ko = some ⟨b, off, none⟩ ∧ b < w.heap.size ∧ ∀ i (h : i < ks.length), w.cell? ⟨b, off + i, none⟩ = some (.string ks[i])) := by
 obtain ⟨ao', cap', ko', kc', G, h1, h2, h3⟩ := vi_rv h
 rw [hl] at h1
 simp only [Value.agg.injEq, Array.mk.injEq, List.cons.injEq, Value.slice.injEq, true_and, and_true] at h1
 obtain ⟨⟨rfl, _, _⟩, ⟨rfl, _, _⟩⟩ := h1
 exact ⟨G, h2, h3⟩
theorem RV.at {w : World} {us : List JV} {ao : Option Addr} {G : Nat → Nat → Value} (h : RV w us ao G) {i : Nat} (hi : i < us.length) : ∃ b off, ao = some ⟨b, off, none⟩ ∧
  ∀ w', Below w.heap.size w w' → w'.cell? ⟨b, off + i * 7, none⟩ = some (G i 0) ∧ w'.cell? ⟨b, off + i * 7 + 1, none⟩ = some (G i 1) ∧ w'.cell? ⟨b, off + i * 7 + 2, none⟩ = some (G i 2) ∧ w'.cell? ⟨b, off + i * 7 + 3, none⟩ = some (G i 3) ∧ w'.cell? ⟨b, off + i * 7 + 4, none⟩ = some (G i 4) ∧ w'.cell? ⟨b, off + i * 7 + 5, none⟩ = some (G i 5) ∧ w'.cell? ⟨b, off + i * 7 + 6, none⟩ = some (G i 6) := by
 obtain ⟨h1, h2⟩ := h
 obtain ⟨b, off, e, hl, hc⟩ := h1.resolve_left (fun e => by rw [e] at hi; simp at hi)
 have key : ∀ w', Below w.heap.size w w' → ∀ j, j < 7 → w'.cell? ⟨b, off + i * 7 + j, none⟩ = some (G i j) := fun w' hb j hj => (hb.cell (p := ⟨b, off + i * 7 + j, none⟩) hl).trans (hc i hi j hj)
 exact ⟨b, off, e, fun w' hb => ⟨key w' hb 0 (by decide), key w' hb 1 (by decide), key w' hb 2 (by decide), key w' hb 3 (by decide), key w' hb 4 (by decide), key w' hb 5 (by decide), key w' hb 6 (by decide)⟩⟩
theorem conv_ky (X : World) (n i b qa qb : Nat) (hi : i < 30) (ha : qa = 97 + i / 26) (hb : qb = 97 + i % 26) (hX : X.heap.size = b) : (convert 22 9 (.slice (some ⟨b, 0, none⟩) 2 2)).run Tryz.prog ((X.alloc (.cells #[.int .u8 (qa : Int), .int .u8 (qb : Int)] 5)).drewN n) = .ok (.string (kyS i)) ((X.alloc (.cells #[.int .u8 (qa : Int), .int .u8 (qb : Int)] 5)).drewN n) := by
 subst ha hb hX
 refine run_convert_bytes_back (P := Tryz.prog) _ 22 9 5 ⟨X.heap.size, 0, none⟩ 2 [kyA i, kyB i] Tryz.underlying22 Tryz.underlying5 Tryz.underlying9 (fun j hj => ?_)
 rw [addZ, World.cell?_drewN, (Bj.new X _ _).cell j]
 match j, hj with
 | 0, _ => simp [kyA]; omega
 | 1, _ => simp [kyB]; omega
theorem bj_row7 {w : World} {b : Nat} {x0 x1 x2 x3 x4 x5 x6 : Value} (h : Bj w b #[x0, x1, x2, x3, x4, x5, x6]) : ∀ j u, [x0, x1, x2, x3, x4, x5, x6][j]? = some u → w.cell? ((⟨b, 0, none⟩ : Addr).add j) = some u := fun j u hj => by
 rw [addZ, h.cell j]
 simpa using hj
theorem one7 (k : Int) (n : Bool) (g : ByteArray) (e : Int) (t : ByteArray) (a1 a2 : Option Addr) (n1 c1 n2 c2 : Nat) : ∀ u ∈ [Value.int .i64 k, .bool n, .string g, .int .i64 e, .string t, .slice a1 n1 c1, .slice a2 n2 c2], u.oneCell' = true := fun u hu => by
 simp only [List.mem_cons, List.not_mem_nil, or_false] at hu
 rcases hu with rfl | rfl | rfl | rfl | rfl | rfl | rfl <;> rfl
theorem PU.fin {w : World} {ls : List (List UInt8)} {i : Nat} {vA vO vV vA' vO' vV' : Value} {pvs : List PV} {wr X w8 : World} {x : JV} {f : Nat → Value} {X0 : Nat} {cs : Array Value} {Ar Ob : List UInt8} (h : PU w ls i vA vO vV pvs wr) (hi : i < ls.length) (hi30 : i < 30) (hj : judgedS ls[i] (bm 0 0 0) = .ok x) (hd : dN x ≤ 9000) (hz : ls[i].length ≤ 10000)
  (hT : TV w vA' vO' vV Ar Ob pvs x f X0 cs X) (eA : Ar = (ArT ls i ++ cmT i) ++ ls[i]) (eO : Ob = ((ObT ls i ++ cmT i) ++ kyT i) ++ ls[i]) {news : List Value} (hs : seven f = news) (ho : w8.ownsRow w.heap.size 31 7 vV' (pvs.length + 1) (flat7 pvs ++ news)) (hg : X.grownBy w8 vV.ownBlock) (h4 : vV'.ownBlock = vV.ownBlock ∨ vV'.ownBlock = some X.heap.size) :
  PU w ls (i + 1) vA' vO' vV' (pvs ++ [(x, f)]) w8 := by
 subst eA eO hs
 exact h.step hi hi30 hj hd hz (hT.thr.val hT.vi ho hg h4) (rest_bel hT.bel hT.thr.row hg)
theorem byt_lit1 (w : World) (c : UInt8) (x : Int) (hx : (c.toNat : Int) = x) (T : TypeId) : Lx.Byt (w.alloc (.cells #[.int .u8 x] T)) (.slice (some ⟨w.heap.size, 0, none⟩) 1 1) [c] := by
 subst hx
 exact byt_bj (l := [c]) (Bj.new w _ _) (by unfold maxLen; simp)
end Go.Proofs.YtjakgdaodlgeaaaGreatDoor
