/-
  Where the loop of json's first stands. Conditions: as J15's.
-/
import Derived.Test.YtlahlnocjfphjaaGreatDoorJoined37
namespace Go.Proofs.YtlahlnocjfphjaaGreatDoor
open Go.RowKit Go.Maps

def tokC (t : Lx.Tok) : Array Value := #[.int .i64 (t.kind : Int), .string ⟨t.text.toArray⟩, .int .i64 (t.fr : Int), .int .i64 (t.to : Int)]
def set4 (w : World) (c : Nat) (t : Lx.Tok) : World := (((w.setCell ⟨c, 0, none⟩ (.int .i64 (t.kind : Int))).setCell ⟨c, 1, none⟩ (.string ⟨t.text.toArray⟩)).setCell ⟨c, 2, none⟩ (.int .i64 (t.fr : Int))).setCell ⟨c, 3, none⟩ (.int .i64 (t.to : Int))
/-- Where first's loop stands. -/
structure FI [Ex] (W : World) (l : List UInt8) (v : Value) (lm : Nat → Int) (rb : Nat) (ov : Value) (hs : List HC) (w : World) (Z : Except Nat (JV × SS)) (k : Nat) (t' : Lx.Tok) (s' : SS) (ov' : Value) (hs' : List HC) (wr : World) : Prop where
  jr : JR W l v lm rb s' ov' hs' wr
  tb : Bj wr w.heap.size (tokC t')
  vb : Bj wr (w.heap.size + 1) zV7
  mv : Mv rb ov hs w ov' hs' wr
  bw : Below rb w wr
  eq : Z = firstS l (LMof lm) k t' s'
  kn : l.length < k + s'.i
  tl : t'.text.length ≤ l.length
  hn : hs'.length < s'.i
  ne : hs' ≠ [] ∨ ¬ (sgnB t' sgE = true ∨ sgnB t' sgF = true)
theorem JR.off [Ex] {W : World} {l : List UInt8} {v : Value} {lm : Nat → Int} {rb : Nat} {s : SS} {ov : Value} {hs : List HC} {w : World} (h : JR W l v lm rb s ov hs w) {b : Nat} (hE : Ex.E b) (hlt : rb < b) : ¬ wX rb ov hs b := by
  rintro (e | e)
  · omega
  · exact h.st.ex b e hE
theorem tokC_set {w : World} {c : Nat} {t : Lx.Tok} (h : Bj w c (tokC t)) (t1 : Lx.Tok) : Bj (set4 w c t1) c (tokC t1) :=
  (((h.set 0 _).set 1 _).set 2 _).set 3 _
/-- A token is taken into its box, and the loop goes on. -/
theorem FI.next [Ex] {W : World} {l : List UInt8} {v : Value} {lm : Nat → Int} {rb : Nat} {ov : Value} {hs : List HC} {w : World} {Z : Except Nat (JV × SS)} {k : Nat} {t' : Lx.Tok} {s' : SS} {ov' : Value} {hs' : List HC} {wr : World} (h : FI W l v lm rb ov hs w Z k t' s' ov' hs' wr) (hE0 : Ex.E w.heap.size) (hE1 : Ex.E (w.heap.size + 1)) (hcl : rb < w.heap.size)
    {Z1 : Except Nat (JV × SS)} {k1 : Nat} {t1 : Lx.Tok} {s1 : SS} {ov1 : Value} {hs1 : List HC} {w1 : World} (j1 : JR W l v lm rb s1 ov1 hs1 w1) (m1 : Mv rb ov' hs' wr ov1 hs1 w1) (b1 : Below rb wr w1) (e1 : Z1 = firstS l (LMof lm) k1 t1 s1) (n1 : l.length < k1 + s1.i) (l1 : t1.text.length ≤ l.length) (g1 : hs1.length < s1.i) (x1 : hs1 ≠ [] ∨ ¬ (sgnB t1 sgE = true ∨ sgnB t1 sgF = true)) :
    FI W l v lm rb ov hs w Z1 k1 t1 s1 ov1 hs1 (set4 w1 w.heap.size t1) := by
  have hb := set4_but w1 w.heap.size (.int .i64 (t1.kind : Int)) (.string ⟨t1.text.toArray⟩) (.int .i64 (t1.fr : Int)) (.int .i64 (t1.to : Int))
  refine ⟨j1.side1 hE0 hcl hb, tokC_set (h.tb.but m1.but (h.jr.off hE0 hcl)) t1, (h.vb.but m1.but (h.jr.off hE1 (by omega))).but hb (by omega), Mv.new (h.mv.trans m1) hb (Nat.le_refl _), (h.bw.trans b1).trans ⟨hb.os, hb.tape, hb.output, hb.size, fun i hi => hb.block i (by have := j1.rd.lt; omega) (by omega)⟩, e1, n1, l1, g1, x1⟩
theorem FI.bl [Ex] {W : World} {l : List UInt8} {v : Value} {lm : Nat → Int} {rb : Nat} {ov : Value} {hs : List HC} {w : World} {Z : Except Nat (JV × SS)} {k : Nat} {t' : Lx.Tok} {s' : SS} {ov' : Value} {hs' : List HC} {wr w1 : World} (h : FI W l v lm rb ov hs w Z k t' s' ov' hs' wr) (hb : Below wr.heap.size wr w1) : FI W l v lm rb ov hs w Z k t' s' ov' hs' w1 :=
  ⟨h.jr.bl hb, h.tb.bel hb, h.vb.bel hb, h.mv.bel hb, h.bw.trans (hb.mono (Nat.le_of_lt h.jr.rd.lt)), h.eq, h.kn, h.tl, h.hn, h.ne⟩
/-- What number was passed is set down. -/
theorem JR.psx [Ex] {W : World} {l : List UInt8} {v : Value} {lm : Nat → Int} {rb : Nat} {s : SS} {ov : Value} {hs : List HC} {w w' : World} (hJ : JR W l v lm rb s ov hs w) (hb : But (· = rb) w w') (p : Nat) (hr : Rd w' rb (RF v lm s.i ov s.dp p)) : JR W l v lm rb { s with ps := p } ov hs w' :=
  ⟨hr, hJ.st.rb hb, hJ.eq, hJ.sn, hJ.bel.trans ((but_rb hb hJ.rd.lt).mono hJ.lo), hJ.lo, hJ.le, hJ.n1, hJ.n2, hJ.n3⟩
theorem own_some {w : World} {B : Nat} {e : TypeId} {size : Nat} {v : Value} {n : Nat} {xs : List Value} (h : w.ownsRow B e size v n xs) (hn : 0 < n) : ∃ g cap, v = .slice (some ⟨g, 0, none⟩) n cap := by
  rcases h.2 with ⟨rfl, rfl⟩ | ⟨g, cap, cur, rfl, _⟩
  · omega
  · exact ⟨g, cap, rfl⟩
theorem vi_side {w w' : World} {X : Nat → Prop} {c : Nat} {x : JV} {f : Nat → Value} (h : VI w X x f) (hc : X c) (hb : But (· = c) w w') : VI w' X x f := h.carry fun b hb1 hlt => ⟨hb.block b hlt (fun e => hb1 (e ▸ hc)), hb1⟩
theorem vi_less {X : Ex} {w : World} {rb : Nat} {ov : Value} {hs : List HC} {B : Nat → Prop} {x : JV} {f : Nat → Value} (h : VI w (@mX (exAdd X B) rb ov hs) x f) : VI w (@mX X rb ov hs) x f := h.carry fun b hb1 _ => ⟨rfl, fun e => hb1 (by
  rcases e with e | e
  · exact Or.inl (Or.inl e)
  · exact Or.inr e)⟩
end Go.Proofs.YtlahlnocjfphjaaGreatDoor
