/-
  Values as trees, and that a tree lies in a world: cells of seven, rows of them, rows of keys. No condition.
  What value.holdsOthers, value.Size, value.Depth and their like of the reference answer. No condition.
  The small functions of package json: bounded, malformed, exceeded, is, isSign, wordKind, digitsAhead. No condition.
  Digits as lists of bytes: the number that they are, how they compare, and what a text of a number is read as. No condition.
  What a text is read as: its parts, its number, or why it is none; and that a number's text is read as it. No condition.
-/
import Derived.Test.YtjakgdaodlgeaaaGreatDoorProg
import Derived.WalkKit
import Derived.Below
import Derived.ProofKit
import Derived.Deep.Strs
import Derived.WalkSpells
import Derived.WalkLawsBesides
import Derived.Deep.QuietTactic
import Derived.BigQuiet
import Derived.Deep.RegionWith
import Derived.Deep.LoopGhost
import Derived.Lib.SlBytesConst
import Derived.Lib.Bytealg
import Derived.Lib.Strings
import Derived.Lib.TrimByte
import Derived.Lib.ItoaNum
import Derived.Lib.Small
namespace Go.Proofs.YtjakgdaodlgeaaaGreatDoor
open Go.ChangeShapes Go.WideShapes Go.Deep Go.RowKit

inductive JV where
 | mk (k : Int) (n : Bool) (g : ByteArray) (e : Int) (t : ByteArray) (l : List JV) (ks : List ByteArray)
def JV.kind : JV → Int | .mk k _ _ _ _ _ _ => k
def JV.list : JV → List JV | .mk _ _ _ _ _ l _ => l
def JV.keys : JV → List ByteArray | .mk _ _ _ _ _ _ ks => ks
def JV.text : JV → ByteArray | .mk _ _ _ _ t _ _ => t
theorem JV.ind {P : JV → Prop} (h : ∀ k n g e t l ks, (∀ v ∈ l, P v) → P (.mk k n g e t l ks)) : ∀ v, P v
 | .mk k n g e t l ks => h k n g e t l ks (fun v _ => JV.ind h v)
def SI (w : World) (X : Nat → Prop) (ks : List ByteArray) (v : Value) : Prop :=
 ∃ ao cap, v = .slice ao ks.length cap ∧ ks.length ≤ cap ∧ cap ≤ maxLen ∧ (∀ s ∈ ks, s.size ≤ maxLen) ∧
  (ks = [] ∨ ∃ b off, ao = some ⟨b, off, none⟩ ∧ ¬ X b ∧ ∀ i (h : i < ks.length), w.cell? ⟨b, off + i, none⟩ = some (.string ks[i]))
inductive VI (w : World) (X : Nat → Prop) : JV → (Nat → Value) → Prop
 | mk {k : Int} {n : Bool} {g : ByteArray} {e : Int} {t : ByteArray} {l : List JV} {ks : List ByteArray} {f : Nat → Value} (ao : Option Addr) (cap : Nat) (G : Nat → Nat → Value)
  (f0 : f 0 = .int .i64 k) (f1 : f 1 = .bool n) (f2 : f 2 = .string g) (f3 : f 3 = .int .i64 e) (f4 : f 4 = .string t) (f5 : f 5 = .slice ao l.length cap) (f6 : SI w X ks (f 6))
  (hc : l.length ≤ cap ∧ cap ≤ maxLen) (hs : g.size ≤ maxLen ∧ t.size ≤ maxLen) (hw : (Lit.int .i64 k).wf = true ∧ (Lit.int .i64 e).wf = true)
  (hl : l = [] ∨ ∃ b off, ao = some ⟨b, off, none⟩ ∧ ¬ X b ∧ ∀ i, i < l.length → ∀ j, j < 7 → w.cell? ⟨b, off + i * 7 + j, none⟩ = some (G i j))
  (hr : ∀ i (h : i < l.length), VI w X l[i] (G i)) : VI w X (.mk k n g e t l ks) f
def va (f : Nat → Value) : Value := .agg #[f 0, f 1, f 2, f 3, f 4, f 5, f 6]
theorem SI.carry {w w' : World} {X X' : Nat → Prop} {ks : List ByteArray} {v : Value} (h : SI w X ks v) (hX : ∀ b, ¬ X b → b < w.heap.size → w'.heap[b]? = w.heap[b]? ∧ ¬ X' b) : SI w' X' ks v := by
 obtain ⟨ao, cap, e, h1, h2, h3, h4⟩ := h
 refine ⟨ao, cap, e, h1, h2, h3, ?_⟩
 rcases h4 with h4 | ⟨b, off, h5, h6, h7⟩
 ·exact Or.inl h4
 ·by_cases hk : ks = []
  ·exact Or.inl hk
  have h0 : 0 < ks.length := List.length_pos_iff.2 hk
  have hb : b < w.heap.size := World.block_lt_of_cell? w _ (h7 0 h0)
  have hx := hX b h6 hb
  exact Or.inr ⟨b, off, h5, hx.2, fun i hi => (World.cell?_of_block (w := w) (w' := w') hx.1).trans (h7 i hi)⟩
theorem VI.carry {w w' : World} {X X' : Nat → Prop} {v : JV} {f : Nat → Value} (h : VI w X v f) (hX : ∀ b, ¬ X b → b < w.heap.size → w'.heap[b]? = w.heap[b]? ∧ ¬ X' b) : VI w' X' v f := by
 induction h with
 | mk ao cap G f0 f1 f2 f3 f4 f5 f6 hc hs hw hl hr ih =>
  refine VI.mk ao cap G f0 f1 f2 f3 f4 f5 (f6.carry hX) hc hs hw ?_ ih
  rcases hl with h4 | ⟨b, off, h5, h6, h7⟩
  ·exact Or.inl h4
  ·rename_i l _ _
   by_cases hk : l = []
   ·exact Or.inl hk
   have h0 : 0 < l.length := List.length_pos_iff.2 hk
   have hb : b < w.heap.size := World.block_lt_of_cell? w _ (h7 0 h0 0 (by omega))
   have hx := hX b h6 hb
   exact Or.inr ⟨b, off, h5, hx.2, fun i hi j hj => (World.cell?_of_block (w := w) (w' := w') hx.1).trans (h7 i hi j hj)⟩
theorem VI.kept {w w' : World} {X : Nat → Prop} {v : JV} {f : Nat → Value} (h : VI w X v f) (hb : Below w.heap.size w w') : VI w' X v f :=
 h.carry fun b hx hlt => ⟨hb.block b hlt, hx⟩
end Go.Proofs.YtjakgdaodlgeaaaGreatDoor

namespace Go.Proofs.YtjakgdaodlgeaaaGreatDoor
open Go.RowKit
theorem vb_a {a w : World} (h : Below a.heap.size a w) (o : Obj) : Below a.heap.size a (w.alloc o) := h.alloc h.size o
theorem vb_t {a w w2 : World} (h : Below a.heap.size a w) (h2 : Below w.heap.size w w2) : Below a.heap.size a w2 := h.trans (h2.mono h.size)
mutual
/-- How many values, as Go counts. -/
def sizeV : JV → Int
 | .mk _ _ _ _ _ l _ => sizeL l 1
def sizeL : List JV → Int → Int
 | [], a => a
 | v :: l, a => sizeL l (wrap64 (a + sizeV v))
end

theorem VI.open {w : World} {X : Nat → Prop} {k : Int} {n : Bool} {g : ByteArray} {e : Int} {t : ByteArray} {l : List JV} {ks : List ByteArray} {f : Nat → Value} (h : VI w X (.mk k n g e t l ks) f) :
  ∃ (ao : Option Addr) (cap : Nat) (ko : Option Addr) (kc : Nat) (G : Nat → Nat → Value), va f = .agg #[.int .i64 k, .bool n, .string g, .int .i64 e, .string t, .slice ao l.length cap, .slice ko ks.length kc] ∧
   l.length ≤ maxLen ∧ ks.length ≤ maxLen ∧ (∀ i (h : i < l.length), VI w X l[i] (G i)) ∧
   (l = [] ∨ ∃ b off, ao = some ⟨b, off, none⟩ ∧ b < w.heap.size ∧ ∀ i, i < l.length → ∀ j, j < 7 → w.cell? ⟨b, off + i * 7 + j, none⟩ = some (G i j)) ∧
   (ks = [] ∨ ∃ b off, ko = some ⟨b, off, none⟩ ∧ b < w.heap.size ∧ ∀ i (h : i < ks.length), w.cell? ⟨b, off + i, none⟩ = some (.string ks[i])) := by
 cases h with
 | mk ao cap G f0 f1 f2 f3 f4 f5 f6 hc hs hw hl hr =>
 obtain ⟨ko, kc, e6, k1, k2, _, k4⟩ := f6
 refine ⟨ao, cap, ko, kc, G, by simp only [va, f0, f1, f2, f3, f4, f5, e6], by omega, by omega, hr, ?_, ?_⟩
 ·rcases hl with h | ⟨b, off, h1, _, h2⟩
  ·exact Or.inl h
  ·by_cases hk : l = []
   ·exact Or.inl hk
   exact Or.inr ⟨b, off, h1, World.block_lt_of_cell? w _ (h2 0 (List.length_pos_iff.2 hk) 0 (by omega)), h2⟩
 ·rcases k4 with h | ⟨b, off, h1, _, h2⟩
  ·exact Or.inl h
  ·by_cases hk : ks = []
   ·exact Or.inl hk
   exact Or.inr ⟨b, off, h1, World.block_lt_of_cell? w _ (h2 0 (List.length_pos_iff.2 hk)), h2⟩
def rholds (k : Int) : Bool := !decide (k < 5)
mutual
/-- How deep a value is, by which kinds hold others. -/
def depthV (c : Int → Bool) : JV → Int
 | .mk k _ _ _ _ l _ => if c k = true then wrap64 (depthL c l 0 + 1) else 0
def depthL (c : Int → Bool) : List JV → Int → Int
 | [], a => a
 | v :: l, a => depthL c l (max a (depthV c v))
end

end Go.Proofs.YtjakgdaodlgeaaaGreatDoor

namespace Go.Proofs.YtjakgdaodlgeaaaGreatDoor
open Go.RowKit

theorem vb_s {a w : World} (h : Below a.heap.size a w) {b o : Nat} (hb : a.heap.size ≤ b) (v : Value) : Below a.heap.size a (w.setCell ⟨b, o, none⟩ v) := h.setCell hb v
theorem keep4 {w w1 : World} {a b c d : Value} {ty : TypeId} (h : Below (w.alloc (.cells #[a, b, c, d] ty)).heap.size (w.alloc (.cells #[a, b, c, d] ty)) w1) :
  w1.cell? ⟨w.heap.size, 0, none⟩ = some a ∧ w1.cell? ⟨w.heap.size, 1, none⟩ = some b ∧ w1.cell? ⟨w.heap.size, 2, none⟩ = some c ∧ w1.cell? ⟨w.heap.size, 3, none⟩ = some d := by
 refine ⟨(h.cell (by simp)).trans (by simp), (h.cell (by simp)).trans (by simp), (h.cell (by simp)).trans (by simp), (h.cell (by simp)).trans (by simp)⟩
def jeqT (a : Int) (s : ByteArray) (e g : Int) (b : Int) (t : ByteArray) (f h : Int) : Bool := decide (a = b ∧ s = t ∧ e = f ∧ g = h)
theorem jeq_bytes (s t : ByteArray) : (s.toList == t.toList) = decide (s = t) := by
 rw [← beq_toListBytes]
 obtain ⟨⟨x⟩⟩ := s
 obtain ⟨⟨y⟩⟩ := t
 show ((⟨x⟩ : Array UInt8) == ⟨y⟩) = _
 by_cases h : x = y
 ·subst h; simp
 ·rw [decide_eq_false (fun e => h (by simpa using e))]; simpa using h
theorem jeqIn_tok (a : Int) (s : ByteArray) (e g : Int) (b : Int) (t : ByteArray) (f h : Int) (w : World) :
  (Op.equalIn 10000 50 (.agg #[.int .i64 a, .string s, .int .i64 e, .int .i64 g]) (.agg #[.int .i64 b, .string t, .int .i64 f, .int .i64 h])).run Tryz.prog w = .ok (jeqT a s e g b t f h) w := by
 have u3 := Tryz.underlying3
 have u4 := Tryz.underlying48
 have u9 := Tryz.underlying9
 have a3 := Tryz.isAgg3
 have a4 := Tryz.isAgg48
 have a9 := Tryz.isAgg9
 have z3 := Tryz.sizeOf3
 have z4 := Tryz.sizeOf48
 have z9 := Tryz.sizeOf9
 have hS : Tryz.prog.underlying 50 = some (.struct (Tryz.prog.fieldsOf 50)) := by kernel_rfl
 have hp : Tryz.prog.stoodInHeld 50 = false := by kernel_rfl
 rw [show (10000 : Nat) = 9999 + 1 from rfl, run_equalIn_agg w 9999 50 _ _ hS hp]
 simp only [Program.fieldsOf, Tryz.underlying50]
 go_simp
 have hl : (s.toList = t.toList) ↔ s = t := by
  have := jeq_bytes s t
  rw [Bool.eq_iff_iff] at this
  simpa using this
 unfold jeqT
 by_cases h1 : a = b <;> by_cases h2 : s = t <;> by_cases h3 : e = f <;> by_cases h4 : g = h <;> simp [h1, h2, h3, h4, hl]
def boundedL (a m : Int) : Int := if 0 < a ∧ a ≤ m then a else m
set_option maxRecDepth 100000 in
theorem bounded_any (a m : Int) (w : World) : Calls Tryz.prog 24 #[.int .i64 a, .int .i64 m] w fun r w' => r = .returned (.int .i64 (boundedL a m)) ∧ w' = w := by
 by_cases h0 : 0 < a
 ·by_cases h1 : a ≤ m
  ·go_enter Tryz.func24, Tryz.ntmps24
   go_wp2_with fail
   go_ret
   exact ⟨by rw [boundedL, if_pos ⟨h0, h1⟩]; rfl, rfl⟩
  ·go_enter Tryz.func24, Tryz.ntmps24
   go_wp2_with fail
   go_ret
   exact ⟨by rw [boundedL, if_neg (by omega)]; rfl, rfl⟩
 ·go_enter Tryz.func24, Tryz.ntmps24
  go_wp2_with fail
  go_ret
  exact ⟨by rw [boundedL, if_neg (by omega)]; rfl, rfl⟩
def verdV (r n : Int) : Value := .agg #[.int .i64 r, .int .i64 n]
set_option maxRecDepth 100000 in
theorem malformed_any (n : Int) (w : World) : Calls Tryz.prog 83 #[.int .i64 n] w fun r w' => r = .returned (verdV 3 n) ∧ Below w.heap.size w w' := by
 have hb0 := vb_a (Below.refl w.heap.size w) (.cells #[.int .i64 0, .int .i64 0] 34)
 go_enter Tryz.func83, Tryz.ntmps83
 go_wp2_with fail
 refine bodyPost_ret (v := verdV 3 n) ?_ rfl ?_
 all_goals first | (exact ⟨rfl, (by with_reducible repeat (first | exact Below.refl _ _ | refine vb_s ?_ (by omega) _ | refine vb_a ?_ _))⟩) | (simp [results, Tryz.results83, go_sem, verdV])
set_option maxRecDepth 100000 in
theorem exceeded_any (n : Int) (w : World) : Calls Tryz.prog 26 #[.int .i64 n] w fun r w' => r = .returned (verdV 4 n) ∧ Below w.heap.size w w' := by
 have hb0 := vb_a (Below.refl w.heap.size w) (.cells #[.int .i64 0, .int .i64 0] 34)
 go_enter Tryz.func26, Tryz.ntmps26
 go_wp2_with fail
 refine bodyPost_ret (v := verdV 4 n) ?_ rfl ?_
 all_goals first | (exact ⟨rfl, (by with_reducible repeat (first | exact Below.refl _ _ | refine vb_s ?_ (by omega) _ | refine vb_a ?_ _))⟩) | (simp [results, Tryz.results26, go_sem, verdV])
def isL (k : Int) (s : ByteArray) (f t : Int) (kind : Int) (text : ByteArray) : Bool := jeqT k s f t kind text f (wrap64 (f + (text.size : Int)))
def tkV (k : Int) (s : ByteArray) (f t : Int) : Value := .agg #[.int .i64 k, .string s, .int .i64 f, .int .i64 t]
set_option maxRecDepth 100000 in
theorem is_any (k : Int) (s : ByteArray) (f t : Int) (kind : Int) (text : ByteArray) (w : World) :
  Calls Tryz.prog 84 #[tkV k s f t, .int .i64 kind, .string text] w fun r w' => r = .returned (.bool (isL k s f t kind text)) ∧ Below w.heap.size w w' := by
 have hb0 := vb_a (Below.refl w.heap.size w) (.cells #[.int .i64 k, .string s, .int .i64 f, .int .i64 t] 50)
 have hq := jeqIn_tok k s f t kind text f (wrap64 (f + (text.size : Int)))
 unfold tkV
 go_enter Tryz.func84, Tryz.ntmps84
 go_wp2_with fail
 go_ret
 exact ⟨rfl, hb0⟩
set_option maxRecDepth 100000 in
theorem isSign_any (k : Int) (s : ByteArray) (f t : Int) (text : ByteArray) (w : World) :
  Calls Tryz.prog 53 #[tkV k s f t, .string text] w fun r w' => r = .returned (.bool (isL k s f t 4 text)) ∧ Below w.heap.size w w' := by
 have hb0 := vb_a (Below.refl w.heap.size w) (.cells #[.int .i64 k, .string s, .int .i64 f, .int .i64 t] 50)
 have c1 := fun w => is_any k s f t 4 text w
 unfold tkV at *
 go_enter Tryz.func53, Tryz.ntmps53
 go_wp2_with (go_at_call 84; refine (c1 _).mono ?_; rintro r w1 ⟨rfl, hb1⟩)
 go_ret
 exact ⟨rfl, vb_t hb0 hb1⟩
def wordL (k : Int) (s : ByteArray) (f t : Int) : Int := if isL k s f t 3 ⟨#[116, 114, 117, 101]⟩ = true then 2 else if isL k s f t 3 ⟨#[102, 97, 108, 115, 101]⟩ = true then 1 else 0
set_option maxRecDepth 100000 in
theorem wordKind_any (k : Int) (s : ByteArray) (f t : Int) (w : World) :
  Calls Tryz.prog 106 #[tkV k s f t] w fun r w' => r = .returned (.int .i64 (wordL k s f t)) ∧ Below w.heap.size w w' := by
 have hb0 := vb_a (Below.refl w.heap.size w) (.cells #[.int .i64 k, .string s, .int .i64 f, .int .i64 t] 50)
 have c1 := fun w => is_any k s f t 3 ⟨#[116, 114, 117, 101]⟩ w
 have c2 := fun w => is_any k s f t 3 ⟨#[102, 97, 108, 115, 101]⟩ w
 unfold wordL
 unfold tkV at *
 generalize isL k s f t 3 ⟨#[116, 114, 117, 101]⟩ = x at *
 generalize isL k s f t 3 ⟨#[102, 97, 108, 115, 101]⟩ = y at *
 cases x
 ·cases y
  ·go_enter Tryz.func106, Tryz.ntmps106
   go_wp2_with (first | (go_at_call_of 84 (Value.string ⟨#[116, 114, 117, 101]⟩); refine (c1 _).mono ?_; rintro r w1 ⟨rfl, hb1⟩; obtain ⟨q1, q2, q3, q4⟩ := keep4 hb1) | (go_at_call 84; refine (c2 _).mono ?_; rintro r w2 ⟨rfl, hb2⟩))
   go_ret
   exact ⟨rfl, vb_t (vb_t hb0 hb1) hb2⟩
  ·go_enter Tryz.func106, Tryz.ntmps106
   go_wp2_with (first | (go_at_call_of 84 (Value.string ⟨#[116, 114, 117, 101]⟩); refine (c1 _).mono ?_; rintro r w1 ⟨rfl, hb1⟩; obtain ⟨q1, q2, q3, q4⟩ := keep4 hb1) | (go_at_call 84; refine (c2 _).mono ?_; rintro r w2 ⟨rfl, hb2⟩))
   go_ret
   exact ⟨rfl, vb_t (vb_t hb0 hb1) hb2⟩
 ·go_enter Tryz.func106, Tryz.ntmps106
  go_wp2_with (first | (go_at_call_of 84 (Value.string ⟨#[116, 114, 117, 101]⟩); refine (c1 _).mono ?_; rintro r w1 ⟨rfl, hb1⟩))
  go_ret
  exact ⟨rfl, vb_t hb0 hb1⟩
end Go.Proofs.YtjakgdaodlgeaaaGreatDoor

namespace Go.Proofs.YtjakgdaodlgeaaaGreatDoor

def isD (c : UInt8) : Bool := decide (48 ≤ c.toNat ∧ c.toNat ≤ 57)
def numF (a : Int) : List UInt8 → Int
 | [] => a
 | c :: t => numF (a * 10 + ((c.toNat : Int) - 48)) t
def num (l : List UInt8) : Int := numF 0 l
theorem numF_add (l : List UInt8) (a : Int) : numF a l = a * 10 ^ l.length + num l := by
 induction l generalizing a with
 | nil => simp [num, numF]
 | cons c t ih =>
  simp only [num, numF, List.length_cons]
  rw [ih, ih (0 * 10 + ((c.toNat : Int) - 48)), Int.pow_succ]
  rw [Int.add_mul, Int.zero_mul, Int.zero_add, Int.mul_assoc, Int.mul_comm 10 (10 ^ t.length)]
  omega
theorem num_cons (c : UInt8) (t : List UInt8) : num (c :: t) = ((c.toNat : Int) - 48) * 10 ^ t.length + num t := by
 rw [num, numF, numF_add]; simp
theorem num_append (a b : List UInt8) : num (a ++ b) = num a * 10 ^ b.length + num b := by
 induction a with
 | nil => simp [num, numF]
 | cons c t ih =>
  rw [List.cons_append, num_cons, ih, num_cons, List.length_append, Int.pow_add, Int.add_mul, Int.mul_assoc]
  omega
theorem isD_iff (c : UInt8) : isD c = true ↔ 48 ≤ c.toNat ∧ c.toNat ≤ 57 := by simp [isD]
theorem pow_pos10 (n : Nat) : (0 : Int) < 10 ^ n := by
 induction n with
 | zero => decide
 | succ n ih => rw [Int.pow_succ]; omega
theorem num_nonneg {l : List UInt8} (h : l.all isD = true) : 0 ≤ num l := by
 induction l with
 | nil => decide
 | cons c t ih =>
  simp only [List.all_cons, Bool.and_eq_true] at h
  have h1 := (isD_iff c).1 h.1
  have h2 := ih h.2
  have h3 := Int.mul_nonneg (show (0 : Int) ≤ (c.toNat : Int) - 48 by omega) (Int.le_of_lt (pow_pos10 t.length))
  rw [num_cons]; omega
def EndOK (l : List UInt8) : Prop := ∀ c, l.getLast? = some c → c.toNat ≠ 48
theorem EndOK.tail {c : UInt8} {t : List UInt8} (h : EndOK (c :: t)) : EndOK t := by
 intro d hd
 cases t with
 | nil => simp at hd
 | cons e u => exact h d (by simpa using hd)
end Go.Proofs.YtjakgdaodlgeaaaGreatDoor

namespace Go.Proofs.YtjakgdaodlgeaaaGreatDoor

structure D3 where
 neg : Bool
 dg : List UInt8
 ex : Int
def DigOK (l : List UInt8) : Prop := l ≠ [] ∧ l.length ≤ 65536 ∧ l.all isD = true ∧ l.head? ≠ some 48 ∧ l.getLast? ≠ some 48
def Good (d : D3) : Prop := (d.dg = [] ∧ d.neg = false ∧ d.ex = 0) ∨ (DigOK d.dg ∧ -1000000 ≤ d.ex ∧ d.ex ≤ 1000000)
instance (l : List UInt8) : Decidable (DigOK l) := by unfold DigOK; infer_instance
instance (d : D3) : Decidable (Good d) := by unfold Good; infer_instance
def zeroD : D3 := ⟨false, [], 0⟩
structure P3 where
 neg : Bool
 int : List UInt8
 frac : List UInt8
 minus : Bool
 exp : List UInt8
def tw (l : List UInt8) : List UInt8 := l.takeWhile isD
def dw (l : List UInt8) : List UInt8 := l.dropWhile isD
def fracL (l : List UInt8) : Option (List UInt8 × List UInt8) :=
 if l.head? = some 46 then (if tw l.tail = [] then none else some (tw l.tail, dw l.tail)) else some ([], l)
def signL (l : List UInt8) : List UInt8 := if l.head? = some 43 ∨ l.head? = some 45 then l.tail else l
def expL (l : List UInt8) : Option (Bool × List UInt8 × List UInt8) :=
 if l.head? = some 101 ∨ l.head? = some 69 then
  (if tw (signL l.tail) = [] then none else some (decide (l.tail.head? = some 45), tw (signL l.tail), dw (signL l.tail)))
 else some (false, [], l)
def minusL (l : List UInt8) : List UInt8 := if l.head? = some 45 then l.tail else l
def behindL (neg : Bool) (w l : List UInt8) : Option (P3 × List UInt8) :=
 match fracL l with
 | none => none
 | some (f, l3) => match expL l3 with
  | none => none
  | some (m, x, r) => some (⟨neg, w, f, m, x⟩, r)
def splitL (l : List UInt8) : Option (P3 × List UInt8) :=
 if (minusL l).head? = some 48 then behindL (decide (l.head? = some 45)) [48] (minusL l).tail
 else if tw (minusL l) = [] then none else behindL (decide (l.head? = some 45)) (tw (minusL l)) (dw (minusL l))
def wholeL (x : Option (P3 × List UInt8)) : Option P3 :=
 match x with
 | none => none
 | some (p, r) => if r = [] then some p else none
def cutL (l : List UInt8) : Option P3 :=
 if tw (minusL l) = [] ∨ (1 < (tw (minusL l)).length ∧ (tw (minusL l)).head? = some 48) then none
 else wholeL (behindL (decide (l.head? = some 45)) (tw (minusL l)) (dw (minusL l)))
theorem fracL_digit (c : UInt8) (t : List UInt8) (h : isD c = true) : fracL (c :: t) = some ([], c :: t) := by
 have := (isD_iff c).1 h
 unfold fracL
 rw [if_neg]
 intro e
 rw [List.head?_cons] at e
 have e := congrArg UInt8.toNat (Option.some.inj e)
 simp at e; omega
theorem expL_digit (c : UInt8) (t : List UInt8) (h : isD c = true) : expL (c :: t) = some (false, [], c :: t) := by
 have := (isD_iff c).1 h
 unfold expL
 rw [if_neg]
 intro e
 rw [List.head?_cons] at e
 rcases e with e | e
 ·have e := congrArg UInt8.toNat (Option.some.inj e)
  simp at e; omega
 ·have e := congrArg UInt8.toNat (Option.some.inj e)
  simp at e; omega
theorem split_cut (l : List UInt8) : wholeL (splitL l) = cutL l := by
 unfold splitL cutL
 generalize decide (l.head? = some 45) = neg
 generalize minusL l = u
 cases u with
 | nil => simp [tw, wholeL]
 | cons c t =>
  by_cases hc : c = 48
  ·subst hc
   have d48 : isD 48 = true := by decide
   have e1 : tw (48 :: t) = 48 :: tw t := by simp [tw, d48]
   have e2 : dw (48 :: t) = dw t := by simp [dw, d48]
   rw [if_pos (by rfl), e1, e2]
   cases t with
   | nil => simp [tw, dw]
   | cons d u =>
    by_cases hd : isD d = true
    ·have e3 : tw (d :: u) = d :: tw u := by simp [tw, hd]
     rw [if_pos (by right; rw [e3]; simp), List.tail_cons]
     unfold behindL
     rw [fracL_digit d u hd]
     simp only [expL_digit d u hd, wholeL]
     simp
    ·have e3 : tw (d :: u) = [] := by simp [tw, hd]
     have e4 : dw (d :: u) = d :: u := by simp [dw, hd]
     rw [e3, e4, if_neg (by simp), List.tail_cons]
  ·have h1 : ¬ (c :: t).head? = some 48 := by simp [hc]
   rw [if_neg h1]
   by_cases h2 : tw (c :: t) = []
   ·rw [if_pos h2, if_pos (.inl h2)]; rfl
   ·rw [if_neg h2, if_neg]
    intro h
    rcases h with h | ⟨_, h⟩
    ·exact h2 h
    ·by_cases hd : isD c = true
     ·have e3 : tw (c :: t) = c :: tw t := by simp [tw, hd]
      rw [e3] at h
      simp [hc] at h
     ·have e3 : tw (c :: t) = [] := by simp [tw, hd]
      exact h2 e3
def expOf (C : Int) (p : P3) : Int := if p.minus = true then -(min (num p.exp) C) else min (num p.exp) C
def allOf (p : P3) : List UInt8 := p.int ++ p.frac
def upOf (p : P3) : List UInt8 := Lib.trimRightB (allOf p) 48
def dgOf (p : P3) : List UInt8 := Lib.trimLeftB (upOf p) 48
def exOf (C : Int) (p : P3) : Int := expOf C p - p.frac.length + (allOf p).length - (upOf p).length
def valueL (C : Int) (p : P3) : Option D3 :=
 if 65536 < (allOf p).length then none
 else if dgOf p = [] then some zeroD
 else if exOf C p < -1000000 ∨ 1000000 < exOf C p then none
 else some ⟨p.neg, dgOf p, exOf C p⟩
def parseL (l : List UInt8) : Int × D3 :=
 match cutL l with
 | none => (30, zeroD)
 | some p => match valueL 1131072 p with
  | none => (31, zeroD)
  | some d => (0, d)
theorem trimRight_le (l : List UInt8) (c : UInt8) : (Lib.trimRightB l c).length ≤ l.length := by
 unfold Lib.trimRightB
 rw [List.length_reverse]
 exact Nat.le_trans (List.dropWhile_suffix _).length_le (by simp)
theorem value_cap (C : Int) (hC : 1131072 ≤ C) (p : P3) : valueL C p = valueL 1131072 p := by
 unfold valueL
 by_cases h1 : 65536 < (allOf p).length
 ·rw [if_pos h1, if_pos h1]
 ·rw [if_neg h1, if_neg h1]
  by_cases h2 : dgOf p = []
  ·rw [if_pos h2, if_pos h2]
  ·rw [if_neg h2, if_neg h2]
   have l1 : p.frac.length ≤ (allOf p).length := by unfold allOf; simp
   have l2 : (upOf p).length ≤ (allOf p).length := trimRight_le _ _
   by_cases h3 : num p.exp ≤ 1131072
   ·have e : exOf C p = exOf 1131072 p := by
     unfold exOf expOf
     rw [Int.min_eq_left (by omega), Int.min_eq_left h3]
    rw [e]
   ·have a1 : 1131072 ≤ min (num p.exp) C := by omega
    have a2 : min (num p.exp) 1131072 = 1131072 := Int.min_eq_right (by omega)
    rw [if_pos, if_pos]
    ·unfold exOf expOf
     rw [a2]
     split <;> omega
    ·unfold exOf expOf
     split <;> omega
end Go.Proofs.YtjakgdaodlgeaaaGreatDoor
