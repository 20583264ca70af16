/-
  What bytes are read as by json's reader: token by token, what is opened in a row. No condition.
  What json's reader holds open: rows of values and of keys of its own, one in the other. No condition.
  What opening, closing and turning do to what json's reader holds open; the reader's state. No condition.
-/
import Derived.Test.YtfoehebnmommfaaGreatDoorJoined14
import Derived.Test.YtfoehebnmommfaaGreatDoorJoined16
import Derived.Maps.OwnSet
import Derived.Maps.AppendAt
namespace Go.Proofs.YtfoehebnmommfaaGreatDoor
open Go.RowKit

def inK (s : ByteArray) (ks : List ByteArray) : Bool := ks.any fun x => decide (x = s)
abbrev HS := Int × List JV × List ByteArray
structure SS where
  i : Nat
  hs : List HS
  dp : Nat
  ps : Nat
abbrev txtB (t : Lx.Tok) : ByteArray := ⟨t.text.toArray⟩
def sgnB (t : Lx.Tok) (s : ByteArray) : Bool := isL t.kind (txtB t) t.fr t.to 4 s
def fov : ByteArray := ⟨#[34, 91, 123, 45, 48, 49, 50, 51, 52, 53, 54, 55, 56, 57, 110, 116, 102]⟩
def fovC : ByteArray := ⟨#[34, 91, 123, 45, 48, 49, 50, 51, 52, 53, 54, 55, 56, 57, 110, 116, 102, 93]⟩
def fos : ByteArray := ⟨#[34]⟩
def fosC : ByteArray := ⟨#[34, 125]⟩
def sgO : ByteArray := ⟨#[123]⟩
def sgA : ByteArray := ⟨#[91]⟩
def sgE : ByteArray := ⟨#[93]⟩
def sgF : ByteArray := ⟨#[125]⟩
def sgK : ByteArray := ⟨#[44]⟩
def sgD : ByteArray := ⟨#[58]⟩
def zeroJ (k : Int) : JV := .mk k false ⟨#[]⟩ 0 ⟨#[]⟩ [] []
def numJ (d : D3) : JV := .mk 3 d.neg (bs d.dg) d.ex ⟨#[]⟩ [] []
structure LM where
  dep : Int
  dig : Int
  exp : Int
def limL (m : LM) (s : List UInt8) : D3 × Nat :=
  if m.dig < (daL s : Int) then (zeroD, 3)
  else if (parseL s).1 ≠ 0 ∨ (parseL s).2.ex < -m.exp ∨ m.exp < (parseL s).2.ex then (zeroD, 4) else ((parseL s).2, 0)
def simpleS (m : LM) (t : Lx.Tok) (p : Nat) : JV × Nat :=
  if t.kind = 1 then (.mk 4 false ⟨#[]⟩ 0 (txtB t) [] [], p)
  else if t.kind = 2 then (if p ≠ 0 then (numJ zeroD, p) else (numJ (limL m t.text).1, (limL m t.text).2))
  else (zeroJ (wordL t.kind (txtB t) t.fr t.to), p)
def takeS (fs : ByteArray) (l : List UInt8) (i : Nat) : Except Nat Lx.Tok := takeL fs l (Lx.pass l Lx.blankB i)
def openS (k : Int) (s : SS) : SS := { s with hs := s.hs ++ [(k, [], [])], dp := max s.dp (s.hs.length + 1) }
def lastS (s : SS) : HS := s.hs.getLastD (0, [], [])
def closeS (s : SS) : JV × SS := (.mk (lastS s).1 false ⟨#[]⟩ 0 ⟨#[]⟩ (lastS s).2.1 (lastS s).2.2, { s with hs := s.hs.dropLast })
def addV (v : JV) (s : SS) : SS := { s with hs := s.hs.dropLast ++ [((lastS s).1, (lastS s).2.1 ++ [v], (lastS s).2.2)] }
def addK (k : ByteArray) (s : SS) : SS := { s with hs := s.hs.dropLast ++ [((lastS s).1, (lastS s).2.1, (lastS s).2.2 ++ [k])] }
def valueOfS (l : List UInt8) (t : Lx.Tok) (s : SS) : Except Nat (Lx.Tok × SS) :=
  if inK (txtB t) (lastS s).2.2 = true then .error t.to else
  match takeS sgD l s.i with
  | .error e => .error e
  | .ok t1 => match takeS fov l t1.to with
    | .error e => .error e
    | .ok t2 => .ok (t2, { addK (txtB t) s with i := t2.to })
def firstS (l : List UInt8) (m : LM) : Nat → Lx.Tok → SS → Except Nat (JV × SS)
  | 0, _, _ => .error 0
  | n + 1, t, s =>
    if sgnB t sgA = true then
      match takeS fovC l s.i with
      | .error e => .error e
      | .ok t1 => firstS l m n t1 { openS 5 s with i := t1.to }
    else if sgnB t sgO = true then
      match takeS fosC l s.i with
      | .error e => .error e
      | .ok t1 => if sgnB t1 sgF = true then firstS l m n t1 { openS 6 s with i := t1.to } else
        match valueOfS l t1 { openS 6 s with i := t1.to } with
        | .error e => .error e
        | .ok (t2, s2) => firstS l m n t2 s2
    else if sgnB t sgE = true ∨ sgnB t sgF = true then .ok (closeS s)
    else .ok ((simpleS m t s.ps).1, { s with ps := (simpleS m t s.ps).2 })
def nextOfS (l : List UInt8) (s : SS) : Except Nat (Lx.Tok × SS) :=
  if (lastS s).1 = 6 then
    match takeS fos l s.i with
    | .error e => .error e
    | .ok t => valueOfS l t { s with i := t.to }
  else
    match takeS fov l s.i with
    | .error e => .error e
    | .ok t => .ok (t, { s with i := t.to })
def closing (s : SS) : ByteArray := if (lastS s).1 = 6 then ⟨#[44, 125]⟩ else ⟨#[44, 93]⟩
def loopS (l : List UInt8) (m : LM) : Nat → JV → SS → Except Nat (JV × SS)
  | 0, _, _ => .error 0
  | n + 1, v, s =>
    if s.hs = [] then .ok (v, s) else
    match takeS (closing s) l s.i with
    | .error e => .error e
    | .ok t => if sgnB t sgK = true then
        match nextOfS l { addV v s with i := t.to } with
        | .error e => .error e
        | .ok (t1, s1) => match firstS l m (l.length + 1) t1 s1 with
          | .error e => .error e
          | .ok (v1, s2) => loopS l m n v1 s2
      else loopS l m n (closeS { addV v s with i := t.to }).1 (closeS { addV v s with i := t.to }).2
def textS (l : List UInt8) (m : LM) : Except Nat (JV × SS) :=
  match takeS fov l 0 with
  | .error e => .error e
  | .ok t => match firstS l m (l.length + 1) t ⟨t.to, [], 0, 0⟩ with
    | .error e => .error e
    | .ok (v, s) => match loopS l m (l.length + 1) v s with
      | .error e => .error e
      | .ok (v, s) => if Lx.pass l Lx.blankB s.i < l.length then .error (Lx.pass l Lx.blankB s.i + 1) else .ok (v, s)
def judgedS (l : List UInt8) (m : LM) : Except (Int × Int) JV :=
  if 1048576 < l.length then .error (4, 1) else
  match textS l m with
  | .error e => .error (3, e)
  | .ok (v, s) => if m.dep < (s.dp : Int) then .error (4, 2) else if s.ps ≠ 0 then .error (4, s.ps) else .ok v
end Go.Proofs.YtfoehebnmommfaaGreatDoor

namespace Go.Proofs.YtfoehebnmommfaaGreatDoor
open Go.RowKit Go.Maps

abbrev PV := JV × (Nat → Value)
def flat7 (ps : List PV) : List Value := ps.flatMap fun p => [p.2 0, p.2 1, p.2 2, p.2 3, p.2 4, p.2 5, p.2 6]
theorem flat7_len (ps : List PV) : (flat7 ps).length = ps.length * 7 := by
  induction ps with
  | nil => rfl
  | cons r l ih => simp only [flat7, List.flatMap_cons, List.length_append, List.length_cons, List.length_nil] at ih ⊢; omega
theorem flat7_at (ps : List PV) (i j : Nat) (h : i < ps.length) (hj : j < 7) : (flat7 ps)[i * 7 + j]? = some ((ps[i]).2 j) := by
  induction ps generalizing i with
  | nil => simp at h
  | cons r l ih =>
    cases i with
    | zero =>
      match j, hj with
      | 0, _ => rfl
      | 1, _ => rfl
      | 2, _ => rfl
      | 3, _ => rfl
      | 4, _ => rfl
      | 5, _ => rfl
      | 6, _ => rfl
    | succ i =>
      have := ih i (by simpa using h)
      rw [show (i + 1) * 7 + j = (i * 7 + j) + 7 by omega]
      exact this
structure HC where
  k : Int
  vs : List PV
  ks : List ByteArray
  lv : Value
  kv : Value
  mv : Value
  sn : List ByteArray
def HC.cells (h : HC) : List Value := [.int .i64 h.k, h.lv, h.kv, h.mv]
def flatH (hs : List HC) : List Value := hs.flatMap HC.cells
theorem flatH_len (hs : List HC) : (flatH hs).length = hs.length * 4 := by
  induction hs with
  | nil => rfl
  | cons r l ih => simp only [flatH, HC.cells, List.flatMap_cons, List.length_append, List.length_cons, List.length_nil] at ih ⊢; omega
theorem flatH_app (a b : List HC) : flatH (a ++ b) = flatH a ++ flatH b := by simp [flatH]
theorem flatH_one (h : HC) : flatH [h] = [.int .i64 h.k, h.lv, h.kv, h.mv] := by simp [flatH, HC.cells]
def mblk : Value → Option Nat
  | .map o => o
  | _ => none
def HC.own (h : HC) : List Nat := h.lv.ownBlock.toList ++ (h.kv.ownBlock.toList ++ (mblk h.mv).toList)
def muts (ov : Value) (hs : List HC) : List Nat := ov.ownBlock.toList ++ hs.flatMap HC.own
def wX (rb : Nat) (ov : Value) (hs : List HC) : Nat → Prop := fun b => b = rb ∨ b ∈ muts ov hs
class Ex where
  E : Nat → Prop
def mX [Ex] (rb : Nat) (ov : Value) (hs : List HC) : Nat → Prop := fun b => Ex.E b ∨ wX rb ov hs b
def MapIs (w : World) (B : Nat) (mv : Value) (ks : List ByteArray) : Prop :=
  (mv = .map none ∧ ks = []) ∨ ∃ mb, ∃ D : DataW Unit, mv = .map (some mb) ∧ B ≤ mb ∧ w.ownsMap Tryz.prog 9 unitElem mb ks.length D ∧ ∀ s : ByteArray, Maps.has D (.string s.data.toList) = inK s ks
structure HO (w : World) (B : Nat) (X : Nat → Prop) (h : HC) : Prop where
  row : w.ownsRow B 31 7 h.lv h.vs.length (flat7 h.vs)
  vis : ∀ p ∈ h.vs, VI w X p.1 p.2
  krow : w.ownsRow B 9 1 h.kv h.ks.length (h.ks.map Value.string)
  ksz : ∀ s ∈ h.ks, s.size ≤ 1048576
  map : MapIs w B h.mv h.sn
structure ST [Ex] (w : World) (rb : Nat) (ov : Value) (hs : List HC) : Prop where
  row : w.ownsRow (rb + 1) 100 4 ov hs.length (flatH hs)
  nd : (muts ov hs).Nodup
  ho : ∀ h ∈ hs, HO w (rb + 1) (mX rb ov hs) h
  kd : ∀ h ∈ hs, h.k = 5 ∨ h.k = 6
  ex : ∀ b ∈ muts ov hs, ¬ Ex.E b
  exlt : ∀ b, Ex.E b → b < w.heap.size
theorem own_lt {w : World} {B : Nat} {e : TypeId} {size : Nat} {v : Value} {n : Nat} {xs : List Value} (h : w.ownsRow B e size v n xs) : ∀ b ∈ v.ownBlock.toList, B ≤ b ∧ b < w.heap.size := fun b hb => by
  have : v.ownBlock = some b := by simpa using hb
  exact h.lt b this
theorem map_lt {w : World} {B : Nat} {mv : Value} {ks : List ByteArray} (h : MapIs w B mv ks) : ∀ b ∈ (mblk mv).toList, B ≤ b ∧ b < w.heap.size := fun b hb => by
  rcases h with ⟨rfl, _⟩ | ⟨mb, D, rfl, h1, h2, _⟩
  · simp [mblk] at hb
  · simp [mblk] at hb; subst hb; exact ⟨h1, h2.lt⟩
theorem HO.lt {w : World} {B : Nat} {X : Nat → Prop} {h : HC} (hh : HO w B X h) : ∀ b ∈ h.own, B ≤ b ∧ b < w.heap.size := fun b hb => by
  unfold HC.own at hb
  rw [List.mem_append, List.mem_append] at hb
  rcases hb with hb | hb | hb
  · exact own_lt hh.row b hb
  · exact own_lt hh.krow b hb
  · exact map_lt hh.map b hb
theorem ST.lt [Ex] {w : World} {rb : Nat} {ov : Value} {hs : List HC} (h : ST w rb ov hs) : ∀ b ∈ muts ov hs, rb + 1 ≤ b ∧ b < w.heap.size := fun b hb => by
  unfold muts at hb
  rw [List.mem_append, List.mem_flatMap] at hb
  rcases hb with hb | ⟨x, hx, hb⟩
  · exact own_lt h.row b hb
  · exact (h.ho x hx).lt b hb
theorem own_keep {w w' : World} {B : Nat} {e : TypeId} {size : Nat} {v : Value} {n : Nat} {xs : List Value} (h : w.ownsRow B e size v n xs) (hk : ∀ b ∈ v.ownBlock.toList, w'.heap[b]? = w.heap[b]?) : w'.ownsRow B e size v n xs := by
  obtain ⟨h1, h2⟩ := h
  refine ⟨h1, ?_⟩
  rcases h2 with h2 | ⟨g, cap, cur, rfl, a, b, c⟩
  · exact .inl h2
  · exact .inr ⟨g, cap, cur, rfl, a, by rw [hk g (by simp [Value.ownBlock])]; exact b, c⟩
theorem map_keep {w w' : World} {B : Nat} {mv : Value} {ks : List ByteArray} (h : MapIs w B mv ks) (hk : ∀ b ∈ (mblk mv).toList, w'.heap[b]? = w.heap[b]?) : MapIs w' B mv ks := by
  rcases h with h | ⟨mb, D, rfl, h1, h2, h3⟩
  · exact .inl h
  · refine .inr ⟨mb, D, rfl, h1, ?_, h3⟩
    obtain ⟨es, clock, hb, rest⟩ := h2
    exact ⟨es, clock, by rw [hk mb (by simp [mblk])]; exact hb, rest⟩
theorem HO.keep {w w' : World} {B : Nat} {X X' : Nat → Prop} {h : HC} (hh : HO w B X h) (hk : ∀ b ∈ h.own, w'.heap[b]? = w.heap[b]?) (hX : ∀ b, ¬ X b → b < w.heap.size → w'.heap[b]? = w.heap[b]? ∧ ¬ X' b) : HO w' B X' h :=
  ⟨own_keep hh.row fun b hb => hk b (by unfold HC.own; simp [List.mem_append] at hb ⊢; exact Or.inl hb), fun p hp => (hh.vis p hp).carry hX,
   own_keep hh.krow fun b hb => hk b (by unfold HC.own; simp [List.mem_append] at hb ⊢; exact Or.inr (Or.inl hb)), hh.ksz, map_keep hh.map fun b hb => hk b (by unfold HC.own; simp [List.mem_append] at hb ⊢; exact Or.inr (Or.inr hb))⟩
structure Mv (rb : Nat) (ov : Value) (hs : List HC) (w : World) (ov' : Value) (hs' : List HC) (w' : World) : Prop where
  but : But (wX rb ov hs) w w'
  sub : ∀ b, b ∈ muts ov' hs' → b ∈ muts ov hs ∨ w.heap.size ≤ b
theorem Mv.refl (rb : Nat) (ov : Value) (hs : List HC) (w : World) : Mv rb ov hs w ov hs w := ⟨But.refl _ _, fun _ h => Or.inl h⟩
theorem Mv.trans {rb : Nat} {ov ov1 ov2 : Value} {hs hs1 hs2 : List HC} {w w1 w2 : World} (h : Mv rb ov hs w ov1 hs1 w1) (k : Mv rb ov1 hs1 w1 ov2 hs2 w2) : Mv rb ov hs w ov2 hs2 w2 := by
  refine ⟨⟨k.but.os.trans h.but.os, k.but.tape.trans h.but.tape, k.but.output.trans h.but.output, Nat.le_trans h.but.size k.but.size, fun i hi hx => ?_⟩, fun b hb => ?_⟩
  · refine (k.but.block i (Nat.lt_of_lt_of_le hi h.but.size) ?_).trans (h.but.block i hi hx)
    rintro (e | e)
    · exact hx (Or.inl e)
    · rcases h.sub i e with e | e
      · exact hx (Or.inr e)
      · omega
  · rcases k.sub b hb with e | e
    · exact h.sub b e
    · exact Or.inr (Nat.le_trans h.but.size e)
theorem Mv.rb {rb : Nat} {ov : Value} {hs : List HC} {w w' : World} (h : But (· = rb) w w') : Mv rb ov hs w ov hs w' := ⟨h.mono fun _ e => Or.inl e, fun _ h => Or.inl h⟩
theorem Mv.bel {rb : Nat} {ov ov1 : Value} {hs hs1 : List HC} {w w1 w2 : World} (h : Mv rb ov hs w ov1 hs1 w1) (k : Below w1.heap.size w1 w2) : Mv rb ov hs w ov1 hs1 w2 := ⟨h.but.below k, h.sub⟩
theorem Mv.out [Ex] {rb : Nat} {ov ov' : Value} {hs hs' : List HC} {w w' : World} (h : Mv rb ov hs w ov' hs' w') {b : Nat} (hb : ¬ mX rb ov hs b) (hlt : b < w.heap.size) : w'.heap[b]? = w.heap[b]? ∧ ¬ mX rb ov' hs' b :=
  ⟨h.but.block b hlt (fun e => hb (Or.inr e)), fun e => by
    rcases e with e | e | e
    · exact hb (Or.inl e)
    · exact hb (Or.inr (Or.inl e))
    · rcases h.sub b e with e | e
      · exact hb (Or.inr (Or.inr e))
      · omega⟩
theorem Mv.vi [Ex] {rb : Nat} {ov ov' : Value} {hs hs' : List HC} {w w' : World} (h : Mv rb ov hs w ov' hs' w') {x : JV} {f : Nat → Value} (hv : VI w (mX rb ov hs) x f) : VI w' (mX rb ov' hs') x f :=
  hv.carry fun _ hb hlt => h.out hb hlt
theorem Mv.below [Ex] {rb : Nat} {ov ov' : Value} {hs hs' : List HC} {w w' : World} (h : Mv rb ov hs w ov' hs' w') (hs0 : ST w rb ov hs) (hlt : rb < w.heap.size) : Below rb w w' :=
  ⟨h.but.os, h.but.tape, h.but.output, h.but.size, fun k hk => h.but.block k (by omega) (by
    rintro (e | e)
    · omega
    · have := (hs0.lt k e).1; omega)⟩
theorem ST.rb [Ex] {w w' : World} {rb : Nat} {ov : Value} {hs : List HC} (h : ST w rb ov hs) (hb : But (· = rb) w w') : ST w' rb ov hs := by
  have key : ∀ b ∈ muts ov hs, w'.heap[b]? = w.heap[b]? := fun b hb' => by
    obtain ⟨h1, h2⟩ := h.lt b hb'
    exact hb.block b h2 (by omega)
  refine ⟨own_keep h.row fun b hb' => key b (by unfold muts; rw [List.mem_append]; exact Or.inl hb'), h.nd, fun x hx => (h.ho x hx).keep (fun b hb' => key b (by unfold muts; rw [List.mem_append, List.mem_flatMap]; exact Or.inr ⟨x, hx, hb'⟩)) (fun b hb1 hlt => ⟨hb.block b hlt (fun e => hb1 (Or.inr (Or.inl e))), hb1⟩), h.kd, h.ex, fun b hb' => Nat.lt_of_lt_of_le (h.exlt b hb') hb.size⟩
theorem ST.bel [Ex] {w w' : World} {rb : Nat} {ov : Value} {hs : List HC} (h : ST w rb ov hs) (hb : Below w.heap.size w w') : ST w' rb ov hs := h.rb (But.ofBelow hb)
theorem ST.nil [Ex] (w : World) (rb : Nat) (hx : ∀ b, Ex.E b → b < w.heap.size) : ST w rb (.slice none 0 0) [] := ⟨World.ownsRow_nil w _ _ 4, by simp [muts, Value.ownBlock], fun h hh => by simp at hh, fun h hh => by simp at hh, fun b hb => by simp [muts, Value.ownBlock] at hb, hx⟩
theorem nodup_parts {a b : List Nat} (h : (a ++ b).Nodup) : a.Nodup ∧ b.Nodup ∧ ∀ x ∈ a, x ∉ b := by
  rw [List.nodup_append] at h
  exact ⟨h.1, h.2.1, fun x hx hb => h.2.2 x hx x hb rfl⟩
theorem muts_snoc (ov : Value) (hs0 : List HC) (h : HC) : muts ov (hs0 ++ [h]) = muts ov hs0 ++ h.own := by
  unfold muts; simp [List.flatMap_append]
theorem mem_muts {ov : Value} {hs : List HC} {h : HC} (hm : h ∈ hs) {b : Nat} (hb : b ∈ h.own) : b ∈ muts ov hs := by
  unfold muts; rw [List.mem_append, List.mem_flatMap]; exact Or.inr ⟨h, hm, hb⟩
theorem mem_mutsO {ov : Value} {hs : List HC} {b : Nat} (hb : b ∈ ov.ownBlock.toList) : b ∈ muts ov hs := by
  unfold muts; rw [List.mem_append]; exact Or.inl hb
structure Mr (rb : Nat) (ov : Value) (hs : List HC) (w : World) (ov' : Value) (hs' : List HC) (w' : World) : Prop where
  mv : Mv rb ov hs w ov' hs' w'
  kr : rb < w.heap.size → w'.heap[rb]? = w.heap[rb]?
theorem Mr.refl (rb : Nat) (ov : Value) (hs : List HC) (w : World) : Mr rb ov hs w ov hs w := ⟨Mv.refl _ _ _ _, fun _ => rfl⟩
theorem Mr.trans {rb : Nat} {ov ov1 ov2 : Value} {hs hs1 hs2 : List HC} {w w1 w2 : World} (h : Mr rb ov hs w ov1 hs1 w1) (k : Mr rb ov1 hs1 w1 ov2 hs2 w2) : Mr rb ov hs w ov2 hs2 w2 :=
  ⟨h.mv.trans k.mv, fun hl => (k.kr (Nat.lt_of_lt_of_le hl h.mv.but.size)).trans (h.kr hl)⟩
theorem Mr.bel {rb : Nat} {ov ov1 : Value} {hs hs1 : List HC} {w w1 w2 : World} (h : Mr rb ov hs w ov1 hs1 w1) (k : Below w1.heap.size w1 w2) : Mr rb ov hs w ov1 hs1 w2 :=
  ⟨h.mv.bel k, fun hl => (k.block rb (Nat.lt_of_lt_of_le hl h.mv.but.size)).trans (h.kr hl)⟩
theorem Mr.rd {rb : Nat} {ov ov' : Value} {hs hs' : List HC} {w w' : World} (h : Mr rb ov hs w ov' hs' w') {F : Nat → Value} (hr : Rd w rb F) : Rd w' rb F := fun j hj => by
  have he := h.kr hr.lt
  exact ⟨(World.cell?_of_block (w := w) (w' := w') he).trans (hr j hj).1, by have := (hr j hj).2; unfold World.frozen? at this ⊢; rw [he]; exact this⟩
theorem heap_set {w : World} {b : Nat} {cs : Array Value} {T : TypeId} (h : w.heap[b]? = some (.cells cs T (0, 0))) (i : Nat) (v : Value) : (w.setCell ⟨b, i, none⟩ v).heap[b]? = some (.cells (cs.setIfInBounds i v) T (0, 0)) := by
  obtain ⟨hl', e'⟩ := Array.getElem?_eq_some_iff.1 h
  simp only [World.setCell]
  rw [Array.getElem?_eq_getElem (by rw [Array.size_modify]; exact hl'), Array.getElem_modify_self, e']
  rfl
theorem flatH_one' (h : HC) : flatH [h] = h.cells := by simp [flatH]
theorem ST.upd [Ex] {w w' : World} {rb : Nat} {ob cap n : Nat} {hs0 : List HC} {h h' : HC} (hst : ST w rb (.slice (some ⟨ob, 0, none⟩) n cap) (hs0 ++ [h])) (i : Nat) (hi : i < 4) (u : Value) (hcells : h'.cells = h.cells.set i u)
    (hg : But (fun b => b ∈ h.own) w w') (hho : ∀ X' : Nat → Prop, X' = mX rb (.slice (some ⟨ob, 0, none⟩) n cap) (hs0 ++ [h']) → HO w' (rb + 1) X' h') (hown : ∀ b ∈ h'.own, b ∈ h.own ∨ w.heap.size ≤ b) (hnd : h'.own.Nodup) (hk : h'.k = h.k) :
    ST (w'.setCell ⟨ob, hs0.length * 4 + i, none⟩ u) rb (.slice (some ⟨ob, 0, none⟩) n cap) (hs0 ++ [h']) ∧ Mr rb (.slice (some ⟨ob, 0, none⟩) n cap) (hs0 ++ [h]) w (.slice (some ⟨ob, 0, none⟩) n cap) (hs0 ++ [h']) (w'.setCell ⟨ob, hs0.length * 4 + i, none⟩ u) := by
  have hnd0 := hst.nd
  rw [muts_snoc] at hnd0
  obtain ⟨n1, n2, n3⟩ := nodup_parts hnd0
  have hlt := hst.lt
  have hob : ob ∈ muts (.slice (some ⟨ob, 0, none⟩) n cap) hs0 := mem_mutsO (by simp [Value.ownBlock])
  have hobn : ob ∉ h.own := n3 ob hob
  have hob' : ob < w.heap.size := (hlt ob (by rw [muts_snoc]; exact List.mem_append_left _ hob)).2
  have hobn' : ob ∉ h'.own := fun hb => by
    rcases hown ob hb with hb | hb
    · exact hobn hb
    · omega
  have hset : ∀ b, b ≠ ob → (w'.setCell ⟨ob, hs0.length * 4 + i, none⟩ u).heap[b]? = w'.heap[b]? := fun b hb => Below.heap_setCell w' _ _ _ (fun e => hb e)
  have hK : ∀ b, ¬ wX rb (.slice (some ⟨ob, 0, none⟩) n cap) (hs0 ++ [h]) b → b < w.heap.size → (w'.setCell ⟨ob, hs0.length * 4 + i, none⟩ u).heap[b]? = w.heap[b]? := fun b hb hl => by
    have hb1 : b ∉ muts (.slice (some ⟨ob, 0, none⟩) n cap) (hs0 ++ [h]) := fun e => hb (Or.inr e)
    rw [muts_snoc, List.mem_append] at hb1
    rw [hset b (fun e => hb1 (Or.inl (e ▸ hob)))]
    exact hg.block b hl (fun e => hb1 (Or.inr e))
  have hS : ∀ b, b ∈ muts (.slice (some ⟨ob, 0, none⟩) n cap) (hs0 ++ [h']) → b ∈ muts (.slice (some ⟨ob, 0, none⟩) n cap) (hs0 ++ [h]) ∨ w.heap.size ≤ b := fun b hb => by
    rw [muts_snoc, List.mem_append] at hb ⊢
    rcases hb with hb | hb
    · exact Or.inl (Or.inl hb)
    · rcases hown b hb with hb | hb
      · exact Or.inl (Or.inr hb)
      · exact Or.inr hb
  have hM : Mv rb (.slice (some ⟨ob, 0, none⟩) n cap) (hs0 ++ [h]) w (.slice (some ⟨ob, 0, none⟩) n cap) (hs0 ++ [h']) (w'.setCell ⟨ob, hs0.length * 4 + i, none⟩ u) :=
    ⟨⟨hg.os, hg.tape, hg.output, by have := hg.size; simpa [World.setCell] using this, fun k hk1 hk2 => hK k hk2 hk1⟩, hS⟩
  have hex : ∀ b ∈ muts (.slice (some ⟨ob, 0, none⟩) n cap) (hs0 ++ [h']), ¬ Ex.E b := fun b hb e => by
    rcases hS b hb with h1 | h1
    · exact hst.ex b h1 e
    · have := hst.exlt b e; omega
  refine ⟨⟨?_, ?_, ?_, ?_, hex, fun b hb => Nat.lt_of_lt_of_le (hst.exlt b hb) hM.but.size⟩, ⟨hM, ?_⟩⟩
  · obtain ⟨r1, r2⟩ := hst.row
    rcases r2 with ⟨r2, _⟩ | ⟨g, cap', cur, r2, r3, r4, r5, r6, r7, r8⟩
    · cases r2
    · injection r2 with r2 r2n r2c
      injection r2 with r2
      injection r2 with r2 _ _
      subst r2 r2c
      refine ⟨by rw [flatH_len], Or.inr ⟨ob, cap, cur.setIfInBounds (hs0.length * 4 + i) u, by rw [r2n]; simp, r3, ?_, by simpa using r5, r6, by simpa using r7, ?_⟩⟩
      · have h1 : w'.heap[ob]? = some (.cells cur 100 (0, 0)) := by rw [hg.block ob hob' hobn]; exact r4
        exact heap_set h1 _ _
      · have hsz : hs0.length * 4 + i < (hs0 ++ [h]).length * 4 := by simp; omega
        rw [Array.toList_setIfInBounds, show (hs0 ++ [h']).length = (hs0 ++ [h]).length by simp, List.take_set, r8, flatH_app, flatH_app, flatH_one', flatH_one', hcells, List.set_append_right _ _ (by rw [flatH_len]; omega)]
        congr 2
        rw [flatH_len]; omega
  · rw [muts_snoc, List.nodup_append]
    refine ⟨n1, hnd, fun x hx y hy e => ?_⟩
    subst e
    rcases hown x hy with hy | hy
    · exact n3 x hx hy
    · have := (hlt x (by rw [muts_snoc]; exact List.mem_append_left _ hx)).2; omega
  · intro x hx
    rcases List.mem_append.1 hx with hx | hx
    · refine (hst.ho x (List.mem_append_left _ hx)).keep (fun b hb => ?_) (fun b hb hl => hM.out hb hl)
      have hb1 : b ∈ muts (.slice (some ⟨ob, 0, none⟩) n cap) hs0 := mem_muts hx hb
      have hne : b ≠ ob := fun e => by
        subst e
        unfold muts at n1
        rw [List.nodup_append] at n1
        exact n1.2.2 b (by simp [Value.ownBlock]) b (List.mem_flatMap.2 ⟨x, hx, hb⟩) rfl
      rw [hset b hne]
      exact hg.block b (hlt b (by rw [muts_snoc]; exact List.mem_append_left _ hb1)).2 (n3 b hb1)
    · obtain rfl : x = h' := by simpa using hx
      have hh := hho _ rfl
      exact hh.keep (fun b hb => hset b (fun e => hobn' (e ▸ hb))) (fun b hb hl => ⟨hset b (fun e => hb (Or.inr (Or.inr (by rw [muts_snoc, e]; exact List.mem_append_left _ hob)))), hb⟩)
  · intro x hx
    rcases List.mem_append.1 hx with hx | hx
    · exact hst.kd x (List.mem_append_left _ hx)
    · obtain rfl : x = h' := by simpa using hx
      rw [hk]; exact hst.kd h (by simp)
  · intro hl
    have h1 : rb ≠ ob := fun e => by have := (hlt ob (by rw [muts_snoc]; exact List.mem_append_left _ hob)).1; omega
    rw [hset rb h1]
    exact hg.block rb hl (fun e => by have := (hlt rb (by rw [muts_snoc]; exact List.mem_append_right _ e)).1; omega)
end Go.Proofs.YtfoehebnmommfaaGreatDoor

namespace Go.Proofs.YtfoehebnmommfaaGreatDoor
open Go.RowKit Go.Maps

theorem ST.upd0 [Ex] {w w' : World} {rb : Nat} {ov : Value} {hs0 : List HC} {h h' : HC} (hst : ST w rb ov (hs0 ++ [h])) (hcells : h'.cells = h.cells)
  (hg : But (fun b => b ∈ h.own) w w') (hho : ∀ X' : Nat → Prop, X' = mX rb ov (hs0 ++ [h']) → HO w' (rb + 1) X' h') (hown : ∀ b ∈ h'.own, b ∈ h.own ∨ w.heap.size ≤ b) (hnd : h'.own.Nodup) (hk : h'.k = h.k) :
  ST w' rb ov (hs0 ++ [h']) ∧ Mr rb ov (hs0 ++ [h]) w ov (hs0 ++ [h']) w' := by
 have hnd0 := hst.nd
 rw [muts_snoc] at hnd0
 obtain ⟨n1, n2, n3⟩ := nodup_parts hnd0
 have hlt := hst.lt
 have hS : ∀ b, b ∈ muts ov (hs0 ++ [h']) → b ∈ muts ov (hs0 ++ [h]) ∨ w.heap.size ≤ b := fun b hb => by
  rw [muts_snoc, List.mem_append] at hb ⊢
  rcases hb with hb | hb
  ·exact Or.inl (Or.inl hb)
  ·rcases hown b hb with hb | hb
   ·exact Or.inl (Or.inr hb)
   ·exact Or.inr hb
 have hM : Mv rb ov (hs0 ++ [h]) w ov (hs0 ++ [h']) w' :=
  ⟨hg.mono fun b hb => Or.inr (by rw [muts_snoc]; exact List.mem_append_right _ hb), hS⟩
 have hex : ∀ b ∈ muts ov (hs0 ++ [h']), ¬ Ex.E b := fun b hb e => by
  rcases hS b hb with h1 | h1
  ·exact hst.ex b h1 e
  ·have := hst.exlt b e; omega
 refine ⟨⟨?_, ?_, ?_, ?_, hex, fun b hb => Nat.lt_of_lt_of_le (hst.exlt b hb) hM.but.size⟩, ⟨hM, fun hl => hg.block rb hl (fun e => by have := (hlt rb (by rw [muts_snoc]; exact List.mem_append_right _ e)).1; omega)⟩⟩
 ·have e : flatH (hs0 ++ [h']) = flatH (hs0 ++ [h]) := by rw [flatH_app, flatH_app, flatH_one', flatH_one', hcells]
  rw [e, show (hs0 ++ [h']).length = (hs0 ++ [h]).length by simp]
  refine own_keep hst.row fun b hb => ?_
  have hb1 : b ∈ muts ov hs0 := mem_mutsO hb
  exact hg.block b (hlt b (by rw [muts_snoc]; exact List.mem_append_left _ hb1)).2 (n3 b hb1)
 ·rw [muts_snoc, List.nodup_append]
  refine ⟨n1, hnd, fun x hx y hy e => ?_⟩
  subst e
  rcases hown x hy with hy | hy
  ·exact n3 x hx hy
  ·have := (hlt x (by rw [muts_snoc]; exact List.mem_append_left _ hx)).2; omega
 ·intro x hx
  rcases List.mem_append.1 hx with hx | hx
  ·refine (hst.ho x (List.mem_append_left _ hx)).keep (fun b hb => ?_) (fun b hb hl => hM.out hb hl)
   have hb1 : b ∈ muts ov hs0 := mem_muts hx hb
   exact hg.block b (hlt b (by rw [muts_snoc]; exact List.mem_append_left _ hb1)).2 (n3 b hb1)
  ·obtain rfl : x = h' := by simpa using hx
   exact hho _ rfl
 ·intro x hx
  rcases List.mem_append.1 hx with hx | hx
  ·exact hst.kd x (List.mem_append_left _ hx)
  ·obtain rfl : x = h' := by simpa using hx
   rw [hk]; exact hst.kd h (by simp)
def h0 (k : Int) : HC := ⟨k, [], [], .slice none 0 0, .slice none 0 0, .map none, []⟩
theorem h0_own (k : Int) : (h0 k).own = [] := by simp [h0, HC.own, Value.ownBlock, mblk]
theorem h0_ho (w : World) (B : Nat) (X : Nat → Prop) (k : Int) : HO w B X (h0 k) :=
 ⟨World.ownsRow_nil w B _ 7, fun p hp => by simp [h0] at hp, World.ownsRow_nil w B _ 1, fun s hs => by simp [h0] at hs, Or.inl ⟨rfl, rfl⟩⟩
theorem ST.opened [Ex] {w w' : World} {rb : Nat} {ov ov' : Value} {hs : List HC} {k : Int} (hst : ST w rb ov hs) (hk : k = 5 ∨ k = 6)
  (hrow : w'.ownsRow (rb + 1) 100 4 ov' (hs.length + 1) (flatH hs ++ [.int .i64 k, .slice none 0 0, .slice none 0 0, .map none])) (hg : w.grownBy w' ov.ownBlock) (h4 : ov'.ownBlock = ov.ownBlock ∨ ov'.ownBlock = some w.heap.size) :
  ST w' rb ov' (hs ++ [h0 k]) ∧ Mv rb ov hs w ov' (hs ++ [h0 k]) w' := by
 have hlt := hst.lt
 have e1 : muts ov' (hs ++ [h0 k]) = ov'.ownBlock.toList ++ hs.flatMap HC.own := by
  rw [muts_snoc, h0_own, List.append_nil]; rfl
 have hnd := hst.nd
 unfold muts at hnd
 obtain ⟨n1, n2, n3⟩ := nodup_parts hnd
 have hsub : ∀ b, b ∈ muts ov' (hs ++ [h0 k]) → b ∈ muts ov hs ∨ w.heap.size ≤ b := fun b hb => by
  rw [e1, List.mem_append] at hb
  rcases hb with hb | hb
  ·rcases h4 with h4 | h4
   ·rw [h4] at hb; exact Or.inl (mem_mutsO hb)
   ·rw [h4] at hb; simp at hb; exact Or.inr (by omega)
  ·unfold muts; rw [List.mem_append]; exact Or.inl (Or.inr hb)
 have hM : Mv rb ov hs w ov' (hs ++ [h0 k]) w' :=
  ⟨⟨hg.os, hg.tape, hg.output, hg.size, fun i hi hx => hg.block i hi (fun e => hx (Or.inr (mem_mutsO (by rw [← e]; simp))))⟩, hsub⟩
 have hex : ∀ b ∈ muts ov' (hs ++ [h0 k]), ¬ Ex.E b := fun b hb e => by
  rcases hsub b hb with h1 | h1
  ·exact hst.ex b h1 e
  ·have := hst.exlt b e; omega
 refine ⟨⟨?_, ?_, ?_, ?_, hex, fun b hb => Nat.lt_of_lt_of_le (hst.exlt b hb) hM.but.size⟩, hM⟩
 ·rw [flatH_app, flatH_one, List.length_append]
  exact hrow
 ·rw [e1, List.nodup_append]
  refine ⟨by cases ov'.ownBlock <;> simp, n2, fun x hx y hy e => ?_⟩
  subst e
  rcases h4 with h4 | h4
  ·rw [h4] at hx; exact n3 x hx hy
  ·rw [h4] at hx
   simp at hx
   have := (hlt x (by unfold muts; rw [List.mem_append]; exact Or.inr hy)).2
   omega
 ·intro x hx
  rcases List.mem_append.1 hx with hx | hx
  ·refine (hst.ho x hx).keep (fun b hb => ?_) (fun b hb hl => hM.out hb hl)
   have hb1 : b ∈ hs.flatMap HC.own := List.mem_flatMap.2 ⟨x, hx, hb⟩
   refine hg.block b (hlt b (mem_muts hx hb)).2 (fun e => ?_)
   exact n3 b (by rw [← e]; simp) hb1
  ·obtain rfl : x = h0 k := by simpa using hx
   exact h0_ho _ _ _ _
 ·intro x hx
  rcases List.mem_append.1 hx with hx | hx
  ·exact hst.kd x hx
  ·obtain rfl : x = h0 k := by simpa using hx
   exact hk
def hval (h : HC) : JV := .mk h.k false ⟨#[]⟩ 0 ⟨#[]⟩ (h.vs.map (·.1)) h.ks
def hcel (h : HC) : Nat → Value := fun i => [Value.int .i64 h.k, .bool false, .string ⟨#[]⟩, .int .i64 0, .string ⟨#[]⟩, h.lv, h.kv].getD i .nilIface
theorem own_shape {w : World} {B : Nat} {e : TypeId} {size : Nat} {v : Value} {n : Nat} {xs : List Value} (h : w.ownsRow B e size v n xs) : ∃ ao cap, v = .slice ao n cap ∧ n ≤ cap ∧ cap ≤ maxLen := by
 rcases h.2 with ⟨rfl, rfl⟩ | ⟨g, cap, cur, rfl, _, _, h1, h2, _⟩
 ·exact ⟨none, 0, rfl, Nat.le_refl _, by unfold maxLen; omega⟩
 ·exact ⟨_, cap, rfl, h1, h2⟩
theorem addZ (b n : Nat) : (Addr.mk b 0 none).add n = ⟨b, n, none⟩ := by
 unfold Addr.add
 split
 ·rename_i h; subst h; rfl
 ·simp
theorem own_cell {w : World} {B : Nat} {e : TypeId} {size : Nat} {g n cap : Nat} {xs : List Value} (h : w.ownsRow B e size (.slice (some ⟨g, 0, none⟩) n cap) n xs) (j : Nat) (u : Value) (hj : xs[j]? = some u) : w.cell? ⟨g, j, none⟩ = some u := by
 have := World.ownsRow.cells h (g := g) rfl j u hj
 rw [addZ] at this
 exact this
theorem ST.closed [Ex] {w : World} {rb : Nat} {ob cap n : Nat} {hs0 : List HC} {h : HC} (hst : ST w rb (.slice (some ⟨ob, 0, none⟩) n cap) (hs0 ++ [h])) :
  ST w rb (.slice (some ⟨ob, 0, none⟩) hs0.length cap) hs0 ∧ VI w (mX rb (.slice (some ⟨ob, 0, none⟩) hs0.length cap) hs0) (hval h) (hcel h) ∧ Mv rb (.slice (some ⟨ob, 0, none⟩) n cap) (hs0 ++ [h]) w (.slice (some ⟨ob, 0, none⟩) hs0.length cap) hs0 w := by
 have hnd0 := hst.nd
 rw [muts_snoc] at hnd0
 obtain ⟨n1, n2, n3⟩ := nodup_parts hnd0
 have hm : muts (.slice (some ⟨ob, 0, none⟩) hs0.length cap) hs0 = muts (.slice (some ⟨ob, 0, none⟩) n cap) hs0 := rfl
 have hsub : ∀ b, mX rb (.slice (some ⟨ob, 0, none⟩) hs0.length cap) hs0 b → mX rb (.slice (some ⟨ob, 0, none⟩) n cap) (hs0 ++ [h]) b := fun b hb => by
  rcases hb with hb | hb | hb
  ·exact Or.inl hb
  ·exact Or.inr (Or.inl hb)
  ·exact Or.inr (Or.inr (by rw [muts_snoc]; exact List.mem_append_left _ hb))
 have hh := hst.ho h (by simp)
 have hown : ∀ b ∈ h.own, ¬ mX rb (.slice (some ⟨ob, 0, none⟩) hs0.length cap) hs0 b := fun b hb e => by
  rcases e with e | e | e
  ·exact hst.ex b (by rw [muts_snoc]; exact List.mem_append_right _ hb) e
  ·have := (hst.lt b (by rw [muts_snoc]; exact List.mem_append_right _ hb)).1; omega
  ·exact n3 b e hb
 refine ⟨⟨?_, hm ▸ n1, fun x hx => (hst.ho x (List.mem_append_left _ hx)).keep (fun b _ => rfl) (fun b hb _ => ⟨rfl, fun e => hb (hsub b e)⟩), fun x hx => hst.kd x (List.mem_append_left _ hx), fun b hb => hst.ex b (by rw [muts_snoc]; exact List.mem_append_left _ hb), hst.exlt⟩, ?_, Mv.mk (But.refl _ _) (fun b hb => Or.inl (by rw [muts_snoc]; exact List.mem_append_left _ hb))⟩
 ·obtain ⟨r1, r2⟩ := hst.row
  rcases r2 with ⟨r2, _⟩ | ⟨g, cap', cur, r2, r3, r4, r5, r6, r7, r8⟩
  ·cases r2
  ·injection r2 with r2 r2n r2c
   injection r2 with r2
   injection r2 with r2 _ _
   subst r2 r2c
   refine ⟨flatH_len _, Or.inr ⟨ob, cap, cur, rfl, r3, r4, by simp at r5; omega, r6, r7, ?_⟩⟩
   have e : List.take (hs0.length * 4) (flatH (hs0 ++ [h])) = flatH hs0 := by rw [flatH_app, List.take_append_of_le_length (by rw [flatH_len]; exact Nat.le_refl _), List.take_of_length_le (by rw [flatH_len]; exact Nat.le_refl _)]
   rw [← e, ← r8, List.take_take]
   congr 1
   simp
 ·obtain ⟨ao, c1, e1, q1, q2⟩ := own_shape hh.row
  obtain ⟨ko, c2, e2, q3, q4⟩ := own_shape hh.krow
  have hkd : h.k = 5 ∨ h.k = 6 := hst.kd h (by simp)
  refine VI.mk ao c1 (fun i => ((h.vs.getD i (zeroJ 0, fun _ => .nilIface)).2)) rfl rfl rfl rfl rfl (by show h.lv = _; rw [e1]; simp) ?_ ⟨by simpa using q1, q2⟩ ⟨by decide, by decide⟩ ⟨by rcases hkd with e | e <;> rw [e] <;> decide, by decide⟩ ?_ ?_
  ·refine ⟨ko, c2, e2, q3, q4, fun s hs => Nat.le_trans (hh.ksz s hs) (by unfold maxLen; omega), ?_⟩
   rcases hh.krow.2 with ⟨_, hz⟩ | ⟨g, cap2, cur, e3, hB, _⟩
   ·exact Or.inl (List.eq_nil_of_length_eq_zero hz)
   ·rw [e2] at e3
    injection e3 with e3 _ e5
    subst e3 e5
    refine Or.inr ⟨g, 0, rfl, hown g (by unfold HC.own; rw [e2]; simp [Value.ownBlock]), fun i hi => ?_⟩
    have := own_cell (e2 ▸ hh.krow) i (.string h.ks[i]) (by simp [hi])
    rw [Nat.zero_add]
    exact this
  ·rcases hh.row.2 with ⟨_, hz⟩ | ⟨g, cap2, cur, e3, hB, _⟩
   ·exact Or.inl (by rw [List.eq_nil_of_length_eq_zero hz]; rfl)
   ·rw [e1] at e3
    injection e3 with e3 _ e5
    subst e3 e5
    refine Or.inr ⟨g, 0, rfl, hown g (by unfold HC.own; rw [e1]; simp [Value.ownBlock]), fun i hi j hj => ?_⟩
    have hi' : i < h.vs.length := by simpa using hi
    have := own_cell (e1 ▸ hh.row) (i * 7 + j) _ (flat7_at h.vs i j hi' hj)
    rw [Nat.zero_add, this, List.getD_eq_getElem?_getD, List.getElem?_eq_getElem hi']
    rfl
  ·intro i hi
   have hi' : i < h.vs.length := by simpa using hi
   have := hh.vis (h.vs[i]) (List.getElem_mem hi')
   rw [List.getElem_map]
   simp only [List.getD_eq_getElem?_getD, List.getElem?_eq_getElem hi', Option.getD_some]
   exact this.carry fun b hb _ => ⟨rfl, fun e => hb (hsub b e)⟩
def RF (v : Value) (lm : Nat → Int) (i : Nat) (ov : Value) (dp ps : Nat) : Nat → Value := fun j =>
 if j = 0 then v else if j = 1 then .int .i64 (i : Int) else if j = 7 then ov else if j = 8 then .int .i64 (dp : Int) else if j = 9 then .int .i64 (ps : Int) else .int .i64 (lm (j - 2))
theorem RF_i (v : Value) (lm : Nat → Int) (i i' : Nat) (ov : Value) (dp ps : Nat) : upd (RF v lm i ov dp ps) 1 (.int .i64 (i' : Int)) = RF v lm i' ov dp ps := by
 funext j; unfold upd RF; by_cases h : j = 1
 ·subst h; simp
 ·simp [h]
theorem RF_o (v : Value) (lm : Nat → Int) (i : Nat) (ov ov' : Value) (dp ps : Nat) : upd (RF v lm i ov dp ps) 7 ov' = RF v lm i ov' dp ps := by
 funext j; unfold upd RF; by_cases h : j = 7
 ·subst h; simp
 ·simp [h]
theorem RF_d (v : Value) (lm : Nat → Int) (i : Nat) (ov : Value) (dp dp' ps : Nat) : upd (RF v lm i ov dp ps) 8 (.int .i64 (dp' : Int)) = RF v lm i ov dp' ps := by
 funext j; unfold upd RF; by_cases h : j = 8
 ·subst h; simp
 ·simp [h]
theorem RF_p (v : Value) (lm : Nat → Int) (i : Nat) (ov : Value) (dp ps ps' : Nat) : upd (RF v lm i ov dp ps) 9 (.int .i64 (ps' : Int)) = RF v lm i ov dp ps' := by
 funext j; unfold upd RF; by_cases h : j = 9
 ·subst h; simp
 ·simp [h]
structure JR [Ex] (W : World) (l : List UInt8) (v : Value) (lm : Nat → Int) (rb : Nat) (s : SS) (ov : Value) (hs : List HC) (w : World) : Prop where
 rd : Rd w rb (RF v lm s.i ov s.dp s.ps)
 st : ST w rb ov hs
 eq : s.hs = hs.map fun h => (h.k, h.vs.map (·.1), h.ks)
 sn : ∀ h ∈ hs, h.sn = h.ks
 bel : Below W.heap.size W w
 lo : W.heap.size ≤ rb
 le : s.i ≤ l.length
 n1 : hs.length ≤ s.i
 n2 : ∀ h ∈ hs, h.vs.length ≤ s.i ∧ h.ks.length ≤ s.i
 n3 : s.dp ≤ s.i
end Go.Proofs.YtfoehebnmommfaaGreatDoor
