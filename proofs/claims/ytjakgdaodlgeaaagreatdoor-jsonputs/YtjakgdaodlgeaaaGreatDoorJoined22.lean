/-
  What json's reader holds open: rows of values and of keys of its own, one in the other. No condition.
-/
import Derived.Test.YtjakgdaodlgeaaaGreatDoorJoined21
import Derived.Maps.OwnSet
import Derived.Maps.AppendAt
namespace Go.Proofs.YtjakgdaodlgeaaaGreatDoor
open Go.RowKit Go.Maps

abbrev PV := JV × (Nat → Value)
def flat7 (ps : List PV) : List Value := ps.flatMap fun p => [p.2 0, p.2 1, p.2 2, p.2 3, p.2 4, p.2 5, p.2 6]
theorem flat7_len (ps : List PV) : (flat7 ps).length = ps.length * 7 := by
  induction ps with
  | nil => rfl
  | cons r l ih => simp only [flat7, List.flatMap_cons, List.length_append, List.length_cons, List.length_nil] at ih ⊢; omega
theorem flat7_at (ps : List PV) (i j : Nat) (h : i < ps.length) (hj : j < 7) : (flat7 ps)[i * 7 + j]? = some ((ps[i]).2 j) := by
  induction ps generalizing i with
  | nil => simp at h
  | cons r l ih =>
    cases i with
    | zero =>
      match j, hj with
      | 0, _ => rfl
      | 1, _ => rfl
      | 2, _ => rfl
      | 3, _ => rfl
      | 4, _ => rfl
      | 5, _ => rfl
      | 6, _ => rfl
    | succ i =>
      have := ih i (by simpa using h)
      rw [show (i + 1) * 7 + j = (i * 7 + j) + 7 by omega]
      exact this
structure HC where
  k : Int
  vs : List PV
  ks : List ByteArray
  lv : Value
  kv : Value
  mv : Value
  sn : List ByteArray
def HC.cells (h : HC) : List Value := [.int .i64 h.k, h.lv, h.kv, h.mv]
def flatH (hs : List HC) : List Value := hs.flatMap HC.cells
theorem flatH_len (hs : List HC) : (flatH hs).length = hs.length * 4 := by
  induction hs with
  | nil => rfl
  | cons r l ih => simp only [flatH, HC.cells, List.flatMap_cons, List.length_append, List.length_cons, List.length_nil] at ih ⊢; omega
theorem flatH_app (a b : List HC) : flatH (a ++ b) = flatH a ++ flatH b := by simp [flatH]
theorem flatH_one (h : HC) : flatH [h] = [.int .i64 h.k, h.lv, h.kv, h.mv] := by simp [flatH, HC.cells]
def mblk : Value → Option Nat
  | .map o => o
  | _ => none
def HC.own (h : HC) : List Nat := h.lv.ownBlock.toList ++ (h.kv.ownBlock.toList ++ (mblk h.mv).toList)
def muts (ov : Value) (hs : List HC) : List Nat := ov.ownBlock.toList ++ hs.flatMap HC.own
def wX (rb : Nat) (ov : Value) (hs : List HC) : Nat → Prop := fun b => b = rb ∨ b ∈ muts ov hs
class Ex where
  E : Nat → Prop
def mX [Ex] (rb : Nat) (ov : Value) (hs : List HC) : Nat → Prop := fun b => Ex.E b ∨ wX rb ov hs b
def MapIs (w : World) (B : Nat) (mv : Value) (ks : List ByteArray) : Prop :=
  (mv = .map none ∧ ks = []) ∨ ∃ mb, ∃ D : DataW Unit, mv = .map (some mb) ∧ B ≤ mb ∧ w.ownsMap Tryz.prog 9 unitElem mb ks.length D ∧ ∀ s : ByteArray, Maps.has D (.string s.data.toList) = inK s ks
structure HO (w : World) (B : Nat) (X : Nat → Prop) (h : HC) : Prop where
  row : w.ownsRow B 31 7 h.lv h.vs.length (flat7 h.vs)
  vis : ∀ p ∈ h.vs, VI w X p.1 p.2
  krow : w.ownsRow B 9 1 h.kv h.ks.length (h.ks.map Value.string)
  ksz : ∀ s ∈ h.ks, s.size ≤ 1048576
  map : MapIs w B h.mv h.sn
structure ST [Ex] (w : World) (rb : Nat) (ov : Value) (hs : List HC) : Prop where
  row : w.ownsRow (rb + 1) 100 4 ov hs.length (flatH hs)
  nd : (muts ov hs).Nodup
  ho : ∀ h ∈ hs, HO w (rb + 1) (mX rb ov hs) h
  kd : ∀ h ∈ hs, h.k = 5 ∨ h.k = 6
  ex : ∀ b ∈ muts ov hs, ¬ Ex.E b
  exlt : ∀ b, Ex.E b → b < w.heap.size
theorem own_lt {w : World} {B : Nat} {e : TypeId} {size : Nat} {v : Value} {n : Nat} {xs : List Value} (h : w.ownsRow B e size v n xs) : ∀ b ∈ v.ownBlock.toList, B ≤ b ∧ b < w.heap.size := fun b hb => by
  have : v.ownBlock = some b := by simpa using hb
  exact h.lt b this
theorem map_lt {w : World} {B : Nat} {mv : Value} {ks : List ByteArray} (h : MapIs w B mv ks) : ∀ b ∈ (mblk mv).toList, B ≤ b ∧ b < w.heap.size := fun b hb => by
  rcases h with ⟨rfl, _⟩ | ⟨mb, D, rfl, h1, h2, _⟩
  · simp [mblk] at hb
  · simp [mblk] at hb; subst hb; exact ⟨h1, h2.lt⟩
theorem HO.lt {w : World} {B : Nat} {X : Nat → Prop} {h : HC} (hh : HO w B X h) : ∀ b ∈ h.own, B ≤ b ∧ b < w.heap.size := fun b hb => by
  unfold HC.own at hb
  rw [List.mem_append, List.mem_append] at hb
  rcases hb with hb | hb | hb
  · exact own_lt hh.row b hb
  · exact own_lt hh.krow b hb
  · exact map_lt hh.map b hb
theorem ST.lt [Ex] {w : World} {rb : Nat} {ov : Value} {hs : List HC} (h : ST w rb ov hs) : ∀ b ∈ muts ov hs, rb + 1 ≤ b ∧ b < w.heap.size := fun b hb => by
  unfold muts at hb
  rw [List.mem_append, List.mem_flatMap] at hb
  rcases hb with hb | ⟨x, hx, hb⟩
  · exact own_lt h.row b hb
  · exact (h.ho x hx).lt b hb
theorem own_keep {w w' : World} {B : Nat} {e : TypeId} {size : Nat} {v : Value} {n : Nat} {xs : List Value} (h : w.ownsRow B e size v n xs) (hk : ∀ b ∈ v.ownBlock.toList, w'.heap[b]? = w.heap[b]?) : w'.ownsRow B e size v n xs := by
  obtain ⟨h1, h2⟩ := h
  refine ⟨h1, ?_⟩
  rcases h2 with h2 | ⟨g, cap, cur, rfl, a, b, c⟩
  · exact .inl h2
  · exact .inr ⟨g, cap, cur, rfl, a, by rw [hk g (by simp [Value.ownBlock])]; exact b, c⟩
theorem map_keep {w w' : World} {B : Nat} {mv : Value} {ks : List ByteArray} (h : MapIs w B mv ks) (hk : ∀ b ∈ (mblk mv).toList, w'.heap[b]? = w.heap[b]?) : MapIs w' B mv ks := by
  rcases h with h | ⟨mb, D, rfl, h1, h2, h3⟩
  · exact .inl h
  · refine .inr ⟨mb, D, rfl, h1, ?_, h3⟩
    obtain ⟨es, clock, hb, rest⟩ := h2
    exact ⟨es, clock, by rw [hk mb (by simp [mblk])]; exact hb, rest⟩
theorem HO.keep {w w' : World} {B : Nat} {X X' : Nat → Prop} {h : HC} (hh : HO w B X h) (hk : ∀ b ∈ h.own, w'.heap[b]? = w.heap[b]?) (hX : ∀ b, ¬ X b → b < w.heap.size → w'.heap[b]? = w.heap[b]? ∧ ¬ X' b) : HO w' B X' h :=
  ⟨own_keep hh.row fun b hb => hk b (by unfold HC.own; simp [List.mem_append] at hb ⊢; exact Or.inl hb), fun p hp => (hh.vis p hp).carry hX,
   own_keep hh.krow fun b hb => hk b (by unfold HC.own; simp [List.mem_append] at hb ⊢; exact Or.inr (Or.inl hb)), hh.ksz, map_keep hh.map fun b hb => hk b (by unfold HC.own; simp [List.mem_append] at hb ⊢; exact Or.inr (Or.inr hb))⟩
structure Mv (rb : Nat) (ov : Value) (hs : List HC) (w : World) (ov' : Value) (hs' : List HC) (w' : World) : Prop where
  but : But (wX rb ov hs) w w'
  sub : ∀ b, b ∈ muts ov' hs' → b ∈ muts ov hs ∨ w.heap.size ≤ b
theorem Mv.refl (rb : Nat) (ov : Value) (hs : List HC) (w : World) : Mv rb ov hs w ov hs w := ⟨But.refl _ _, fun _ h => Or.inl h⟩
theorem Mv.trans {rb : Nat} {ov ov1 ov2 : Value} {hs hs1 hs2 : List HC} {w w1 w2 : World} (h : Mv rb ov hs w ov1 hs1 w1) (k : Mv rb ov1 hs1 w1 ov2 hs2 w2) : Mv rb ov hs w ov2 hs2 w2 := by
  refine ⟨⟨k.but.os.trans h.but.os, k.but.tape.trans h.but.tape, k.but.output.trans h.but.output, Nat.le_trans h.but.size k.but.size, fun i hi hx => ?_⟩, fun b hb => ?_⟩
  · refine (k.but.block i (Nat.lt_of_lt_of_le hi h.but.size) ?_).trans (h.but.block i hi hx)
    rintro (e | e)
    · exact hx (Or.inl e)
    · rcases h.sub i e with e | e
      · exact hx (Or.inr e)
      · omega
  · rcases k.sub b hb with e | e
    · exact h.sub b e
    · exact Or.inr (Nat.le_trans h.but.size e)
theorem Mv.rb {rb : Nat} {ov : Value} {hs : List HC} {w w' : World} (h : But (· = rb) w w') : Mv rb ov hs w ov hs w' := ⟨h.mono fun _ e => Or.inl e, fun _ h => Or.inl h⟩
theorem Mv.bel {rb : Nat} {ov ov1 : Value} {hs hs1 : List HC} {w w1 w2 : World} (h : Mv rb ov hs w ov1 hs1 w1) (k : Below w1.heap.size w1 w2) : Mv rb ov hs w ov1 hs1 w2 := ⟨h.but.below k, h.sub⟩
theorem Mv.out [Ex] {rb : Nat} {ov ov' : Value} {hs hs' : List HC} {w w' : World} (h : Mv rb ov hs w ov' hs' w') {b : Nat} (hb : ¬ mX rb ov hs b) (hlt : b < w.heap.size) : w'.heap[b]? = w.heap[b]? ∧ ¬ mX rb ov' hs' b :=
  ⟨h.but.block b hlt (fun e => hb (Or.inr e)), fun e => by
    rcases e with e | e | e
    · exact hb (Or.inl e)
    · exact hb (Or.inr (Or.inl e))
    · rcases h.sub b e with e | e
      · exact hb (Or.inr (Or.inr e))
      · omega⟩
theorem Mv.vi [Ex] {rb : Nat} {ov ov' : Value} {hs hs' : List HC} {w w' : World} (h : Mv rb ov hs w ov' hs' w') {x : JV} {f : Nat → Value} (hv : VI w (mX rb ov hs) x f) : VI w' (mX rb ov' hs') x f :=
  hv.carry fun _ hb hlt => h.out hb hlt
theorem Mv.below [Ex] {rb : Nat} {ov ov' : Value} {hs hs' : List HC} {w w' : World} (h : Mv rb ov hs w ov' hs' w') (hs0 : ST w rb ov hs) (hlt : rb < w.heap.size) : Below rb w w' :=
  ⟨h.but.os, h.but.tape, h.but.output, h.but.size, fun k hk => h.but.block k (by omega) (by
    rintro (e | e)
    · omega
    · have := (hs0.lt k e).1; omega)⟩
theorem ST.rb [Ex] {w w' : World} {rb : Nat} {ov : Value} {hs : List HC} (h : ST w rb ov hs) (hb : But (· = rb) w w') : ST w' rb ov hs := by
  have key : ∀ b ∈ muts ov hs, w'.heap[b]? = w.heap[b]? := fun b hb' => by
    obtain ⟨h1, h2⟩ := h.lt b hb'
    exact hb.block b h2 (by omega)
  refine ⟨own_keep h.row fun b hb' => key b (by unfold muts; rw [List.mem_append]; exact Or.inl hb'), h.nd, fun x hx => (h.ho x hx).keep (fun b hb' => key b (by unfold muts; rw [List.mem_append, List.mem_flatMap]; exact Or.inr ⟨x, hx, hb'⟩)) (fun b hb1 hlt => ⟨hb.block b hlt (fun e => hb1 (Or.inr (Or.inl e))), hb1⟩), h.kd, h.ex, fun b hb' => Nat.lt_of_lt_of_le (h.exlt b hb') hb.size⟩
theorem ST.bel [Ex] {w w' : World} {rb : Nat} {ov : Value} {hs : List HC} (h : ST w rb ov hs) (hb : Below w.heap.size w w') : ST w' rb ov hs := h.rb (But.ofBelow hb)
theorem ST.nil [Ex] (w : World) (rb : Nat) (hx : ∀ b, Ex.E b → b < w.heap.size) : ST w rb (.slice none 0 0) [] := ⟨World.ownsRow_nil w _ _ 4, by simp [muts, Value.ownBlock], fun h hh => by simp at hh, fun h hh => by simp at hh, fun b hb => by simp [muts, Value.ownBlock] at hb, hx⟩
theorem nodup_parts {a b : List Nat} (h : (a ++ b).Nodup) : a.Nodup ∧ b.Nodup ∧ ∀ x ∈ a, x ∉ b := by
  rw [List.nodup_append] at h
  exact ⟨h.1, h.2.1, fun x hx hb => h.2.2 x hx x hb rfl⟩
theorem muts_snoc (ov : Value) (hs0 : List HC) (h : HC) : muts ov (hs0 ++ [h]) = muts ov hs0 ++ h.own := by
  unfold muts; simp [List.flatMap_append]
theorem mem_muts {ov : Value} {hs : List HC} {h : HC} (hm : h ∈ hs) {b : Nat} (hb : b ∈ h.own) : b ∈ muts ov hs := by
  unfold muts; rw [List.mem_append, List.mem_flatMap]; exact Or.inr ⟨h, hm, hb⟩
theorem mem_mutsO {ov : Value} {hs : List HC} {b : Nat} (hb : b ∈ ov.ownBlock.toList) : b ∈ muts ov hs := by
  unfold muts; rw [List.mem_append]; exact Or.inl hb
structure Mr (rb : Nat) (ov : Value) (hs : List HC) (w : World) (ov' : Value) (hs' : List HC) (w' : World) : Prop where
  mv : Mv rb ov hs w ov' hs' w'
  kr : rb < w.heap.size → w'.heap[rb]? = w.heap[rb]?
theorem Mr.refl (rb : Nat) (ov : Value) (hs : List HC) (w : World) : Mr rb ov hs w ov hs w := ⟨Mv.refl _ _ _ _, fun _ => rfl⟩
theorem Mr.trans {rb : Nat} {ov ov1 ov2 : Value} {hs hs1 hs2 : List HC} {w w1 w2 : World} (h : Mr rb ov hs w ov1 hs1 w1) (k : Mr rb ov1 hs1 w1 ov2 hs2 w2) : Mr rb ov hs w ov2 hs2 w2 :=
  ⟨h.mv.trans k.mv, fun hl => (k.kr (Nat.lt_of_lt_of_le hl h.mv.but.size)).trans (h.kr hl)⟩
theorem Mr.bel {rb : Nat} {ov ov1 : Value} {hs hs1 : List HC} {w w1 w2 : World} (h : Mr rb ov hs w ov1 hs1 w1) (k : Below w1.heap.size w1 w2) : Mr rb ov hs w ov1 hs1 w2 :=
  ⟨h.mv.bel k, fun hl => (k.block rb (Nat.lt_of_lt_of_le hl h.mv.but.size)).trans (h.kr hl)⟩
theorem Mr.rd {rb : Nat} {ov ov' : Value} {hs hs' : List HC} {w w' : World} (h : Mr rb ov hs w ov' hs' w') {F : Nat → Value} (hr : Rd w rb F) : Rd w' rb F := fun j hj => by
  have he := h.kr hr.lt
  exact ⟨(World.cell?_of_block (w := w) (w' := w') he).trans (hr j hj).1, by have := (hr j hj).2; unfold World.frozen? at this ⊢; rw [he]; exact this⟩
theorem heap_set {w : World} {b : Nat} {cs : Array Value} {T : TypeId} (h : w.heap[b]? = some (.cells cs T (0, 0))) (i : Nat) (v : Value) : (w.setCell ⟨b, i, none⟩ v).heap[b]? = some (.cells (cs.setIfInBounds i v) T (0, 0)) := by
  obtain ⟨hl', e'⟩ := Array.getElem?_eq_some_iff.1 h
  simp only [World.setCell]
  rw [Array.getElem?_eq_getElem (by rw [Array.size_modify]; exact hl'), Array.getElem_modify_self, e']
  rfl
theorem flatH_one' (h : HC) : flatH [h] = h.cells := by simp [flatH]
theorem ST.upd [Ex] {w w' : World} {rb : Nat} {ob cap n : Nat} {hs0 : List HC} {h h' : HC} (hst : ST w rb (.slice (some ⟨ob, 0, none⟩) n cap) (hs0 ++ [h])) (i : Nat) (hi : i < 4) (u : Value) (hcells : h'.cells = h.cells.set i u)
    (hg : But (fun b => b ∈ h.own) w w') (hho : ∀ X' : Nat → Prop, X' = mX rb (.slice (some ⟨ob, 0, none⟩) n cap) (hs0 ++ [h']) → HO w' (rb + 1) X' h') (hown : ∀ b ∈ h'.own, b ∈ h.own ∨ w.heap.size ≤ b) (hnd : h'.own.Nodup) (hk : h'.k = h.k) :
    ST (w'.setCell ⟨ob, hs0.length * 4 + i, none⟩ u) rb (.slice (some ⟨ob, 0, none⟩) n cap) (hs0 ++ [h']) ∧ Mr rb (.slice (some ⟨ob, 0, none⟩) n cap) (hs0 ++ [h]) w (.slice (some ⟨ob, 0, none⟩) n cap) (hs0 ++ [h']) (w'.setCell ⟨ob, hs0.length * 4 + i, none⟩ u) := by
  have hnd0 := hst.nd
  rw [muts_snoc] at hnd0
  obtain ⟨n1, n2, n3⟩ := nodup_parts hnd0
  have hlt := hst.lt
  have hob : ob ∈ muts (.slice (some ⟨ob, 0, none⟩) n cap) hs0 := mem_mutsO (by simp [Value.ownBlock])
  have hobn : ob ∉ h.own := n3 ob hob
  have hob' : ob < w.heap.size := (hlt ob (by rw [muts_snoc]; exact List.mem_append_left _ hob)).2
  have hobn' : ob ∉ h'.own := fun hb => by
    rcases hown ob hb with hb | hb
    · exact hobn hb
    · omega
  have hset : ∀ b, b ≠ ob → (w'.setCell ⟨ob, hs0.length * 4 + i, none⟩ u).heap[b]? = w'.heap[b]? := fun b hb => Below.heap_setCell w' _ _ _ (fun e => hb e)
  have hK : ∀ b, ¬ wX rb (.slice (some ⟨ob, 0, none⟩) n cap) (hs0 ++ [h]) b → b < w.heap.size → (w'.setCell ⟨ob, hs0.length * 4 + i, none⟩ u).heap[b]? = w.heap[b]? := fun b hb hl => by
    have hb1 : b ∉ muts (.slice (some ⟨ob, 0, none⟩) n cap) (hs0 ++ [h]) := fun e => hb (Or.inr e)
    rw [muts_snoc, List.mem_append] at hb1
    rw [hset b (fun e => hb1 (Or.inl (e ▸ hob)))]
    exact hg.block b hl (fun e => hb1 (Or.inr e))
  have hS : ∀ b, b ∈ muts (.slice (some ⟨ob, 0, none⟩) n cap) (hs0 ++ [h']) → b ∈ muts (.slice (some ⟨ob, 0, none⟩) n cap) (hs0 ++ [h]) ∨ w.heap.size ≤ b := fun b hb => by
    rw [muts_snoc, List.mem_append] at hb ⊢
    rcases hb with hb | hb
    · exact Or.inl (Or.inl hb)
    · rcases hown b hb with hb | hb
      · exact Or.inl (Or.inr hb)
      · exact Or.inr hb
  have hM : Mv rb (.slice (some ⟨ob, 0, none⟩) n cap) (hs0 ++ [h]) w (.slice (some ⟨ob, 0, none⟩) n cap) (hs0 ++ [h']) (w'.setCell ⟨ob, hs0.length * 4 + i, none⟩ u) :=
    ⟨⟨hg.os, hg.tape, hg.output, by have := hg.size; simpa [World.setCell] using this, fun k hk1 hk2 => hK k hk2 hk1⟩, hS⟩
  have hex : ∀ b ∈ muts (.slice (some ⟨ob, 0, none⟩) n cap) (hs0 ++ [h']), ¬ Ex.E b := fun b hb e => by
    rcases hS b hb with h1 | h1
    · exact hst.ex b h1 e
    · have := hst.exlt b e; omega
  refine ⟨⟨?_, ?_, ?_, ?_, hex, fun b hb => Nat.lt_of_lt_of_le (hst.exlt b hb) hM.but.size⟩, ⟨hM, ?_⟩⟩
  · obtain ⟨r1, r2⟩ := hst.row
    rcases r2 with ⟨r2, _⟩ | ⟨g, cap', cur, r2, r3, r4, r5, r6, r7, r8⟩
    · cases r2
    · injection r2 with r2 r2n r2c
      injection r2 with r2
      injection r2 with r2 _ _
      subst r2 r2c
      refine ⟨by rw [flatH_len], Or.inr ⟨ob, cap, cur.setIfInBounds (hs0.length * 4 + i) u, by rw [r2n]; simp, r3, ?_, by simpa using r5, r6, by simpa using r7, ?_⟩⟩
      · have h1 : w'.heap[ob]? = some (.cells cur 100 (0, 0)) := by rw [hg.block ob hob' hobn]; exact r4
        exact heap_set h1 _ _
      · have hsz : hs0.length * 4 + i < (hs0 ++ [h]).length * 4 := by simp; omega
        rw [Array.toList_setIfInBounds, show (hs0 ++ [h']).length = (hs0 ++ [h]).length by simp, List.take_set, r8, flatH_app, flatH_app, flatH_one', flatH_one', hcells, List.set_append_right _ _ (by rw [flatH_len]; omega)]
        congr 2
        rw [flatH_len]; omega
  · rw [muts_snoc, List.nodup_append]
    refine ⟨n1, hnd, fun x hx y hy e => ?_⟩
    subst e
    rcases hown x hy with hy | hy
    · exact n3 x hx hy
    · have := (hlt x (by rw [muts_snoc]; exact List.mem_append_left _ hx)).2; omega
  · intro x hx
    rcases List.mem_append.1 hx with hx | hx
    · refine (hst.ho x (List.mem_append_left _ hx)).keep (fun b hb => ?_) (fun b hb hl => hM.out hb hl)
      have hb1 : b ∈ muts (.slice (some ⟨ob, 0, none⟩) n cap) hs0 := mem_muts hx hb
      have hne : b ≠ ob := fun e => by
        subst e
        unfold muts at n1
        rw [List.nodup_append] at n1
        exact n1.2.2 b (by simp [Value.ownBlock]) b (List.mem_flatMap.2 ⟨x, hx, hb⟩) rfl
      rw [hset b hne]
      exact hg.block b (hlt b (by rw [muts_snoc]; exact List.mem_append_left _ hb1)).2 (n3 b hb1)
    · obtain rfl : x = h' := by simpa using hx
      have hh := hho _ rfl
      exact hh.keep (fun b hb => hset b (fun e => hobn' (e ▸ hb))) (fun b hb hl => ⟨hset b (fun e => hb (Or.inr (Or.inr (by rw [muts_snoc, e]; exact List.mem_append_left _ hob)))), hb⟩)
  · intro x hx
    rcases List.mem_append.1 hx with hx | hx
    · exact hst.kd x (List.mem_append_left _ hx)
    · obtain rfl : x = h' := by simpa using hx
      rw [hk]; exact hst.kd h (by simp)
  · intro hl
    have h1 : rb ≠ ob := fun e => by have := (hlt ob (by rw [muts_snoc]; exact List.mem_append_left _ hob)).1; omega
    rw [hset rb h1]
    exact hg.block rb hl (fun e => by have := (hlt rb (by rw [muts_snoc]; exact List.mem_append_right _ e)).1; omega)
end Go.Proofs.YtjakgdaodlgeaaaGreatDoor
