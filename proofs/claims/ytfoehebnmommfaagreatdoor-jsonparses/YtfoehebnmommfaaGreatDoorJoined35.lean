/-
  What the document's reader holds open: values whose rows are its own, one in the other (as J8, of which mkJ52.py writes it). No condition.
  What opening, closing and turning do to what the document's reader holds open (as J10, of which mkJ53.py writes it); its state. No condition.
  The state of the document's reader in memory: sixteen cells, what is open, the value. No condition.
-/
import Derived.Test.YtfoehebnmommfaaGreatDoorJoined34
namespace Go.Proofs.YtfoehebnmommfaaGreatDoor.R5
open Go.RowKit Go.Maps

structure HC where
  k : Int
  vs : List PV
  ks : List ByteArray
  lv : Value
  kv : Value
def HC.cells (h : HC) : List Value := [.int .i64 h.k, .bool false, .string ⟨#[]⟩, .int .i64 0, .string ⟨#[]⟩, h.lv, h.kv]
def flatH (hs : List HC) : List Value := hs.flatMap HC.cells
theorem flatH_len (hs : List HC) : (flatH hs).length = hs.length * 7 := by
  induction hs with
  | nil => rfl
  | cons r l ih => simp only [flatH, HC.cells, List.flatMap_cons, List.length_append, List.length_cons, List.length_nil] at ih ⊢; omega
theorem flatH_app (a b : List HC) : flatH (a ++ b) = flatH a ++ flatH b := by simp [flatH]
theorem flatH_one (h : HC) : flatH [h] = [.int .i64 h.k, .bool false, .string ⟨#[]⟩, .int .i64 0, .string ⟨#[]⟩, h.lv, h.kv] := by simp [flatH, HC.cells]
def HC.own (h : HC) : List Nat := h.lv.ownBlock.toList ++ h.kv.ownBlock.toList
def muts (ov : Value) (hs : List HC) : List Nat := ov.ownBlock.toList ++ hs.flatMap HC.own
def wX (rb : Nat) (ov : Value) (hs : List HC) : Nat → Prop := fun b => b = rb ∨ b ∈ muts ov hs
def mX [Ex] (rb : Nat) (ov : Value) (hs : List HC) : Nat → Prop := fun b => Ex.E b ∨ wX rb ov hs b
structure HO (w : World) (B : Nat) (X : Nat → Prop) (h : HC) : Prop where
  row : w.ownsRow B 31 7 h.lv h.vs.length (flat7 h.vs)
  vis : ∀ p ∈ h.vs, VI w X p.1 p.2
  krow : w.ownsRow B 9 1 h.kv h.ks.length (h.ks.map Value.string)
  ksz : ∀ s ∈ h.ks, s.size ≤ 1048576
structure ST [Ex] (w : World) (rb : Nat) (ov : Value) (hs : List HC) : Prop where
  row : w.ownsRow (rb + 1) 31 7 ov hs.length (flatH hs)
  nd : (muts ov hs).Nodup
  ho : ∀ h ∈ hs, HO w (rb + 1) (mX rb ov hs) h
  kd : ∀ h ∈ hs, h.k = 5 ∨ h.k = 6
  ex : ∀ b ∈ muts ov hs, ¬ Ex.E b
  exlt : ∀ b, Ex.E b → b < w.heap.size
theorem HO.lt {w : World} {B : Nat} {X : Nat → Prop} {h : HC} (hh : HO w B X h) : ∀ b ∈ h.own, B ≤ b ∧ b < w.heap.size := fun b hb => by
  unfold HC.own at hb
  rw [List.mem_append] at hb
  rcases hb with hb | hb
  · exact own_lt hh.row b hb
  · exact own_lt hh.krow b hb
theorem ST.lt [Ex] {w : World} {rb : Nat} {ov : Value} {hs : List HC} (h : ST w rb ov hs) : ∀ b ∈ muts ov hs, rb + 1 ≤ b ∧ b < w.heap.size := fun b hb => by
  unfold muts at hb
  rw [List.mem_append, List.mem_flatMap] at hb
  rcases hb with hb | ⟨x, hx, hb⟩
  · exact own_lt h.row b hb
  · exact (h.ho x hx).lt b hb
theorem HO.keep {w w' : World} {B : Nat} {X X' : Nat → Prop} {h : HC} (hh : HO w B X h) (hk : ∀ b ∈ h.own, w'.heap[b]? = w.heap[b]?) (hX : ∀ b, ¬ X b → b < w.heap.size → w'.heap[b]? = w.heap[b]? ∧ ¬ X' b) : HO w' B X' h :=
  ⟨own_keep hh.row fun b hb => hk b (by unfold HC.own; simp [List.mem_append] at hb ⊢; exact Or.inl hb), fun p hp => (hh.vis p hp).carry hX,
   own_keep hh.krow fun b hb => hk b (by unfold HC.own; simp [List.mem_append] at hb ⊢; exact Or.inr hb), hh.ksz⟩
structure Mv (rb : Nat) (ov : Value) (hs : List HC) (w : World) (ov' : Value) (hs' : List HC) (w' : World) : Prop where
  but : But (wX rb ov hs) w w'
  sub : ∀ b, b ∈ muts ov' hs' → b ∈ muts ov hs ∨ w.heap.size ≤ b
theorem Mv.refl (rb : Nat) (ov : Value) (hs : List HC) (w : World) : Mv rb ov hs w ov hs w := ⟨But.refl _ _, fun _ h => Or.inl h⟩
theorem Mv.trans {rb : Nat} {ov ov1 ov2 : Value} {hs hs1 hs2 : List HC} {w w1 w2 : World} (h : Mv rb ov hs w ov1 hs1 w1) (k : Mv rb ov1 hs1 w1 ov2 hs2 w2) : Mv rb ov hs w ov2 hs2 w2 := by
  refine ⟨⟨k.but.os.trans h.but.os, k.but.tape.trans h.but.tape, k.but.output.trans h.but.output, Nat.le_trans h.but.size k.but.size, fun i hi hx => ?_⟩, fun b hb => ?_⟩
  · refine (k.but.block i (Nat.lt_of_lt_of_le hi h.but.size) ?_).trans (h.but.block i hi hx)
    rintro (e | e)
    · exact hx (Or.inl e)
    · rcases h.sub i e with e | e
      · exact hx (Or.inr e)
      · omega
  · rcases k.sub b hb with e | e
    · exact h.sub b e
    · exact Or.inr (Nat.le_trans h.but.size e)
theorem Mv.rb {rb : Nat} {ov : Value} {hs : List HC} {w w' : World} (h : But (· = rb) w w') : Mv rb ov hs w ov hs w' := ⟨h.mono fun _ e => Or.inl e, fun _ h => Or.inl h⟩
theorem Mv.bel {rb : Nat} {ov ov1 : Value} {hs hs1 : List HC} {w w1 w2 : World} (h : Mv rb ov hs w ov1 hs1 w1) (k : Below w1.heap.size w1 w2) : Mv rb ov hs w ov1 hs1 w2 := ⟨h.but.below k, h.sub⟩
theorem Mv.out [Ex] {rb : Nat} {ov ov' : Value} {hs hs' : List HC} {w w' : World} (h : Mv rb ov hs w ov' hs' w') {b : Nat} (hb : ¬ mX rb ov hs b) (hlt : b < w.heap.size) : w'.heap[b]? = w.heap[b]? ∧ ¬ mX rb ov' hs' b :=
  ⟨h.but.block b hlt (fun e => hb (Or.inr e)), fun e => by
    rcases e with e | e | e
    · exact hb (Or.inl e)
    · exact hb (Or.inr (Or.inl e))
    · rcases h.sub b e with e | e
      · exact hb (Or.inr (Or.inr e))
      · omega⟩
theorem Mv.vi [Ex] {rb : Nat} {ov ov' : Value} {hs hs' : List HC} {w w' : World} (h : Mv rb ov hs w ov' hs' w') {x : JV} {f : Nat → Value} (hv : VI w (mX rb ov hs) x f) : VI w' (mX rb ov' hs') x f :=
  hv.carry fun _ hb hlt => h.out hb hlt
theorem Mv.below [Ex] {rb : Nat} {ov ov' : Value} {hs hs' : List HC} {w w' : World} (h : Mv rb ov hs w ov' hs' w') (hs0 : ST w rb ov hs) (hlt : rb < w.heap.size) : Below rb w w' :=
  ⟨h.but.os, h.but.tape, h.but.output, h.but.size, fun k hk => h.but.block k (by omega) (by
    rintro (e | e)
    · omega
    · have := (hs0.lt k e).1; omega)⟩
theorem ST.rb [Ex] {w w' : World} {rb : Nat} {ov : Value} {hs : List HC} (h : ST w rb ov hs) (hb : But (· = rb) w w') : ST w' rb ov hs := by
  have key : ∀ b ∈ muts ov hs, w'.heap[b]? = w.heap[b]? := fun b hb' => by
    obtain ⟨h1, h2⟩ := h.lt b hb'
    exact hb.block b h2 (by omega)
  refine ⟨own_keep h.row fun b hb' => key b (by unfold muts; rw [List.mem_append]; exact Or.inl hb'), h.nd, fun x hx => (h.ho x hx).keep (fun b hb' => key b (by unfold muts; rw [List.mem_append, List.mem_flatMap]; exact Or.inr ⟨x, hx, hb'⟩)) (fun b hb1 hlt => ⟨hb.block b hlt (fun e => hb1 (Or.inr (Or.inl e))), hb1⟩), h.kd, h.ex, fun b hb' => Nat.lt_of_lt_of_le (h.exlt b hb') hb.size⟩
theorem ST.bel [Ex] {w w' : World} {rb : Nat} {ov : Value} {hs : List HC} (h : ST w rb ov hs) (hb : Below w.heap.size w w') : ST w' rb ov hs := h.rb (But.ofBelow hb)
theorem ST.nil [Ex] (w : World) (rb : Nat) (hx : ∀ b, Ex.E b → b < w.heap.size) : ST w rb (.slice none 0 0) [] := ⟨World.ownsRow_nil w _ _ 7, by simp [muts, Value.ownBlock], fun h hh => by simp at hh, fun h hh => by simp at hh, fun b hb => by simp [muts, Value.ownBlock] at hb, hx⟩
theorem muts_snoc (ov : Value) (hs0 : List HC) (h : HC) : muts ov (hs0 ++ [h]) = muts ov hs0 ++ h.own := by
  unfold muts; simp [List.flatMap_append]
theorem mem_muts {ov : Value} {hs : List HC} {h : HC} (hm : h ∈ hs) {b : Nat} (hb : b ∈ h.own) : b ∈ muts ov hs := by
  unfold muts; rw [List.mem_append, List.mem_flatMap]; exact Or.inr ⟨h, hm, hb⟩
theorem mem_mutsO {ov : Value} {hs : List HC} {b : Nat} (hb : b ∈ ov.ownBlock.toList) : b ∈ muts ov hs := by
  unfold muts; rw [List.mem_append]; exact Or.inl hb
structure Mr (rb : Nat) (ov : Value) (hs : List HC) (w : World) (ov' : Value) (hs' : List HC) (w' : World) : Prop where
  mv : Mv rb ov hs w ov' hs' w'
  kr : rb < w.heap.size → w'.heap[rb]? = w.heap[rb]?
theorem Mr.refl (rb : Nat) (ov : Value) (hs : List HC) (w : World) : Mr rb ov hs w ov hs w := ⟨Mv.refl _ _ _ _, fun _ => rfl⟩
theorem Mr.trans {rb : Nat} {ov ov1 ov2 : Value} {hs hs1 hs2 : List HC} {w w1 w2 : World} (h : Mr rb ov hs w ov1 hs1 w1) (k : Mr rb ov1 hs1 w1 ov2 hs2 w2) : Mr rb ov hs w ov2 hs2 w2 :=
  ⟨h.mv.trans k.mv, fun hl => (k.kr (Nat.lt_of_lt_of_le hl h.mv.but.size)).trans (h.kr hl)⟩
theorem Mr.bel {rb : Nat} {ov ov1 : Value} {hs hs1 : List HC} {w w1 w2 : World} (h : Mr rb ov hs w ov1 hs1 w1) (k : Below w1.heap.size w1 w2) : Mr rb ov hs w ov1 hs1 w2 :=
  ⟨h.mv.bel k, fun hl => (k.block rb (Nat.lt_of_lt_of_le hl h.mv.but.size)).trans (h.kr hl)⟩
theorem Mr.rd {rb : Nat} {ov ov' : Value} {hs hs' : List HC} {w w' : World} (h : Mr rb ov hs w ov' hs' w') {F : Nat → Value} (hr : Rd w rb F) : Rd w' rb F := fun j hj => by
  have he := h.kr hr.lt
  exact ⟨(World.cell?_of_block (w := w) (w' := w') he).trans (hr j hj).1, by have := (hr j hj).2; unfold World.frozen? at this ⊢; rw [he]; exact this⟩
theorem flatH_one' (h : HC) : flatH [h] = h.cells := by simp [flatH]
theorem ST.upd [Ex] {w w' : World} {rb : Nat} {ob cap n : Nat} {hs0 : List HC} {h h' : HC} (hst : ST w rb (.slice (some ⟨ob, 0, none⟩) n cap) (hs0 ++ [h])) (i : Nat) (hi : i < 7) (u : Value) (hcells : h'.cells = h.cells.set i u)
    (hg : But (fun b => b ∈ h.own) w w') (hho : ∀ X' : Nat → Prop, X' = mX rb (.slice (some ⟨ob, 0, none⟩) n cap) (hs0 ++ [h']) → HO w' (rb + 1) X' h') (hown : ∀ b ∈ h'.own, b ∈ h.own ∨ w.heap.size ≤ b) (hnd : h'.own.Nodup) (hk : h'.k = h.k) :
    ST (w'.setCell ⟨ob, hs0.length * 7 + i, none⟩ u) rb (.slice (some ⟨ob, 0, none⟩) n cap) (hs0 ++ [h']) ∧ Mr rb (.slice (some ⟨ob, 0, none⟩) n cap) (hs0 ++ [h]) w (.slice (some ⟨ob, 0, none⟩) n cap) (hs0 ++ [h']) (w'.setCell ⟨ob, hs0.length * 7 + i, none⟩ u) := by
  have hnd0 := hst.nd
  rw [muts_snoc] at hnd0
  obtain ⟨n1, n2, n3⟩ := nodup_parts hnd0
  have hlt := hst.lt
  have hob : ob ∈ muts (.slice (some ⟨ob, 0, none⟩) n cap) hs0 := mem_mutsO (by simp [Value.ownBlock])
  have hobn : ob ∉ h.own := n3 ob hob
  have hob' : ob < w.heap.size := (hlt ob (by rw [muts_snoc]; exact List.mem_append_left _ hob)).2
  have hobn' : ob ∉ h'.own := fun hb => by
    rcases hown ob hb with hb | hb
    · exact hobn hb
    · omega
  have hset : ∀ b, b ≠ ob → (w'.setCell ⟨ob, hs0.length * 7 + i, none⟩ u).heap[b]? = w'.heap[b]? := fun b hb => Below.heap_setCell w' _ _ _ (fun e => hb e)
  have hK : ∀ b, ¬ wX rb (.slice (some ⟨ob, 0, none⟩) n cap) (hs0 ++ [h]) b → b < w.heap.size → (w'.setCell ⟨ob, hs0.length * 7 + i, none⟩ u).heap[b]? = w.heap[b]? := fun b hb hl => by
    have hb1 : b ∉ muts (.slice (some ⟨ob, 0, none⟩) n cap) (hs0 ++ [h]) := fun e => hb (Or.inr e)
    rw [muts_snoc, List.mem_append] at hb1
    rw [hset b (fun e => hb1 (Or.inl (e ▸ hob)))]
    exact hg.block b hl (fun e => hb1 (Or.inr e))
  have hS : ∀ b, b ∈ muts (.slice (some ⟨ob, 0, none⟩) n cap) (hs0 ++ [h']) → b ∈ muts (.slice (some ⟨ob, 0, none⟩) n cap) (hs0 ++ [h]) ∨ w.heap.size ≤ b := fun b hb => by
    rw [muts_snoc, List.mem_append] at hb ⊢
    rcases hb with hb | hb
    · exact Or.inl (Or.inl hb)
    · rcases hown b hb with hb | hb
      · exact Or.inl (Or.inr hb)
      · exact Or.inr hb
  have hM : Mv rb (.slice (some ⟨ob, 0, none⟩) n cap) (hs0 ++ [h]) w (.slice (some ⟨ob, 0, none⟩) n cap) (hs0 ++ [h']) (w'.setCell ⟨ob, hs0.length * 7 + i, none⟩ u) :=
    ⟨⟨hg.os, hg.tape, hg.output, by have := hg.size; simpa [World.setCell] using this, fun k hk1 hk2 => hK k hk2 hk1⟩, hS⟩
  have hex : ∀ b ∈ muts (.slice (some ⟨ob, 0, none⟩) n cap) (hs0 ++ [h']), ¬ Ex.E b := fun b hb e => by
    rcases hS b hb with h1 | h1
    · exact hst.ex b h1 e
    · have := hst.exlt b e; omega
  refine ⟨⟨?_, ?_, ?_, ?_, hex, fun b hb => Nat.lt_of_lt_of_le (hst.exlt b hb) hM.but.size⟩, ⟨hM, ?_⟩⟩
  · obtain ⟨r1, r2⟩ := hst.row
    rcases r2 with ⟨r2, _⟩ | ⟨g, cap', cur, r2, r3, r4, r5, r6, r7, r8⟩
    · cases r2
    · injection r2 with r2 r2n r2c
      injection r2 with r2
      injection r2 with r2 _ _
      subst r2 r2c
      refine ⟨by rw [flatH_len], Or.inr ⟨ob, cap, cur.setIfInBounds (hs0.length * 7 + i) u, by rw [r2n]; simp, r3, ?_, by simpa using r5, r6, by simpa using r7, ?_⟩⟩
      · have h1 : w'.heap[ob]? = some (.cells cur 31 (0, 0)) := by rw [hg.block ob hob' hobn]; exact r4
        exact heap_set h1 _ _
      · have hsz : hs0.length * 7 + i < (hs0 ++ [h]).length * 7 := by simp; omega
        rw [Array.toList_setIfInBounds, show (hs0 ++ [h']).length = (hs0 ++ [h]).length by simp, List.take_set, r8, flatH_app, flatH_app, flatH_one', flatH_one', hcells, List.set_append_right _ _ (by rw [flatH_len]; omega)]
        congr 2
        rw [flatH_len]; omega
  · rw [muts_snoc, List.nodup_append]
    refine ⟨n1, hnd, fun x hx y hy e => ?_⟩
    subst e
    rcases hown x hy with hy | hy
    · exact n3 x hx hy
    · have := (hlt x (by rw [muts_snoc]; exact List.mem_append_left _ hx)).2; omega
  · intro x hx
    rcases List.mem_append.1 hx with hx | hx
    · refine (hst.ho x (List.mem_append_left _ hx)).keep (fun b hb => ?_) (fun b hb hl => hM.out hb hl)
      have hb1 : b ∈ muts (.slice (some ⟨ob, 0, none⟩) n cap) hs0 := mem_muts hx hb
      have hne : b ≠ ob := fun e => by
        subst e
        unfold muts at n1
        rw [List.nodup_append] at n1
        exact n1.2.2 b (by simp [Value.ownBlock]) b (List.mem_flatMap.2 ⟨x, hx, hb⟩) rfl
      rw [hset b hne]
      exact hg.block b (hlt b (by rw [muts_snoc]; exact List.mem_append_left _ hb1)).2 (n3 b hb1)
    · obtain rfl : x = h' := by simpa using hx
      have hh := hho _ rfl
      exact hh.keep (fun b hb => hset b (fun e => hobn' (e ▸ hb))) (fun b hb hl => ⟨hset b (fun e => hb (Or.inr (Or.inr (by rw [muts_snoc, e]; exact List.mem_append_left _ hob)))), hb⟩)
  · intro x hx
    rcases List.mem_append.1 hx with hx | hx
    · exact hst.kd x (List.mem_append_left _ hx)
    · obtain rfl : x = h' := by simpa using hx
      rw [hk]; exact hst.kd h (by simp)
  · intro hl
    have h1 : rb ≠ ob := fun e => by have := (hlt ob (by rw [muts_snoc]; exact List.mem_append_left _ hob)).1; omega
    rw [hset rb h1]
    exact hg.block rb hl (fun e => by have := (hlt rb (by rw [muts_snoc]; exact List.mem_append_right _ e)).1; omega)
end Go.Proofs.YtfoehebnmommfaaGreatDoor.R5

namespace Go.Proofs.YtfoehebnmommfaaGreatDoor.R5
open Go.RowKit Go.Maps

theorem ST.upd0 [Ex] {w w' : World} {rb : Nat} {ov : Value} {hs0 : List HC} {h h' : HC} (hst : ST w rb ov (hs0 ++ [h])) (hcells : h'.cells = h.cells)
  (hg : But (fun b => b ∈ h.own) w w') (hho : ∀ X' : Nat → Prop, X' = mX rb ov (hs0 ++ [h']) → HO w' (rb + 1) X' h') (hown : ∀ b ∈ h'.own, b ∈ h.own ∨ w.heap.size ≤ b) (hnd : h'.own.Nodup) (hk : h'.k = h.k) :
  ST w' rb ov (hs0 ++ [h']) ∧ Mr rb ov (hs0 ++ [h]) w ov (hs0 ++ [h']) w' := by
 have hnd0 := hst.nd
 rw [muts_snoc] at hnd0
 obtain ⟨n1, n2, n3⟩ := nodup_parts hnd0
 have hlt := hst.lt
 have hS : ∀ b, b ∈ muts ov (hs0 ++ [h']) → b ∈ muts ov (hs0 ++ [h]) ∨ w.heap.size ≤ b := fun b hb => by
  rw [muts_snoc, List.mem_append] at hb ⊢
  rcases hb with hb | hb
  ·exact Or.inl (Or.inl hb)
  ·rcases hown b hb with hb | hb
   ·exact Or.inl (Or.inr hb)
   ·exact Or.inr hb
 have hM : Mv rb ov (hs0 ++ [h]) w ov (hs0 ++ [h']) w' :=
  ⟨hg.mono fun b hb => Or.inr (by rw [muts_snoc]; exact List.mem_append_right _ hb), hS⟩
 have hex : ∀ b ∈ muts ov (hs0 ++ [h']), ¬ Ex.E b := fun b hb e => by
  rcases hS b hb with h1 | h1
  ·exact hst.ex b h1 e
  ·have := hst.exlt b e; omega
 refine ⟨⟨?_, ?_, ?_, ?_, hex, fun b hb => Nat.lt_of_lt_of_le (hst.exlt b hb) hM.but.size⟩, ⟨hM, fun hl => hg.block rb hl (fun e => by have := (hlt rb (by rw [muts_snoc]; exact List.mem_append_right _ e)).1; omega)⟩⟩
 ·have e : flatH (hs0 ++ [h']) = flatH (hs0 ++ [h]) := by rw [flatH_app, flatH_app, flatH_one', flatH_one', hcells]
  rw [e, show (hs0 ++ [h']).length = (hs0 ++ [h]).length by simp]
  refine own_keep hst.row fun b hb => ?_
  have hb1 : b ∈ muts ov hs0 := mem_mutsO hb
  exact hg.block b (hlt b (by rw [muts_snoc]; exact List.mem_append_left _ hb1)).2 (n3 b hb1)
 ·rw [muts_snoc, List.nodup_append]
  refine ⟨n1, hnd, fun x hx y hy e => ?_⟩
  subst e
  rcases hown x hy with hy | hy
  ·exact n3 x hx hy
  ·have := (hlt x (by rw [muts_snoc]; exact List.mem_append_left _ hx)).2; omega
 ·intro x hx
  rcases List.mem_append.1 hx with hx | hx
  ·refine (hst.ho x (List.mem_append_left _ hx)).keep (fun b hb => ?_) (fun b hb hl => hM.out hb hl)
   have hb1 : b ∈ muts ov hs0 := mem_muts hx hb
   exact hg.block b (hlt b (by rw [muts_snoc]; exact List.mem_append_left _ hb1)).2 (n3 b hb1)
  ·obtain rfl : x = h' := by simpa using hx
   exact hho _ rfl
 ·intro x hx
  rcases List.mem_append.1 hx with hx | hx
  ·exact hst.kd x (List.mem_append_left _ hx)
  ·obtain rfl : x = h' := by simpa using hx
   rw [hk]; exact hst.kd h (by simp)
def h0 (k : Int) : HC := ⟨k, [], [], .slice none 0 0, .slice none 0 0⟩
theorem h0_own (k : Int) : (h0 k).own = [] := by simp [h0, HC.own, Value.ownBlock]
theorem h0_ho (w : World) (B : Nat) (X : Nat → Prop) (k : Int) : HO w B X (h0 k) :=
 ⟨World.ownsRow_nil w B _ 7, fun p hp => by simp [h0] at hp, World.ownsRow_nil w B _ 1, fun s hs => by simp [h0] at hs⟩
theorem ST.opened [Ex] {w w' : World} {rb : Nat} {ov ov' : Value} {hs : List HC} {k : Int} (hst : ST w rb ov hs) (hk : k = 5 ∨ k = 6)
  (hrow : w'.ownsRow (rb + 1) 31 7 ov' (hs.length + 1) (flatH hs ++ [.int .i64 k, .bool false, .string ⟨#[]⟩, .int .i64 0, .string ⟨#[]⟩, .slice none 0 0, .slice none 0 0])) (hg : w.grownBy w' ov.ownBlock) (h4 : ov'.ownBlock = ov.ownBlock ∨ ov'.ownBlock = some w.heap.size) :
  ST w' rb ov' (hs ++ [h0 k]) ∧ Mv rb ov hs w ov' (hs ++ [h0 k]) w' := by
 have hlt := hst.lt
 have e1 : muts ov' (hs ++ [h0 k]) = ov'.ownBlock.toList ++ hs.flatMap HC.own := by
  rw [muts_snoc, h0_own, List.append_nil]; rfl
 have hnd := hst.nd
 unfold muts at hnd
 obtain ⟨n1, n2, n3⟩ := nodup_parts hnd
 have hsub : ∀ b, b ∈ muts ov' (hs ++ [h0 k]) → b ∈ muts ov hs ∨ w.heap.size ≤ b := fun b hb => by
  rw [e1, List.mem_append] at hb
  rcases hb with hb | hb
  ·rcases h4 with h4 | h4
   ·rw [h4] at hb; exact Or.inl (mem_mutsO hb)
   ·rw [h4] at hb; simp at hb; exact Or.inr (by omega)
  ·unfold muts; rw [List.mem_append]; exact Or.inl (Or.inr hb)
 have hM : Mv rb ov hs w ov' (hs ++ [h0 k]) w' :=
  ⟨⟨hg.os, hg.tape, hg.output, hg.size, fun i hi hx => hg.block i hi (fun e => hx (Or.inr (mem_mutsO (by rw [← e]; simp))))⟩, hsub⟩
 have hex : ∀ b ∈ muts ov' (hs ++ [h0 k]), ¬ Ex.E b := fun b hb e => by
  rcases hsub b hb with h1 | h1
  ·exact hst.ex b h1 e
  ·have := hst.exlt b e; omega
 refine ⟨⟨?_, ?_, ?_, ?_, hex, fun b hb => Nat.lt_of_lt_of_le (hst.exlt b hb) hM.but.size⟩, hM⟩
 ·rw [flatH_app, flatH_one, List.length_append]
  exact hrow
 ·rw [e1, List.nodup_append]
  refine ⟨by cases ov'.ownBlock <;> simp, n2, fun x hx y hy e => ?_⟩
  subst e
  rcases h4 with h4 | h4
  ·rw [h4] at hx; exact n3 x hx hy
  ·rw [h4] at hx
   simp at hx
   have := (hlt x (by unfold muts; rw [List.mem_append]; exact Or.inr hy)).2
   omega
 ·intro x hx
  rcases List.mem_append.1 hx with hx | hx
  ·refine (hst.ho x hx).keep (fun b hb => ?_) (fun b hb hl => hM.out hb hl)
   have hb1 : b ∈ hs.flatMap HC.own := List.mem_flatMap.2 ⟨x, hx, hb⟩
   refine hg.block b (hlt b (mem_muts hx hb)).2 (fun e => ?_)
   exact n3 b (by rw [← e]; simp) hb1
  ·obtain rfl : x = h0 k := by simpa using hx
   exact h0_ho _ _ _ _
 ·intro x hx
  rcases List.mem_append.1 hx with hx | hx
  ·exact hst.kd x hx
  ·obtain rfl : x = h0 k := by simpa using hx
   exact hk
def hval (h : HC) : JV := .mk h.k false ⟨#[]⟩ 0 ⟨#[]⟩ (h.vs.map (·.1)) h.ks
def hcel (h : HC) : Nat → Value := fun i => [Value.int .i64 h.k, .bool false, .string ⟨#[]⟩, .int .i64 0, .string ⟨#[]⟩, h.lv, h.kv].getD i .nilIface
theorem ST.closed [Ex] {w : World} {rb : Nat} {ob cap n : Nat} {hs0 : List HC} {h : HC} (hst : ST w rb (.slice (some ⟨ob, 0, none⟩) n cap) (hs0 ++ [h])) :
  ST w rb (.slice (some ⟨ob, 0, none⟩) hs0.length cap) hs0 ∧ VI w (mX rb (.slice (some ⟨ob, 0, none⟩) hs0.length cap) hs0) (hval h) (hcel h) ∧ Mv rb (.slice (some ⟨ob, 0, none⟩) n cap) (hs0 ++ [h]) w (.slice (some ⟨ob, 0, none⟩) hs0.length cap) hs0 w := by
 have hnd0 := hst.nd
 rw [muts_snoc] at hnd0
 obtain ⟨n1, n2, n3⟩ := nodup_parts hnd0
 have hm : muts (.slice (some ⟨ob, 0, none⟩) hs0.length cap) hs0 = muts (.slice (some ⟨ob, 0, none⟩) n cap) hs0 := rfl
 have hsub : ∀ b, mX rb (.slice (some ⟨ob, 0, none⟩) hs0.length cap) hs0 b → mX rb (.slice (some ⟨ob, 0, none⟩) n cap) (hs0 ++ [h]) b := fun b hb => by
  rcases hb with hb | hb | hb
  ·exact Or.inl hb
  ·exact Or.inr (Or.inl hb)
  ·exact Or.inr (Or.inr (by rw [muts_snoc]; exact List.mem_append_left _ hb))
 have hh := hst.ho h (by simp)
 have hown : ∀ b ∈ h.own, ¬ mX rb (.slice (some ⟨ob, 0, none⟩) hs0.length cap) hs0 b := fun b hb e => by
  rcases e with e | e | e
  ·exact hst.ex b (by rw [muts_snoc]; exact List.mem_append_right _ hb) e
  ·have := (hst.lt b (by rw [muts_snoc]; exact List.mem_append_right _ hb)).1; omega
  ·exact n3 b e hb
 refine ⟨⟨?_, hm ▸ n1, fun x hx => (hst.ho x (List.mem_append_left _ hx)).keep (fun b _ => rfl) (fun b hb _ => ⟨rfl, fun e => hb (hsub b e)⟩), fun x hx => hst.kd x (List.mem_append_left _ hx), fun b hb => hst.ex b (by rw [muts_snoc]; exact List.mem_append_left _ hb), hst.exlt⟩, ?_, Mv.mk (But.refl _ _) (fun b hb => Or.inl (by rw [muts_snoc]; exact List.mem_append_left _ hb))⟩
 ·obtain ⟨r1, r2⟩ := hst.row
  rcases r2 with ⟨r2, _⟩ | ⟨g, cap', cur, r2, r3, r4, r5, r6, r7, r8⟩
  ·cases r2
  ·injection r2 with r2 r2n r2c
   injection r2 with r2
   injection r2 with r2 _ _
   subst r2 r2c
   refine ⟨flatH_len _, Or.inr ⟨ob, cap, cur, rfl, r3, r4, by simp at r5; omega, r6, r7, ?_⟩⟩
   have e : List.take (hs0.length * 7) (flatH (hs0 ++ [h])) = flatH hs0 := by rw [flatH_app, List.take_append_of_le_length (by rw [flatH_len]; exact Nat.le_refl _), List.take_of_length_le (by rw [flatH_len]; exact Nat.le_refl _)]
   rw [← e, ← r8, List.take_take]
   congr 1
   simp
 ·obtain ⟨ao, c1, e1, q1, q2⟩ := own_shape hh.row
  obtain ⟨ko, c2, e2, q3, q4⟩ := own_shape hh.krow
  have hkd : h.k = 5 ∨ h.k = 6 := hst.kd h (by simp)
  refine VI.mk ao c1 (fun i => ((h.vs.getD i (zeroJ 0, fun _ => .nilIface)).2)) rfl rfl rfl rfl rfl (by show h.lv = _; rw [e1]; simp) ?_ ⟨by simpa using q1, q2⟩ ⟨by decide, by decide⟩ ⟨by rcases hkd with e | e <;> rw [e] <;> decide, by decide⟩ ?_ ?_
  ·refine ⟨ko, c2, e2, q3, q4, fun s hs => Nat.le_trans (hh.ksz s hs) (by unfold maxLen; omega), ?_⟩
   rcases hh.krow.2 with ⟨_, hz⟩ | ⟨g, cap2, cur, e3, hB, _⟩
   ·exact Or.inl (List.eq_nil_of_length_eq_zero hz)
   ·rw [e2] at e3
    injection e3 with e3 _ e5
    subst e3 e5
    refine Or.inr ⟨g, 0, rfl, hown g (by unfold HC.own; rw [e2]; simp [Value.ownBlock]), fun i hi => ?_⟩
    have := own_cell (e2 ▸ hh.krow) i (.string h.ks[i]) (by simp [hi])
    rw [Nat.zero_add]
    exact this
  ·rcases hh.row.2 with ⟨_, hz⟩ | ⟨g, cap2, cur, e3, hB, _⟩
   ·exact Or.inl (by rw [List.eq_nil_of_length_eq_zero hz]; rfl)
   ·rw [e1] at e3
    injection e3 with e3 _ e5
    subst e3 e5
    refine Or.inr ⟨g, 0, rfl, hown g (by unfold HC.own; rw [e1]; simp [Value.ownBlock]), fun i hi j hj => ?_⟩
    have hi' : i < h.vs.length := by simpa using hi
    have := own_cell (e1 ▸ hh.row) (i * 7 + j) _ (flat7_at h.vs i j hi' hj)
    rw [Nat.zero_add, this, List.getD_eq_getElem?_getD, List.getElem?_eq_getElem hi']
    rfl
  ·intro i hi
   have hi' : i < h.vs.length := by simpa using hi
   have := hh.vis (h.vs[i]) (List.getElem_mem hi')
   rw [List.getElem_map]
   simp only [List.getD_eq_getElem?_getD, List.getElem?_eq_getElem hi', Option.getD_some]
   exact this.carry fun b hb _ => ⟨rfl, fun e => hb (hsub b e)⟩
def RF (lm : Nat → Int) (ov : Value) (nx : Nat) (f : Nat → Value) (dp ps : Nat) : Nat → Value := fun j =>
 if j = 5 then ov else if j = 6 then .int .i64 (nx : Int) else if j = 14 then .int .i64 (dp : Int) else if j = 15 then .int .i64 (ps : Int) else if j < 5 then .int .i64 (lm j) else f (j - 7)
theorem RF_o (lm : Nat → Int) (ov ov' : Value) (nx : Nat) (f : Nat → Value) (dp ps : Nat) : upd (RF lm ov nx f dp ps) 5 ov' = RF lm ov' nx f dp ps := by
 funext j; unfold upd RF; by_cases h : j = 5
 ·subst h; simp
 ·simp [h]
theorem RF_n (lm : Nat → Int) (ov : Value) (nx nx' : Nat) (f : Nat → Value) (dp ps : Nat) : upd (RF lm ov nx f dp ps) 6 (.int .i64 (nx' : Int)) = RF lm ov nx' f dp ps := by
 funext j; unfold upd RF; by_cases h : j = 6
 ·subst h; simp
 ·simp [h]
theorem RF_d (lm : Nat → Int) (ov : Value) (nx : Nat) (f : Nat → Value) (dp dp' ps : Nat) : upd (RF lm ov nx f dp ps) 14 (.int .i64 (dp' : Int)) = RF lm ov nx f dp' ps := by
 funext j; unfold upd RF; by_cases h : j = 14
 ·subst h; simp
 ·simp [h]
theorem RF_p (lm : Nat → Int) (ov : Value) (nx : Nat) (f : Nat → Value) (dp ps ps' : Nat) : upd (RF lm ov nx f dp ps) 15 (.int .i64 (ps' : Int)) = RF lm ov nx f dp ps' := by
 funext j; unfold upd RF; by_cases h : j = 15
 ·subst h; simp
 ·simp [h]
end Go.Proofs.YtfoehebnmommfaaGreatDoor.R5

namespace Go.Proofs.YtfoehebnmommfaaGreatDoor.R5
open Go.RowKit Go.Maps

def Rd (w : World) (rb : Nat) (F : Nat → Value) : Prop := ∀ j, j < 16 → w.cell? ⟨rb, j, none⟩ = some (F j) ∧ w.frozen? ⟨rb, j, none⟩ = false
theorem Rd.lt {w : World} {rb : Nat} {F : Nat → Value} (h : Rd w rb F) : rb < w.heap.size := World.block_lt_of_cell? w _ (h 0 (by omega)).1
theorem Rd.below {w w' : World} {rb : Nat} {F : Nat → Value} (h : Rd w rb F) (hb : Below w.heap.size w w') : Rd w' rb F := fun j hj =>
 ⟨(hb.cell (p := ⟨rb, j, none⟩) h.lt).trans (h j hj).1, (hb.frozen (p := ⟨rb, j, none⟩) h.lt).trans (h j hj).2⟩
theorem Rd.set {w : World} {rb : Nat} {F : Nat → Value} (h : Rd w rb F) (i : Nat) (v : Value) : Rd (w.setCell ⟨rb, i, none⟩ v) rb (upd F i v) := fun j hj => by
 refine ⟨?_, by rw [World.frozen?_setCell]; exact (h j hj).2⟩
 by_cases e : j = i
 ·subst e
  rw [upd_same]
  exact World.cell?_setCell_same _ _ _ (h j hj).1
 ·rw [upd_other _ _ e, World.cell?_setCell_other _ _ _ _ (by intro h; injection h with _ h2 _; exact e h2.symm)]
  exact (h j hj).1
theorem Rd.c {w : World} {rb : Nat} {F : Nat → Value} (h : Rd w rb F) (j : Nat) (hj : j < 16) {u : Value} (e : F j = u) : w.cell? ⟨rb, j, none⟩ = some u := by rw [(h j hj).1, e]
theorem Rd.keep {w w' : World} {rb : Nat} {F : Nat → Value} (h : Rd w rb F) (he : w'.heap[rb]? = w.heap[rb]?) : Rd w' rb F := fun j hj =>
 ⟨(World.cell?_of_block (w := w) (w' := w') he).trans (h j hj).1, by have := (h j hj).2; unfold World.frozen? at this ⊢; rw [he]; exact this⟩
theorem Mr.rd5 {rb : Nat} {ov ov' : Value} {hs hs' : List HC} {w w' : World} (h : Mr rb ov hs w ov' hs' w') {F : Nat → Value} (hr : Rd w rb F) : Rd w' rb F := hr.keep (h.kr hr.lt)
theorem RF_v (lm : Nat → Int) (ov : Value) (nx : Nat) (f g : Nat → Value) (dp ps : Nat) : upd (upd (upd (upd (upd (upd (upd (RF lm ov nx f dp ps) 7 (g 0)) 8 (g 1)) 9 (g 2)) 10 (g 3)) 11 (g 4)) 12 (g 5)) 13 (g 6) = fun j => if j < 16 then RF lm ov nx g dp ps j else RF lm ov nx f dp ps j := by
 funext j
 by_cases h : j < 16
 ·rw [if_pos h]
  have : j = 0 ∨ j = 1 ∨ j = 2 ∨ j = 3 ∨ j = 4 ∨ j = 5 ∨ j = 6 ∨ j = 7 ∨ j = 8 ∨ j = 9 ∨ j = 10 ∨ j = 11 ∨ j = 12 ∨ j = 13 ∨ j = 14 ∨ j = 15 := by omega
  rcases this with rfl | rfl | rfl | rfl | rfl | rfl | rfl | rfl | rfl | rfl | rfl | rfl | rfl | rfl | rfl | rfl <;> rfl
 ·rw [if_neg h]
  unfold upd
  rw [if_neg (by omega), if_neg (by omega), if_neg (by omega), if_neg (by omega), if_neg (by omega), if_neg (by omega), if_neg (by omega)]
theorem Rd.congr {w : World} {rb : Nat} {F G : Nat → Value} (h : Rd w rb F) (e : ∀ j, j < 16 → F j = G j) : Rd w rb G := fun j hj => by rw [← e j hj]; exact h j hj
structure JR [Ex] (W : World) (lm : Nat → Int) (rb N : Nat) (p : PR) (ov : Value) (hs : List HC) (f : Nat → Value) (w : World) : Prop where
 rd : Rd w rb (RF lm ov p.nx f p.dp p.ps)
 st : ST w rb ov hs
 eq : p.hs = hs.map fun h => (h.k, h.vs.map (·.1), h.ks)
 vi : VI w (mX rb ov hs) p.v f
 bel : Below W.heap.size W w
 lo : W.heap.size ≤ rb
 n1 : hs.length ≤ N
 n2 : ∀ h ∈ hs, h.vs.length ≤ N ∧ h.ks.length ≤ N
 n3 : p.dp ≤ N
theorem JR.more [Ex] {W : World} {lm : Nat → Int} {rb N N' : Nat} {p : PR} {ov : Value} {hs : List HC} {f : Nat → Value} {w : World} (h : JR W lm rb N p ov hs f w) (hn : N ≤ N') : JR W lm rb N' p ov hs f w :=
 ⟨h.rd, h.st, h.eq, h.vi, h.bel, h.lo, Nat.le_trans h.n1 hn, fun x hx => ⟨Nat.le_trans (h.n2 x hx).1 hn, Nat.le_trans (h.n2 x hx).2 hn⟩, Nat.le_trans h.n3 hn⟩
theorem JR.lt [Ex] {W : World} {lm : Nat → Int} {rb N : Nat} {p : PR} {ov : Value} {hs : List HC} {f : Nat → Value} {w : World} (h : JR W lm rb N p ov hs f w) : rb < w.heap.size := h.rd.lt
theorem JR.noneOpen [Ex] {W : World} {lm : Nat → Int} {rb N : Nat} {p : PR} {ov : Value} {hs : List HC} {f : Nat → Value} {w : World} (h : JR W lm rb N p ov hs f w) : p.hs = [] ↔ hs = [] := by
 rw [h.eq]; simp
theorem JR.belw [Ex] {W : World} {lm : Nat → Int} {rb N : Nat} {p : PR} {ov : Value} {hs : List HC} {f : Nat → Value} {w w' : World} (h : JR W lm rb N p ov hs f w) (hb : Below w.heap.size w w') : JR W lm rb N p ov hs f w' :=
 ⟨h.rd.below hb, h.st.bel hb, h.eq, h.vi.carry fun b hx hl => ⟨hb.block b hl, hx⟩, vb_t h.bel hb, h.lo, h.n1, h.n2, h.n3⟩
theorem JR.nx [Ex] {W : World} {lm : Nat → Int} {rb N : Nat} {p : PR} {ov : Value} {hs : List HC} {f : Nat → Value} {w : World} (h : JR W lm rb N p ov hs f w) (n : Nat) : JR W lm rb N { p with nx := n } ov hs f (w.setCell ⟨rb, 6, none⟩ (.int .i64 (n : Int))) := by
 have hb : But (· = rb) w (w.setCell ⟨rb, 6, none⟩ (.int .i64 (n : Int))) := (But.refl _ w).setr _
 refine ⟨?_, h.st.rb hb, h.eq, h.vi.carry fun b hx hl => ⟨hb.block b hl (fun e => hx (Or.inr (Or.inl e))), hx⟩, But.ahead h.bel hb (fun k hk => hk ▸ h.lo), h.lo, h.n1, h.n2, h.n3⟩
 have := h.rd.set 6 (.int .i64 (n : Int))
 rw [RF_n] at this
 exact this
theorem JR.ps [Ex] {W : World} {lm : Nat → Int} {rb N : Nat} {p : PR} {ov : Value} {hs : List HC} {f : Nat → Value} {w : World} (h : JR W lm rb N p ov hs f w) (n : Nat) : JR W lm rb N { p with ps := n } ov hs f (w.setCell ⟨rb, 15, none⟩ (.int .i64 (n : Int))) := by
 have hb : But (· = rb) w (w.setCell ⟨rb, 15, none⟩ (.int .i64 (n : Int))) := (But.refl _ w).setr _
 refine ⟨?_, h.st.rb hb, h.eq, h.vi.carry fun b hx hl => ⟨hb.block b hl (fun e => hx (Or.inr (Or.inl e))), hx⟩, But.ahead h.bel hb (fun k hk => hk ▸ h.lo), h.lo, h.n1, h.n2, h.n3⟩
 have := h.rd.set 15 (.int .i64 (n : Int))
 rw [RF_p] at this
 exact this
theorem JR.dp [Ex] {W : World} {lm : Nat → Int} {rb N : Nat} {p : PR} {ov : Value} {hs : List HC} {f : Nat → Value} {w : World} (h : JR W lm rb N p ov hs f w) (n : Nat) (hn : n ≤ N) : JR W lm rb N { p with dp := n } ov hs f (w.setCell ⟨rb, 14, none⟩ (.int .i64 (n : Int))) := by
 have hb : But (· = rb) w (w.setCell ⟨rb, 14, none⟩ (.int .i64 (n : Int))) := (But.refl _ w).setr _
 refine ⟨?_, h.st.rb hb, h.eq, h.vi.carry fun b hx hl => ⟨hb.block b hl (fun e => hx (Or.inr (Or.inl e))), hx⟩, But.ahead h.bel hb (fun k hk => hk ▸ h.lo), h.lo, h.n1, h.n2, hn⟩
 have := h.rd.set 14 (.int .i64 (n : Int))
 rw [RF_d] at this
 exact this
end Go.Proofs.YtfoehebnmommfaaGreatDoor.R5
