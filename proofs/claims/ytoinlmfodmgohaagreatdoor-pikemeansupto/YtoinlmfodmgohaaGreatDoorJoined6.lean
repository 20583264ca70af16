/-
  Rows of whole numbers, and a map of them, as they lie in memory. Conditions: there is room.
  Words, borders, what lets one through at a place. No condition.
  The follower's variables as they lie in memory. Conditions: there is room.
-/
import Derived.Test.YtoinlmfodmgohaaGreatDoorJoined5
import Derived.Deep.AppendLies
import Derived.Maps.OwnOps
import Derived.Maps.OwnSet
namespace Go.Proofs.YtoinlmfodmgohaaGreatDoor
open Go.RowKit Go.Maps
attribute [local go_sem] setCell_drewN alloc_drewN

/-- One of a row of numbers. -/
def ia (t : List Int) (i : Nat) : Int := t.getD i 0
theorem ia_mem {t : List Int} {i : Nat} (h : i < t.length) : ia t i ∈ t := by
  unfold ia; rw [List.getD_eq_getElem?_getD, List.getElem?_eq_getElem h]; exact List.getElem_mem h
/-- A row of numbers in a world, outside of blocks that may be written yet. -/
def II (w : World) (X : Nat → Prop) (t : List Int) (v : Value) : Prop :=
  ∃ ao cap, v = .slice ao t.length cap ∧ t.length ≤ cap ∧ cap ≤ maxLen ∧ (∀ x ∈ t, I64 x) ∧
    (t = [] ∨ ∃ b off, ao = some ⟨b, off, none⟩ ∧ ¬ X b ∧ ∀ i, i < t.length → w.cell? ⟨b, off + i, none⟩ = some (.int .i64 (ia t i)))
theorem II.carry {w w' : World} {X X' : Nat → Prop} {t : List Int} {v : Value} (h : II w X t v) (hX : ∀ b, ¬ X b → b < w.heap.size → w'.heap[b]? = w.heap[b]? ∧ ¬ X' b) : II w' X' t v := by
  obtain ⟨ao, cap, e, h1, h2, h3, h4⟩ := h
  refine ⟨ao, cap, e, h1, h2, h3, ?_⟩
  rcases h4 with h4 | ⟨b, off, h5, h6, h7⟩
  · exact Or.inl h4
  · by_cases hk : t = []
    · exact Or.inl hk
    have h0 : 0 < t.length := List.length_pos_iff.2 hk
    have hb : b < w.heap.size := World.block_lt_of_cell? w _ (h7 0 h0)
    have hx := hX b h6 hb
    exact Or.inr ⟨b, off, h5, hx.2, fun i hi => (World.cell?_of_block (w := w) (w' := w') hx.1).trans (h7 i hi)⟩
theorem II.kept {w w' : World} {X : Nat → Prop} {t : List Int} {v : Value} (h : II w X t v) (hb : Below w.heap.size w w') : II w' X t v := h.carry fun b hx hlt => ⟨hb.block b hlt, hx⟩
theorem II.but {w w' : World} {X : Nat → Prop} {t : List Int} {v : Value} (h : II w X t v) (hb : But X w w') : II w' X t v := h.carry fun b hx hlt => ⟨hb.block b hlt hx, hx⟩
theorem SI.but {w w' : World} {X : Nat → Prop} {l : List ST} {v : Value} (h : SI w X l v) (hb : But X w w') : SI w' X l v := h.carry fun b hx hlt => ⟨hb.block b hlt hx, hx⟩
theorem Bk.gr {w w' : World} {b : Nat} {cs : Array Value} {o : Option Nat} (h : Bk w b cs) (g : w.grownBy w' o) (ho : o ≠ some b) : Bk w' b cs := by
  have hl := h.lt
  obtain ⟨T, h⟩ := h
  exact ⟨T, by rw [g.block b hl (fun e => ho e.symm)]; exact h⟩
theorem Bk.q1 {w : World} {b : Nat} {x0 : Value} (h : Bk w b #[x0]) : w.cell? ⟨b, 0, none⟩ = some x0 := h.cell 0

def ivs (l : List Int) : List Value := l.map fun x => .int .i64 x
theorem ivs_len (l : List Int) : (ivs l).length = l.length := by simp [ivs]
/-- A row of numbers that the call owns. -/
def OwnI (w : World) (B : Nat) (v : Value) (l : List Int) : Prop := w.ownsRow B 3 1 v l.length (ivs l) ∧ ∀ x ∈ l, I64 x
theorem OwnI.nil (w : World) (B : Nat) : OwnI w B (.slice none 0 0) [] := ⟨World.ownsRow_nil w B _ 1, fun r hr => by simp at hr⟩
theorem OwnI.ii {w : World} {B : Nat} {v : Value} {l : List Int} (h : OwnI w B v l) (X : Nat → Prop) (hX : ∀ b, v.ownBlock = some b → ¬ X b) : II w X l v := by
  obtain ⟨ho, hw⟩ := h
  have ho' := ho
  rcases ho.2 with ⟨rfl, hn⟩ | ⟨g, cap, cur, rfl, hb, hg, hc, hm, hs, ht⟩
  · have : l = [] := List.eq_nil_of_length_eq_zero hn
    subst this
    exact ⟨_, 0, rfl, Nat.le_refl _, by unfold maxLen; omega, hw, Or.inl rfl⟩
  · refine ⟨_, cap, rfl, hc, hm, hw, Or.inr ⟨g, 0, rfl, hX g rfl, fun i hi => ?_⟩⟩
    rw [Nat.zero_add, ho'.cellAt _ (by omega)]
    unfold ivs ia
    rw [List.getElem?_map, List.getElem?_eq_getElem hi, List.getD_eq_getElem?_getD, List.getElem?_eq_getElem hi]; rfl
theorem OwnI.blk {w w' : World} {B : Nat} {v : Value} {l : List Int} (h : OwnI w B v l) (hb : ∀ g, v.ownBlock = some g → w'.heap[g]? = w.heap[g]?) : OwnI w' B v l := by
  refine ⟨⟨h.1.1, ?_⟩, h.2⟩
  rcases h.1.2 with h' | ⟨g, c, cur, rfl, hb', hg, hrest⟩
  · exact Or.inl h'
  · exact Or.inr ⟨g, c, cur, rfl, hb', (hb g rfl).trans hg, hrest⟩
theorem OwnI.lt {w : World} {B : Nat} {v : Value} {l : List Int} (h : OwnI w B v l) {g : Nat} (hg : v.ownBlock = some g) : B ≤ g ∧ g < w.heap.size := h.1.lt g hg
theorem OwnI.bel {w w' : World} {B : Nat} {v : Value} {l : List Int} (h : OwnI w B v l) (hb : Below w.heap.size w w') : OwnI w' B v l := h.blk fun g hg => hb.block g (h.lt hg).2
theorem OwnI.gr {w w' : World} {B : Nat} {v : Value} {l : List Int} {o : Option Nat} (h : OwnI w B v l) (hb : w.grownBy w' o) (ho : ∀ g, v.ownBlock = some g → o ≠ some g) : OwnI w' B v l := h.blk fun g hg => hb.block g (h.lt hg).2 (fun e => ho g hg e.symm)
theorem OwnI.set {w : World} {B : Nat} {v : Value} {l : List Int} (h : OwnI w B v l) (a : Addr) (u : Value) (ha : a.block < B) : OwnI (w.setCell a u) B v l := h.blk fun g hg => Below.heap_setCell w a u g (fun e => by have := (h.lt hg).1; omega)
theorem OwnI.form {w : World} {B : Nat} {v : Value} {l : List Int} (h : OwnI w B v l) : ∃ ao cap, v = .slice ao l.length cap ∧ l.length ≤ cap ∧ cap ≤ maxLen ∧ (0 < l.length → ∃ g, ao = some ⟨g, 0, none⟩) ∧ (∀ g off u, ao = some ⟨g, off, u⟩ → off = 0 ∧ u = none) := by
  rcases h.1.2 with ⟨rfl, hn⟩ | ⟨g, cap, cur, rfl, hb, hg, hc, hm, hs, ht⟩
  · exact ⟨none, 0, by rw [hn], by omega, by unfold maxLen; omega, fun h => by omega, fun g off u e => by cases e⟩
  · exact ⟨_, cap, rfl, hc, hm, fun _ => ⟨g, rfl⟩, fun g' off u e => by cases e; exact ⟨rfl, rfl⟩⟩
/-- The first of a row. -/
theorem OwnI.take {w : World} {B : Nat} {ao : Option Addr} {n cap : Nat} {l : List Int} (h : OwnI w B (.slice ao n cap) l) (k : Nat) (hk : k ≤ l.length) : OwnI w B (.slice ao k cap) (l.take k) := by
  refine ⟨?_, fun x hx => h.2 x (List.mem_of_mem_take hx)⟩
  have hlen : (l.take k).length = k := by rw [List.length_take]; omega
  rw [hlen]
  refine ⟨by rw [ivs_len, hlen]; omega, ?_⟩
  rcases h.1.2 with ⟨e, hn⟩ | ⟨g, cap', cur, e, hb, hg, hc, hm, hs, ht⟩
  · injection e with e1 e2 e3
    subst e1 e2 e3
    obtain rfl : k = 0 := by omega
    exact Or.inl ⟨rfl, rfl⟩
  · injection e with e1 e2 e3
    subst e1 e2 e3
    refine Or.inr ⟨g, cap, cur, rfl, hb, hg, by omega, hm, hs, ?_⟩
    have : ivs (l.take k) = (ivs l).take k := by unfold ivs; rw [List.map_take]
    rw [this, ← ht, List.take_take]
    congr 1
    omega
theorem infoInt : (Tryz.prog.info? 3).map (fun i => (i.zero, i.size, i.bytes)) = some (some (.int .i64 0), 1, 8) := by kernel_rfl
/-- A number more in a row. -/
theorem wpList_append_i {w : World} {ops : Array Oper} {rest : List Oper} {o : Oper} {a : Act} {Q : Exit → Act → World → Prop} (hgd : o.guard = none) (s x : Operand)
    (ho : o.op = .call { callee := .builtin .append, args := #[s, x], argTypes := #[32, 32] }) (B : Nat) (v : Value) (l : List Int) (hs : a.eval s = v) (hown : OwnI w B v l) (hB : B ≤ w.heap.size) (hn : l.length ≤ 1099511627776) (y : Int) (hy : I64 y)
    (t : Nat) (ht : w.heap.size = t) (hx : a.eval x = .slice (some ⟨t, 0, none⟩) 1 1)
    (h : ∀ g cap w', OwnI w' B (.slice (some ⟨g, 0, none⟩) (l.length + 1) cap) (l ++ [y]) → (w.alloc (.cells #[.int .i64 y] 3)).grownBy w' v.ownBlock → (v.ownBlock = some g ∨ w.heap.size < g) → wpList Tryz.prog ops Q rest (a.put o.dst (.slice (some ⟨g, 0, none⟩) (l.length + 1) cap)) w') :
    wpList Tryz.prog ops Q (o :: rest) a (w.alloc (.cells #[.int .i64 y] 3)) := by
  subst ht
  obtain ⟨i0, hi, hz0, hz1, hz2⟩ := info_parts infoInt
  refine wpList_append_lies _ hgd s x 32 ho B 3 i0 (.int .i64 0) 1 8 Tryz.underlying32 hi hz0 hz1 hz2 rfl (by decide) v l.length (ivs l) hs (hown.bel (vb_a (Below.refl _ _) _)).1 ⟨w.heap.size, 0, none⟩ 1 1 [.int .i64 y] hx rfl (cell_one_new _ _ _) (ints_oneCell .i64 [y]) (by decide) (by unfold maxLen; omega) (by omega) (by simp; omega) _ rfl ?_
  intro g cap w' h1 h2 h3 h4
  refine h g cap w' ⟨?_, ?_⟩ h2 (h3.imp id (fun e => by rw [e]; simp))
  · have e : ivs (l ++ [y]) = ivs l ++ [.int .i64 y] := by simp [ivs]
    rw [e, List.length_append]
    exact h1
  · intro z hz
    rcases List.mem_append.1 hz with hz | hz
    · exact hown.2 z hz
    · simp at hz; exact hz ▸ hy
/-- A map of numbers by numbers. -/
def CM (w : World) (mb cnt : Nat) (c : Int → Int) : Prop := ∃ D : DataW Unit, w.ownsMap Tryz.prog 3 (plainElem Tryz.prog 3) mb cnt D ∧ ∀ x, I64 x → D.atKey (.int .i64 x) (.lit (.int .i64 0)) = .lit (.int .i64 (c x))
theorem wfi {x : Int} (h : I64 x) : (Lit.int .i64 x).wf = true := WalkArith.wf_i64 (by unfold I64 at h; omega)
theorem lawI : Keyed Tryz.prog 3 := int_keyed Tryz.underlying3
theorem zeroI (w : World) : (zeroValue 3).run Tryz.prog w = .ok (.int .i64 0) w := by kernel_rfl
theorem CM.made (w : World) : CM (w.alloc (.map #[] 0)) w.heap.size 0 (fun _ => 0) := ⟨.map [], World.ownsMap_made _ _ _ _, fun _ _ => rfl⟩
theorem CM.blk {w w' : World} {mb cnt : Nat} {c : Int → Int} (h : CM w mb cnt c) (hb : w'.heap[mb]? = w.heap[mb]?) : CM w' mb cnt c := by
  obtain ⟨D, ⟨es, clock, h1, h2⟩, h3⟩ := h
  exact ⟨D, ⟨es, clock, hb.trans h1, h2⟩, h3⟩
theorem CM.lt {w : World} {mb cnt : Nat} {c : Int → Int} (h : CM w mb cnt c) : mb < w.heap.size := by
  obtain ⟨D, h1, _⟩ := h
  exact h1.lt
theorem wpList_look_cm {w : World} {ops : Array Oper} {rest : List Oper} {o : Oper} {a : Act} {Q : Exit → Act → World → Prop} (hg : o.guard = none) (m x : Operand) (hop : o.op = Op.lookup 100 m x false)
    (mb cnt : Nat) (c : Int → Int) (hm : a.eval m = .map (some mb)) (hown : CM w mb cnt c) (y : Int) (hx : a.eval x = .int .i64 y) (hy : I64 y)
    (hK : wpList Tryz.prog ops Q rest (a.put o.dst (.int .i64 (c y))) w) : wpList Tryz.prog ops Q (o :: rest) a w := by
  obtain ⟨D, h1, h2⟩ := hown
  refine wpList_lookup_own_int _ hg m x 100 hop 3 3 .i64 lawI Tryz.underlying100 Tryz.underlying3 (zeroI _) mb cnt D hm h1 _ _ hx (keyOf_int_mk Tryz.underlying3 (wfi hy)) ?_
  intro c' hat hwc
  rw [h2 y hy] at hat
  injection hat with hat
  injection hat with _ hat
  rw [← hat]
  exact hK
theorem wpList_put_cm {w : World} {ops : Array Oper} {rest : List Oper} {o : Oper} {a : Act} {Q : Exit → Act → World → Prop} (hg : o.guard = none) (m x v : Operand) (hop : o.op = Op.mapUpdate 100 m x v)
    (mb cnt : Nat) (c : Int → Int) (hm : a.eval m = .map (some mb)) (hown : CM w mb cnt c) (hn : cnt < 17592186044416) (y z : Int) (hx : a.eval x = .int .i64 y) (hv : a.eval v = .int .i64 z) (hy : I64 y) (hz : I64 z)
    (hK : ∀ w', CM w' mb (cnt + 1) (fun u => if u = y then z else c u) → w.grownBy w' (some mb) → wpList Tryz.prog ops Q rest (a.put o.dst undef) w') : wpList Tryz.prog ops Q (o :: rest) a w := by
  obtain ⟨D, h1, h2⟩ := hown
  refine wpList_mapUpdate_own _ hg m x v 100 hop 3 3 lawI Tryz.underlying100 _ mb cnt D hm h1 (by unfold maxLen; omega) _ _ _ hx hv (keyOf_int_mk Tryz.underlying3 (wfi hy)) _ [] (plainElem_int Tryz.underlying3 (wfi hz)) ?_
  intro w' h3 h4
  refine hK w' ⟨_, h3, fun u hu => ?_⟩ h4
  dsimp only
  by_cases e : u = y
  · subst e
    rw [if_pos rfl]
    exact atKey_put_same h1.isMap (show WideAt.IsKeyLit (Lit.int .i64 u) from trivial) _ _
  · rw [if_neg e, atKey_put_other (by intro e'; injection e' with _ e'; exact e e')]
    exact h2 u hu
end Go.Proofs.YtoinlmfodmgohaaGreatDoor

namespace Go.Proofs.YtoinlmfodmgohaaGreatDoor
open Go.RowKit
attribute [local go_sem] setCell_drewN alloc_drewN

def wordB (p : Int) : Bool := decide (97 ≤ p ∧ p ≤ 122 ∨ 65 ≤ p ∧ p ≤ 90 ∨ 48 ≤ p ∧ p ≤ 57 ∨ p = 95)
def wat (t : List Int) (i : Int) : Bool := decide (0 ≤ i ∧ i < (t.length : Int)) && wordB (ia t i.toNat)
def bordB (t : List Int) (p : Nat) : Bool := wat t ((p : Int) - 1) != wat t (p : Int)
def letsB (t : List Int) (p : Nat) (k : Int) : Bool := if k = 2 then true else if k = 3 then decide (p = 0) else if k = 4 then decide (p = t.length) else if k = 5 then bordB t p else if k = 6 then !bordB t p else false
theorem letsB_gg (t : List Int) (p : Nat) : GG (letsB t p) := by
  refine ⟨rfl, fun k h => ?_⟩
  unfold letsB at h
  by_cases h2 : k = 2
  · omega
  by_cases h3 : k = 3
  · omega
  by_cases h4 : k = 4
  · omega
  by_cases h5 : k = 5
  · omega
  by_cases h6 : k = 6
  · omega
  rw [if_neg h2, if_neg h3, if_neg h4, if_neg h5, if_neg h6] at h
  exact absurd h Bool.false_ne_true
set_option maxRecDepth 100000 in
set_option maxHeartbeats 3200000 in
theorem word_any (p : Int) (w : World) : Calls Tryz.prog 18 #[.int .i64 p] w fun e w' => e = .returned (.bool (wordB p)) ∧ w' = w := by
  obtain ⟨P, hP⟩ : ∃ P : Ending → World → Prop, P = fun e w' => e = .returned (.bool (wordB p)) ∧ w' = w := ⟨_, rfl⟩
  rw [← hP]
  have HP := hid_intro hP
  clear hP
  have hc : (p < 48) ∨ (48 ≤ p ∧ p ≤ 57) ∨ (58 ≤ p ∧ p < 65) ∨ (65 ≤ p ∧ p ≤ 90) ∨ (91 ≤ p ∧ p < 95) ∨ (p = 95) ∨ (p = 96) ∨ (97 ≤ p ∧ p ≤ 122) ∨ (122 < p) := by omega
  rcases hc with hc | hc | hc | hc | hc | hc | hc | hc | hc
  · have HE : Hid (wordB p = false) := hid_intro (by unfold wordB; simp; omega)
    have q0 : ¬ p ≥ 97 := by omega
    have q1 : p ≤ 122 := by omega
    have q2 : ¬ p ≥ 65 := by omega
    have q3 : p ≤ 90 := by omega
    have q4 : ¬ p ≥ 48 := by omega
    have q5 : p ≤ 57 := by omega
    have q6 : ¬ p = 95 := by omega
    clear hc
    go_enter Tryz.func18, Tryz.ntmps18
    go_wp2_with fail
    rw [HP.out, HE.out]
    exact ⟨by simp [*], rfl⟩
  · have HE : Hid (wordB p = true) := hid_intro (by unfold wordB; simp; omega)
    have q0 : ¬ p ≥ 97 := by omega
    have q1 : p ≤ 122 := by omega
    have q2 : ¬ p ≥ 65 := by omega
    have q3 : p ≤ 90 := by omega
    have q4 : p ≥ 48 := by omega
    have q5 : p ≤ 57 := by omega
    have q6 : ¬ p = 95 := by omega
    clear hc
    go_enter Tryz.func18, Tryz.ntmps18
    go_wp2_with fail
    rw [HP.out, HE.out]
    exact ⟨by simp [*], rfl⟩
  · have HE : Hid (wordB p = false) := hid_intro (by unfold wordB; simp; omega)
    have q0 : ¬ p ≥ 97 := by omega
    have q1 : p ≤ 122 := by omega
    have q2 : ¬ p ≥ 65 := by omega
    have q3 : p ≤ 90 := by omega
    have q4 : p ≥ 48 := by omega
    have q5 : ¬ p ≤ 57 := by omega
    have q6 : ¬ p = 95 := by omega
    clear hc
    go_enter Tryz.func18, Tryz.ntmps18
    go_wp2_with fail
    rw [HP.out, HE.out]
    exact ⟨by simp [*], rfl⟩
  · have HE : Hid (wordB p = true) := hid_intro (by unfold wordB; simp; omega)
    have q0 : ¬ p ≥ 97 := by omega
    have q1 : p ≤ 122 := by omega
    have q2 : p ≥ 65 := by omega
    have q3 : p ≤ 90 := by omega
    have q4 : p ≥ 48 := by omega
    have q5 : ¬ p ≤ 57 := by omega
    have q6 : ¬ p = 95 := by omega
    clear hc
    go_enter Tryz.func18, Tryz.ntmps18
    go_wp2_with fail
    rw [HP.out, HE.out]
    exact ⟨by simp [*], rfl⟩
  · have HE : Hid (wordB p = false) := hid_intro (by unfold wordB; simp; omega)
    have q0 : ¬ p ≥ 97 := by omega
    have q1 : p ≤ 122 := by omega
    have q2 : p ≥ 65 := by omega
    have q3 : ¬ p ≤ 90 := by omega
    have q4 : p ≥ 48 := by omega
    have q5 : ¬ p ≤ 57 := by omega
    have q6 : ¬ p = 95 := by omega
    clear hc
    go_enter Tryz.func18, Tryz.ntmps18
    go_wp2_with fail
    rw [HP.out, HE.out]
    exact ⟨by simp [*], rfl⟩
  · have HE : Hid (wordB p = true) := hid_intro (by unfold wordB; simp; omega)
    have q0 : ¬ p ≥ 97 := by omega
    have q1 : p ≤ 122 := by omega
    have q2 : p ≥ 65 := by omega
    have q3 : ¬ p ≤ 90 := by omega
    have q4 : p ≥ 48 := by omega
    have q5 : ¬ p ≤ 57 := by omega
    have q6 : p = 95 := by omega
    clear hc
    go_enter Tryz.func18, Tryz.ntmps18
    go_wp2_with fail
    rw [HP.out, HE.out]
    exact ⟨by simp [*], rfl⟩
  · have HE : Hid (wordB p = false) := hid_intro (by unfold wordB; simp; omega)
    have q0 : ¬ p ≥ 97 := by omega
    have q1 : p ≤ 122 := by omega
    have q2 : p ≥ 65 := by omega
    have q3 : ¬ p ≤ 90 := by omega
    have q4 : p ≥ 48 := by omega
    have q5 : ¬ p ≤ 57 := by omega
    have q6 : ¬ p = 95 := by omega
    clear hc
    go_enter Tryz.func18, Tryz.ntmps18
    go_wp2_with fail
    rw [HP.out, HE.out]
    exact ⟨by simp [*], rfl⟩
  · have HE : Hid (wordB p = true) := hid_intro (by unfold wordB; simp; omega)
    have q0 : p ≥ 97 := by omega
    have q1 : p ≤ 122 := by omega
    have q2 : p ≥ 65 := by omega
    have q3 : ¬ p ≤ 90 := by omega
    have q4 : p ≥ 48 := by omega
    have q5 : ¬ p ≤ 57 := by omega
    have q6 : ¬ p = 95 := by omega
    clear hc
    go_enter Tryz.func18, Tryz.ntmps18
    go_wp2_with fail
    rw [HP.out, HE.out]
    exact ⟨by simp [*], rfl⟩
  · have HE : Hid (wordB p = false) := hid_intro (by unfold wordB; simp; omega)
    have q0 : p ≥ 97 := by omega
    have q1 : ¬ p ≤ 122 := by omega
    have q2 : p ≥ 65 := by omega
    have q3 : ¬ p ≤ 90 := by omega
    have q4 : p ≥ 48 := by omega
    have q5 : ¬ p ≤ 57 := by omega
    have q6 : ¬ p = 95 := by omega
    clear hc
    go_enter Tryz.func18, Tryz.ntmps18
    go_wp2_with fail
    rw [HP.out, HE.out]
    exact ⟨by simp [*], rfl⟩
set_option maxRecDepth 100000 in
set_option maxHeartbeats 1600000 in
theorem wat_any (t : List Int) (v : Value) (i : Int) (w : World) (X : Nat → Prop) (hI : II w X t v) : Calls Tryz.prog 120 #[v, .int .i64 i] w fun e w' => e = .returned (.bool (wat t i)) ∧ w' = w := by
  obtain ⟨ao, cap, rfl, hc, hcm, hok, hl⟩ := hI
  obtain ⟨P, hP⟩ : ∃ P : Ending → World → Prop, P = fun e w' => e = .returned (.bool (wat t i)) ∧ w' = w := ⟨_, rfl⟩
  rw [← hP]
  have HP := hid_intro hP
  clear hP
  by_cases h0 : i ≥ 0
  · by_cases h1 : i < (t.length : Int)
    · obtain ⟨j, rfl⟩ : ∃ j : Nat, i = (j : Int) := ⟨i.toNat, by omega⟩
      have hj : j < t.length := by omega
      rcases hl with rfl | ⟨b, off, rfl, _, hl⟩
      · simp at hj
      have c0 := hl j hj
      have hw := word_any (ia t j) w
      have HE : Hid (wat t (j : Int) = wordB (ia t j)) := hid_intro (by unfold wat; rw [decide_eq_true ⟨h0, h1⟩]; simp)
      clear hl hok hcm hc hj
      go_enter Tryz.func120, Tryz.ntmps120
      go_wp2_with fail
      refine hw.mono ?_; rintro e w1 ⟨rfl, rfl⟩
      go_wp2_with fail
      rw [HP.out, HE.out]
      exact ⟨rfl, rfl⟩
    · have HE : Hid (wat t i = false) := hid_intro (by unfold wat; rw [decide_eq_false (by omega)]; rfl)
      clear hl hok hcm hc
      go_enter Tryz.func120, Tryz.ntmps120
      go_wp2_with fail
      rw [HP.out, HE.out]
      exact ⟨rfl, rfl⟩
  · have HE : Hid (wat t i = false) := hid_intro (by unfold wat; rw [decide_eq_false (by omega)]; rfl)
    clear hl hok hcm hc
    go_enter Tryz.func120, Tryz.ntmps120
    go_wp2_with fail
    rw [HP.out, HE.out]
    exact ⟨rfl, rfl⟩
set_option maxRecDepth 100000 in
set_option maxHeartbeats 1600000 in
theorem bord_any (t : List Int) (v : Value) (p : Nat) (hp : p ≤ 1099511627776) (w : World) (X : Nat → Prop) (hI : II w X t v) : Calls Tryz.prog 88 #[v, .int .i64 (p : Int)] w fun e w' => e = .returned (.bool (bordB t p)) ∧ w' = w := by
  have h1 := wat_any t v ((p : Int) - 1) w X hI
  have h2 := wat_any t v (p : Int) w X hI
  obtain ⟨P, hP⟩ : ∃ P : Ending → World → Prop, P = fun e w' => e = .returned (.bool (bordB t p)) ∧ w' = w := ⟨_, rfl⟩
  rw [← hP]
  have HP := hid_intro hP
  clear hP hI
  have HE : Hid (bordB t p = (wat t ((p : Int) - 1) != wat t (p : Int))) := hid_intro rfl
  go_enter Tryz.func88, Tryz.ntmps88
  go_wp2_with fail
  refine h1.mono ?_; rintro e w1 ⟨rfl, rfl⟩
  go_wp2_with fail
  refine h2.mono ?_; rintro e w1 ⟨rfl, rfl⟩
  go_wp2_with fail
  rw [HP.out, HE.out]
  refine ⟨?_, rfl⟩
  cases wat t ((p : Int) - 1) <;> cases wat t (p : Int) <;> rfl
set_option maxRecDepth 100000 in
set_option maxHeartbeats 3200000 in
theorem lets_any (t : List Int) (v : Value) (k : Int) (p : Nat) (hp : p ≤ 1099511627776) (w : World) (X : Nat → Prop) (hI : II w X t v) : Calls Tryz.prog 58 #[v, .int .i64 k, .int .i64 (p : Int)] w fun e w' => e = .returned (.bool (letsB t p k)) ∧ w' = w := by
  have hB := bord_any t v p hp w X hI
  obtain ⟨ao, cap, rfl, hc, hcm, hok, hl⟩ := hI
  obtain ⟨P, hP⟩ : ∃ P : Ending → World → Prop, P = fun e w' => e = .returned (.bool (letsB t p k)) ∧ w' = w := ⟨_, rfl⟩
  rw [← hP]
  have HP := hid_intro hP
  clear hP hl hok hcm hc
  by_cases k2 : k = 2
  · have HE : Hid (letsB t p k = true) := hid_intro (by unfold letsB; rw [if_pos k2])
    clear hB
    go_enter Tryz.func58, Tryz.ntmps58
    go_wp2_with fail
    rw [HP.out, HE.out]
    exact ⟨rfl, rfl⟩
  by_cases k3 : k = 3
  · have HE : Hid (letsB t p k = decide (p = 0)) := hid_intro (by unfold letsB; rw [if_neg k2, if_pos k3])
    clear hB
    go_enter Tryz.func58, Tryz.ntmps58
    go_wp2_with fail
    rw [HP.out, HE.out]
    refine ⟨?_, rfl⟩
    by_cases h : p = 0 <;> simp [h]
  by_cases k4 : k = 4
  · have HE : Hid (letsB t p k = decide (p = t.length)) := hid_intro (by unfold letsB; rw [if_neg k2, if_neg k3, if_pos k4])
    clear hB
    go_enter Tryz.func58, Tryz.ntmps58
    go_wp2_with fail
    rw [HP.out, HE.out]
    refine ⟨?_, rfl⟩
    by_cases h : p = t.length
    · simp [h]
    · have : ¬ (p : Int) = (t.length : Int) := by omega
      simp [h, this]
  by_cases k5 : k = 5
  · have HE : Hid (letsB t p k = bordB t p) := hid_intro (by unfold letsB; rw [if_neg k2, if_neg k3, if_neg k4, if_pos k5])
    go_enter Tryz.func58, Tryz.ntmps58
    go_wp2_with fail
    refine hB.mono ?_; rintro e w1 ⟨rfl, rfl⟩
    go_wp2_with fail
    rw [HP.out, HE.out]
    exact ⟨rfl, rfl⟩
  by_cases k6 : k = 6
  · have HE : Hid (letsB t p k = !bordB t p) := hid_intro (by unfold letsB; rw [if_neg k2, if_neg k3, if_neg k4, if_neg k5, if_pos k6])
    go_enter Tryz.func58, Tryz.ntmps58
    go_wp2_with fail
    refine hB.mono ?_; rintro e w1 ⟨rfl, rfl⟩
    go_wp2_with fail
    rw [HP.out, HE.out]
    exact ⟨rfl, rfl⟩
  · have HE : Hid (letsB t p k = false) := hid_intro (by unfold letsB; rw [if_neg k2, if_neg k3, if_neg k4, if_neg k5, if_neg k6])
    clear hB
    go_enter Tryz.func58, Tryz.ntmps58
    go_wp2_with fail
    rw [HP.out, HE.out]
    exact ⟨rfl, rfl⟩
theorem places_any (t : List Int) (hlen : t.length ≤ 1099511627776) (v : Value) (w : World) (X : Nat → Prop) (hI : II w X t v) : Calls Tryz.prog 33 #[v] w fun e w' => e = .returned (.int .i64 ((t.length : Int) + 1)) ∧ w' = w := by
  obtain ⟨ao, cap, rfl, hc, hcm, hok, hl⟩ := hI
  have hI : (t.length : Int) + 1 ≤ 9223372036854775807 := by omega
  obtain ⟨P, hP⟩ : ∃ P : Ending → World → Prop, P = fun e w' => e = .returned (.int .i64 ((t.length : Int) + 1)) ∧ w' = w := ⟨_, rfl⟩
  rw [← hP]
  have HP := hid_intro hP
  clear hP hl hok hcm hc hlen
  go_enter Tryz.func33, Tryz.ntmps33
  go_wp2_with fail
  rw [HP.out]
  exact ⟨rfl, rfl⟩
end Go.Proofs.YtoinlmfodmgohaaGreatDoor

namespace Go.Proofs.YtoinlmfodmgohaaGreatDoor
open Go.RowKit Go.Maps
attribute [local go_sem] setCell_drewN alloc_drewN

/-- The blocks of the follower's variables, the map's, and from where on rows lie. -/
structure EV where
  cb : Nat
  pb : Nat
  wb : Nat
  hb : Nat
  lb : Nat
  tb : Nat
  fb : Nat
  mb : Nat
  B : Nat
def clo (e : EV) : Value := .func (.func 57) #[] #[.pointer (some ⟨e.cb, 0, none⟩), .pointer (some ⟨e.pb, 0, none⟩), .pointer (some ⟨e.wb, 0, none⟩), .pointer (some ⟨e.hb, 0, none⟩), .pointer (some ⟨e.lb, 0, none⟩), .pointer (some ⟨e.tb, 0, none⟩), .pointer (some ⟨e.fb, 0, none⟩)]
structure FX (w : World) (X : Nat → Prop) (e : EV) (L : List ST) (t : List Int) : Prop where
  xp : X e.pb ∧ X e.wb ∧ X e.hb ∧ X e.mb
  nx : ¬ X e.cb ∧ ¬ X e.lb ∧ ¬ X e.tb ∧ ¬ X e.fb
  ne : e.pb ≠ e.wb ∧ e.pb ≠ e.hb ∧ e.wb ≠ e.hb ∧ e.mb ≠ e.pb ∧ e.mb ≠ e.wb ∧ e.mb ≠ e.hb
  lo : e.pb < e.B ∧ e.wb < e.B ∧ e.hb < e.B ∧ e.mb < e.B
  sz : e.B ≤ w.heap.size
  xn : ∀ b, w.heap.size ≤ b → X b
  kc : Bk w e.cb #[.map (some e.mb)]
  kl : ∃ lv, Bk w e.lb #[lv] ∧ SI w X L lv
  kt : ∃ tv, Bk w e.tb #[tv] ∧ II w X t tv
  kf : Bk w e.fb #[clo e]
theorem FX.but {w w' : World} {X : Nat → Prop} {e : EV} {L : List ST} {t : List Int} (h : FX w X e L t) (hb : But X w w') : FX w' X e L t := by
  obtain ⟨xp, nx, ne, lo, sz, xn, kc, ⟨lv, kl, sl⟩, ⟨tv, kt, st⟩, kf⟩ := h
  exact ⟨xp, nx, ne, lo, Nat.le_trans sz hb.size, fun b h => xn b (Nat.le_trans hb.size h), kc.but hb nx.1, ⟨lv, kl.but hb nx.2.1, sl.but hb⟩, ⟨tv, kt.but hb nx.2.2.1, st.but hb⟩, kf.but hb nx.2.2.2⟩
/-- Fewer blocks may be written. -/
theorem FX.less {w : World} {X X' : Nat → Prop} {e : EV} {L : List ST} {t : List Int} (h : FX w X e L t) (hx : ∀ b, X' b → X b) (xp : X' e.pb ∧ X' e.wb ∧ X' e.hb ∧ X' e.mb) (xn : ∀ b, w.heap.size ≤ b → X' b) : FX w X' e L t := by
  obtain ⟨_, nx, ne, lo, sz, _, kc, ⟨lv, kl, sl⟩, ⟨tv, kt, st⟩, kf⟩ := h
  exact ⟨xp, ⟨fun h => nx.1 (hx _ h), fun h => nx.2.1 (hx _ h), fun h => nx.2.2.1 (hx _ h), fun h => nx.2.2.2 (hx _ h)⟩, ne, lo, sz, xn, kc, ⟨lv, kl, sl.carry fun b h _ => ⟨rfl, fun h' => h (hx _ h')⟩⟩, ⟨tv, kt, st.carry fun b h _ => ⟨rfl, fun h' => h (hx _ h')⟩⟩, kf⟩
theorem But.more {X X' : Nat → Prop} {w w' : World} (h : But X' w w') (hx : ∀ b, X' b → X b) : But X w w' := ⟨h.os, h.tape, h.output, h.size, fun b hb hX => h.block b hb (fun e => hX (hx b e))⟩
/-- All of it: at a place, the states that have come, and those that wait. -/
structure FS (w : World) (X : Nat → Prop) (e : EV) (L : List ST) (t : List Int) (p : Nat) (H W : List Int) : Prop where
  fx : FX w X e L t
  kp : Bk w e.pb #[.int .i64 (p : Int)]
  ro : ∃ vh vw, Bk w e.hb #[vh] ∧ Bk w e.wb #[vw] ∧ OwnI w e.B vh H ∧ OwnI w e.B vw W ∧ (∀ b, vh.ownBlock = some b → X b ∧ vw.ownBlock ≠ some b) ∧ (∀ b, vw.ownBlock = some b → X b)
  mp : ∃ cnt c, CM w e.mb cnt c ∧ cnt ≤ p * L.length + H.length ∧ ∀ x, InL L x → c x ≤ (p : Int) + 1 ∧ (c x = (p : Int) + 1 ↔ x ∈ H)
theorem FS.up {w w' : World} {X X' : Nat → Prop} {e : EV} {L : List ST} {t : List Int} {p : Nat} {H W : List Int} (hx : ∀ b, X' b → X b) (hf : FX w X e L t) (hb : But X' w w') (h : FS w' X' e L t p H W) : FS w' X e L t p H W := by
  obtain ⟨fx, kp, ⟨vh, vw, kh, kw, oh, ow, xh, xw⟩, mp⟩ := h
  exact ⟨hf.but (hb.more hx), kp, ⟨vh, vw, kh, kw, oh, ow, fun b h => ⟨hx b (xh b h).1, (xh b h).2⟩, fun b h => hx b (xw b h)⟩, mp⟩
theorem FS.down {w : World} {X : Nat → Prop} {e : EV} {L : List ST} {t : List Int} {p : Nat} {H W : List Int} (h : FS w X e L t p H W) (bs : Nat) (hB : e.B ≤ bs) (hlt : bs < w.heap.size) (hn : ∀ vh vw, Bk w e.hb #[vh] → Bk w e.wb #[vw] → vh.ownBlock ≠ some bs ∧ vw.ownBlock ≠ some bs) : FS w (fun b => X b ∧ b ≠ bs) e L t p H W := by
  obtain ⟨fx, kp, ⟨vh, vw, kh, kw, oh, ow, xh, xw⟩, mp⟩ := h
  have lo := fx.lo
  have xp := fx.xp
  have hq := hn vh vw kh kw
  exact ⟨fx.less (fun b h => h.1) ⟨⟨xp.1, by omega⟩, ⟨xp.2.1, by omega⟩, ⟨xp.2.2.1, by omega⟩, ⟨xp.2.2.2, by omega⟩⟩ (fun b h => ⟨fx.xn b h, by omega⟩), kp, ⟨vh, vw, kh, kw, oh, ow, fun b h => ⟨⟨(xh b h).1, fun e => hq.1 (e ▸ h)⟩, (xh b h).2⟩, fun b h => ⟨xw b h, fun e => hq.2 (e ▸ h)⟩⟩, mp⟩
theorem blk_lt {w : World} {B : Nat} {v : Value} {l : List Int} (h : OwnI w B v l) {b : Nat} (hb : b < B) : v.ownBlock ≠ some b := fun e => by have := (h.lt e).1; omega
/-- A state more is there, and its cells stand in a block. -/
theorem fs_mark {w w1 w2 : World} {X : Nat → Prop} {e : EV} {L : List ST} {t : List Int} {p : Nat} {H W : List Int} {s : Int} {vh vw : Value} {cnt : Nat} {c : Int → Int} (fx : FX w X e L t) (kp : Bk w e.pb #[.int .i64 (p : Int)])
    (kh : Bk w e.hb #[vh]) (kw : Bk w e.wb #[vw]) (oh : OwnI w e.B vh H) (ow : OwnI w e.B vw W) (xh : ∀ b, vh.ownBlock = some b → X b ∧ vw.ownBlock ≠ some b) (xw : ∀ b, vw.ownBlock = some b → X b)
    (hcn : cnt ≤ p * L.length + H.length) (hcx : ∀ x, InL L x → c x ≤ (p : Int) + 1 ∧ (c x = (p : Int) + 1 ↔ x ∈ H))
    (hcm1 : CM w1 e.mb (cnt + 1) (fun u => if u = s then (p : Int) + 1 else c u)) (hg1 : w.grownBy w1 (some e.mb)) {g cap : Nat} (ho2 : OwnI w2 e.B (.slice (some ⟨g, 0, none⟩) (H.length + 1) cap) (H ++ [s]))
    (hg2 : (w1.alloc (.cells #[.int .i64 s] 3)).grownBy w2 vh.ownBlock) (hloc : vh.ownBlock = some g ∨ w1.heap.size < g) (cs : Array Value) (T : TypeId) :
    FS ((w2.setCell ⟨e.hb, 0, none⟩ (.slice (some ⟨g, 0, none⟩) (H.length + 1) cap)).alloc (.cells cs T)) X e L t p (H ++ [s]) W ∧
    But X w ((w2.setCell ⟨e.hb, 0, none⟩ (.slice (some ⟨g, 0, none⟩) (H.length + 1) cap)).alloc (.cells cs T)) ∧
    FS (w2.setCell ⟨e.hb, 0, none⟩ (.slice (some ⟨g, 0, none⟩) (H.length + 1) cap)) X e L t p (H ++ [s]) W := by
  have lo := fx.lo
  have xp := fx.xp
  have ne := fx.ne
  have s1 := hg1.size
  have s2 := hg2.size
  have sz := fx.sz
  have e1 : (w1.alloc (.cells #[.int .i64 s] 3)).heap.size = w1.heap.size + 1 := by simp
  have hB : But X w (w2.setCell ⟨e.hb, 0, none⟩ (.slice (some ⟨g, 0, none⟩) (H.length + 1) cap)) :=
    ((((But.refl X w).grown hg1 (fun b h => by injection h with h; exact Or.inl (h ▸ xp.2.2.2))).alloc _).grown hg2 (fun b h => Or.inl (xh b h).1)).set (Or.inl xp.2.2.1) _
  have key : ∀ b cs, Bk w b cs → b < e.B → b ≠ e.mb → b ≠ e.hb → Bk (w2.setCell ⟨e.hb, 0, none⟩ (.slice (some ⟨g, 0, none⟩) (H.length + 1) cap)) b cs := fun b cs h hb hm hh =>
    (((h.gr hg1 (fun e => hm (by injection e with e; exact e.symm))).al _).gr hg2 (blk_lt oh hb)).away hh
  have hF : FS (w2.setCell ⟨e.hb, 0, none⟩ (.slice (some ⟨g, 0, none⟩) (H.length + 1) cap)) X e L t p (H ++ [s]) W := by
    refine ⟨fx.but hB, key _ _ kp lo.1 (fun e => ne.2.2.2.1 e.symm) ne.2.1, ⟨_, vw, ?_, key _ _ kw lo.2.1 (fun e => ne.2.2.2.2.1 e.symm) ne.2.2.1, ho2.set _ _ lo.2.2.1, ?_, ?_, xw⟩, ⟨cnt + 1, fun u => if u = s then (p : Int) + 1 else c u, ?_, ?_, ?_⟩⟩
    · exact Bk.set (((kh.gr hg1 (fun h => by injection h with h; exact ne.2.2.2.2.2 h)).al _).gr hg2 (blk_lt oh lo.2.2.1)) 0 _ rfl
    · refine OwnI.set ?_ _ _ lo.2.2.1
      refine ((ow.gr hg1 (fun g hg h => by injection h with h; have := (ow.lt hg).1; omega)).bel (vb_a (Below.refl _ _) _)).gr hg2 (fun g hg h => (xh g h).2 hg)
    · intro b hb
      simp only [Value.ownBlock, Option.some.injEq] at hb
      subst hb
      rcases hloc with h | h
      · exact xh _ h
      · refine ⟨fx.xn _ (by omega), fun h' => ?_⟩
        have := (ow.lt h').2
        omega
    · refine hcm1.blk ?_
      rw [Below.heap_setCell _ _ _ _ (show e.mb ≠ e.hb from ne.2.2.2.2.2)]
      have hlt := hcm1.lt
      rw [hg2.block e.mb (by rw [e1]; omega) (fun h => blk_lt oh lo.2.2.2 h.symm)]
      exact (vb_a (Below.refl _ w1) (.cells #[.int .i64 s] 3)).block e.mb hlt
    · simp only [List.length_append, List.length_cons, List.length_nil]; omega
    · intro x hx
      dsimp only
      have hh := hcx x hx
      by_cases ex : x = s
      · rw [if_pos ex]
        exact ⟨Int.le_refl _, fun _ => by simp [ex], fun _ => rfl⟩
      · rw [if_neg ex]
        refine ⟨hh.1, fun h => by simp [hh.2.1 h], fun h => hh.2.2 ?_⟩
        simpa [ex] using h
  refine ⟨?_, hB.alloc _, hF⟩
  obtain ⟨fx', kp', ⟨vh', vw', kh', kw', oh', ow', xh', xw'⟩, ⟨cnt', c', hcm', hcn', hcx'⟩⟩ := hF
  have hb := vb_a (Below.refl _ (w2.setCell ⟨e.hb, 0, none⟩ (.slice (some ⟨g, 0, none⟩) (H.length + 1) cap))) (.cells cs T)
  exact ⟨fx'.but (But.ofBelow hb), kp'.bel hb, ⟨vh', vw', kh'.bel hb, kw'.bel hb, oh'.bel hb, ow'.bel hb, xh', xw'⟩, ⟨cnt', c', hcm'.blk (hb.block _ hcm'.lt), hcn', hcx'⟩⟩
/-- A state more waits. -/
theorem fs_wait {w w2 : World} {X : Nat → Prop} {e : EV} {L : List ST} {t : List Int} {p : Nat} {H W : List Int} {s : Int} {vh vw : Value} {cnt : Nat} {c : Int → Int} (fx : FX w X e L t) (kp : Bk w e.pb #[.int .i64 (p : Int)])
    (kh : Bk w e.hb #[vh]) (kw : Bk w e.wb #[vw]) (oh : OwnI w e.B vh H) (ow : OwnI w e.B vw W) (xh : ∀ b, vh.ownBlock = some b → X b ∧ vw.ownBlock ≠ some b) (xw : ∀ b, vw.ownBlock = some b → X b)
    (hcm : CM w e.mb cnt c) (hcn : cnt ≤ p * L.length + H.length) (hcx : ∀ x, InL L x → c x ≤ (p : Int) + 1 ∧ (c x = (p : Int) + 1 ↔ x ∈ H))
    {g cap : Nat} (ho2 : OwnI w2 e.B (.slice (some ⟨g, 0, none⟩) (W.length + 1) cap) (W ++ [s]))
    (hg2 : (w.alloc (.cells #[.int .i64 s] 3)).grownBy w2 vw.ownBlock) (hloc : vw.ownBlock = some g ∨ w.heap.size < g) :
    FS (w2.setCell ⟨e.wb, 0, none⟩ (.slice (some ⟨g, 0, none⟩) (W.length + 1) cap)) X e L t p H (W ++ [s]) ∧ But X w (w2.setCell ⟨e.wb, 0, none⟩ (.slice (some ⟨g, 0, none⟩) (W.length + 1) cap)) := by
  have lo := fx.lo
  have xp := fx.xp
  have ne := fx.ne
  have sz := fx.sz
  have e1 : (w.alloc (.cells #[.int .i64 s] 3)).heap.size = w.heap.size + 1 := by simp
  have hB : But X w (w2.setCell ⟨e.wb, 0, none⟩ (.slice (some ⟨g, 0, none⟩) (W.length + 1) cap)) :=
    (((But.refl X w).alloc _).grown hg2 (fun b h => Or.inl (xw b h))).set (Or.inl xp.2.1) _
  have key : ∀ b cs, Bk w b cs → b < e.B → b ≠ e.wb → Bk (w2.setCell ⟨e.wb, 0, none⟩ (.slice (some ⟨g, 0, none⟩) (W.length + 1) cap)) b cs := fun b cs h hb hh => ((h.al _).gr hg2 (blk_lt ow hb)).away hh
  refine ⟨⟨fx.but hB, key _ _ kp lo.1 ne.1, ⟨vh, _, key _ _ kh lo.2.2.1 (fun e => ne.2.2.1 e.symm), ?_, ?_, ho2.set _ _ lo.2.1, ?_, ?_⟩, ⟨cnt, c, ?_, hcn, hcx⟩⟩, hB⟩
  · exact Bk.set ((kw.al _).gr hg2 (blk_lt ow lo.2.1)) 0 _ rfl
  · refine OwnI.set ?_ _ _ lo.2.1
    exact (oh.bel (vb_a (Below.refl _ _) _)).gr hg2 (fun g hg h => (xh g hg).2 h)
  · intro b hb
    refine ⟨(xh b hb).1, fun h => ?_⟩
    simp only [Value.ownBlock, Option.some.injEq] at h
    subst h
    rcases hloc with h | h
    · exact (xh _ hb).2 h
    · have := (oh.lt hb).2; omega
  · intro b hb
    simp only [Value.ownBlock, Option.some.injEq] at hb
    subst hb
    rcases hloc with h | h
    · exact xw _ h
    · exact fx.xn _ (by omega)
  · refine hcm.blk ?_
    rw [Below.heap_setCell _ _ _ _ (show e.mb ≠ e.wb from ne.2.2.2.2.1)]
    have hlt := hcm.lt
    rw [hg2.block e.mb (by rw [e1]; omega) (fun h => blk_lt ow lo.2.2.2 h.symm)]
    exact (vb_a (Below.refl _ w) (.cells #[.int .i64 s] 3)).block e.mb hlt
end Go.Proofs.YtoinlmfodmgohaaGreatDoor
