/-
  Rows of ranges of the call's own: literals, append, the last one turned; span, only and the named sets. No condition.
  Rows of states as they lie in memory. No condition.
  The states at a place: what the program follows is all that is reached. No condition.
  A block that stays while others are written. No condition.
-/
import Derived.Test.YtoinlmfodmgohaaGreatDoorJoined4
import Derived.Laws.OwnMore
import Derived.Lib.Builder
namespace Go.Proofs.YtoinlmfodmgohaaGreatDoor
open Go.RowKit
attribute [local go_sem] setCell_drewN alloc_drewN

/-- A block of a struct's cells. -/
def Bk (w : World) (b : Nat) (cs : Array Value) : Prop := ∃ T, w.heap[b]? = some (.cells cs T (0, 0))
theorem Bk.lt {w : World} {b : Nat} {cs : Array Value} (h : Bk w b cs) : b < w.heap.size := by
  obtain ⟨T, h⟩ := h
  exact (Array.getElem?_eq_some_iff.1 h).1
theorem Bk.cell {w : World} {b : Nat} {cs : Array Value} (h : Bk w b cs) (i : Nat) : w.cell? ⟨b, i, none⟩ = cs[i]? := by
  obtain ⟨T, h⟩ := h
  exact Lib.cell_of_heap h i
theorem Bk.frz {w : World} {b : Nat} {cs : Array Value} (h : Bk w b cs) (i : Nat) : w.frozen? ⟨b, i, none⟩ = false := by
  obtain ⟨T, h⟩ := h
  exact Lib.frozen_of_heap h i
theorem Bk.below {w w' : World} {b B : Nat} {cs : Array Value} (h : Bk w b cs) (hb : Below B w w') (hlt : b < B) : Bk w' b cs := by
  obtain ⟨T, h⟩ := h
  exact ⟨T, by rw [hb.block b hlt]; exact h⟩
theorem Bk.bel {w w' : World} {b : Nat} {cs : Array Value} (h : Bk w b cs) (hb : Below w.heap.size w w') : Bk w' b cs := h.below hb h.lt
theorem Bk.new (w : World) (cs : Array Value) (T : TypeId) : Bk (w.alloc (.cells cs T)) w.heap.size cs := ⟨T, by show (w.heap.push _)[w.heap.size]? = _; simp⟩
theorem Bk.new' (w : World) (cs : Array Value) (T : TypeId) (b : Nat) (hb : w.heap.size = b) : Bk (w.alloc (.cells cs T)) b cs := hb ▸ Bk.new w cs T
theorem Bk.al {w : World} {b : Nat} {cs : Array Value} (h : Bk w b cs) (o : Obj) : Bk (w.alloc o) b cs := h.bel (vb_a (Below.refl _ _) _)
theorem Bk.dr {w : World} {b : Nat} {cs : Array Value} (h : Bk w b cs) (n : Nat) : Bk (w.drewN n) b cs := h
theorem Bk.dw {w : World} {b : Nat} {cs : Array Value} (h : Bk w b cs) : Bk w.drew b cs := h
theorem Bk.away {w : World} {b : Nat} {cs : Array Value} (h : Bk w b cs) {a : Addr} {v : Value} (hne : b ≠ a.block) : Bk (w.setCell a v) b cs := by
  obtain ⟨T, h⟩ := h
  exact ⟨T, by rw [Below.heap_setCell w a v b hne]; exact h⟩
theorem Bk.set {w : World} {b : Nat} {cs cs' : Array Value} (h : Bk w b cs) (i : Nat) (v : Value) (e : cs.setIfInBounds i v = cs') : Bk (w.setCell ⟨b, i, none⟩ v) b cs' := by
  have hl := h.lt
  obtain ⟨T, h⟩ := h
  refine ⟨T, ?_⟩
  subst e
  obtain ⟨hl', e'⟩ := Array.getElem?_eq_some_iff.1 h
  simp only [World.setCell]
  rw [Array.getElem?_eq_getElem (by rw [Array.size_modify]; exact hl), Array.getElem_modify_self, e']
  rfl
theorem Bk.c2 {w : World} {b : Nat} {x0 x1 : Value} (h : Bk w b #[x0, x1]) : w.cell? ⟨b, 0, none⟩ = some x0 ∧ w.cell? ⟨b, 1, none⟩ = some x1 := ⟨h.cell 0, h.cell 1⟩
theorem Bk.z2 {w : World} {b : Nat} {cs : Array Value} (h : Bk w b cs) : w.frozen? ⟨b, 0, none⟩ = false ∧ w.frozen? ⟨b, 1, none⟩ = false := ⟨h.frz 0, h.frz 1⟩
theorem Bk.c6 {w : World} {b : Nat} {x0 x1 x2 x3 x4 x5 : Value} (h : Bk w b #[x0, x1, x2, x3, x4, x5]) :
    w.cell? ⟨b, 0, none⟩ = some x0 ∧ w.cell? ⟨b, 1, none⟩ = some x1 ∧ w.cell? ⟨b, 2, none⟩ = some x2 ∧ w.cell? ⟨b, 3, none⟩ = some x3 ∧ w.cell? ⟨b, 4, none⟩ = some x4 ∧ w.cell? ⟨b, 5, none⟩ = some x5 :=
  ⟨h.cell 0, h.cell 1, h.cell 2, h.cell 3, h.cell 4, h.cell 5⟩
theorem Bk.z6 {w : World} {b : Nat} {cs : Array Value} (h : Bk w b cs) :
    w.frozen? ⟨b, 0, none⟩ = false ∧ w.frozen? ⟨b, 1, none⟩ = false ∧ w.frozen? ⟨b, 2, none⟩ = false ∧ w.frozen? ⟨b, 3, none⟩ = false ∧ w.frozen? ⟨b, 4, none⟩ = false ∧ w.frozen? ⟨b, 5, none⟩ = false :=
  ⟨h.frz 0, h.frz 1, h.frz 2, h.frz 3, h.frz 4, h.frz 5⟩

def flat (l : List (Int × Int)) : List Value := l.flatMap fun r => [.int .i64 r.1, .int .i64 r.2]
theorem flat_len (l : List (Int × Int)) : (flat l).length = l.length * 2 := by
  induction l with
  | nil => rfl
  | cons r l ih => simp only [flat, List.flatMap_cons, List.length_append, List.length_cons, List.length_nil] at ih ⊢; omega
theorem flat_at (l : List (Int × Int)) (i : Nat) (h : i < l.length) : (flat l)[i * 2]? = some (.int .i64 (ra l i).1) ∧ (flat l)[i * 2 + 1]? = some (.int .i64 (ra l i).2) := by
  induction l generalizing i with
  | nil => simp at h
  | cons r l ih =>
    cases i with
    | zero => exact ⟨rfl, rfl⟩
    | succ i =>
      have := ih i (by simpa using h)
      have e : ra (r :: l) (i + 1) = ra l i := rfl
      rw [e, show (i + 1) * 2 = i * 2 + 2 by omega]
      exact this
theorem flat_append (l m : List (Int × Int)) : flat (l ++ m) = flat l ++ flat m := by simp [flat]
/-- A row of the call's own, from block B on. -/
def OwnR (w : World) (B : Nat) (v : Value) (l : List (Int × Int)) : Prop := w.ownsRow B 40 2 v l.length (flat l) ∧ ∀ r ∈ l, I64 r.1 ∧ I64 r.2
theorem OwnR.nil (w : World) (B : Nat) : OwnR w B (.slice none 0 0) [] := ⟨World.ownsRow_nil w B _ 2, fun r hr => by simp at hr⟩
theorem OwnR.ri {w : World} {B : Nat} {v : Value} {l : List (Int × Int)} (h : OwnR w B v l) (X : Nat → Prop) (hX : ∀ b, B ≤ b → ¬ X b) : RI w X l v := by
  obtain ⟨ho, hw⟩ := h
  have ho' := ho
  rcases ho.2 with ⟨rfl, hn⟩ | ⟨g, cap, cur, rfl, hb, hg, hc, hm, hs, ht⟩
  · have : l = [] := List.eq_nil_of_length_eq_zero hn
    subst this
    exact RI.nil w X
  · refine ⟨_, cap, rfl, hc, hm, hw, Or.inr ⟨g, 0, rfl, hX g hb, fun i hi => ?_⟩⟩
    have h2 := flat_at l i hi
    rw [Nat.zero_add]
    exact ⟨(ho'.cellAt _ (by omega)).trans h2.1, (ho'.cellAt _ (by omega)).trans h2.2⟩
theorem OwnR.lit (w : World) (B : Nat) (l : List (Int × Int)) (cs : Array Value) (hcs : cs.toList = flat l) (hB : B ≤ w.heap.size) (hl : l.length ≤ 1000) (hw : ∀ r ∈ l, I64 r.1 ∧ I64 r.2) (n : Nat) (hn : n = l.length) :
    OwnR (w.alloc (.cells cs 40)) B (.slice (some ⟨w.heap.size, 0, none⟩) n n) l := by
  subst hn
  refine ⟨?_, hw⟩
  have hsz : cs.size = l.length * 2 := by rw [← Array.length_toList, hcs, flat_len]
  have := World.ownsRow_lit (base := B) (e := 40) (size := 2) w cs l.length hB (by unfold maxLen; omega) hsz
  rw [hcs] at this
  exact this
theorem OwnR.lt {w : World} {B : Nat} {v : Value} {l : List (Int × Int)} (h : OwnR w B v l) : ∀ k, v.ownBlock = some k → B ≤ k ∧ k < w.heap.size := h.1.lt
theorem OwnR.kept {w w' : World} {B : Nat} {v : Value} {l : List (Int × Int)} (h : OwnR w B v l) (hb : ∀ k, v.ownBlock = some k → w'.heap[k]? = w.heap[k]?) : OwnR w' B v l := by
  obtain ⟨⟨h1, h2⟩, h3⟩ := h
  refine ⟨⟨h1, ?_⟩, h3⟩
  rcases h2 with h2 | ⟨g, cap, cur, rfl, hB, hg, rest⟩
  · exact Or.inl h2
  · exact Or.inr ⟨g, cap, cur, rfl, hB, by rw [hb g rfl]; exact hg, rest⟩
theorem OwnR.below {w w' : World} {B : Nat} {v : Value} {l : List (Int × Int)} (h : OwnR w B v l) (hb : Below w.heap.size w w') : OwnR w' B v l := h.kept fun k hk => hb.block k (h.lt k hk).2
theorem OwnR.mono {w : World} {B B' : Nat} {v : Value} {l : List (Int × Int)} (h : OwnR w B v l) (hB : B' ≤ B) : OwnR w B' v l := by
  obtain ⟨⟨h1, h2⟩, h3⟩ := h
  refine ⟨⟨h1, ?_⟩, h3⟩
  rcases h2 with h2 | ⟨g, cap, cur, rfl, hb, rest⟩
  · exact Or.inl h2
  · exact Or.inr ⟨g, cap, cur, rfl, by omega, rest⟩
theorem infoRange : (Tryz.prog.info? 40).map (fun i => (i.zero, i.size, i.bytes)) = some (some (.agg #[.int .i64 0, .int .i64 0]), 2, 16) := by kernel_rfl

/-- One range more. -/
theorem wpList_append_rng {w : World} {ops : Array Oper} {rest : List Oper} {o : Oper} {a : Act} {Q : Exit → Act → World → Prop} (hgd : o.guard = none) (s x : Operand)
    (ho : o.op = .call { callee := .builtin .append, args := #[s, x], argTypes := #[22, 22] })
    (B : Nat) (v : Value) (l : List (Int × Int)) (p q : Int) (hs : a.eval s = v) (hown : OwnR w B v l) (hB : B ≤ w.heap.size) (hsz : l.length + 1 ≤ 1099511627776) (hp : I64 p ∧ I64 q)
    (t : Nat) (ht : w.heap.size = t) (hx : a.eval x = .slice (some ⟨t, 0, none⟩) 1 1)
    (h : ∀ v' w', OwnR w' B v' (l ++ [(p, q)]) → (w.alloc (.cells #[.int .i64 p, .int .i64 q] 40)).grownBy w' v.ownBlock → wpList Tryz.prog ops Q rest (a.put o.dst v') w') :
    wpList Tryz.prog ops Q (o :: rest) a (w.alloc (.cells #[.int .i64 p, .int .i64 q] 40)) := by
  subst ht
  obtain ⟨i0, hi, hz0, hz1, hz2⟩ := info_parts infoRange
  refine wpList_append_own _ hgd s x 22 ho B 40 i0 (.agg #[.int .i64 0, .int .i64 0]) 2 16 Tryz.underlying22 hi hz0 hz1 hz2 rfl (by decide) v l.length (flat l) hs (hown.1.alloc _) ⟨w.heap.size, 0, none⟩ 1 1 [.int .i64 p, .int .i64 q] hx rfl ?_ ?_ ?_ ?_ ?_ ?_
  · intro j u hj
    match j, hj with
    | 0, hj => simp at hj; subst hj; simp [Addr.add, go_sem]
    | 1, hj => simp at hj; subst hj; simp [Addr.add, go_sem]
  · intro u hu
    simp at hu
    rcases hu with rfl | rfl <;> rfl
  · unfold maxLen; omega
  · omega
  · simp; omega
  · intro v' w' h1 h2 _
    refine h v' w' ⟨?_, fun r hr => ?_⟩ h2
    · rw [flat_append, List.length_append]
      exact h1
    · rcases List.mem_append.1 hr with hr | hr
      · exact hown.2 r hr
      · obtain rfl : r = (p, q) := by simpa using hr
        exact hp
/-- Ranges more. -/
theorem wpList_append_rngs {w : World} {ops : Array Oper} {rest : List Oper} {o : Oper} {a : Act} {Q : Exit → Act → World → Prop} (hgd : o.guard = none) (s x : Operand)
    (ho : o.op = .call { callee := .builtin .append, args := #[s, x], argTypes := #[22, 22] })
    (B : Nat) (v v2 : Value) (l m : List (Int × Int)) (hs : a.eval s = v) (hown : OwnR w B v l) (hB : B ≤ w.heap.size) (hsz : l.length + m.length ≤ 1099511627776) (X : Nat → Prop) (hm : RI w X m v2) (hne : m ≠ [])
    (hx : a.eval x = v2)
    (h : ∀ v' w', OwnR w' B v' (l ++ m) → w.grownBy w' v.ownBlock → wpList Tryz.prog ops Q rest (a.put o.dst v') w') :
    wpList Tryz.prog ops Q (o :: rest) a w := by
  obtain ⟨i0, hi, hz0, hz1, hz2⟩ := info_parts infoRange
  obtain ⟨ao, cap, rfl, hc, hcm, hwf, hlie⟩ := hm
  rcases hlie with hlie | ⟨b, off, rfl, _, hcell⟩
  · exact absurd hlie hne
  refine wpList_append_own _ hgd s x 22 ho B 40 i0 (.agg #[.int .i64 0, .int .i64 0]) 2 16 Tryz.underlying22 hi hz0 hz1 hz2 rfl (by decide) v l.length (flat l) hs hown.1 ⟨b, off, none⟩ m.length cap (flat m) hx (flat_len m) ?_ ?_ ?_ ?_ hB ?_
  · intro j u hj
    have hjl : j < m.length * 2 := by
      have := (List.getElem?_eq_some_iff.1 hj).1
      rwa [flat_len] at this
    rw [add_at]
    obtain ⟨i, hi | hi⟩ : ∃ i, j = i * 2 ∨ j = i * 2 + 1 := ⟨j / 2, by omega⟩
    · subst hi
      have h2 := flat_at m i (by omega)
      rw [h2.1] at hj
      rw [(hcell i (by omega)).1, hj]
    · subst hi
      have h2 := flat_at m i (by omega)
      rw [h2.2] at hj
      rw [← Nat.add_assoc, (hcell i (by omega)).2, hj]
  · intro u hu
    simp only [flat, List.mem_flatMap, List.mem_cons, List.not_mem_nil, or_false] at hu
    obtain ⟨r, _, rfl | rfl⟩ := hu <;> rfl
  · unfold maxLen; omega
  · omega
  · intro v' w' h1 h2 _
    refine h v' w' ⟨?_, fun r hr => ?_⟩ h2
    · rw [flat_append, List.length_append]
      exact h1
    · rcases List.mem_append.1 hr with hr | hr
      · exact hown.2 r hr
      · exact hwf r hr
/-- The last one's end turned. -/
theorem flat_set (l : List (Int × Int)) (a b c : Int) : (flat (l ++ [(a, b)])).set (l.length * 2 + 1) (.int .i64 c) = flat (l ++ [(a, c)]) := by
  rw [flat_append, flat_append, List.set_append_right _ _ (by rw [flat_len]; omega), flat_len, show l.length * 2 + 1 - l.length * 2 = 1 by omega]
  rfl
theorem OwnR.turn {w : World} {B g n cap : Nat} {l : List (Int × Int)} {a b : Int} (h : OwnR w B (.slice (some ⟨g, 0, none⟩) n cap) (l ++ [(a, b)])) (hn : n = l.length + 1) (c : Int) (hc : I64 c) :
    OwnR (w.setCell ⟨g, l.length * 2 + 1, none⟩ (.int .i64 c)) B (.slice (some ⟨g, 0, none⟩) n cap) (l ++ [(a, c)]) ∧ w.grownBy (w.setCell ⟨g, l.length * 2 + 1, none⟩ (.int .i64 c)) (some g) := by
  obtain ⟨h1, h2⟩ := h
  have e : (l ++ [(a, b)]).length = n := by simp [hn]
  have e2 : (l ++ [(a, c)]).length = n := by simp [hn]
  rw [e] at h1
  obtain ⟨h3, h4⟩ := h1.stored (l.length * 2 + 1) (.int .i64 c)
  rw [flat_set] at h3
  refine ⟨⟨by rw [e2]; exact h3, fun r hr => ?_⟩, h4⟩
  rcases List.mem_append.1 hr with hr | hr
  · exact h2 r (List.mem_append.2 (Or.inl hr))
  · obtain rfl : r = (a, c) := by simpa using hr
    exact ⟨(h2 (a, b) (by simp)).1, hc⟩
/-- The last one's cells. -/
theorem OwnR.last {w : World} {B : Nat} {v : Value} {l : List (Int × Int)} {a b : Int} (h : OwnR w B v (l ++ [(a, b)])) : ∃ g cap, v = .slice (some ⟨g, 0, none⟩) (l.length + 1) cap ∧ w.cell? ⟨g, l.length * 2, none⟩ = some (.int .i64 a) ∧ w.cell? ⟨g, l.length * 2 + 1, none⟩ = some (.int .i64 b) ∧ (∀ o, w.frozen? ⟨g, o, none⟩ = false) ∧ B ≤ g ∧ g < w.heap.size := by
  obtain ⟨h1, h2⟩ := h
  have h1' := h1
  have hlt := h1.lt
  have e : (l ++ [(a, b)]).length = l.length + 1 := by simp
  rw [e] at h1
  rcases h1.2 with ⟨_, hn⟩ | ⟨g, cap, cur, rfl, hb, hg, hc, hm, hs, ht⟩
  · omega
  · have f := flat_at (l ++ [(a, b)]) l.length (by simp)
    have er : ra (l ++ [(a, b)]) l.length = (a, b) := by rw [ra_get (by simp)]; simp
    rw [er] at f
    exact ⟨g, cap, rfl, (h1.cellAt _ (by omega)).trans f.1, (h1.cellAt _ (by omega)).trans f.2, fun o => h1.frozenAt o, hlt g rfl⟩

set_option maxRecDepth 100000 in
theorem span_any (a b : Int) (w : World) : Calls Tryz.prog 47 #[.int .i64 a, .int .i64 b] w fun r w' => r = .returned (.agg #[.int .i64 a, .int .i64 b]) ∧ Below w.heap.size w w' := by
  go_enter Tryz.func47, Tryz.ntmps47
  go_wp2_with fail
  refine bodyPost_ret (v := .agg #[.int .i64 a, .int .i64 b]) (by simp [results, Tryz.results47, go_sem]) rfl ⟨rfl, ?_⟩
  with_reducible repeat (first | exact Below.refl _ _ | refine vb_a ?_ _ | refine vb_s ?_ (Nat.le_refl _) _)

set_option maxRecDepth 100000 in
theorem only_any (a : Int) (w : World) : Calls Tryz.prog 152 #[.int .i64 a] w fun r w' => r = .returned (.agg #[.int .i64 a, .int .i64 a]) ∧ Below w.heap.size w w' := by
  have h := fun w => span_any a a w
  go_enter Tryz.func152, Tryz.ntmps152
  go_wp2_with fail
  refine (h _).mono ?_; rintro r w1 ⟨rfl, hb1⟩
  have k := Bk.bel (Bk.new _ _ _) hb1
  obtain ⟨c0, c1⟩ := k.c2
  obtain ⟨z0, z1⟩ := k.z2
  have hb2 := vb_t (vb_a (Below.refl _ _) _) hb1
  have HB := hid_intro hb2
  clear k h hb1 hb2
  go_wp2_with fail
  refine bodyPost_ret (v := .agg #[.int .i64 a, .int .i64 a]) (by simp [results, Tryz.results152, go_sem, c0, c1]) rfl ⟨rfl, ?_⟩
  exact vb_s (vb_s HB.out (Nat.le_refl _) _) (Nat.le_refl _) _

theorem I64_of {k : Int} (h : -9223372036854775808 ≤ k) (h2 : k ≤ 9223372036854775807) : I64 k := ⟨h, h2⟩

theorem digits_any (w : World) : Calls Tryz.prog 165 #[] w fun r w' => ∃ v, r = .returned v ∧ RI w' (· < w.heap.size) digits v ∧ Below w.heap.size w w' := by
  have h := fun w => span_any 48 57 w
  go_enter Tryz.func165, Tryz.ntmps165
  go_wp2_with fail
  refine (h _).mono ?_; rintro r w1 ⟨rfl, hb1⟩
  go_wp2_with fail
  go_ret
  refine ⟨_, rfl, ?_, vb_a hb1 _⟩
  exact (OwnR.lit w1 w.heap.size digits _ rfl hb1.size (by decide) (by intro r hr; unfold I64; simp [digits] at hr; subst hr; decide) _ rfl).ri _ (fun b hb => by omega)
end Go.Proofs.YtoinlmfodmgohaaGreatDoor

namespace Go.Proofs.YtoinlmfodmgohaaGreatDoor
open Go.RowKit

/-- A state: its kind, its ranges, A and B. -/
structure ST where
  k : Int
  r : List (Int × Int)
  a : Int
  b : Int
deriving DecidableEq
/-- One of a row of states. -/
def sa (l : List ST) (i : Nat) : ST := l.getD i ⟨0, [], 0, 0⟩
theorem sa_get {l : List ST} {i : Nat} (h : i < l.length) : sa l i = l[i] := by
  unfold sa; rw [List.getD_eq_getElem?_getD, List.getElem?_eq_getElem h]; rfl
theorem sa_mem {l : List ST} {i : Nat} (h : i < l.length) : sa l i ∈ l := by
  rw [sa_get h]; exact List.getElem_mem h
/-- A state's numbers fit. -/
def ST.ok (s : ST) : Prop := I64 s.k ∧ I64 s.a ∧ I64 s.b
/-- A row of states in a world, outside of blocks that may be written yet. -/
def SI (w : World) (X : Nat → Prop) (l : List ST) (v : Value) : Prop :=
  ∃ ao cap, v = .slice ao l.length cap ∧ l.length ≤ cap ∧ cap ≤ maxLen ∧ (∀ s ∈ l, s.ok) ∧
    (l = [] ∨ ∃ b off, ∃ G : Nat → Value, ao = some ⟨b, off, none⟩ ∧ ¬ X b ∧ ∀ i, i < l.length → (w.cell? ⟨b, off + i * 4, none⟩ = some (.int .i64 (sa l i).k) ∧ w.cell? ⟨b, off + i * 4 + 1, none⟩ = some (G i) ∧ w.cell? ⟨b, off + i * 4 + 2, none⟩ = some (.int .i64 (sa l i).a) ∧ w.cell? ⟨b, off + i * 4 + 3, none⟩ = some (.int .i64 (sa l i).b)) ∧ RI w X (sa l i).r (G i))
theorem SI.carry {w w' : World} {X X' : Nat → Prop} {l : List ST} {v : Value} (h : SI w X l v) (hX : ∀ b, ¬ X b → b < w.heap.size → w'.heap[b]? = w.heap[b]? ∧ ¬ X' b) : SI w' X' l v := by
  obtain ⟨ao, cap, e, h1, h2, h3, h4⟩ := h
  refine ⟨ao, cap, e, h1, h2, h3, ?_⟩
  rcases h4 with h4 | ⟨b, off, G, h5, h6, h7⟩
  · exact Or.inl h4
  · by_cases hk : l = []
    · exact Or.inl hk
    have h0 : 0 < l.length := List.length_pos_iff.2 hk
    have hb : b < w.heap.size := World.block_lt_of_cell? w _ (h7 0 h0).1.1
    have hx := hX b h6 hb
    have key : ∀ o x, w.cell? ⟨b, o, none⟩ = some x → w'.cell? ⟨b, o, none⟩ = some x := fun o x hq => (World.cell?_of_block (w := w) (w' := w') hx.1).trans hq
    exact Or.inr ⟨b, off, G, h5, hx.2, fun i hi => ⟨⟨key _ _ (h7 i hi).1.1, key _ _ (h7 i hi).1.2.1, key _ _ (h7 i hi).1.2.2.1, key _ _ (h7 i hi).1.2.2.2⟩, (h7 i hi).2.carry hX⟩⟩
theorem SI.kept {w w' : World} {X : Nat → Prop} {l : List ST} {v : Value} (h : SI w X l v) (hb : Below w.heap.size w w') : SI w' X l v := h.carry fun b hx hlt => ⟨hb.block b hlt, hx⟩
theorem SI.nil (w : World) (X : Nat → Prop) : SI w X [] (.slice none 0 0) := ⟨none, 0, rfl, Nat.le_refl _, by unfold maxLen; omega, fun r hr => by simp at hr, Or.inl rfl⟩
end Go.Proofs.YtoinlmfodmgohaaGreatDoor

namespace Go.Proofs.YtoinlmfodmgohaaGreatDoor

theorem sub_len : ∀ (l m : List Int), l.Nodup → (∀ x ∈ l, x ∈ m) → l.length ≤ m.length
  | [], m, _, _ => Nat.zero_le _
  | x :: l, m, hn, hs => by
    rw [List.nodup_cons] at hn
    have hx : x ∈ m := hs x (by simp)
    have := sub_len l (m.erase x) hn.2 (fun y hy => by
      have hne : y ≠ x := fun e => hn.1 (e ▸ hy)
      exact (List.mem_erase_of_ne hne).2 (hs y (by simp [hy])))
    rw [List.length_erase_of_mem hx] at this
    have : 0 < m.length := List.length_pos_of_mem hx
    simp only [List.length_cons]
    omega
theorem pig (n : Nat) (l : List Int) (hn : l.Nodup) (h : ∀ x ∈ l, 0 ≤ x ∧ x < (n : Int)) : l.length ≤ n := by
  have := sub_len l ((List.range n).map Int.ofNat) hn (fun x hx => by
    have := h x hx
    rw [List.mem_map]
    exact ⟨x.toNat, by rw [List.mem_range]; omega, by show (x.toNat : Int) = x; omega⟩)
  simpa using this
/-- How many there are. -/
def Cnt (S : Int → Prop) (c : Nat) : Prop := ∃ H : List Int, H.Nodup ∧ (∀ x, x ∈ H ↔ S x) ∧ H.length = c
theorem Cnt.uniq {S : Int → Prop} {c d : Nat} (h : Cnt S c) (h' : Cnt S d) : c = d := by
  obtain ⟨H, h1, h2, h3⟩ := h
  obtain ⟨K, k1, k2, k3⟩ := h'
  have a := sub_len H K h1 (fun x hx => (k2 x).2 ((h2 x).1 hx))
  have b := sub_len K H k1 (fun x hx => (h2 x).2 ((k2 x).1 hx))
  omega
/-- A state by its number. -/
def sx (L : List ST) (x : Int) : ST := sa L x.toNat
def InL (L : List ST) (x : Int) : Prop := 0 ≤ x ∧ x < (L.length : Int)
/-- States that lead within the list. -/
def VS (L : List ST) : Prop := 0 < L.length ∧ ∀ s ∈ L, ((s.k = 1 ∨ s.k = 2 ∨ s.k = 3 ∨ s.k = 4 ∨ s.k = 5 ∨ s.k = 6) → InL L s.a) ∧ (s.k = 2 → InL L s.b)
theorem VS.at {L : List ST} (h : VS L) {x : Int} (hx : InL L x) : (((sx L x).k = 1 ∨ (sx L x).k = 2 ∨ (sx L x).k = 3 ∨ (sx L x).k = 4 ∨ (sx L x).k = 5 ∨ (sx L x).k = 6) → InL L (sx L x).a) ∧ ((sx L x).k = 2 → InL L (sx L x).b) :=
  h.2 _ (sa_mem (by unfold InL at hx; omega))
/-- What lets one through at a place. -/
def GG (g : Int → Bool) : Prop := g 2 = true ∧ ∀ k, g k = true → k = 2 ∨ k = 3 ∨ k = 4 ∨ k = 5 ∨ k = 6
inductive Rch (L : List ST) (g : Int → Bool) (F : Int → Prop) : Int → Prop
  | base {x : Int} (h : F x) : Rch L g F x
  | a {x : Int} (h : Rch L g F x) (hg : g (sx L x).k = true) : Rch L g F (sx L x).a
  | b {x : Int} (h : Rch L g F x) (hk : (sx L x).k = 2) : Rch L g F (sx L x).b
/-- What the program does from one state on. -/
def fol (L : List ST) (g : Int → Bool) : Nat → Int → List Int × List Int → List Int × List Int
  | 0, s, p => if s ∈ p.1 then p else (p.1, p.2 ++ [s])
  | d + 1, s, p => if s ∈ p.1 then p else if g (sx L s).k = true then (if (sx L s).k = 2 then fol L g d (sx L s).b (fol L g d (sx L s).a (p.1 ++ [s], p.2)) else fol L g d (sx L s).a (p.1 ++ [s], p.2)) else (p.1 ++ [s], p.2)
theorem fol_in {L : List ST} {g : Int → Bool} {d : Nat} {s : Int} {H W : List Int} (h : s ∈ H) : fol L g d s (H, W) = (H, W) := by
  cases d <;> (rw [fol]; exact if_pos h)
theorem fol_end {L : List ST} {g : Int → Bool} {s : Int} {H W : List Int} (h : s ∉ H) : fol L g 0 s (H, W) = (H, W ++ [s]) := by rw [fol]; exact if_neg h
theorem fol_stop {L : List ST} {g : Int → Bool} {d : Nat} {s : Int} {H W : List Int} (h : s ∉ H) (hg : g (sx L s).k = false) : fol L g (d + 1) s (H, W) = (H ++ [s], W) := by
  rw [fol, if_neg h, if_neg (by rw [hg]; exact Bool.false_ne_true)]
theorem fol_go {L : List ST} {g : Int → Bool} {d : Nat} {s : Int} {H W : List Int} (h : s ∉ H) (hg : g (sx L s).k = true) (hk : (sx L s).k ≠ 2) : fol L g (d + 1) s (H, W) = fol L g d (sx L s).a (H ++ [s], W) := by
  rw [fol, if_neg h, if_pos hg, if_neg hk]
theorem fol_fork {L : List ST} {g : Int → Bool} {d : Nat} {s : Int} {H W : List Int} (h : s ∉ H) (hg : g (sx L s).k = true) (hk : (sx L s).k = 2) : fol L g (d + 1) s (H, W) = fol L g d (sx L s).b (fol L g d (sx L s).a (H ++ [s], W)) := by
  rw [fol, if_neg h, if_pos hg, if_pos hk]
structure Grd (L : List ST) (g : Int → Bool) (F : Int → Prop) (H W : List Int) : Prop where
  nd : H.Nodup
  inH : ∀ x ∈ H, InL L x
  inW : ∀ x ∈ W, InL L x
  so : ∀ x, x ∈ H ∨ x ∈ W → Rch L g F x
theorem Grd.le {L : List ST} {g : Int → Bool} {F : Int → Prop} {H W : List Int} (h : Grd L g F H W) : H.length ≤ L.length := pig _ _ h.nd h.inH
def Cl (L : List ST) (g : Int → Bool) (x : Int) (H W : List Int) : Prop := (g (sx L x).k = true → (sx L x).a ∈ H ∨ (sx L x).a ∈ W) ∧ ((sx L x).k = 2 → (sx L x).b ∈ H ∨ (sx L x).b ∈ W)
theorem Cl.mono {L : List ST} {g : Int → Bool} {x : Int} {H W H' W' : List Int} (h : Cl L g x H W) (hs : ∀ y, y ∈ H ∨ y ∈ W → y ∈ H' ∨ y ∈ W') : Cl L g x H' W' := ⟨fun e => hs _ (h.1 e), fun e => hs _ (h.2 e)⟩
structure FolR (L : List ST) (g : Int → Bool) (F : Int → Prop) (d : Nat) (s : Int) (H W H' W' : List Int) : Prop where
  grd : Grd L g F H' W'
  ext : ∃ E G, H' = H ++ E ∧ W' = W ++ G ∧ G.length ≤ 2 * E.length + (if d = 0 then 1 else 0) ∧ ∀ x ∈ E, Cl L g x H' W'
  has : s ∈ H' ∨ s ∈ W'
theorem FolR.sub {L : List ST} {g : Int → Bool} {F : Int → Prop} {d : Nat} {s : Int} {H W H' W' : List Int} (h : FolR L g F d s H W H' W') : ∀ y, y ∈ H ∨ y ∈ W → y ∈ H' ∨ y ∈ W' := by
  obtain ⟨E, G, e1, e2, _⟩ := h.ext
  rintro y (hy | hy)
  · exact Or.inl (by rw [e1]; simp [hy])
  · exact Or.inr (by rw [e2]; simp [hy])
theorem Grd.push {L : List ST} {g : Int → Bool} {F : Int → Prop} {H W : List Int} (h : Grd L g F H W) {s : Int} (hs : s ∉ H) (hi : InL L s) (hr : Rch L g F s) : Grd L g F (H ++ [s]) W := by
  refine ⟨?_, ?_, h.inW, ?_⟩
  · rw [List.nodup_append]
    exact ⟨h.nd, by simp, fun a ha b hb e => by simp at hb; exact hs (hb ▸ e ▸ ha)⟩
  · intro x hx
    rcases List.mem_append.1 hx with hx | hx
    · exact h.inH x hx
    · simp at hx; exact hx ▸ hi
  · rintro x (hx | hx)
    · rcases List.mem_append.1 hx with hx | hx
      · exact h.so x (Or.inl hx)
      · simp at hx; exact hx ▸ hr
    · exact h.so x (Or.inr hx)
theorem fol_post {L : List ST} {g : Int → Bool} {F : Int → Prop} (hL : VS L) (hg : GG g) : ∀ (d : Nat) (s : Int) (H W : List Int), InL L s → Rch L g F s → Grd L g F H W →
    FolR L g F d s H W (fol L g d s (H, W)).1 (fol L g d s (H, W)).2
  | 0, s, H, W, hi, hr, hG => by
    by_cases h : s ∈ H
    · rw [fol_in h]
      exact ⟨hG, ⟨[], [], by simp, by simp, by simp, by simp⟩, Or.inl h⟩
    · rw [fol_end h]
      refine ⟨⟨hG.nd, hG.inH, ?_, ?_⟩, ⟨[], [s], by simp, rfl, by simp, by simp⟩, Or.inr (by simp)⟩
      · intro x hx
        rcases List.mem_append.1 hx with hx | hx
        · exact hG.inW x hx
        · simp at hx; exact hx ▸ hi
      · rintro x (hx | hx)
        · exact hG.so x (Or.inl hx)
        · rcases List.mem_append.1 hx with hx | hx
          · exact hG.so x (Or.inr hx)
          · simp at hx; exact hx ▸ hr
  | d + 1, s, H, W, hi, hr, hG => by
    by_cases h : s ∈ H
    · rw [fol_in h]
      exact ⟨hG, ⟨[], [], by simp, by simp, by simp, by simp⟩, Or.inl h⟩
    have hp := hG.push h hi hr
    have hv := hL.at hi
    cases hgk : g (sx L s).k
    · rw [fol_stop h hgk]
      refine ⟨hp, ⟨[s], [], rfl, by simp, by simp, ?_⟩, Or.inl (by simp)⟩
      intro x hx
      simp at hx
      subst hx
      refine ⟨fun e => by rw [hgk] at e; exact absurd e Bool.false_ne_true, fun e => ?_⟩
      rw [e, hg.1] at hgk
      exact absurd hgk (by simp)
    have hk := hg.2 _ hgk
    have ha : InL L (sx L s).a := hv.1 (by omega)
    have h1 := fol_post hL hg d (sx L s).a (H ++ [s]) W ha (.a hr hgk) hp
    by_cases h2 : (sx L s).k = 2
    · rw [fol_fork h hgk h2]
      generalize hq : fol L g d (sx L s).a (H ++ [s], W) = q at h1 ⊢
      obtain ⟨H1, W1⟩ := q
      have h3 := fol_post hL hg d (sx L s).b H1 W1 (hv.2 h2) (.b hr h2) h1.grd
      generalize fol L g d (sx L s).b (H1, W1) = q2 at h3 ⊢
      obtain ⟨H2, W2⟩ := q2
      obtain ⟨E1, G1, e1, e2, e3, e4⟩ := h1.ext
      obtain ⟨E2, G2, f1, f2, f3, f4⟩ := h3.ext
      dsimp only at e1 e2 e4 f1 f2 f4 h1 h3 ⊢
      refine ⟨h3.grd, ⟨[s] ++ E1 ++ E2, G1 ++ G2, by rw [f1, e1]; simp, by rw [f2, e2]; simp, ?_, ?_⟩, Or.inl (by rw [f1, e1]; simp)⟩
      · simp only [List.length_append, List.length_cons, List.length_nil]
        have : (if d = 0 then 1 else 0) ≤ 1 := by split <;> omega
        omega
      · intro x hx
        simp only [List.mem_append, List.mem_cons, List.not_mem_nil, or_false] at hx
        rcases hx with (hx | hx) | hx
        · subst hx
          exact ⟨fun _ => h3.sub _ h1.has, fun _ => h3.has⟩
        · exact (e4 x hx).mono h3.sub
        · exact f4 x hx
    · rw [fol_go h hgk h2]
      obtain ⟨E1, G1, e1, e2, e3, e4⟩ := h1.ext
      refine ⟨h1.grd, ⟨[s] ++ E1, G1, by rw [e1]; simp, e2, ?_, ?_⟩, Or.inl (by rw [e1]; simp)⟩
      · simp only [List.length_append, List.length_cons, List.length_nil]
        have : (if d = 0 then 1 else 0) ≤ 1 := by split <;> omega
        omega
      · intro x hx
        simp only [List.mem_append, List.mem_cons, List.not_mem_nil, or_false] at hx
        rcases hx with hx | hx
        · subst hx
          exact ⟨fun _ => h1.has, fun e => absurd e h2⟩
        · exact e4 x hx
/-- What the loop keeps. -/
structure Lp (L : List ST) (g : Int → Bool) (F : Int → Prop) (H W : List Int) : Prop where
  grd : Grd L g F H W
  cl : ∀ x ∈ H, Cl L g x H W
  fr : ∀ x, F x → x ∈ H ∨ x ∈ W
theorem Lp.start {L : List ST} {g : Int → Bool} {W : List Int} (hi : ∀ x ∈ W, InL L x) : Lp L g (fun x => x ∈ W) [] W :=
  ⟨⟨List.nodup_nil, fun x hx => by simp at hx, hi, fun x hx => .base (by simpa using hx)⟩, fun x hx => by simp at hx, fun x hx => Or.inr hx⟩
theorem Lp.step {L : List ST} {g : Int → Bool} {F : Int → Prop} (hL : VS L) (hg : GG g) {H W : List Int} {s : Int} (h : Lp L g F H (W ++ [s])) (d : Nat) :
    Lp L g F (fol L g (d + 1) s (H, W)).1 (fol L g (d + 1) s (H, W)).2 ∧ 3 * (L.length - (fol L g (d + 1) s (H, W)).1.length) + (fol L g (d + 1) s (H, W)).2.length < 3 * (L.length - H.length) + (W ++ [s]).length := by
  have hi : InL L s := h.grd.inW s (by simp)
  have hr : Rch L g F s := h.grd.so s (Or.inr (by simp))
  have hG : Grd L g F H W := ⟨h.grd.nd, h.grd.inH, fun x hx => h.grd.inW x (by simp [hx]), fun x hx => h.grd.so x (hx.imp id (fun e => by simp [e]))⟩
  have hp := fol_post hL hg (d + 1) s H W hi hr hG
  generalize fol L g (d + 1) s (H, W) = q at hp ⊢
  obtain ⟨H', W'⟩ := q
  dsimp only at hp ⊢
  have hs : ∀ y, y ∈ H ∨ y ∈ W ++ [s] → y ∈ H' ∨ y ∈ W' := by
    rintro y (hy | hy)
    · exact hp.sub y (Or.inl hy)
    · rcases List.mem_append.1 hy with hy | hy
      · exact hp.sub y (Or.inr hy)
      · simp at hy; exact hy ▸ hp.has
  have hle := hp.grd.le
  obtain ⟨E, G, e1, e2, e3, e4⟩ := hp.ext
  refine ⟨⟨hp.grd, fun x hx => ?_, fun x hx => hs x (h.fr x hx)⟩, ?_⟩
  · rw [e1] at hx
    rcases List.mem_append.1 hx with hx | hx
    · exact (h.cl x hx).mono hs
    · exact e4 x hx
  · rw [if_neg (by omega)] at e3
    rw [e1, e2]
    rw [e1] at hle
    simp only [List.length_append, List.length_cons, List.length_nil] at hle ⊢
    omega
theorem Lp.done {L : List ST} {g : Int → Bool} {F : Int → Prop} {H : List Int} (h : Lp L g F H []) : ∀ x, x ∈ H ↔ Rch L g F x := by
  intro x
  refine ⟨fun hx => h.grd.so x (Or.inl hx), fun hx => ?_⟩
  induction hx with
  | base hx => exact (h.fr _ hx).elim id (fun e => by simp at e)
  | a _ hg ih => exact ((h.cl _ ih).1 hg).elim id (fun e => by simp at e)
  | b _ hk ih => exact ((h.cl _ ih).2 hk).elim id (fun e => by simp at e)
end Go.Proofs.YtoinlmfodmgohaaGreatDoor

namespace Go.Proofs.YtoinlmfodmgohaaGreatDoor
theorem Bk.but {w w' : World} {b : Nat} {cs : Array Value} {X : Nat → Prop} (h : Bk w b cs) (hb : But X w w') (hx : ¬ X b) : Bk w' b cs := by
  have hl := h.lt
  obtain ⟨T, h⟩ := h
  exact ⟨T, by rw [hb.block b hl hx]; exact h⟩
end Go.Proofs.YtoinlmfodmgohaaGreatDoor
