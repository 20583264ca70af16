/-
  Rows of ranges of the call's own: literals, append, the last one turned; span, only and the named sets. No condition.
  A number of 64 bits is its own wrap. No condition.
-/
import Derived.Test.YtppilokmgdpnnaaGreatDoorJoined6
import Derived.Laws.OwnMore
import Derived.Lib.Builder
namespace Go.Proofs.YtppilokmgdpnnaaGreatDoor
open Go.RowKit
attribute [local go_sem] setCell_drewN alloc_drewN

/-- A block of a struct's cells. -/
def Bk (w : World) (b : Nat) (cs : Array Value) : Prop := ∃ T, w.heap[b]? = some (.cells cs T (0, 0))
theorem Bk.lt {w : World} {b : Nat} {cs : Array Value} (h : Bk w b cs) : b < w.heap.size := by
  obtain ⟨T, h⟩ := h
  exact (Array.getElem?_eq_some_iff.1 h).1
theorem Bk.cell {w : World} {b : Nat} {cs : Array Value} (h : Bk w b cs) (i : Nat) : w.cell? ⟨b, i, none⟩ = cs[i]? := by
  obtain ⟨T, h⟩ := h
  exact Lib.cell_of_heap h i
theorem Bk.frz {w : World} {b : Nat} {cs : Array Value} (h : Bk w b cs) (i : Nat) : w.frozen? ⟨b, i, none⟩ = false := by
  obtain ⟨T, h⟩ := h
  exact Lib.frozen_of_heap h i
theorem Bk.below {w w' : World} {b B : Nat} {cs : Array Value} (h : Bk w b cs) (hb : Below B w w') (hlt : b < B) : Bk w' b cs := by
  obtain ⟨T, h⟩ := h
  exact ⟨T, by rw [hb.block b hlt]; exact h⟩
theorem Bk.bel {w w' : World} {b : Nat} {cs : Array Value} (h : Bk w b cs) (hb : Below w.heap.size w w') : Bk w' b cs := h.below hb h.lt
theorem Bk.new (w : World) (cs : Array Value) (T : TypeId) : Bk (w.alloc (.cells cs T)) w.heap.size cs := ⟨T, by show (w.heap.push _)[w.heap.size]? = _; simp⟩
theorem Bk.new' (w : World) (cs : Array Value) (T : TypeId) (b : Nat) (hb : w.heap.size = b) : Bk (w.alloc (.cells cs T)) b cs := hb ▸ Bk.new w cs T
theorem Bk.al {w : World} {b : Nat} {cs : Array Value} (h : Bk w b cs) (o : Obj) : Bk (w.alloc o) b cs := h.bel (vb_a (Below.refl _ _) _)
theorem Bk.dr {w : World} {b : Nat} {cs : Array Value} (h : Bk w b cs) (n : Nat) : Bk (w.drewN n) b cs := h
theorem Bk.dw {w : World} {b : Nat} {cs : Array Value} (h : Bk w b cs) : Bk w.drew b cs := h
theorem Bk.away {w : World} {b : Nat} {cs : Array Value} (h : Bk w b cs) {a : Addr} {v : Value} (hne : b ≠ a.block) : Bk (w.setCell a v) b cs := by
  obtain ⟨T, h⟩ := h
  exact ⟨T, by rw [Below.heap_setCell w a v b hne]; exact h⟩
theorem Bk.set {w : World} {b : Nat} {cs cs' : Array Value} (h : Bk w b cs) (i : Nat) (v : Value) (e : cs.setIfInBounds i v = cs') : Bk (w.setCell ⟨b, i, none⟩ v) b cs' := by
  have hl := h.lt
  obtain ⟨T, h⟩ := h
  refine ⟨T, ?_⟩
  subst e
  obtain ⟨hl', e'⟩ := Array.getElem?_eq_some_iff.1 h
  simp only [World.setCell]
  rw [Array.getElem?_eq_getElem (by rw [Array.size_modify]; exact hl), Array.getElem_modify_self, e']
  rfl
theorem Bk.c2 {w : World} {b : Nat} {x0 x1 : Value} (h : Bk w b #[x0, x1]) : w.cell? ⟨b, 0, none⟩ = some x0 ∧ w.cell? ⟨b, 1, none⟩ = some x1 := ⟨h.cell 0, h.cell 1⟩
theorem Bk.z2 {w : World} {b : Nat} {cs : Array Value} (h : Bk w b cs) : w.frozen? ⟨b, 0, none⟩ = false ∧ w.frozen? ⟨b, 1, none⟩ = false := ⟨h.frz 0, h.frz 1⟩
theorem Bk.c6 {w : World} {b : Nat} {x0 x1 x2 x3 x4 x5 : Value} (h : Bk w b #[x0, x1, x2, x3, x4, x5]) :
    w.cell? ⟨b, 0, none⟩ = some x0 ∧ w.cell? ⟨b, 1, none⟩ = some x1 ∧ w.cell? ⟨b, 2, none⟩ = some x2 ∧ w.cell? ⟨b, 3, none⟩ = some x3 ∧ w.cell? ⟨b, 4, none⟩ = some x4 ∧ w.cell? ⟨b, 5, none⟩ = some x5 :=
  ⟨h.cell 0, h.cell 1, h.cell 2, h.cell 3, h.cell 4, h.cell 5⟩
theorem Bk.z6 {w : World} {b : Nat} {cs : Array Value} (h : Bk w b cs) :
    w.frozen? ⟨b, 0, none⟩ = false ∧ w.frozen? ⟨b, 1, none⟩ = false ∧ w.frozen? ⟨b, 2, none⟩ = false ∧ w.frozen? ⟨b, 3, none⟩ = false ∧ w.frozen? ⟨b, 4, none⟩ = false ∧ w.frozen? ⟨b, 5, none⟩ = false :=
  ⟨h.frz 0, h.frz 1, h.frz 2, h.frz 3, h.frz 4, h.frz 5⟩

def flat (l : List (Int × Int)) : List Value := l.flatMap fun r => [.int .i64 r.1, .int .i64 r.2]
theorem flat_len (l : List (Int × Int)) : (flat l).length = l.length * 2 := by
  induction l with
  | nil => rfl
  | cons r l ih => simp only [flat, List.flatMap_cons, List.length_append, List.length_cons, List.length_nil] at ih ⊢; omega
theorem flat_at (l : List (Int × Int)) (i : Nat) (h : i < l.length) : (flat l)[i * 2]? = some (.int .i64 (ra l i).1) ∧ (flat l)[i * 2 + 1]? = some (.int .i64 (ra l i).2) := by
  induction l generalizing i with
  | nil => simp at h
  | cons r l ih =>
    cases i with
    | zero => exact ⟨rfl, rfl⟩
    | succ i =>
      have := ih i (by simpa using h)
      have e : ra (r :: l) (i + 1) = ra l i := rfl
      rw [e, show (i + 1) * 2 = i * 2 + 2 by omega]
      exact this
theorem flat_append (l m : List (Int × Int)) : flat (l ++ m) = flat l ++ flat m := by simp [flat]
/-- A row of the call's own, from block B on. -/
def OwnR (w : World) (B : Nat) (v : Value) (l : List (Int × Int)) : Prop := w.ownsRow B 46 2 v l.length (flat l) ∧ ∀ r ∈ l, I64 r.1 ∧ I64 r.2
theorem OwnR.nil (w : World) (B : Nat) : OwnR w B (.slice none 0 0) [] := ⟨World.ownsRow_nil w B _ 2, fun r hr => by simp at hr⟩
theorem OwnR.ri {w : World} {B : Nat} {v : Value} {l : List (Int × Int)} (h : OwnR w B v l) (X : Nat → Prop) (hX : ∀ b, B ≤ b → ¬ X b) : RI w X l v := by
  obtain ⟨ho, hw⟩ := h
  have ho' := ho
  rcases ho.2 with ⟨rfl, hn⟩ | ⟨g, cap, cur, rfl, hb, hg, hc, hm, hs, ht⟩
  · have : l = [] := List.eq_nil_of_length_eq_zero hn
    subst this
    exact RI.nil w X
  · refine ⟨_, cap, rfl, hc, hm, hw, Or.inr ⟨g, 0, rfl, hX g hb, fun i hi => ?_⟩⟩
    have h2 := flat_at l i hi
    rw [Nat.zero_add]
    exact ⟨(ho'.cellAt _ (by omega)).trans h2.1, (ho'.cellAt _ (by omega)).trans h2.2⟩
theorem OwnR.lit (w : World) (B : Nat) (l : List (Int × Int)) (cs : Array Value) (hcs : cs.toList = flat l) (hB : B ≤ w.heap.size) (hl : l.length ≤ 1000) (hw : ∀ r ∈ l, I64 r.1 ∧ I64 r.2) (n : Nat) (hn : n = l.length) :
    OwnR (w.alloc (.cells cs 46)) B (.slice (some ⟨w.heap.size, 0, none⟩) n n) l := by
  subst hn
  refine ⟨?_, hw⟩
  have hsz : cs.size = l.length * 2 := by rw [← Array.length_toList, hcs, flat_len]
  have := World.ownsRow_lit (base := B) (e := 46) (size := 2) w cs l.length hB (by unfold maxLen; omega) hsz
  rw [hcs] at this
  exact this
theorem OwnR.lt {w : World} {B : Nat} {v : Value} {l : List (Int × Int)} (h : OwnR w B v l) : ∀ k, v.ownBlock = some k → B ≤ k ∧ k < w.heap.size := h.1.lt
theorem OwnR.kept {w w' : World} {B : Nat} {v : Value} {l : List (Int × Int)} (h : OwnR w B v l) (hb : ∀ k, v.ownBlock = some k → w'.heap[k]? = w.heap[k]?) : OwnR w' B v l := by
  obtain ⟨⟨h1, h2⟩, h3⟩ := h
  refine ⟨⟨h1, ?_⟩, h3⟩
  rcases h2 with h2 | ⟨g, cap, cur, rfl, hB, hg, rest⟩
  · exact Or.inl h2
  · exact Or.inr ⟨g, cap, cur, rfl, hB, by rw [hb g rfl]; exact hg, rest⟩
theorem OwnR.below {w w' : World} {B : Nat} {v : Value} {l : List (Int × Int)} (h : OwnR w B v l) (hb : Below w.heap.size w w') : OwnR w' B v l := h.kept fun k hk => hb.block k (h.lt k hk).2
theorem OwnR.mono {w : World} {B B' : Nat} {v : Value} {l : List (Int × Int)} (h : OwnR w B v l) (hB : B' ≤ B) : OwnR w B' v l := by
  obtain ⟨⟨h1, h2⟩, h3⟩ := h
  refine ⟨⟨h1, ?_⟩, h3⟩
  rcases h2 with h2 | ⟨g, cap, cur, rfl, hb, rest⟩
  · exact Or.inl h2
  · exact Or.inr ⟨g, cap, cur, rfl, by omega, rest⟩
theorem infoRange : (Tryz.prog.info? 46).map (fun i => (i.zero, i.size, i.bytes)) = some (some (.agg #[.int .i64 0, .int .i64 0]), 2, 16) := by kernel_rfl

/-- One range more. -/
theorem wpList_append_rng {w : World} {ops : Array Oper} {rest : List Oper} {o : Oper} {a : Act} {Q : Exit → Act → World → Prop} (hgd : o.guard = none) (s x : Operand)
    (ho : o.op = .call { callee := .builtin .append, args := #[s, x], argTypes := #[23, 23] })
    (B : Nat) (v : Value) (l : List (Int × Int)) (p q : Int) (hs : a.eval s = v) (hown : OwnR w B v l) (hB : B ≤ w.heap.size) (hsz : l.length + 1 ≤ 1099511627776) (hp : I64 p ∧ I64 q)
    (t : Nat) (ht : w.heap.size = t) (hx : a.eval x = .slice (some ⟨t, 0, none⟩) 1 1)
    (h : ∀ v' w', OwnR w' B v' (l ++ [(p, q)]) → (w.alloc (.cells #[.int .i64 p, .int .i64 q] 46)).grownBy w' v.ownBlock → wpList Tryz.prog ops Q rest (a.put o.dst v') w') :
    wpList Tryz.prog ops Q (o :: rest) a (w.alloc (.cells #[.int .i64 p, .int .i64 q] 46)) := by
  subst ht
  obtain ⟨i0, hi, hz0, hz1, hz2⟩ := info_parts infoRange
  refine wpList_append_own _ hgd s x 23 ho B 46 i0 (.agg #[.int .i64 0, .int .i64 0]) 2 16 Tryz.underlying23 hi hz0 hz1 hz2 rfl (by decide) v l.length (flat l) hs (hown.1.alloc _) ⟨w.heap.size, 0, none⟩ 1 1 [.int .i64 p, .int .i64 q] hx rfl ?_ ?_ ?_ ?_ ?_ ?_
  · intro j u hj
    match j, hj with
    | 0, hj => simp at hj; subst hj; simp [Addr.add, go_sem]
    | 1, hj => simp at hj; subst hj; simp [Addr.add, go_sem]
  · intro u hu
    simp at hu
    rcases hu with rfl | rfl <;> rfl
  · unfold maxLen; omega
  · omega
  · simp; omega
  · intro v' w' h1 h2 _
    refine h v' w' ⟨?_, fun r hr => ?_⟩ h2
    · rw [flat_append, List.length_append]
      exact h1
    · rcases List.mem_append.1 hr with hr | hr
      · exact hown.2 r hr
      · obtain rfl : r = (p, q) := by simpa using hr
        exact hp
/-- Ranges more. -/
theorem wpList_append_rngs {w : World} {ops : Array Oper} {rest : List Oper} {o : Oper} {a : Act} {Q : Exit → Act → World → Prop} (hgd : o.guard = none) (s x : Operand)
    (ho : o.op = .call { callee := .builtin .append, args := #[s, x], argTypes := #[23, 23] })
    (B : Nat) (v v2 : Value) (l m : List (Int × Int)) (hs : a.eval s = v) (hown : OwnR w B v l) (hB : B ≤ w.heap.size) (hsz : l.length + m.length ≤ 1099511627776) (X : Nat → Prop) (hm : RI w X m v2) (hne : m ≠ [])
    (hx : a.eval x = v2)
    (h : ∀ v' w', OwnR w' B v' (l ++ m) → w.grownBy w' v.ownBlock → wpList Tryz.prog ops Q rest (a.put o.dst v') w') :
    wpList Tryz.prog ops Q (o :: rest) a w := by
  obtain ⟨i0, hi, hz0, hz1, hz2⟩ := info_parts infoRange
  obtain ⟨ao, cap, rfl, hc, hcm, hwf, hlie⟩ := hm
  rcases hlie with hlie | ⟨b, off, rfl, _, hcell⟩
  · exact absurd hlie hne
  refine wpList_append_own _ hgd s x 23 ho B 46 i0 (.agg #[.int .i64 0, .int .i64 0]) 2 16 Tryz.underlying23 hi hz0 hz1 hz2 rfl (by decide) v l.length (flat l) hs hown.1 ⟨b, off, none⟩ m.length cap (flat m) hx (flat_len m) ?_ ?_ ?_ ?_ hB ?_
  · intro j u hj
    have hjl : j < m.length * 2 := by
      have := (List.getElem?_eq_some_iff.1 hj).1
      rwa [flat_len] at this
    rw [add_at]
    obtain ⟨i, hi | hi⟩ : ∃ i, j = i * 2 ∨ j = i * 2 + 1 := ⟨j / 2, by omega⟩
    · subst hi
      have h2 := flat_at m i (by omega)
      rw [h2.1] at hj
      rw [(hcell i (by omega)).1, hj]
    · subst hi
      have h2 := flat_at m i (by omega)
      rw [h2.2] at hj
      rw [← Nat.add_assoc, (hcell i (by omega)).2, hj]
  · intro u hu
    simp only [flat, List.mem_flatMap, List.mem_cons, List.not_mem_nil, or_false] at hu
    obtain ⟨r, _, rfl | rfl⟩ := hu <;> rfl
  · unfold maxLen; omega
  · omega
  · intro v' w' h1 h2 _
    refine h v' w' ⟨?_, fun r hr => ?_⟩ h2
    · rw [flat_append, List.length_append]
      exact h1
    · rcases List.mem_append.1 hr with hr | hr
      · exact hown.2 r hr
      · exact hwf r hr
/-- The last one's end turned. -/
theorem flat_set (l : List (Int × Int)) (a b c : Int) : (flat (l ++ [(a, b)])).set (l.length * 2 + 1) (.int .i64 c) = flat (l ++ [(a, c)]) := by
  rw [flat_append, flat_append, List.set_append_right _ _ (by rw [flat_len]; omega), flat_len, show l.length * 2 + 1 - l.length * 2 = 1 by omega]
  rfl
theorem OwnR.turn {w : World} {B g n cap : Nat} {l : List (Int × Int)} {a b : Int} (h : OwnR w B (.slice (some ⟨g, 0, none⟩) n cap) (l ++ [(a, b)])) (hn : n = l.length + 1) (c : Int) (hc : I64 c) :
    OwnR (w.setCell ⟨g, l.length * 2 + 1, none⟩ (.int .i64 c)) B (.slice (some ⟨g, 0, none⟩) n cap) (l ++ [(a, c)]) ∧ w.grownBy (w.setCell ⟨g, l.length * 2 + 1, none⟩ (.int .i64 c)) (some g) := by
  obtain ⟨h1, h2⟩ := h
  have e : (l ++ [(a, b)]).length = n := by simp [hn]
  have e2 : (l ++ [(a, c)]).length = n := by simp [hn]
  rw [e] at h1
  obtain ⟨h3, h4⟩ := h1.stored (l.length * 2 + 1) (.int .i64 c)
  rw [flat_set] at h3
  refine ⟨⟨by rw [e2]; exact h3, fun r hr => ?_⟩, h4⟩
  rcases List.mem_append.1 hr with hr | hr
  · exact h2 r (List.mem_append.2 (Or.inl hr))
  · obtain rfl : r = (a, c) := by simpa using hr
    exact ⟨(h2 (a, b) (by simp)).1, hc⟩
/-- The last one's cells. -/
theorem OwnR.last {w : World} {B : Nat} {v : Value} {l : List (Int × Int)} {a b : Int} (h : OwnR w B v (l ++ [(a, b)])) : ∃ g cap, v = .slice (some ⟨g, 0, none⟩) (l.length + 1) cap ∧ w.cell? ⟨g, l.length * 2, none⟩ = some (.int .i64 a) ∧ w.cell? ⟨g, l.length * 2 + 1, none⟩ = some (.int .i64 b) ∧ (∀ o, w.frozen? ⟨g, o, none⟩ = false) ∧ B ≤ g ∧ g < w.heap.size := by
  obtain ⟨h1, h2⟩ := h
  have h1' := h1
  have hlt := h1.lt
  have e : (l ++ [(a, b)]).length = l.length + 1 := by simp
  rw [e] at h1
  rcases h1.2 with ⟨_, hn⟩ | ⟨g, cap, cur, rfl, hb, hg, hc, hm, hs, ht⟩
  · omega
  · have f := flat_at (l ++ [(a, b)]) l.length (by simp)
    have er : ra (l ++ [(a, b)]) l.length = (a, b) := by rw [ra_get (by simp)]; simp
    rw [er] at f
    exact ⟨g, cap, rfl, (h1.cellAt _ (by omega)).trans f.1, (h1.cellAt _ (by omega)).trans f.2, fun o => h1.frozenAt o, hlt g rfl⟩

set_option maxRecDepth 100000 in
theorem span_any (a b : Int) (w : World) : Calls Tryz.prog 31 #[.int .i64 a, .int .i64 b] w fun r w' => r = .returned (.agg #[.int .i64 a, .int .i64 b]) ∧ Below w.heap.size w w' := by
  go_enter Tryz.func31, Tryz.ntmps31
  go_wp2_with fail
  refine bodyPost_ret (v := .agg #[.int .i64 a, .int .i64 b]) (by simp [results, Tryz.results31, go_sem]) rfl ⟨rfl, ?_⟩
  with_reducible repeat (first | exact Below.refl _ _ | refine vb_a ?_ _ | refine vb_s ?_ (Nat.le_refl _) _)

set_option maxRecDepth 100000 in
theorem only_any (a : Int) (w : World) : Calls Tryz.prog 30 #[.int .i64 a] w fun r w' => r = .returned (.agg #[.int .i64 a, .int .i64 a]) ∧ Below w.heap.size w w' := by
  have h := fun w => span_any a a w
  go_enter Tryz.func30, Tryz.ntmps30
  go_wp2_with fail
  refine (h _).mono ?_; rintro r w1 ⟨rfl, hb1⟩
  have k := Bk.bel (Bk.new _ _ _) hb1
  obtain ⟨c0, c1⟩ := k.c2
  obtain ⟨z0, z1⟩ := k.z2
  have hb2 := vb_t (vb_a (Below.refl _ _) _) hb1
  have HB := hid_intro hb2
  clear k h hb1 hb2
  go_wp2_with fail
  refine bodyPost_ret (v := .agg #[.int .i64 a, .int .i64 a]) (by simp [results, Tryz.results30, go_sem, c0, c1]) rfl ⟨rfl, ?_⟩
  exact vb_s (vb_s HB.out (Nat.le_refl _) _) (Nat.le_refl _) _

theorem I64_of {k : Int} (h : -9223372036854775808 ≤ k) (h2 : k ≤ 9223372036854775807) : I64 k := ⟨h, h2⟩

theorem digits_any (w : World) : Calls Tryz.prog 32 #[] w fun r w' => ∃ v, r = .returned v ∧ RI w' (· < w.heap.size) digits v ∧ Below w.heap.size w w' := by
  have h := fun w => span_any 48 57 w
  go_enter Tryz.func32, Tryz.ntmps32
  go_wp2_with fail
  refine (h _).mono ?_; rintro r w1 ⟨rfl, hb1⟩
  go_wp2_with fail
  go_ret
  refine ⟨_, rfl, ?_, vb_a hb1 _⟩
  exact (OwnR.lit w1 w.heap.size digits _ rfl hb1.size (by decide) (by intro r hr; unfold I64; simp [digits] at hr; subst hr; decide) _ rfl).ri _ (fun b hb => by omega)
end Go.Proofs.YtppilokmgdpnnaaGreatDoor

namespace Go.Proofs.YtppilokmgdpnnaaGreatDoor
open Go.RowKit

theorem w64 {x : Int} (h0 : -9223372036854775808 ≤ x) (h1 : x ≤ 9223372036854775807) : wrap64 x = x := by unfold wrap64; omega
end Go.Proofs.YtppilokmgdpnnaaGreatDoor
