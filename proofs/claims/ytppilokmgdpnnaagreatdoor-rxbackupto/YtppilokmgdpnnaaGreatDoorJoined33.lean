/-
  Rows of trees of the call's own; together; (*reader).counted. No condition.
-/
import Derived.Test.YtppilokmgdpnnaaGreatDoorJoined20
import Derived.Maps.AppendAt
namespace Go.Proofs.YtppilokmgdpnnaaGreatDoor
open Go.RowKit
attribute [local go_sem] setCell_drewN alloc_drewN

abbrev PX := RX × (Nat → Value)
def flat6 (ps : List PX) : List Value := ps.flatMap fun p => [p.2 0, p.2 1, p.2 2, p.2 3, p.2 4, p.2 5]
theorem flat6_len (ps : List PX) : (flat6 ps).length = ps.length * 6 := by
  induction ps with
  | nil => rfl
  | cons r l ih => simp only [flat6, List.flatMap_cons, List.length_append, List.length_cons, List.length_nil] at ih ⊢; omega
def px (ps : List PX) (i : Nat) : PX := ps.getD i (.mk 0 [] 0 0 false [], fun _ => .nilIface)
theorem px_mem {ps : List PX} {i : Nat} (h : i < ps.length) : px ps i ∈ ps := by
  unfold px; rw [List.getD_eq_getElem?_getD, List.getElem?_eq_getElem h]; exact List.getElem_mem h
theorem px_get {ps : List PX} {i : Nat} (h : i < ps.length) : px ps i = ps[i] := by
  unfold px; rw [List.getD_eq_getElem?_getD, List.getElem?_eq_getElem h]; rfl
theorem flat6_at (ps : List PX) (i j : Nat) (h : i < ps.length) (hj : j < 6) : (flat6 ps)[i * 6 + j]? = some ((px ps i).2 j) := by
  induction ps generalizing i with
  | nil => simp at h
  | cons r l ih =>
    cases i with
    | zero =>
      match j, hj with
      | 0, _ => rfl
      | 1, _ => rfl
      | 2, _ => rfl
      | 3, _ => rfl
      | 4, _ => rfl
      | 5, _ => rfl
    | succ i =>
      have := ih i (by simpa using h)
      have e : px (r :: l) (i + 1) = px l i := rfl
      rw [e, show (i + 1) * 6 + j = (i * 6 + j) + 6 by omega]
      exact this
/-- A row of trees of the call's own. -/
def OwnX (w : World) (B : Nat) (v : Value) (ps : List PX) : Prop := w.ownsRow B 26 6 v ps.length (flat6 ps) ∧ ∀ p ∈ ps, XI w (fun b => b < B ∨ v.ownBlock = some b) p.1 p.2
theorem OwnX.nil (w : World) (B : Nat) : OwnX w B (.slice none 0 0) [] := ⟨World.ownsRow_nil w B _ 6, fun r hr => by simp at hr⟩
theorem OwnX.lt {w : World} {B : Nat} {v : Value} {ps : List PX} (h : OwnX w B v ps) : ∀ k, v.ownBlock = some k → B ≤ k ∧ k < w.heap.size := h.1.lt
theorem OwnX.but {w w' : World} {B : Nat} {v : Value} {ps : List PX} {X : Nat → Prop} (h : OwnX w B v ps) (hb : But X w w') (hx : ∀ b, X b → b < B) : OwnX w' B v ps := by
  have hlt := h.lt
  obtain ⟨⟨h1, h2⟩, h3⟩ := h
  refine ⟨⟨h1, ?_⟩, fun p hp => (h3 p hp).but hb (fun b hb => Or.inl (hx b hb))⟩
  rcases h2 with h2 | ⟨g, cap, cur, rfl, hB, hg, rest⟩
  · exact Or.inl h2
  · exact Or.inr ⟨g, cap, cur, rfl, hB, by rw [hb.block g (hlt g rfl).2 (fun hx' => by have := hx g hx'; omega)]; exact hg, rest⟩
theorem OwnX.below {w w' : World} {B : Nat} {v : Value} {ps : List PX} (h : OwnX w B v ps) (hb : Below w.heap.size w w') : OwnX w' B v ps := h.but (X := fun _ => False) (But.ofBelow hb) (fun _ h => h.elim)
theorem OwnX.shape {w : World} {B : Nat} {v : Value} {ps : List PX} (h : OwnX w B v ps) : ∃ ao cap, v = .slice ao ps.length cap := by
  rcases h.1.2 with ⟨rfl, hn⟩ | ⟨g, cap, cur, rfl, _⟩
  · exact ⟨none, 0, by rw [hn]⟩
  · exact ⟨_, cap, rfl⟩
theorem infoRx : (Tryz.prog.info? 26).map (fun i => (i.zero, i.size, i.bytes)) = some (some (.agg #[.int .i64 0, .slice none 0 0, .int .i64 0, .int .i64 0, .bool false, .slice none 0 0]), 6, 80) := by kernel_rfl
theorem one6 {w : World} {X : Nat → Prop} {t : RX} {f : Nat → Value} (h : XI w X t f) : (f 0).oneCell' = true ∧ (f 1).oneCell' = true ∧ (f 2).oneCell' = true ∧ (f 3).oneCell' = true ∧ (f 4).oneCell' = true ∧ (f 5).oneCell' = true := by
  cases h with
  | mk ao cap G f0 f1 f2 f3 f4 f5 hc hw hl hr =>
    obtain ⟨a1, c1, e1, _⟩ := f1.shape
    rw [f0, e1, f2, f3, f4, f5]
    exact ⟨rfl, rfl, rfl, rfl, rfl, rfl⟩
/-- One tree more. -/
theorem wpList_append_tree {W : World} {ops : Array Oper} {rest : List Oper} {o : Oper} {a : Act} {Q : Exit → Act → World → Prop} (hgd : o.guard = none) (s x : Operand)
    (ho : o.op = .call { callee := .builtin .append, args := #[s, x], argTypes := #[24, 24] })
    (B : Nat) (v : Value) (ps : List PX) (t : RX) (f : Nat → Value) (hs : a.eval s = v) (hown : OwnX W B v ps) (hB : B ≤ W.heap.size) (hsz : ps.length + 1 ≤ 1073741824) (hx : XI W (fun b => b < B ∨ v.ownBlock = some b) t f)
    (tb : Nat) (hxv : a.eval x = .slice (some ⟨tb, 0, none⟩) 1 1) (hc : Bk W tb #[f 0, f 1, f 2, f 3, f 4, f 5])
    (h : ∀ v' w', OwnX w' B v' (ps ++ [(t, f)]) → W.grownBy w' v.ownBlock → wpList Tryz.prog ops Q rest (a.put o.dst v') w') :
    wpList Tryz.prog ops Q (o :: rest) a W := by
  obtain ⟨i0, hi, hz0, hz1, hz2⟩ := info_parts infoRx
  have hlt := hown.lt
  obtain ⟨o0, o1, o2, o3, o4, o5⟩ := one6 hx
  refine wpList_append_own_at _ hgd s x 24 ho B 26 i0 _ 6 80 Tryz.underlying24 hi hz0 hz1 hz2 rfl (by decide) v ps.length (flat6 ps) hs hown.1 ⟨tb, 0, none⟩ 1 1 [f 0, f 1, f 2, f 3, f 4, f 5] hxv rfl ?_ ?_ ?_ ?_ hB ?_
  · intro j u hj
    rw [add_at, Nat.zero_add, hc.cell j]
    match j, hj with
    | 0, hj => exact hj
    | 1, hj => exact hj
    | 2, hj => exact hj
    | 3, hj => exact hj
    | 4, hj => exact hj
    | 5, hj => exact hj
  · intro u hu
    simp only [List.mem_cons, List.not_mem_nil, or_false] at hu
    rcases hu with rfl | rfl | rfl | rfl | rfl | rfl <;> assumption
  · unfold maxLen; omega
  · omega
  · intro v' w' h1 h2 _ h4
    refine h v' w' ⟨?_, fun p hp => ?_⟩ h2
    · have : flat6 (ps ++ [(t, f)]) = flat6 ps ++ [f 0, f 1, f 2, f 3, f 4, f 5] := by simp [flat6]
      rw [this, List.length_append]
      exact h1
    · have key : ∀ b, ¬ (b < B ∨ v.ownBlock = some b) → b < W.heap.size → w'.heap[b]? = W.heap[b]? ∧ ¬ (b < B ∨ v'.ownBlock = some b) := fun b hb hl => by
        refine ⟨h2.block b hl (fun e => hb (Or.inr e.symm)), ?_⟩
        rintro (hb2 | hb2)
        · exact hb (Or.inl hb2)
        · rcases h4 with h4 | h4
          · exact hb (Or.inr (h4 ▸ hb2))
          · rw [h4] at hb2; simp at hb2; omega
      rcases List.mem_append.1 hp with hp | hp
      · exact (hown.2 p hp).carry key
      · obtain rfl : p = (t, f) := by simpa using hp
        exact hx.carry key
/-- A row of one. -/
theorem OwnX.lit {w : World} {B : Nat} {t : RX} {f : Nat → Value} {tb : Nat} (hc : w.heap[tb]? = some (.cells #[f 0, f 1, f 2, f 3, f 4, f 5] 26 (0, 0))) (hB : B ≤ tb) (hx : XI w (fun b => b < B ∨ tb = b) t f) : OwnX w B (.slice (some ⟨tb, 0, none⟩) 1 1) [(t, f)] := by
  refine ⟨⟨rfl, Or.inr ⟨tb, 1, _, rfl, hB, hc, Nat.le_refl _, by unfold maxLen; omega, rfl, rfl⟩⟩, fun p hp => ?_⟩
  obtain rfl : p = (t, f) := by simpa using hp
  exact hx.weak (fun b hb => by
    rcases hb with hb | hb
    · exact Or.inl hb
    · right; simpa [Value.ownBlock] using hb)

theorem xi_leaf (w : World) (X : Nat → Prop) (k : Int) (hk : I64 k) : XI w X (leaf k) (fun i => [Value.int .i64 k, .slice none 0 0, .int .i64 0, .int .i64 0, .bool false, .slice none 0 0].getD i .nilIface) :=
  XI.mk none 0 (fun _ _ => .nilIface) rfl (RI.nil _ _) rfl rfl rfl rfl ⟨Nat.le_refl _, by unfold maxLen; omega⟩ ⟨hk, I64_of (by omega) (by omega), I64_of (by omega) (by omega)⟩ (Or.inl rfl) (fun i hi => by simp at hi)
set_option maxRecDepth 100000 in
set_option maxHeartbeats 1600000 in
theorem together_any (k : Int) (hk : I64 k) (v : Value) (ps : List PX) (w : World) (B : Nat) (hown : OwnX w B v ps) (hl : ps.length ≤ 1073741824) :
    Calls Tryz.prog 42 #[.int .i64 k, v] w fun r w' => ∃ f, r = .returned (xa f) ∧ XI w' (· < B) (together k (ps.map (·.1))) f ∧ Below w.heap.size w w' := by
  have hxs := hown.2
  have hlt := hown.lt
  obtain ⟨ao, cap, hsh⟩ := hown.shape
  rcases ps with _ | ⟨p, _ | ⟨q, ps⟩⟩
  · subst hsh
    go_enter Tryz.func42, Tryz.ntmps42
    go_wp2_with fail
    refine bodyPost_ret (v := .agg #[.int .i64 1, .slice none 0 0, .int .i64 0, .int .i64 0, .bool false, .slice none 0 0]) (by simp [results, Tryz.results42, go_sem]) rfl ?_
    refine ⟨_, rfl, xi_leaf _ _ 1 (I64_of (by omega) (by omega)), ?_⟩
    with_reducible repeat (first | exact Below.refl _ _ | refine vb_a ?_ _ | refine vb_s ?_ (Nat.le_refl _) _)
  · obtain ⟨t, f⟩ := p
    have hx := (hxs (t, f) (by simp)).weak (Y := (· < B)) (fun b hb => Or.inl hb)
    have ho := hown.1
    rcases ho.2 with ⟨_, hn⟩ | ⟨g, cap', cur, hv, hB, hg, hc, hm, hs, ht⟩
    · simp at hn
    rw [hv] at hsh ho
    injection hsh with e1 _ e2
    subst e1 e2
    subst hv
    have cel : ∀ j, j < 6 → w.cell? ⟨g, j, none⟩ = some (f j) := fun j hj => by
      have := (ho.cellAt j (by simp; omega)).trans (flat6_at [(t, f)] 0 j (by simp) hj |> fun h => by simpa using h)
      exact this
    obtain ⟨k_, a1, n1, q1, lo, hi, z, a2, n2, q2, ef⟩ := hx.lit
    unfold xa at ef
    injection ef with ef
    simp only [Array.mk.injEq, List.cons.injEq, and_true] at ef
    obtain ⟨g0, g1, g2, g3, g4, g5⟩ := ef
    have d0 := (cel 0 (by omega)).trans (congrArg some g0)
    have d1 := (cel 1 (by omega)).trans (congrArg some g1)
    have d2 := (cel 2 (by omega)).trans (congrArg some g2)
    have d3 := (cel 3 (by omega)).trans (congrArg some g3)
    have d4 := (cel 4 (by omega)).trans (congrArg some g4)
    have d5 := (cel 5 (by omega)).trans (congrArg some g5)
    have hgl := (hlt g rfl).2
    have HX := hid_intro hx
    have HEF : Hid (xa f = .agg #[.int .i64 k_, .slice a1 n1 q1, .int .i64 lo, .int .i64 hi, .bool z, .slice a2 n2 q2]) := hid_intro (by unfold xa; rw [g0, g1, g2, g3, g4, g5])
    clear cel g0 g1 g2 g3 g4 g5 hx hxs hown ho hlt hg ht hs hc hm hl
    go_enter Tryz.func42, Tryz.ntmps42
    go_wp2_with fail
    refine bodyPost_ret (v := .agg #[.int .i64 k_, .slice a1 n1 q1, .int .i64 lo, .int .i64 hi, .bool z, .slice a2 n2 q2]) (by simp [results, Tryz.results42, go_sem]) rfl ?_
    refine ⟨f, by rw [HEF.out], HX.out.kept ?_, ?_⟩ <;> with_reducible repeat (first | exact Below.refl _ _ | refine vb_a ?_ _ | refine vb_s ?_ (Nat.le_refl _) _)
  · have ho := hown.1
    have hnz : ((((p :: q :: ps).length : Nat) : Int) == 0) = false := by rw [beq_eq_false_iff_ne]; simp only [List.length_cons]; omega
    have hno : ((((p :: q :: ps).length : Nat) : Int) == 1) = false := by rw [beq_eq_false_iff_ne]; simp only [List.length_cons]; omega
    have htg : together k ((p :: q :: ps).map (·.1)) = .mk k [] 0 0 false ((p :: q :: ps).map (·.1)) := rfl
    rw [htg]
    generalize hps : p :: q :: ps = ps' at *
    rcases ho.2 with ⟨_, hn⟩ | ⟨g, cap', cur, hv, hB, hg, hc, hm, hs, ht⟩
    · rw [← hps] at hn; simp at hn
    rw [hv] at hsh ho
    injection hsh with e1 _ e2
    subst e1 e2
    subst hv
    have cel : ∀ i, i < ps'.length → ∀ j, j < 6 → w.cell? ⟨g, i * 6 + j, none⟩ = some ((px ps' i).2 j) := fun i hi j hj => (ho.cellAt (i * 6 + j) (by omega)).trans (flat6_at ps' i j hi hj)
    have HX : ∀ w', Below w.heap.size w w' → XI w' (· < B) (.mk k [] 0 0 false (ps'.map (·.1))) (fun i => [Value.int .i64 k, .slice none 0 0, .int .i64 0, .int .i64 0, .bool false, .slice (some ⟨g, 0, none⟩) ps'.length cap'].getD i .nilIface) := fun w' hb => by
      refine XI.mk (some ⟨g, 0, none⟩) cap' (fun i => (px ps' i).2) rfl (RI.nil _ _) rfl rfl rfl (by simp) ⟨by simpa using hc, hm⟩ ⟨hk, I64_of (by omega) (by omega), I64_of (by omega) (by omega)⟩ (Or.inr ⟨g, 0, rfl, by omega, fun i hi j hj => ?_⟩) (fun i hi => ?_)
      · have hi' : i < ps'.length := by simpa using hi
        rw [Nat.zero_add]
        exact (hb.cell (p := ⟨g, i * 6 + j, none⟩) (World.block_lt_of_cell? w _ (cel i hi' j hj))).trans (cel i hi' j hj)
      · have hi' : i < ps'.length := by simpa using hi
        have := (hxs _ (px_mem hi')).weak (Y := (· < B)) (fun b hb => Or.inl hb)
        have e : (ps'.map (·.1))[i] = (px ps' i).1 := by rw [px_get hi']; simp
        rw [e]
        exact this.kept hb
    have HXH := hid_intro HX
    clear HX cel hxs hown ho hlt hg ht hs hc hm hl htg hps
    go_enter Tryz.func42, Tryz.ntmps42
    go_wp2_with fail
    refine bodyPost_ret (v := .agg #[.int .i64 k, .slice none 0 0, .int .i64 0, .int .i64 0, .bool false, .slice (some ⟨g, 0, none⟩) ps'.length cap']) (by simp [results, Tryz.results42, go_sem]) rfl ?_
    refine ⟨_, rfl, HXH.out _ ?_, ?_⟩ <;> with_reducible repeat (first | exact Below.refl _ _ | refine vb_a ?_ _ | refine vb_s ?_ (Nat.le_refl _) _)
end Go.Proofs.YtppilokmgdpnnaaGreatDoor
