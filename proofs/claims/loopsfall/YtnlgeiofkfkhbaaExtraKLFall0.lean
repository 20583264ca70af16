/-
  LoopsFall's two loops, as they say it. No condition.
  A row of edges of the call's own. Condition: at most 2^20 edges.
  LoopsTurns, walked. No condition.
  LoopsFall, walked. No condition.
-/
import Derived.Test.YtnlgeiofkfkhbaaJoined50
import Derived.Deep.RegionLaw
import Derived.BigRegion
import Derived.Deep.QuietTactic
import Derived.BigQuiet
namespace Go.Proofs.Ytnlgeiofkfkhbaa
open Go.RowKit Go.Maps Lg

/-- Some edge from k falls by one. -/
def nxB (M : Nat → Nat) (es : List (Nat × Nat)) (k : Nat) : Bool := es.any fun e => decide (e.1 = k) && decide (M k = M e.2 + 1)
theorem nxB_snoc (M : Nat → Nat) (es : List (Nat × Nat)) (f t : Nat) : nxB M (es ++ [(f, t)]) = fun k => if k = f then (nxB M es f || decide (M f = M t + 1)) else nxB M es k := by
 funext k
 unfold nxB
 rw [List.any_append]
 by_cases h : k = f
 ·subst h; simp
 ·have h2 : ¬ f = k := fun e => h e.symm
  simp [h, h2]
theorem nxB_iff {M : Nat → Nat} {es : List (Nat × Nat)} {k : Nat} : nxB M es k = true ↔ ∃ y ∈ rowOf es k, M k = M y + 1 := by
 unfold nxB
 rw [List.any_eq_true]
 constructor
 ·rintro ⟨⟨f, t⟩, he, h⟩
  simp only [Bool.and_eq_true, decide_eq_true_eq] at h
  obtain ⟨rfl, h2⟩ := h
  exact ⟨t, mem_rowOf.2 he, h2⟩
 ·rintro ⟨y, hy, h⟩
  exact ⟨(k, y), mem_rowOf.1 hy, by simp [h]⟩
/-- It says who has a rank above none. -/
theorem nxB_rank {M : Nat → Nat} {es : List (Nat × Nat)} (h : Rank (rowOf es) M) (k : Nat) : nxB M es k = decide (0 < M k) := by
 refine Bool.eq_iff_iff.2 (nxB_iff.trans ?_)
 rw [decide_eq_true_eq]
 constructor
 ·rintro ⟨y, _, e⟩
  omega
 ·intro hp
  rcases h.some k with e | e
  ·omega
  ·exact e
/-- Bools in a row. -/
def bls (N : Nat) (f : Nat → Bool) : Array Value := ((List.range N).map fun (k : Nat) => Value.bool (f k)).toArray
theorem bls_0 (N : Nat) : lfs N [] = bls N (fun _ => false) := by unfold lfs bls; simp
theorem bls_at {N k : Nat} (f : Nat → Bool) (h : k < N) : (bls N f)[k]? = some (.bool (f k)) := by
 unfold bls
 rw [List.getElem?_toArray, List.getElem?_map, List.getElem?_range h]; rfl
theorem bls_set (N k : Nat) (f : Nat → Bool) (b : Bool) : (bls N f).setIfInBounds k (.bool b) = bls N (fun x => if x = k then b else f x) := by
 unfold bls
 rw [List.setIfInBounds_toArray]
 congr 1
 apply List.ext_getElem (by simp)
 intro i h1 h2
 rw [List.getElem_set]
 simp only [List.getElem_map, List.getElem_range]
 by_cases e : k = i
 ·subst e; simp
 ·have e2 : ¬ i = k := fun h => e h.symm
  simp [e, e2]
end Go.Proofs.Ytnlgeiofkfkhbaa

namespace Go.Proofs.Ytnlgeiofkfkhbaa
open Go.RowKit Go.Maps Lg
attribute [local go_sem] setCell_drewN alloc_drewN

def ev (e : Ed) : List Value := [.int .i64 e.f, .int .i64 e.t, .string e.wd, .bool e.s, .string e.dy]
def evs (E : List Ed) : List Value := E.flatMap ev
theorem evs_len (E : List Ed) : (evs E).length = E.length * 5 := by
 induction E with
 | nil => rfl
 | cons e E ih =>
  show (ev e ++ evs E).length = _
  rw [List.length_append, ih, List.length_cons]
  show 5 + E.length * 5 = _
  omega
theorem evs_at : ∀ {E : List Ed} {i : Nat} (h : i < E.length) (j : Nat), j < 5 → (evs E)[i * 5 + j]? = (ev E[i])[j]?
 | e :: E, 0, _, j, hj => by
  show (ev e ++ evs E)[0 * 5 + j]? = _
  rw [List.getElem?_append_left (by show 0 * 5 + j < 5; omega), Nat.zero_mul, Nat.zero_add]
  rfl
 | e :: E, i + 1, h, j, hj => by
  show (ev e ++ evs E)[(i + 1) * 5 + j]? = _
  rw [List.getElem?_append_right (by show 5 ≤ (i + 1) * 5 + j; omega)]
  have e1 : (i + 1) * 5 + j - (ev e).length = i * 5 + j := by show (i + 1) * 5 + j - 5 = _; omega
  rw [e1, evs_at (E := E) (i := i) (by simpa using h) j hj]
  rfl
/-- A row of edges of the call's own. -/
def OwnE (w : World) (B : Nat) (v : Value) (E : List Ed) : Prop := w.ownsRow B 32 5 v E.length (evs E)
theorem OwnE.nil (w : World) (B : Nat) : OwnE w B (.slice none 0 0) [] := World.ownsRow_nil w B _ 5
theorem OwnE.lt {w : World} {B : Nat} {v : Value} {E : List Ed} (h : OwnE w B v E) {g : Nat} (hg : v.ownBlock = some g) : B ≤ g ∧ g < w.heap.size := World.ownsRow.lt h g hg
theorem OwnE.blk {w w' : World} {B : Nat} {v : Value} {E : List Ed} (h : OwnE w B v E) (hb : ∀ g, v.ownBlock = some g → w'.heap[g]? = w.heap[g]?) : OwnE w' B v E := by
 obtain ⟨h1, h2⟩ := h
 refine ⟨h1, ?_⟩
 rcases h2 with h2 | ⟨g, cap, cur, rfl, k1, k2, k3⟩
 ·exact .inl h2
 ·exact .inr ⟨g, cap, cur, rfl, k1, (hb g rfl).trans k2, k3⟩
theorem OwnE.bel {w w' : World} {B : Nat} {v : Value} {E : List Ed} (h : OwnE w B v E) (hb : Below w.heap.size w w') : OwnE w' B v E := h.blk fun g hg => hb.block g (h.lt hg).2
theorem OwnE.form {w : World} {B : Nat} {v : Value} {E : List Ed} (h : OwnE w B v E) : ∃ ao cap, v = .slice ao E.length cap := by
 rcases h.2 with ⟨rfl, h0⟩ | ⟨g, cap, cur, rfl, _⟩
 ·exact ⟨none, 0, by rw [h0]⟩
 ·exact ⟨_, cap, rfl⟩
theorem OwnE.edi {w : World} {B : Nat} {v : Value} {E : List Ed} (h : OwnE w B v E) : EdI w v E := by
 have h0 := h
 rcases h.2 with ⟨rfl, hz⟩ | ⟨g, cap, cur, rfl, k1, k2, k3, k4, k5, k6⟩
 ·have : E = [] := List.eq_nil_of_length_eq_zero hz
  subst this
  exact ⟨none, 0, rfl, Nat.le_refl _, by unfold maxLen; omega, .inl rfl⟩
 ·refine ⟨_, cap, rfl, k3, k4, .inr ⟨g, 0, rfl, (Array.getElem?_eq_some_iff.1 k2).1, fun i hi => ?_⟩⟩
  have hc : ∀ j, j < 5 → w.cell? ⟨g, 0 + i * 5 + j, none⟩ = (ev E[i])[j]? := fun j hj => by
   rw [Nat.zero_add, ← evs_at hi j hj]
   exact World.ownsRow.cellAt h0 _ (by omega)
  exact ⟨(hc 0 (by omega)).trans rfl, (hc 1 (by omega)).trans rfl, (hc 2 (by omega)).trans rfl, (hc 3 (by omega)).trans rfl, (hc 4 (by omega)).trans rfl⟩
theorem infoEdge : (Try.prog.info? 32).map (fun i => (i.zero, i.size, i.bytes)) = some (some (.agg #[.int .i64 0, .int .i64 0, .string ⟨#[]⟩, .bool false, .string ⟨#[]⟩]), 5, 56) := by kernel_rfl
theorem ev_oneCell (e : Ed) : ∀ u ∈ ev e, u.oneCell' = true := fun u hu => by
 simp [ev] at hu
 rcases hu with rfl | rfl | rfl | rfl | rfl <;> rfl
/-- An edge more, as a step of a region that draws. -/
theorem step_app_e {w : World} {ops : Array Oper} {o : Oper} {a : Act} {K : Act → World → Prop} {Q : Exit → Act → World → Prop} {F : Prop} (hgd : o.guard = none) (s x : Operand)
  (ho : o.op = .call { callee := .builtin .append, args := #[s, x], argTypes := #[22, 22] }) (B : Nat) (v : Value) (l : List Ed) (hs : a.eval s = v) (y : Ed) (t : Nat) (hx : a.eval x = .slice (some ⟨t, 0, none⟩) 1 1)
  (hn : l.length ≤ 1048576) (hB : B ≤ w.heap.size) (hown : OwnE w B v l) (hc : Bk w t (ev y).toArray)
  (h : ∀ g cap w', OwnE w' B (.slice (some ⟨g, 0, none⟩) (l.length + 1) cap) (l ++ [y]) → w.grownBy w' v.ownBlock → K (a.put o.dst (.slice (some ⟨g, 0, none⟩) (l.length + 1) cap)) w') :
  if Region.wanted o (yielded ops a.tmps) = true then Oper.wp Try.prog o a w K Q else F := by
 obtain ⟨i0, hi, hz0, hz1, hz2⟩ := info_parts infoEdge
 refine step_append_lies (P := Try.prog) w hgd s x 22 ho B 32 i0 _ 5 56 Try.underlying22 hi hz0 hz1 hz2 rfl (by decide) v l.length (evs l) hs hown ⟨t, 0, none⟩ 1 1 (ev y) hx rfl (fun j u hu => ?_) (ev_oneCell y) (by decide) (by unfold maxLen; omega) (by omega) hB w.heap.size rfl ?_
 ·rw [add_at, Nat.zero_add, hc.cell j]
  simpa using hu
 ·intro g cap w' h1 h2 h3 h4
  refine h g cap w' ?_ h2
  have e : evs (l ++ [y]) = evs l ++ ev y := by simp [evs]
  unfold OwnE
  rw [e, List.length_append]
  exact h1
end Go.Proofs.Ytnlgeiofkfkhbaa

namespace Go.Proofs.Ytnlgeiofkfkhbaa
open Go.RowKit Go.Maps Lg
attribute [local go_sem] setCell_drewN alloc_drewN

/-- An edge turned round. -/
def tn (e : Ed) : Ed := ⟨e.t, e.f, ⟨#[]⟩, e.s, ⟨#[]⟩⟩
/-- The edges from place k on, turned round, the last one first. -/
def tns (E : List Ed) (k : Nat) : List Ed := ((E.drop k).map tn).reverse
theorem tns_end (E : List Ed) : tns E E.length = [] := by simp [tns]
theorem tns_len (E : List Ed) (k : Nat) : (tns E k).length = E.length - k := by simp [tns]
theorem tns_step (E : List Ed) {k : Nat} (h : k < E.length) : tns E (k + 1) ++ [tn E[k]] = tns E k := by
 unfold tns
 rw [List.drop_eq_getElem_cons h, List.map_cons, List.reverse_cons]
theorem cnt_tn (n : Int) (e : Ed) : cnt n (tn e) = cnt n e := by
 unfold cnt tn
 dsimp only
 cases e.s <;> cases decide (0 ≤ e.f) <;> cases decide (e.f < n) <;> cases decide (0 ≤ e.t) <;> cases decide (e.t < n) <;> rfl
theorem mem_prs {n : Int} {E : List Ed} {a b : Nat} : (a, b) ∈ prs n E ↔ ∃ e ∈ E, cnt n e = true ∧ e.f.toNat = a ∧ e.t.toNat = b := by
 unfold prs
 simp only [List.mem_map, List.mem_filter, Prod.mk.injEq]
 constructor
 ·rintro ⟨e, ⟨h1, h2⟩, h3, h4⟩
  exact ⟨e, h1, h2, h3, h4⟩
 ·rintro ⟨e, h1, h2, h3, h4⟩
  exact ⟨e, ⟨h1, h2⟩, h3, h4⟩
theorem prs_tn {n : Int} {E : List Ed} (a b : Nat) : (a, b) ∈ prs n (tns E 0) ↔ (b, a) ∈ prs n E := by
 rw [mem_prs, mem_prs]
 unfold tns
 simp only [List.drop_zero, List.mem_reverse, List.mem_map]
 constructor
 ·rintro ⟨_, ⟨e, h1, rfl⟩, h2, h3, h4⟩
  exact ⟨e, h1, by rw [← cnt_tn]; exact h2, h4, h3⟩
 ·rintro ⟨e, h1, h2, h3, h4⟩
  exact ⟨_, ⟨e, h1, rfl⟩, by rw [cnt_tn]; exact h2, h4, h3⟩

set_option maxRecDepth 100000 in
set_option maxHeartbeats 3200000 in
theorem loopsTurns_walk (n : Int) (hn2 : I64 n) (E : List Ed) (v : Value) (w : World) (hE : EdI w v E) : Calls Try.prog 8 #[.int .i64 n, v] w fun r w' => r = .returned (.bool true) ∧ Below w.heap.size w w' := by
 obtain ⟨Q0, hQ0⟩ : ∃ P' : Ending → World → Prop, P' = fun r w' => r = .returned (.bool true) ∧ Below w.heap.size w w' := ⟨_, rfl⟩
 rw [← hQ0]
 have HQ := hid_intro hQ0
 have HE := hid_intro hE
 have HN2 := hid_intro hn2
 obtain ⟨eo, ec, rfl, hel, hec, hrow⟩ := hE
 have HROW := hid_intro hrow
 have hEI : (E.length : Int) ≤ 9223372036854775807 := by unfold maxLen at hec; omega
 clear hQ0 hn2 hel hec hrow
 go_enter Try.func8, Try.ntmps8
 by_cases hn : (200 : Int) < n
 ·go_wp2_with fail
  refine (heads_any w).mono ?_
  rintro r w1 ⟨rfl, hb1⟩
  have HB1 := hid_intro hb1
  clear hb1
  go_wp2_with fail
  rw [HQ.out]
  exact ⟨rfl, HB1.out⟩
 ·by_cases hl : (300 : Int) < (E.length : Int)
  ·go_wp2_with fail
   refine (heads_any w).mono ?_
   rintro r w1 ⟨rfl, hb1⟩
   have HB1 := hid_intro hb1
   clear hb1
   go_wp2_with fail
   rw [HQ.out]
   exact ⟨rfl, HB1.out⟩
  ·have hlN : (E.length : Int) ≤ 300 := by omega
   go_wp2_with fail
   go_loopg [5, 6] (E.length) (fun g s5 s6 wr => ∃ (k : Nat) (bo : Option Addr) (bc : Nat), k = g ∧ s5 = .slice bo (tns E k).length bc ∧ s6 = .int .i64 ((k : Int) - 1) ∧ Hid (k ≤ E.length ∧ Below w.heap.size w wr ∧ OwnE wr w.heap.size (.slice bo (tns E k).length bc) (tns E k)))
   case atStart => exact ⟨E.length, none, 0, rfl, by rw [tns_end]; rfl, rfl, hid_intro ⟨Nat.le_refl _, Below.refl _ _, by rw [tns_end]; exact OwnE.nil _ _⟩⟩
   case round =>
    obtain ⟨k, bo, bc, rfl, rfl, rfl, HI⟩ := hrel
    cases k with
    | zero =>
     have HO := hid_intro HI.out.2.2
     have HBW := hid_intro HI.out.2.1
     have hz : ((0 : Nat) : Int) - 1 = -1 := rfl
     rw [hz]
     have HC1 := hid_intro (cycle_any n (by omega) HN2.out E (by omega) _ wr (HE.out.below HBW.out))
     have hlt : (tns E 0).length ≤ 300 := by rw [tns_len]; omega
     have HT := hid_intro hlt
     clear HI hlt
     go_wp2_with fail
     refine HC1.out.mono ?_
     rintro r w1 ⟨hb1, v1, c1, rfl, -, hc1, -⟩
     have HB1 := hid_intro (vb_t HBW.out hb1)
     have HCY1 := hid_intro hc1
     have HO1 := hid_intro (HO.out.bel hb1)
     have HC2 := hid_intro (cycle_any n (by omega) HN2.out (tns E 0) (by have := HT.out; omega) _ w1 HO1.out.edi)
     clear hb1 hc1
     go_wp2_with fail
     refine HC2.out.mono ?_
     rintro r w2 ⟨hb2, v2, c2, rfl, -, hc2, -⟩
     have heq : (!c1.isEmpty) = (!c2.isEmpty) := by
      have e1 : (!c1.isEmpty) = true ↔ c1 ≠ [] := by cases c1 <;> simp
      have e2 : (!c2.isEmpty) = true ↔ c2 ≠ [] := by cases c2 <;> simp
      exact Bool.eq_iff_iff.2 (e1.trans (HCY1.out.trans ((turn_cy (fun a b => prs_tn a b)).symm.trans (hc2.symm.trans e2.symm))))
     rw [heq]
     have HB2 := hid_intro (vb_t HB1.out hb2)
     have HO2 := hid_intro (HO1.out.bel hb2)
     have HP1 := hid_intro (parts_any n (by omega) HN2.out E (by omega) _ w2 (HE.out.below HB2.out))
     generalize (!c2.isEmpty) = ok at *
     clear hb2 hc2 heq
     go_wp2_with fail
     refine HP1.out.mono ?_
     rintro r w3 ⟨hb3, P, pv, hP, rfl, ho3⟩
     have HB3 := hid_intro (vb_t HB2.out hb3)
     have HO3 := hid_intro (HO2.out.bel hb3)
     have HPP := hid_intro hP
     have HI3 := hid_intro (ho3.ii (fun _ => False) (fun _ _ h => h))
     have HP2 := hid_intro (parts_any n (by omega) HN2.out (tns E 0) (by have := HT.out; omega) _ w3 HO3.out.edi)
     clear hb3 hP ho3
     go_wp2_with fail
     refine HP2.out.mono ?_
     rintro r w4 ⟨hb4, P2, pv2, hP2, rfl, ho4⟩
     have hpe : P2 = P := hP2.eq (turn_part (fun a b => prs_tn a b) HPP.out)
     subst hpe
     have HB4 := hid_intro (vb_t HB3.out hb4)
     have HI4 := hid_intro (ho4.ii (fun _ => False) (fun _ _ h => h))
     have HI34 := hid_intro (HI3.out.kept hb4)
     clear hb4 hP2 ho4
     go_wp2_with fail
     refine (ints_any _ _ _ _ w4 HI34.out HI4.out).mono ?_
     rintro r w5 ⟨rfl, hb5⟩
     have HB5 := hid_intro (vb_t HB4.out hb5)
     clear hb5
     rw [show decide (outL P2 n.toNat = outL P2 n.toNat) = true from decide_eq_true rfl]
     go_wp2_with fail
     refine (heads_any w5).mono ?_
     rintro r w6 ⟨rfl, hb6⟩
     have HB6 := hid_intro (vb_t HB5.out hb6)
     clear hb6
     go_wp2_with fail
     rw [HQ.out]
     exact ⟨rfl, HB6.out⟩
    | succ k =>
     have hk1 : k < E.length := HI.out.1
     obtain ⟨bb, off, rfl, hbl, hcell⟩ := HROW.out.resolve_left (fun e => by rw [e] at hk1; exact absurd hk1 (by simp))
     obtain ⟨k0, k1, -, k3, -⟩ := hcell k hk1
     replace k0 := (HI.out.2.1.cell (p := ⟨bb, off + k * 5, none⟩) hbl).trans k0
     replace k1 := (HI.out.2.1.cell (p := ⟨bb, off + k * 5 + 1, none⟩) hbl).trans k1
     replace k3 := (HI.out.2.1.cell (p := ⟨bb, off + k * 5 + 3, none⟩) hbl).trans k3
     have hkz : ((k + 1 : Nat) : Int) - 1 = (k : Int) := by omega
     rw [hkz]
     have hk0 : (0 : Int) ≤ (k : Int) := by omega
     have hkE : (k : Int) < (E.length : Int) := by omega
     have HST := hid_intro (tns_step E hk1)
     have HTL := hid_intro (show (tns E (k + 1)).length ≤ 1048576 by rw [tns_len]; omega)
     have HOW := hid_intro HI.out.2.2
     have HBW := hid_intro HI.out.2.1
     have HLK := hid_intro hk1
     have HLE : Hid ((tns E k).length = (tns E (k + 1)).length + 1) := hid_intro (by rw [tns_len, tns_len]; omega)
     unfold tn at HST
     generalize E[k] = ed at *
     obtain ⟨ef, et, wd, sv, dy⟩ := ed
     dsimp only at k0 k1 k3 HST
     clear hcell hbl hk1 hkz
     go_wp2_with fail
     go_region_law (first | (refine step_app_e (by rfl) _ _ (by rfl) w.heap.size (.slice bo (tns E (k + 1)).length bc) (tns E (k + 1)) (by rfl) ⟨et, ef, ⟨#[]⟩, sv, ⟨#[]⟩⟩ _ (by rfl) HTL.out ?_ ?_ ?_ ?_; (focus (refine Nat.le_trans HBW.out.size (Below.size (B := wr.heap.size) ?_); with_reducible repeat (first | exact Below.refl _ _ | refine vb_d ?_ | refine vb_a ?_ _))); (focus (refine OwnE.bel HOW.out ?_; with_reducible repeat (first | exact Below.refl _ _ | refine vb_d ?_ | refine vb_a ?_ _))); (focus (show Bk _ _ #[.int .i64 et, .int .i64 ef, .string ⟨#[]⟩, .bool sv, .string ⟨#[]⟩]; with_reducible repeat (first | exact Bk.new _ _ _ | refine Bk.dw ?_ | refine Bk.al ?_ _))); intro gp cp wp hop hgp; have HOP := hid_intro hop; have HGP : Hid (Below w.heap.size w wp) := hid_intro ((vb_t HBW.out (by with_reducible repeat (first | exact Below.refl _ _ | refine vb_d ?_ | refine vb_a ?_ _))).grown hgp (Nat.le_trans HBW.out.size (Below.size (B := wr.heap.size) (by with_reducible repeat (first | exact Below.refl _ _ | refine vb_d ?_ | refine vb_a ?_ _)))) (fun b h => (HOW.out.lt h).1)); clear hop hgp) | fail)
     all_goals
      go_wp2_with fail
      go_roundg k
      case measure => omega
      case rel => exact ⟨k, some ⟨gp, 0, none⟩, cp, rfl, by rw [HLE.out], by go_num, hid_intro ⟨Nat.le_of_lt HLK.out, by with_reducible repeat (first | exact HGP.out | refine vb_d ?_), by rw [HLE.out, ← HST.out]; exact HOP.out⟩⟩
end Go.Proofs.Ytnlgeiofkfkhbaa

namespace Go.Proofs.Ytnlgeiofkfkhbaa
open Go.RowKit Go.Maps Lg
attribute [local go_sem] setCell_drewN alloc_drewN

/-- Where the first loop stands. -/
structure FaI (n : Int) (E : List Ed) (M : Nat → Nat) (N nb j : Nat) (w wr : World) : Prop where
 le : j ≤ E.length
 bel : Below w.heap.size w wr
 nx : Bk wr nb (bls N (nxB M (prs n (E.take j))))
theorem FaI.dw {n : Int} {E : List Ed} {M : Nat → Nat} {N nb j : Nat} {w wr : World} (h : FaI n E M N nb j w wr) : FaI n E M N nb j w wr.drew := ⟨h.le, vb_d h.bel, h.nx⟩
theorem FaI.no {n : Int} {E : List Ed} {M : Nat → Nat} {N nb j : Nat} {w wr w' : World} (h : FaI n E M N nb j w wr) (hj : j < E.length) (hc : cnt n E[j] = false) (hb : Below wr.heap.size wr w') : FaI n E M N nb (j + 1) w w' :=
 ⟨hj, vb_t h.bel hb, by rw [prs_snoc hj, if_neg (by rw [hc]; simp), List.append_nil]; exact h.nx.bel hb⟩
theorem FaI.yes {n : Int} {E : List Ed} {M : Nat → Nat} {N nb j f t : Nat} {w wr w' : World} {b : Bool} (h : FaI n E M N nb j w wr) (hj : j < E.length) (hc : cnt n E[j] = true) (hf : E[j].f.toNat = f) (ht : E[j].t.toNat = t) (hb : Below wr.heap.size wr w') (hnb : w.heap.size ≤ nb)
  (he : b = (nxB M (prs n (E.take j)) f || decide (M f = M t + 1))) : FaI n E M N nb (j + 1) w (w'.setCell ⟨nb, f, none⟩ (.bool b)) :=
 ⟨hj, (vb_t h.bel hb).setCell hnb _, by
  rw [prs_snoc hj, if_pos hc, hf, ht, nxB_snoc, ← he, ← bls_set]
  exact Bk.set (h.nx.bel hb) f _ rfl⟩

set_option maxRecDepth 100000 in
set_option maxHeartbeats 3200000 in
theorem loopsFall_walk (n : Int) (hn2 : I64 n) (E : List Ed) (v : Value) (w : World) (hE : EdI w v E) : Calls Try.prog 7 #[.int .i64 n, v] w fun r w' => r = .returned (.bool true) ∧ Below w.heap.size w w' := by
 obtain ⟨Q0, hQ0⟩ : ∃ P' : Ending → World → Prop, P' = fun r w' => r = .returned (.bool true) ∧ Below w.heap.size w w' := ⟨_, rfl⟩
 rw [← hQ0]
 have HQ := hid_intro hQ0
 have HE := hid_intro hE
 have HN2 := hid_intro hn2
 obtain ⟨eo, ec, rfl, hel, hec, hrow⟩ := hE
 have HROW := hid_intro hrow
 have hEI : (E.length : Int) ≤ 9223372036854775807 := by unfold maxLen at hec; omega
 clear hQ0 hn2 hel hec hrow
 go_enter Try.func7, Try.ntmps7
 by_cases hn : (200 : Int) < n
 ·go_wp2_with fail
  refine (heads_any w).mono ?_
  rintro r w1 ⟨rfl, hb1⟩
  have HB1 := hid_intro hb1
  clear hb1
  go_wp2_with fail
  rw [HQ.out]
  exact ⟨rfl, HB1.out⟩
 ·by_cases hl : (300 : Int) < (E.length : Int)
  ·go_wp2_with fail
   refine (heads_any w).mono ?_
   rintro r w1 ⟨rfl, hb1⟩
   have HB1 := hid_intro hb1
   clear hb1
   go_wp2_with fail
   rw [HQ.out]
   exact ⟨rfl, HB1.out⟩
  ·have HRK := hid_intro (ranks_any n (by omega) HN2.out E (by omega) _ w HE.out)
   have HCY := hid_intro (fun w1 hb => cycle_any n (by omega) HN2.out E (by omega) _ w1 (HE.out.below (w' := w1) hb))
   obtain ⟨N, hN⟩ : ∃ N, n.toNat = N := ⟨_, rfl⟩
   have hN2 : (N : Int) ≤ 200 := by omega
   have hmax : max n 0 = (N : Int) := by omega
   have HNN := hid_intro hN
   have hEl : ((E.length : Nat) : Int) ≤ 300 := by omega
   clear hN
   go_wp2_with fail
   refine HRK.out.mono ?_
   rintro r w1 ⟨hb1, hrr⟩
   have HC1 := hid_intro (HCY.out w1 hb1)
   have HB1 := hid_intro hb1
   clear hb1
   rcases hrr with ⟨hcy, rfl⟩ | ⟨hcy, M, v1, hM, rfl, ho1⟩
   ·have HCC := hid_intro hcy
    clear hcy
    go_wp2_with fail
    refine HC1.out.mono ?_
    rintro r w2 ⟨hb2, v2, c, rfl, -, hc, -⟩
    have hce : c.isEmpty = false := by
     cases c with
     | nil => exact absurd rfl (hc.2 HCC.out)
     | cons x c => rfl
    rw [hce]
    have HB2 := hid_intro (vb_t HB1.out hb2)
    clear hb2 hc hce
    go_wp2_with fail
    refine (heads_any w2).mono ?_
    rintro r w3 ⟨rfl, hb3⟩
    have HB3 := hid_intro (vb_t HB2.out hb3)
    clear hb3
    go_wp2_with fail
    rw [HQ.out]
    exact ⟨rfl, HB3.out⟩
   ·have HCC := hid_intro hcy
    have HM := hid_intro hM
    have HO1 := hid_intro (ho1.ii (fun _ => False) (fun _ _ h => h))
    clear hcy hM ho1
    go_wp2_with fail
    refine HC1.out.mono ?_
    rintro r w2 ⟨hb2, v2, c, rfl, -, hc, -⟩
    have hce : c.isEmpty = true := by
     cases c with
     | nil => rfl
     | cons x c => exact absurd (hc.1 (by simp)) HCC.out
    rw [hce]
    have HB2 := hid_intro (vb_t HB1.out hb2)
    obtain ⟨po, pc, rfl, -, hpp⟩ := (HO1.out.kept hb2).shape
    have HCE := hid_intro hpp
    rw [outL_len, HNN.out]
    rw [HNN.out] at HCE
    clear hb2 hc hce hpp
    go_wp2_with (at_make; refine wpList_make_b rfl _ _ rfl N rfl rfl (by omega) ?_)
    obtain ⟨nb, hnb⟩ : ∃ nb, w2.heap.size = nb := ⟨_, rfl⟩
    have HI0 : Hid (FaI n E M N nb 0 w2 (w2.alloc (.cells (lfs N []) 4))) := hid_intro ⟨Nat.zero_le _, vb_a (Below.refl _ _) _, by
     have h := Bk.new w2 (lfs N []) 4
     rw [bls_0] at h
     rw [hnb] at h
     have e : nxB M (prs n (E.take 0)) = fun _ => false := by funext k; simp [nxB, prs]
     rw [e, bls_0]; exact h⟩
    have HNB := hid_intro (show w2.heap.size ≤ nb by omega)
    rw [hnb]
    generalize w2.alloc (.cells (lfs N []) 4) = W3 at *
    clear hnb
    go_loopg [10, 11] (E.length) (fun g s10 s11 wr => ∃ j : Nat, g = E.length - j ∧ s10 = .int .i64 (j : Int) ∧ Hid (FaI n E M N nb j w2 wr))
    case atStart => exact ⟨0, rfl, rfl, HI0⟩
    case round =>
     obtain ⟨j, rfl, rfl, HI⟩ := hrel
     by_cases hj : j < E.length
     ·have hjI : (j : Int) < (E.length : Int) := by omega
      have HLJ := hid_intro hj
      have hbw := vb_t HB2.out HI.out.bel
      obtain ⟨bb, off, rfl, hbl, hcell⟩ := HROW.out.resolve_left (fun e => by rw [e] at hj; exact absurd hj (by simp))
      obtain ⟨k0, k1, k2, k3, k4⟩ := hcell j hj
      replace k0 := (hbw.cell (p := ⟨bb, off + j * 5, none⟩) hbl).trans k0
      replace k1 := (hbw.cell (p := ⟨bb, off + j * 5 + 1, none⟩) hbl).trans k1
      replace k2 := (hbw.cell (p := ⟨bb, off + j * 5 + 2, none⟩) hbl).trans k2
      replace k3 := (hbw.cell (p := ⟨bb, off + j * 5 + 3, none⟩) hbl).trans k3
      replace k4 := (hbw.cell (p := ⟨bb, off + j * 5 + 4, none⟩) hbl).trans k4
      have HFN := hid_intro (fun hc w' hb => HI.out.no (w' := w') hj hc hb)
      have HFY := hid_intro (fun hc f t w' b hf ht hb he => HI.out.yes (f := f) (t := t) (w' := w') (b := b) hj hc hf ht hb HNB.out he)
      have HFL : Hid (cnt n E[j] = true → M E[j].t.toNat < M E[j].f.toNat) := hid_intro (fun hc => HM.out.fall _ _ (mem_rowOf.2 (mem_prs.2 ⟨E[j], List.getElem_mem hj, hc, rfl, rfl⟩)))
      generalize E[j] = ed at *
      obtain ⟨ef, et, wd, sv, dy⟩ := ed
      dsimp only at k0 k1 k2 k3 k4 HFN HFY HFL
      clear hcell hj hbl hbw
      cases sv with
      | false =>
       have HNO := hid_intro (fun w' (hb : Below wr.heap.size wr w') => HFN.out (by unfold cnt; simp) w' hb)
       clear HFN HFY HFL
       go_wp2_with fail
       go_roundg (E.length - (j + 1))
       case measure => have := HLJ.out; omega
       case rel => exact ⟨j + 1, rfl, by go_num, hid_intro (HNO.out _ (vb_a (Below.refl _ _) _))⟩
      | true =>
       by_cases h1 : ef < 0
       ·have HNO := hid_intro (fun w' (hb : Below wr.heap.size wr w') => HFN.out (by unfold cnt; simp; omega) w' hb)
        clear HFN HFY HFL
        go_wp2_with fail
        go_roundg (E.length - (j + 1))
        case measure => have := HLJ.out; omega
        case rel => exact ⟨j + 1, rfl, by go_num, hid_intro (HNO.out _ (vb_a (Below.refl _ _) _))⟩
       ·by_cases h2 : n ≤ ef
        ·have HNO := hid_intro (fun w' (hb : Below wr.heap.size wr w') => HFN.out (by unfold cnt; simp; omega) w' hb)
         clear HFN HFY HFL
         go_wp2_with fail
         go_roundg (E.length - (j + 1))
         case measure => have := HLJ.out; omega
         case rel => exact ⟨j + 1, rfl, by go_num, hid_intro (HNO.out _ (vb_a (Below.refl _ _) _))⟩
        ·by_cases h3 : et < 0
         ·have HNO := hid_intro (fun w' (hb : Below wr.heap.size wr w') => HFN.out (by unfold cnt; simp; omega) w' hb)
          clear HFN HFY HFL
          go_wp2_with fail
          go_roundg (E.length - (j + 1))
          case measure => have := HLJ.out; omega
          case rel => exact ⟨j + 1, rfl, by go_num, hid_intro (HNO.out _ (vb_a (Below.refl _ _) _))⟩
         ·by_cases h4 : n ≤ et
          ·have HNO := hid_intro (fun w' (hb : Below wr.heap.size wr w') => HFN.out (by unfold cnt; simp; omega) w' hb)
           clear HFN HFY HFL
           go_wp2_with fail
           go_roundg (E.length - (j + 1))
           case measure => have := HLJ.out; omega
           case rel => exact ⟨j + 1, rfl, by go_num, hid_intro (HNO.out _ (vb_a (Below.refl _ _) _))⟩
          ·have hc : cnt n ⟨ef, et, wd, true, dy⟩ = true := by unfold cnt; simp; omega
           obtain ⟨f, rfl⟩ : ∃ f : Nat, ef = (f : Int) := ⟨ef.toNat, by omega⟩
           obtain ⟨t, rfl⟩ : ∃ t : Nat, et = (t : Int) := ⟨et.toNat, by omega⟩
           have hlt := HFL.out hc
           have hmb := HM.out.lt (m := n.toNat) (fun v y hy => (prs_lt _ (mem_rowOf.1 hy)).2) t (by omega)
           rw [Int.toNat_natCast, Int.toNat_natCast] at hlt
           have hfN : f < N := by have := HNN.out; omega
           have htN : t < N := by have := HNN.out; omega
           obtain ⟨pb, poff, rfl, hp⟩ := HCE.out.resolve_left (fun e => by have := congrArg List.length e; rw [outL_len] at this; rw [this] at hfN; simp at hfN)
           have r0 := hp wr HI.out.bel f (by rw [outL_len]; exact hfN)
           rw [outL_at M hfN] at r0
           have r1 := hp wr HI.out.bel t (by rw [outL_len]; exact htN)
           rw [outL_at M htN] at r1
           have n0 := (HI.out.nx.cell f).trans (bls_at _ hfN)
           have z0 := HI.out.nx.frz f
           have HYF := hid_intro (fun w' b hb he => HFY.out hc f t w' b rfl rfl hb he)
           obtain ⟨b0, hb0⟩ : ∃ b0, nxB M (prs n (E.take j)) f = b0 := ⟨_, rfl⟩
           rw [hb0] at n0 HYF
           obtain ⟨mf, hmf⟩ : ∃ mf, M f = mf := ⟨_, rfl⟩
           obtain ⟨mt, hmt⟩ : ∃ mt, M t = mt := ⟨_, rfl⟩
           rw [hmf] at r0 HYF hlt
           rw [hmt] at r1 HYF hlt hmb
           have hfNI : (f : Int) < (N : Int) := by omega
           have htNI : (t : Int) < (N : Int) := by omega
           have hmtI : (mt : Int) ≤ 200 := by omega
           have hmt0 : (-9223372036854775808 : Int) ≤ (mt : Int) + 1 := by omega
           have q0 := (vb_a (Below.refl _ wr) (.cells #[.int .i64 (f : Int), .int .i64 (t : Int), .string wd, .bool true, .string dy] 32)).cell (p := ⟨pb, poff + f, none⟩) (World.block_lt_of_cell? wr _ r0) |>.trans r0
           have q1 := (vb_a (Below.refl _ wr) (.cells #[.int .i64 (f : Int), .int .i64 (t : Int), .string wd, .bool true, .string dy] 32)).cell (p := ⟨pb, poff + t, none⟩) (World.block_lt_of_cell? wr _ r1) |>.trans r1
           have q2 := (vb_a (Below.refl _ wr) (.cells #[.int .i64 (f : Int), .int .i64 (t : Int), .string wd, .bool true, .string dy] 32)).cell (p := ⟨nb, f, none⟩) (World.block_lt_of_cell? wr _ n0) |>.trans n0
           have q3 := (HI.out.nx.al (.cells #[.int .i64 (f : Int), .int .i64 (t : Int), .string wd, .bool true, .string dy] 32)).frz f
           have kE := Bk.new wr #[.int .i64 (f : Int), .int .i64 (t : Int), .string wd, .bool true, .string dy] 32
           have c0 := kE.cell 0
           have c1 := kE.cell 1
           have HBW := hid_intro (vb_a (Below.refl _ wr) (.cells #[.int .i64 (f : Int), .int .i64 (t : Int), .string wd, .bool true, .string dy] 32))
           have hle : ¬ (mf : Int) ≤ (mt : Int) := by omega
           have hd0 : decide ((mf : Int) ≤ (mt : Int)) = false := decide_eq_false hle
           have hd1 : decide (mf ≤ mt) = false := decide_eq_false (by omega)
           clear hc hlt hmb hfN htN hp r0 r1 n0 z0 hb0 hmf hmt kE HFN HFY HFL
           go_wp2_with fail
           obtain ⟨W5, hW5⟩ : ∃ W5, wr.alloc (.cells #[.int .i64 (f : Int), .int .i64 (t : Int), .string wd, .bool true, .string dy] 32) = W5 := ⟨_, rfl⟩
           have hb5 := HBW.out
           rw [hW5] at q0 q1 q2 q3 c0 c1 hb5 ⊢
           have HB5 := hid_intro hb5
           clear hW5 hb5 HBW
           go_quiet (fail)
           have p0 : (W5.drewN nq).cell? ⟨pb, poff + f, none⟩ = _ := q0
           have p1 : (W5.drewN nq).cell? ⟨pb, poff + t, none⟩ = _ := q1
           have p2 : (W5.drewN nq).cell? ⟨nb, f, none⟩ = _ := q2
           have p3 : (W5.drewN nq).frozen? ⟨nb, f, none⟩ = _ := q3
           have e0 : (W5.drewN nq).cell? ⟨wr.heap.size, 0, none⟩ = some (.int .i64 (f : Int)) := c0
           have e1 : (W5.drewN nq).cell? ⟨wr.heap.size, 1, none⟩ = some (.int .i64 (t : Int)) := c1
           have HB6 := hid_intro (vb_n HB5.out nq)
           generalize W5.drewN nq = W6 at *
           clear q0 q1 q2 q3 c0 c1
           go_wp2_with fail
           cases b0 with
           | true =>
            have FIN := hid_intro (HYF.out W6 true HB6.out rfl)
            clear HYF
            go_region
            all_goals
             go_wp2_with fail
             go_roundg (E.length - (j + 1))
             case measure => have := HLJ.out; omega
             case rel => exact ⟨j + 1, rfl, by go_num, hid_intro (by with_reducible repeat (first | exact FIN.out | refine FaI.dw ?_))⟩
           | false =>
            by_cases hh : mf = mt + 1
            ·have FIN := hid_intro (HYF.out W6 true HB6.out (by rw [decide_eq_true hh]; rfl))
             have hhI : (mf : Int) = (mt : Int) + 1 := by omega
             have hhd : decide ((mf : Int) = (mt : Int) + 1) = true := decide_eq_true hhI
             clear HYF
             go_region
             all_goals
              go_wp2_with fail
              go_roundg (E.length - (j + 1))
              case measure => have := HLJ.out; omega
              case rel => exact ⟨j + 1, rfl, by go_num, hid_intro (by with_reducible repeat (first | exact FIN.out | refine FaI.dw ?_))⟩
            ·have FIN := hid_intro (HYF.out W6 ((mf : Int) == (mt : Int) + 1) HB6.out (by rw [decide_eq_false hh, beq_eq_false_iff_ne.2 (by omega)]; rfl))
             have hhI : ¬ (mf : Int) = (mt : Int) + 1 := by omega
             have hhd : decide ((mf : Int) = (mt : Int) + 1) = false := decide_eq_false hhI
             clear HYF
             go_region
             all_goals
              go_wp2_with fail
              go_roundg (E.length - (j + 1))
              case measure => have := HLJ.out; omega
              case rel => exact ⟨j + 1, rfl, by go_num, hid_intro (by with_reducible repeat (first | exact FIN.out | refine FaI.dw ?_))⟩
     ·have hjI : ¬ (j : Int) < (E.length : Int) := by omega
      have hje : j = E.length := by have := HI.out.le; omega
      have HNX := hid_intro HI.out.nx
      rw [hje, List.take_length, show nxB M (prs n E) = fun k => decide (0 < M k) from funext fun k => nxB_rank HM.out k] at HNX
      have HB5 := hid_intro HI.out.bel
      clear hj hje
      go_wp2_with fail
      go_loopg [12] (N) (fun g s12 wq => ∃ i : Nat, g = N - i ∧ s12 = .int .i64 (i : Int) ∧ Hid (i ≤ N ∧ Below w2.heap.size w2 wq ∧ Bk wq nb (bls N fun k => decide (0 < M k))))
      case atStart => exact ⟨0, rfl, rfl, hid_intro ⟨Nat.zero_le _, HB5.out, HNX.out⟩⟩
      case round =>
       obtain ⟨i, rfl, rfl, HK⟩ := hrel
       clear HB5 HNX HI
       by_cases hi : i < N
       ·have hiI : (i : Int) < (N : Int) := by omega
        have HLT := hid_intro hi
        obtain ⟨pb, poff, rfl, hp⟩ := HCE.out.resolve_left (fun e => by have := congrArg List.length e; rw [outL_len] at this; rw [this] at hi; simp at hi)
        have r0 := hp _ HK.out.2.1 i (by rw [outL_len]; exact hi)
        rw [outL_at M hi] at r0
        have n0 := (HK.out.2.2.cell i).trans (bls_at _ hi)
        obtain ⟨mi, hmi⟩ : ∃ mi, M i = mi := ⟨_, rfl⟩
        rw [hmi] at r0 n0
        have hm0 : ¬ (mi : Int) < 0 := by omega
        have hd0 : decide ((mi : Int) < 0) = false := decide_eq_false hm0
        clear hp hmi hi
        by_cases hz : 0 < mi
        ·rw [decide_eq_true hz] at n0
         have hzI : (0 : Int) < (mi : Int) := by omega
         have hd1 : decide ((0 : Int) < (mi : Int)) = true := decide_eq_true hzI
         have hd2 : decide (0 < mi) = true := decide_eq_true hz
         go_wp2_with fail
         go_quiet (fail)
         have HKN := hid_intro (And.intro HLT.out (And.intro (vb_n HK.out.2.1 nq) (HK.out.2.2.dr nq)))
         go_wp2_with fail
         go_roundg (N - (i + 1))
         case measure => have := HLT.out; omega
         case rel => exact ⟨i + 1, rfl, by go_num, HKN⟩
        ·rw [decide_eq_false hz] at n0
         have hzI : ¬ (0 : Int) < (mi : Int) := by omega
         have hd1 : decide ((0 : Int) < (mi : Int)) = false := decide_eq_false hzI
         have hd2 : decide (0 < mi) = false := decide_eq_false hz
         go_wp2_with fail
         go_quiet (fail)
         have HKN := hid_intro (And.intro HLT.out (And.intro (vb_n HK.out.2.1 nq) (HK.out.2.2.dr nq)))
         go_wp2_with fail
         go_roundg (N - (i + 1))
         case measure => have := HLT.out; omega
         case rel => exact ⟨i + 1, rfl, by go_num, HKN⟩
       ·have hiI : ¬ (i : Int) < (N : Int) := by omega
        have HB8 := hid_intro (vb_t HB2.out HK.out.2.1)
        clear hi
        go_wp2_with fail
        refine (heads_any _).mono ?_
        rintro r w4 ⟨rfl, hb4⟩
        have HB9 := hid_intro (vb_t HB8.out hb4)
        clear hb4
        go_wp2_with fail
        rw [HQ.out]
        exact ⟨rfl, HB9.out⟩
end Go.Proofs.Ytnlgeiofkfkhbaa
