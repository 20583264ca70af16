/-
  A simple value lies as it should. Conditions: its text is at most 2^20 bytes.
  json.Bound. Conditions: none.
  A value behind the others in the innermost. Conditions: none.
  Of what is read: values in what is open are fewer than the bytes that were read. Conditions: none.
  What ref4.digit, ref4.some and ref4.word answer: the same as lex.digits and lex.spelled. Conditions: the bytes lie in memory, at most 2^48 of them.
  What ref4.Hex answers: a digit of 16. No condition but that a byte is below 256.
  What ref4.four answers: the number of four digits of 16, or where it is bad: the same as lex.unit. Conditions: the bytes lie in memory, at most 2^48 of them.
  What ref4.escape answers: the code point behind a backslash, or the bad length: the same as lex.escape. Conditions: the bytes lie in memory, at most 2^48 of them.
  What ref1.Put and ref1.Pair answer. Conditions: what stands ahead of a code point is at most 2^47 - 4096 bytes long.
  What ref4.escape answers: the code point behind a backslash, or the bad length: the same as lex.escape. Conditions: the bytes lie in memory, at most 2^48 of them.
  Plain mathematics: a string that is read step by step is the string that is read run by run. No condition.
  What ref.length, ref.second, ref.step and ref.Good answer: the same step, and the same good beginning. No condition.
  What ref.Good and ref.Points answer: the same good beginning, and the same code points. Conditions: the text is at most 2^44 bytes long.
  What ref4.text answers: the string behind a quote, or the bad length: the same as lex.text. Conditions: the bytes lie in memory, at most 2^47 - 4096 of them.
  What ref4.number answers: the same as lex.number. Conditions: the bytes lie in memory, at most 2^48 of them.
  What ref4.Blank answers, and plain facts on what is read at a place. No condition.
-/
import Derived.Test.YtjakgdaodlgeaaaGreatDoorJoined30
import Derived.Test.YtjakgdaodlgeaaaGreatDoorJoined7
import Derived.Test.YtjakgdaodlgeaaaGreatDoorJoined8
import Derived.Test.YtjakgdaodlgeaaaGreatDoorJoined11
import Derived.Test.YtjakgdaodlgeaaaGreatDoorJoined12
import Derived.Deep.DeepCutAuto
import Derived.Test.YtjakgdaodlgeaaaGreatDoorJoined27
import Derived.Test.YtjakgdaodlgeaaaGreatDoorJoined4
import Derived.Deep.LoopGhost
import Derived.Deep.CutBlock
import Derived.Test.YtjakgdaodlgeaaaGreatDoorJoined16
namespace Go.Proofs.YtjakgdaodlgeaaaGreatDoor
open Go.RowKit Go.Maps

theorem dg_lo (s : List UInt8) : (parseL s).2.dg.length ≤ 65536 := by
 by_cases h : (parseL s).1 = 0
 ·rcases parse_good h with ⟨h2, _, _⟩ | ⟨h2, _, _⟩
  ·rw [h2]; simp
  ·exact h2.2.1
 ·rw [parse_bad h]; simp [zeroD]
theorem lim_dg (m : LM) (s : List UInt8) : (limL m s).1.dg.length ≤ 65536 := by
 unfold limL
 split
 ·simp [zeroD]
 ·split
  ·simp [zeroD]
  ·exact dg_lo s
theorem vi_num (w : World) (X : Nat → Prop) (d : D3) (h1 : d.dg.length ≤ 65536) (h2 : -1000000 ≤ d.ex ∧ d.ex ≤ 1000000) : VI w X (numJ d) (fS 3 d.neg (bs d.dg) d.ex ⟨#[]⟩) :=
 vi_fS w X 3 d.neg (bs d.dg) d.ex ⟨#[]⟩ (by decide) (wf_of (by omega) (by omega)) (by show d.dg.toArray.size ≤ _; unfold maxLen; simp; omega) (by show (#[] : Array UInt8).size ≤ _; simp)
theorem vi_simple (m : LM) (t : Lx.Tok) (p : Nat) (w : World) (X : Nat → Prop) (ht : t.text.length ≤ 1048576) : VI w X (simpleS m t p).1 (simF m t p) := by
 unfold simF simpleS
 by_cases h1 : t.kind = 1
 ·simp only [h1, ↓reduceIte]
  exact vi_fS w X 4 false ⟨#[]⟩ 0 (txtB t) (by decide) (by decide) (by show (#[] : Array UInt8).size ≤ _; simp) (by show t.text.toArray.size ≤ _; unfold maxLen; simp; omega)
 ·by_cases h2 : t.kind = 2
  ·by_cases h3 : p = 0
   ·simp only [h2, h3, ne_eq, not_true_eq_false, ↓reduceIte]
    exact vi_num w X _ (lim_dg m t.text) (lim_ex m t.text)
   ·simp only [h2, h3, ne_eq, not_false_eq_true, ↓reduceIte]
    exact vi_num w X zeroD (by simp [zeroD]) (by decide)
  ·simp only [h1, h2, ↓reduceIte]
   refine vi_fS w X _ false ⟨#[]⟩ 0 ⟨#[]⟩ ?_ (by decide) (by show (#[] : Array UInt8).size ≤ _; simp) (by show (#[] : Array UInt8).size ≤ _; simp)
   unfold wordL
   split
   ·decide
   ·split <;> decide
end Go.Proofs.YtjakgdaodlgeaaaGreatDoor

namespace Go.Proofs.YtjakgdaodlgeaaaGreatDoor
open Go.RowKit Go.Maps

set_option maxRecDepth 100000 in
set_option maxHeartbeats 3200000 in
theorem bound_any (a1 a2 a3 a4 a5 : Int) (w : World) : Calls Tryz.prog 12 #[limV a1 a2 a3 a4 a5] w fun r w' => r = .returned (limV (boundedL a1 10000) (boundedL a2 65536) (boundedL a3 1000000) (boundedL a4 65536) (boundedL a5 16384)) ∧ Below w.heap.size w w' := by
 obtain ⟨P, hP⟩ : ∃ P : Ending → World → Prop, P = fun r w' => r = .returned (limV (boundedL a1 10000) (boundedL a2 65536) (boundedL a3 1000000) (boundedL a4 65536) (boundedL a5 16384)) ∧ Below w.heap.size w w' := ⟨_, rfl⟩
 rw [← hP]
 have HP := hid_intro hP
 obtain ⟨A, hA⟩ : ∃ A, (w.alloc (.cells #[.int .i64 a1, .int .i64 a2, .int .i64 a3, .int .i64 a4, .int .i64 a5] 24)).alloc (.cells #[.int .i64 0, .int .i64 0, .int .i64 0, .int .i64 0, .int .i64 0] 24) = A := ⟨_, rfl⟩
 have HBA : Hid (Below w.heap.size w A) := hid_intro (hA ▸ vb_a (vb_a (Below.refl _ _) _) _)
 have HTA : Hid (Bj A w.heap.size #[.int .i64 a1, .int .i64 a2, .int .i64 a3, .int .i64 a4, .int .i64 a5]) := hid_intro (hA ▸ (Bj.new _ _ _).al _)
 have HVA : Hid (Bj A (w.heap.size + 1) #[.int .i64 0, .int .i64 0, .int .i64 0, .int .i64 0, .int .i64 0]) := hid_intro (hA ▸ Bj.new' _ _ _ _ (by simp))
 have HS : Hid (∀ w', Below A.heap.size A w' → w'.cell? ⟨w.heap.size, 0, none⟩ = some (.int .i64 a1) ∧ w'.cell? ⟨w.heap.size, 1, none⟩ = some (.int .i64 a2) ∧ w'.cell? ⟨w.heap.size, 2, none⟩ = some (.int .i64 a3) ∧ w'.cell? ⟨w.heap.size, 3, none⟩ = some (.int .i64 a4) ∧ w'.cell? ⟨w.heap.size, 4, none⟩ = some (.int .i64 a5)) := hid_intro (fun w' hb => ⟨(HTA.out.bel hb).cell 0, (HTA.out.bel hb).cell 1, (HTA.out.bel hb).cell 2, (HTA.out.bel hb).cell 3, (HTA.out.bel hb).cell 4⟩)
 have HB : Hid (∀ x m w', Below A.heap.size A w' → Calls Tryz.prog 24 #[.int .i64 x, .int .i64 m] w' fun r w2 => r = .returned (.int .i64 (boundedL x m)) ∧ Below A.heap.size A w2) := hid_intro (fun x m w' hb => (bounded_any x m w').mono fun r w2 hr => ⟨hr.1, hr.2 ▸ hb⟩)
 have HSV : Hid (∀ w', Below A.heap.size A w' → w'.cell? ⟨w.heap.size + 1, 0, none⟩ = some (.int .i64 0) ∧ w'.cell? ⟨w.heap.size + 1, 1, none⟩ = some (.int .i64 0) ∧ w'.cell? ⟨w.heap.size + 1, 2, none⟩ = some (.int .i64 0) ∧ w'.cell? ⟨w.heap.size + 1, 3, none⟩ = some (.int .i64 0) ∧ w'.cell? ⟨w.heap.size + 1, 4, none⟩ = some (.int .i64 0) ∧ w'.frozen? ⟨w.heap.size + 1, 0, none⟩ = false ∧ w'.frozen? ⟨w.heap.size + 1, 1, none⟩ = false ∧ w'.frozen? ⟨w.heap.size + 1, 2, none⟩ = false ∧ w'.frozen? ⟨w.heap.size + 1, 3, none⟩ = false ∧ w'.frozen? ⟨w.heap.size + 1, 4, none⟩ = false) := hid_intro (fun w' hb => ⟨(HVA.out.bel hb).cell 0, (HVA.out.bel hb).cell 1, (HVA.out.bel hb).cell 2, (HVA.out.bel hb).cell 3, (HVA.out.bel hb).cell 4, (HVA.out.bel hb).frz 0, (HVA.out.bel hb).frz 1, (HVA.out.bel hb).frz 2, (HVA.out.bel hb).frz 3, (HVA.out.bel hb).frz 4⟩)
 have HS2 : Hid (∀ w' v0 v1 v2 v3 v4, Below A.heap.size A w' → (((((w'.setCell ⟨w.heap.size + 1, 0, none⟩ v0).setCell ⟨w.heap.size + 1, 1, none⟩ v1).setCell ⟨w.heap.size + 1, 2, none⟩ v2).setCell ⟨w.heap.size + 1, 3, none⟩ v3).setCell ⟨w.heap.size + 1, 4, none⟩ v4).cell? ⟨w.heap.size, 0, none⟩ = some (.int .i64 a1) ∧ (((((w'.setCell ⟨w.heap.size + 1, 0, none⟩ v0).setCell ⟨w.heap.size + 1, 1, none⟩ v1).setCell ⟨w.heap.size + 1, 2, none⟩ v2).setCell ⟨w.heap.size + 1, 3, none⟩ v3).setCell ⟨w.heap.size + 1, 4, none⟩ v4).cell? ⟨w.heap.size, 1, none⟩ = some (.int .i64 a2) ∧ (((((w'.setCell ⟨w.heap.size + 1, 0, none⟩ v0).setCell ⟨w.heap.size + 1, 1, none⟩ v1).setCell ⟨w.heap.size + 1, 2, none⟩ v2).setCell ⟨w.heap.size + 1, 3, none⟩ v3).setCell ⟨w.heap.size + 1, 4, none⟩ v4).cell? ⟨w.heap.size, 2, none⟩ = some (.int .i64 a3) ∧ (((((w'.setCell ⟨w.heap.size + 1, 0, none⟩ v0).setCell ⟨w.heap.size + 1, 1, none⟩ v1).setCell ⟨w.heap.size + 1, 2, none⟩ v2).setCell ⟨w.heap.size + 1, 3, none⟩ v3).setCell ⟨w.heap.size + 1, 4, none⟩ v4).cell? ⟨w.heap.size, 3, none⟩ = some (.int .i64 a4) ∧ (((((w'.setCell ⟨w.heap.size + 1, 0, none⟩ v0).setCell ⟨w.heap.size + 1, 1, none⟩ v1).setCell ⟨w.heap.size + 1, 2, none⟩ v2).setCell ⟨w.heap.size + 1, 3, none⟩ v3).setCell ⟨w.heap.size + 1, 4, none⟩ v4).cell? ⟨w.heap.size, 4, none⟩ = some (.int .i64 a5)) := hid_intro (fun w' v0 v1 v2 v3 v4 hb => by
  have hn : ∀ i, w.heap.size ≠ (⟨w.heap.size + 1, i, none⟩ : Addr).block := fun i => by simp
  have h5 := ((((((HTA.out.bel hb).away (v := v0) (hn 0)).away (v := v1) (hn 1)).away (v := v2) (hn 2)).away (v := v3) (hn 3)).away (v := v4) (hn 4))
  exact ⟨h5.cell 0, h5.cell 1, h5.cell 2, h5.cell 3, h5.cell 4⟩)
 have hc := Below.refl A.heap.size A
 unfold limV
 clear hP
 go_enter Tryz.func12, Tryz.ntmps12
 go_wp2_with fail
 go_region_held3 (fun w' => w'.cell? ⟨w.heap.size, 0, none⟩ = some (.int .i64 a1) ∧ w'.cell? ⟨w.heap.size, 1, none⟩ = some (.int .i64 a2) ∧ w'.cell? ⟨w.heap.size, 2, none⟩ = some (.int .i64 a3) ∧ w'.cell? ⟨w.heap.size, 3, none⟩ = some (.int .i64 a4) ∧ w'.cell? ⟨w.heap.size, 4, none⟩ = some (.int .i64 a5)) (first | (refine HS.out _ ?_; (with_reducible repeat (first | exact hc | refine vb_d ?_)); done) | (refine HS2.out _ _ _ _ _ _ ?_; (with_reducible repeat (first | exact hc | refine vb_d ?_)); done) | fail) (first | (go_at_call 24; refine (HB.out _ _ _ ?_).mono ?_; (with_reducible repeat (first | exact hc | refine vb_d ?_)); rintro r w3 ⟨rfl, hc⟩; obtain ⟨y0, y1, y2, y3, y4, z0, z1, z2, z3, z4⟩ := HSV.out _ hc) | fail)
 all_goals
  go_wp2_with fail
  refine bodyPost_ret (v := .agg #[.int .i64 (boundedL a1 10000), .int .i64 (boundedL a2 65536), .int .i64 (boundedL a3 1000000), .int .i64 (boundedL a4 65536), .int .i64 (boundedL a5 16384)]) (by simp [results, Tryz.results12, go_sem, y0, y1, y2, y3, y4]) rfl ?_
  rw [HP.out]
  refine ⟨rfl, ?_⟩
  have hb5 : But (· = w.heap.size + 1) w3 (((((w3.setCell ⟨w.heap.size + 1, 0, none⟩ (.int .i64 (boundedL a1 10000))).setCell ⟨w.heap.size + 1, 1, none⟩ (.int .i64 (boundedL a2 65536))).setCell ⟨w.heap.size + 1, 2, none⟩ (.int .i64 (boundedL a3 1000000))).setCell ⟨w.heap.size + 1, 3, none⟩ (.int .i64 (boundedL a4 65536))).setCell ⟨w.heap.size + 1, 4, none⟩ (.int .i64 (boundedL a5 16384))) := (((((But.refl _ w3).setr _).setr _).setr _).setr _).setr _
  have hw3 := vb_t HBA.out hc
  exact hw3.trans ⟨hb5.os, hb5.tape, hb5.output, hb5.size, fun k hk => hb5.block k (Nat.lt_of_lt_of_le hk hw3.size) (by omega)⟩
end Go.Proofs.YtjakgdaodlgeaaaGreatDoor

namespace Go.Proofs.YtjakgdaodlgeaaaGreatDoor
open Go.RowKit Go.Maps

def seven (f : Nat → Value) : List Value := [f 0, f 1, f 2, f 3, f 4, f 5, f 6]
theorem flat7_snoc (ps : List PV) (x : JV) (f : Nat → Value) : flat7 (ps ++ [(x, f)]) = flat7 ps ++ seven f := by simp [flat7, seven]
def hvl (h : HC) (lv : Value) (x : JV) (f : Nat → Value) : HC := { h with vs := h.vs ++ [(x, f)], lv := lv }
theorem ST.addVal [Ex] {w w' : World} {rb ob n cap : Nat} {hs0 : List HC} {h : HC} {lv' : Value} {x : JV} {f : Nat → Value} (hst : ST w rb (.slice (some ⟨ob, 0, none⟩) n cap) (hs0 ++ [h])) (hv : VI w (mX rb (.slice (some ⟨ob, 0, none⟩) n cap) (hs0 ++ [h])) x f)
  (ho : w'.ownsRow (rb + 1) 31 7 lv' (h.vs.length + 1) (flat7 h.vs ++ seven f)) (hg : w.grownBy w' h.lv.ownBlock) (h4 : lv'.ownBlock = h.lv.ownBlock ∨ lv'.ownBlock = some w.heap.size) :
  ST (w'.setCell ⟨ob, hs0.length * 4 + 1, none⟩ lv') rb (.slice (some ⟨ob, 0, none⟩) n cap) (hs0 ++ [hvl h lv' x f]) ∧ Mr rb (.slice (some ⟨ob, 0, none⟩) n cap) (hs0 ++ [h]) w (.slice (some ⟨ob, 0, none⟩) n cap) (hs0 ++ [hvl h lv' x f]) (w'.setCell ⟨ob, hs0.length * 4 + 1, none⟩ lv') := by
 have hnd := hst.ownnd
 obtain ⟨p1, p2⟩ := own_parts hnd
 have hh := hst.ho h (by simp)
 have hlt := hh.lt
 have hb : But (fun b => b ∈ h.own) w w' := but_grown hg (fun b e => mem_own_l e)
 have hown : ∀ b ∈ (hvl h lv' x f).own, b ∈ h.own ∨ w.heap.size ≤ b := fun b hb1 => by
  rcases own_cases hb1 with e | e | e
  ·rcases h4 with h4 | h4
   ·exact Or.inl (mem_own_l (by rw [← h4]; exact e))
   ·have e : lv'.ownBlock = some b := e
    rw [h4] at e; injection e with e; exact Or.inr (by omega)
  ·exact Or.inl (mem_own_k e)
  ·exact Or.inl (mem_own_m e)
 have key : ∀ X', X' = mX rb (.slice (some ⟨ob, 0, none⟩) n cap) (hs0 ++ [hvl h lv' x f]) → ∀ b, ¬ mX rb (.slice (some ⟨ob, 0, none⟩) n cap) (hs0 ++ [h]) b → b < w.heap.size → w'.heap[b]? = w.heap[b]? ∧ ¬ X' b := fun X' hX' b hb1 hl => by
  refine ⟨hg.block b hl (fun e2 => hb1 (Or.inr (Or.inr (by rw [muts_snoc]; exact List.mem_append_right _ (mem_own_l e2.symm))))), ?_⟩
  rw [hX']; intro e; apply hb1
  rcases e with e | e | e
  ·exact Or.inl e
  ·exact Or.inr (Or.inl e)
  ·rw [muts_snoc, List.mem_append] at e
   rw [mX, wX, muts_snoc]
   rcases e with e | e
   ·exact Or.inr (Or.inr (List.mem_append_left _ e))
   ·rcases hown b e with e | e
    ·exact Or.inr (Or.inr (List.mem_append_right _ e))
    ·omega
 refine hst.upd 1 (by omega) lv' rfl hb (fun X' hX' => ⟨?_, fun p hp => ?_, own_keep hh.krow fun b hb1 => ?_, hh.ksz, map_keep hh.map fun b hb1 => ?_⟩) hown ?_ rfl
 ·show w'.ownsRow (rb + 1) 31 7 lv' (h.vs ++ [(x, f)]).length (flat7 (h.vs ++ [(x, f)]))
  rw [flat7_snoc, List.length_append]
  exact ho
 ·rcases List.mem_append.1 hp with hp | hp
  ·exact (hh.vis p hp).carry fun b hb1 hl => key X' hX' b hb1 hl
  ·obtain rfl : p = (x, f) := by simpa using hp
   exact hv.carry fun b hb1 hl => key X' hX' b hb1 hl
 ·have e : (hvl h lv' x f).kv.ownBlock = some b := by simpa using hb1
  have e : h.kv.ownBlock = some b := e
  exact hg.block b (own_lt hh.krow b hb1).2 (fun e2 => (p1 b e2.symm).1 e)
 ·have e : mblk (hvl h lv' x f).mv = some b := by simpa using hb1
  have e : mblk h.mv = some b := e
  exact hg.block b (map_lt hh.map b hb1).2 (fun e2 => (p1 b e2.symm).2 e)
 ·refine own_mk _ _ _ (fun y hy => ?_) (fun y hy => p2 y hy)
  have hy : lv'.ownBlock = some y := hy
  rcases h4 with h4 | h4
  ·exact p1 y (by rw [← h4]; exact hy)
  ·rw [h4] at hy; injection hy with hy
   exact ⟨fun e => by have := (hlt y (mem_own_k e)).2; omega, fun e => by have := (hlt y (mem_own_m e)).2; omega⟩
theorem JR.addVal [Ex] {W : World} {l : List UInt8} {v : Value} {lm : Nat → Int} {rb : Nat} {s : SS} {ov : Value} {hs0 : List HC} {h : HC} {lv : Value} {x : JV} {f : Nat → Value} {w w' : World} (hJ : JR W l v lm rb s ov (hs0 ++ [h]) w) (hst : ST w' rb ov (hs0 ++ [hvl h lv x f])) (hm : Mr rb ov (hs0 ++ [h]) w ov (hs0 ++ [hvl h lv x f]) w') (hn : h.vs.length < s.i) : JR W l v lm rb (addV x s) ov (hs0 ++ [hvl h lv x f]) w' := by
 refine ⟨hm.rd hJ.rd, hst, ?_, fun y hy => ?_, hJ.bel.trans ((hm.mv.below hJ.st hJ.rd.lt).mono hJ.lo), hJ.lo, hJ.le, ?_, fun y hy => ?_, hJ.n3⟩
 ·show s.hs.dropLast ++ [((lastS s).1, (lastS s).2.1 ++ [x], (lastS s).2.2)] = _
  rw [lastS_of hJ, hJ.eq]
  simp [hvl]
 ·rcases List.mem_append.1 hy with hy | hy
  ·exact hJ.sn y (List.mem_append_left _ hy)
  ·obtain rfl : y = hvl h lv x f := by simpa using hy
   exact hJ.sn h (by simp)
 ·have := hJ.n1; simp at this ⊢; exact this
 ·rcases List.mem_append.1 hy with hy | hy
  ·exact hJ.n2 y (List.mem_append_left _ hy)
  ·obtain rfl : y = hvl h lv x f := by simpa using hy
   refine ⟨?_, (hJ.n2 h (by simp)).2⟩
   show (h.vs ++ [(x, f)]).length ≤ s.i
   simp; omega
end Go.Proofs.YtjakgdaodlgeaaaGreatDoor

namespace Go.Proofs.YtjakgdaodlgeaaaGreatDoor
open Go.RowKit Go.Maps

def VLo (s : SS) : Prop := ∀ h ∈ s.hs, h.2.1.length < s.i
theorem VLo.at {s : SS} (h : VLo s) {j : Nat} (hj : s.i ≤ j) : VLo { s with i := j } := fun x hx => Nat.lt_of_lt_of_le (h x hx) hj
theorem VLo.open {s : SS} (h : VLo s) (k : Int) {j : Nat} (hj : s.i < j) : VLo { openS k s with i := j } := fun x hx => by
 have hx : x ∈ s.hs ++ [(k, [], [])] := hx
 rcases List.mem_append.1 hx with hx | hx
 ·exact Nat.lt_of_lt_of_le (h x hx) (Nat.le_of_lt hj)
 ·obtain rfl : x = (k, [], []) := by simpa using hx
  exact Nat.lt_of_le_of_lt (Nat.zero_le _) hj
theorem getLastD_mem {α : Type} (l : List α) : ∀ a : α, l.getLastD a ∈ a :: l := by
 induction l with
 | nil => intro a; simp
 | cons b l ih => intro a; rw [List.getLastD_cons]; exact List.mem_cons_of_mem _ (ih b)
theorem last_vlo {s : SS} (h : VLo s) {j : Nat} (hj : s.i < j) : (lastS s).2.1.length < j := by
 unfold lastS
 cases e : s.hs with
 | nil => exact Nat.lt_of_le_of_lt (Nat.zero_le _) hj
 | cons a l =>
  rw [List.getLastD_cons]
  exact Nat.lt_trans (h _ (by rw [e]; exact getLastD_mem l a)) hj
theorem VLo.key {s : SS} (h : VLo s) (k : ByteArray) {j : Nat} (hj : s.i < j) : VLo { addK k s with i := j } := fun x hx => by
 have hx : x ∈ s.hs.dropLast ++ [((lastS s).1, (lastS s).2.1, (lastS s).2.2 ++ [k])] := hx
 rcases List.mem_append.1 hx with hx | hx
 ·exact Nat.lt_trans (h x (List.dropLast_subset _ hx)) hj
 ·obtain rfl : x = ((lastS s).1, (lastS s).2.1, (lastS s).2.2 ++ [k]) := by simpa using hx
  exact last_vlo h hj
theorem VLo.val {s : SS} (h : VLo s) (h0 : s.hs ≠ []) (v : JV) {j : Nat} (hj : s.i < j) : VLo { addV v s with i := j } := fun x hx => by
 have hx : x ∈ s.hs.dropLast ++ [((lastS s).1, (lastS s).2.1 ++ [v], (lastS s).2.2)] := hx
 rcases List.mem_append.1 hx with hx | hx
 ·exact Nat.lt_trans (h x (List.dropLast_subset _ hx)) hj
 ·obtain rfl : x = ((lastS s).1, (lastS s).2.1 ++ [v], (lastS s).2.2) := by simpa using hx
  show ((lastS s).2.1 ++ [v]).length < j
  have : (lastS s).2.1.length < s.i := by
   unfold lastS
   cases e : s.hs with
   | nil => exact absurd e h0
   | cons a l =>
    rw [List.getLastD_cons]
    exact h _ (by rw [e]; exact getLastD_mem l a)
  simp; omega
theorem VLo.close {s : SS} (h : VLo s) : VLo (closeS s).2 := fun x hx => h x (List.dropLast_subset _ hx)
theorem valueOf_vl {l : List UInt8} {t : Lx.Tok} {s : SS} {x : Lx.Tok × SS} (h : valueOfS l t s = .ok x) (hv : VLo s) : VLo x.2 ∧ s.i < x.2.i := by
 refine ⟨?_, (valueOfS_ok h).1⟩
 unfold valueOfS at h
 split at h
 ·cases h
 ·split at h
  ·cases h
  ·rename_i t1 h1
   split at h
   ·cases h
   ·rename_i t2 h2
    injection h with h
    rw [← h]
    exact hv.key _ (Nat.lt_trans (takeL_ok h1).1 (takeL_ok h2).1)
theorem nextOf_vl {l : List UInt8} {s : SS} {x : Lx.Tok × SS} (h : nextOfS l s = .ok x) (hv : VLo s) : VLo x.2 ∧ s.i < x.2.i ∧ x.1.text.length ≤ l.length := by
 unfold nextOfS at h
 split at h
 ·split at h
  ·cases h
  ·rename_i t h1
   obtain ⟨a, b⟩ := valueOf_vl h (hv.at (Nat.le_of_lt (takeL_ok h1).1))
   exact ⟨a, Nat.lt_trans (takeL_ok h1).1 b, (valueOfS_ok h).2⟩
 ·split at h
  ·cases h
  ·rename_i t h1
   injection h with h
   rw [← h]
   exact ⟨hv.at (Nat.le_of_lt (takeL_ok h1).1), (takeL_ok h1).1, (takeL_ok h1).2.2⟩
theorem first_vl {l : List UInt8} {m : LM} : ∀ n t s x, firstS l m n t s = .ok x → VLo s → VLo x.2 ∧ s.i ≤ x.2.i
 | 0, _, _, _, h, _ => by simp [firstS] at h
 | n + 1, t, s, x, h, hv => by
  unfold firstS at h
  split at h
  ·split at h
   ·cases h
   ·rename_i t1 h1
    have h2 := (takeL_ok h1).1
    obtain ⟨a, b⟩ := first_vl n _ _ _ h (hv.open 5 h2)
    exact ⟨a, Nat.le_trans (Nat.le_of_lt h2) b⟩
  ·split at h
   ·split at h
    ·cases h
    ·rename_i t1 h1
     have h2 := (takeL_ok h1).1
     split at h
     ·obtain ⟨a, b⟩ := first_vl n _ _ _ h (hv.open 6 h2)
      exact ⟨a, Nat.le_trans (Nat.le_of_lt h2) b⟩
     ·split at h
      ·cases h
      ·rename_i t2 s2 hv2
       obtain ⟨a1, b1⟩ := valueOf_vl hv2 (hv.open 6 h2)
       obtain ⟨a, b⟩ := first_vl n _ _ _ h a1
       exact ⟨a, Nat.le_trans (Nat.le_of_lt (Nat.lt_trans h2 b1)) b⟩
   ·split at h
    ·injection h with h; rw [← h]; exact ⟨hv.close, Nat.le_refl _⟩
    ·injection h with h; rw [← h]; exact ⟨hv, Nat.le_refl _⟩
theorem addK_len (k : ByteArray) (s : SS) (h : s.hs ≠ []) : (addK k s).hs.length = s.hs.length := by
 show (s.hs.dropLast ++ [((lastS s).1, (lastS s).2.1, (lastS s).2.2 ++ [k])]).length = _
 have := List.length_pos_iff.2 h
 simp; omega
theorem nextOf_len {l : List UInt8} {s : SS} {x : Lx.Tok × SS} (h : nextOfS l s = .ok x) (h0 : s.hs ≠ []) : x.2.hs.length = s.hs.length := by
 unfold nextOfS valueOfS at h
 split at h
 ·split at h
  ·cases h
  ·split at h
   ·cases h
   ·split at h
    ·cases h
    ·split at h
     ·cases h
     ·rename_i t _ _ _ _ _ _ _
      injection h with h
      rw [← h]
      exact addK_len _ { s with i := _ } h0
 ·split at h
  ·cases h
  ·injection h with h
   rw [← h]
end Go.Proofs.YtjakgdaodlgeaaaGreatDoor

namespace Go.Proofs.YtjakgdaodlgeaaaGreatDoor.Lx
open Go.RowKit
attribute [local go_sem] setCell_drewN alloc_drewN

end Go.Proofs.YtjakgdaodlgeaaaGreatDoor.Lx

namespace Go.Proofs.YtjakgdaodlgeaaaGreatDoor.Lx
open Go.RowKit
attribute [local go_sem] setCell_drewN alloc_drewN

end Go.Proofs.YtjakgdaodlgeaaaGreatDoor.Lx

namespace Go.Proofs.YtjakgdaodlgeaaaGreatDoor.Lx
open Go.RowKit
attribute [local go_sem] setCell_drewN alloc_drewN

end Go.Proofs.YtjakgdaodlgeaaaGreatDoor.Lx

namespace Go.Proofs.YtjakgdaodlgeaaaGreatDoor.Lx
open Go.RowKit
attribute [local go_sem] setCell_drewN alloc_drewN

theorem cx_bd (s : ByteArray) (k : Nat) : 0 ≤ cx s k ∧ cx s k < 256 := by
 unfold cx
 split
 ·rename_i h
  have := UInt8.toNat_lt (s[k]'h)
  exact ⟨by omega, by omega⟩
 ·omega
end Go.Proofs.YtjakgdaodlgeaaaGreatDoor.Lx

namespace Go.Proofs.YtjakgdaodlgeaaaGreatDoor.Lx
open Go.RowKit

end Go.Proofs.YtjakgdaodlgeaaaGreatDoor.Lx

namespace Go.Proofs.YtjakgdaodlgeaaaGreatDoor.Lx
open Go.RowKit
attribute [local go_sem] setCell_drewN alloc_drewN

end Go.Proofs.YtjakgdaodlgeaaaGreatDoor.Lx

namespace Go.Proofs.YtjakgdaodlgeaaaGreatDoor.Lx
open Go.RowKit

end Go.Proofs.YtjakgdaodlgeaaaGreatDoor.Lx

namespace Go.Proofs.YtjakgdaodlgeaaaGreatDoor.Lx
open Go.RowKit

end Go.Proofs.YtjakgdaodlgeaaaGreatDoor.Lx

namespace Go.Proofs.YtjakgdaodlgeaaaGreatDoor.Lx
open Go.RowKit

end Go.Proofs.YtjakgdaodlgeaaaGreatDoor.Lx

namespace Go.Proofs.YtjakgdaodlgeaaaGreatDoor.Lx
open Go.RowKit
attribute [local go_sem] setCell_drewN alloc_drewN

end Go.Proofs.YtjakgdaodlgeaaaGreatDoor.Lx

namespace Go.Proofs.YtjakgdaodlgeaaaGreatDoor.Lx
open Go.RowKit
attribute [local go_sem] setCell_drewN alloc_drewN

end Go.Proofs.YtjakgdaodlgeaaaGreatDoor.Lx

namespace Go.Proofs.YtjakgdaodlgeaaaGreatDoor.Lx
open Go.RowKit
attribute [local go_sem] setCell_drewN alloc_drewN

theorem readL_word {l : List UInt8} {p : Nat} (hp : p < l.length) (hs : signB (bx l p) = false) :
  (bx l p = 110 → readL l p = stands 3 l p (spelledL l p [110, 117, 108, 108])) ∧ (bx l p = 116 → readL l p = stands 3 l p (spelledL l p [116, 114, 117, 101])) ∧ (bx l p = 102 → readL l p = stands 3 l p (spelledL l p [102, 97, 108, 115, 101])) ∧
  (bx l p = 45 → readL l p = stands 2 l p (numberL l p)) ∧ (digitB (bx l p) = true → readL l p = stands 2 l p (numberL l p)) ∧ (bx l p = 34 → readL l p = textL l p) := by
 have h0 : ¬ p = l.length := by omega
 unfold readL
 rw [if_neg h0, if_neg (by rw [hs]; simp)]
 refine ⟨fun h => ?_, fun h => ?_, fun h => ?_, fun h => ?_, fun h => ?_, fun h => ?_⟩
 ·rw [if_pos h]
 ·rw [if_neg (by omega), if_pos h]
 ·rw [if_neg (by omega), if_neg (by omega), if_pos h]
 ·rw [if_neg (by omega), if_neg (by omega), if_neg (by omega), if_pos (.inl h)]
 ·have g : 48 ≤ bx l p ∧ bx l p ≤ 57 := by simpa [digitB] using h
  rw [if_neg (by omega), if_neg (by omega), if_neg (by omega), if_pos (.inr h)]
 ·rw [if_neg (by omega), if_neg (by omega), if_neg (by omega), if_neg (by rw [h]; decide), if_pos h]
theorem readL_none {l : List UInt8} {p : Nat} (hp : p < l.length) (hs : signB (bx l p) = false) (n1 : bx l p ≠ 110) (n2 : bx l p ≠ 116) (n3 : bx l p ≠ 102) (n4 : bx l p ≠ 45) (n5 : digitB (bx l p) = false) (n6 : bx l p ≠ 34) : readL l p = .error (p + 1) := by
 unfold readL
 rw [if_neg (by omega), if_neg (by rw [hs]; simp), if_neg n1, if_neg n2, if_neg n3, if_neg (by rw [n5]; simp [n4]), if_neg n6]
theorem readL_sign {l : List UInt8} {p : Nat} (hp : p < l.length) (hs : signB (bx l p) = true) : readL l p = .ok ⟨4, sub l p (p + 1), p, p + 1⟩ := by
 unfold readL
 rw [if_neg (by omega), if_pos hs]
end Go.Proofs.YtjakgdaodlgeaaaGreatDoor.Lx
