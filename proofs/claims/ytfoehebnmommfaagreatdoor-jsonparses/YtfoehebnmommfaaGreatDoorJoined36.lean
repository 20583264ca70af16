/-
  (*ref5.P).put where nothing is open. No condition.
  What a value and a key more do to what the document's reader holds open. No condition.
  (*ref5.P).put where something is open. Conditions: at most 2^20 values.
-/
import Derived.Test.YtfoehebnmommfaaGreatDoorJoined35
import Derived.Test.YtfoehebnmommfaaGreatDoorJoined30
import Derived.BigRegion
namespace Go.Proofs.YtfoehebnmommfaaGreatDoor.R5
open Go.RowKit Go.Maps

theorem JR.val [Ex] {W : World} {lm : Nat → Int} {rb N : Nat} {p : PR} {ov : Value} {hs : List HC} {f : Nat → Value} {w : World} (h : JR W lm rb N p ov hs f w) {x : JV} {g : Nat → Value} (hx : VI w (mX rb ov hs) x g) :
  JR W lm rb N { p with v := x } ov hs g (((((((w.setCell ⟨rb, 7, none⟩ (g 0)).setCell ⟨rb, 8, none⟩ (g 1)).setCell ⟨rb, 9, none⟩ (g 2)).setCell ⟨rb, 10, none⟩ (g 3)).setCell ⟨rb, 11, none⟩ (g 4)).setCell ⟨rb, 12, none⟩ (g 5)).setCell ⟨rb, 13, none⟩ (g 6)) := by
 obtain ⟨w', hw⟩ : ∃ w', w' = (((((((w.setCell ⟨rb, 7, none⟩ (g 0)).setCell ⟨rb, 8, none⟩ (g 1)).setCell ⟨rb, 9, none⟩ (g 2)).setCell ⟨rb, 10, none⟩ (g 3)).setCell ⟨rb, 11, none⟩ (g 4)).setCell ⟨rb, 12, none⟩ (g 5)).setCell ⟨rb, 13, none⟩ (g 6)) := ⟨_, rfl⟩
 have hb : But (· = rb) w w' := hw ▸ (((((((But.refl _ w).setr _).setr _).setr _).setr _).setr _).setr _).setr _
 have hr : Rd w' rb (RF lm ov p.nx g p.dp p.ps) := by
  have := ((((((h.rd.set 7 (g 0)).set 8 (g 1)).set 9 (g 2)).set 10 (g 3)).set 11 (g 4)).set 12 (g 5)).set 13 (g 6)
  rw [RF_v, ← hw] at this
  exact this.congr fun j hj => by simp only [if_pos hj]
 rw [← hw]
 exact ⟨hr, h.st.rb hb, h.eq, hx.carry fun b hx hl => ⟨hb.block b hl (fun e => hx (Or.inr (Or.inl e))), hx⟩, But.ahead h.bel hb (fun k hk => hk ▸ h.lo), h.lo, h.n1, h.n2, h.n3⟩
set_option maxRecDepth 100000 in
set_option maxHeartbeats 3200000 in
theorem put_none [Ex] {W : World} {lm : Nat → Int} {rb N : Nat} {p : PR} {ov : Value} {f : Nat → Value} {w : World} (h : JR W lm rb N p ov [] f w) {x : JV} {g : Nat → Value} (hx : VI w (mX rb ov []) x g)
  (k e : Int) (n : Bool) (d t : ByteArray) (a1 a2 : Option Addr) (m1 m2 c1 c2 : Nat) (g0 : g 0 = .int .i64 k) (g1 : g 1 = .bool n) (g2 : g 2 = .string d) (g3 : g 3 = .int .i64 e) (g4 : g 4 = .string t) (g5 : g 5 = .slice a1 m1 c1) (g6 : g 6 = .slice a2 m2 c2) :
  Calls Tryz.prog 62 #[.pointer (some ⟨rb, 0, none⟩), .agg #[.int .i64 k, .bool n, .string d, .int .i64 e, .string t, .slice a1 m1 c1, .slice a2 m2 c2]] w fun r w' => r = .returned (.tuple #[]) ∧ JR W lm rb N { p with v := x, nx := 6 } ov [] g w' ∧ Mv rb ov [] w ov [] w' := by
 obtain ⟨P, hP⟩ : ∃ P : Ending → World → Prop, P = fun r w' => r = .returned (.tuple #[]) ∧ JR W lm rb N { p with v := x, nx := 6 } ov [] g w' ∧ Mv rb ov [] w ov [] w' := ⟨_, rfl⟩
 rw [← hP]
 have HP := hid_intro hP
 clear hP
 obtain ⟨A, hA⟩ : ∃ A, w.alloc (.cells #[.int .i64 k, .bool n, .string d, .int .i64 e, .string t, .slice a1 m1 c1, .slice a2 m2 c2] 31) = A := ⟨_, rfl⟩
 have HB : Hid (Below w.heap.size w A) := hid_intro (hA ▸ vb_a (Below.refl _ _) _)
 have hJ := h.belw HB.out
 have hxA := hx.kept HB.out
 have hT : Bj A w.heap.size #[.int .i64 k, .bool n, .string d, .int .i64 e, .string t, .slice a1 m1 c1, .slice a2 m2 c2] := hA ▸ Bj.new _ _ _
 have b0 := hT.cell 0
 have b1 := hT.cell 1
 have b2 := hT.cell 2
 have b3 := hT.cell 3
 have b4 := hT.cell 4
 have b5 := hT.cell 5
 have b6 := hT.cell 6
 obtain ⟨ao, cap, rfl, _, _⟩ := own_shape h.st.row
 have q5 := hJ.rd.c 5 (by omega) (u := .slice ao 0 cap) rfl
 have q6 := (hJ.rd 6 (by omega)).1
 have q7 := (hJ.rd 7 (by omega)).1
 have q8 := (hJ.rd 8 (by omega)).1
 have q9 := (hJ.rd 9 (by omega)).1
 have q10 := (hJ.rd 10 (by omega)).1
 have q11 := (hJ.rd 11 (by omega)).1
 have q12 := (hJ.rd 12 (by omega)).1
 have q13 := (hJ.rd 13 (by omega)).1
 have z6 := (hJ.rd 6 (by omega)).2
 have z7 := (hJ.rd 7 (by omega)).2
 have z8 := (hJ.rd 8 (by omega)).2
 have z9 := (hJ.rd 9 (by omega)).2
 have z10 := (hJ.rd 10 (by omega)).2
 have z11 := (hJ.rd 11 (by omega)).2
 have z12 := (hJ.rd 12 (by omega)).2
 have z13 := (hJ.rd 13 (by omega)).2
 have HE := hid_intro (((hJ.val hxA).nx 6))
 have HM : Hid (Mv rb (.slice ao 0 cap) [] w (.slice ao 0 cap) [] ((((((((A.setCell ⟨rb, 7, none⟩ (g 0)).setCell ⟨rb, 8, none⟩ (g 1)).setCell ⟨rb, 9, none⟩ (g 2)).setCell ⟨rb, 10, none⟩ (g 3)).setCell ⟨rb, 11, none⟩ (g 4)).setCell ⟨rb, 12, none⟩ (g 5)).setCell ⟨rb, 13, none⟩ (g 6)).setCell ⟨rb, 6, none⟩ (.int .i64 6))) := hid_intro ((Mv.bel (Mv.refl _ _ _ _) HB.out).trans (Mv.rb ((((((((((But.refl _ A).setr _).setr _).setr _).setr _).setr _).setr _).setr _).setr _))))
 rw [g0, g1, g2, g3, g4, g5, g6] at HE HM
 clear hJ hxA hT h hx HB
 go_enter Tryz.func62, Tryz.ntmps62
 go_wp2_with fail
 refine bodyPost_ret (v := .tuple #[]) (by simp [results, Tryz.results62, go_sem]) rfl ?_
 rw [HP.out]
 exact ⟨rfl, HE.out, HM.out⟩
end Go.Proofs.YtfoehebnmommfaaGreatDoor.R5

namespace Go.Proofs.YtfoehebnmommfaaGreatDoor.R5
open Go.RowKit Go.Maps

theorem mem_own_l {h : HC} {b : Nat} (e : h.lv.ownBlock = some b) : b ∈ h.own := by unfold HC.own; simp [e]
theorem mem_own_k {h : HC} {b : Nat} (e : h.kv.ownBlock = some b) : b ∈ h.own := by unfold HC.own; simp [e]
theorem own_cases {h : HC} {b : Nat} (hb : b ∈ h.own) : h.lv.ownBlock = some b ∨ h.kv.ownBlock = some b := by
 unfold HC.own at hb
 simpa [List.mem_append] using hb
theorem own_mk (h : HC) (hn : ∀ b, h.lv.ownBlock = some b → h.kv.ownBlock ≠ some b) : h.own.Nodup := by
 unfold HC.own
 rw [List.nodup_append]
 refine ⟨by cases h.lv.ownBlock <;> simp, by cases h.kv.ownBlock <;> simp, fun x hx y hy e => ?_⟩
 subst e
 exact hn x (by simpa using hx) (by simpa using hy)
theorem own_parts {h : HC} (hnd : h.own.Nodup) : ∀ b, h.lv.ownBlock = some b → h.kv.ownBlock ≠ some b := fun b h1 h2 => by
 unfold HC.own at hnd
 rw [List.nodup_append] at hnd
 exact hnd.2.2 b (by simp [h1]) b (by simp [h2]) rfl
theorem ST.ownnd [Ex] {w : World} {rb : Nat} {ov : Value} {hs0 : List HC} {h : HC} (hst : ST w rb ov (hs0 ++ [h])) : h.own.Nodup := by
 have := hst.nd
 rw [muts_snoc] at this
 exact (nodup_parts this).2.1
theorem hcell_at [Ex] {w : World} {rb ob n cap : Nat} {hs0 : List HC} {h : HC} (hst : ST w rb (.slice (some ⟨ob, 0, none⟩) n cap) (hs0 ++ [h])) (j : Nat) (u : Value) (hu : h.cells[j]? = some u) : w.cell? ⟨ob, hs0.length * 7 + j, none⟩ = some u := by
 have hj : j < 7 := by
  have := (List.getElem?_eq_some_iff.1 hu).1
  simpa [HC.cells] using this
 have hx : (flatH (hs0 ++ [h]))[hs0.length * 7 + j]? = some u := by
  rw [flatH_app, List.getElem?_append_right (by rw [flatH_len]; omega), flatH_len, flatH_one', ← hu]
  congr 1; omega
 have hr := hst.row
 obtain ⟨_, _, e, _⟩ := own_shape hr
 injection e with _ e2 _
 rw [e2] at hr
 exact own_cell hr _ _ hx
theorem hfrz_at [Ex] {w : World} {rb ob n cap : Nat} {hs : List HC} (hst : ST w rb (.slice (some ⟨ob, 0, none⟩) n cap) hs) (j : Nat) : w.frozen? ⟨ob, j, none⟩ = false := by
 rcases hst.row.2 with ⟨e, _⟩ | ⟨g, cap', cur, e, _, hg, _⟩
 ·cases e
 ·injection e with e _ _
  injection e with e
  injection e with e _ _
  subst e
  simp [World.frozen?, hg]
def hvl (h : HC) (lv : Value) (x : JV) (f : Nat → Value) : HC := { h with vs := h.vs ++ [(x, f)], lv := lv }
def hkl (h : HC) (kv : Value) (k : ByteArray) : HC := { h with ks := h.ks ++ [k], kv := kv }
theorem out_key [Ex] {w w' : World} {rb ob n cap : Nat} {hs0 : List HC} {h h' : HC} {a : Option Nat} (hg : w.grownBy w' a) (ha : ∀ b, a = some b → b ∈ h.own) (hown : ∀ b ∈ h'.own, b ∈ h.own ∨ w.heap.size ≤ b) :
  ∀ X', X' = mX rb (.slice (some ⟨ob, 0, none⟩) n cap) (hs0 ++ [h']) → ∀ b, ¬ mX rb (.slice (some ⟨ob, 0, none⟩) n cap) (hs0 ++ [h]) b → b < w.heap.size → w'.heap[b]? = w.heap[b]? ∧ ¬ X' b := fun X' hX' b hb1 hl => by
 refine ⟨hg.block b hl (fun e2 => hb1 (Or.inr (Or.inr (by rw [muts_snoc]; exact List.mem_append_right _ (ha b e2.symm))))), ?_⟩
 rw [hX']; intro e; apply hb1
 rcases e with e | e | e
 ·exact Or.inl e
 ·exact Or.inr (Or.inl e)
 ·rw [muts_snoc, List.mem_append] at e
  rw [mX, wX, muts_snoc]
  rcases e with e | e
  ·exact Or.inr (Or.inr (List.mem_append_left _ e))
  ·rcases hown b e with e | e
   ·exact Or.inr (Or.inr (List.mem_append_right _ e))
   ·omega
theorem ST.addVal [Ex] {w w' : World} {rb ob n cap : Nat} {hs0 : List HC} {h : HC} {lv' : Value} {x : JV} {f : Nat → Value} (hst : ST w rb (.slice (some ⟨ob, 0, none⟩) n cap) (hs0 ++ [h])) (hv : VI w (mX rb (.slice (some ⟨ob, 0, none⟩) n cap) (hs0 ++ [h])) x f)
  (ho : w'.ownsRow (rb + 1) 31 7 lv' (h.vs.length + 1) (flat7 h.vs ++ seven f)) (hg : w.grownBy w' h.lv.ownBlock) (h4 : lv'.ownBlock = h.lv.ownBlock ∨ ∃ b, lv'.ownBlock = some b ∧ w.heap.size ≤ b) :
  ST (w'.setCell ⟨ob, hs0.length * 7 + 5, none⟩ lv') rb (.slice (some ⟨ob, 0, none⟩) n cap) (hs0 ++ [hvl h lv' x f]) ∧ Mr rb (.slice (some ⟨ob, 0, none⟩) n cap) (hs0 ++ [h]) w (.slice (some ⟨ob, 0, none⟩) n cap) (hs0 ++ [hvl h lv' x f]) (w'.setCell ⟨ob, hs0.length * 7 + 5, none⟩ lv') := by
 have p1 := own_parts hst.ownnd
 have hh := hst.ho h (by simp)
 have hlt := hh.lt
 have hb : But (fun b => b ∈ h.own) w w' := but_grown hg (fun b e => mem_own_l e)
 have hown : ∀ b ∈ (hvl h lv' x f).own, b ∈ h.own ∨ w.heap.size ≤ b := fun b hb1 => by
  rcases own_cases hb1 with e | e
  ·rcases h4 with h4 | ⟨b', h4, h5⟩
   ·exact Or.inl (mem_own_l (by rw [← h4]; exact e))
   ·have e : lv'.ownBlock = some b := e
    rw [h4] at e; injection e with e; exact Or.inr (by omega)
  ·exact Or.inl (mem_own_k e)
 have key := out_key (rb := rb) (ob := ob) (n := n) (cap := cap) (hs0 := hs0) (h := h) (h' := hvl h lv' x f) hg (fun b e => mem_own_l e) hown
 refine hst.upd 5 (by omega) lv' rfl hb (fun X' hX' => ⟨?_, fun p hp => ?_, own_keep hh.krow fun b hb1 => ?_, hh.ksz⟩) hown ?_ rfl
 ·show w'.ownsRow (rb + 1) 31 7 lv' (h.vs ++ [(x, f)]).length (flat7 (h.vs ++ [(x, f)]))
  rw [flat7_snoc, List.length_append]
  exact ho
 ·rcases List.mem_append.1 hp with hp | hp
  ·exact (hh.vis p hp).carry fun b hb1 hl => key X' hX' b hb1 hl
  ·obtain rfl : p = (x, f) := by simpa using hp
   exact hv.carry fun b hb1 hl => key X' hX' b hb1 hl
 ·have e : (hvl h lv' x f).kv.ownBlock = some b := by simpa using hb1
  have e : h.kv.ownBlock = some b := e
  exact hg.block b (own_lt hh.krow b hb1).2 (fun e2 => p1 b e2.symm e)
 ·refine own_mk _ (fun y hy => ?_)
  have hy : lv'.ownBlock = some y := hy
  show h.kv.ownBlock ≠ some y
  rcases h4 with h4 | ⟨b', h4, h5⟩
  ·exact p1 y (by rw [← h4]; exact hy)
  ·rw [h4] at hy; injection hy with hy
   exact fun e => by have := (hlt y (mem_own_k e)).2; omega
theorem ST.addKey [Ex] {w w' : World} {rb ob n cap : Nat} {hs0 : List HC} {h : HC} {kv' : Value} {k : ByteArray} (hst : ST w rb (.slice (some ⟨ob, 0, none⟩) n cap) (hs0 ++ [h])) (hk : k.size ≤ 1048576)
  (ho : w'.ownsRow (rb + 1) 9 1 kv' (h.ks.length + 1) (h.ks.map Value.string ++ [.string k])) (hg : w.grownBy w' h.kv.ownBlock) (h4 : kv'.ownBlock = h.kv.ownBlock ∨ ∃ b, kv'.ownBlock = some b ∧ w.heap.size ≤ b) :
  ST (w'.setCell ⟨ob, hs0.length * 7 + 6, none⟩ kv') rb (.slice (some ⟨ob, 0, none⟩) n cap) (hs0 ++ [hkl h kv' k]) ∧ Mr rb (.slice (some ⟨ob, 0, none⟩) n cap) (hs0 ++ [h]) w (.slice (some ⟨ob, 0, none⟩) n cap) (hs0 ++ [hkl h kv' k]) (w'.setCell ⟨ob, hs0.length * 7 + 6, none⟩ kv') := by
 have p1 := own_parts hst.ownnd
 have hh := hst.ho h (by simp)
 have hlt := hh.lt
 have hb : But (fun b => b ∈ h.own) w w' := but_grown hg (fun b e => mem_own_k e)
 have hown : ∀ b ∈ (hkl h kv' k).own, b ∈ h.own ∨ w.heap.size ≤ b := fun b hb1 => by
  rcases own_cases hb1 with e | e
  ·exact Or.inl (mem_own_l e)
  ·rcases h4 with h4 | ⟨b', h4, h5⟩
   ·exact Or.inl (mem_own_k (by rw [← h4]; exact e))
   ·have e : kv'.ownBlock = some b := e
    rw [h4] at e; injection e with e; exact Or.inr (by omega)
 have key := out_key (rb := rb) (ob := ob) (n := n) (cap := cap) (hs0 := hs0) (h := h) (h' := hkl h kv' k) hg (fun b e => mem_own_k e) hown
 refine hst.upd 6 (by omega) kv' rfl hb (fun X' hX' => ⟨own_keep hh.row fun b hb1 => ?_, fun p hp => (hh.vis p hp).carry fun b hb1 hl => key X' hX' b hb1 hl, ?_, fun s hs => ?_⟩) hown ?_ rfl
 ·have e : (hkl h kv' k).lv.ownBlock = some b := by simpa using hb1
  have e : h.lv.ownBlock = some b := e
  exact hg.block b (own_lt hh.row b hb1).2 (fun e2 => p1 b e e2.symm)
 ·show w'.ownsRow (rb + 1) 9 1 kv' (h.ks ++ [k]).length ((h.ks ++ [k]).map Value.string)
  rw [List.map_append, List.length_append]
  exact ho
 ·rcases List.mem_append.1 hs with hs | hs
  ·exact hh.ksz s hs
  ·obtain rfl : s = k := by simpa using hs
   exact hk
 ·refine own_mk _ (fun y hy => ?_)
  have hy : h.lv.ownBlock = some y := hy
  show kv'.ownBlock ≠ some y
  rcases h4 with h4 | ⟨b', h4, h5⟩
  ·rw [h4]; exact p1 y hy
  ·rw [h4]; intro e; injection e with e
   have := (hlt y (mem_own_l hy)).2; omega
theorem lastP_of [Ex] {W : World} {lm : Nat → Int} {rb N : Nat} {p : PR} {ov : Value} {hs0 : List HC} {h : HC} {f : Nat → Value} {w : World} (hJ : JR W lm rb N p ov (hs0 ++ [h]) f w) : lastP p = (h.k, h.vs.map (·.1), h.ks) := by
 unfold lastP; rw [hJ.eq]; simp
theorem JR.addVal [Ex] {W : World} {lm : Nat → Int} {rb N : Nat} {p : PR} {ov : Value} {hs0 : List HC} {h : HC} {lv : Value} {x : JV} {f g : Nat → Value} {w w' : World} (hJ : JR W lm rb N p ov (hs0 ++ [h]) g w) (hst : ST w' rb ov (hs0 ++ [hvl h lv x f])) (hm : Mr rb ov (hs0 ++ [h]) w ov (hs0 ++ [hvl h lv x f]) w') (hn : h.vs.length < N) :
  JR W lm rb N { p with hs := p.hs.dropLast ++ [((lastP p).1, (lastP p).2.1 ++ [x], (lastP p).2.2)] } ov (hs0 ++ [hvl h lv x f]) g w' := by
 refine ⟨hm.rd5 hJ.rd, hst, ?_, hm.mv.vi hJ.vi, hJ.bel.trans ((hm.mv.below hJ.st hJ.rd.lt).mono hJ.lo), hJ.lo, ?_, fun y hy => ?_, hJ.n3⟩
 ·show p.hs.dropLast ++ [((lastP p).1, (lastP p).2.1 ++ [x], (lastP p).2.2)] = _
  rw [lastP_of hJ, hJ.eq]
  simp [hvl]
 ·have := hJ.n1; simp at this ⊢; exact this
 ·rcases List.mem_append.1 hy with hy | hy
  ·exact hJ.n2 y (List.mem_append_left _ hy)
  ·obtain rfl : y = hvl h lv x f := by simpa using hy
   refine ⟨?_, (hJ.n2 h (by simp)).2⟩
   show (h.vs ++ [(x, f)]).length ≤ N
   simp; omega
theorem JR.addKey [Ex] {W : World} {lm : Nat → Int} {rb N : Nat} {p : PR} {ov : Value} {hs0 : List HC} {h : HC} {kv : Value} {k : ByteArray} {g : Nat → Value} {w w' : World} (hJ : JR W lm rb N p ov (hs0 ++ [h]) g w) (hst : ST w' rb ov (hs0 ++ [hkl h kv k])) (hm : Mr rb ov (hs0 ++ [h]) w ov (hs0 ++ [hkl h kv k]) w') (hn : h.ks.length < N) :
  JR W lm rb N { p with hs := p.hs.dropLast ++ [((lastP p).1, (lastP p).2.1, (lastP p).2.2 ++ [k])] } ov (hs0 ++ [hkl h kv k]) g w' := by
 refine ⟨hm.rd5 hJ.rd, hst, ?_, hm.mv.vi hJ.vi, hJ.bel.trans ((hm.mv.below hJ.st hJ.rd.lt).mono hJ.lo), hJ.lo, ?_, fun y hy => ?_, hJ.n3⟩
 ·show p.hs.dropLast ++ [((lastP p).1, (lastP p).2.1, (lastP p).2.2 ++ [k])] = _
  rw [lastP_of hJ, hJ.eq]
  simp [hkl]
 ·have := hJ.n1; simp at this ⊢; exact this
 ·rcases List.mem_append.1 hy with hy | hy
  ·exact hJ.n2 y (List.mem_append_left _ hy)
  ·obtain rfl : y = hkl h kv k := by simpa using hy
   refine ⟨(hJ.n2 h (by simp)).1, ?_⟩
   show (h.ks ++ [k]).length ≤ N
   simp; omega
theorem set_same {w : World} {b i : Nat} {v : Value} (hc : w.cell? ⟨b, i, none⟩ = some v) : w.setCell ⟨b, i, none⟩ v = w := by
 have key : (w.setCell ⟨b, i, none⟩ v).heap = w.heap := by
  unfold World.setCell
  apply Array.ext
  ·simp
  ·intro k h1 h2
   rw [Array.getElem_modify]
   split
   ·rename_i e
    have e : b = k := e
    subst e
    unfold World.cell? at hc
    rw [Array.getElem?_eq_getElem h2] at hc
    revert hc
    cases w.heap[b] with
    | cells c T f =>
     intro hc
     have hc : c[i]? = some v := by simpa using hc
     obtain ⟨hi, hv⟩ := Array.getElem?_eq_some_iff.1 hc
     simp only [Option.isSome_none, Bool.false_eq_true, if_false]
     congr 1
     apply Array.ext
     ·simp
     ·intro j j1 j2
      rw [Array.getElem_setIfInBounds]
      split
      ·rename_i e; subst e; exact hv.symm
      ·rfl
    | _ => intro hc; simp at hc
   ·rfl
 cases w
 simp only [World.setCell] at key ⊢
 rw [key]
theorem row_same5 {w : World} {b o : Nat} {a0 a1 a2 a3 a4 u a6 : Value} (c0 : w.cell? ⟨b, o, none⟩ = some a0) (c1 : w.cell? ⟨b, o + 1, none⟩ = some a1) (c2 : w.cell? ⟨b, o + 2, none⟩ = some a2) (c3 : w.cell? ⟨b, o + 3, none⟩ = some a3) (c4 : w.cell? ⟨b, o + 4, none⟩ = some a4) (c6 : w.cell? ⟨b, o + 6, none⟩ = some a6) :
  set7r w b o a0 a1 a2 a3 a4 u a6 = w.setCell ⟨b, o + 5, none⟩ u := by
 unfold set7r
 rw [set_same c0, set_same c1, set_same c2, set_same c3, set_same c4]
 exact set_same ((World.cell?_setCell_other _ _ _ _ (by intro h; injection h with _ h2 _; omega)).trans c6)
theorem row_same6 {w : World} {b o : Nat} {a0 a1 a2 a3 a4 a5 u : Value} (c0 : w.cell? ⟨b, o, none⟩ = some a0) (c1 : w.cell? ⟨b, o + 1, none⟩ = some a1) (c2 : w.cell? ⟨b, o + 2, none⟩ = some a2) (c3 : w.cell? ⟨b, o + 3, none⟩ = some a3) (c4 : w.cell? ⟨b, o + 4, none⟩ = some a4) (c5 : w.cell? ⟨b, o + 5, none⟩ = some a5) :
  set7r w b o a0 a1 a2 a3 a4 a5 u = w.setCell ⟨b, o + 6, none⟩ u := by
 unfold set7r
 rw [set_same c0, set_same c1, set_same c2, set_same c3, set_same c4, set_same c5]
theorem app_facts [Ex] {w C w9 : World} {rb ob n cap xb i m sz : Nat} {e : TypeId} {hs0 : List HC} {h : HC} {cs : Array Value} {lv : Value} {xs : List Value} {row : Option Nat} (hst : ST w rb (.slice (some ⟨ob, 0, none⟩) n cap) (hs0 ++ [h])) (hrb : rb < w.heap.size) (hb : Below w.heap.size w C) (hxb : w.heap.size ≤ xb) (hxc : xb < C.heap.size) (hrow : ∀ b, row = some b → b ∈ h.own)
  (ho : w9.ownsRow (rb + 1) e sz lv m xs) (hg : C.grownBy w9 row) (h4 : lv.ownBlock = row ∨ lv.ownBlock = some C.heap.size) (hcs : Bj C xb cs) (D : World) (hD : w9.setCell ⟨xb, i, none⟩ lv = D) :
  w.grownBy D row ∧ D.ownsRow (rb + 1) e sz lv m xs ∧ (lv.ownBlock = row ∨ ∃ b, lv.ownBlock = some b ∧ w.heap.size ≤ b) ∧ Bj D xb (cs.setIfInBounds i lv) ∧ (∀ j u, h.cells[j]? = some u → D.cell? ⟨ob, hs0.length * 7 + j, none⟩ = some u) ∧ (∀ j, D.frozen? ⟨ob, j, none⟩ = false) ∧ D.heap[rb]? = w.heap[rb]? ∧ Bj w9 xb cs := by
 have hlt := hst.lt
 have hrl : ∀ b, row = some b → b < w.heap.size := fun b hb1 => (hlt b (by rw [muts_snoc]; exact List.mem_append_right _ (hrow b hb1))).2
 have hrr : ∀ b, row = some b → rb < b := fun b hb1 => (hlt b (by rw [muts_snoc]; exact List.mem_append_right _ (hrow b hb1))).1
 have hob : ob ∈ muts (.slice (some ⟨ob, 0, none⟩) n cap) hs0 := mem_mutsO (by simp [Value.ownBlock])
 have hob' : ob ∈ muts (.slice (some ⟨ob, 0, none⟩) n cap) (hs0 ++ [h]) := by rw [muts_snoc]; exact List.mem_append_left _ hob
 have hnd := hst.nd
 rw [muts_snoc] at hnd
 have hobn : row ≠ some ob := fun e => (nodup_parts hnd).2.2 ob hob (hrow ob e)
 have hol := (hlt ob hob').2
 have hset : ∀ b, b ≠ xb → D.heap[b]? = w9.heap[b]? := fun b hne => by rw [← hD]; exact Below.heap_setCell w9 _ _ _ (fun e => hne e)
 have hsz : D.heap.size = w9.heap.size := by rw [← hD]; simp [World.setCell]
 have hgD : w.grownBy D row := by
  refine ⟨?_, ?_, ?_, ?_, fun k hk hne => ?_⟩
  ·rw [← hD]; exact hg.os.trans hb.os
  ·rw [← hD]; exact hg.tape.trans hb.tape
  ·rw [← hD]; exact hg.output.trans hb.output
  ·rw [hsz]; exact Nat.le_trans hb.size hg.size
  ·rw [hset k (by omega), hg.block k (Nat.lt_of_lt_of_le hk hb.size) hne]
   exact hb.block k hk
 have hoD : D.heap[ob]? = w.heap[ob]? := hgD.block ob hol (fun e => hobn e.symm)
 have h9 : Bj w9 xb cs := by
  obtain ⟨T, hT⟩ := hcs
  exact ⟨T, (hg.block xb hxc (fun e => by have := hrl xb e.symm; omega)).trans hT⟩
 refine ⟨hgD, own_keep ho fun b hb1 => hset b ?_, ?_, ?_, fun j u hu => ?_, fun j => ?_, hgD.block rb hrb (fun e => by have := hrr rb e.symm; omega), h9⟩
 ·have hb1 : lv.ownBlock = some b := by simpa using hb1
  rcases h4 with h4 | h4
  ·have := hrl b (by rw [← h4]; exact hb1); omega
  ·rw [h4] at hb1; injection hb1 with hb1; omega
 ·rcases h4 with h4 | h4
  ·exact Or.inl h4
  ·exact Or.inr ⟨_, h4, hb.size⟩
 ·rw [← hD]
  exact h9.set i lv
 ·exact (World.cell?_of_block (w := w) (w' := D) hoD).trans (hcell_at hst j u hu)
 ·have := hfrz_at hst j
  unfold World.frozen? at this ⊢
  rw [hoD]; exact this
end Go.Proofs.YtfoehebnmommfaaGreatDoor.R5

namespace Go.Proofs.YtfoehebnmommfaaGreatDoor.R5
open Go.RowKit Go.Maps
attribute [local go_sem] setCell_drewN alloc_drewN

theorem done_drew [Ex] {W : World} {lm : Nat → Int} {rb N : Nat} {p : PR} {ov ov0 : Value} {hs hs1 : List HC} {f : Nat → Value} {w w0 : World} (h : JR W lm rb N p ov hs f w ∧ Mv rb ov0 hs1 w0 ov hs w) : JR W lm rb N p ov hs f w.drew ∧ Mv rb ov0 hs1 w0 ov hs w.drew := ⟨h.1.belw (vb_d (Below.refl _ _)), h.2.bel (vb_d (Below.refl _ _))⟩
theorem put_done [Ex] {W : World} {lm : Nat → Int} {rb N : Nat} {p : PR} {ob n cap : Nat} {hs0 : List HC} {h : HC} {f : Nat → Value} {w D : World} (hJ : JR W lm rb N p (.slice (some ⟨ob, 0, none⟩) n cap) (hs0 ++ [h]) f w) {x : JV} {g : Nat → Value} (hx : VI w (mX rb (.slice (some ⟨ob, 0, none⟩) n cap) (hs0 ++ [h])) x g) {lv : Value}
  (hg : w.grownBy D h.lv.ownBlock) (ho : D.ownsRow (rb + 1) 31 7 lv (h.vs.length + 1) (flat7 h.vs ++ seven g)) (h4 : lv.ownBlock = h.lv.ownBlock ∨ ∃ b, lv.ownBlock = some b ∧ w.heap.size ≤ b) (hc : ∀ j u, h.cells[j]? = some u → D.cell? ⟨ob, hs0.length * 7 + j, none⟩ = some u) :
  JR W lm rb (N + 1) (putR x p) (.slice (some ⟨ob, 0, none⟩) n cap) (hs0 ++ [hvl h lv x g]) f ((set7r D ob (hs0.length * 7) (.int .i64 h.k) (.bool false) (.string ⟨#[]⟩) (.int .i64 0) (.string ⟨#[]⟩) lv h.kv).setCell ⟨rb, 6, none⟩ (.int .i64 5)) ∧
  Mv rb (.slice (some ⟨ob, 0, none⟩) n cap) (hs0 ++ [h]) w (.slice (some ⟨ob, 0, none⟩) n cap) (hs0 ++ [hvl h lv x g]) ((set7r D ob (hs0.length * 7) (.int .i64 h.k) (.bool false) (.string ⟨#[]⟩) (.int .i64 0) (.string ⟨#[]⟩) lv h.kv).setCell ⟨rb, 6, none⟩ (.int .i64 5)) := by
 have hc0 : D.cell? ⟨ob, hs0.length * 7, none⟩ = some (.int .i64 h.k) := hc 0 _ rfl
 rw [row_same5 hc0 (hc 1 _ rfl) (hc 2 _ rfl) (hc 3 _ rfl) (hc 4 _ rfl) (hc 6 _ rfl)]
 obtain ⟨s1, s2⟩ := hJ.st.addVal hx ho hg h4
 have hn := (hJ.n2 h (by simp)).1
 have j1 := ((hJ.more (Nat.le_succ N)).addVal s1 s2 (by omega)).nx 5
 have e : putR x p = { p with hs := p.hs.dropLast ++ [((lastP p).1, (lastP p).2.1 ++ [x], (lastP p).2.2)], nx := 5 } := by
  unfold putR
  rw [if_neg (fun e => by rw [hJ.eq] at e; simp at e)]
 rw [e]
 exact ⟨j1, s2.mv.trans (Mv.rb ((But.refl _ _).setr _))⟩
set_option maxRecDepth 100000 in
set_option maxHeartbeats 3200000 in
theorem put_some [Ex] {W : World} {lm : Nat → Int} {rb N : Nat} {p : PR} {ob n cap : Nat} {hs0 : List HC} {h : HC} {f : Nat → Value} {w : World} (hJ : JR W lm rb N p (.slice (some ⟨ob, 0, none⟩) n cap) (hs0 ++ [h]) f w) (hN : N ≤ 1048576) {x : JV} {g : Nat → Value} (hx : VI w (mX rb (.slice (some ⟨ob, 0, none⟩) n cap) (hs0 ++ [h])) x g)
  (k e : Int) (ng : Bool) (d t : ByteArray) (a1 a2 : Option Addr) (m1 m2 c1 c2 : Nat) (hg7 : seven g = [.int .i64 k, .bool ng, .string d, .int .i64 e, .string t, .slice a1 m1 c1, .slice a2 m2 c2]) :
  Calls Tryz.prog 62 #[.pointer (some ⟨rb, 0, none⟩), .agg #[.int .i64 k, .bool ng, .string d, .int .i64 e, .string t, .slice a1 m1 c1, .slice a2 m2 c2]] w fun r w' => r = .returned (.tuple #[]) ∧ ∃ lv, JR W lm rb (N + 1) (putR x p) (.slice (some ⟨ob, 0, none⟩) n cap) (hs0 ++ [hvl h lv x g]) f w' ∧ Mv rb (.slice (some ⟨ob, 0, none⟩) n cap) (hs0 ++ [h]) w (.slice (some ⟨ob, 0, none⟩) n cap) (hs0 ++ [hvl h lv x g]) w' := by
 obtain ⟨P, hP⟩ : ∃ P : Ending → World → Prop, P = fun r w' => r = .returned (.tuple #[]) ∧ ∃ lv, JR W lm rb (N + 1) (putR x p) (.slice (some ⟨ob, 0, none⟩) n cap) (hs0 ++ [hvl h lv x g]) f w' ∧ Mv rb (.slice (some ⟨ob, 0, none⟩) n cap) (hs0 ++ [h]) w (.slice (some ⟨ob, 0, none⟩) n cap) (hs0 ++ [hvl h lv x g]) w' := ⟨_, rfl⟩
 rw [← hP]
 have HP := hid_intro hP
 have HJ := hid_intro hJ
 have HX := hid_intro hx
 have HG7 := hid_intro hg7
 obtain ⟨ao', cap', e', hc1, hc2⟩ := own_shape hJ.st.row
 injection e' with e1 e2 e3
 subst e1 e3
 rw [List.length_append, List.length_singleton] at e2 hc1
 subst e2
 have hh := hJ.st.ho h (by simp)
 obtain ⟨la, lc, el, _, _⟩ := own_shape hh.row
 obtain ⟨ka, kc, ek, _, _⟩ := own_shape hh.krow
 have HEL := hid_intro el
 have HEK := hid_intro ek
 have HN : Hid (hs0.length ≤ 1048576 ∧ h.vs.length ≤ 1048576) := hid_intro ⟨by have h1 := hJ.n1; rw [List.length_append] at h1; simp at h1; omega, Nat.le_trans (hJ.n2 h (by simp)).1 hN⟩
 obtain ⟨i0, hi, hz0, hz1, hz2⟩ := info_parts infoV
 obtain ⟨A, hA⟩ : ∃ A, w.alloc (.cells #[.int .i64 k, .bool ng, .string d, .int .i64 e, .string t, .slice a1 m1 c1, .slice a2 m2 c2] 31) = A := ⟨_, rfl⟩
 obtain ⟨B, hB⟩ : ∃ B, A.alloc (.cells #[.int .i64 h.k, .bool false, .string ⟨#[]⟩, .int .i64 0, .string ⟨#[]⟩, .slice la h.vs.length lc, .slice ka h.ks.length kc] 31) = B := ⟨_, rfl⟩
 obtain ⟨C, hC⟩ : ∃ C, B.alloc (.cells #[.int .i64 k, .bool ng, .string d, .int .i64 e, .string t, .slice a1 m1 c1, .slice a2 m2 c2] 31) = C := ⟨_, rfl⟩
 have hBA : Below w.heap.size w A := hA ▸ vb_a (Below.refl _ _) _
 have hsA : w.heap.size + 1 = A.heap.size := by rw [← hA]; simp
 have hsB : A.heap.size + 1 = B.heap.size := by rw [← hB]; simp
 have hsC : B.heap.size + 1 = C.heap.size := by rw [← hC]; simp
 have hBB : Below w.heap.size w B := vb_t hBA (hB ▸ vb_a (Below.refl _ _) _)
 have hBC : Below w.heap.size w C := vb_t hBB (hC ▸ vb_a (Below.refl _ _) _)
 have kV : Bj A w.heap.size #[.int .i64 k, .bool ng, .string d, .int .i64 e, .string t, .slice a1 m1 c1, .slice a2 m2 c2] := hA ▸ Bj.new _ _ _
 have kVB : Bj B w.heap.size #[.int .i64 k, .bool ng, .string d, .int .i64 e, .string t, .slice a1 m1 c1, .slice a2 m2 c2] := kV.bel (hB ▸ vb_a (Below.refl _ _) _)
 have kX : Bj B A.heap.size #[.int .i64 h.k, .bool false, .string ⟨#[]⟩, .int .i64 0, .string ⟨#[]⟩, .slice la h.vs.length lc, .slice ka h.ks.length kc] := hB ▸ Bj.new _ _ _
 have HXC : Hid (Bj C A.heap.size #[.int .i64 h.k, .bool false, .string ⟨#[]⟩, .int .i64 0, .string ⟨#[]⟩, .slice la h.vs.length lc, .slice ka h.ks.length kc]) := hid_intro (kX.bel (hC ▸ vb_a (Below.refl _ _) _))
 have hJA := hJ.belw hBA
 have q5 := hJA.rd.c 5 (by omega) (u := .slice (some ⟨ob, 0, none⟩) (hs0.length + 1) cap) rfl
 have o0 : A.cell? ⟨ob, hs0.length * 7, none⟩ = some (.int .i64 h.k) := hcell_at hJA.st 0 _ rfl
 have o1 : A.cell? ⟨ob, hs0.length * 7 + 1, none⟩ = some (.bool false) := hcell_at hJA.st 1 _ rfl
 have o2 : A.cell? ⟨ob, hs0.length * 7 + 2, none⟩ = some (.string ⟨#[]⟩) := hcell_at hJA.st 2 _ rfl
 have o3 : A.cell? ⟨ob, hs0.length * 7 + 3, none⟩ = some (.int .i64 0) := hcell_at hJA.st 3 _ rfl
 have o4 : A.cell? ⟨ob, hs0.length * 7 + 4, none⟩ = some (.string ⟨#[]⟩) := hcell_at hJA.st 4 _ rfl
 have o5 : A.cell? ⟨ob, hs0.length * 7 + 5, none⟩ = some (.slice la h.vs.length lc) := hcell_at hJA.st 5 _ (by rw [← el]; rfl)
 have o6 : A.cell? ⟨ob, hs0.length * 7 + 6, none⟩ = some (.slice ka h.ks.length kc) := hcell_at hJA.st 6 _ (by rw [← ek]; rfl)
 obtain ⟨x0, x1, x2, x3, x4, x5, x6⟩ := kX.c7
 obtain ⟨v0, v1, v2, v3, v4, v5, v6⟩ := kVB.c7
 have HOW : Hid (C.ownsRow (rb + 1) 31 7 (.slice la h.vs.length lc) h.vs.length (flat7 h.vs)) := hid_intro (by rw [← el]; exact ((hJ.st.bel hBC).ho h (by simp)).row)
 have HK1 : Hid (∀ j u, [Value.int .i64 k, .bool ng, .string d, .int .i64 e, .string t, .slice a1 m1 c1, .slice a2 m2 c2][j]? = some u → C.cell? ((⟨B.heap.size, 0, none⟩ : Addr).add j) = some u) := hid_intro (fun j u hj => by
  have hT : Bj C B.heap.size #[.int .i64 k, .bool ng, .string d, .int .i64 e, .string t, .slice a1 m1 c1, .slice a2 m2 c2] := hC ▸ Bj.new _ _ _
  rw [addZ, hT.cell j]
  simpa using hj)
 have HO1 : Hid (∀ u ∈ [Value.int .i64 k, .bool ng, .string d, .int .i64 e, .string t, .slice a1 m1 c1, .slice a2 m2 c2], u.oneCell' = true) := hid_intro (fun u hu => by
  simp only [List.mem_cons, List.not_mem_nil, or_false] at hu
  rcases hu with rfl | rfl | rfl | rfl | rfl | rfl | rfl <;> rfl)
 have HSZ : Hid (rb + 1 ≤ C.heap.size) := hid_intro (Nat.le_trans hJ.rd.lt hBC.size)
 have hnI : (hs0.length : Int) ≤ 1048576 := by have := HN.out; omega
 have hw : wrap64 ((hs0.length : Int) + 1 - 1) = (hs0.length : Int) := by unfold wrap64; omega
 have hwd : ((hs0.length : Int) + 1 - 1) = (hs0.length : Int) := by omega
 have hn0 : ¬ ((hs0.length : Int) + 1 = 0) := by omega
 have HRB : Hid (rb < w.heap.size) := hid_intro hJ.rd.lt
 have HSS : Hid (w.heap.size ≤ A.heap.size ∧ A.heap.size < C.heap.size) := hid_intro ⟨by omega, by omega⟩
 have HBC := hid_intro hBC
 clear hP hJ hx hg7 hh el ek hJA hBA hsA hsB hsC hBB hBC kV kVB kX hN
 go_enter Tryz.func62, Tryz.ntmps62
 go_wp2_with (at_builtin; refine wpList_append_own_at _ rfl _ _ 28 rfl (rb + 1) 31 i0 _ 7 104 Tryz.underlying28 hi hz0 hz1 hz2 rfl (by decide) _ h.vs.length (flat7 h.vs) rfl HOW.out ⟨B.heap.size, 0, none⟩ 1 1 [.int .i64 k, .bool ng, .string d, .int .i64 e, .string t, .slice a1 m1 c1, .slice a2 m2 c2] rfl rfl HK1.out HO1.out (by have := HN.out; unfold maxLen; omega) (by have := HN.out; omega) HSZ.out ?_)
 intro lv' w9 ho9 hg9 _ h49
 rw [← HEL.out] at hg9 h49
 obtain ⟨oa, oc, eo, _, _⟩ := own_shape ho9
 subst eo
 obtain ⟨D, hD⟩ : ∃ D, w9.setCell ⟨A.heap.size, 5, none⟩ (.slice oa (h.vs.length + 1) oc) = D := ⟨_, rfl⟩
 obtain ⟨f1, f2, f3, f4, f5, f6, f7, f8⟩ := app_facts HJ.out.st HRB.out HBC.out HSS.out.1 HSS.out.2 (fun b hb => mem_own_l hb) ho9 hg9 h49 HXC.out D hD
 rw [← HG7.out] at f2
 have HFIN := hid_intro (done_drew (put_done HJ.out HX.out f1 f2 f3 f5))
 rw [HEK.out] at HFIN
 have hRD : Rd D rb (RF lm (.slice (some ⟨ob, 0, none⟩) (hs0.length + 1) cap) p.nx f p.dp p.ps) := HJ.out.rd.keep f7
 have r5 := hRD.c 5 (by omega) (u := .slice (some ⟨ob, 0, none⟩) (hs0.length + 1) cap) rfl
 have r6 := hRD.c 6 (by omega) (u := .int .i64 (p.nx : Int)) rfl
 have rz6 := (hRD 6 (by omega)).2
 have u0 : D.cell? ⟨ob, hs0.length * 7, none⟩ = some (.int .i64 h.k) := f5 0 _ rfl
 have u1 : D.cell? ⟨ob, hs0.length * 7 + 1, none⟩ = some (.bool false) := f5 1 _ rfl
 have u2 : D.cell? ⟨ob, hs0.length * 7 + 2, none⟩ = some (.string ⟨#[]⟩) := f5 2 _ rfl
 have u3 : D.cell? ⟨ob, hs0.length * 7 + 3, none⟩ = some (.int .i64 0) := f5 3 _ rfl
 have u4 : D.cell? ⟨ob, hs0.length * 7 + 4, none⟩ = some (.string ⟨#[]⟩) := f5 4 _ rfl
 have u5 : D.cell? ⟨ob, hs0.length * 7 + 5, none⟩ = some (.slice la h.vs.length lc) := f5 5 _ (by rw [← HEL.out]; rfl)
 have u6 : D.cell? ⟨ob, hs0.length * 7 + 6, none⟩ = some (.slice ka h.ks.length kc) := f5 6 _ (by rw [← HEK.out]; rfl)
 have fz0 := f6 (hs0.length * 7)
 have fz1 := f6 (hs0.length * 7 + 1)
 have fz2 := f6 (hs0.length * 7 + 2)
 have fz3 := f6 (hs0.length * 7 + 3)
 have fz4 := f6 (hs0.length * 7 + 4)
 have fz5 := f6 (hs0.length * 7 + 5)
 have fz6 := f6 (hs0.length * 7 + 6)
 obtain ⟨d0, d1, d2, d3, d4, d5, d6⟩ := (show Bj D A.heap.size #[.int .i64 h.k, .bool false, .string ⟨#[]⟩, .int .i64 0, .string ⟨#[]⟩, .slice oa (h.vs.length + 1) oc, .slice ka h.ks.length kc] from f4).c7
 have hro : rb ≠ ob := fun e => by have := (HJ.out.st.lt ob (mem_mutsO (by simp [Value.ownBlock]))).1; omega
 have w5 : w9.cell? ⟨A.heap.size, 5, none⟩ = some (.slice la h.vs.length lc) := f8.cell 5
 have wz5 := f8.frz 5
 clear ho9 hg9 h49 f1 f2 f3 f4 f5 f6 f7 f8 hRD x0 x1 x2 x3 x4 x5 x6 v0 v1 v2 v3 v4 v5 v6 o0 o1 o2 o3 o4 o5 o6 q5
 go_wp2_with fail
 go_region
 all_goals
  go_wp2_with fail
  refine bodyPost_ret (v := .tuple #[]) (by simp [results, Tryz.results62, go_sem]) rfl ?_
  rw [HP.out]
  exact ⟨rfl, _, HFIN.out⟩
end Go.Proofs.YtfoehebnmommfaaGreatDoor.R5
