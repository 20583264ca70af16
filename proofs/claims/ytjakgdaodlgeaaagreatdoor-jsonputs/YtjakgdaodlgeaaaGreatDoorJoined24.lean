/-
  What json's reader opens, keeps and closes. Conditions: at most 2^20 bytes.
-/
import Derived.Test.YtjakgdaodlgeaaaGreatDoorJoined23
namespace Go.Proofs.YtjakgdaodlgeaaaGreatDoor
open Go.RowKit Go.Maps

def Bj (w : World) (b : Nat) (cs : Array Value) : Prop := ∃ T, w.heap[b]? = some (.cells cs T (0, 0))
theorem Bj.lt {w : World} {b : Nat} {cs : Array Value} (h : Bj w b cs) : b < w.heap.size := by
 obtain ⟨T, h⟩ := h
 exact (Array.getElem?_eq_some_iff.1 h).1
theorem Bj.cell {w : World} {b : Nat} {cs : Array Value} (h : Bj w b cs) (i : Nat) : w.cell? ⟨b, i, none⟩ = cs[i]? := by
 obtain ⟨T, h⟩ := h
 simp [World.cell?, h]
theorem Bj.frz {w : World} {b : Nat} {cs : Array Value} (h : Bj w b cs) (i : Nat) : w.frozen? ⟨b, i, none⟩ = false := by
 obtain ⟨T, h⟩ := h
 simp [World.frozen?, h]
theorem Bj.bel {w w' : World} {b : Nat} {cs : Array Value} (h : Bj w b cs) (hb : Below w.heap.size w w') : Bj w' b cs := by
 have := h.lt
 obtain ⟨T, h⟩ := h
 exact ⟨T, by rw [hb.block b this]; exact h⟩
theorem Bj.but {w w' : World} {b : Nat} {cs : Array Value} {X : Nat → Prop} (h : Bj w b cs) (hb : But X w w') (hx : ¬ X b) : Bj w' b cs := by
 have := h.lt
 obtain ⟨T, h⟩ := h
 exact ⟨T, by rw [hb.block b this hx]; exact h⟩
theorem Bj.new (w : World) (cs : Array Value) (T : TypeId) : Bj (w.alloc (.cells cs T)) w.heap.size cs := ⟨T, by show (w.heap.push _)[w.heap.size]? = _; simp⟩
theorem Bj.new' (w : World) (cs : Array Value) (T : TypeId) (b : Nat) (hb : w.heap.size = b) : Bj (w.alloc (.cells cs T)) b cs := hb ▸ Bj.new w cs T
theorem Bj.al {w : World} {b : Nat} {cs : Array Value} (h : Bj w b cs) (o : Obj) : Bj (w.alloc o) b cs := h.bel (vb_a (Below.refl _ _) _)
theorem Bj.away {w : World} {b : Nat} {cs : Array Value} (h : Bj w b cs) {a : Addr} {v : Value} (hne : b ≠ a.block) : Bj (w.setCell a v) b cs := by
 obtain ⟨T, h⟩ := h
 exact ⟨T, by rw [Below.heap_setCell w a v b hne]; exact h⟩
theorem Bj.set {w : World} {b : Nat} {cs : Array Value} (h : Bj w b cs) (i : Nat) (v : Value) : Bj (w.setCell ⟨b, i, none⟩ v) b (cs.setIfInBounds i v) := by
 obtain ⟨T, h⟩ := h
 exact ⟨T, heap_set h i v⟩
theorem Bj.c7 {w : World} {b : Nat} {x0 x1 x2 x3 x4 x5 x6 : Value} (h : Bj w b #[x0, x1, x2, x3, x4, x5, x6]) :
  w.cell? ⟨b, 0, none⟩ = some x0 ∧ w.cell? ⟨b, 1, none⟩ = some x1 ∧ w.cell? ⟨b, 2, none⟩ = some x2 ∧ w.cell? ⟨b, 3, none⟩ = some x3 ∧ w.cell? ⟨b, 4, none⟩ = some x4 ∧ w.cell? ⟨b, 5, none⟩ = some x5 ∧ w.cell? ⟨b, 6, none⟩ = some x6 :=
 ⟨h.cell 0, h.cell 1, h.cell 2, h.cell 3, h.cell 4, h.cell 5, h.cell 6⟩
theorem Bj.z7 {w : World} {b : Nat} {cs : Array Value} (h : Bj w b cs) : w.frozen? ⟨b, 0, none⟩ = false ∧ w.frozen? ⟨b, 1, none⟩ = false ∧ w.frozen? ⟨b, 2, none⟩ = false ∧ w.frozen? ⟨b, 3, none⟩ = false ∧ w.frozen? ⟨b, 4, none⟩ = false ∧ w.frozen? ⟨b, 5, none⟩ = false ∧ w.frozen? ⟨b, 6, none⟩ = false :=
 ⟨h.frz 0, h.frz 1, h.frz 2, h.frz 3, h.frz 4, h.frz 5, h.frz 6⟩
theorem Bj.c4 {w : World} {b : Nat} {x0 x1 x2 x3 : Value} (h : Bj w b #[x0, x1, x2, x3]) : w.cell? ⟨b, 0, none⟩ = some x0 ∧ w.cell? ⟨b, 1, none⟩ = some x1 ∧ w.cell? ⟨b, 2, none⟩ = some x2 ∧ w.cell? ⟨b, 3, none⟩ = some x3 :=
 ⟨h.cell 0, h.cell 1, h.cell 2, h.cell 3⟩
theorem Bj.z4 {w : World} {b : Nat} {cs : Array Value} (h : Bj w b cs) : w.frozen? ⟨b, 0, none⟩ = false ∧ w.frozen? ⟨b, 1, none⟩ = false ∧ w.frozen? ⟨b, 2, none⟩ = false ∧ w.frozen? ⟨b, 3, none⟩ = false :=
 ⟨h.frz 0, h.frz 1, h.frz 2, h.frz 3⟩
def zV7 : Array Value := #[.int .i64 0, .bool false, .string ⟨#[]⟩, .int .i64 0, .string ⟨#[]⟩, .slice none 0 0, .slice none 0 0]
def set7 (w : World) (b : Nat) (a0 a1 a2 a3 a4 a5 a6 : Value) : World := ((((((w.setCell ⟨b, 0, none⟩ a0).setCell ⟨b, 1, none⟩ a1).setCell ⟨b, 2, none⟩ a2).setCell ⟨b, 3, none⟩ a3).setCell ⟨b, 4, none⟩ a4).setCell ⟨b, 5, none⟩ a5).setCell ⟨b, 6, none⟩ a6
theorem set7_but {X : Nat → Prop} {a w : World} (h : But X a w) {b : Nat} (hb : X b ∨ a.heap.size ≤ b) (a0 a1 a2 a3 a4 a5 a6 : Value) : But X a (set7 w b a0 a1 a2 a3 a4 a5 a6) :=
 (((((((h.set (p := ⟨b, 0, none⟩) hb a0).set (p := ⟨b, 1, none⟩) hb a1).set (p := ⟨b, 2, none⟩) hb a2).set (p := ⟨b, 3, none⟩) hb a3).set (p := ⟨b, 4, none⟩) hb a4).set (p := ⟨b, 5, none⟩) hb a5).set (p := ⟨b, 6, none⟩) hb a6)
theorem set7_rd {w : World} {rb : Nat} {F : Nat → Value} (h : Rd w rb F) {b : Nat} (hb : b ≠ rb) (a0 a1 a2 a3 a4 a5 a6 : Value) : Rd (set7 w b a0 a1 a2 a3 a4 a5 a6) rb F :=
 (((((((h.oth hb a0).oth hb a1).oth hb a2).oth hb a3).oth hb a4).oth hb a5).oth hb a6)
theorem Rd.c {w : World} {rb : Nat} {F : Nat → Value} (h : Rd w rb F) (j : Nat) (hj : j < 10) {u : Value} (e : F j = u) : w.cell? ⟨rb, j, none⟩ = some u := by rw [(h j hj).1, e]
set_option maxRecDepth 100000 in
set_option maxHeartbeats 800000 in
theorem innermost_any (rb ob m cap : Nat) (F : Nat → Value) (w : World) (hR : Rd w rb F) (h7 : F 7 = .slice (some ⟨ob, 0, none⟩) (m + 1) cap) (hm : m ≤ 1048576) :
  Calls Tryz.prog 52 #[.pointer (some ⟨rb, 0, none⟩)] w fun r w' => r = .returned (.pointer (some ⟨ob, m * 4, none⟩)) ∧ Below w.heap.size w w' := by
 have q7 := hR.c 7 (by omega) h7
 have hmI : (m : Int) ≤ 1048576 := by omega
 have hw : wrap64 ((m : Int) + 1 - 1) = (m : Int) := by unfold wrap64; omega
 have hd : ((m : Int) + 1 - 1) = (m : Int) := by omega
 clear hR h7
 go_enter Tryz.func52, Tryz.ntmps52
 go_wp2_with fail
 go_region
 all_goals
  go_wp2_with fail
  go_ret
  exact ⟨by simp, vb_d (Below.refl _ _)⟩
set_option maxRecDepth 100000 in
set_option maxHeartbeats 800000 in
theorem closing_any (ob o : Nat) (k : Int) (w : World) (hc : w.cell? ⟨ob, o, none⟩ = some (.int .i64 k)) :
  Calls Tryz.prog 54 #[.pointer (some ⟨ob, o, none⟩)] w fun r w' => r = .returned (.string (if k = 6 then sgF else sgE)) ∧ w = w' := by
 by_cases hk : k = 6
 ·subst hk
  go_enter Tryz.func54, Tryz.ntmps54
  go_wp2_with fail
  go_ret
  exact ⟨rfl, rfl⟩
 ·rw [if_neg hk]
  have h6 : (k == 6) = false := by simpa using hk
  clear hk
  go_enter Tryz.func54, Tryz.ntmps54
  go_wp2_with fail
  go_ret
  exact ⟨rfl, rfl⟩
theorem infoHd : (Tryz.prog.info? 100).map (fun i => (i.zero, i.size, i.bytes)) = some (some (.agg #[.int .i64 0, .slice none 0 0, .slice none 0 0, .map none]), 4, 64) := by kernel_rfl
set_option maxRecDepth 100000 in
set_option maxHeartbeats 1600000 in
theorem open_any [Ex] (k : Int) (hk : k = 5 ∨ k = 6) (W : World) (l : List UInt8) (v : Value) (lm : Nat → Int) (rb : Nat) (s : SS) (ov : Value) (hs : List HC) (w : World) (hJ : JR W l v lm rb s ov hs w) (hl : l.length ≤ 1048576) (hlt : hs.length < s.i) :
  Calls Tryz.prog 78 #[.pointer (some ⟨rb, 0, none⟩), .int .i64 k] w fun r w' => r = .returned (.tuple #[]) ∧ ∃ ov', JR W l v lm rb (openS k s) ov' (hs ++ [h0 k]) w' ∧ Mv rb ov hs w ov' (hs ++ [h0 k]) w' := by
 obtain ⟨P, hP⟩ : ∃ P : Ending → World → Prop, P = fun r w' => r = .returned (.tuple #[]) ∧ ∃ ov', JR W l v lm rb (openS k s) ov' (hs ++ [h0 k]) w' ∧ Mv rb ov hs w ov' (hs ++ [h0 k]) w' := ⟨_, rfl⟩
 rw [← hP]
 have HP := hid_intro hP
 have HJ := hid_intro hJ
 have q7 := hJ.rd.c 7 (by omega) (u := ov) rfl
 obtain ⟨ao, cap, e, _, _⟩ := own_shape hJ.st.row
 subst e
 have HB : Hid (rb < w.heap.size) := hid_intro hJ.rd.lt
 obtain ⟨i0, hi, hz0, hz1, hz2⟩ := info_parts infoHd
 have HN : Hid (hs.length + 1 ≤ 1048577) := hid_intro (by have := hJ.n1; have := hJ.le; omega)
 obtain ⟨W1, hW1⟩ : ∃ W1, w.alloc (.cells #[.int .i64 k, .slice none 0 0, .slice none 0 0, .map none] 100) = W1 := ⟨_, rfl⟩
 have HB1 : Hid (Below w.heap.size w W1) := hid_intro (hW1 ▸ vb_a (Below.refl _ _) _)
 have HS1 : Hid (ST W1 rb (.slice ao hs.length cap) hs) := hid_intro (hJ.st.bel HB1.out)
 have HK1 : Hid (∀ j u, [Value.int .i64 k, .slice none 0 0, .slice none 0 0, .map none][j]? = some u → W1.cell? ((⟨w.heap.size, 0, none⟩ : Addr).add j) = some u) := hid_intro (fun j u hj => by
  rw [addZ, ← hW1]
  obtain ⟨c0, c1, c2, c3⟩ := keep4 (Below.refl (w.alloc (.cells #[.int .i64 k, .slice none 0 0, .slice none 0 0, .map none] 100)).heap.size (w.alloc (.cells #[.int .i64 k, .slice none 0 0, .slice none 0 0, .map none] 100)))
  match j, hj with
  | 0, hj => rw [c0]; exact hj
  | 1, hj => rw [c1]; exact hj
  | 2, hj => rw [c2]; exact hj
  | 3, hj => rw [c3]; exact hj)
 have HSZ : Hid (rb + 1 ≤ W1.heap.size) := hid_intro (Nat.le_trans hJ.rd.lt HB1.out.size)
 have HO1 : Hid (∀ u ∈ [Value.int .i64 k, .slice none 0 0, .slice none 0 0, .map none], u.oneCell' = true) := hid_intro (fun u hu => by
  simp only [List.mem_cons, List.not_mem_nil, or_false] at hu
  rcases hu with rfl | rfl | rfl | rfl <;> rfl)
 have HRD : Hid (Rd W1 rb (RF v lm s.i (.slice ao hs.length cap) s.dp s.ps)) := hid_intro (hJ.rd.below HB1.out)
 have f7 := (HRD.out 7 (by omega)).2
 clear hP hJ hl
 go_enter Tryz.func78, Tryz.ntmps78
 go_wp2_with (at_builtin; refine wpList_append_own_at _ rfl _ _ 75 rfl (rb + 1) 100 i0 _ 4 64 Tryz.underlying75 hi hz0 hz1 hz2 rfl (by decide) _ hs.length (flatH hs) rfl HS1.out.row ⟨w.heap.size, 0, none⟩ 1 1 [.int .i64 k, .slice none 0 0, .slice none 0 0, .map none] rfl rfl HK1.out HO1.out (by have := HN.out; unfold maxLen; omega) (by have := HN.out; omega) HSZ.out ?_)
 intro ov' w' ho' hg' _ h4'
 obtain ⟨hst', hmv'⟩ := HS1.out.opened hk ho' hg' h4'
 have HST := hid_intro hst'
 have HMV : Hid (Mv rb (.slice ao hs.length cap) hs w ov' (hs ++ [h0 k]) w') := hid_intro ((Mv.bel (Mv.refl _ _ _ _) HB1.out).trans hmv')
 have HRD2 : Hid (Rd w' rb (RF v lm s.i (.slice ao hs.length cap) s.dp s.ps)) := hid_intro (fun j hj => by
  have hne : some rb ≠ (Value.slice ao hs.length cap).ownBlock := fun e => by
   have := (HS1.out.lt rb (mem_mutsO (by rw [← e]; simp))).1; omega
  have hlt2 : rb < W1.heap.size := HRD.out.lt
  have he := hg'.block rb hlt2 hne
  exact ⟨(World.cell?_of_block (w := W1) (w' := w') he).trans (HRD.out j hj).1, by have := (HRD.out j hj).2; unfold World.frozen? at this ⊢; rw [he]; exact this⟩)
 obtain ⟨oa', cap', e', _, _⟩ := own_shape ho'
 subst e'
 have q7' := HRD2.out.c 7 (by omega) (u := .slice ao hs.length cap) rfl
 have q7f := (HRD2.out 7 (by omega)).2
 obtain ⟨w2, hw2⟩ : ∃ w2, w'.setCell ⟨rb, 7, none⟩ (.slice oa' (hs.length + 1) cap') = w2 := ⟨_, rfl⟩
 have hs2 : Rd w2 rb (RF v lm s.i (.slice oa' (hs.length + 1) cap') s.dp s.ps) := by
  have := HRD2.out.set (i := 7) (by omega) (.slice oa' (hs.length + 1) cap')
  rw [RF_o, hw2] at this
  exact this
 have HRD3 := hid_intro hs2
 have c7 := hs2.c 7 (by omega) (u := .slice oa' (hs.length + 1) cap') rfl
 have c8 := hs2.c 8 (by omega) (u := .int .i64 (s.dp : Int)) rfl
 have f8 := (hs2 8 (by omega)).2
 have HST2 : Hid (∀ (x : Value), ST (w2.drew.setCell ⟨rb, 8, none⟩ x) rb (.slice oa' (hs.length + 1) cap') (hs ++ [h0 k]) ∧ Mv rb (.slice ao hs.length cap) hs w (.slice oa' (hs.length + 1) cap') (hs ++ [h0 k]) (w2.drew.setCell ⟨rb, 8, none⟩ x)) := hid_intro (fun x => by
  have hb : But (· = rb) w' (w2.drew.setCell ⟨rb, 8, none⟩ x) := by rw [← hw2]; exact (((But.refl _ w').setr _).drew).setr _
  exact ⟨HST.out.rb hb, HMV.out.trans (Mv.rb hb)⟩)
 have HFIN : Hid (∀ d : Nat, d = max s.dp (hs.length + 1) → P (.returned (.tuple #[])) (w2.drew.setCell ⟨rb, 8, none⟩ (.int .i64 (d : Int)))) := hid_intro (fun d hd => by
  rw [HP.out]
  have hJ := HJ.out
  obtain ⟨a1, a2⟩ := HST2.out (.int .i64 (d : Int))
  refine ⟨rfl, _, ⟨?_, a1, ?_, ?_, ?_, hJ.lo, hJ.le, ?_, ?_, ?_⟩, a2⟩
  ·have := (HRD3.out.below (vb_d (Below.refl _ _))).set (i := 8) (by omega) (.int .i64 (d : Int))
   rw [RF_d] at this
   have e : (openS k s).dp = max s.dp (hs.length + 1) := by show max s.dp (s.hs.length + 1) = _; rw [hJ.eq]; simp
   rw [e, ← hd]
   exact this
  ·show s.hs ++ [(k, [], [])] = _
   rw [hJ.eq]; simp [h0]
  ·intro h hh
   rcases List.mem_append.1 hh with hh | hh
   ·exact hJ.sn h hh
   ·obtain rfl : h = h0 k := by simpa using hh
    rfl
  ·exact hJ.bel.trans ((a2.below hJ.st hJ.rd.lt).mono hJ.lo)
  ·show (hs ++ [h0 k]).length ≤ s.i; simp; omega
  ·intro h hh
   rcases List.mem_append.1 hh with hh | hh
   ·exact hJ.n2 h hh
   ·obtain rfl : h = h0 k := by simpa using hh
    exact ⟨Nat.zero_le _, Nat.zero_le _⟩
  ·show max s.dp (s.hs.length + 1) ≤ s.i
   have := hJ.n3
   rw [hJ.eq]; simp; omega)
 have hnI : (hs.length : Int) + 1 ≤ 1048577 := by have := HN.out; omega
 have hdI : (0 : Int) ≤ (s.dp : Int) := by omega
 clear hst' hmv' ho' hg' h4' q7 f7 hs2
 by_cases hd : s.dp ≤ hs.length + 1
 ·have hm : max (s.dp : Int) ((hs.length : Int) + 1) = (hs.length : Int) + 1 := by omega
  have HF := hid_intro (HFIN.out (hs.length + 1) (by omega))
  clear hd
  go_wp2_with fail
  go_region
  all_goals
   go_wp2_with fail
   go_end0
   exact HF.out
 ·have hm : max (s.dp : Int) ((hs.length : Int) + 1) = (s.dp : Int) := by omega
  have hd2 : (hs.length : Int) + 1 < (s.dp : Int) := by omega
  have HF := hid_intro (HFIN.out s.dp (by omega))
  clear hd
  go_wp2_with fail
  go_region
  all_goals
   go_wp2_with fail
   go_end0
   exact HF.out
set_option maxRecDepth 100000 in
set_option maxHeartbeats 1600000 in
theorem close_any [Ex] (W : World) (l : List UInt8) (v : Value) (lm : Nat → Int) (rb : Nat) (s : SS) (ob n cap : Nat) (hs0 : List HC) (h : HC) (w : World) (hJ : JR W l v lm rb s (.slice (some ⟨ob, 0, none⟩) n cap) (hs0 ++ [h]) w) (hl : l.length ≤ 1048576) :
  Calls Tryz.prog 56 #[.pointer (some ⟨rb, 0, none⟩)] w fun r w' => r = .returned (va (hcel h)) ∧ JR W l v lm rb (closeS s).2 (.slice (some ⟨ob, 0, none⟩) hs0.length cap) hs0 w' ∧ VI w' (mX rb (.slice (some ⟨ob, 0, none⟩) hs0.length cap) hs0) (hval h) (hcel h) ∧ Mv rb (.slice (some ⟨ob, 0, none⟩) n cap) (hs0 ++ [h]) w (.slice (some ⟨ob, 0, none⟩) hs0.length cap) hs0 w' ∧ (closeS s).1 = hval h := by
 obtain ⟨P, hP⟩ : ∃ P : Ending → World → Prop, P = fun r w' => r = .returned (va (hcel h)) ∧ JR W l v lm rb (closeS s).2 (.slice (some ⟨ob, 0, none⟩) hs0.length cap) hs0 w' ∧ VI w' (mX rb (.slice (some ⟨ob, 0, none⟩) hs0.length cap) hs0) (hval h) (hcel h) ∧ Mv rb (.slice (some ⟨ob, 0, none⟩) n cap) (hs0 ++ [h]) w (.slice (some ⟨ob, 0, none⟩) hs0.length cap) hs0 w' ∧ (closeS s).1 = hval h := ⟨_, rfl⟩
 rw [← hP]
 have HP := hid_intro hP
 have HJ := hid_intro hJ
 obtain ⟨ao', cap', e', hc1, hc2⟩ := own_shape hJ.st.row
 injection e' with e1 e2 e3
 subst e1 e3
 rw [List.length_append, List.length_singleton] at e2 hc1
 subst e2
 have hh := hJ.st.ho h (by simp)
 obtain ⟨la, lc, el, _, _⟩ := own_shape hh.row
 obtain ⟨ka, kc, ek, _, _⟩ := own_shape hh.krow
 obtain ⟨mo, em⟩ : ∃ mo, h.mv = .map mo := by
  rcases hh.map with ⟨e, _⟩ | ⟨mb, D, e, _⟩
  ·exact ⟨_, e⟩
  ·exact ⟨_, e⟩
 have HN : Hid (hs0.length ≤ 1048576) := hid_intro (by have h1 := hJ.n1; have := hJ.le; rw [List.length_append] at h1; simp at h1; omega)
 have hcell : ∀ j, j < 4 → w.cell? ⟨ob, hs0.length * 4 + j, none⟩ = h.cells[j]? := fun j hj => by
  have hx : (flatH (hs0 ++ [h]))[hs0.length * 4 + j]? = h.cells[j]? := by
   rw [flatH_app, List.getElem?_append_right (by rw [flatH_len]; omega), flatH_len, flatH_one']
   congr 1; omega
  have : ∃ u, h.cells[j]? = some u := ⟨_, List.getElem?_eq_getElem (by simpa [HC.cells] using hj)⟩
  obtain ⟨u, hu⟩ := this
  rw [hu] at hx ⊢
  have hr := hJ.st.row
  rw [List.length_append, List.length_singleton] at hr
  exact own_cell hr _ _ hx
 obtain ⟨A, hA⟩ : ∃ A, w.alloc (.cells #[.int .i64 0, .bool false, .string ⟨#[]⟩, .int .i64 0, .string ⟨#[]⟩, .slice none 0 0, .slice none 0 0] 31) = A := ⟨_, rfl⟩
 have HBA : Hid (Below w.heap.size w A) := hid_intro (hA ▸ vb_a (Below.refl _ _) _)
 have HKA : Hid (Bj A w.heap.size zV7) := hid_intro (hA ▸ Bj.new _ _ _)
 have HIN := hid_intro (innermost_any rb ob hs0.length cap (RF v lm s.i (.slice (some ⟨ob, 0, none⟩) (hs0.length + 1) cap) s.dp s.ps) A (hJ.rd.below HBA.out) rfl HN.out)
 have HCL := hid_intro (fun w' (hb : Below w.heap.size w w') j hj u (hu : h.cells[j]? = some u) => (hb.cell (p := ⟨ob, hs0.length * 4 + j, none⟩) (World.block_lt_of_cell? w _ (by rw [hcell j hj, hu]))).trans ((hcell j hj).trans hu))
 have HA := hid_intro hA
 clear hP hJ hh hcell hl hA
 go_enter Tryz.func56, Tryz.ntmps56
 go_wp2_with fail
 rw [HA.out]
 refine HIN.out.mono ?_; rintro r w1 ⟨rfl, hb1⟩
 have HB1 := hid_intro (vb_t HBA.out hb1)
 have HK1 := hid_intro (HKA.out.bel hb1)
 have k0 : w1.cell? ⟨ob, hs0.length * 4, none⟩ = some (.int .i64 h.k) := HCL.out w1 HB1.out 0 (by omega) _ rfl
 have k1 : w1.cell? ⟨ob, hs0.length * 4 + 1, none⟩ = some (.slice la h.vs.length lc) := HCL.out w1 HB1.out 1 (by omega) _ (by rw [← el]; rfl)
 have k2 : w1.cell? ⟨ob, hs0.length * 4 + 2, none⟩ = some (.slice ka h.ks.length kc) := HCL.out w1 HB1.out 2 (by omega) _ (by rw [← ek]; rfl)
 have k3 : w1.cell? ⟨ob, hs0.length * 4 + 3, none⟩ = some (.map mo) := HCL.out w1 HB1.out 3 (by omega) _ (by rw [← em]; rfl)
 obtain ⟨W2, hW2⟩ : ∃ W2, w1.alloc (.cells #[.int .i64 h.k, .slice la h.vs.length lc, .slice ka h.ks.length kc, .map mo] 100) = W2 := ⟨_, rfl⟩
 have HB2 : Hid (Below w.heap.size w W2) := hid_intro (vb_t HB1.out (hW2 ▸ vb_a (Below.refl _ _) _))
 have HRD : Hid (Rd W2 rb (RF v lm s.i (.slice (some ⟨ob, 0, none⟩) (hs0.length + 1) cap) s.dp s.ps)) := hid_intro (HJ.out.rd.below HB2.out)
 have q7 := HRD.out.c 7 (by omega) (u := .slice (some ⟨ob, 0, none⟩) (hs0.length + 1) cap) rfl
 have f7 := (HRD.out 7 (by omega)).2
 have hne1 : rb ≠ w1.heap.size := Nat.ne_of_lt (Nat.lt_of_lt_of_le HJ.out.rd.lt HB1.out.size)
 have hne2 : rb ≠ w.heap.size := Nat.ne_of_lt HJ.out.rd.lt
 have hnI : (hs0.length : Int) ≤ 1048576 := by have := HN.out; omega
 have hw : wrap64 ((hs0.length : Int) + 1 - 1) = (hs0.length : Int) := by unfold wrap64; omega
 have hwd : ((hs0.length : Int) + 1 - 1) = (hs0.length : Int) := by omega
 have hcI : (hs0.length : Int) ≤ (cap : Int) := by omega
 obtain ⟨W3, hW3⟩ : ∃ W3, W2.setCell ⟨rb, 7, none⟩ (.slice (some ⟨ob, 0, none⟩) hs0.length cap) = W3 := ⟨_, rfl⟩
 have HK3 : Hid (Bj W3 w.heap.size zV7) := hid_intro (by rw [← hW3, ← hW2]; exact (HK1.out.al _).away (Ne.symm hne2))
 have HH3 : Hid (Bj W3 w1.heap.size #[.int .i64 h.k, .slice la h.vs.length lc, .slice ka h.ks.length kc, .map mo]) := hid_intro (by rw [← hW3, ← hW2]; exact (Bj.new _ _ _).away (Ne.symm hne1))
 obtain ⟨x0, x1, x2, x3⟩ := HH3.out.c4
 obtain ⟨y0, y1, y2, y3, y4, y5, y6⟩ := HK3.out.c7
 obtain ⟨z0, z1, z2, z3, z4, z5, z6⟩ := HK3.out.z7
 have HFIN : Hid (P (.returned (.agg #[.int .i64 h.k, .bool false, .string ⟨#[]⟩, .int .i64 0, .string ⟨#[]⟩, .slice la h.vs.length lc, .slice ka h.ks.length kc])) (set7 W3 w.heap.size (.int .i64 h.k) (.bool false) (.string ⟨#[]⟩) (.int .i64 0) (.string ⟨#[]⟩) (.slice la h.vs.length lc) (.slice ka h.ks.length kc)).drew) := hid_intro (by
  rw [HP.out]
  have hJ := HJ.out
  obtain ⟨a1, a2, a3⟩ := hJ.st.closed
  have hbut : But (· = rb) w W3 := by rw [← hW3]; exact (But.ofBelow HB2.out).setr _
  have hbut6 := set7_but hbut (b := w.heap.size) (Or.inr (Nat.le_refl _)) (.int .i64 h.k) (.bool false) (.string ⟨#[]⟩) (.int .i64 0) (.string ⟨#[]⟩) (.slice la h.vs.length lc) (.slice ka h.ks.length kc)
  have hbut7 := hbut6.drew
  have hm := a3.trans (Mv.rb hbut7)
  have hlast : lastS s = (h.k, h.vs.map (·.1), h.ks) := by unfold lastS; rw [hJ.eq]; simp
  refine ⟨?_, ⟨?_, a1.rb hbut7, ?_, fun x hx => hJ.sn x (List.mem_append_left _ hx), ?_, hJ.lo, hJ.le, ?_, fun x hx => hJ.n2 x (List.mem_append_left _ hx), hJ.n3⟩, (Mv.rb hbut7).vi a2, hm, ?_⟩
  ·rw [← el, ← ek]; rfl
  ·have h1 : Rd W3 rb (RF v lm s.i (.slice (some ⟨ob, 0, none⟩) hs0.length cap) s.dp s.ps) := by
    have := HRD.out.set (i := 7) (by omega) (.slice (some ⟨ob, 0, none⟩) hs0.length cap)
    rw [RF_o, hW3] at this
    exact this
   exact (set7_rd h1 (Ne.symm hne2) _ _ _ _ _ _ _).below (vb_d (Below.refl _ _))
  ·show s.hs.dropLast = _
   rw [hJ.eq]; simp
  ·exact hJ.bel.trans ((hm.below hJ.st hJ.rd.lt).mono hJ.lo)
  ·have := hJ.n1; rw [List.length_append] at this; show hs0.length ≤ s.i; omega
  ·show JV.mk (lastS s).1 false _ 0 _ (lastS s).2.1 (lastS s).2.2 = _
   rw [hlast]; rfl)
 unfold set7 at HFIN
 clear hb1
 go_wp2_with fail
 go_region
 all_goals
  go_wp2_with fail
  refine bodyPost_ret (v := .agg #[.int .i64 h.k, .bool false, .string ⟨#[]⟩, .int .i64 0, .string ⟨#[]⟩, .slice la h.vs.length lc, .slice ka h.ks.length kc]) (by simp [results, Tryz.results56, go_sem, y0, y1, y2, y3, y4, y5, y6]) rfl ?_
  with_reducible exact HFIN.out
end Go.Proofs.YtjakgdaodlgeaaaGreatDoor
