/-
  What json's reader keeps: a key that is none of those that it has. Conditions: at most 2^20 keys and bytes.
-/
import Derived.Test.YtjakgdaodlgeaaaGreatDoorJoined24
import Derived.StringKeys
import Derived.WalkSpells
namespace Go.Proofs.YtjakgdaodlgeaaaGreatDoor
open Go.RowKit Go.Maps

theorem lawS : Keyed Tryz.prog 9 := string_keyed Tryz.underlying9
theorem zeroE (w : World) : (zeroValue 178).run Tryz.prog w = .ok (.agg #[]) w := by kernel_rfl
theorem infoStr : (Tryz.prog.info? 9).map (fun i => (i.zero, i.size, i.bytes)) = some (some (.string ⟨#[]⟩), 1, 16) := by kernel_rfl
theorem inK_app (s k : ByteArray) (ks : List ByteArray) : inK s (ks ++ [k]) = (inK s ks || decide (k = s)) := by unfold inK; simp
theorem litS_inj {a b : ByteArray} (h : (Lit.string a.data.toList : Lit) = .string b.data.toList) : a = b := by
 injection h with h
 apply ByteArray.ext
 exact Array.toList_inj.1 h
theorem map_put {w w' : World} {B mb : Nat} {D : DataW Unit} {sn : List ByteArray} {key : ByteArray} (hB : B ≤ mb) (hD : w.ownsMap Tryz.prog 9 unitElem mb sn.length D) (hh : ∀ s : ByteArray, Maps.has D (.string s.data.toList) = inK s sn) (hkz : key.size ≤ maxLen)
  (h' : w'.ownsMap Tryz.prog 9 unitElem mb (sn.length + 1) (D.put (.string key.data.toList) (.agg []))) : MapIs w' B (.map (some mb)) (sn ++ [key]) := by
 refine Or.inr ⟨mb, _, rfl, hB, by rw [List.length_append]; exact h', fun s => ?_⟩
 by_cases e : s = key
 ·subst e
  rw [has_put_same hD.isMap (by simp [WideAt.IsKeyLit]), inK_app]
  simp
 ·rw [has_put_other (fun h => e (litS_inj h)), hh, inK_app]
  have : decide (key = s) = false := by simp; exact fun h => e h.symm
  rw [this, Bool.or_false]
theorem eql_map (w : World) (r : Option Nat) : (binOp .eql 98 (.map r) (.map none)).run Tryz.prog w = .ok (.bool r.isNone) w := run_eql_map_nil w _ _ _ r Tryz.underlying98
theorem set_alloc (w : World) (a : Addr) (v : Value) (h : a.block < w.heap.size) (o : Obj) : (w.alloc o).setCell a v = (w.setCell a v).alloc o := by
 simp only [World.setCell, World.alloc]
 congr 1
 apply Array.ext_getElem?
 intro i
 simp only [Array.getElem?_modify, Array.getElem?_push, Array.size_modify]
 by_cases e : a.block = i
 ·subst e
  rw [if_pos rfl, if_neg (by omega), if_neg (by omega), if_pos rfl]
 ·rw [if_neg e, if_neg e]
theorem hcell_at [Ex] {w : World} {rb ob n cap : Nat} {hs0 : List HC} {h : HC} (hst : ST w rb (.slice (some ⟨ob, 0, none⟩) n cap) (hs0 ++ [h])) (j : Nat) (u : Value) (hu : h.cells[j]? = some u) : w.cell? ⟨ob, hs0.length * 4 + j, none⟩ = some u := by
 have hj : j < 4 := by
  have := (List.getElem?_eq_some_iff.1 hu).1
  simpa [HC.cells] using this
 have hx : (flatH (hs0 ++ [h]))[hs0.length * 4 + j]? = some u := by
  rw [flatH_app, List.getElem?_append_right (by rw [flatH_len]; omega), flatH_len, flatH_one', ← hu]
  congr 1; omega
 have hr := hst.row
 obtain ⟨_, _, e, _⟩ := own_shape hr
 injection e with _ e2 _
 rw [e2] at hr
 exact own_cell hr _ _ hx
theorem hfrz_at [Ex] {w : World} {rb ob n cap : Nat} {hs : List HC} (hst : ST w rb (.slice (some ⟨ob, 0, none⟩) n cap) hs) (j : Nat) : w.frozen? ⟨ob, j, none⟩ = false := by
 rcases hst.row.2 with ⟨e, _⟩ | ⟨g, cap', cur, e, _, hg, _⟩
 ·cases e
 ·injection e with e _ _
  injection e with e
  injection e with e _ _
  subst e
  simp [World.frozen?, hg]
set_option maxRecDepth 100000 in
set_option maxHeartbeats 1600000 in
theorem keep_no [Ex] (rb ob n cap : Nat) (hs0 : List HC) (h : HC) (key : ByteArray) (w : World) (hst : ST w rb (.slice (some ⟨ob, 0, none⟩) n cap) (hs0 ++ [h])) (hkz : key.size ≤ 1048576) (hin : inK key h.sn = true) :
  Calls Tryz.prog 104 #[.pointer (some ⟨ob, hs0.length * 4, none⟩), .string key] w fun r w' => r = .returned (.bool false) ∧ Below w.heap.size w w' := by
 have hkey : keyOf Tryz.prog 9 (.string key) = some (.string key.data.toList) := WideMaps.keyOf_string_mk Tryz.underlying9 (by unfold maxLen; omega)
 have hh := hst.ho h (by simp)
 rcases hh.map with ⟨_, e⟩ | ⟨mb, D, em, hB, hD, hhas⟩
 ·rw [e] at hin; simp [inK] at hin
 have k3 := hcell_at hst 3 (.map (some mb)) (by rw [← em]; rfl)
 have HD := hid_intro hD
 have hy : Maps.has D (.string key.data.toList) = true := by rw [hhas, hin]
 clear hst hh hhas hD hin
 go_enter Tryz.func104, Tryz.ntmps104
 go_wp2_with (at_lookup; refine wpList_lookup_own_unit _ rfl _ _ 98 rfl 9 178 lawS Tryz.underlying98 (zeroE _) mb _ D rfl HD.out _ _ rfl hkey ?_)
 go_ret
 exact ⟨rfl, vb_a (Below.refl _ _) _⟩
theorem key_row {w' : World} {B : Nat} {kv' : Value} {ks : List ByteArray} {key : ByteArray} (ho : w'.ownsRow B 9 1 kv' (ks.length + 1) (ks.map Value.string ++ [.string key])) : w'.ownsRow B 9 1 kv' (ks ++ [key]).length ((ks ++ [key]).map Value.string) := by
 rw [List.length_append, List.map_append]; exact ho
theorem but_grown {w w' : World} {o : Option Nat} {X : Nat → Prop} (hg : w.grownBy w' o) (hX : ∀ b, o = some b → X b) : But X w w' :=
 ⟨hg.os, hg.tape, hg.output, hg.size, fun k hk hx => hg.block k hk (fun e => hx (hX k e.symm))⟩
theorem own_parts {h : HC} (hn : h.own.Nodup) : (∀ b, h.lv.ownBlock = some b → h.kv.ownBlock ≠ some b ∧ mblk h.mv ≠ some b) ∧ (∀ b, h.kv.ownBlock = some b → mblk h.mv ≠ some b) := by
 unfold HC.own at hn
 obtain ⟨_, h2, h3⟩ := nodup_parts hn
 obtain ⟨_, _, h4⟩ := nodup_parts h2
 refine ⟨fun b hb => ⟨fun e => ?_, fun e => ?_⟩, fun b hb e => ?_⟩
 ·exact h3 b (by rw [hb]; simp) (by rw [e]; simp)
 ·exact h3 b (by rw [hb]; simp) (by rw [e]; simp)
 ·exact h4 b (by rw [hb]; simp) (by rw [e]; simp)
theorem own_mk (a b c : Option Nat) (h1 : ∀ x, a = some x → b ≠ some x ∧ c ≠ some x) (h2 : ∀ x, b = some x → c ≠ some x) : (a.toList ++ (b.toList ++ c.toList)).Nodup := by
 cases a with
 | none =>
  cases b with
  | none => cases c <;> simp
  | some y =>
   cases c with
   | none => simp
   | some z => have := h2 y rfl; simp at this ⊢; omega
 | some x =>
  obtain ⟨q1, q2⟩ := h1 x rfl
  cases b with
  | none => cases c with
   | none => simp
   | some z => simp at q2 ⊢; omega
  | some y =>
   cases c with
   | none => simp at q1 ⊢; omega
   | some z => have := h2 y rfl; simp at this q1 q2 ⊢; omega
theorem ST.ownnd [Ex] {w : World} {rb : Nat} {ov : Value} {hs0 : List HC} {h : HC} (hst : ST w rb ov (hs0 ++ [h])) : h.own.Nodup := by
 have := hst.nd
 rw [muts_snoc] at this
 exact (nodup_parts this).2.1
theorem mem_own_l {h : HC} {b : Nat} (e : h.lv.ownBlock = some b) : b ∈ h.own := by unfold HC.own; rw [e]; simp
theorem mem_own_k {h : HC} {b : Nat} (e : h.kv.ownBlock = some b) : b ∈ h.own := by unfold HC.own; rw [e]; simp
theorem mem_own_m {h : HC} {b : Nat} (e : mblk h.mv = some b) : b ∈ h.own := by unfold HC.own; rw [e]; simp
theorem own_cases {h : HC} {b : Nat} (hb : b ∈ h.own) : h.lv.ownBlock = some b ∨ h.kv.ownBlock = some b ∨ mblk h.mv = some b := by
 unfold HC.own at hb
 simpa [List.mem_append] using hb
theorem ST.addSeen [Ex] {w w' : World} {rb : Nat} {ov : Value} {hs0 : List HC} {h : HC} {mb : Nat} {key : ByteArray} (hst : ST w rb ov (hs0 ++ [h])) (em : h.mv = .map (some mb)) (hg : w.grownBy w' (some mb)) (hmap : MapIs w' (rb + 1) h.mv (h.sn ++ [key])) :
  ST w' rb ov (hs0 ++ [{ h with sn := h.sn ++ [key] }]) ∧ Mr rb ov (hs0 ++ [h]) w ov (hs0 ++ [{ h with sn := h.sn ++ [key] }]) w' := by
 have hem : mblk h.mv = some mb := by rw [em]; rfl
 have hnd := hst.ownnd
 obtain ⟨p1, p2⟩ := own_parts hnd
 have hh := hst.ho h (by simp)
 have hb : But (fun b => b ∈ h.own) w w' := but_grown hg (fun b e => by injection e with e; subst e; exact mem_own_m hem)
 refine hst.upd0 rfl hb (fun X' hX' => ⟨own_keep hh.row fun b hb1 => ?_, fun p hp => (hh.vis p hp).carry fun b hb1 hl => ⟨?_, ?_⟩, own_keep hh.krow fun b hb1 => ?_, hh.ksz, hmap⟩) (fun b hb => Or.inl hb) hnd rfl
 ·have e : h.lv.ownBlock = some b := by simpa using hb1
  exact hg.block b (own_lt hh.row b hb1).2 (fun e2 => (p1 b e).2 (by rw [hem]; exact e2.symm))
 ·exact hg.block b hl (fun e2 => hb1 (Or.inr (Or.inr (by rw [muts_snoc]; exact List.mem_append_right _ (mem_own_m (by rw [hem]; exact e2.symm))))))
 ·rw [hX']; intro e; apply hb1
  rcases e with e | e | e
  ·exact Or.inl e
  ·exact Or.inr (Or.inl e)
  ·rw [muts_snoc] at e; exact Or.inr (Or.inr (by rw [muts_snoc]; exact e))
 ·have e : h.kv.ownBlock = some b := by simpa using hb1
  exact hg.block b (own_lt hh.krow b hb1).2 (fun e2 => p2 b e (by rw [hem]; exact e2.symm))
theorem ST.addKey [Ex] {w w' : World} {rb ob n cap : Nat} {hs0 : List HC} {h : HC} {kv' : Value} {key : ByteArray} (hst : ST w rb (.slice (some ⟨ob, 0, none⟩) n cap) (hs0 ++ [h])) (hkz : key.size ≤ 1048576)
  (ho : w'.ownsRow (rb + 1) 9 1 kv' (h.ks.length + 1) (h.ks.map Value.string ++ [.string key])) (hg : w.grownBy w' h.kv.ownBlock) (h4 : kv'.ownBlock = h.kv.ownBlock ∨ kv'.ownBlock = some w.heap.size) :
  ST (w'.setCell ⟨ob, hs0.length * 4 + 2, none⟩ kv') rb (.slice (some ⟨ob, 0, none⟩) n cap) (hs0 ++ [{ h with ks := h.ks ++ [key], kv := kv' }]) ∧ Mr rb (.slice (some ⟨ob, 0, none⟩) n cap) (hs0 ++ [h]) w (.slice (some ⟨ob, 0, none⟩) n cap) (hs0 ++ [{ h with ks := h.ks ++ [key], kv := kv' }]) (w'.setCell ⟨ob, hs0.length * 4 + 2, none⟩ kv') := by
 have hnd := hst.ownnd
 obtain ⟨p1, p2⟩ := own_parts hnd
 have hh := hst.ho h (by simp)
 have hlt := hh.lt
 have hb : But (fun b => b ∈ h.own) w w' := but_grown hg (fun b e => mem_own_k e)
 have hown : ∀ b ∈ (HC.mk h.k h.vs (h.ks ++ [key]) h.lv kv' h.mv h.sn).own, b ∈ h.own ∨ w.heap.size ≤ b := fun b hb1 => by
  rcases own_cases hb1 with e | e | e
  ·exact Or.inl (mem_own_l e)
  ·rcases h4 with h4 | h4
   ·exact Or.inl (mem_own_k (by rw [← h4]; exact e))
   ·have e : kv'.ownBlock = some b := e
    rw [h4] at e; injection e with e; exact Or.inr (by omega)
  ·exact Or.inl (mem_own_m e)
 refine hst.upd 2 (by omega) kv' rfl hb (fun X' hX' => ⟨own_keep hh.row fun b hb1 => ?_, fun p hp => (hh.vis p hp).carry fun b hb1 hl => ⟨?_, ?_⟩, key_row ho, fun s hs => ?_, map_keep hh.map fun b hb1 => ?_⟩) hown ?_ rfl
 ·have e : h.lv.ownBlock = some b := by simpa using hb1
  exact hg.block b (own_lt hh.row b hb1).2 (fun e2 => (p1 b e).1 e2.symm)
 ·exact hg.block b hl (fun e2 => hb1 (Or.inr (Or.inr (by rw [muts_snoc]; exact List.mem_append_right _ (mem_own_k e2.symm)))))
 ·rw [hX']; intro e; apply hb1
  rcases e with e | e | e
  ·exact Or.inl e
  ·exact Or.inr (Or.inl e)
  ·rw [muts_snoc, List.mem_append] at e
   rw [mX, wX, muts_snoc]
   rcases e with e | e
   ·exact Or.inr (Or.inr (List.mem_append_left _ e))
   ·rcases hown b e with e | e
    ·exact Or.inr (Or.inr (List.mem_append_right _ e))
    ·omega
 ·rcases List.mem_append.1 hs with hs | hs
  ·exact hh.ksz s hs
  ·obtain rfl : s = key := by simpa using hs
   exact hkz
 ·have e : mblk h.mv = some b := by simpa using hb1
  exact hg.block b (map_lt hh.map b hb1).2 (fun e2 => p2 b e2.symm e)
 ·refine own_mk _ _ _ (fun x hx => ⟨fun e => ?_, (p1 x hx).2⟩) (fun x hx => ?_)
  ·rcases h4 with h4 | h4
   ·exact (p1 x hx).1 (by rw [← h4]; exact e)
   ·have e : kv'.ownBlock = some x := e
    rw [h4] at e; injection e with e
    have := (hlt x (mem_own_l hx)).2; omega
  ·intro e
   have hx : kv'.ownBlock = some x := hx
   rcases h4 with h4 | h4
   ·exact p2 x (by rw [← h4]; exact hx) e
   ·rw [h4] at hx; injection hx with hx
    have := (hlt x (mem_own_m e)).2; omega
theorem ST.newMap [Ex] {w : World} {rb ob n cap : Nat} {hs0 : List HC} {h : HC} (hst : ST w rb (.slice (some ⟨ob, 0, none⟩) n cap) (hs0 ++ [h])) (hrb : rb < w.heap.size) (es : h.sn = []) :
  ST ((w.alloc (.map #[] 0)).setCell ⟨ob, hs0.length * 4 + 3, none⟩ (.map (some w.heap.size))) rb (.slice (some ⟨ob, 0, none⟩) n cap) (hs0 ++ [{ h with mv := .map (some w.heap.size) }]) ∧ Mr rb (.slice (some ⟨ob, 0, none⟩) n cap) (hs0 ++ [h]) w (.slice (some ⟨ob, 0, none⟩) n cap) (hs0 ++ [{ h with mv := .map (some w.heap.size) }]) ((w.alloc (.map #[] 0)).setCell ⟨ob, hs0.length * 4 + 3, none⟩ (.map (some w.heap.size))) := by
 have hnd := hst.ownnd
 obtain ⟨p1, p2⟩ := own_parts hnd
 have hh := hst.ho h (by simp)
 have hlt := hh.lt
 have hbl : Below w.heap.size w (w.alloc (.map #[] 0)) := vb_a (Below.refl _ _) _
 have hown : ∀ b ∈ (HC.mk h.k h.vs h.ks h.lv h.kv (.map (some w.heap.size)) h.sn).own, b ∈ h.own ∨ w.heap.size ≤ b := fun b hb1 => by
  rcases own_cases hb1 with e | e | e
  ·exact Or.inl (mem_own_l e)
  ·exact Or.inl (mem_own_k e)
  ·have e : some w.heap.size = some b := e
   injection e with e; exact Or.inr (by omega)
 refine hst.upd 3 (by omega) _ rfl (But.ofBelow hbl) (fun X' hX' => ⟨own_keep hh.row fun b hb1 => hbl.block b (own_lt hh.row b hb1).2, fun p hp => (hh.vis p hp).carry fun b hb1 hl => ⟨hbl.block b hl, ?_⟩, own_keep hh.krow fun b hb1 => hbl.block b (own_lt hh.krow b hb1).2, hh.ksz, ?_⟩) hown ?_ rfl
 ·rw [hX']; intro e; apply hb1
  rcases e with e | e | e
  ·exact Or.inl e
  ·exact Or.inr (Or.inl e)
  ·rw [muts_snoc, List.mem_append] at e
   rw [mX, wX, muts_snoc]
   rcases e with e | e
   ·exact Or.inr (Or.inr (List.mem_append_left _ e))
   ·rcases hown b e with e | e
    ·exact Or.inr (Or.inr (List.mem_append_right _ e))
    ·omega
 ·refine Or.inr ⟨w.heap.size, .map [], rfl, by omega, ?_, fun s => ?_⟩
  ·show (w.alloc (.map #[] 0)).ownsMap Tryz.prog 9 unitElem w.heap.size h.sn.length (.map [])
   rw [es]
   exact World.ownsMap_made _ _ _ _
  ·show Maps.has (DataW.map []) _ = inK s h.sn
   rw [es]; rfl
 ·refine own_mk _ _ _ (fun x hx => ⟨(p1 x hx).1, fun e => ?_⟩) (fun x hx e => ?_)
  ·have e : some w.heap.size = some x := e
   injection e with e
   have := (hlt x (mem_own_l hx)).2; omega
  ·have e : some w.heap.size = some x := e
   injection e with e
   have := (hlt x (mem_own_k hx)).2; omega
def hkey (h : HC) (kv mv : Value) (key : ByteArray) : HC := { h with ks := h.ks ++ [key], sn := h.sn ++ [key], kv := kv, mv := mv }
set_option maxRecDepth 100000 in
set_option maxHeartbeats 3200000 in
theorem keep_some [Ex] (rb ob n cap : Nat) (hs0 : List HC) (h : HC) (key : ByteArray) (w : World) (mb : Nat) (hst : ST w rb (.slice (some ⟨ob, 0, none⟩) n cap) (hs0 ++ [h])) (hkz : key.size ≤ 1048576) (hn : h.ks.length ≤ 1048576) (hns : h.sn.length ≤ 1048576) (hin : inK key h.sn = false) (hm : h.mv = .map (some mb)) (hrb : rb < w.heap.size) :
  Calls Tryz.prog 104 #[.pointer (some ⟨ob, hs0.length * 4, none⟩), .string key] w fun r w' => r = .returned (.bool true) ∧ ∃ kv, ST w' rb (.slice (some ⟨ob, 0, none⟩) n cap) (hs0 ++ [hkey h kv (.map (some mb)) key]) ∧ Mr rb (.slice (some ⟨ob, 0, none⟩) n cap) (hs0 ++ [h]) w (.slice (some ⟨ob, 0, none⟩) n cap) (hs0 ++ [hkey h kv (.map (some mb)) key]) w' := by
 obtain ⟨P, hP⟩ : ∃ P : Ending → World → Prop, P = fun r w' => r = .returned (.bool true) ∧ ∃ kv, ST w' rb (.slice (some ⟨ob, 0, none⟩) n cap) (hs0 ++ [hkey h kv (.map (some mb)) key]) ∧ Mr rb (.slice (some ⟨ob, 0, none⟩) n cap) (hs0 ++ [h]) w (.slice (some ⟨ob, 0, none⟩) n cap) (hs0 ++ [hkey h kv (.map (some mb)) key]) w' := ⟨_, rfl⟩
 rw [← hP]
 have HP := hid_intro hP
 have hkey' : keyOf Tryz.prog 9 (.string key) = some (.string key.data.toList) := WideMaps.keyOf_string_mk Tryz.underlying9 (by unfold maxLen; omega)
 have hh := hst.ho h (by simp)
 rcases hh.map with ⟨e, _⟩ | ⟨mb', D, em, hB, hD, hhas⟩
 ·rw [e] at hm; injection hm with hm; cases hm
 obtain rfl : mb' = mb := by rw [em] at hm; injection hm with hm; injection hm
 obtain ⟨ka, kc, ek, _, _⟩ := own_shape hh.krow
 have k3 := hcell_at hst 3 (.map (some mb')) (by rw [← em]; rfl)
 have hy : Maps.has D (.string key.data.toList) = false := by rw [hhas, hin]
 obtain ⟨w1, hw1⟩ : ∃ w1, w.alloc (.cells #[] 178) = w1 := ⟨_, rfl⟩
 have HB1 : Hid (Below w.heap.size w w1) := hid_intro (hw1 ▸ vb_a (Below.refl _ _) _)
 have HST1 := hid_intro (hst.bel HB1.out)
 have HD1 : Hid (w1.ownsMap Tryz.prog 9 unitElem mb' h.sn.length D) := hid_intro (hw1 ▸ hD.alloc _)
 have k3' := hcell_at HST1.out 3 (.map (some mb')) (by rw [← em]; rfl)
 have HD := hid_intro hD
 have HHAS := hid_intro hhas
 have HBmb := hid_intro hB
 have HN := hid_intro hn
 have HEM := hid_intro em
 have HEK := hid_intro ek
 have HKZ := hid_intro hkz
 have HRB := hid_intro hrb
 have hme := fun w => eql_map w (some mb')
 simp only [Option.isNone_some] at hme
 clear hst hh hhas hD hin hP hB hn em ek hkz hm
 go_enter Tryz.func104, Tryz.ntmps104
 go_wp2_with (first | (at_lookup; refine wpList_lookup_own_unit _ rfl _ _ 98 rfl 9 178 lawS Tryz.underlying98 (zeroE _) mb' _ D rfl HD.out _ _ rfl hkey' ?_) | (at_mapUpdate; refine wpList_mapUpdate_own _ rfl _ _ _ 98 rfl 9 178 lawS Tryz.underlying98 unitElem mb' _ D rfl HD1.out (by unfold maxLen; omega) _ _ _ rfl rfl hkey' _ [] unitElem_mk ?_))
 intro w2 hD2 hg2
 obtain ⟨hs2, hm2⟩ := HST1.out.addSeen HEM.out hg2 (by rw [HEM.out]; exact map_put HBmb.out HD1.out HHAS.out (by have := HKZ.out; unfold maxLen; omega) hD2)
 have HS2 := hid_intro hs2
 have HM2 : Hid (Mr rb (.slice (some ⟨ob, 0, none⟩) n cap) (hs0 ++ [h]) w (.slice (some ⟨ob, 0, none⟩) n cap) (hs0 ++ [{ h with sn := h.sn ++ [key] }]) w2) := hid_intro ((Mr.bel (Mr.refl _ _ _ _) HB1.out).trans hm2)
 have k2 := hcell_at hs2 2 (.slice ka h.ks.length kc) (by show some h.kv = _; rw [HEK.out])
 obtain ⟨W3, hW3⟩ : ∃ W3, w2.alloc (.cells #[.string key] 9) = W3 := ⟨_, rfl⟩
 have HB3 : Hid (Below w2.heap.size w2 W3) := hid_intro (hW3 ▸ vb_a (Below.refl _ _) _)
 have HS3 := hid_intro (hs2.bel HB3.out)
 have HKR : Hid (W3.ownsRow (rb + 1) 9 1 (.slice ka h.ks.length kc) h.ks.length (h.ks.map Value.string)) := hid_intro (by have := (HS3.out.ho _ (List.mem_append_right _ (List.mem_singleton.2 rfl))).krow; rw [← HEK.out]; exact this)
 have HC3 : Hid (∀ j u, [Value.string key][j]? = some u → W3.cell? ((⟨w2.heap.size, 0, none⟩ : Addr).add j) = some u) := hid_intro (fun j u hj => by
  rw [addZ, ← hW3]
  match j, hj with
  | 0, hj => rw [(Bj.new w2 #[.string key] 9).cell 0]; exact hj)
 have HSZ : Hid (rb + 1 ≤ W3.heap.size) := hid_intro (by
  have h1 := HB3.out.size
  have h2 := HM2.out.mv.but.size
  have h3 : rb + 1 ≤ w.heap.size := HRB.out
  omega)
 obtain ⟨i0, hi, hz0, hz1, hz2⟩ := info_parts infoStr
 clear hs2 hm2 hD2 hg2 k3 k3'
 go_wp2_with (at_builtin; refine wpList_append_own_at _ rfl _ _ 29 rfl (rb + 1) 9 i0 _ 1 16 Tryz.underlying29 hi hz0 hz1 hz2 rfl (by decide) _ h.ks.length (h.ks.map Value.string) rfl HKR.out ⟨w2.heap.size, 0, none⟩ 1 1 [.string key] rfl rfl HC3.out (fun u hu => by simp at hu; subst hu; rfl) (by have := HN.out; unfold maxLen; omega) (by have := HN.out; omega) HSZ.out ?_)
 intro kv' w4 ho4 hg4 _ h44
 have hEK2 : (Value.slice ka h.ks.length kc).ownBlock = h.kv.ownBlock := by rw [HEK.out]
 rw [hEK2] at hg4 h44
 obtain ⟨hs4, hm4⟩ := HS3.out.addKey (kv' := kv') (key := key) HKZ.out ho4 hg4 h44
 have f2 : w4.frozen? ⟨ob, hs0.length * 4 + 2, none⟩ = false := by
  have hob : ob ∈ muts (.slice (some ⟨ob, 0, none⟩) n cap) hs0 := mem_mutsO (by simp [Value.ownBlock])
  have hnd := HS3.out.nd
  rw [muts_snoc] at hnd
  have hne : some ob ≠ h.kv.ownBlock := fun e => (nodup_parts hnd).2.2 ob hob (mem_own_k (h := { h with sn := h.sn ++ [key] }) e.symm)
  have hlt := (HS3.out.lt ob (by rw [muts_snoc]; exact List.mem_append_left _ hob)).2
  have he := hg4.block ob hlt hne
  have := hfrz_at HS3.out (hs0.length * 4 + 2)
  unfold World.frozen? at this ⊢
  rw [he]; exact this
 have c2 : ∃ u, w4.cell? ⟨ob, hs0.length * 4 + 2, none⟩ = some u := by
  have hob : ob ∈ muts (.slice (some ⟨ob, 0, none⟩) n cap) hs0 := mem_mutsO (by simp [Value.ownBlock])
  have hnd := HS3.out.nd
  rw [muts_snoc] at hnd
  have hne : some ob ≠ h.kv.ownBlock := fun e => (nodup_parts hnd).2.2 ob hob (mem_own_k (h := { h with sn := h.sn ++ [key] }) e.symm)
  have hlt := (HS3.out.lt ob (by rw [muts_snoc]; exact List.mem_append_left _ hob)).2
  have he := hg4.block ob hlt hne
  exact ⟨_, (World.cell?_of_block (w := W3) (w' := w4) he).trans (hcell_at HS3.out 2 h.kv rfl)⟩
 obtain ⟨u2, c2⟩ := c2
 obtain ⟨ka', kc', ek', _, _⟩ := own_shape ho4
 subst ek'
 have HFIN : Hid (P (.returned (.bool true)) (w4.setCell ⟨ob, hs0.length * 4 + 2, none⟩ (.slice ka' (h.ks.length + 1) kc'))) := hid_intro (by
  rw [HP.out]
  refine ⟨rfl, .slice ka' (h.ks.length + 1) kc', ?_, (HM2.out.bel HB3.out).trans ?_⟩
  ·have e : hkey h (.slice ka' (h.ks.length + 1) kc') (.map (some mb')) key = { { h with sn := h.sn ++ [key] } with ks := h.ks ++ [key], kv := .slice ka' (h.ks.length + 1) kc' } := by unfold hkey; rw [← HEM.out]
   rw [e]; exact hs4
  ·have e : hkey h (.slice ka' (h.ks.length + 1) kc') (.map (some mb')) key = { { h with sn := h.sn ++ [key] } with ks := h.ks ++ [key], kv := .slice ka' (h.ks.length + 1) kc' } := by unfold hkey; rw [← HEM.out]
   rw [e]; exact hm4)
 clear hs4 hm4 ho4 hg4 h44 hEK2 k2
 go_wp2_with fail
 exact HFIN.out
set_option maxRecDepth 100000 in
set_option maxHeartbeats 3200000 in
theorem keep_nil [Ex] (rb ob n cap : Nat) (hs0 : List HC) (h : HC) (key : ByteArray) (w : World) (hst : ST w rb (.slice (some ⟨ob, 0, none⟩) n cap) (hs0 ++ [h])) (hkz : key.size ≤ 1048576) (hn : h.ks.length ≤ 1048576) (hm : h.mv = .map none) (hrb : rb < w.heap.size) :
  Calls Tryz.prog 104 #[.pointer (some ⟨ob, hs0.length * 4, none⟩), .string key] w fun r w' => r = .returned (.bool true) ∧ ∃ kv mv, ST w' rb (.slice (some ⟨ob, 0, none⟩) n cap) (hs0 ++ [hkey h kv mv key]) ∧ Mr rb (.slice (some ⟨ob, 0, none⟩) n cap) (hs0 ++ [h]) w (.slice (some ⟨ob, 0, none⟩) n cap) (hs0 ++ [hkey h kv mv key]) w' := by
 obtain ⟨P, hP⟩ : ∃ P : Ending → World → Prop, P = fun r w' => r = .returned (.bool true) ∧ ∃ kv mv, ST w' rb (.slice (some ⟨ob, 0, none⟩) n cap) (hs0 ++ [hkey h kv mv key]) ∧ Mr rb (.slice (some ⟨ob, 0, none⟩) n cap) (hs0 ++ [h]) w (.slice (some ⟨ob, 0, none⟩) n cap) (hs0 ++ [hkey h kv mv key]) w' := ⟨_, rfl⟩
 rw [← hP]
 have HP := hid_intro hP
 have hkey' : keyOf Tryz.prog 9 (.string key) = some (.string key.data.toList) := WideMaps.keyOf_string_mk Tryz.underlying9 (by unfold maxLen; omega)
 have hlk : ∀ w, (Instr.lookup 98 (.map none) (.string key) true).run Tryz.prog w = .ok (.tuple #[.agg #[], .bool false]) w := fun w => Maps.look_nil true lawS Tryz.underlying98 (zeroE w) hkey'
 have hh := hst.ho h (by simp)
 have es : h.sn = [] := by
  rcases hh.map with ⟨_, e⟩ | ⟨mb', D, em, _⟩
  ·exact e
  ·rw [em] at hm; injection hm with hm; cases hm
 obtain ⟨ka, kc, ek, _, _⟩ := own_shape hh.krow
 have k3 := hcell_at hst 3 (.map none) (by rw [← hm]; rfl)
 obtain ⟨w0, hw0⟩ : ∃ w0, w.alloc (.cells #[] 178) = w0 := ⟨_, rfl⟩
 have HB0 : Hid (Below w.heap.size w w0) := hid_intro (hw0 ▸ vb_a (Below.refl _ _) _)
 have HST0 := hid_intro (hst.bel HB0.out)
 have k3' := hcell_at HST0.out 3 (.map none) (by rw [← hm]; rfl)
 have f3 := hfrz_at HST0.out (hs0.length * 4 + 3)
 have hobl : ob < w0.heap.size := World.block_lt_of_cell? w0 _ k3'
 obtain ⟨hs1, hm1⟩ := HST0.out.newMap (Nat.lt_of_lt_of_le hrb HB0.out.size) es
 obtain ⟨w1, hw1⟩ : ∃ w1, (w0.alloc (.map #[] 0)).setCell ⟨ob, hs0.length * 4 + 3, none⟩ (.map (some w0.heap.size)) = w1 := ⟨_, rfl⟩
 rw [hw1] at hs1 hm1
 obtain ⟨g, hg⟩ : ∃ g : HC, g = { h with mv := .map (some w0.heap.size) } := ⟨_, rfl⟩
 have hsg : g.sn = [] := by rw [hg]; exact es
 have hgk : g.ks = h.ks := by rw [hg]
 rw [← hg] at hs1 hm1
 have HM1 : Hid (Mr rb (.slice (some ⟨ob, 0, none⟩) n cap) (hs0 ++ [h]) w (.slice (some ⟨ob, 0, none⟩) n cap) (hs0 ++ [g]) w1) := hid_intro ((Mr.bel (Mr.refl _ _ _ _) HB0.out).trans hm1)
 have em : g.mv = .map (some w0.heap.size) := by rw [hg]
 have ek2 : g.kv = .slice ka g.ks.length kc := by rw [hg]; exact ek
 have HHK : Hid (∀ kv mv, hkey g kv mv key = hkey h kv mv key) := hid_intro (fun kv mv => by rw [hg]; rfl)
 have k3w : w1.cell? ⟨ob, hs0.length * 4 + 3, none⟩ = some (.map (some w0.heap.size)) := hcell_at hs1 3 _ (by rw [← em]; rfl)
 obtain ⟨mb', D, em', hB, hD, hhas⟩ : ∃ mb', ∃ D : DataW Unit, g.mv = .map (some mb') ∧ rb + 1 ≤ mb' ∧ w1.ownsMap Tryz.prog 9 unitElem mb' g.sn.length D ∧ ∀ s : ByteArray, Maps.has D (.string s.data.toList) = inK s g.sn := by
  rcases (hs1.ho g (by simp)).map with ⟨e, _⟩ | h2
  ·rw [em] at e; cases e
  ·exact h2
 obtain rfl : mb' = w0.heap.size := by rw [em] at em'; injection em' with e; injection e with e; exact e.symm
 have HST1 := hid_intro hs1
 have HD1 := hid_intro hD
 have HHAS := hid_intro hhas
 have HBmb := hid_intro hB
 have hns : g.sn.length ≤ 1048576 := by rw [hsg]; exact Nat.zero_le _
 have HN : Hid (g.ks.length ≤ 1048576) := hid_intro (by rw [hgk]; exact hn)
 have HEM := hid_intro em
 have HEK := hid_intro ek2
 have HKZ := hid_intro hkz
 have HRB := hid_intro hrb
 have hw1' : (w0.setCell ⟨ob, hs0.length * 4 + 3, none⟩ (.map (some w0.heap.size))).alloc (.map #[] 0) = w1 := by rw [← hw1]; exact (set_alloc w0 _ _ hobl _).symm
 have hmm : ∀ w, (Instr.makeMap 98 none).run Tryz.prog w = .ok (.map (some w.heap.size)) (w.alloc (.map #[] 0)) := fun _ => rfl
 have hme := fun w => eql_map w none
 simp only [Option.isNone_none] at hme
 clear hst hh hhas hD hP hB hn em em' ek ek2 hkz hm hs1 hm1 hg hsg hgk es hw1
 go_enter Tryz.func104, Tryz.ntmps104
 go_wp2_with (at_mapUpdate; refine wpList_mapUpdate_own _ rfl _ _ _ 98 rfl 9 178 lawS Tryz.underlying98 unitElem w0.heap.size _ D rfl HD1.out (by unfold maxLen; omega) _ _ _ rfl rfl hkey' _ [] unitElem_mk ?_)
 intro w2 hD2 hg2
 obtain ⟨hs2, hm2⟩ := HST1.out.addSeen HEM.out hg2 (by rw [HEM.out]; exact map_put HBmb.out HD1.out HHAS.out (by have := HKZ.out; unfold maxLen; omega) hD2)
 have HS2 := hid_intro hs2
 have HM2 : Hid (Mr rb (.slice (some ⟨ob, 0, none⟩) n cap) (hs0 ++ [h]) w (.slice (some ⟨ob, 0, none⟩) n cap) (hs0 ++ [{ g with sn := g.sn ++ [key] }]) w2) := hid_intro (HM1.out.trans hm2)
 have k2 := hcell_at hs2 2 (.slice ka g.ks.length kc) (by show some g.kv = _; rw [HEK.out])
 obtain ⟨W3, hW3⟩ : ∃ W3, w2.alloc (.cells #[.string key] 9) = W3 := ⟨_, rfl⟩
 have HB3 : Hid (Below w2.heap.size w2 W3) := hid_intro (hW3 ▸ vb_a (Below.refl _ _) _)
 have HS3 := hid_intro (hs2.bel HB3.out)
 have HKR : Hid (W3.ownsRow (rb + 1) 9 1 (.slice ka g.ks.length kc) g.ks.length (g.ks.map Value.string)) := hid_intro (by have := (HS3.out.ho _ (List.mem_append_right _ (List.mem_singleton.2 rfl))).krow; rw [← HEK.out]; exact this)
 have HC3 : Hid (∀ j u, [Value.string key][j]? = some u → W3.cell? ((⟨w2.heap.size, 0, none⟩ : Addr).add j) = some u) := hid_intro (fun j u hj => by
  rw [addZ, ← hW3]
  match j, hj with
  | 0, hj => rw [(Bj.new w2 #[.string key] 9).cell 0]; exact hj)
 have HSZ : Hid (rb + 1 ≤ W3.heap.size) := hid_intro (by
  have h1 := HB3.out.size
  have h2 := HM2.out.mv.but.size
  have h3 : rb + 1 ≤ w.heap.size := HRB.out
  omega)
 obtain ⟨i0, hi, hz0, hz1, hz2⟩ := info_parts infoStr
 clear hs2 hm2 hD2 hg2 k3 k3' k3w f3
 go_wp2_with (at_builtin; refine wpList_append_own_at _ rfl _ _ 29 rfl (rb + 1) 9 i0 _ 1 16 Tryz.underlying29 hi hz0 hz1 hz2 rfl (by decide) _ g.ks.length (g.ks.map Value.string) rfl HKR.out ⟨w2.heap.size, 0, none⟩ 1 1 [.string key] rfl rfl HC3.out (fun u hu => by simp at hu; subst hu; rfl) (by have := HN.out; unfold maxLen; omega) (by have := HN.out; omega) HSZ.out ?_)
 intro kv' w4 ho4 hg4 _ h44
 have hEK2 : (Value.slice ka g.ks.length kc).ownBlock = g.kv.ownBlock := by rw [HEK.out]
 rw [hEK2] at hg4 h44
 obtain ⟨hs4, hm4⟩ := HS3.out.addKey (kv' := kv') (key := key) HKZ.out ho4 hg4 h44
 have f2 : w4.frozen? ⟨ob, hs0.length * 4 + 2, none⟩ = false := by
  have hob : ob ∈ muts (.slice (some ⟨ob, 0, none⟩) n cap) hs0 := mem_mutsO (by simp [Value.ownBlock])
  have hnd := HS3.out.nd
  rw [muts_snoc] at hnd
  have hne : some ob ≠ g.kv.ownBlock := fun e => (nodup_parts hnd).2.2 ob hob (mem_own_k (h := { g with sn := g.sn ++ [key] }) e.symm)
  have hlt := (HS3.out.lt ob (by rw [muts_snoc]; exact List.mem_append_left _ hob)).2
  have he := hg4.block ob hlt hne
  have := hfrz_at HS3.out (hs0.length * 4 + 2)
  unfold World.frozen? at this ⊢
  rw [he]; exact this
 have c2 : ∃ u, w4.cell? ⟨ob, hs0.length * 4 + 2, none⟩ = some u := by
  have hob : ob ∈ muts (.slice (some ⟨ob, 0, none⟩) n cap) hs0 := mem_mutsO (by simp [Value.ownBlock])
  have hnd := HS3.out.nd
  rw [muts_snoc] at hnd
  have hne : some ob ≠ g.kv.ownBlock := fun e => (nodup_parts hnd).2.2 ob hob (mem_own_k (h := { g with sn := g.sn ++ [key] }) e.symm)
  have hlt := (HS3.out.lt ob (by rw [muts_snoc]; exact List.mem_append_left _ hob)).2
  have he := hg4.block ob hlt hne
  exact ⟨_, (World.cell?_of_block (w := W3) (w' := w4) he).trans (hcell_at HS3.out 2 g.kv rfl)⟩
 obtain ⟨u2, c2⟩ := c2
 obtain ⟨ka', kc', ek', _, _⟩ := own_shape ho4
 subst ek'
 have HFIN : Hid (P (.returned (.bool true)) (w4.setCell ⟨ob, hs0.length * 4 + 2, none⟩ (.slice ka' (g.ks.length + 1) kc'))) := hid_intro (by
  rw [HP.out]
  have e : hkey h (.slice ka' (g.ks.length + 1) kc') g.mv key = { { g with sn := g.sn ++ [key] } with ks := g.ks ++ [key], kv := .slice ka' (g.ks.length + 1) kc' } := by rw [← HHK.out]; rfl
  refine ⟨rfl, .slice ka' (g.ks.length + 1) kc', g.mv, ?_, (HM2.out.bel HB3.out).trans ?_⟩
  ·rw [e]; exact hs4
  ·rw [e]; exact hm4)
 clear hs4 hm4 ho4 hg4 h44 hEK2 k2
 go_wp2_with fail
 exact HFIN.out
theorem keep_any [Ex] (rb ob n cap : Nat) (hs0 : List HC) (h : HC) (key : ByteArray) (w : World) (hst : ST w rb (.slice (some ⟨ob, 0, none⟩) n cap) (hs0 ++ [h])) (hkz : key.size ≤ 1048576) (hn : h.ks.length ≤ 1048576) (hsn : h.sn = h.ks) (hrb : rb < w.heap.size) :
  Calls Tryz.prog 104 #[.pointer (some ⟨ob, hs0.length * 4, none⟩), .string key] w fun r w' => (inK key h.ks = true ∧ r = .returned (.bool false) ∧ Below w.heap.size w w') ∨ (inK key h.ks = false ∧ r = .returned (.bool true) ∧ ∃ kv mv, ST w' rb (.slice (some ⟨ob, 0, none⟩) n cap) (hs0 ++ [hkey h kv mv key]) ∧ Mr rb (.slice (some ⟨ob, 0, none⟩) n cap) (hs0 ++ [h]) w (.slice (some ⟨ob, 0, none⟩) n cap) (hs0 ++ [hkey h kv mv key]) w') := by
 cases hin : inK key h.ks
 ·have hh := hst.ho h (by simp)
  rcases hh.map with ⟨e, _⟩ | ⟨mb, D, e, _⟩
  ·exact (keep_nil rb ob n cap hs0 h key w hst hkz hn e hrb).mono fun r w' hr => Or.inr ⟨rfl, hr.1, hr.2⟩
  ·refine (keep_some rb ob n cap hs0 h key w mb hst hkz hn (by rw [hsn]; exact hn) (by rw [hsn]; exact hin) e hrb).mono fun r w' hr => Or.inr ⟨rfl, hr.1, ?_⟩
   obtain ⟨kv, h1, h2⟩ := hr.2
   exact ⟨kv, _, h1, h2⟩
 ·exact (keep_no rb ob n cap hs0 h key w hst hkz (by rw [hsn]; exact hin)).mono fun r w' hr => Or.inl ⟨rfl, hr.1, hr.2⟩
end Go.Proofs.YtjakgdaodlgeaaaGreatDoor
