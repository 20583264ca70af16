/-
  A value that json's reader puts behind the others: the append, the seven stores, the list's own store. Conditions: none.
-/
import Derived.Test.YtjakgdaodlgeaaaGreatDoorJoined31
import Derived.Laws.OwnMore
import Derived.Deep.AppendLies
import Derived.Deep.RegionLaw
import Derived.Deep.CutRange
namespace Go.Proofs.YtjakgdaodlgeaaaGreatDoor
open Go.RowKit Go.Maps

theorem infoV : (Tryz.prog.info? 31).map (fun i => (i.zero, i.size, i.bytes)) = some (some (.agg #[.int .i64 0, .bool false, .string ⟨#[]⟩, .int .i64 0, .string ⟨#[]⟩, .slice none 0 0, .slice none 0 0]), 7, 104) := by kernel_rfl
theorem VI.lit {w : World} {X : Nat → Prop} {x : JV} {f : Nat → Value} (h : VI w X x f) : ∃ k n g e t a1 n1 c1 a2 n2 c2, va f = .agg #[.int .i64 k, .bool n, .string g, .int .i64 e, .string t, .slice a1 n1 c1, .slice a2 n2 c2] ∧ seven f = [.int .i64 k, .bool n, .string g, .int .i64 e, .string t, .slice a1 n1 c1, .slice a2 n2 c2] := by
 cases h with
 | mk ao cap G f0 f1 f2 f3 f4 f5 f6 hc hs hw hl hr =>
  obtain ⟨ko, kc, e6, _⟩ := f6
  exact ⟨_, _, _, _, _, _, _, _, _, _, _, by unfold va; rw [f0, f1, f2, f3, f4, f5, e6], by unfold seven; rw [f0, f1, f2, f3, f4, f5, e6]⟩
theorem set_comm (w : World) (a b : Addr) (u v : Value) (h : a.block ≠ b.block) : (w.setCell a u).setCell b v = (w.setCell b v).setCell a u := by
 simp only [World.setCell]
 congr 1
 apply Array.ext
 ·simp
 ·intro i h1 h2
  simp only [Array.getElem_modify]
  by_cases e1 : a.block = i
  ·have e2 : ¬ b.block = i := fun e => h (e1.trans e.symm)
   simp [e1, e2]
  ·simp [e1]
abbrev set7r (w : World) (g o : Nat) (a0 a1 a2 a3 a4 a5 a6 : Value) : World := ((((((w.setCell ⟨g, o, none⟩ a0).setCell ⟨g, o + 1, none⟩ a1).setCell ⟨g, o + 2, none⟩ a2).setCell ⟨g, o + 3, none⟩ a3).setCell ⟨g, o + 4, none⟩ a4).setCell ⟨g, o + 5, none⟩ a5).setCell ⟨g, o + 6, none⟩ a6
theorem set7r_comm (w : World) (g o : Nat) (a0 a1 a2 a3 a4 a5 a6 : Value) (p : Addr) (u : Value) (h : p.block ≠ g) : set7r (w.setCell p u) g o a0 a1 a2 a3 a4 a5 a6 = (set7r w g o a0 a1 a2 a3 a4 a5 a6).setCell p u := by
 unfold set7r
 rw [set_comm w p ⟨g, o, none⟩ u a0 h, set_comm _ p ⟨g, o + 1, none⟩ u a1 h, set_comm _ p ⟨g, o + 2, none⟩ u a2 h, set_comm _ p ⟨g, o + 3, none⟩ u a3 h, set_comm _ p ⟨g, o + 4, none⟩ u a4 h, set_comm _ p ⟨g, o + 5, none⟩ u a5 h, set_comm _ p ⟨g, o + 6, none⟩ u a6 h]
theorem set_seven (xs : List Value) (o : Nat) (ho : xs.length = o) (z0 z1 z2 z3 z4 z5 z6 a0 a1 a2 a3 a4 a5 a6 : Value) :
  ((((((((xs ++ [z0, z1, z2, z3, z4, z5, z6]).set o a0).set (o + 1) a1).set (o + 2) a2).set (o + 3) a3).set (o + 4) a4).set (o + 5) a5).set (o + 6) a6) = xs ++ [a0, a1, a2, a3, a4, a5, a6] := by
 subst ho
 simp [List.set_append_right]
theorem row_put {w : World} {B : Nat} {e : TypeId} {g n cap : Nat} {xs : List Value} (h : w.ownsRow B e 7 (.slice (some ⟨g, 0, none⟩) (n + 1) cap) (n + 1) (xs ++ zV7.toList)) (hx : xs.length = n * 7) (a0 a1 a2 a3 a4 a5 a6 : Value) :
  (set7r w g (n * 7) a0 a1 a2 a3 a4 a5 a6).ownsRow B e 7 (.slice (some ⟨g, 0, none⟩) (n + 1) cap) (n + 1) (xs ++ [a0, a1, a2, a3, a4, a5, a6]) ∧ w.grownBy (set7r w g (n * 7) a0 a1 a2 a3 a4 a5 a6) (some g) := by
 have h0 := h.stored (n * 7) a0
 have h1 := h0.1.stored (n * 7 + 1) a1
 have h2 := h1.1.stored (n * 7 + 2) a2
 have h3 := h2.1.stored (n * 7 + 3) a3
 have h4 := h3.1.stored (n * 7 + 4) a4
 have h5 := h4.1.stored (n * 7 + 5) a5
 have h6 := h5.1.stored (n * 7 + 6) a6
 refine ⟨?_, (((((h0.2.trans h1.2).trans h2.2).trans h3.2).trans h4.2).trans h5.2).trans h6.2⟩
 have e : (xs ++ zV7.toList) = xs ++ [.int .i64 0, .bool false, .string ⟨#[]⟩, .int .i64 0, .string ⟨#[]⟩, .slice none 0 0, .slice none 0 0] := rfl
 have := h6.1
 rw [e, set_seven xs (n * 7) hx] at this
 exact this
theorem step_addv {w : World} {ops : Array Oper} {o : Oper} {a : Act} {K : Act → World → Prop} {Q : Exit → Act → World → Prop} {E : Prop} (hgd : o.guard = none) (s x : Operand)
  (ho : o.op = .call { callee := .builtin .append, args := #[s, x], argTypes := #[28, 28] }) (B : Nat) (lv : Value) (vs : List PV) (hs : a.eval s = lv) (b0 : Nat) (hx : a.eval x = .slice (some ⟨b0, 0, none⟩) 1 1)
  (hn : vs.length ≤ 1048576) (hown : w.ownsRow B 31 7 lv vs.length (flat7 vs)) (hT : Bj w b0 zV7) (hB : B ≤ w.heap.size)
  (h : ∀ g cap w', w'.ownsRow B 31 7 (.slice (some ⟨g, 0, none⟩) (vs.length + 1) cap) (vs.length + 1) (flat7 vs ++ zV7.toList) → w.grownBy w' lv.ownBlock → (lv.ownBlock = some g ∨ g = w.heap.size) → K (a.put o.dst (.slice (some ⟨g, 0, none⟩) (vs.length + 1) cap)) w') :
  if Region.wanted o (yielded ops a.tmps) = true then Oper.wp Tryz.prog o a w K Q else E := by
 obtain ⟨i0, hi, hz0, hz1, hz2⟩ := info_parts infoV
 refine step_append_lies (P := Tryz.prog) w hgd s x 28 ho B 31 i0 _ 7 104 Tryz.underlying28 hi hz0 hz1 hz2 rfl (by decide) lv vs.length (flat7 vs) hs hown ⟨b0, 0, none⟩ 1 1 zV7.toList hx rfl (fun j u hj => ?_) (fun u hu => ?_) (by decide) (by unfold maxLen; omega) (by omega) hB w.heap.size rfl (fun g cap w' h1 h2 h3 _ => h g cap w' h1 h2 h3)
 ·rw [addZ, hT.cell j]
  simpa using hj
 ·simp only [zV7, List.mem_cons, List.not_mem_nil, or_false] at hu
  rcases hu with rfl | rfl | rfl | rfl | rfl | rfl | rfl <;> rfl
theorem add_done [Ex] {W : World} {l : List UInt8} {v : Value} {lm : Nat → Int} {rb : Nat} {s : SS} {ob n cap : Nat} {hs0 : List HC} {h : HC} {wr A w' : World} {x : JV} {f : Nat → Value} {g c : Nat} (hJ : JR W l v lm rb s (.slice (some ⟨ob, 0, none⟩) n cap) (hs0 ++ [h]) wr) (hvi : VI wr (mX rb (.slice (some ⟨ob, 0, none⟩) n cap) (hs0 ++ [h])) x f) (hb : Below wr.heap.size wr A)
  (ho : w'.ownsRow (rb + 1) 31 7 (.slice (some ⟨g, 0, none⟩) (h.vs.length + 1) c) (h.vs.length + 1) (flat7 h.vs ++ zV7.toList)) (hg : A.grownBy w' h.lv.ownBlock) (h4 : h.lv.ownBlock = some g ∨ g = A.heap.size) (hn : h.vs.length < s.i) (a0 a1 a2 a3 a4 a5 a6 : Value) (hf : seven f = [a0, a1, a2, a3, a4, a5, a6]) :
  JR W l v lm rb (addV x s) (.slice (some ⟨ob, 0, none⟩) n cap) (hs0 ++ [hvl h (.slice (some ⟨g, 0, none⟩) (h.vs.length + 1) c) x f]) ((set7r w' g (h.vs.length * 7) a0 a1 a2 a3 a4 a5 a6).setCell ⟨ob, hs0.length * 4 + 1, none⟩ (.slice (some ⟨g, 0, none⟩) (h.vs.length + 1) c)) ∧
  Mv rb (.slice (some ⟨ob, 0, none⟩) n cap) (hs0 ++ [h]) wr (.slice (some ⟨ob, 0, none⟩) n cap) (hs0 ++ [hvl h (.slice (some ⟨g, 0, none⟩) (h.vs.length + 1) c) x f]) ((set7r w' g (h.vs.length * 7) a0 a1 a2 a3 a4 a5 a6).setCell ⟨ob, hs0.length * 4 + 1, none⟩ (.slice (some ⟨g, 0, none⟩) (h.vs.length + 1) c)) := by
 obtain ⟨r1, r2⟩ := row_put ho (flat7_len h.vs) a0 a1 a2 a3 a4 a5 a6
 rw [← hf] at r1
 have hJA := hJ.bl hb
 have hgg : A.grownBy (set7r w' g (h.vs.length * 7) a0 a1 a2 a3 a4 a5 a6) h.lv.ownBlock := by
  rcases h4 with h4 | h4
  ·rw [← h4] at r2; exact hg.trans r2
  ·refine ⟨r2.os.trans hg.os, r2.tape.trans hg.tape, r2.output.trans hg.output, Nat.le_trans hg.size r2.size, fun i hi hne => (r2.block i (Nat.lt_of_lt_of_le hi hg.size) (fun e => ?_)).trans (hg.block i hi hne)⟩
   injection e with e
   omega
 have hh4 : (Value.slice (some ⟨g, 0, none⟩) (h.vs.length + 1) c).ownBlock = h.lv.ownBlock ∨ (Value.slice (some ⟨g, 0, none⟩) (h.vs.length + 1) c).ownBlock = some A.heap.size := by
  rcases h4 with h4 | h4
  ·exact Or.inl h4.symm
  ·exact Or.inr (by rw [h4]; rfl)
 obtain ⟨s1, s2⟩ := hJA.st.addVal (hvi.kept hb) r1 hgg hh4
 exact ⟨hJA.addVal s1 s2 hn, (Mv.bel (Mv.refl _ _ _ _) hb).trans s2.mv⟩
theorem Bj.newz (w : World) (T : TypeId) : Bj (w.alloc (.cells #[.int .i64 0, .bool false, .string ⟨#[]⟩, .int .i64 0, .string ⟨#[]⟩, .slice none 0 0, .slice none 0 0] T)) w.heap.size zV7 := Bj.new _ _ _
theorem app_facts [Ex] {wr A w9 : World} {rb ob n cap cb : Nat} {hs0 : List HC} {h : HC} {g c : Nat} {cs : Array Value} (hst : ST wr rb (.slice (some ⟨ob, 0, none⟩) n cap) (hs0 ++ [h])) (hb : Below wr.heap.size wr A) (ho : w9.ownsRow (rb + 1) 31 7 (.slice (some ⟨g, 0, none⟩) (h.vs.length + 1) c) (h.vs.length + 1) (flat7 h.vs ++ zV7.toList)) (hg : A.grownBy w9 h.lv.ownBlock) (h4 : h.lv.ownBlock = some g ∨ g = A.heap.size) (hE : Ex.E cb) (hcb : Bj wr cb cs) :
  (g ≠ ob ∧ g ≠ cb ∧ ob ≠ cb) ∧ (w9.frozen? ⟨g, h.vs.length * 7, none⟩ = false ∧ w9.frozen? ⟨g, h.vs.length * 7 + 1, none⟩ = false ∧ w9.frozen? ⟨g, h.vs.length * 7 + 2, none⟩ = false ∧ w9.frozen? ⟨g, h.vs.length * 7 + 3, none⟩ = false ∧ w9.frozen? ⟨g, h.vs.length * 7 + 4, none⟩ = false ∧ w9.frozen? ⟨g, h.vs.length * 7 + 5, none⟩ = false ∧ w9.frozen? ⟨g, h.vs.length * 7 + 6, none⟩ = false) ∧
  (w9.cell? ⟨g, h.vs.length * 7, none⟩ = some (.int .i64 0) ∧ w9.cell? ⟨g, h.vs.length * 7 + 1, none⟩ = some (.bool false) ∧ w9.cell? ⟨g, h.vs.length * 7 + 2, none⟩ = some (.string ⟨#[]⟩) ∧ w9.cell? ⟨g, h.vs.length * 7 + 3, none⟩ = some (.int .i64 0) ∧ w9.cell? ⟨g, h.vs.length * 7 + 4, none⟩ = some (.string ⟨#[]⟩) ∧ w9.cell? ⟨g, h.vs.length * 7 + 5, none⟩ = some (.slice none 0 0) ∧ w9.cell? ⟨g, h.vs.length * 7 + 6, none⟩ = some (.slice none 0 0)) ∧
  Bj w9 cb cs ∧ w9.cell? ⟨ob, hs0.length * 4 + 1, none⟩ = some h.lv ∧ w9.frozen? ⟨ob, hs0.length * 4 + 1, none⟩ = false := by
 have hob : ob ∈ muts (.slice (some ⟨ob, 0, none⟩) n cap) hs0 := mem_mutsO (by simp [Value.ownBlock])
 have hob' : ob ∈ muts (.slice (some ⟨ob, 0, none⟩) n cap) (hs0 ++ [h]) := by rw [muts_snoc]; exact List.mem_append_left _ hob
 have hnd := hst.nd
 rw [muts_snoc] at hnd
 have hobn : h.lv.ownBlock ≠ some ob := fun e => (nodup_parts hnd).2.2 ob hob (mem_own_l e)
 have holt := (hst.lt ob hob').2
 have hlvm : ∀ b, h.lv.ownBlock = some b → b ∈ muts (.slice (some ⟨ob, 0, none⟩) n cap) (hs0 ++ [h]) := fun b e => by rw [muts_snoc]; exact List.mem_append_right _ (mem_own_l e)
 have hA := hb.size
 have hcbl := hcb.lt
 have hlvc : h.lv.ownBlock ≠ some cb := fun e => hst.ex cb (hlvm cb e) hE
 have hgo : g ≠ ob := fun e => by
  rcases h4 with h4 | h4
  ·exact hobn (by rw [h4, e])
  ·omega
 have hgc : g ≠ cb := fun e => by
  rcases h4 with h4 | h4
  ·exact hlvc (by rw [h4, e])
  ·omega
 have hoc : ob ≠ cb := fun e => hst.ex ob hob' (e ▸ hE)
 have hcell : ∀ j u, zV7.toList[j]? = some u → w9.cell? ⟨g, h.vs.length * 7 + j, none⟩ = some u := fun j u hu => by
  refine own_cell ho (h.vs.length * 7 + j) u ?_
  rw [List.getElem?_append_right (by rw [flat7_len]; omega), flat7_len]
  rw [← hu]; congr 1; omega
 refine ⟨⟨hgo, hgc, hoc⟩, ⟨ho.frozenAt _, ho.frozenAt _, ho.frozenAt _, ho.frozenAt _, ho.frozenAt _, ho.frozenAt _, ho.frozenAt _⟩, ⟨hcell 0 _ rfl, hcell 1 _ rfl, hcell 2 _ rfl, hcell 3 _ rfl, hcell 4 _ rfl, hcell 5 _ rfl, hcell 6 _ rfl⟩, ?_, ?_, ?_⟩
 ·obtain ⟨T, hT⟩ := hcb.bel hb
  exact ⟨T, (hg.block cb (by omega) (fun e => hlvc e.symm)).trans hT⟩
 ·have := hcell_at (hst.bel hb) 1 h.lv rfl
  rw [← this]
  exact World.cell?_of_block (w := A) (w' := w9) (hg.block ob (by omega) (fun e => hobn e.symm))
 ·have := hfrz_at (hst.bel hb) (hs0.length * 4 + 1)
  unfold World.frozen? at this ⊢
  rw [hg.block ob (by omega) (fun e => hobn e.symm)]; exact this
theorem take_fov {l : List UInt8} {i : Nat} {t : Lx.Tok} (h : takeS fov l i = .ok t) : ¬ (sgnB t sgE = true ∨ sgnB t sgF = true) := by
 have key : t.kind = 4 → t.text ≠ [93] ∧ t.text ≠ [125] := fun hk => by
  unfold takeS takeL at h
  split at h
  ·rename_i hh
   generalize Lx.pass l Lx.blankB i = p at *
   have hlt := Lx.hasAt_lt hh
   unfold Lx.nextL Lx.readL at h
   generalize hq : Lx.pass l Lx.blankB p = q at *
   by_cases hz : q = l.length
   ·rw [if_pos hz] at h; injection h with h; rw [← h] at hk; simp at hk
   ·rw [if_neg hz] at h
    by_cases hsg : Lx.signB (Lx.bx l q) = true
    ·rw [if_pos hsg] at h; injection h with h
     have hm : may fov (Lx.bx l p) = true := by rw [Lx.hasAt_in _ hlt] at hh; exact hh
     have hqp : q = p := by
      rw [← hq]
      apply Lx.pass_stop
      rw [Lx.hasAt_in _ hlt]
      cases hb : Lx.blankB (Lx.bx l p)
      ·rfl
      ·exfalso
       simp only [Lx.blankB, Bool.or_eq_true, beq_iff_eq] at hb
       rcases hb with ((hb | hb) | hb) | hb <;> (rw [hb] at hm; revert hm; decide)
     subst hqp
     have e : t.text = Lx.sub l q (q + 1) := by rw [← h]
     have e1 : Lx.sub l q (q + 1) = [l[q]] := by
      unfold Lx.sub
      rw [show q + 1 - q = 1 by omega, List.drop_eq_getElem_cons hlt]
      rfl
     have e2 : Lx.bx l q = (l[q].toNat : Int) := by simp [Lx.bx, hlt]
     rw [e, e1]
     refine ⟨fun hc => ?_, fun hc => ?_⟩
     ·have hc : l[q] = 93 := by simpa using hc
      rw [e2, hc] at hm; revert hm; decide
     ·have hc : l[q] = 125 := by simpa using hc
      rw [e2, hc] at hm; revert hm; decide
    ·rw [if_neg hsg] at h
     exfalso
     have hst : ∀ (kd : Nat) (y : Lx.Pl), kd ≠ 4 → Lx.stands kd l q y = .ok t → False := fun kd y hkd hy => by
      cases y with
      | error e => simp [Lx.stands] at hy
      | ok e => simp only [Lx.stands] at hy; injection hy with hy; rw [← hy] at hk; exact hkd hk
     split at h
     ·exact hst 3 _ (by decide) h
     ·split at h
      ·exact hst 3 _ (by decide) h
      ·split at h
       ·exact hst 3 _ (by decide) h
       ·split at h
        ·exact hst 2 _ (by decide) h
        ·split at h
         ·have := (Lx.textF_gt _ h).2.2.1; omega
         ·cases h
  ·cases h
 rintro (h1 | h1)
 ·unfold sgnB isL jeqT at h1
  simp only [decide_eq_true_eq] at h1
  obtain ⟨h2, h3, _⟩ := h1
  refine (key (by omega)).1 ?_
  have : (⟨t.text.toArray⟩ : ByteArray).data.toList = sgE.data.toList := by rw [show (⟨t.text.toArray⟩ : ByteArray) = sgE from h3]
  simpa [sgE] using this
 ·unfold sgnB isL jeqT at h1
  simp only [decide_eq_true_eq] at h1
  obtain ⟨h2, h3, _⟩ := h1
  refine (key (by omega)).2 ?_
  have : (⟨t.text.toArray⟩ : ByteArray).data.toList = sgF.data.toList := by rw [show (⟨t.text.toArray⟩ : ByteArray) = sgF from h3]
  simpa [sgF] using this
end Go.Proofs.YtjakgdaodlgeaaaGreatDoor
