/-
  What opening, closing and turning do to what json's reader holds open; the reader's state. No condition.
-/
import Derived.Test.YtjakgdaodlgeaaaGreatDoorJoined22
import Derived.Test.YtjakgdaodlgeaaaGreatDoorJoined21
namespace Go.Proofs.YtjakgdaodlgeaaaGreatDoor
open Go.RowKit Go.Maps

theorem ST.upd0 [Ex] {w w' : World} {rb : Nat} {ov : Value} {hs0 : List HC} {h h' : HC} (hst : ST w rb ov (hs0 ++ [h])) (hcells : h'.cells = h.cells)
  (hg : But (fun b => b ∈ h.own) w w') (hho : ∀ X' : Nat → Prop, X' = mX rb ov (hs0 ++ [h']) → HO w' (rb + 1) X' h') (hown : ∀ b ∈ h'.own, b ∈ h.own ∨ w.heap.size ≤ b) (hnd : h'.own.Nodup) (hk : h'.k = h.k) :
  ST w' rb ov (hs0 ++ [h']) ∧ Mr rb ov (hs0 ++ [h]) w ov (hs0 ++ [h']) w' := by
 have hnd0 := hst.nd
 rw [muts_snoc] at hnd0
 obtain ⟨n1, n2, n3⟩ := nodup_parts hnd0
 have hlt := hst.lt
 have hS : ∀ b, b ∈ muts ov (hs0 ++ [h']) → b ∈ muts ov (hs0 ++ [h]) ∨ w.heap.size ≤ b := fun b hb => by
  rw [muts_snoc, List.mem_append] at hb ⊢
  rcases hb with hb | hb
  ·exact Or.inl (Or.inl hb)
  ·rcases hown b hb with hb | hb
   ·exact Or.inl (Or.inr hb)
   ·exact Or.inr hb
 have hM : Mv rb ov (hs0 ++ [h]) w ov (hs0 ++ [h']) w' :=
  ⟨hg.mono fun b hb => Or.inr (by rw [muts_snoc]; exact List.mem_append_right _ hb), hS⟩
 have hex : ∀ b ∈ muts ov (hs0 ++ [h']), ¬ Ex.E b := fun b hb e => by
  rcases hS b hb with h1 | h1
  ·exact hst.ex b h1 e
  ·have := hst.exlt b e; omega
 refine ⟨⟨?_, ?_, ?_, ?_, hex, fun b hb => Nat.lt_of_lt_of_le (hst.exlt b hb) hM.but.size⟩, ⟨hM, fun hl => hg.block rb hl (fun e => by have := (hlt rb (by rw [muts_snoc]; exact List.mem_append_right _ e)).1; omega)⟩⟩
 ·have e : flatH (hs0 ++ [h']) = flatH (hs0 ++ [h]) := by rw [flatH_app, flatH_app, flatH_one', flatH_one', hcells]
  rw [e, show (hs0 ++ [h']).length = (hs0 ++ [h]).length by simp]
  refine own_keep hst.row fun b hb => ?_
  have hb1 : b ∈ muts ov hs0 := mem_mutsO hb
  exact hg.block b (hlt b (by rw [muts_snoc]; exact List.mem_append_left _ hb1)).2 (n3 b hb1)
 ·rw [muts_snoc, List.nodup_append]
  refine ⟨n1, hnd, fun x hx y hy e => ?_⟩
  subst e
  rcases hown x hy with hy | hy
  ·exact n3 x hx hy
  ·have := (hlt x (by rw [muts_snoc]; exact List.mem_append_left _ hx)).2; omega
 ·intro x hx
  rcases List.mem_append.1 hx with hx | hx
  ·refine (hst.ho x (List.mem_append_left _ hx)).keep (fun b hb => ?_) (fun b hb hl => hM.out hb hl)
   have hb1 : b ∈ muts ov hs0 := mem_muts hx hb
   exact hg.block b (hlt b (by rw [muts_snoc]; exact List.mem_append_left _ hb1)).2 (n3 b hb1)
  ·obtain rfl : x = h' := by simpa using hx
   exact hho _ rfl
 ·intro x hx
  rcases List.mem_append.1 hx with hx | hx
  ·exact hst.kd x (List.mem_append_left _ hx)
  ·obtain rfl : x = h' := by simpa using hx
   rw [hk]; exact hst.kd h (by simp)
def h0 (k : Int) : HC := ⟨k, [], [], .slice none 0 0, .slice none 0 0, .map none, []⟩
theorem h0_own (k : Int) : (h0 k).own = [] := by simp [h0, HC.own, Value.ownBlock, mblk]
theorem h0_ho (w : World) (B : Nat) (X : Nat → Prop) (k : Int) : HO w B X (h0 k) :=
 ⟨World.ownsRow_nil w B _ 7, fun p hp => by simp [h0] at hp, World.ownsRow_nil w B _ 1, fun s hs => by simp [h0] at hs, Or.inl ⟨rfl, rfl⟩⟩
theorem ST.opened [Ex] {w w' : World} {rb : Nat} {ov ov' : Value} {hs : List HC} {k : Int} (hst : ST w rb ov hs) (hk : k = 5 ∨ k = 6)
  (hrow : w'.ownsRow (rb + 1) 100 4 ov' (hs.length + 1) (flatH hs ++ [.int .i64 k, .slice none 0 0, .slice none 0 0, .map none])) (hg : w.grownBy w' ov.ownBlock) (h4 : ov'.ownBlock = ov.ownBlock ∨ ov'.ownBlock = some w.heap.size) :
  ST w' rb ov' (hs ++ [h0 k]) ∧ Mv rb ov hs w ov' (hs ++ [h0 k]) w' := by
 have hlt := hst.lt
 have e1 : muts ov' (hs ++ [h0 k]) = ov'.ownBlock.toList ++ hs.flatMap HC.own := by
  rw [muts_snoc, h0_own, List.append_nil]; rfl
 have hnd := hst.nd
 unfold muts at hnd
 obtain ⟨n1, n2, n3⟩ := nodup_parts hnd
 have hsub : ∀ b, b ∈ muts ov' (hs ++ [h0 k]) → b ∈ muts ov hs ∨ w.heap.size ≤ b := fun b hb => by
  rw [e1, List.mem_append] at hb
  rcases hb with hb | hb
  ·rcases h4 with h4 | h4
   ·rw [h4] at hb; exact Or.inl (mem_mutsO hb)
   ·rw [h4] at hb; simp at hb; exact Or.inr (by omega)
  ·unfold muts; rw [List.mem_append]; exact Or.inl (Or.inr hb)
 have hM : Mv rb ov hs w ov' (hs ++ [h0 k]) w' :=
  ⟨⟨hg.os, hg.tape, hg.output, hg.size, fun i hi hx => hg.block i hi (fun e => hx (Or.inr (mem_mutsO (by rw [← e]; simp))))⟩, hsub⟩
 have hex : ∀ b ∈ muts ov' (hs ++ [h0 k]), ¬ Ex.E b := fun b hb e => by
  rcases hsub b hb with h1 | h1
  ·exact hst.ex b h1 e
  ·have := hst.exlt b e; omega
 refine ⟨⟨?_, ?_, ?_, ?_, hex, fun b hb => Nat.lt_of_lt_of_le (hst.exlt b hb) hM.but.size⟩, hM⟩
 ·rw [flatH_app, flatH_one, List.length_append]
  exact hrow
 ·rw [e1, List.nodup_append]
  refine ⟨by cases ov'.ownBlock <;> simp, n2, fun x hx y hy e => ?_⟩
  subst e
  rcases h4 with h4 | h4
  ·rw [h4] at hx; exact n3 x hx hy
  ·rw [h4] at hx
   simp at hx
   have := (hlt x (by unfold muts; rw [List.mem_append]; exact Or.inr hy)).2
   omega
 ·intro x hx
  rcases List.mem_append.1 hx with hx | hx
  ·refine (hst.ho x hx).keep (fun b hb => ?_) (fun b hb hl => hM.out hb hl)
   have hb1 : b ∈ hs.flatMap HC.own := List.mem_flatMap.2 ⟨x, hx, hb⟩
   refine hg.block b (hlt b (mem_muts hx hb)).2 (fun e => ?_)
   exact n3 b (by rw [← e]; simp) hb1
  ·obtain rfl : x = h0 k := by simpa using hx
   exact h0_ho _ _ _ _
 ·intro x hx
  rcases List.mem_append.1 hx with hx | hx
  ·exact hst.kd x hx
  ·obtain rfl : x = h0 k := by simpa using hx
   exact hk
def hval (h : HC) : JV := .mk h.k false ⟨#[]⟩ 0 ⟨#[]⟩ (h.vs.map (·.1)) h.ks
def hcel (h : HC) : Nat → Value := fun i => [Value.int .i64 h.k, .bool false, .string ⟨#[]⟩, .int .i64 0, .string ⟨#[]⟩, h.lv, h.kv].getD i .nilIface
theorem own_shape {w : World} {B : Nat} {e : TypeId} {size : Nat} {v : Value} {n : Nat} {xs : List Value} (h : w.ownsRow B e size v n xs) : ∃ ao cap, v = .slice ao n cap ∧ n ≤ cap ∧ cap ≤ maxLen := by
 rcases h.2 with ⟨rfl, rfl⟩ | ⟨g, cap, cur, rfl, _, _, h1, h2, _⟩
 ·exact ⟨none, 0, rfl, Nat.le_refl _, by unfold maxLen; omega⟩
 ·exact ⟨_, cap, rfl, h1, h2⟩
theorem addZ (b n : Nat) : (Addr.mk b 0 none).add n = ⟨b, n, none⟩ := by
 unfold Addr.add
 split
 ·rename_i h; subst h; rfl
 ·simp
theorem own_cell {w : World} {B : Nat} {e : TypeId} {size : Nat} {g n cap : Nat} {xs : List Value} (h : w.ownsRow B e size (.slice (some ⟨g, 0, none⟩) n cap) n xs) (j : Nat) (u : Value) (hj : xs[j]? = some u) : w.cell? ⟨g, j, none⟩ = some u := by
 have := World.ownsRow.cells h (g := g) rfl j u hj
 rw [addZ] at this
 exact this
theorem ST.closed [Ex] {w : World} {rb : Nat} {ob cap n : Nat} {hs0 : List HC} {h : HC} (hst : ST w rb (.slice (some ⟨ob, 0, none⟩) n cap) (hs0 ++ [h])) :
  ST w rb (.slice (some ⟨ob, 0, none⟩) hs0.length cap) hs0 ∧ VI w (mX rb (.slice (some ⟨ob, 0, none⟩) hs0.length cap) hs0) (hval h) (hcel h) ∧ Mv rb (.slice (some ⟨ob, 0, none⟩) n cap) (hs0 ++ [h]) w (.slice (some ⟨ob, 0, none⟩) hs0.length cap) hs0 w := by
 have hnd0 := hst.nd
 rw [muts_snoc] at hnd0
 obtain ⟨n1, n2, n3⟩ := nodup_parts hnd0
 have hm : muts (.slice (some ⟨ob, 0, none⟩) hs0.length cap) hs0 = muts (.slice (some ⟨ob, 0, none⟩) n cap) hs0 := rfl
 have hsub : ∀ b, mX rb (.slice (some ⟨ob, 0, none⟩) hs0.length cap) hs0 b → mX rb (.slice (some ⟨ob, 0, none⟩) n cap) (hs0 ++ [h]) b := fun b hb => by
  rcases hb with hb | hb | hb
  ·exact Or.inl hb
  ·exact Or.inr (Or.inl hb)
  ·exact Or.inr (Or.inr (by rw [muts_snoc]; exact List.mem_append_left _ hb))
 have hh := hst.ho h (by simp)
 have hown : ∀ b ∈ h.own, ¬ mX rb (.slice (some ⟨ob, 0, none⟩) hs0.length cap) hs0 b := fun b hb e => by
  rcases e with e | e | e
  ·exact hst.ex b (by rw [muts_snoc]; exact List.mem_append_right _ hb) e
  ·have := (hst.lt b (by rw [muts_snoc]; exact List.mem_append_right _ hb)).1; omega
  ·exact n3 b e hb
 refine ⟨⟨?_, hm ▸ n1, fun x hx => (hst.ho x (List.mem_append_left _ hx)).keep (fun b _ => rfl) (fun b hb _ => ⟨rfl, fun e => hb (hsub b e)⟩), fun x hx => hst.kd x (List.mem_append_left _ hx), fun b hb => hst.ex b (by rw [muts_snoc]; exact List.mem_append_left _ hb), hst.exlt⟩, ?_, Mv.mk (But.refl _ _) (fun b hb => Or.inl (by rw [muts_snoc]; exact List.mem_append_left _ hb))⟩
 ·obtain ⟨r1, r2⟩ := hst.row
  rcases r2 with ⟨r2, _⟩ | ⟨g, cap', cur, r2, r3, r4, r5, r6, r7, r8⟩
  ·cases r2
  ·injection r2 with r2 r2n r2c
   injection r2 with r2
   injection r2 with r2 _ _
   subst r2 r2c
   refine ⟨flatH_len _, Or.inr ⟨ob, cap, cur, rfl, r3, r4, by simp at r5; omega, r6, r7, ?_⟩⟩
   have e : List.take (hs0.length * 4) (flatH (hs0 ++ [h])) = flatH hs0 := by rw [flatH_app, List.take_append_of_le_length (by rw [flatH_len]; exact Nat.le_refl _), List.take_of_length_le (by rw [flatH_len]; exact Nat.le_refl _)]
   rw [← e, ← r8, List.take_take]
   congr 1
   simp
 ·obtain ⟨ao, c1, e1, q1, q2⟩ := own_shape hh.row
  obtain ⟨ko, c2, e2, q3, q4⟩ := own_shape hh.krow
  have hkd : h.k = 5 ∨ h.k = 6 := hst.kd h (by simp)
  refine VI.mk ao c1 (fun i => ((h.vs.getD i (zeroJ 0, fun _ => .nilIface)).2)) rfl rfl rfl rfl rfl (by show h.lv = _; rw [e1]; simp) ?_ ⟨by simpa using q1, q2⟩ ⟨by decide, by decide⟩ ⟨by rcases hkd with e | e <;> rw [e] <;> decide, by decide⟩ ?_ ?_
  ·refine ⟨ko, c2, e2, q3, q4, fun s hs => Nat.le_trans (hh.ksz s hs) (by unfold maxLen; omega), ?_⟩
   rcases hh.krow.2 with ⟨_, hz⟩ | ⟨g, cap2, cur, e3, hB, _⟩
   ·exact Or.inl (List.eq_nil_of_length_eq_zero hz)
   ·rw [e2] at e3
    injection e3 with e3 _ e5
    subst e3 e5
    refine Or.inr ⟨g, 0, rfl, hown g (by unfold HC.own; rw [e2]; simp [Value.ownBlock]), fun i hi => ?_⟩
    have := own_cell (e2 ▸ hh.krow) i (.string h.ks[i]) (by simp [hi])
    rw [Nat.zero_add]
    exact this
  ·rcases hh.row.2 with ⟨_, hz⟩ | ⟨g, cap2, cur, e3, hB, _⟩
   ·exact Or.inl (by rw [List.eq_nil_of_length_eq_zero hz]; rfl)
   ·rw [e1] at e3
    injection e3 with e3 _ e5
    subst e3 e5
    refine Or.inr ⟨g, 0, rfl, hown g (by unfold HC.own; rw [e1]; simp [Value.ownBlock]), fun i hi j hj => ?_⟩
    have hi' : i < h.vs.length := by simpa using hi
    have := own_cell (e1 ▸ hh.row) (i * 7 + j) _ (flat7_at h.vs i j hi' hj)
    rw [Nat.zero_add, this, List.getD_eq_getElem?_getD, List.getElem?_eq_getElem hi']
    rfl
  ·intro i hi
   have hi' : i < h.vs.length := by simpa using hi
   have := hh.vis (h.vs[i]) (List.getElem_mem hi')
   rw [List.getElem_map]
   simp only [List.getD_eq_getElem?_getD, List.getElem?_eq_getElem hi', Option.getD_some]
   exact this.carry fun b hb _ => ⟨rfl, fun e => hb (hsub b e)⟩
def RF (v : Value) (lm : Nat → Int) (i : Nat) (ov : Value) (dp ps : Nat) : Nat → Value := fun j =>
 if j = 0 then v else if j = 1 then .int .i64 (i : Int) else if j = 7 then ov else if j = 8 then .int .i64 (dp : Int) else if j = 9 then .int .i64 (ps : Int) else .int .i64 (lm (j - 2))
theorem RF_i (v : Value) (lm : Nat → Int) (i i' : Nat) (ov : Value) (dp ps : Nat) : upd (RF v lm i ov dp ps) 1 (.int .i64 (i' : Int)) = RF v lm i' ov dp ps := by
 funext j; unfold upd RF; by_cases h : j = 1
 ·subst h; simp
 ·simp [h]
theorem RF_o (v : Value) (lm : Nat → Int) (i : Nat) (ov ov' : Value) (dp ps : Nat) : upd (RF v lm i ov dp ps) 7 ov' = RF v lm i ov' dp ps := by
 funext j; unfold upd RF; by_cases h : j = 7
 ·subst h; simp
 ·simp [h]
theorem RF_d (v : Value) (lm : Nat → Int) (i : Nat) (ov : Value) (dp dp' ps : Nat) : upd (RF v lm i ov dp ps) 8 (.int .i64 (dp' : Int)) = RF v lm i ov dp' ps := by
 funext j; unfold upd RF; by_cases h : j = 8
 ·subst h; simp
 ·simp [h]
theorem RF_p (v : Value) (lm : Nat → Int) (i : Nat) (ov : Value) (dp ps ps' : Nat) : upd (RF v lm i ov dp ps) 9 (.int .i64 (ps' : Int)) = RF v lm i ov dp ps' := by
 funext j; unfold upd RF; by_cases h : j = 9
 ·subst h; simp
 ·simp [h]
structure JR [Ex] (W : World) (l : List UInt8) (v : Value) (lm : Nat → Int) (rb : Nat) (s : SS) (ov : Value) (hs : List HC) (w : World) : Prop where
 rd : Rd w rb (RF v lm s.i ov s.dp s.ps)
 st : ST w rb ov hs
 eq : s.hs = hs.map fun h => (h.k, h.vs.map (·.1), h.ks)
 sn : ∀ h ∈ hs, h.sn = h.ks
 bel : Below W.heap.size W w
 lo : W.heap.size ≤ rb
 le : s.i ≤ l.length
 n1 : hs.length ≤ s.i
 n2 : ∀ h ∈ hs, h.vs.length ≤ s.i ∧ h.ks.length ≤ s.i
 n3 : s.dp ≤ s.i
end Go.Proofs.YtjakgdaodlgeaaaGreatDoor
