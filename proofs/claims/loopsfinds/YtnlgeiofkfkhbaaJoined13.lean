/-
  A place enters the path. Conditions: there is room.
-/
import Derived.Test.YtnlgeiofkfkhbaaJoined12
import Derived.Deep.RegionLaw
import Derived.BigRegion
namespace Go.Proofs.Ytnlgeiofkfkhbaa
open Go.RowKit Go.Maps Lg
attribute [local go_sem] setCell_drewN alloc_drewN

theorem Bk.new2 (w : World) (o : Obj) (cs : Array Value) (T : TypeId) : Bk ((w.alloc o).alloc (.cells cs T)) (w.heap.size + 1) cs := Bk.new' _ _ _ _ (by simp)
theorem own_ints_snoc {w : World} {B : Nat} {v : Value} {l : List Int} {y : Int} (h1 : w.ownsRow B 3 1 v (l.length + 1) (ivs l ++ [.int .i64 y])) (h2 : ∀ x ∈ l, I64 x) (hy : I64 y) : OwnI w B v (l ++ [y]) := by
 refine ⟨?_, fun z hz => ?_⟩
 ·have e : ivs (l ++ [y]) = ivs l ++ [.int .i64 y] := by simp [ivs]
  rw [e, List.length_append]
  exact h1
 ·rcases List.mem_append.1 hz with hz | hz
  ·exact h2 z hz
  ·simp at hz; exact hz ▸ hy
theorem loc_blk {w wc : World} {v : Value} {g n cap : Nat} (hl : v.ownBlock = some g ∨ wc.heap.size ≤ g) (hs : w.heap.size ≤ wc.heap.size) : ∀ b, (Value.slice (some ⟨g, 0, none⟩) n cap).ownBlock = some b → v.ownBlock = some b ∨ w.heap.size ≤ b := by
 intro b hb
 simp only [Value.ownBlock, Option.some.injEq] at hb
 subst hb
 exact hl.imp id (fun h => Nat.le_trans hs h)
theorem loc_ne {wc : World} {B : Nat} {v v2 : Value} {l2 : List Int} {g n cap : Nat} (o2 : OwnI wc B v2 l2) (hd : ∀ b, v.ownBlock = some b → v2.ownBlock ≠ some b) (hl : v.ownBlock = some g ∨ wc.heap.size ≤ g) : ∀ b, (Value.slice (some ⟨g, 0, none⟩) n cap).ownBlock = some b → v2.ownBlock ≠ some b := by
 intro b hb h2
 simp only [Value.ownBlock, Option.some.injEq] at hb
 subst hb
 rcases hl with h | h
 ·exact hd _ h h2
 ·have := (o2.lt h2).2; omega
/-- A number more in a row, as a step of a region that draws. -/
theorem step_app_i {w : World} {ops : Array Oper} {o : Oper} {a : Act} {K : Act → World → Prop} {Q : Exit → Act → World → Prop} {E : Prop} (hgd : o.guard = none) (s x : Operand)
  (ho : o.op = .call { callee := .builtin .append, args := #[s, x], argTypes := #[23, 23] }) (B : Nat) (v : Value) (l : List Int) (hs : a.eval s = v) (y : Int) (t : Nat) (hx : a.eval x = .slice (some ⟨t, 0, none⟩) 1 1)
  (hy : I64 y) (hn : l.length ≤ 1099511627776) (hB : B ≤ w.heap.size) (hown : OwnI w B v l) (hc : w.cell? ⟨t, 0, none⟩ = some (.int .i64 y))
  (h : ∀ g cap w', OwnI w' B (.slice (some ⟨g, 0, none⟩) (l.length + 1) cap) (l ++ [y]) → w.grownBy w' v.ownBlock → (v.ownBlock = some g ∨ w.heap.size ≤ g) → K (a.put o.dst (.slice (some ⟨g, 0, none⟩) (l.length + 1) cap)) w') :
  if Region.wanted o (yielded ops a.tmps) = true then Oper.wp Try.prog o a w K Q else E := by
 obtain ⟨i0, hi, hz0, hz1, hz2⟩ := info_parts infoInt
 refine step_append_lies (P := Try.prog) w hgd s x 23 ho B 3 i0 (.int .i64 0) 1 8 Try.underlying23 hi hz0 hz1 hz2 rfl (by decide) v l.length (ivs l) hs hown.1 ⟨t, 0, none⟩ 1 1 [.int .i64 y] hx rfl (fun j u hu => ?_) (ints_oneCell .i64 [y]) (by decide) (by unfold maxLen; omega) (by omega) hB w.heap.size rfl ?_
 ·cases j with
  | zero => simp at hu; subst hu; rw [add_at, Nat.add_zero]; exact hc
  | succ j => simp at hu
 ·intro g cap w' h1 h2 h3 h4
  exact h g cap w' (own_ints_snoc h1 hown.2 hy) h2 (h3.imp id (fun e => by omega))
theorem hgt_snoc {P : List Nat} {t : Nat} (h : t ∉ P) (x : Int) (hx : I64 x) : (if x = (t : Int) then some ((P.length : Nat) : Int) else hgt P x) = hgt (P ++ [t]) x := by
 unfold hgt
 by_cases e : x = (t : Int)
 ·subst e
  have h1 : (t : Int) ∈ il (P ++ [t]) := by simp [il]
  rw [if_pos rfl, if_pos h1]
  simp [List.idxOf_append, h]
 ·rw [if_neg e]
  by_cases k : x ∈ il P
  ·have k2 : x ∈ il (P ++ [t]) := by rw [il_append]; exact List.mem_append_left _ k
   rw [if_pos k, if_pos k2]
   have hm : x.toNat ∈ P := by
    unfold il at k
    obtain ⟨y, hy, rfl⟩ := List.mem_map.1 k
    simpa using hy
   rw [List.idxOf_append, if_pos hm]
  ·have k2 : ¬ x ∈ il (P ++ [t]) := by
    rw [il_append]
    intro h
    rcases List.mem_append.1 h with h | h
    ·exact k h
    ·simp [il] at h; exact e h
   rw [if_neg k, if_neg k2]
/-- What is no row of ints and lies at N or behind it is as it was. -/
def KF (N : Nat) (w w' : World) : Prop := ∀ k o, N ≤ k → w.heap[k]? = some o → (∀ cs f, o ≠ .cells cs 3 f) → w'.heap[k]? = some o
/-- What a search leaves of a world. -/
structure BX (e : SV) (w w' : World) : Prop where
 but : But e.X w w'
 kf : KF (e.B + 12) w w'
 kr : ∀ o, w.heap[e.B]? = some o → w'.heap[e.B]? = some o
theorem BX.refl (e : SV) (w : World) : BX e w w := ⟨But.refl _ _, fun _ _ _ h _ => h, fun _ h => h⟩
theorem BX.trans {e : SV} {a b c : World} (h : BX e a b) (k : BX e b c) : BX e a c := ⟨h.but.trans k.but, fun i o hi ho hn => k.kf i o hi (h.kf i o hi ho hn) hn, fun o ho => k.kr o (h.kr o ho)⟩
theorem BX.below {e : SV} {a b c : World} (h : BX e a b) (k : Below b.heap.size b c) : BX e a c := h.trans ⟨But.ofBelow k, fun i _ _ ho _ => (k.block i (Array.getElem?_eq_some_iff.1 ho).1).trans ho, fun _ ho => (k.block _ (Array.getElem?_eq_some_iff.1 ho).1).trans ho⟩
theorem BX.drew {e : SV} {a w : World} (h : BX e a w) : BX e a w.drew := ⟨h.but.drew, h.kf, h.kr⟩
theorem BX.of {e : SV} {X : Nat → Prop} {w w' : World} (h : But X w w') (hx : ∀ b, X b → e.X b) (hr : ∀ b, X b → ¬ e.S b) (hc : ∀ b, X b → b < e.B + 12 ∨ ∃ cs f, w.heap[b]? = some (.cells cs 3 f)) : BX e w w' := ⟨h.more hx, fun k o hk ho hn => (h.block k (Array.getElem?_eq_some_iff.1 ho).1 (fun hx => by
 rcases hc k hx with h1 | ⟨cs, f, h1⟩
 ·omega
 ·rw [h1] at ho
  injection ho with ho
  exact hn _ _ ho.symm)).trans ho, fun o ho => (h.block e.B (Array.getElem?_eq_some_iff.1 ho).1 (fun hx => hr _ hx (.inl rfl))).trans ho⟩
theorem OwnI.cls {w : World} {B : Nat} {v : Value} {l : List Int} (h : OwnI w B v l) {g : Nat} (hg : v.ownBlock = some g) : ∃ cs f, w.heap[g]? = some (.cells cs 3 f) := by
 rcases h.1.2 with ⟨rfl, -⟩ | ⟨g', c, cur, rfl, hb', hg', hrest⟩
 ·cases hg
 ·cases hg
  exact ⟨_, _, hg'⟩
/-- A place more on the path. -/
theorem SS.enter {w w' : World} {e : SV} {m : Nat} {R : Nat → List Nat} {P F fin A : List Nat} {ov : Bool} {t : Nat} {vp vf va vp' vf' : Value} {cnt : Nat} (c : SC w e m R)
  (ka : Bk w e.ab #[va]) (op : OwnI w (e.B + 12) vp (il P)) (of : OwnI w (e.B + 12) vf (il F)) (oa : OwnI w (e.B + 12) va (il A))
  (d2 : ∀ b, vp.ownBlock = some b → va.ownBlock ≠ some b) (d3 : ∀ b, vf.ownBlock = some b → va.ownBlock ≠ some b)
  (hcn : cnt ≤ P.length + fin.length) (lf : Bk w (e.B + 7) (lfs m fin)) (ko : Bk w (e.B + 9) #[.bool ov]) (kx : ∃ x, Bk w e.cy #[x] ∧ (e.stop = false → x = e.x0))
  (hb : But (fun b => b = e.B + 5 ∨ b = e.B + 3 ∨ b = e.B + 4 ∨ vp.ownBlock = some b ∨ vf.ownBlock = some b) w w')
  (kp' : Bk w' (e.B + 3) #[vp']) (kf' : Bk w' (e.B + 4) #[vf']) (op' : OwnI w' (e.B + 12) vp' (il (P ++ [t]))) (of' : OwnI w' (e.B + 12) vf' (il (F ++ [0])))
  (lp : ∀ b, vp'.ownBlock = some b → vp.ownBlock = some b ∨ w.heap.size ≤ b) (lv : ∀ b, vf'.ownBlock = some b → vf.ownBlock = some b ∨ w.heap.size ≤ b) (d1' : ∀ b, vp'.ownBlock = some b → vf'.ownBlock ≠ some b)
  (hm : PM w' (e.B + 5) (cnt + 1) (hgt (P ++ [t]))) : SS w' e m R (P ++ [t]) (F ++ [0]) fin A ov ∧ BX e w w' := by
 have lo := c.lo
 have hX : ∀ b, (b = e.B + 5 ∨ b = e.B + 3 ∨ b = e.B + 4 ∨ vp.ownBlock = some b ∨ vf.ownBlock = some b) → e.X b ∧ ¬ e.S b ∧ b ≠ e.B + 7 ∧ b ≠ e.B + 9 ∧ e.B ≤ b := by
  intro b h
  have : (b = e.B + 5 ∨ b = e.B + 3 ∨ b = e.B + 4 ∨ e.B + 12 ≤ b) := by
   rcases h with h | h | h | h | h
   ·exact .inl h
   ·exact .inr (.inl h)
   ·exact .inr (.inr (.inl h))
   ·exact .inr (.inr (.inr (op.lt h).1))
   ·exact .inr (.inr (.inr (of.lt h).1))
  unfold SV.X SV.S
  omega
 have hne : ∀ b, e.B > b ∨ b = e.B + 7 ∨ b = e.B + 9 → ¬ (b = e.B + 5 ∨ b = e.B + 3 ∨ b = e.B + 4 ∨ vp.ownBlock = some b ∨ vf.ownBlock = some b) := fun b h1 h => by
  have := hX b h
  omega
 obtain ⟨x, kx, hx⟩ := kx
 refine ⟨⟨c.but hb (fun b h => ⟨(hX b h).1, (hX b h).2.1⟩), ⟨vp', vf', va, kp', kf', ka.but hb (hne _ (.inl lo.1)), op', of', oa.but hb (fun g hg h => ?_), d1', fun b h1 h2 => ?_, fun b h1 h2 => ?_⟩, ⟨cnt + 1, hm, by simp; omega⟩, lf.but hb (hne _ (.inr (.inl rfl))), ko.but hb (hne _ (.inr (.inr rfl))), ⟨x, kx.but hb (hne _ (.inl lo.2.1)), hx⟩⟩, BX.of hb (fun b h => (hX b h).1) (fun b h => (hX b h).2.1) (fun b h => by
  rcases h with h | h | h | h | h
  ·exact .inl (by omega)
  ·exact .inl (by omega)
  ·exact .inl (by omega)
  ·exact .inr (op.cls h)
  ·exact .inr (of.cls h))⟩
 ·have := (oa.lt hg).1
  rcases h with h | h | h | h | h
  ·omega
  ·omega
  ·omega
  ·exact d2 _ h hg
  ·exact d3 _ h hg
 ·rcases lp b h1 with h | h
  ·exact d2 b h h2
  ·have := (oa.lt h2).2; omega
 ·rcases lv b h1 with h | h
  ·exact d3 b h h2
  ·have := (oa.lt h2).2; omega

set_option maxRecDepth 100000 in
set_option maxHeartbeats 3200000 in
theorem enter_any (e : SV) (m : Nat) (R : Nat → List Nat) (P F fin A : List Nat) (ov : Bool) (t : Nat) (w : World) (hm : m ≤ 1048576) (hF : F.length = P.length) (hl : P.length + fin.length ≤ m) (ht : t < m) (htP : t ∉ P) (hS : SS w e m R P F fin A ov) :
  Calls Try.prog 47 #[.int .i64 (t : Int), pt (e.B + 3), pt (e.B + 6), pt (e.B + 4)] w fun r w' => r = .returned (.tuple #[]) ∧ SS w' e m R (P ++ [t]) (F ++ [0]) fin A ov ∧ BX e w w' := by
 obtain ⟨Q0, hQ0⟩ : ∃ P' : Ending → World → Prop, P' = fun r w' => r = .returned (.tuple #[]) ∧ SS w' e m R (P ++ [t]) (F ++ [0]) fin A ov ∧ BX e w w' := ⟨_, rfl⟩
 rw [← hQ0]
 have HP := hid_intro hQ0
 obtain ⟨c, ⟨vp, vf, va, kp, kf, ka, op, of, oa, d1, d2, d3⟩, ⟨cnt, mp, hcn⟩, lf, ko, kx⟩ := hS
 have HEN := hid_intro (fun w' vp' vf' => SS.enter (w' := w') (t := t) (vp' := vp') (vf' := vf') c ka op of oa d2 d3 hcn lf ko kx)
 have HPM := hid_intro mp
 have HCN := hid_intro (show cnt < 17592186044416 by omega)
 have HT := hid_intro (show I64 (t : Int) ∧ I64 ((P.length : Nat) : Int) ∧ I64 0 from ⟨⟨by omega, by omega⟩, ⟨by omega, by omega⟩, by unfold I64; omega⟩)
 have HLP := hid_intro (show (il P).length ≤ 1099511627776 ∧ (il F).length ≤ 1099511627776 by rw [il_len, il_len]; omega)
 have HSZ := hid_intro c.sz
 have HOP := hid_intro op
 have HOF := hid_intro of
 have HKP := hid_intro kp
 have HKF := hid_intro kf
 have HD1 := hid_intro d1
 have HHG := hid_intro (fun x hx => hgt_snoc htP x hx)
 have hPI : ((P.length : Nat) : Int) ≤ 1048576 := by omega
 obtain ⟨po, pc, rfl, hp1, hp2, -, -⟩ := op.form
 obtain ⟨fo, fc, rfl, hf1, hf2, -, -⟩ := of.form
 have c0 := kp.q1
 have c1 := c.kh.q1
 rw [il_len] at c0 HOP HKP HEN HD1 hp1
 rw [il_len] at HOF HKF HEN HD1 hf1
 obtain ⟨B, ab, cy, K, stop, x0⟩ := e
 dsimp only [pt] at *
 have HS : Hid (∀ w', But (fun b => b = B + 5 ∨ (Value.slice po P.length pc).ownBlock = some b ∨ (Value.slice fo F.length fc).ownBlock = some b) w w' → (w'.cell? ⟨B + 3, 0, none⟩ = some (.slice po P.length pc) ∧ w'.frozen? ⟨B + 3, 0, none⟩ = false) ∧ (w'.cell? ⟨B + 4, 0, none⟩ = some (.slice fo F.length fc) ∧ w'.frozen? ⟨B + 4, 0, none⟩ = false)) := hid_intro (fun w' hb => by
  have k1 : Bk w' (B + 3) _ := HKP.out.but hb (fun h => by rcases h with h | h | h; omega; exact absurd (HOP.out.lt h).1 (by omega); exact absurd (HOF.out.lt h).1 (by omega))
  have k2 : Bk w' (B + 4) _ := HKF.out.but hb (fun h => by rcases h with h | h | h; omega; exact absurd (HOP.out.lt h).1 (by omega); exact absurd (HOF.out.lt h).1 (by omega))
  exact ⟨⟨k1.q1, k1.frz 0⟩, k2.q1, k2.frz 0⟩)
 clear hQ0 c kp kf ka op of oa d1 d2 d3 mp hcn lf ko kx hm hF hl ht htP hp1 hp2 hf1 hf2
 go_enter Try.func47, Try.ntmps47
 go_wp2_with (at_mapUpdate; refine wpList_put_pm rfl _ _ _ rfl (B + 5) cnt _ rfl HPM.out HCN.out (t : Int) ((P.length : Nat) : Int) rfl rfl HT.out.1 HT.out.2.1 ?_; intro w1 hm1 hg1; have HM1 := hid_intro hm1; have HG1 := hid_intro hg1; clear hm1 hg1 c0 c1)
 have HB1 : Hid (But (fun b => b = B + 5 ∨ (Value.slice po P.length pc).ownBlock = some b ∨ (Value.slice fo F.length fc).ownBlock = some b) w w1) := hid_intro ((But.gr HG1.out).more (fun b h => Or.inl (by injection h with h; exact h.symm)))
 obtain ⟨⟨c0, z0⟩, c1, z1⟩ := HS.out _ HB1.out
 have c2 : ∀ o, (w1.alloc o).cell? ⟨B + 4, 0, none⟩ = some (.slice fo F.length fc) := fun o => (HS.out _ (HB1.out.alloc o)).2.1
 have c3 : ∀ o, (w1.alloc o).cell? ⟨B + 3, 0, none⟩ = some (.slice po P.length pc) := fun o => (HS.out _ (HB1.out.alloc o)).1.1
 have c4 : ∀ o o', ((w1.alloc o).alloc o').cell? ⟨B + 4, 0, none⟩ = some (.slice fo F.length fc) := fun o o' => (HS.out _ ((HB1.out.alloc o).alloc o')).2.1
 have c5 : ∀ o o', ((w1.alloc o).alloc o').cell? ⟨B + 3, 0, none⟩ = some (.slice po P.length pc) := fun o o' => (HS.out _ ((HB1.out.alloc o).alloc o')).1.1
 have HO1 := hid_intro (HOP.out.gr HG1.out (fun g hg h => by injection h with h; have := (HOP.out.lt hg).1; omega))
 have HO2 := hid_intro (HOF.out.gr HG1.out (fun g hg h => by injection h with h; have := (HOF.out.lt hg).1; omega))
 have HZ1 : Hid (w.heap.size ≤ w1.heap.size) := hid_intro HG1.out.size
 have HNB : Hid (∀ b, w1.heap.size ≤ b → (Value.slice po P.length pc).ownBlock ≠ some b) := hid_intro (fun b h e => by have := (HO1.out.lt e).2; omega)
 go_region_law (first | (refine step_app_i (by rfl) _ _ (by rfl) (B + 12) (.slice po P.length pc) (il P) (by rfl) (t : Int) _ (by rfl) HT.out.1 HLP.out.1 ?_ ?_ ?_ ?_; (focus (refine Nat.le_trans (Nat.le_trans HSZ.out HZ1.out) (Below.size (B := w1.heap.size) ?_); with_reducible repeat (first | exact Below.refl _ _ | refine vb_d ?_ | refine vb_a ?_ _))); (focus (refine OwnI.bel HO1.out ?_; with_reducible repeat (first | exact Below.refl _ _ | refine vb_d ?_ | refine vb_a ?_ _))); (focus (refine Bk.q1 ?_; with_reducible repeat (first | exact Bk.new _ _ _ | exact Bk.new2 _ _ _ _ | refine Bk.dw ?_ | refine Bk.al ?_ _))); intro gp cp wp hop hgp hlp; have HBp : Hid (But (fun b => b = B + 5 ∨ (Value.slice po P.length pc).ownBlock = some b ∨ (Value.slice fo F.length fc).ownBlock = some b) w wp) := hid_intro ((HB1.out.below (by with_reducible repeat (first | exact Below.refl _ _ | refine vb_d ?_ | refine vb_a ?_ _))).grown hgp (fun b h => Or.inl (Or.inr (Or.inl h)))); obtain ⟨⟨p0, zp0⟩, p1, zp1⟩ := HS.out _ HBp.out; have p2 : ∀ o, (wp.alloc o).cell? ⟨B + 4, 0, none⟩ = some (.slice fo F.length fc) := fun o => (HS.out _ (HBp.out.alloc o)).2.1; have HOPp := hid_intro hop; have HCp : Hid (But (fun b => (Value.slice po P.length pc).ownBlock = some b ∨ (Value.slice fo F.length fc).ownBlock = some b) w1 wp) := hid_intro ((But.ofBelow (by with_reducible repeat (first | exact Below.refl _ _ | refine vb_d ?_ | refine vb_a ?_ _))).grown hgp (fun b h => Or.inl (Or.inl h))); have HGP := hid_intro hgp; have HLp := hid_intro (loc_blk (n := (il P).length + 1) (cap := cp) hlp (Nat.le_trans HZ1.out (Below.size (B := w1.heap.size) (by with_reducible repeat (first | exact Below.refl _ _ | refine vb_d ?_ | refine vb_a ?_ _))))); have HDp := hid_intro (loc_ne (n := (il P).length + 1) (cap := cp) (HO2.out.bel (by with_reducible repeat (first | exact Below.refl _ _ | refine vb_d ?_ | refine vb_a ?_ _))) HD1.out hlp); have HOFp := hid_intro ((HO2.out.bel (by with_reducible repeat (first | exact Below.refl _ _ | refine vb_d ?_ | refine vb_a ?_ _))).gr hgp (fun g hg h => HD1.out g h hg)); have HSZp : Hid (B + 12 ≤ wp.heap.size) := hid_intro (Nat.le_trans HSZ.out HBp.out.size); clear hop hgp hlp) | (refine step_app_i (by rfl) _ _ (by rfl) (B + 12) (.slice fo F.length fc) (il F) (by rfl) 0 _ (by rfl) HT.out.2.2 HLP.out.2 ?_ ?_ ?_ ?_; (focus (refine Nat.le_trans HSZp.out (Below.size (B := wp.heap.size) ?_); with_reducible repeat (first | exact Below.refl _ _ | refine vb_d ?_ | refine vb_a ?_ _))); (focus (refine OwnI.bel HOFp.out ?_; with_reducible repeat (first | exact Below.refl _ _ | refine vb_d ?_ | refine vb_a ?_ _))); (focus (refine Bk.q1 ?_; with_reducible repeat (first | exact Bk.new _ _ _ | exact Bk.new2 _ _ _ _ | refine Bk.dw ?_ | refine Bk.al ?_ _ | refine Bk.gr ?_ HGP.out (HNB.out _ (by first | exact Nat.le_refl _ | exact Nat.le_succ _))))); intro gf cf wf hof hgf hlf; have HBf : Hid (But (fun b => b = B + 5 ∨ (Value.slice po P.length pc).ownBlock = some b ∨ (Value.slice fo F.length fc).ownBlock = some b) w wf) := hid_intro ((HBp.out.below (by with_reducible repeat (first | exact Below.refl _ _ | refine vb_d ?_ | refine vb_a ?_ _))).grown hgf (fun b h => Or.inl (Or.inr (Or.inr h)))); obtain ⟨⟨f0, zf0⟩, f1, zf1⟩ := HS.out _ HBf.out; have HOFf := hid_intro hof; have HLf := hid_intro (loc_blk (w := w) (n := (il F).length + 1) (cap := cf) hlf (Nat.le_trans HBp.out.size (Below.size (B := wp.heap.size) (by with_reducible repeat (first | exact Below.refl _ _ | refine vb_d ?_ | refine vb_a ?_ _))))); have HDf := hid_intro (loc_ne (n := (il F).length + 1) (cap := cf) (HOPp.out.bel (by with_reducible repeat (first | exact Below.refl _ _ | refine vb_d ?_ | refine vb_a ?_ _))) (fun b h1 h2 => HDp.out b h2 h1) hlf); have HOPf := hid_intro ((HOPp.out.bel (by with_reducible repeat (first | exact Below.refl _ _ | refine vb_d ?_ | refine vb_a ?_ _))).gr hgf (fun g hg h => HDp.out g hg h)); have HCf := hid_intro ((HCp.out.below (by with_reducible repeat (first | exact Below.refl _ _ | refine vb_d ?_ | refine vb_a ?_ _))).grown hgf (fun b h => Or.inl (Or.inr h))); clear hof hgf hlf) | fail)
 all_goals
  go_end0
  rw [HP.out]
  refine ⟨rfl, HEN.out _ (.slice (some ⟨gp, 0, none⟩) ((il P).length + 1) cp) (.slice (some ⟨gf, 0, none⟩) ((il F).length + 1) cf) ?_ ?_ ?_ ?_ ?_ HLp.out HLf.out (fun b h1 h2 => HDf.out b h2 h1) ?_⟩
  ·exact (HBf.out.more (fun b h => by
    rcases h with h | h | h
    ·exact Or.inl h
    ·exact Or.inr (Or.inr (Or.inr (Or.inl h)))
    ·exact Or.inr (Or.inr (Or.inr (Or.inr h))))).set (Or.inl (Or.inr (Or.inl rfl))) _ |>.set (Or.inl (Or.inr (Or.inr (Or.inl rfl)))) _
  ·exact (Bk.set (HKP.out.but HBf.out (fun h => by rcases h with h | h | h; omega; exact absurd (HOP.out.lt h).1 (by omega); exact absurd (HOF.out.lt h).1 (by omega))) 0 _ rfl).away (by show B + 3 ≠ B + 4; omega)
  ·exact Bk.set ((HKF.out.but HBf.out (fun h => by rcases h with h | h | h; omega; exact absurd (HOP.out.lt h).1 (by omega); exact absurd (HOF.out.lt h).1 (by omega))).away (by show B + 4 ≠ B + 3; omega)) 0 _ rfl
  ·rw [il_append]
   exact (HOPf.out.set _ _ (by show B + 3 < B + 12; omega)).set _ _ (by show B + 4 < B + 12; omega)
  ·rw [il_append]
   exact (HOFf.out.set _ _ (by show B + 3 < B + 12; omega)).set _ _ (by show B + 4 < B + 12; omega)
  ·refine (((HM1.out.ext (fun x hx => HHG.out x hx)).but HCf.out (fun h => ?_)).blk (Below.heap_setCell _ _ _ _ (by show B + 5 ≠ B + 3; omega))).blk (Below.heap_setCell _ _ _ _ (by show B + 5 ≠ B + 4; omega))
   rcases h with h | h
   ·exact absurd (HOP.out.lt h).1 (by omega)
   ·exact absurd (HOF.out.lt h).1 (by omega)
end Go.Proofs.Ytnlgeiofkfkhbaa
