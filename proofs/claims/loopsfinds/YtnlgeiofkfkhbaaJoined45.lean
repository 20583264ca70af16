/-
  eachPart: in memory. Conditions: at most 1000 places.
-/
import Derived.Test.YtnlgeiofkfkhbaaJoined42
import Derived.Test.YtnlgeiofkfkhbaaJoined43
import Derived.Test.YtnlgeiofkfkhbaaJoined44
namespace Go.Proofs.Ytnlgeiofkfkhbaa
open Go.RowKit Go.Maps Lg
attribute [local go_sem] setCell_drewN alloc_drewN Oper.semAt_some

set_option maxRecDepth 100000 in
set_option maxHeartbeats 3200000 in
theorem eachPart_any (rg m : Nat) (R : Nat → List Nat) (hm : m ≤ 1000) (hR : ∀ v, ∀ t ∈ R v, t < m) (hRl : ∀ v, (R v).length ≤ 1048576) (hTl : ∀ v, (rowOf (trn R m) v).length ≤ 1048576) (nv : Value) (hnv : ∃ ao n c, nv = .slice ao n c) (vis : FuncId) (caps : Array Value) (J : List (List Nat) → World → Prop) (w : World) (hV : VisOK vis caps w.heap.size m J) (hJ : J [] w) (hM : MX w (fun _ => False) rg m R) :
  Calls Try.prog 27 #[.agg #[nv, .slice (some ⟨rg, 0, none⟩) m m], .func (.func vis) #[] caps] w fun r w' => r = .returned (.tuple #[]) ∧ ∃ fin don Ls, Fin R m false fin ∧ (∀ x, x < m → x ∈ fin) ∧ Prun (rowOf (trn R m)) m fin.reverse don Ls ∧ J Ls w' := by
 obtain ⟨Q0, hQ0⟩ : ∃ P' : Ending → World → Prop, P' = fun r w' => r = .returned (.tuple #[]) ∧ ∃ fin don Ls, Fin R m false fin ∧ (∀ x, x < m → x ∈ fin) ∧ Prun (rowOf (trn R m)) m fin.reverse don Ls ∧ J Ls w' := ⟨_, rfl⟩
 rw [← hQ0]
 have HQ := hid_intro hQ0
 have HV := hid_intro (And.intro hV hJ)
 have HTL := hid_intro hTl
 clear hQ0 hV hJ hTl
 obtain ⟨no, nn, nc, rfl⟩ := hnv
 obtain ⟨W0, hW0⟩ : ∃ W0, (w.alloc (.cells #[.slice no nn nc, .slice (some ⟨rg, 0, none⟩) m m] 36)).alloc (.cells #[.func (.func vis) #[] caps] 53) = W0 := ⟨_, rfl⟩
 have hs0 : W0.heap.size = w.heap.size + 1 + 1 := by rw [← hW0]; simp
 have hb0 : Below w.heap.size w W0 := by rw [← hW0]; exact vb_a (vb_a (Below.refl _ _) _) _
 have kw0 : Bk W0 w.heap.size #[.slice no nn nc, .slice (some ⟨rg, 0, none⟩) m m] := by rw [← hW0]; exact (Bk.new _ _ _).al _
 have kv0 : Bk W0 (w.heap.size + 1) #[.func (.func vis) #[] caps] := by rw [← hW0]; exact Bk.new' _ _ _ _ (by simp)
 obtain ⟨W1, hW1⟩ : ∃ W1, (W0.alloc (.cells #[.slice none 0 0] 23)).alloc (.cells #[.slice none 0 0] 23) = W1 := ⟨_, rfl⟩
 have hs1 : W1.heap.size = w.heap.size + 4 := by rw [← hW1]; simp [hs0]
 have hb1 : Below W0.heap.size W0 W1 := by rw [← hW1]; exact vb_a (vb_a (Below.refl _ _) _) _
 have ka : Bk W1 (w.heap.size + 2) #[.slice none 0 0] := by rw [← hW1]; exact (Bk.new' _ _ _ _ hs0).al _
 have kc : Bk W1 (w.heap.size + 3) #[.slice none 0 0] := by rw [← hW1]; exact Bk.new' _ _ _ _ (by simp [hs0])
 obtain ⟨e, he⟩ : ∃ e : SV, e = ⟨W1.heap.size, w.heap.size + 2, w.heap.size + 3, 39, false, .slice none 0 0⟩ := ⟨_, rfl⟩
 have hbw1 : Below w.heap.size w W1 := vb_t hb0 hb1
 have hM1 : MX W1 e.X rg m R := (hM.less (X' := e.X) (fun b hb _ h => by rw [he] at h; unfold SV.X at h; dsimp only at h; omega)).but (But.ofBelow hbw1)
 have HSE : Hid (Calls Try.prog 34 #[.slice (some ⟨rg, 0, none⟩) m m, .func (.func 39) #[] #[.pointer (some ⟨w.heap.size + 2, 0, none⟩)], .func (.func 38) #[] #[]] W1 fun r w' => r = .returned e.fn ∧ SS w' e m R [] [] [] [] false ∧ Below W1.heap.size W1 w') := hid_intro (by
  rw [he] at hM1 ⊢
  exact searcher_any (w.heap.size + 2) (w.heap.size + 3) rg m 39 false (.slice none 0 0) R hm W1 (by omega) ka kc hM1 _ _ rfl rfl)
 have hX : ∀ b, e.X b → w.heap.size + 2 ≤ b := fun b h => by rw [he] at h; unfold SV.X at h; dsimp only at h; omega
 have hab : e.ab = w.heap.size + 2 := by rw [he]
 have hcy : e.cy = w.heap.size + 3 := by rw [he]
 have hst : e.stop = false := by rw [he]
 have hx0 : e.x0 = .slice none 0 0 := by rw [he]
 have hK : PutOK e.K := by rw [he]; exact put2_any
 have hent : ∀ args w, (callFunc e.K args).run Try.prog w = .ok (.enter e.K args) w := by rw [he]; exact ent_put2
 have hBB : e.B = w.heap.size + 4 := by rw [he]; exact hs1
 have HE := hid_intro (And.intro hX (And.intro hab (And.intro hcy (And.intro hst (And.intro hBB hx0)))))
 have HFA := hid_intro (fun (v : Nat) fin wr hv hF hS => from_any e m R hm hR hRl hK hent m (Nat.le_refl _) v fin fin wr hv (hst ▸ hF) (Nat.le_refl _) hS)
 have HTF := hid_intro (fun (v : Nat) fin hF hv => top_says hR (Nat.le_refl m) (v := v) (fin := fin) hF hv)
 rw [hst] at HFA
 have HTN := hid_intro (fun wr (h : MX wr (fun _ => False) rg m R) => turned_any R m rg hm hR hRl (.slice no nn nc) ⟨_, _, _, rfl⟩ wr h)
 have HMM := hid_intro hm
 have HMX := hid_intro hM1
 have hsf : ∀ (fn : Fn) (x y : Array Value) (a : Addr) (m : Mode) (w : World), (store a (.func fn x y) m).run Try.prog w = stored Try.prog w a (.func fn x y) m := fun fn x y a m w => run_store Try.prog w a _ m rfl
 have HB1 := hid_intro (And.intro hb0 (And.intro hb1 (And.intro kw0 (And.intro kv0 hs0))))
 have c1 : ∀ o, (W0.alloc o).cell? ⟨w.heap.size, 1, none⟩ = some (.slice (some ⟨rg, 0, none⟩) m m) := fun o => (kw0.al o).c2b.2
 have c2 : W1.cell? ⟨w.heap.size, 1, none⟩ = some (.slice (some ⟨rg, 0, none⟩) m m) := (kw0.bel hb1).c2b.2
 have hmI : (m : Int) ≤ 1000 := by omega
 have hmf : ∀ (fn : Fn) (first cap : Array Value) (w : World), (Instr.makeFunc fn first cap).run Try.prog w = .ok (.func fn first cap) w := fun _ _ _ _ => rfl
 clear hM hM1 ka kc he hs1 hb1 hX hab hcy hst hK hent hR hRl hm hBB hx0 hbw1 hb0 kw0 kv0
 refine (callsIn_wide (n := 8)).1 (callsIn_of_wp_marks Try.func27 rfl trivial (wpIn_wide.2 ?_) rfl)
 simp only [Try.ntmps27, List.size_toArray, List.length_cons, List.length_nil, Nat.reduceAdd, Nat.reduceSub, Array.replicate_succ, Array.replicate_zero, List.push_toArray, List.append_toArray, List.nil_append, List.cons_append]
 go_wp2_with fail
 refine HSE.out.mono ?_
 rintro r w2 ⟨rfl, hs2, hb2⟩
 have HI0 : Hid (UaI R m e 0 [] W1 w2) := hid_intro ⟨hs2, fun x hx => absurd hx (by omega), Fin.nil R m false, But.ofBelow hb2, Nat.zero_le _⟩
 have c3 : w2.cell? ⟨w.heap.size, 1, none⟩ = some (.slice (some ⟨rg, 0, none⟩) m m) := ((HB1.out.2.2.1.bel HB1.out.2.1).bel hb2).c2b.2
 clear hs2 hb2 HSE
 dsimp only [SV.fn, pt]
 go_wp2_with fail
 go_loopg [8, 20] (m) (fun g s8 s20 wr => ∃ (i : Nat) (fin : List Nat), g = m - i ∧ s20 = .int .i64 (i : Int) ∧ Hid (UaI R m e i fin W1 wr))
 case atStart => exact ⟨0, [], rfl, rfl, HI0⟩
 case round =>
  obtain ⟨i, fin, rfl, rfl, HI⟩ := hrel
  by_cases hi : i < m
  ·have hiI : (i : Int) < (m : Int) := by omega
   have HLT := hid_intro hi
   have H5 := hid_intro (HFA.out i fin wr hi HI.out.fin HI.out.ss)
   obtain ⟨D0, htp, hF2, hin⟩ := HTF.out i fin HI.out.fin hi
   rw [htp] at H5
   have HF2 := hid_intro (And.intro hF2 hin)
   clear htp hi hF2 hin
   dsimp only [pt] at H5
   go_wp2_with fail
   refine H5.out.mono ?_
   rintro r w3 ⟨hb3, rfl, D, hD, hs3⟩
   have HS3 := hid_intro (And.intro hb3 (And.intro hD hs3))
   clear hb3 hD hs3 H5
   go_wp2_with fail
   go_roundg (m - (i + 1))
   case measure => have := HLT.out; omega
   case rel =>
    obtain ⟨q1, q2, q3⟩ := HS3.out
    rw [← q2] at q3
    refine ⟨i + 1, fin ++ D0, rfl, by go_num, hid_intro ⟨q3, fun x hx => ?_, HF2.out.1, HI.out.but.trans q1.but, HLT.out⟩⟩
    by_cases hxi : x = i
    ·rw [hxi]; exact HF2.out.2
    ·exact List.mem_append_left _ (HI.out.al x (by omega))
  ·have hiI : ¬ (i : Int) < (m : Int) := by omega
   have hie : i = m := by have := HI.out.le; omega
   have HAL := hid_intro (show ∀ x, x < m → x ∈ fin from hie ▸ HI.out.al)
   obtain ⟨_, _, va, _, _, kva, _, _, ova, -⟩ := HI.out.ss.ro
   obtain ⟨x, kx, hkx⟩ := HI.out.ss.kx
   have kwr : Bk wr w.heap.size #[.slice no nn nc, .slice (some ⟨rg, 0, none⟩) m m] := (HB1.out.2.2.1.bel HB1.out.2.1).but HI.out.but (fun h => by have := HE.out.1 _ h; omega)
   have kvr : Bk wr (w.heap.size + 1) #[.func (.func vis) #[] caps] := (HB1.out.2.2.2.1.bel HB1.out.2.1).but HI.out.but (fun h => by have := HE.out.1 _ h; omega)
   obtain ⟨d0, d1⟩ := kwr.c2b
   have hx := hkx HE.out.2.2.2.1
   rw [HE.out.2.2.2.2.2] at hx
   subst hx
   rw [HE.out.2.1] at kva
   rw [HE.out.2.2.1] at kx
   obtain ⟨ao, ac, rfl, -⟩ := ova.form
   have HK := hid_intro (And.intro kwr (And.intro kvr (And.intro kva (And.intro kx ova))))
   have hsr : w.heap.size + 4 ≤ wr.heap.size := by have h1 := HI.out.ss.c.1; have := HE.out.2.2.2.2.1; omega
   have HT1 := hid_intro (HTN.out wr ((HMX.out.but HI.out.but).less (fun _ _ _ h => h)))
   have HSR := hid_intro hsr
   clear kwr kvr kva kx ova hkx hie c1 c2 c3 hW1 hW0 hsr
   go_wp2_with fail
   refine HT1.out.mono ?_
   rintro r w3 ⟨g, rfl, hb3, hm3⟩
   obtain ⟨e2, he2⟩ : ∃ e2 : SV, e2 = ⟨w3.heap.size, w.heap.size + 3, w.heap.size + 2, 41, false, .slice ao (il fin).length ac⟩ := ⟨_, rfl⟩
   have hM3 : MX w3 e2.X g m (rowOf (trn R m)) := hm3.less (fun b hb h h2 => h (by rw [he2] at h2; unfold SV.X at h2; dsimp only at h2; have := HSR.out; omega))
   have HSE2 : Hid (Calls Try.prog 34 #[.slice (some ⟨g, 0, none⟩) m m, .func (.func 41) #[] #[.pointer (some ⟨w.heap.size + 1 + 1 + 1, 0, none⟩)], .func (.func 38) #[] #[]] w3 fun r w' => r = .returned e2.fn ∧ SS w' e2 m (rowOf (trn R m)) [] [] [] [] false ∧ Below w3.heap.size w3 w' ∧ Bk w' w3.heap.size #[.slice (some ⟨g, 0, none⟩) m m]) := hid_intro (by
    rw [he2] at hM3 ⊢
    exact searcher_rows (w.heap.size + 3) (w.heap.size + 2) g m 41 false (.slice ao (il fin).length ac) (rowOf (trn R m)) HMM.out w3 (by omega) (HK.out.2.2.2.1.bel hb3) (HK.out.2.2.1.bel hb3) hM3 _ _ rfl rfl)
   have HB3 := hid_intro (And.intro hb3 he2)
   have HM3 := hid_intro hm3
   clear hb3 hm3 he2 hM3 HT1
   go_wp2_with fail
   refine HSE2.out.mono ?_
   rintro r w4 ⟨rfl, hs4, hb4, hk4⟩
   have e0 := ((HK.out.2.2.1.bel HB3.out.1).bel hb4).q1
   have e1 : ∀ o, (w4.alloc o).cell? ⟨w.heap.size + 1 + 1, 0, none⟩ = some (.slice ao (il fin).length ac) := fun o => (((HK.out.2.2.1.bel HB3.out.1).bel hb4).al o).q1
   have HS4 := hid_intro (And.intro hs4 (And.intro hb4 hk4))
   clear hs4 hb4 hk4 HSE2
   dsimp only [SV.fn, pt]
   go_wp2_with fail
   refine (backward_any _ ⟨_, _, _, rfl⟩ _).mono ?_
   rintro r w6 ⟨rfl, hw6⟩
   go_wp2_with fail
   have hL : EpL w.heap.size w4.heap.size e2 := by
    have h1 := HB3.out.1.size
    have h2 := HSR.out
    have h3 := HS4.out.1.c.sz
    have h4 : e2.ab = w.heap.size + 3 ∧ e2.cy = w.heap.size + 2 ∧ e2.B = w3.heap.size := by rw [HB3.out.2]; exact ⟨rfl, rfl, rfl⟩
    exact ⟨h4.1, h4.2.1, by omega, h3⟩
   have he2 : e2.K = 41 ∧ e2.stop = false ∧ e2.B = w3.heap.size := by rw [HB3.out.2]; exact ⟨rfl, rfl, rfl⟩
   have hb6 : Below w4.heap.size w4 w6 := by rw [hw6]; exact vb_a (vb_a (Below.refl _ _) _) _
   have hs6 : w6.heap.size = w4.heap.size + 2 := by rw [hw6]; simp
   have hlo4 : w.heap.size + 4 ≤ w3.heap.size := by have := HSR.out; have := HB3.out.1.size; omega
   have hj6 : But (fun b => w.heap.size ≤ b) w w6 := by
    have h1 : But (fun b => w.heap.size ≤ b) w wr := (But.ofBelow (HB1.out.1.trans (HB1.out.2.1.mono HB1.out.1.size))).trans (HI.out.but.more fun b hb => by have := HE.out.1 b hb; omega)
    exact ((h1.below HB3.out.1).below HS4.out.2.1).below hb6
   obtain ⟨T, hT⟩ : ∃ T, rowOf (trn R m) = T := ⟨_, rfl⟩
   have hE0 : EpI T m w.heap.size g w4.heap.size e2 (.func (.func vis) #[] caps) J [] [] [] [] w6 := by
    refine ⟨Prun.nil, Fin.nil T m false, ?_, ?_, ?_, ?_, ?_, ?_, HV.out.1.st _ _ _ HV.out.2 hj6⟩
    ·have h := HS4.out.1
     rw [hT] at h
     rw [hw6]
     exact (h.turn (World.grownBy_alloc _ _ none) (fun r e => by cases e)).turn (World.grownBy_alloc _ _ none) (fun r e => by cases e)
    ·have h := HM3.out
     rw [hT] at h
     have h2 := h.less (X' := fun b => b < w.heap.size ∨ e2.X b) (fun b hb h1 h2 => by
      have := HSR.out
      have := hL.ab
      have := hL.cy
      have := he2.2.2
      unfold SV.X at h2
      omega)
     exact (h2.but (But.ofBelow HS4.out.2.1)).but (But.ofBelow hb6)
    ·have h := HS4.out.2.2.bel hb6
     rw [← he2.2.2] at h
     exact h
    ·exact ((HK.out.2.1.bel HB3.out.1).bel HS4.out.2.1).bel hb6
    ·refine ⟨56, by decide, ?_⟩
     rw [hw6]
     exact (Below.heap_alloc _ _ _ (by simp)).trans (World.alloc_heap_new w4 _)
    ·refine ⟨#[.slice ao (il fin).length ac], 23, by decide, ?_⟩
     rw [hw6]
     have h := World.alloc_heap_new (w4.alloc (.cells #[e2.fn] 56)) (.cells #[.slice ao (il fin).length ac] 23)
     rw [show (w4.alloc (.cells #[e2.fn] 56)).heap.size = w4.heap.size + 1 by simp] at h
     exact h
   have hst : ∀ Ls w w', J Ls w → But (fun b => _ ≤ b) w w' → J Ls w' := HV.out.1.st
   have hTll : ∀ v, ∀ t ∈ T v, t < m := fun v t ht => by rw [← hT] at ht; exact (mem_trn.1 ht).1
   have hTlen : ∀ v, (T v).length ≤ 1048576 := fun v => hT ▸ HTL.out v
   have hflt : ∀ x ∈ fin, x < m := HI.out.fin.flt
   have hfl : fin.length ≤ 1000 := Nat.le_trans (nodup_len m fin HI.out.fin.fnd hflt) HMM.out
   have hQ := HK.out.2.2.2.2
   obtain ⟨ob, hob1, hob2, hz⟩ : ∃ ob, ob < w3.heap.size ∧ (ob = w.heap.size ∨ w.heap.size + 4 ≤ ob) ∧ (fin = [] ∨ ∃ off, ao = some ⟨ob, off, none⟩ ∧ ∀ j (h : j < fin.length), w6.cell? ⟨ob, off + j, none⟩ = some (.int .i64 ((fin[j]'h : Nat) : Int))) := by
    by_cases hfe : fin = []
    ·exact ⟨w.heap.size, by omega, .inl rfl, .inl hfe⟩
    ·obtain ⟨ao2, c2, e2', -, h2⟩ := (hQ.ii (fun _ => False) (fun _ _ h => h)).shape
     injection e2' with e21 _ e23
     subst e21 e23
     obtain ⟨b, off, rfl, hcell⟩ := h2.resolve_left (fun e => by have := congrArg List.length e; rw [il_len] at this; exact hfe (List.eq_nil_of_length_eq_zero this))
     have hlt := hQ.lt (g := b) rfl
     have h5 := HB3.out.1.size
     have h6 : w.heap.size + 4 ≤ b := by have := hlt.1; have := HE.out.2.2.2.2.1; omega
     refine ⟨b, by omega, .inr h6, .inr ⟨off, rfl, fun j hj => ?_⟩⟩
     have hc := hcell wr (Below.refl _ _) j (by rw [il_len]; exact hj)
     rw [il_at hj] at hc
     have hbb : Below wr.heap.size wr w6 := (HB3.out.1.trans (HS4.out.2.1.mono h5)).trans (hb6.mono (Nat.le_trans h5 HS4.out.2.1.size))
     exact (hbb.cell (p := ⟨b, off + j, none⟩) hlt.2).trans hc
   obtain ⟨xs, hxl, hxs⟩ : ∃ xs : List {x : Nat × Nat // x.2 < m}, xs.length = fin.length ∧ ∀ k (h : k < xs.length), (xs[k]).val = (k, fin.getD k 0) := by
    refine ⟨List.ofFn (fun k : Fin fin.length => ⟨(k.val, fin.getD k.val 0), by
     rw [List.getD_eq_getElem?_getD, List.getElem?_eq_getElem k.isLt]; exact hflt _ (List.getElem_mem k.isLt)⟩), by simp, fun k h => by simp only [List.getElem_ofFn]⟩
   have hmap : (bw xs 0).map (fun x => x.val.2) = fin.reverse := by
    unfold bw
    rw [List.drop_zero, List.map_reverse]
    congr 1
    apply List.ext_getElem (by simp [hxl])
    intro k h1 h2
    rw [List.getElem_map, hxs k (by simpa using h1)]
    simp [h2]
   have HBK := hid_intro (back_stops (fun x : {x : Nat × Nat // x.2 < m} => x.val) xs Fence.wide 7 trivial rfl (by omega) (w4.heap.size + 1) ob ao ac fin (by omega) hxl hxs w6 (by omega) (by have := HS4.out.2.1.size; omega) (by
    rw [hw6, ← il_len]
    exact (Bk.new' _ _ _ _ (by simp)).q1) hz)
   have hput := hid_intro (fun (v don : _) W h1 h2 h3 => from_any e2 m T HMM.out hTll hTlen (he2.1 ▸ put3_any) (by rw [he2.1]; exact ent_put3) m (Nat.le_refl m) v don [] W h1 h2 (Nat.zero_le _) h3)
   rw [he2.2.1] at hput
   have HTP := hid_intro (fun (v : Nat) don hF hv => top_says hTll (Nat.le_refl m) (v := v) (fin := don) hF hv)
   have HLL := hid_intro (And.intro hL (And.intro he2 (And.intro hlo4 (And.intro hs6 (And.intro hob1 (And.intro hob2 hmap))))))
   have HST := hid_intro hst
   have HE0 := hid_intro hE0
   have hkb : ∀ (W : World) (l : Nat) (o o' : Obj), w6.heap.size ≤ l → W.heap[l]? = some o → o.isCells = false → o.isWalk = false → Kb (w4.heap.size + 1) ob W (W.putObj l o') := fun W l o o' h1 _ _ _ => ⟨World.putObj_heap_other (by omega), World.putObj_heap_other (by have := HS4.out.2.1.size; omega)⟩
   rw [← hw6]
   clear hL he2 hlo4 hs6 hob1 hob2 hmap hst hE0 hTll hTlen hflt hfl hQ hz hxl hxs hb6 hj6 e0 e1 d0 d1
   refine wpIn_wide.1 (wpIn_rangeFunc_ownG (n := 8) rfl (by omega) (gf := 50) (lb := #[.pointer (some ⟨w4.heap.size + 1, 0, none⟩)]) rfl trivial (enters_of Try.func50 (by kernel_rfl) rfl) HBK.out (fun h k => ⟨k.1.trans h.1, k.2.trans h.2⟩) hkb (Below.refl _ _) (fun _ => rfl)
    (fun pre W => ∃ don D Ls, EpI T m w.heap.size g w4.heap.size e2 (.func (.func vis) #[] caps) J (pre.map (fun x => x.val.2)) don D Ls W) (fun _ _ _ => False) (EpI.own _ HST.out (by have := HLL.out.1.B; omega) (by have := HLL.out.1.t; have := HLL.out.2.2.2.1; omega)) (fun _ _ _ _ _ h _ _ => h) ⟨[], [], [], HE0.out⟩ ?a1 ?assign ?body ?done ?stop)
   case assign =>
    intro l x W K hK
    dsimp only
    gi_wp2
    exact hK
   case stop =>
    rintro D c pre W _ _ h _
    exact h.elim
   case done =>
    rintro D xs' W hD rfl ⟨don, D', Ls, hE⟩ hK
    have hDlo : w.heap.size ≤ D := by have := HLL.out.2.2.1; have := HLL.out.2.2.2.1; have := HLL.out.1.t; have := HLL.out.1.B; omega
    have HEN := hid_intro (And.intro hE hDlo)
    clear hE hDlo
    gi_wp2
    refine ⟨by simp, .inl ⟨_, _, rfl, run_takeDeferred hK, ?_⟩⟩
    refine ⟨_, results_none rfl _ _ _, ?_⟩
    rw [HQ.out]
    refine ⟨rfl, fin, don, Ls, HI.out.fin, HAL.out, ?_, HST.out _ _ _ HEN.out.1.j ((But.gr (grownBy_putObj' _ _ _)).more fun b hb => ?_)⟩
    ·have h := HEN.out.1.run
     rw [HLL.out.2.2.2.2.2.2, ← hT] at h
     exact h
    ·injection hb with hb
     have := HEN.out.2
     omega
   case body =>
    rintro l pre x W ⟨don, D, Ls, hE⟩ -
    have hL := HLL.out.1
    obtain ⟨ao1, n1, cap1, ka, hle⟩ := hE.cell
    obtain ⟨hE1, hbx1⟩ := hE.cut hL HST.out ka
    obtain ⟨D', htop, hfin, hin⟩ := HTP.out x.val.2 don hE1.fin x.2
    obtain ⟨W1, hW1⟩ : ∃ W1, W.setCell ⟨w.heap.size + 1 + 1 + 1, 0, none⟩ (.slice ao1 0 cap1) = W1 := ⟨_, rfl⟩
    have hab : (⟨e2.ab, 0, none⟩ : Addr) = ⟨w.heap.size + 1 + 1 + 1, 0, none⟩ := by rw [hL.ab]
    rw [hab, hW1] at hE1 hbx1
    have HB := hid_intro (hput.out x.val.2 don W1 x.2 hE1.fin hE1.ss)
    rw [htop] at HB
    have HM : Hid (∀ W2 D2, BX e2 W1 W2 → don ++ D' = don ++ D2 → SS W2 e2 m T [] [] (don ++ D') ([] ++ D2) false → EpM T m w.heap.size g w4.heap.size e2 (.func (.func vis) #[] caps) J (pre.map (fun x => x.val.2)) don D' Ls x.val.2 W2) := hid_intro (fun W2 D2 h1 h2 h3 => by
     have h4 := List.append_cancel_left h2
     rw [← h4, List.nil_append] at h3
     exact hE1.mid hL HST.out htop hfin h1 h3)
    have c0 : W.cell? ⟨w.heap.size + 1 + 1 + 1, 0, none⟩ = some (.slice ao1 n1 cap1) := by rw [← hab]; exact ka.q1
    have z0 : W.frozen? ⟨w.heap.size + 1 + 1 + 1, 0, none⟩ = false := by rw [← hab]; exact ka.frz 0
    have c1 : W1.cell? ⟨w4.heap.size, 0, none⟩ = some e2.fn := hE1.k9.bk.q1
    have HBX1 := hid_intro hbx1
    have HFD := hid_intro hfin
    have HX2 := hid_intro x.2
    dsimp only [SV.fn, pt] at c1 HB
    have HKT := hid_intro (And.intro hE.kt hE.ss.c.sz)
    clear hE hE1 ka hbx1 htop hfin hin hL
    gi_wp2_with fail
    refine ⟨trivial, ?_⟩
    refine (CallsIn.inRound l (callsIn_wide.2 HB.out)).mono ?_
    rintro r W2 ⟨hb2, rfl, D2, hD2, hs2⟩
    have HM2 := hid_intro (HM.out W2 D2 hb2 hD2 hs2)
    have HBX2 := hid_intro (HBX1.out.trans hb2)
    obtain ⟨ao2, cap2, k2, ii2⟩ := HM2.out.part HLL.out.1
    have c2 : W2.cell? ⟨w.heap.size + 1 + 1 + 1, 0, none⟩ = some (.slice ao2 D'.length cap2) := by rw [← hab]; exact k2.q1
    have c3 : W2.cell? ⟨w.heap.size + 1, 0, none⟩ = some (.func (.func vis) #[] caps) := HM2.out.kv.q1
    have HKB : Hid (KeepsFrom w6.heap.size W W2 ∧ Kb (w4.heap.size + 1) ob W W2) := hid_intro (by
     have h1 := HLL.out.1
     have h2 := HLL.out.2.1.2.2
     have h3 := HLL.out.2.2.2.1
     have h4 := HLL.out.2.2.2.2.1
     have h5 := HLL.out.2.2.2.2.2.1
     have h6 := HKT.out.2
     have h7 := h1.t
     have h8 := h1.ab
     have h9 := h1.cy
     exact ⟨HBX2.out.keeps (by omega), HBX2.out.kb (by omega) HKT.out.1 (fun hx => by unfold SV.X at hx; omega) (by omega)⟩)
    by_cases hD : D' = []
    ·subst hD
     have HSK := hid_intro HM2.out.skip
     clear hb2 hD2 hs2 k2 ii2 HB HM c0 c1 z0 hW1 hab
     gi_wp2_with fail
     exact ⟨HKB.out.1, HKB.out.2, don, [], Ls, by rw [List.map_append]; exact HSK.out⟩
    ·have hpos : (0 : Int) < (D'.length : Int) := by have := List.length_pos_iff.2 hD; omega
     have HVR := hid_intro (HV.out.1.run Ls D' _ W2 HM2.out.j hD (fun p hp => HFD.out.flt p (List.mem_append_right _ hp)) (nodup_len m D' (List.nodup_append.1 HFD.out.fnd).2.1 (fun p hp => HFD.out.flt p (List.mem_append_right _ hp))) ii2 (by have h1 := HM2.out.ss.c.sz; have h2 := HLL.out.1.B; omega))
     have HND := hid_intro hD
     have HVE := HV.out.1.ent
     clear hb2 hD2 hs2 k2 ii2 HB HM c0 c1 z0 hW1 hab hD
     gi_wp2_with fail
     refine ⟨trivial, ?_⟩
     refine (CallsIn.inRound l (callsIn_wide.2 HVR.out)).mono ?_
     rintro r W3 ⟨rfl, hj3, hb3⟩
     have HFI := hid_intro (HM2.out.vis HLL.out.1 HND.out hj3 hb3)
     have HKB3 : Hid (KeepsFrom w6.heap.size W W3 ∧ Kb (w4.heap.size + 1) ob W W3) := hid_intro (by
      have h1 := HLL.out.1
      have h2 := HLL.out.2.1.2.2
      have h3 := HLL.out.2.2.2.1
      have h4 := HLL.out.2.2.2.2.1
      have h5 := HLL.out.2.2.2.2.2.1
      have h6 := HM2.out.ss.c.sz
      have h7 := h1.t
      have h8 := h1.B
      obtain ⟨_, h9⟩ := HM2.out.kt
      have h10 := h9.bk.lt
      exact ⟨HKB.out.1.trans (hb3.keeps (fun b hb => by omega)), HKB.out.2.trans (hb3.kb ⟨by omega, h10⟩ ⟨by omega, by omega⟩)⟩)
     clear hj3 hb3
     gi_wp2_with fail
     exact ⟨HKB3.out.1, HKB3.out.2, don ++ D', D', Ls ++ [D'], by rw [List.map_append]; exact HFI.out⟩
end Go.Proofs.Ytnlgeiofkfkhbaa
