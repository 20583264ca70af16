/-
  untangle: an order, or a cycle. Conditions: at most 1000 places.
-/
import Derived.Test.YtnlgeiofkfkhbaaJoined18
namespace Go.Proofs.Ytnlgeiofkfkhbaa
open Go.RowKit Go.Maps Lg
attribute [local go_sem] setCell_drewN alloc_drewN

theorem runs_top {R : Nat → List Nat} {stop : Bool} {f v : Nat} {vs fin : List Nat} : runs R stop f (v :: vs) fin = (match top R stop f v fin with | .error c => .error c | .ok fin' => runs R stop f vs fin') := by
 unfold top
 rw [runs]
 by_cases h : v ∈ fin
 ·rw [if_pos h, if_pos h]
 ·rw [if_neg h, if_neg h]
  cases visit R stop f fin [] v <;> rfl
theorem top_fin {R : Nat → List Nat} {m : Nat} {stop : Bool} (hR : ∀ v, ∀ t ∈ R v, t < m) {f : Nat} (hf : m ≤ f) {v : Nat} {fin fin' : List Nat} (hF : Fin R m stop fin) (hv : v < m) (h : top R stop f v fin = .ok fin') : Fin R m stop fin' := by
 unfold top at h
 by_cases k : v ∈ fin
 ·rw [if_pos k] at h; injection h with h; exact h ▸ hF
 ·rw [if_neg k] at h
  have hs := visit_says (stop := stop) hR f fin [] v (pre_top hF hv k) (by simp; omega)
  rw [h] at hs
  exact hF.add hs
theorem OwnI.low {w : World} {B B' : Nat} {v : Value} {l : List Int} (h : OwnI w B v l) (hB : B' ≤ B) : OwnI w B' v l := by
 refine ⟨⟨h.1.1, ?_⟩, h.2⟩
 rcases h.1.2 with h2 | ⟨g, cap, cur, r1, r2, r3⟩
 ·exact Or.inl h2
 ·exact Or.inr ⟨g, cap, cur, r1, Nat.le_trans hB r2, r3⟩
theorem ent_put1 : ∀ args w, (callFunc 35 args).run Try.prog w = .ok (.enter 35 args) w := enters_of Try.func35 (by kernel_rfl) rfl
theorem But.toBelow {X : Nat → Prop} {B : Nat} {w w' : World} (h : But X w w') (hX : ∀ b, X b → B ≤ b) (hB : B ≤ w.heap.size) : Below B w w' := ⟨h.os, h.tape, h.output, h.size, fun k hk => h.block k (by omega) (fun hx => by have := hX k hx; omega)⟩
theorem results_cell2 {fn : Func} {p u : Tmp} {ty ty2 : TypeId} (h : fn.results = #[.cell p ty, .cell u ty2]) (tmps : Array Value) (P : Program) (w : World) :
  (results fn tmps).run P w =
   ((asAddr (tmps.getD p undef)).run P w).andThen fun a w₁ => ((loadVar ty a).run P w₁).andThen fun v w₂ => ((asAddr (tmps.getD u undef)).run P w₂).andThen fun b w₃ => ((loadVar ty2 b).run P w₃).andThen fun x w₄ => .ok (.tuple #[v, x]) w₄ := by
 simp only [results, h]
 simp [Sem.run_bind, Result.andThen]
/-- What untangle answers. -/
def UtP (R : Nat → List Nat) (m : Nat) (w : World) (r : Ending) (w' : World) : Prop :=
 Below w.heap.size w w' ∧ match runs R true m (List.range m) [] with
  | .ok fin => ∃ v, r = .returned (.tuple #[v, .slice none 0 0]) ∧ OwnI w' w.heap.size v (il fin)
  | .error c => ∃ v, r = .returned (.tuple #[.slice none 0 0, v]) ∧ II w' (fun _ => False) (il c) v
/-- Where its loop stands. -/
structure UtI (R : Nat → List Nat) (m : Nat) (e : SV) (i : Nat) (fin : List Nat) (w wr : World) : Prop where
 ss : SS wr e m R [] [] fin fin false
 ru : runs R true m (List.range m) [] = runs R true m ((List.range m).drop i) fin
 fin : Fin R m true fin
 bel : Below w.heap.size w wr
 le : i ≤ m
set_option maxRecDepth 100000 in
set_option maxHeartbeats 3200000 in
theorem untangle_any (rg m : Nat) (R : Nat → List Nat) (hm : m ≤ 1000) (hR : ∀ v, ∀ t ∈ R v, t < m) (hRl : ∀ v, (R v).length ≤ 1048576) (w : World) (hM : MX w (fun _ => False) rg m R) :
  Calls Try.prog 20 #[.slice (some ⟨rg, 0, none⟩) m m] w (UtP R m w) := by
 obtain ⟨Q0, hQ0⟩ : ∃ P' : Ending → World → Prop, P' = UtP R m w := ⟨_, rfl⟩
 rw [← hQ0]
 have HQ := hid_intro hQ0
 obtain ⟨W1, hW1⟩ : ∃ W1, (w.alloc (.cells #[.slice none 0 0] 23)).alloc (.cells #[.slice none 0 0] 23) = W1 := ⟨_, rfl⟩
 have hs1 : W1.heap.size = w.heap.size + 1 + 1 := by rw [← hW1]; simp
 have hb1 : Below w.heap.size w W1 := by rw [← hW1]; exact vb_a (vb_a (Below.refl _ _) _) _
 have ka : Bk W1 w.heap.size #[.slice none 0 0] := by rw [← hW1]; exact (Bk.new _ _ _).al _
 have kc : Bk W1 (w.heap.size + 1) #[.slice none 0 0] := by rw [← hW1]; exact Bk.new' _ _ _ _ (by simp)
 obtain ⟨e, he⟩ : ∃ e : SV, e = ⟨W1.heap.size, w.heap.size, w.heap.size + 1, 35, true, .slice none 0 0⟩ := ⟨_, rfl⟩
 have hM1 : MX W1 e.X rg m R := (hM.less (X' := e.X) (fun b hb _ h => by rw [he] at h; unfold SV.X at h; dsimp only at h; omega)).but (But.ofBelow hb1)
 have HSE : Hid (Calls Try.prog 34 #[.slice (some ⟨rg, 0, none⟩) m m, .func (.func 35) #[] #[.pointer (some ⟨w.heap.size, 0, none⟩)], .func (.func 36) #[] #[.pointer (some ⟨w.heap.size + 1, 0, none⟩)]] W1 fun r w' => r = .returned e.fn ∧ SS w' e m R [] [] [] [] false ∧ Below W1.heap.size W1 w') := hid_intro (by
  rw [he] at hM1 ⊢
  exact searcher_any w.heap.size (w.heap.size + 1) rg m 35 true (.slice none 0 0) R hm W1 (by omega) ka kc hM1 _ _ rfl rfl)
 have hX : ∀ b, e.X b → w.heap.size ≤ b := fun b h => by rw [he] at h; unfold SV.X at h; dsimp only at h; omega
 have hab : e.ab = w.heap.size := by rw [he]
 have hcy : e.cy = w.heap.size + 1 := by rw [he]
 have hst : e.stop = true := by rw [he]
 have hK : PutOK e.K := by rw [he]; exact put1_any
 have hent : ∀ args w, (callFunc e.K args).run Try.prog w = .ok (.enter e.K args) w := by rw [he]; exact ent_put1
 have hBB : e.B = w.heap.size + 2 := by rw [he]; exact hs1
 have HE := hid_intro (And.intro hX (And.intro hab (And.intro hcy (And.intro hst hBB))))
 have HFA := hid_intro (fun (v : Nat) fin wr hv hF hS => from_any e m R hm hR hRl hK hent m (Nat.le_refl _) v fin fin wr hv (hst ▸ hF) (Nat.le_refl _) hS)
 have HTF := hid_intro (fun (v : Nat) fin fin' (hF : Fin R m true fin) hv h => top_fin hR (Nat.le_refl m) (v := v) (fin' := fin') hF hv h)
 rw [hst] at HFA
 have HB1 := hid_intro hb1
 have hmI : (m : Int) ≤ 1000 := by omega
 clear hQ0 hM hM1 ka kc he hs1 hb1 hX hab hcy hst hK hent hR hRl hm hBB
 go_enter Try.func20, Try.ntmps20
 go_wp2_with fail
 refine HSE.out.mono ?_
 rintro r w2 ⟨rfl, hs2, hb2⟩
 have HI0 : Hid (UtI R m e 0 [] w w2) := hid_intro ⟨hs2, by rw [List.drop_zero], Fin.nil R m true, HB1.out.trans (hb2.mono HB1.out.size), Nat.zero_le _⟩
 clear hs2 hb2 HSE hW1
 dsimp only [SV.fn, pt]
 go_wp2_with fail
 go_loopg [5, 12] (m) (fun g s5 s12 wr => ∃ (i : Nat) (fin : List Nat), g = m - i ∧ s12 = .int .i64 (i : Int) ∧ Hid (UtI R m e i fin w wr))
 case atStart => exact ⟨0, [], rfl, rfl, HI0⟩
 case round =>
  obtain ⟨i, fin, rfl, rfl, HI⟩ := hrel
  by_cases hi : i < m
  ·have hiI : (i : Int) < (m : Int) := by omega
   have HLT := hid_intro hi
   have H5 := hid_intro (HFA.out i fin wr hi HI.out.fin HI.out.ss)
   have hru := HI.out.ru
   rw [drop_at (by simpa using hi), List.getElem_range, runs_top] at hru
   have HRU := hid_intro hru
   clear hi hru
   dsimp only [pt] at H5
   cases htp : top R true m i fin with
   | ok fin2 =>
    rw [htp] at H5 HRU
    have HF2 := hid_intro (HTF.out i fin fin2 HI.out.fin HLT.out htp)
    clear htp
    go_wp2_with fail
    refine H5.out.mono ?_
    rintro r w3 ⟨hb3, rfl, D, hD, hs3⟩
    have HS3 := hid_intro (And.intro hb3 (And.intro hD hs3))
    clear hb3 hD hs3 H5
    go_wp2_with fail
    go_roundg (m - (i + 1))
    case measure => have := HLT.out; omega
    case rel =>
     obtain ⟨q1, q2, q3⟩ := HS3.out
     rw [← q2] at q3
     exact ⟨i + 1, fin2, rfl, by go_num, hid_intro ⟨q3, HRU.out, HF2.out, HI.out.bel.trans (q1.but.toBelow HE.out.1 HI.out.bel.size), HLT.out⟩⟩
   | error c =>
    rw [htp] at H5 HRU
    clear htp
    go_wp2_with fail
    refine H5.out.mono ?_
    rintro r w3 ⟨hb3, rfl, ⟨va, kva⟩, cv, kcv, hcv⟩
    obtain ⟨co, cc, rfl, -⟩ := id hcv
    rw [HE.out.2.1] at kva
    rw [HE.out.2.2.1] at kcv
    have c0 := kva.q1
    have c1 := kcv.q1
    have z0 := kva.frz 0
    have z1 := kcv.frz 0
    have HV := hid_intro (And.intro hb3 (And.intro kva (And.intro kcv hcv)))
    clear hb3 kva kcv hcv H5
    have c2 : ∀ u, (w3.setCell ⟨w.heap.size, 0, none⟩ u).cell? ⟨w.heap.size + 1, 0, none⟩ = some (.slice co (il c).length cc) := fun u => (World.cell?_setCell_far _ _ _ _ (by show w.heap.size ≠ w.heap.size + 1; omega)).trans c1
    go_wp2_with fail
    go_region_law (fail)
    all_goals
     obtain ⟨W4, hW4⟩ : ∃ W4, (w3.setCell ⟨w.heap.size, 0, none⟩ (.slice none 0 0)).setCell ⟨w.heap.size + 1, 0, none⟩ (.slice co (il c).length cc) = W4 := ⟨_, rfl⟩
     have k0 : Bk W4 w.heap.size #[.slice none 0 0] := by rw [← hW4]; exact (HV.out.2.1.set 0 _ rfl).away (by show w.heap.size ≠ w.heap.size + 1; omega)
     have k1 : Bk W4 (w.heap.size + 1) #[.slice co (il c).length cc] := by rw [← hW4]; exact (HV.out.2.2.1.away (by show w.heap.size + 1 ≠ w.heap.size; omega)).set 0 _ rfl
     have HB4 : Hid (Below w.heap.size w W4 ∧ II W4 (fun _ => False) (il c) (.slice co (il c).length cc)) := hid_intro (by
      rw [← hW4]
      refine ⟨((HI.out.bel.trans (HV.out.1.but.toBelow HE.out.1 HI.out.bel.size)).setCell (by show w.heap.size ≤ w.heap.size; omega) _).setCell (by show w.heap.size ≤ w.heap.size + 1; omega) _, HV.out.2.2.2.carry (fun b hb _ => ⟨?_, fun h => h⟩)⟩
      have hBB := HE.out.2.2.2.2
      exact (Below.heap_setCell _ _ _ _ (by show b ≠ w.heap.size + 1; omega)).trans (Below.heap_setCell _ _ _ _ (by show b ≠ w.heap.size; omega)))
     have d0 := k0.q1
     have d1 := k1.q1
     clear k0 k1 c0 c1 c2 z0 z1
     go_wp2_with fail
     try simp only [Exit.inBlock, Exit.then]
     refine bodyPost_ret (v := .tuple #[.slice none 0 0, .slice co (il c).length cc]) ?_ rfl ?_
     ·rw [results_cell2 rfl]
      go_simp
     rw [HQ.out]
     unfold UtP
     rw [HRU.out]
     rw [hW4]
     exact ⟨vb_d HB4.out.1, _, rfl, HB4.out.2.kept (vb_d (Below.refl _ _))⟩
  ·have hiI : ¬ (i : Int) < (m : Int) := by omega
   have hie : i = m := by have := HI.out.le; omega
   obtain ⟨_, _, va, _, _, kva, _, _, ova, -⟩ := HI.out.ss.ro
   obtain ⟨x, kx, -⟩ := HI.out.ss.kx
   obtain ⟨ao, ac, rfl, -⟩ := ova.form
   rw [HE.out.2.1] at kva
   rw [HE.out.2.2.1] at kx
   have HRU := hid_intro HI.out.ru
   rw [hie, List.drop_eq_nil_of_le (by simp)] at HRU
   have HV := hid_intro (And.intro kva (And.intro kx ova))
   obtain ⟨W4, hW4⟩ : ∃ W4, (wr.setCell ⟨w.heap.size, 0, none⟩ (.slice ao (il fin).length ac)).setCell ⟨w.heap.size + 1, 0, none⟩ (.slice none 0 0) = W4 := ⟨_, rfl⟩
   have k0 : Bk W4 w.heap.size #[.slice ao (il fin).length ac] := by rw [← hW4]; exact (kva.set 0 _ rfl).away (by show w.heap.size ≠ w.heap.size + 1; omega)
   have k1 : Bk W4 (w.heap.size + 1) #[.slice none 0 0] := by rw [← hW4]; exact (kx.away (by show w.heap.size + 1 ≠ w.heap.size; omega)).set 0 _ rfl
   have HB4 : Hid (Below w.heap.size w W4 ∧ OwnI W4 w.heap.size (.slice ao (il fin).length ac) (il fin)) := hid_intro (by
    have hBB := HE.out.2.2.2.2
    rw [← hW4]
    exact ⟨(HI.out.bel.setCell (by show w.heap.size ≤ w.heap.size; omega) _).setCell (by show w.heap.size ≤ w.heap.size + 1; omega) _, ((HV.out.2.2.set _ _ (by show w.heap.size < e.B + 12; omega)).set _ _ (by show w.heap.size + 1 < e.B + 12; omega)).low (by omega)⟩)
   have d0 := k0.q1
   have d1 := k1.q1
   have c0 := kva.q1
   have c1 := kx.q1
   have z0 := kva.frz 0
   have z1 := kx.frz 0
   have c2 : ∀ u, (wr.setCell ⟨w.heap.size, 0, none⟩ u).cell? ⟨w.heap.size + 1, 0, none⟩ = some x := fun u => (World.cell?_setCell_far _ _ _ _ (by show w.heap.size ≠ w.heap.size + 1; omega)).trans c1
   clear k0 k1 kva kx ova hie
   go_wp2_with fail
   try simp only [Exit.inBlock, Exit.then]
   refine bodyPost_ret (v := .tuple #[.slice ao (il fin).length ac, .slice none 0 0]) ?_ rfl ?_
   ·rw [results_cell2 rfl]
    go_simp
   rw [HQ.out]
   unfold UtP
   rw [HRU.out]
   exact ⟨HB4.out.1, _, rfl, HB4.out.2⟩
end Go.Proofs.Ytnlgeiofkfkhbaa
