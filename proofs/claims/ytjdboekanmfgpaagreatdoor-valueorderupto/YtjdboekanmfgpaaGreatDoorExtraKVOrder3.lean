/-
  ValueOrder answers true of all values. Conditions: lists and texts of at most 2^30; the tables as they are laid.
-/
import Derived.Test.YtjdboekanmfgpaaGreatDoorExtraKVOrder2
import Derived.Test.YtjdboekanmfgpaaGreatDoorJoined36
namespace Go.Proofs.YtjdboekanmfgpaaGreatDoor
open Go.RowKit Go.Lib Go.Sort
attribute [local go_sem] setCell_drewN alloc_drewN

set_option maxRecDepth 100000 in
set_option maxHeartbeats 12000000 in
theorem order_walk (a b c : JV) (fa fb fc : Nat → Value) (w : World) (hE : Lx.Tab w ∧ Pow w) (sa : Sm a) (sb : Sm b) (sc : Sm c) (ha : VI w (fun _ => False) a fa) (hb : VI w (fun _ => False) b fb) (hc : VI w (fun _ => False) c fc) :
  Calls Tryz.prog 7 #[va fa, va fb, va fc] w fun r w' => r = .returned (.bool true) ∧ Below w.heap.size w w' := by
 obtain ⟨P, hP⟩ : ∃ P : Ending → World → Prop, P = fun r w' => r = .returned (.bool true) ∧ Below w.heap.size w w' := ⟨_, rfl⟩
 rw [← hP]
 have HP := hid_intro hP
 obtain ⟨W, hW⟩ : ∃ W, ((w.alloc (.cells #[fa 0, fa 1, fa 2, fa 3, fa 4, fa 5, fa 6] 28)).alloc (.cells #[fb 0, fb 1, fb 2, fb 3, fb 4, fb 5, fb 6] 28)).alloc (.cells #[fc 0, fc 1, fc 2, fc 3, fc 4, fc 5, fc 6] 28) = W := ⟨_, rfl⟩
 have hbW : Below w.heap.size w W := hW ▸ vb_a (vb_a (vb_a (Below.refl _ _) _) _) _
 have xa : Bx W (w.heap.size) #[fa 0, fa 1, fa 2, fa 3, fa 4, fa 5, fa 6] 28 := hW ▸ ((Bx.new w _ _).al _).al _
 have xb : Bx W (w.heap.size + 1) #[fb 0, fb 1, fb 2, fb 3, fb 4, fb 5, fb 6] 28 := by
  have h := (Bx.new (w.alloc (.cells #[fa 0, fa 1, fa 2, fa 3, fa 4, fa 5, fa 6] 28)) #[fb 0, fb 1, fb 2, fb 3, fb 4, fb 5, fb 6] 28).al (.cells #[fc 0, fc 1, fc 2, fc 3, fc 4, fc 5, fc 6] 28)
  rw [hW] at h
  simpa using h
 have xc : Bx W (w.heap.size + 1 + 1) #[fc 0, fc 1, fc 2, fc 3, fc 4, fc 5, fc 6] 28 := by
  have h := Bx.new ((w.alloc (.cells #[fa 0, fa 1, fa 2, fa 3, fa 4, fa 5, fa 6] 28)).alloc (.cells #[fb 0, fb 1, fb 2, fb 3, fb 4, fb 5, fb 6] 28)) #[fc 0, fc 1, fc 2, fc 3, fc 4, fc 5, fc 6] 28
  rw [hW] at h
  simpa using h
 have HS : Hid (∀ w', Below W.heap.size W w' → (∀ o, w'.cell? ⟨w.heap.size, o, none⟩ = (#[fa 0, fa 1, fa 2, fa 3, fa 4, fa 5, fa 6] : Array Value)[o]?) ∧ (∀ o, w'.cell? ⟨w.heap.size + 1, o, none⟩ = (#[fb 0, fb 1, fb 2, fb 3, fb 4, fb 5, fb 6] : Array Value)[o]?) ∧ (∀ o, w'.cell? ⟨w.heap.size + 1 + 1, o, none⟩ = (#[fc 0, fc 1, fc 2, fc 3, fc 4, fc 5, fc 6] : Array Value)[o]?)) := hid_intro (fun w' hb => ⟨fun o => (xa.bel hb).cell o, fun o => (xb.bel hb).cell o, fun o => (xc.bel hb).cell o⟩)
 have HH : Hid (∀ w', Below W.heap.size W w' → Calls Tryz.prog 13 #[] w' fun r w'' => r = .returned (.bool true) ∧ Below W.heap.size W w'') := hid_intro (fun w' hb => (heads_any w' (hE.1.below (vb_t hbW hb)) (tab_below hE.2 (vb_t hbW hb))).mono fun r w'' ⟨h1, h2⟩ => ⟨h1, vb_t hb h2⟩)
 have HCa : Hid (∀ w', Below W.heap.size W w' → Calls Tryz.prog 11 #[.agg #[fa 0, fa 1, fa 2, fa 3, fa 4, fa 5, fa 6]] w' fun r w'' => r = .returned (.int .i64 (if mayB 10000 a = true then 0 else 60)) ∧ Below W.heap.size W w'') := hid_intro (fun w' hb' => (vcheck_any a sa fa w' (hE.1.below (vb_t hbW hb')) (ha.kept (vb_t hbW hb'))).mono fun r w'' ⟨h1, h2⟩ => ⟨h1, vb_t hb' h2⟩)
 have HCb : Hid (∀ w', Below W.heap.size W w' → Calls Tryz.prog 11 #[.agg #[fb 0, fb 1, fb 2, fb 3, fb 4, fb 5, fb 6]] w' fun r w'' => r = .returned (.int .i64 (if mayB 10000 b = true then 0 else 60)) ∧ Below W.heap.size W w'') := hid_intro (fun w' hb' => (vcheck_any b sb fb w' (hE.1.below (vb_t hbW hb')) (hb.kept (vb_t hbW hb'))).mono fun r w'' ⟨h1, h2⟩ => ⟨h1, vb_t hb' h2⟩)
 have HCc : Hid (∀ w', Below W.heap.size W w' → Calls Tryz.prog 11 #[.agg #[fc 0, fc 1, fc 2, fc 3, fc 4, fc 5, fc 6]] w' fun r w'' => r = .returned (.int .i64 (if mayB 10000 c = true then 0 else 60)) ∧ Below W.heap.size W w'') := hid_intro (fun w' hb' => (vcheck_any c sc fc w' (hE.1.below (vb_t hbW hb')) (hc.kept (vb_t hbW hb'))).mono fun r w'' ⟨h1, h2⟩ => ⟨h1, vb_t hb' h2⟩)
 have HBW := hid_intro hbW
 by_cases ma : mayB 10000 a = true
 ·by_cases mb : mayB 10000 b = true
  ·by_cases mc : mayB 10000 c = true
   ·have oa := may_okC a 10000 sa ma
    have ob := may_okC b 10000 sb mb
    have oc := may_okC c 10000 sc mc
    have HAB : Hid (∀ w', Below W.heap.size W w' → Calls Tryz.prog 16 #[.agg #[fa 0, fa 1, fa 2, fa 3, fa 4, fa 5, fa 6], .agg #[fb 0, fb 1, fb 2, fb 3, fb 4, fb 5, fb 6]] w' fun r w'' => r = .returned (.int .i64 (cmpJ a b)) ∧ Below W.heap.size W w'') := hid_intro (fun w' hb' => (cmpJ_any a b fa fb w' oa ob (ha.kept (vb_t hbW hb')) (hb.kept (vb_t hbW hb'))).mono fun r w'' ⟨h1, h2⟩ => ⟨h1, vb_t hb' h2⟩)
    have HBC : Hid (∀ w', Below W.heap.size W w' → Calls Tryz.prog 16 #[.agg #[fb 0, fb 1, fb 2, fb 3, fb 4, fb 5, fb 6], .agg #[fc 0, fc 1, fc 2, fc 3, fc 4, fc 5, fc 6]] w' fun r w'' => r = .returned (.int .i64 (cmpJ b c)) ∧ Below W.heap.size W w'') := hid_intro (fun w' hb' => (cmpJ_any b c fb fc w' ob oc (hb.kept (vb_t hbW hb')) (hc.kept (vb_t hbW hb'))).mono fun r w'' ⟨h1, h2⟩ => ⟨h1, vb_t hb' h2⟩)
    have HAC : Hid (∀ w', Below W.heap.size W w' → Calls Tryz.prog 16 #[.agg #[fa 0, fa 1, fa 2, fa 3, fa 4, fa 5, fa 6], .agg #[fc 0, fc 1, fc 2, fc 3, fc 4, fc 5, fc 6]] w' fun r w'' => r = .returned (.int .i64 (cmpJ a c)) ∧ Below W.heap.size W w'') := hid_intro (fun w' hb' => (cmpJ_any a c fa fc w' oa oc (ha.kept (vb_t hbW hb')) (hc.kept (vb_t hbW hb'))).mono fun r w'' ⟨h1, h2⟩ => ⟨h1, vb_t hb' h2⟩)
    have HBA : Hid (∀ w', Below W.heap.size W w' → Calls Tryz.prog 16 #[.agg #[fb 0, fb 1, fb 2, fb 3, fb 4, fb 5, fb 6], .agg #[fa 0, fa 1, fa 2, fa 3, fa 4, fa 5, fa 6]] w' fun r w'' => r = .returned (.int .i64 (- cmpJ a b)) ∧ Below W.heap.size W w'') := hid_intro (fun w' hb' => (cmpJ_any b a fb fa w' ob oa (hb.kept (vb_t hbW hb')) (ha.kept (vb_t hbW hb'))).mono fun r w'' ⟨h1, h2⟩ => ⟨by rw [h1, cmpJ_anti a b], vb_t hb' h2⟩)
    have HEAB : Hid (∀ w', Below W.heap.size W w' → Calls Tryz.prog 14 #[.agg #[fa 0, fa 1, fa 2, fa 3, fa 4, fa 5, fa 6], .agg #[fb 0, fb 1, fb 2, fb 3, fb 4, fb 5, fb 6]] w' fun r w'' => r = .returned (.bool (cmpJ a b == 0)) ∧ Below W.heap.size W w'') := hid_intro (fun w' hb' => (eqJ_any a b fa fb w' oa ob (ha.kept (vb_t hbW hb')) (hb.kept (vb_t hbW hb'))).mono fun r w'' ⟨h1, h2⟩ => ⟨h1, vb_t hb' h2⟩)
    have HEAA : Hid (∀ w', Below W.heap.size W w' → Calls Tryz.prog 14 #[.agg #[fa 0, fa 1, fa 2, fa 3, fa 4, fa 5, fa 6], .agg #[fa 0, fa 1, fa 2, fa 3, fa 4, fa 5, fa 6]] w' fun r w'' => r = .returned (.bool true) ∧ Below W.heap.size W w'') := hid_intro (fun w' hb' => (eqJ_any a a fa fa w' oa oa (ha.kept (vb_t hbW hb')) (ha.kept (vb_t hbW hb'))).mono fun r w'' ⟨h1, h2⟩ => ⟨by rw [h1, cmpJ_refl]; rfl, vb_t hb' h2⟩)
    have HSR : Hid (∀ w', Below W.heap.size W w' → Calls Tryz.prog 19 #[.agg #[fa 0, fa 1, fa 2, fa 3, fa 4, fa 5, fa 6]] w' fun r w'' => ∃ f', r = .returned (.agg #[f' 0, f' 1, f' 2, f' 3, f' 4, f' 5, f' 6]) ∧ Hid (VI w'' (fun _ => False) (srt a) f') ∧ Below W.heap.size W w'') := hid_intro (fun w' hb' => (sorted_any a sa 10000 ma fa w' (fun _ => False) (fun _ h => h.elim) (ha.kept (vb_t hbW hb'))).mono fun r w'' ⟨f', h1, h2, h3⟩ => ⟨f', h1, hid_intro h2, vb_t hb' h3⟩)
    have HESA : Hid (∀ w1 f', Below W.heap.size W w1 → Hid (VI w1 (fun _ => False) (srt a) f') → ∀ w', Below w1.heap.size w1 w' → Calls Tryz.prog 14 #[.agg #[f' 0, f' 1, f' 2, f' 3, f' 4, f' 5, f' 6], .agg #[fa 0, fa 1, fa 2, fa 3, fa 4, fa 5, fa 6]] w' fun r w'' => r = .returned (.bool true) ∧ Below W.heap.size W w'') := hid_intro (fun w1 f' hb1 hv w' hb' => (eqJ_any (srt a) a f' fa w' (okC_srt a oa) oa (hv.out.kept hb') (ha.kept (vb_t hbW (vb_t hb1 hb')))).mono fun r w'' ⟨h1, h2⟩ => ⟨by rw [h1, cmpJ_srt a oa]; rfl, vb_t (vb_t hb1 hb') h2⟩)
    have hx3 := cmpJ_v3 a b
    have hy3 := cmpJ_v3 b c
    have hz3 := cmpJ_v3 a c
    have hle := tp_cmpJ.trans a b c trivial trivial trivial
    have hlt := tp_cmpJ.s1 (a := a) (b := b) (d := c) trivial trivial trivial
    rw [if_pos ma] at HCa
    rw [if_pos mb] at HCb
    rw [if_pos mc] at HCc
    generalize cmpJ a b = x at *
    generalize cmpJ b c = y at *
    generalize cmpJ a c = z at *
    have HV := hid_intro (And.intro hx3 (And.intro hy3 (And.intro hz3 (And.intro hle hlt))))
    have hneg : IntKind.i64.wrap (-x) = -x := by rw [IntKind.wrap_i64]; unfold V3 at hx3; omega
    clear hP hE ha hb hc hbW xa xb xc ma mb mc oa ob oc sa sb sc hx3 hy3 hz3 hle hlt
    unfold va
    go_enter Tryz.func7, Tryz.ntmps7
    have aW0 : W.cell? ⟨w.heap.size, 0, none⟩ = some (fa 0) := (HS.out W (Below.refl _ _)).1 0
    have aW1 : W.cell? ⟨w.heap.size, 1, none⟩ = some (fa 1) := (HS.out W (Below.refl _ _)).1 1
    have aW2 : W.cell? ⟨w.heap.size, 2, none⟩ = some (fa 2) := (HS.out W (Below.refl _ _)).1 2
    have aW3 : W.cell? ⟨w.heap.size, 3, none⟩ = some (fa 3) := (HS.out W (Below.refl _ _)).1 3
    have aW4 : W.cell? ⟨w.heap.size, 4, none⟩ = some (fa 4) := (HS.out W (Below.refl _ _)).1 4
    have aW5 : W.cell? ⟨w.heap.size, 5, none⟩ = some (fa 5) := (HS.out W (Below.refl _ _)).1 5
    have aW6 : W.cell? ⟨w.heap.size, 6, none⟩ = some (fa 6) := (HS.out W (Below.refl _ _)).1 6
    go_wp2_with (first | (go_at_call 11; (with_reducible refine (HCa.out _ (Below.refl _ _)).mono ?_); rintro r w1 ⟨rfl, hb1⟩; have bw10 : w1.cell? ⟨w.heap.size + 1, 0, none⟩ = some (fb 0) := (HS.out w1 hb1).2.1 0; have bw11 : w1.cell? ⟨w.heap.size + 1, 1, none⟩ = some (fb 1) := (HS.out w1 hb1).2.1 1; have bw12 : w1.cell? ⟨w.heap.size + 1, 2, none⟩ = some (fb 2) := (HS.out w1 hb1).2.1 2; have bw13 : w1.cell? ⟨w.heap.size + 1, 3, none⟩ = some (fb 3) := (HS.out w1 hb1).2.1 3; have bw14 : w1.cell? ⟨w.heap.size + 1, 4, none⟩ = some (fb 4) := (HS.out w1 hb1).2.1 4; have bw15 : w1.cell? ⟨w.heap.size + 1, 5, none⟩ = some (fb 5) := (HS.out w1 hb1).2.1 5; have bw16 : w1.cell? ⟨w.heap.size + 1, 6, none⟩ = some (fb 6) := (HS.out w1 hb1).2.1 6) | (go_at_call 11; (with_reducible refine (HCb.out _ hb1).mono ?_); rintro r w2 ⟨rfl, hb2⟩; have cw20 : w2.cell? ⟨w.heap.size + 1 + 1, 0, none⟩ = some (fc 0) := (HS.out w2 hb2).2.2 0; have cw21 : w2.cell? ⟨w.heap.size + 1 + 1, 1, none⟩ = some (fc 1) := (HS.out w2 hb2).2.2 1; have cw22 : w2.cell? ⟨w.heap.size + 1 + 1, 2, none⟩ = some (fc 2) := (HS.out w2 hb2).2.2 2; have cw23 : w2.cell? ⟨w.heap.size + 1 + 1, 3, none⟩ = some (fc 3) := (HS.out w2 hb2).2.2 3; have cw24 : w2.cell? ⟨w.heap.size + 1 + 1, 4, none⟩ = some (fc 4) := (HS.out w2 hb2).2.2 4; have cw25 : w2.cell? ⟨w.heap.size + 1 + 1, 5, none⟩ = some (fc 5) := (HS.out w2 hb2).2.2 5; have cw26 : w2.cell? ⟨w.heap.size + 1 + 1, 6, none⟩ = some (fc 6) := (HS.out w2 hb2).2.2 6) | (go_at_call 11; (with_reducible refine (HCc.out _ hb2).mono ?_); rintro r w3 ⟨rfl, hc9⟩))
    go_region_held3 (fun w' => (∀ o, w'.cell? ⟨w.heap.size, o, none⟩ = (#[fa 0, fa 1, fa 2, fa 3, fa 4, fa 5, fa 6] : Array Value)[o]?) ∧ (∀ o, w'.cell? ⟨w.heap.size + 1, o, none⟩ = (#[fb 0, fb 1, fb 2, fb 3, fb 4, fb 5, fb 6] : Array Value)[o]?) ∧ (∀ o, w'.cell? ⟨w.heap.size + 1 + 1, o, none⟩ = (#[fc 0, fc 1, fc 2, fc 3, fc 4, fc 5, fc 6] : Array Value)[o]?)) (first | (refine HS.out _ ?_; (with_reducible repeat (first | exact hc9 | exact Below.refl _ _ | refine vb_d ?_ | refine vb_a ?_ _))) | fail) (first | (go_at_call 16; with_reducible refine (HAB.out _ ?_).mono ?_; (with_reducible repeat (first | exact hc9 | exact Below.refl _ _ | refine vb_d ?_ | refine vb_a ?_ _)); rintro r wc ⟨rfl, hc9⟩) | (go_at_call 16; with_reducible refine (HBC.out _ ?_).mono ?_; (with_reducible repeat (first | exact hc9 | exact Below.refl _ _ | refine vb_d ?_ | refine vb_a ?_ _)); rintro r wc ⟨rfl, hc9⟩) | (go_at_call 16; with_reducible refine (HAC.out _ ?_).mono ?_; (with_reducible repeat (first | exact hc9 | exact Below.refl _ _ | refine vb_d ?_ | refine vb_a ?_ _)); rintro r wc ⟨rfl, hc9⟩) | fail)
    all_goals
     clear HAB HBC HAC
     go_upto_region 4 with fail
     go_cut [54] (fun s wx => s = .bool false ∧ Below W.heap.size W wx)
     case first =>
      obtain ⟨hx3, hy3, hz3, hle, hlt⟩ := HV.out
      unfold V3 at hx3 hy3 hz3
      clear HS HH HCa HCb HCc HBA HEAB HEAA HSR HESA HV
      rcases hx3 with rfl | rfl | rfl <;> rcases hy3 with rfl | rfl | rfl <;> rcases hz3 with rfl | rfl | rfl <;> first | (exfalso; omega) | (clear hle hlt hneg; go_wp2_with fail; go_meet; exact ⟨rfl, hc9⟩)
     case rest =>
      obtain ⟨rfl, hc9⟩ := hcut
      clear HV
      go_wp2_with fail
      go_region_held3 (fun w' => (∀ o, w'.cell? ⟨w.heap.size, o, none⟩ = (#[fa 0, fa 1, fa 2, fa 3, fa 4, fa 5, fa 6] : Array Value)[o]?) ∧ (∀ o, w'.cell? ⟨w.heap.size + 1, o, none⟩ = (#[fb 0, fb 1, fb 2, fb 3, fb 4, fb 5, fb 6] : Array Value)[o]?) ∧ (∀ o, w'.cell? ⟨w.heap.size + 1 + 1, o, none⟩ = (#[fc 0, fc 1, fc 2, fc 3, fc 4, fc 5, fc 6] : Array Value)[o]?)) (first | (refine HS.out _ ?_; (with_reducible repeat (first | exact hc9 | exact Below.refl _ _ | refine vb_d ?_ | refine vb_a ?_ _))) | fail) (first | (go_at_call 16; with_reducible refine (HBA.out _ ?_).mono ?_; (with_reducible repeat (first | exact hc9 | exact Below.refl _ _ | refine vb_d ?_ | refine vb_a ?_ _)); rintro r wc ⟨rfl, hc9⟩) | (go_at_call 14; with_reducible refine (HEAB.out _ ?_).mono ?_; (with_reducible repeat (first | exact hc9 | exact Below.refl _ _ | refine vb_d ?_ | refine vb_a ?_ _)); rintro r wc ⟨rfl, hc9⟩) | (go_at_call 14; with_reducible refine (HEAA.out _ ?_).mono ?_; (with_reducible repeat (first | exact hc9 | exact Below.refl _ _ | refine vb_d ?_ | refine vb_a ?_ _)); rintro r wc ⟨rfl, hc9⟩) | (go_at_call 19; with_reducible refine (HSR.out _ ?_).mono ?_; (with_reducible repeat (first | exact hc9 | exact Below.refl _ _ | refine vb_d ?_ | refine vb_a ?_ _)); rintro r ws ⟨f', rfl, hvs, hs9⟩; have hc9 := hs9) | (go_at_call 14; with_reducible refine (HESA.out _ _ hs9 hvs _ ?_).mono ?_; (with_reducible repeat (first | exact Below.refl _ _ | refine vb_d ?_)); rintro r wc ⟨rfl, hc9⟩) | (go_at_call 13; with_reducible refine (HH.out _ ?_).mono ?_; (with_reducible repeat (first | exact hc9 | exact Below.refl _ _ | refine vb_d ?_ | refine vb_a ?_ _)); rintro r wc ⟨rfl, hc9⟩) | fail)
      all_goals
       go_wp2_with fail
       rw [HP.out]
       exact ⟨rfl, vb_t HBW.out hc9⟩
   ·skip
    rw [if_pos ma] at HCa
    rw [if_pos mb] at HCb
    rw [if_neg mc] at HCc
    clear hP hE ha hb hc hbW xa xb xc sa sb sc
    unfold va
    go_enter Tryz.func7, Tryz.ntmps7
    have aW0 : W.cell? ⟨w.heap.size, 0, none⟩ = some (fa 0) := (HS.out W (Below.refl _ _)).1 0
    have aW1 : W.cell? ⟨w.heap.size, 1, none⟩ = some (fa 1) := (HS.out W (Below.refl _ _)).1 1
    have aW2 : W.cell? ⟨w.heap.size, 2, none⟩ = some (fa 2) := (HS.out W (Below.refl _ _)).1 2
    have aW3 : W.cell? ⟨w.heap.size, 3, none⟩ = some (fa 3) := (HS.out W (Below.refl _ _)).1 3
    have aW4 : W.cell? ⟨w.heap.size, 4, none⟩ = some (fa 4) := (HS.out W (Below.refl _ _)).1 4
    have aW5 : W.cell? ⟨w.heap.size, 5, none⟩ = some (fa 5) := (HS.out W (Below.refl _ _)).1 5
    have aW6 : W.cell? ⟨w.heap.size, 6, none⟩ = some (fa 6) := (HS.out W (Below.refl _ _)).1 6
    go_wp2_with (first | (go_at_call 11; (with_reducible refine (HCa.out _ (Below.refl _ _)).mono ?_); rintro r w1 ⟨rfl, hb1⟩; have bw10 : w1.cell? ⟨w.heap.size + 1, 0, none⟩ = some (fb 0) := (HS.out w1 hb1).2.1 0; have bw11 : w1.cell? ⟨w.heap.size + 1, 1, none⟩ = some (fb 1) := (HS.out w1 hb1).2.1 1; have bw12 : w1.cell? ⟨w.heap.size + 1, 2, none⟩ = some (fb 2) := (HS.out w1 hb1).2.1 2; have bw13 : w1.cell? ⟨w.heap.size + 1, 3, none⟩ = some (fb 3) := (HS.out w1 hb1).2.1 3; have bw14 : w1.cell? ⟨w.heap.size + 1, 4, none⟩ = some (fb 4) := (HS.out w1 hb1).2.1 4; have bw15 : w1.cell? ⟨w.heap.size + 1, 5, none⟩ = some (fb 5) := (HS.out w1 hb1).2.1 5; have bw16 : w1.cell? ⟨w.heap.size + 1, 6, none⟩ = some (fb 6) := (HS.out w1 hb1).2.1 6) | (go_at_call 11; (with_reducible refine (HCb.out _ hb1).mono ?_); rintro r w2 ⟨rfl, hb2⟩; have cw20 : w2.cell? ⟨w.heap.size + 1 + 1, 0, none⟩ = some (fc 0) := (HS.out w2 hb2).2.2 0; have cw21 : w2.cell? ⟨w.heap.size + 1 + 1, 1, none⟩ = some (fc 1) := (HS.out w2 hb2).2.2 1; have cw22 : w2.cell? ⟨w.heap.size + 1 + 1, 2, none⟩ = some (fc 2) := (HS.out w2 hb2).2.2 2; have cw23 : w2.cell? ⟨w.heap.size + 1 + 1, 3, none⟩ = some (fc 3) := (HS.out w2 hb2).2.2 3; have cw24 : w2.cell? ⟨w.heap.size + 1 + 1, 4, none⟩ = some (fc 4) := (HS.out w2 hb2).2.2 4; have cw25 : w2.cell? ⟨w.heap.size + 1 + 1, 5, none⟩ = some (fc 5) := (HS.out w2 hb2).2.2 5; have cw26 : w2.cell? ⟨w.heap.size + 1 + 1, 6, none⟩ = some (fc 6) := (HS.out w2 hb2).2.2 6) | (go_at_call 11; (with_reducible refine (HCc.out _ hb2).mono ?_); rintro r w3 ⟨rfl, hc9⟩) | (go_at_call 13; (with_reducible refine (HH.out _ hc9).mono ?_); rintro r w4 ⟨rfl, hb4⟩))
    rw [HP.out]
    exact ⟨rfl, vb_t HBW.out hb4⟩
  ·skip
   rw [if_pos ma] at HCa
   rw [if_neg mb] at HCb
   clear hP hE ha hb hc hbW xa xb xc sa sb sc
   unfold va
   go_enter Tryz.func7, Tryz.ntmps7
   have aW0 : W.cell? ⟨w.heap.size, 0, none⟩ = some (fa 0) := (HS.out W (Below.refl _ _)).1 0
   have aW1 : W.cell? ⟨w.heap.size, 1, none⟩ = some (fa 1) := (HS.out W (Below.refl _ _)).1 1
   have aW2 : W.cell? ⟨w.heap.size, 2, none⟩ = some (fa 2) := (HS.out W (Below.refl _ _)).1 2
   have aW3 : W.cell? ⟨w.heap.size, 3, none⟩ = some (fa 3) := (HS.out W (Below.refl _ _)).1 3
   have aW4 : W.cell? ⟨w.heap.size, 4, none⟩ = some (fa 4) := (HS.out W (Below.refl _ _)).1 4
   have aW5 : W.cell? ⟨w.heap.size, 5, none⟩ = some (fa 5) := (HS.out W (Below.refl _ _)).1 5
   have aW6 : W.cell? ⟨w.heap.size, 6, none⟩ = some (fa 6) := (HS.out W (Below.refl _ _)).1 6
   go_wp2_with (first | (go_at_call 11; (with_reducible refine (HCa.out _ (Below.refl _ _)).mono ?_); rintro r w1 ⟨rfl, hb1⟩; have bw10 : w1.cell? ⟨w.heap.size + 1, 0, none⟩ = some (fb 0) := (HS.out w1 hb1).2.1 0; have bw11 : w1.cell? ⟨w.heap.size + 1, 1, none⟩ = some (fb 1) := (HS.out w1 hb1).2.1 1; have bw12 : w1.cell? ⟨w.heap.size + 1, 2, none⟩ = some (fb 2) := (HS.out w1 hb1).2.1 2; have bw13 : w1.cell? ⟨w.heap.size + 1, 3, none⟩ = some (fb 3) := (HS.out w1 hb1).2.1 3; have bw14 : w1.cell? ⟨w.heap.size + 1, 4, none⟩ = some (fb 4) := (HS.out w1 hb1).2.1 4; have bw15 : w1.cell? ⟨w.heap.size + 1, 5, none⟩ = some (fb 5) := (HS.out w1 hb1).2.1 5; have bw16 : w1.cell? ⟨w.heap.size + 1, 6, none⟩ = some (fb 6) := (HS.out w1 hb1).2.1 6) | (go_at_call 11; (with_reducible refine (HCb.out _ hb1).mono ?_); rintro r w2 ⟨rfl, hb2⟩; have cw20 : w2.cell? ⟨w.heap.size + 1 + 1, 0, none⟩ = some (fc 0) := (HS.out w2 hb2).2.2 0; have cw21 : w2.cell? ⟨w.heap.size + 1 + 1, 1, none⟩ = some (fc 1) := (HS.out w2 hb2).2.2 1; have cw22 : w2.cell? ⟨w.heap.size + 1 + 1, 2, none⟩ = some (fc 2) := (HS.out w2 hb2).2.2 2; have cw23 : w2.cell? ⟨w.heap.size + 1 + 1, 3, none⟩ = some (fc 3) := (HS.out w2 hb2).2.2 3; have cw24 : w2.cell? ⟨w.heap.size + 1 + 1, 4, none⟩ = some (fc 4) := (HS.out w2 hb2).2.2 4; have cw25 : w2.cell? ⟨w.heap.size + 1 + 1, 5, none⟩ = some (fc 5) := (HS.out w2 hb2).2.2 5; have cw26 : w2.cell? ⟨w.heap.size + 1 + 1, 6, none⟩ = some (fc 6) := (HS.out w2 hb2).2.2 6) | (go_at_call 13; (with_reducible refine (HH.out _ hb2).mono ?_); rintro r w4 ⟨rfl, hb4⟩))
   rw [HP.out]
   exact ⟨rfl, vb_t HBW.out hb4⟩
 ·skip
  rw [if_neg ma] at HCa
  clear hP hE ha hb hc hbW xa xb xc sa sb sc
  unfold va
  go_enter Tryz.func7, Tryz.ntmps7
  have aW0 : W.cell? ⟨w.heap.size, 0, none⟩ = some (fa 0) := (HS.out W (Below.refl _ _)).1 0
  have aW1 : W.cell? ⟨w.heap.size, 1, none⟩ = some (fa 1) := (HS.out W (Below.refl _ _)).1 1
  have aW2 : W.cell? ⟨w.heap.size, 2, none⟩ = some (fa 2) := (HS.out W (Below.refl _ _)).1 2
  have aW3 : W.cell? ⟨w.heap.size, 3, none⟩ = some (fa 3) := (HS.out W (Below.refl _ _)).1 3
  have aW4 : W.cell? ⟨w.heap.size, 4, none⟩ = some (fa 4) := (HS.out W (Below.refl _ _)).1 4
  have aW5 : W.cell? ⟨w.heap.size, 5, none⟩ = some (fa 5) := (HS.out W (Below.refl _ _)).1 5
  have aW6 : W.cell? ⟨w.heap.size, 6, none⟩ = some (fa 6) := (HS.out W (Below.refl _ _)).1 6
  go_wp2_with (first | (go_at_call 11; (with_reducible refine (HCa.out _ (Below.refl _ _)).mono ?_); rintro r w1 ⟨rfl, hb1⟩; have bw10 : w1.cell? ⟨w.heap.size + 1, 0, none⟩ = some (fb 0) := (HS.out w1 hb1).2.1 0; have bw11 : w1.cell? ⟨w.heap.size + 1, 1, none⟩ = some (fb 1) := (HS.out w1 hb1).2.1 1; have bw12 : w1.cell? ⟨w.heap.size + 1, 2, none⟩ = some (fb 2) := (HS.out w1 hb1).2.1 2; have bw13 : w1.cell? ⟨w.heap.size + 1, 3, none⟩ = some (fb 3) := (HS.out w1 hb1).2.1 3; have bw14 : w1.cell? ⟨w.heap.size + 1, 4, none⟩ = some (fb 4) := (HS.out w1 hb1).2.1 4; have bw15 : w1.cell? ⟨w.heap.size + 1, 5, none⟩ = some (fb 5) := (HS.out w1 hb1).2.1 5; have bw16 : w1.cell? ⟨w.heap.size + 1, 6, none⟩ = some (fb 6) := (HS.out w1 hb1).2.1 6) | (go_at_call 13; (with_reducible refine (HH.out _ hb1).mono ?_); rintro r w4 ⟨rfl, hb4⟩))
  rw [HP.out]
  exact ⟨rfl, vb_t HBW.out hb4⟩
end Go.Proofs.YtjdboekanmfgpaaGreatDoor
