/-
  PointerFinds answers true. Conditions: nothing in the value is longer than 2^20, at most 2^20 values; at most 2^20 bytes; the tables of the library and of package utf as they are laid.
-/
import Derived.Test.YtkbkedknoahhgaaDoorJoined46
import Derived.Test.YtkbkedknoahhgaaDoorJoined48
namespace Go.Proofs.YtkbkedknoahhgaaDoor
open Go.RowKit
attribute [local go_sem] setCell_drewN alloc_drewN

theorem findR_smA (v : JV) (l : List UInt8) (hs : Sm v) : Sm (findR v l).1 := by
  unfold findR
  split
  · exact .mk (Nat.zero_le _) (Nat.zero_le _) (fun c hc => absurd hc (by simp))
  · rename_i ps _
    split
    · exact .mk (Nat.zero_le _) (Nat.zero_le _) (fun c hc => absurd hc (by simp))
    · rename_i u hu
      exact findJ_sm _ _ _ hs hu
theorem SRow.dr {w : World} {v : Value} {xs : List (List UInt8)} (h : SRow w v xs) : SRow w.drew v xs := h.below (bl_d (Below.refl _ _))
set_option maxRecDepth 100000 in
set_option maxHeartbeats 6400000 in
theorem pfinds_walk (v : JV) (f : Nat → Value) (s : ByteArray) (w : World) (hv : VI w (fun _ => False) v f) (hsm : Sm v) (hsz : Sz v) (hbd : Bd7 1048576 v) (hcn : cntV v ≤ 1048576) (hp : s.size ≤ 1048576) (hE : Env w) :
    Calls Tryd.prog 3 #[.agg #[f 0, f 1, f 2, f 3, f 4, f 5, f 6], .string s] w fun r w' => r = .returned (.bool true) ∧ Below w.heap.size w w' := by
  have hck := fun w' (hb : Below w.heap.size w w') => check6S_any v f w' hsm hsz (hv.kept hb)
  have hdp := fun w' (hb : Below w.heap.size w w') => rdepth_any v f w' (hv.kept hb)
  have hal := fun (hs : ShV v) (hd : dpN v ≤ 1000) w' (hb : Below w.heap.size w w') => allP_any v f w' hs hbd hcn hd (hv.kept hb) (tab_below hE.pow hb)
  have hra := fun (hs : ShV v) (hd : dpN v ≤ 1000) w' (hb : Below w.heap.size w w') => rall_any v f w' hs hbd hcn hd (hv.kept hb) (tab_below hE.pow hb)
  have hfi := fun (w' : World) (hb : Below w.heap.size w w') => find_any v f s w' (hv.kept hb) hsm (by omega)
  have hrf := fun (hs : ShV v) (w' : World) (hb : Below w.heap.size w w') => rfind_any v f s w' (hv.kept hb) hsm hs (by omega) (tab_below hE.pow hb)
  have HSM := hid_intro (findR_smA v s.data.toList hsm)
  have HHD := hid_intro (fun w' (hb : Below w.heap.size w w') => heads_any w' (hE.below hb))
  obtain ⟨k, n, g, e, t, la, lm, lc, ka, km, kc, f0, f1, f2, f3, f4, f5, f6⟩ := hv.shape
  have hva : va f = .agg #[.int .i64 k, .bool n, .string g, .int .i64 e, .string t, .slice la lm lc, .slice ka km kc] := by unfold va; rw [f0, f1, f2, f3, f4, f5, f6]
  rw [hva] at hdp
  rw [f0, f1, f2, f3, f4, f5, f6] at hck hal hra hfi hrf
  rw [f0, f1, f2, f3, f4, f5, f6]
  have HDT := hid_intro (dp_told v)
  have HDC := hid_intro (Nat.le_trans (dp_cnt v) hcn)
  have HAL : Hid ((allJ v []).length ≤ 1048576) := hid_intro (by rw [allJ_len v []]; exact hcn)
  obtain ⟨d, hd⟩ : ∃ d, depthV rholds v = d := ⟨_, rfl⟩
  rw [hd] at hdp HDT
  obtain ⟨u, hu⟩ : ∃ u, findR v s.data.toList = u := ⟨_, rfl⟩
  rw [hu] at hfi hrf HSM
  obtain ⟨uv, ue⟩ := u
  obtain ⟨xs, hxs⟩ : ∃ xs, allJ v [] = xs := ⟨_, rfl⟩
  rw [hxs] at hal hra HAL
  have HTX : Hid (∀ w' v1 v2, SRow w' v1 xs → SRow w' v2 xs → Calls Tryd.prog 11 #[v1, v2] w' fun r w2 => r = .returned (.bool true) ∧ Below w'.heap.size w' w2) := hid_intro (fun w' v1 v2 h1 h2 => by
    have := texts_any v1 v2 xs xs w' h1 h2 (by have := HAL.out; omega)
    rw [decide_eq_true rfl] at this
    exact this)
  obtain ⟨P, hP⟩ : ∃ P : Ending → World → Prop, P = fun r w' => r = .returned (.bool true) ∧ Below w.heap.size w w' := ⟨_, rfl⟩
  rw [← hP]
  have HP := hid_intro hP
  have hA0 := C7.new w (.int .i64 k) (.bool n) (.string g) (.int .i64 e) (.string t) (.slice la lm lc) (.slice ka km kc) 28
  obtain ⟨W, hW⟩ : ∃ W, w.alloc (.cells #[.int .i64 k, .bool n, .string g, .int .i64 e, .string t, .slice la lm lc, .slice ka km kc] 28) = W := ⟨_, rfl⟩
  rw [hW] at hA0
  have HBW : Hid (Below w.heap.size w W) := hid_intro (hW ▸ bl_a (Below.refl _ _) _)
  have HKC : Hid (∀ w', Below W.heap.size W w' → ∀ o, w'.cell? ⟨w.heap.size, o, none⟩ = #[Value.int .i64 k, .bool n, .string g, .int .i64 e, .string t, .slice la lm lc, .slice ka km kc][o]?) := hid_intro (fun w' hb => by subst hW; exact keepC hb)
  have HS : Hid (∀ w', Below W.heap.size W w' → C7 w' w.heap.size (.int .i64 k) (.bool n) (.string g) (.int .i64 e) (.string t) (.slice la lm lc) (.slice ka km kc)) := hid_intro (fun w' hb => hA0.bel hb)
  have HCK := hid_intro hck
  have HDP := hid_intro hdp
  have HAS := hid_intro hal
  have HRA := hid_intro hra
  have HFI := hid_intro hfi
  have HRF := hid_intro hrf
  clear hP hck hdp hal hra hfi hrf hv hsm hsz hbd hcn hE f0 f1 f2 f3 f4 f5 f6 hva hd hu hxs hp
  obtain ⟨a0, a1, a2, a3, a4, a5, a6, _, _, _, _, _, _, _⟩ := hA0
  go_enter Tryd.func3, Tryd.ntmps3
  go_wp2_with fail
  refine (HCK.out W HBW.out).mono ?_; rintro r w1 ⟨⟨c, rfl, hcz⟩, hb1⟩
  have HCZ := hid_intro hcz
  have HB1 := hid_intro hb1
  clear hcz hb1 a0 a1 a2 a3 a4 a5 a6 hW
  cases hc : (c != 0)
  case true =>
    go_wp2_with fail
    refine (HHD.out w1 (bl_t HBW.out HB1.out)).mono ?_; rintro r w9 ⟨rfl, hb9⟩
    go_wp2_with fail
    rw [HP.out]
    exact ⟨rfl, bl_t (bl_t HBW.out HB1.out) hb9⟩
  have HSH : Hid (ShV v) := hid_intro (HCZ.out (by simpa using hc))
  obtain ⟨a0, a1, a2, a3, a4, a5, a6, _, _, _, _, _, _, _⟩ := HS.out w1 HB1.out
  go_wp2_with fail
  refine (HDP.out w1 (bl_t HBW.out HB1.out)).mono ?_; rintro r w2 ⟨rfl, hb2⟩
  have HB2 := hid_intro (bl_t HB1.out hb2)
  clear hb2 a0 a1 a2 a3 a4 a5 a6
  by_cases hd2 : 200 < d
  · go_wp2_with fail
    refine (HHD.out w2 (bl_t HBW.out HB2.out)).mono ?_; rintro r w9 ⟨rfl, hb9⟩
    go_wp2_with fail
    rw [HP.out]
    exact ⟨rfl, bl_t (bl_t HBW.out HB2.out) hb9⟩
  have HDN : Hid (dpN v ≤ 201) := hid_intro (by have := HDT.out HSH.out (by have := HDC.out; omega); omega)
  have hdd : decide (200 < d) = false := decide_eq_false hd2
  clear hd2
  obtain ⟨a0, a1, a2, a3, a4, a5, a6, _, _, _, _, _, _, _⟩ := HS.out w2 HB2.out
  go_wp2_with fail
  refine (HFI.out w2 (bl_t HBW.out HB2.out)).mono ?_
  rintro r w3 ⟨x, rfl, hvx, hb3⟩
  obtain ⟨k2, n2, g2, e2, t2, la2, lm2, lc2, ka2, km2, kc2, z0, z1, z2, z3, z4, z5, z6⟩ := hvx.shape
  rw [z0, z1, z2, z3, z4, z5, z6]
  have HVX := hid_intro (hvx.to7 z0 z1 z2 z3 z4 z5 z6)
  have HB3 := hid_intro (bl_t HB2.out hb3)
  clear hvx z0 z1 z2 z3 z4 z5 z6 a0 a1 a2 a3 a4 a5 a6 hb3 hdd hc
  have HB4 : Hid (Below w3.heap.size w3 (w3.alloc (.cells #[.int .i64 k2, .bool n2, .string g2, .int .i64 e2, .string t2, .slice la2 lm2 lc2, .slice ka2 km2 kc2] 28))) := hid_intro (bl_a (Below.refl _ _) _)
  have HKX : Hid (∀ w', Below (w3.alloc (.cells #[.int .i64 k2, .bool n2, .string g2, .int .i64 e2, .string t2, .slice la2 lm2 lc2, .slice ka2 km2 kc2] 28)).heap.size (w3.alloc (.cells #[.int .i64 k2, .bool n2, .string g2, .int .i64 e2, .string t2, .slice la2 lm2 lc2, .slice ka2 km2 kc2] 28)) w' → ∀ o, w'.cell? ⟨w3.heap.size, o, none⟩ = #[Value.int .i64 k2, .bool n2, .string g2, .int .i64 e2, .string t2, .slice la2 lm2 lc2, .slice ka2 km2 kc2][o]?) := hid_intro (fun w' hb => keepC hb)
  obtain ⟨a0, a1, a2, a3, a4, a5, a6, _, _, _, _, _, _, _⟩ := HS.out _ (bl_t HB3.out HB4.out)
  go_wp2_with fail
  generalize w3.alloc (.cells #[.int .i64 k2, .bool n2, .string g2, .int .i64 e2, .string t2, .slice la2 lm2 lc2, .slice ka2 km2 kc2] 28) = W4 at *
  refine (HRF.out HSH.out W4 (bl_t HBW.out (bl_t HB3.out HB4.out))).mono ?_
  rintro r w5 ⟨y, rfl, hvy, hb5⟩
  obtain ⟨k4, n4, g4, e4, t4, la4, lm4, lc4, ka4, km4, kc4, z0, z1, z2, z3, z4, z5, z6⟩ := hvy.shape
  rw [z0, z1, z2, z3, z4, z5, z6]
  have HVY := hid_intro (hvy.to7 z0 z1 z2 z3 z4 z5 z6)
  have HB5 := hid_intro hb5
  clear hvy z0 z1 z2 z3 z4 z5 z6 a0 a1 a2 a3 a4 a5 a6 hb5
  have HB6 : Hid (Below w5.heap.size w5 (w5.alloc (.cells #[.int .i64 k4, .bool n4, .string g4, .int .i64 e4, .string t4, .slice la4 lm4 lc4, .slice ka4 km4 kc4] 28))) := hid_intro (bl_a (Below.refl _ _) _)
  have HKY : Hid (∀ w', Below (w5.alloc (.cells #[.int .i64 k4, .bool n4, .string g4, .int .i64 e4, .string t4, .slice la4 lm4 lc4, .slice ka4 km4 kc4] 28)).heap.size (w5.alloc (.cells #[.int .i64 k4, .bool n4, .string g4, .int .i64 e4, .string t4, .slice la4 lm4 lc4, .slice ka4 km4 kc4] 28)) w' → ∀ o, w'.cell? ⟨w5.heap.size, o, none⟩ = #[Value.int .i64 k4, .bool n4, .string g4, .int .i64 e4, .string t4, .slice la4 lm4 lc4, .slice ka4 km4 kc4][o]?) := hid_intro (fun w' hb => keepC hb)
  go_upto_region 5 with fail
  generalize w5.alloc (.cells #[.int .i64 k4, .bool n4, .string g4, .int .i64 e4, .string t4, .slice la4 lm4 lc4, .slice ka4 km4 kc4] 28) = W6 at *
  have HW6 : Hid (Below W4.heap.size W4 W6) := hid_intro (bl_t HB5.out HB6.out)
  have HWW : Hid (Below W.heap.size W W6) := hid_intro (bl_t (bl_t HB3.out HB4.out) HW6.out)
  have HXX : Hid (∀ w', Below W6.heap.size W6 w' → Below w.heap.size w w') := hid_intro (fun w' hb => bl_t (bl_t HBW.out HWW.out) hb)
  have HH : Hid (∀ w', Below W6.heap.size W6 w' → (∀ o, w'.cell? ⟨w.heap.size, o, none⟩ = #[Value.int .i64 k, .bool n, .string g, .int .i64 e, .string t, .slice la lm lc, .slice ka km kc][o]?) ∧ (∀ o, w'.cell? ⟨w3.heap.size, o, none⟩ = #[Value.int .i64 k2, .bool n2, .string g2, .int .i64 e2, .string t2, .slice la2 lm2 lc2, .slice ka2 km2 kc2][o]?) ∧ (∀ o, w'.cell? ⟨w5.heap.size, o, none⟩ = #[Value.int .i64 k4, .bool n4, .string g4, .int .i64 e4, .string t4, .slice la4 lm4 lc4, .slice ka4 km4 kc4][o]?)) := hid_intro (fun w' hb => ⟨HKC.out w' (bl_t HWW.out hb), HKX.out w' (bl_t HW6.out hb), HKY.out w' hb⟩)
  have HSA : Hid (∀ w', Below W6.heap.size W6 w' → Calls Tryd.prog 10 #[.agg #[.int .i64 k2, .bool n2, .string g2, .int .i64 e2, .string t2, .slice la2 lm2 lc2, .slice ka2 km2 kc2], .agg #[.int .i64 k4, .bool n4, .string g4, .int .i64 e4, .string t4, .slice la4 lm4 lc4, .slice ka4 km4 kc4]] w' fun r w2 => r = .returned (.bool true) ∧ Below w'.heap.size w' w2) := hid_intro (fun w' hb => same_refl uv HSM.out (f7 (.int .i64 k2) (.bool n2) (.string g2) (.int .i64 e2) (.string t2) (.slice la2 lm2 lc2) (.slice ka2 km2 kc2)) (f7 (.int .i64 k4) (.bool n4) (.string g4) (.int .i64 e4) (.string t4) (.slice la4 lm4 lc4) (.slice ka4 km4 kc4)) w' (HVX.out.kept (bl_t (bl_t HB4.out HW6.out) hb)) (HVY.out.kept (bl_t HB6.out hb)))
  have HA8 : Hid (∀ w', Below W6.heap.size W6 w' → Calls Tryd.prog 12 #[.agg #[.int .i64 k, .bool n, .string g, .int .i64 e, .string t, .slice la lm lc, .slice ka km kc]] w' fun r w2 => ∃ v', r = .returned v' ∧ SRow w2 v' xs ∧ Below w'.heap.size w' w2) := hid_intro (fun w' hb => HAS.out HSH.out (by have := HDN.out; omega) w' (HXX.out w' hb))
  have HA9 : Hid (∀ w', Below W6.heap.size W6 w' → Calls Tryd.prog 13 #[.agg #[.int .i64 k, .bool n, .string g, .int .i64 e, .string t, .slice la lm lc, .slice ka km kc]] w' fun r w2 => ∃ v', r = .returned v' ∧ SRow w2 v' xs ∧ Below w'.heap.size w' w2) := hid_intro (fun w' hb => HRA.out HSH.out (by have := HDN.out; omega) w' (HXX.out w' hb))
  have HHE : Hid (∀ w', Below W6.heap.size W6 w' → Calls Tryd.prog 7 #[] w' fun r w2 => r = .returned (.bool true) ∧ Below w'.heap.size w' w2) := hid_intro (fun w' hb => HHD.out w' (HXX.out w' hb))
  clear HHD HAS HRA HFI HRF HCK HDP HSH HDN HKC HKX HKY HVX HVY HSM HS HDT HDC HAL HCZ HBW HB1 HB2 HB3 HB4 HB5 HB6 HW6 HWW
  go_region_held3 (fun w' => (∀ o, w'.cell? ⟨w.heap.size, o, none⟩ = #[Value.int .i64 k, .bool n, .string g, .int .i64 e, .string t, .slice la lm lc, .slice ka km kc][o]?) ∧ (∀ o, w'.cell? ⟨w3.heap.size, o, none⟩ = #[Value.int .i64 k2, .bool n2, .string g2, .int .i64 e2, .string t2, .slice la2 lm2 lc2, .slice ka2 km2 kc2][o]?) ∧ (∀ o, w'.cell? ⟨w5.heap.size, o, none⟩ = #[Value.int .i64 k4, .bool n4, .string g4, .int .i64 e4, .string t4, .slice la4 lm4 lc4, .slice ka4 km4 kc4][o]?)) (first | (refine HH.out _ ?_; (with_reducible repeat (first | exact Below.refl _ _ | refine bl_t ?_ hb11 | refine bl_t ?_ hb10 | refine bl_t ?_ hb9 | refine bl_t ?_ hb8 | refine bl_t ?_ hb7 | refine bl_d ?_ | refine bl_a ?_ _))) | fail) (first | (go_at_call 10; refine (HSA.out _ ?_).mono ?_; (with_reducible repeat (first | exact Below.refl _ _ | refine bl_t ?_ hb11 | refine bl_t ?_ hb10 | refine bl_t ?_ hb9 | refine bl_t ?_ hb8 | refine bl_t ?_ hb7 | refine bl_d ?_ | refine bl_a ?_ _)); rintro r w7 ⟨rfl, hb7⟩) | (go_at_call 12; refine (HA8.out _ ?_).mono ?_; (with_reducible repeat (first | exact Below.refl _ _ | refine bl_t ?_ hb11 | refine bl_t ?_ hb10 | refine bl_t ?_ hb9 | refine bl_t ?_ hb8 | refine bl_t ?_ hb7 | refine bl_d ?_ | refine bl_a ?_ _)); rintro r w8 ⟨lv, rfl, hL8, hb8⟩) | (go_at_call 13; refine (HA9.out _ ?_).mono ?_; (with_reducible repeat (first | exact Below.refl _ _ | refine bl_t ?_ hb11 | refine bl_t ?_ hb10 | refine bl_t ?_ hb9 | refine bl_t ?_ hb8 | refine bl_t ?_ hb7 | refine bl_d ?_ | refine bl_a ?_ _)); rintro r w9 ⟨rv, rfl, hL9, hb9⟩) | (go_at_call 11; refine (HTX.out _ _ _ ?_ ?_).mono ?_; (focus (with_reducible (repeat (first | exact hL8 | refine SRow.below ?_ hb9 | refine SRow.dr ?_)))); (focus (with_reducible (repeat (first | exact hL9 | refine SRow.below ?_ hb8 | refine SRow.dr ?_)))); rintro r w10 ⟨rfl, hb10⟩) | (go_at_call 7; refine (HHE.out _ ?_).mono ?_; (with_reducible repeat (first | exact Below.refl _ _ | refine bl_t ?_ hb11 | refine bl_t ?_ hb10 | refine bl_t ?_ hb9 | refine bl_t ?_ hb8 | refine bl_t ?_ hb7 | refine bl_d ?_ | refine bl_a ?_ _)); rintro r w11 ⟨rfl, hb11⟩) | fail)
  all_goals
    have HF := hid_intro (HXX.out w11 (by (with_reducible repeat (first | exact Below.refl _ _ | refine bl_t ?_ hb11 | refine bl_t ?_ hb10 | refine bl_t ?_ hb9 | refine bl_t ?_ hb8 | refine bl_t ?_ hb7 | refine bl_d ?_ | refine bl_a ?_ _))))
    clear HH HSA HA8 HA9 HHE HTX
    go_wp2_with fail
    rw [HP.out]
    exact ⟨rfl, by (with_reducible repeat (first | exact HF.out | refine bl_d ?_))⟩
end Go.Proofs.YtkbkedknoahhgaaDoor
