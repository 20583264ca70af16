/-
  PointerAll answers true. Conditions: nothing in the value is longer than 2^20, at most 2^20 values; the tables of the library and of package utf as they are laid.
-/
import Derived.Test.YtkbkedknoahhgaaDoorJoined47
import Derived.Test.YtkbkedknoahhgaaDoorJoined39
import Derived.Test.YtkbkedknoahhgaaDoorJoined40
import Derived.Test.YtkbkedknoahhgaaDoorJoined17
import Derived.Deep.CutRange
namespace Go.Proofs.YtkbkedknoahhgaaDoor
open Go.RowKit
attribute [local go_sem] setCell_drewN alloc_drewN

theorem all_bd : ∀ (v : JV), Bd7 1048576 v → ∀ (a : List UInt8), ∀ p ∈ allJ v a, p.length ≤ a.length + dpN v * 4194304 := by
  intro v
  induction v using JV.ind with
  | h k n g e t l ks ih =>
    intro hb a p hp
    cases hb with
    | mk h1 h2 h5 h6 =>
    have key : ∀ (m : List JV) (o : Nat), o + m.length ≤ 1048576 → (∀ c ∈ m, Bd7 1048576 c ∧ dpN c ≤ dpL l ∧ ∀ a, ∀ p ∈ allJ c a, p.length ≤ a.length + dpN c * 4194304) → ∀ p ∈ allL m k ks o a, p.length ≤ a.length + (dpL l + 1) * 4194304 := by
      intro m
      induction m with
      | nil => intro o _ _ p hp; simp [allL] at hp
      | cons c m ihm =>
        intro o ho hc p hp
        rw [List.length_cons] at ho
        rw [allL] at hp
        rcases List.mem_append.1 hp with hp | hp
        · obtain ⟨_, c2, c3⟩ := hc c (by simp)
          have q1 := c3 _ p hp
          have q2 := textL1_len _ (prt_len (k := k) (ks := ks) (i := o) (by omega) h5)
          rw [atP_text, List.length_append] at q1
          omega
        · exact ihm (o + 1) (by omega) (fun y hy => hc y (by simp [hy])) p hp
    rw [allJ] at hp
    rw [dpN]
    rcases List.mem_cons.1 hp with rfl | hp
    · omega
    · exact key l 0 (by omega) (fun c hc => ⟨h6 c hc, dpL_mem l c hc, ih c hc (h6 c hc)⟩) p hp
set_option maxRecDepth 100000 in
set_option maxHeartbeats 12800000 in
theorem pall_walk (v : JV) (f : Nat → Value) (w : World) (hv : VI w (fun _ => False) v f) (hsm : Sm v) (hsz : Sz v) (hbd : Bd7 1048576 v) (hcn : cntV v ≤ 1048576) (hE : Env w) :
    Calls Tryd.prog 4 #[.agg #[f 0, f 1, f 2, f 3, f 4, f 5, f 6]] w fun r w' => r = .returned (.bool true) ∧ Below w.heap.size w w' := by
  have hck := fun w' (hb : Below w.heap.size w w') => check6S_any v f w' hsm hsz (hv.kept hb)
  have hdp := fun w' (hb : Below w.heap.size w w') => rdepth_any v f w' (hv.kept hb)
  have hrs := fun w' (hb : Below w.heap.size w w') => rsize_any v f w' (hv.kept hb)
  have hal := fun (hs : ShV v) (hd : dpN v ≤ 1000) w' (hb : Below w.heap.size w w') => allP_any v f w' hs hbd hcn hd (hv.kept hb) (tab_below hE.pow hb)
  have hfi := fun (p : List UInt8) (hp : p.length ≤ 1099511627776) (wr w' : World) (h1 : Below w.heap.size w wr) (h2 : Below wr.heap.size wr w') => find_far v f p wr w' (hv.kept h1) hsm hp h2
  have hsa := fun (w' : World) (x : Nat → Value) (hb : Below w.heap.size w w') (hx : VI w' (fun _ => False) v x) => same_refl v hsm x f w' hx (hv.kept hb)
  have HHD := hid_intro (fun w' (hb : Below w.heap.size w w') => heads_any w' (hE.below hb))
  rw [size_cnt v (by omega)] at hrs
  obtain ⟨k, n, g, e, t, la, lm, lc, ka, km, kc, f0, f1, f2, f3, f4, f5, f6⟩ := hv.shape
  have hva : va f = .agg #[.int .i64 k, .bool n, .string g, .int .i64 e, .string t, .slice la lm lc, .slice ka km kc] := by unfold va; rw [f0, f1, f2, f3, f4, f5, f6]
  rw [hva] at hdp hrs hsa
  rw [f0, f1, f2, f3, f4, f5, f6] at hck hal hfi
  rw [f0, f1, f2, f3, f4, f5, f6]
  have HDT := hid_intro (dp_told v)
  have HDC := hid_intro (Nat.le_trans (dp_cnt v) hcn)
  have HAF := hid_intro (all_found v)
  have HAL := hid_intro (allJ_len v [])
  have HAB := hid_intro (all_bd v hbd [])
  have HA0 : Hid (∃ r, allJ v [] = [] :: r) := hid_intro (by cases v with | mk k n g e t l ks => exact ⟨_, by rw [allJ]⟩)
  obtain ⟨d, hd⟩ : ∃ d, depthV rholds v = d := ⟨_, rfl⟩
  obtain ⟨cn, hcc⟩ : ∃ cn, cntV v = cn := ⟨_, rfl⟩
  rw [hd] at hdp HDT
  rw [hcc] at hrs HAL
  have HCN : Hid (cn ≤ 1048576) := hid_intro (by omega)
  obtain ⟨P, hP⟩ : ∃ P : Ending → World → Prop, P = fun r w' => r = .returned (.bool true) ∧ Below w.heap.size w w' := ⟨_, rfl⟩
  rw [← hP]
  have HP := hid_intro hP
  have hA0 := C7.new w (.int .i64 k) (.bool n) (.string g) (.int .i64 e) (.string t) (.slice la lm lc) (.slice ka km kc) 28
  obtain ⟨W, hW⟩ : ∃ W, w.alloc (.cells #[.int .i64 k, .bool n, .string g, .int .i64 e, .string t, .slice la lm lc, .slice ka km kc] 28) = W := ⟨_, rfl⟩
  rw [hW] at hA0
  have HBW : Hid (Below w.heap.size w W) := hid_intro (hW ▸ bl_a (Below.refl _ _) _)
  have HKC : Hid (∀ w', Below W.heap.size W w' → ∀ o, w'.cell? ⟨w.heap.size, o, none⟩ = #[Value.int .i64 k, .bool n, .string g, .int .i64 e, .string t, .slice la lm lc, .slice ka km kc][o]?) := hid_intro (fun w' hb => by subst hW; exact keepC hb)
  have HS : Hid (∀ w', Below W.heap.size W w' → C7 w' w.heap.size (.int .i64 k) (.bool n) (.string g) (.int .i64 e) (.string t) (.slice la lm lc) (.slice ka km kc)) := hid_intro (fun w' hb => hA0.bel hb)
  have HCK := hid_intro hck
  have HDP := hid_intro hdp
  have HRS := hid_intro hrs
  have HAS := hid_intro hal
  have HFI := hid_intro hfi
  have HSA := hid_intro hsa
  clear hP hck hdp hrs hal hfi hsa hv hsm hsz hbd hcn hE f0 f1 f2 f3 f4 f5 f6 hva hd hcc
  obtain ⟨a0, a1, a2, a3, a4, a5, a6, _, _, _, _, _, _, _⟩ := hA0
  go_enter Tryd.func4, Tryd.ntmps4
  go_wp2_with fail
  refine (HCK.out W HBW.out).mono ?_; rintro r w1 ⟨⟨c, rfl, hcz⟩, hb1⟩
  have HCZ := hid_intro hcz
  have HB1 := hid_intro hb1
  clear hcz hb1 a0 a1 a2 a3 a4 a5 a6 hW
  cases hc : (c != 0)
  case true =>
    go_wp2_with fail
    refine (HHD.out w1 (bl_t HBW.out HB1.out)).mono ?_; rintro r w9 ⟨rfl, hb9⟩
    go_wp2_with fail
    rw [HP.out]
    exact ⟨rfl, bl_t (bl_t HBW.out HB1.out) hb9⟩
  have HSH : Hid (ShV v) := hid_intro (HCZ.out (by simpa using hc))
  obtain ⟨a0, a1, a2, a3, a4, a5, a6, _, _, _, _, _, _, _⟩ := HS.out w1 HB1.out
  go_wp2_with fail
  refine (HDP.out w1 (bl_t HBW.out HB1.out)).mono ?_; rintro r w2 ⟨rfl, hb2⟩
  have HB2 := hid_intro (bl_t HB1.out hb2)
  clear hb2 a0 a1 a2 a3 a4 a5 a6
  by_cases hd2 : 200 < d
  · go_wp2_with fail
    refine (HHD.out w2 (bl_t HBW.out HB2.out)).mono ?_; rintro r w9 ⟨rfl, hb9⟩
    go_wp2_with fail
    rw [HP.out]
    exact ⟨rfl, bl_t (bl_t HBW.out HB2.out) hb9⟩
  have HDN : Hid (dpN v ≤ 201) := hid_intro (by have := HDT.out HSH.out (by have := HDC.out; omega); omega)
  have hdd : decide (200 < d) = false := decide_eq_false hd2
  clear hd2
  obtain ⟨a0, a1, a2, a3, a4, a5, a6, _, _, _, _, _, _, _⟩ := HS.out w2 HB2.out
  go_wp2_with fail
  refine (HRS.out w2 (bl_t HBW.out HB2.out)).mono ?_; rintro r w3 ⟨rfl, hb3⟩
  have HB3 := hid_intro (bl_t HB2.out hb3)
  clear hb3 a0 a1 a2 a3 a4 a5 a6
  by_cases hc3 : (300 : Int) < (cn : Int)
  · have hc3' : 300 < cn := by omega
    go_wp2_with fail
    refine (HHD.out w3 (bl_t HBW.out HB3.out)).mono ?_; rintro r w9 ⟨rfl, hb9⟩
    go_wp2_with fail
    rw [HP.out]
    exact ⟨rfl, bl_t (bl_t HBW.out HB3.out) hb9⟩
  have hcd : decide ((300 : Int) < (cn : Int)) = false := decide_eq_false hc3
  have hcd' : decide (300 < cn) = false := decide_eq_false (by omega)
  have HC3 : Hid (cn ≤ 300) := hid_intro (by omega)
  clear hc3
  obtain ⟨a0, a1, a2, a3, a4, a5, a6, _, _, _, _, _, _, _⟩ := HS.out w3 HB3.out
  go_wp2_with fail
  refine (HAS.out HSH.out (by have := HDN.out; omega) w3 (bl_t HBW.out HB3.out)).mono ?_; rintro r w4 ⟨lv, rfl, hL, hb4⟩
  have HB4' := hid_intro (bl_t HB3.out hb4)
  obtain ⟨xs, hxs⟩ : ∃ xs, allJ v [] = xs := ⟨_, rfl⟩
  rw [hxs] at hL HAL HAB HA0
  have HFD : Hid (∀ p ∈ xs, ∃ u, findR v p = (u, 0)) := hid_intro (by rw [← hxs]; exact (HAF.out HSH.out).1)
  have HND : Hid (xs.Nodup) := hid_intro (by rw [← hxs]; exact (HAF.out HSH.out).2.1)
  have HF0 : Hid (findR v [] = (v, 0)) := hid_intro (HAF.out HSH.out).2.2
  obtain ⟨la', lc', hlv⟩ := hL.shape
  subst hlv
  have hne : xs ≠ [] := by obtain ⟨r, hr⟩ := HA0.out; rw [hr]; simp
  obtain ⟨lb, lo, hla, hlc⟩ := hL.lies hne
  subst hla
  have HLB : Hid (∀ w', Below w4.heap.size w4 w' → ∀ i x, xs[i]? = some x → w'.cell? ⟨lb, lo + i, none⟩ = some (.string (bs x))) := hid_intro (fun w' hb i x hx => by
    rw [hb.cell (p := ⟨lb, lo + i, none⟩) (World.block_lt_of_cell? w4 _ (hlc i x hx))]; exact hlc i x hx)
  have HXL : Hid (xs.length = cn) := HAL
  clear hb4 hL hlc hxs a0 a1 a2 a3 a4 a5 a6 HAL hne
  have hxlen : xs.length = cn := HXL.out
  rw [hxlen]
  clear hxlen
  obtain ⟨a0, a1, a2, a3, a4, a5, a6, _, _, _, _, _, _, _⟩ := HS.out w4 HB4'.out
  go_wp2_with fail
  refine (HRS.out w4 (bl_t HBW.out HB4'.out)).mono ?_; rintro r w5 ⟨rfl, hb5⟩
  have HB5 := hid_intro (bl_t HB4'.out hb5)
  have HL5 : Hid (∀ w', Below w5.heap.size w5 w' → ∀ i x, xs[i]? = some x → w'.cell? ⟨lb, lo + i, none⟩ = some (.string (bs x))) := hid_intro (fun w' hb => HLB.out w' (bl_t hb5 hb))
  have z0 : w5.cell? ⟨lb, lo, none⟩ = some (.string ⟨#[]⟩) := by
    obtain ⟨r, hr⟩ := HA0.out
    have := HL5.out w5 (Below.refl _ _) 0 [] (by rw [hr]; rfl)
    rw [Nat.add_zero] at this
    exact this
  have HC0 : Hid (0 < cn) := hid_intro (by obtain ⟨r, hr⟩ := HA0.out; have := HXL.out; rw [hr] at this; simp at this; omega)
  have hc0 : 0 < cn := HC0.out
  have hcI : (cn : Int) ≤ 300 := by have := HC3.out; omega
  clear hb5 a0 a1 a2 a3 a4 a5 a6 HLB
  go_wp2_with fail
  clear z0 hc0
  go_loopg [4] cn (fun m s4 wr => ∃ i : Nat, m = cn - i ∧ s4 = .int .i64 (i : Int) ∧ Hid (i ≤ cn) ∧ Hid (Below w5.heap.size w5 wr))
  case atStart => exact ⟨0, rfl, rfl, Nat.zero_le _, Below.refl _ _⟩
  case round =>
    obtain ⟨i, rfl, rfl, HIL, HBR⟩ := hrel
    obtain ⟨wo, hwo⟩ : ∃ wo, wo = wr := ⟨_, rfl⟩
    by_cases hlt : (i : Int) < (cn : Int)
    · have HLT : Hid (i < cn) := hid_intro (by omega)
      have HXI : Hid (i < xs.length) := hid_intro (by have := HXL.out; have := HLT.out; omega)
      obtain ⟨p, hp⟩ : ∃ p, xs[i]'HXI.out = p := ⟨_, rfl⟩
      have hmem : p ∈ xs := by rw [← hp]; exact List.getElem_mem _
      have hpi : xs[i]? = some p := by rw [List.getElem?_eq_getElem HXI.out, hp]
      obtain ⟨u, hu⟩ := HFD.out p hmem
      have HBWr : Hid (Below w.heap.size w wr) := hid_intro (bl_t HBW.out (bl_t HB5.out HBR.out))
      have HF9 : Hid (∀ w', Below wr.heap.size wr w' → Calls Tryd.prog 8 #[.agg #[.int .i64 k, .bool n, .string g, .int .i64 e, .string t, .slice la lm lc, .slice ka km kc], .string (bs p)] w' fun r w2 => ∃ x : Nat → Value, r = .returned (.tuple #[.agg #[x 0, x 1, x 2, x 3, x 4, x 5, x 6], .int .i64 0]) ∧ VI w2 (fun b => wr.heap.size ≤ b ∧ b < w'.heap.size) u x ∧ Below w'.heap.size w' w2) := hid_intro (fun w' hb => by
        have := HFI.out p (by have h1 := HAB.out p hmem; have h2 := HDN.out; rw [List.length_nil] at h1; omega) wr w' HBWr.out hb
        rw [hu] at this
        exact this)
      have HPI := hid_intro hpi
      have HU0 : Hid (i = 0 → u = v) := hid_intro (fun h0 => by
        subst h0
        obtain ⟨r, hr⟩ := HA0.out
        have : p = [] := by
          have h2 := hpi
          rw [hr] at h2
          simpa using h2.symm
        rw [this, HF0.out] at hu
        injection hu with hu _
        exact hu.symm)
      have HS9 : Hid (∀ w', Below wr.heap.size wr w' → (∀ o, w'.cell? ⟨w.heap.size, o, none⟩ = #[Value.int .i64 k, .bool n, .string g, .int .i64 e, .string t, .slice la lm lc, .slice ka km kc][o]?) ∧ w'.cell? ⟨lb, lo + i, none⟩ = some (.string (bs p))) := hid_intro (fun w' hb => by
        refine ⟨fun o => ?_, HL5.out w' (bl_t HBR.out hb) i p HPI.out⟩
        have hbb := bl_t HB5.out (bl_t HBR.out hb)
        have := HKC.out w' hbb o
        exact this)
      clear hp hmem hpi hu
      go_upto_region 9 with fail
      go_cut [5, 6] from 35 to 75 (fun s5 s6 wx => ∃ (xb : Nat) (k2 : Int) (n2 : Bool) (g2 : ByteArray) (e2 : Int) (t2 : ByteArray) (la2 : Option Addr) (lm2 lc2 : Nat) (ka2 : Option Addr) (km2 kc2 : Nat), s5 = .pointer (some ⟨xb, 0, none⟩) ∧ s6 = .int .i64 0 ∧ Hid (Fin wo wx xb u (.int .i64 k2) (.bool n2) (.string g2) (.int .i64 e2) (.string t2) (.slice la2 lm2 lc2) (.slice ka2 km2 kc2)))
      case first =>
        subst hwo
        go_region_held3 (fun w' => (∀ o, w'.cell? ⟨w.heap.size, o, none⟩ = #[Value.int .i64 k, .bool n, .string g, .int .i64 e, .string t, .slice la lm lc, .slice ka km kc][o]?) ∧ w'.cell? ⟨lb, lo + i, none⟩ = some (.string (bs p))) (first | (refine HS9.out _ ?_; with_reducible repeat (first | exact Below.refl _ _ | refine bl_d ?_ | refine bl_a ?_ _ | refine bl_s7 ?_ (by first | exact Nat.le_refl _ | exact Nat.le_succ _ | (refine Below.size (w := wo) (B := wo.heap.size) ?_; with_reducible repeat (first | exact Below.refl _ _ | refine bl_d ?_ | refine bl_a ?_ _ | refine bl_t ?_ hb4))) | refine bl_t ?_ hb4)) | fail) (first | (go_at_call 8; refine (HF9.out _ ?_).mono ?_; (with_reducible repeat (first | exact Below.refl _ _ | refine bl_d ?_ | refine bl_a ?_ _)); rintro r w4 ⟨x, rfl, hvx, hb4⟩; obtain ⟨k2, n2, g2, e2, t2, la2, lm2, lc2, ka2, km2, kc2, z0, z1, z2, z3, z4, z5, z6⟩ := hvx.shape; rw [z0, z1, z2, z3, z4, z5, z6]; have HV := hidI (hvx.to7 z0 z1 z2 z3 z4 z5 z6); have HB4 := hidI hb4; clear hvx z0 z1 z2 z3 z4 z5 z6; first | (refine C7.got (wo.heap.size) (.int .i64 0) (.bool false) (.string ⟨#[]⟩) (.int .i64 0) (.string ⟨#[]⟩) (.slice none 0 0) (.slice none 0 0) hb4 ?_ ?_; (focus (with_reducible (repeat (first | exact C7.new _ _ _ _ _ _ _ _ _ | refine C7.dr ?_ | refine C7.al ?_ _))); done); intro hZ; have HZ := hidI hZ; obtain ⟨p0, p1, p2, p3, p4, p5, p6, r0, r1, r2, r3, r4, r5, r6⟩ := hZ) | skip) | fail)
        all_goals
          go_wp2
          go_meet
          case rel =>
            refine ⟨_, k2, n2, g2, e2, t2, la2, lm2, lc2, ka2, km2, kc2, rfl, rfl, hid_intro ?_⟩
            first
            | (with_reducible refine Fin.late ?_ HV.out _; (with_reducible repeat (first | exact Below.refl _ _ | refine bl_d ?_ | refine bl_a ?_ _ | refine bl_t ?_ HB4.out)); done)
            | (with_reducible refine Fin.early ?_ HV.out HZ.out (Nat.le_refl _) ?_ ?_; (with_reducible repeat (first | exact Below.refl _ _ | refine bl_d ?_ | refine bl_a ?_ _ | refine bl_t ?_ HB4.out)); (refine Below.size (w := wo) (B := wo.heap.size) ?_; with_reducible repeat (first | exact Below.refl _ _ | refine bl_d ?_ | refine bl_a ?_ _ | refine bl_t ?_ HB4.out)); (with_reducible (repeat (first | exact C7.new _ _ _ _ _ _ _ _ _ | refine C7.dr ?_ | refine C7.al ?_ _))))
      case rest =>
        obtain ⟨xb, k2, n2, g2, e2, t2, la2, lm2, lc2, ka2, km2, kc2, rfl, rfl, HFN⟩ := hcut
        subst hwo
        have HBC : Hid (Below W.heap.size W wc) := hid_intro (bl_t HB5.out (bl_t HBR.out HFN.out.bel))
        clear HF9 HS9
        by_cases hi0 : i = 0
        · have hu2 := HU0.out hi0
          have HI0 := hid_intro hi0
          have hz : ((i : Int) == 0) = true := by rw [hi0]; rfl
          have h9 := HSA.out wc (f7 (.int .i64 k2) (.bool n2) (.string g2) (.int .i64 e2) (.string t2) (.slice la2 lm2 lc2) (.slice ka2 km2 kc2)) (bl_t HBW.out HBC.out) (by rw [← hu2]; exact HFN.out.tree)
          obtain ⟨a0, a1, a2, a3, a4, a5, a6, _, _, _, _, _, _, _⟩ := HS.out wc HBC.out
          obtain ⟨b0, b1, b2, b3, b4, b5, b6, _, _, _, _, _, _, _⟩ := HFN.out.box
          clear hi0 hu2
          go_wp2_with fail
          refine h9.mono ?_; rintro r w6 ⟨rfl, hb6⟩
          have HB6 := hid_intro hb6
          clear h9 hb6 a0 a1 a2 a3 a4 a5 a6 b0 b1 b2 b3 b4 b5 b6 hz
          go_wp2_with fail
          go_loopg [7] i (fun m s7 wq => ∃ j : Nat, m = i - j ∧ s7 = .int .i64 (j : Int) ∧ Hid (j ≤ i) ∧ Hid (Below wc.heap.size wc wq))
          case atStart => exact ⟨0, rfl, rfl, Nat.zero_le _, HB6.out⟩
          case round =>
            obtain ⟨j, rfl, rfl, HJL, HBJ⟩ := hrel
            by_cases hjl : (j : Int) < (i : Int)
            · have HJT : Hid (j < i) := hid_intro (by omega)
              have HJX : Hid (j < xs.length) := hid_intro (by have := HJT.out; have := HXI.out; omega)
              obtain ⟨q, hq⟩ : ∃ q, xs[j]'HJX.out = q := ⟨_, rfl⟩
              have hqj : xs[j]? = some q := by rw [List.getElem?_eq_getElem HJX.out, hq]
              have g1 := HL5.out wr (bl_t (bl_t HBR.out HFN.out.bel) HBJ.out) j q hqj
              have g2 := HL5.out wr (bl_t (bl_t HBR.out HFN.out.bel) HBJ.out) i p HPI.out
              have hne : bs q ≠ bs p := fun h => by
                have h2 : q = p := bs_inj.1 h
                have h3 := HPI.out
                rw [← h2, ← hqj] at h3
                have := (List.getElem?_inj HXI.out HND.out).1 h3
                have := HJT.out
                omega
              have heq := eq_bytes (bs q) (bs p)
              rw [decide_eq_false hne] at heq
              have hjc : (j : Int) < (cn : Int) := by omega
              clear hq hqj hne
              generalize bs q = y1 at *
              generalize bs p = y2 at *
              go_wp2_with fail
              go_quiet (fail)
              go_wp2_with fail
              go_roundg (i - (j + 1))
              case measure => have := HJT.out; omega
              case rel => exact ⟨j + 1, rfl, by simp, HJT.out, bl_n HBJ.out _⟩
            · go_wp2_with fail
              go_roundg (cn - (i + 1))
              case measure => have := HLT.out; omega
              case rel => exact ⟨i + 1, rfl, by simp, HLT.out, bl_t (bl_t HBR.out HFN.out.bel) HBJ.out⟩
        · have hz : ((i : Int) == 0) = false := by rw [beq_eq_false_iff_ne]; omega
          go_wp2_with fail
          clear hz
          go_loopg [7] i (fun m s7 wq => ∃ j : Nat, m = i - j ∧ s7 = .int .i64 (j : Int) ∧ Hid (j ≤ i) ∧ Hid (Below wc.heap.size wc wq))
          case atStart => exact ⟨0, rfl, rfl, Nat.zero_le _, Below.refl _ _⟩
          case round =>
            obtain ⟨j, rfl, rfl, HJL, HBJ⟩ := hrel
            by_cases hjl : (j : Int) < (i : Int)
            · have HJT : Hid (j < i) := hid_intro (by omega)
              have HJX : Hid (j < xs.length) := hid_intro (by have := HJT.out; have := HXI.out; omega)
              obtain ⟨q, hq⟩ : ∃ q, xs[j]'HJX.out = q := ⟨_, rfl⟩
              have hqj : xs[j]? = some q := by rw [List.getElem?_eq_getElem HJX.out, hq]
              have g1 := HL5.out wr (bl_t (bl_t HBR.out HFN.out.bel) HBJ.out) j q hqj
              have g2 := HL5.out wr (bl_t (bl_t HBR.out HFN.out.bel) HBJ.out) i p HPI.out
              have hne : bs q ≠ bs p := fun h => by
                have h2 : q = p := bs_inj.1 h
                have h3 := HPI.out
                rw [← h2, ← hqj] at h3
                have := (List.getElem?_inj HXI.out HND.out).1 h3
                have := HJT.out
                omega
              have heq := eq_bytes (bs q) (bs p)
              rw [decide_eq_false hne] at heq
              have hjc : (j : Int) < (cn : Int) := by omega
              clear hq hqj hne
              generalize bs q = y1 at *
              generalize bs p = y2 at *
              go_wp2_with fail
              go_quiet (fail)
              go_wp2_with fail
              go_roundg (i - (j + 1))
              case measure => have := HJT.out; omega
              case rel => exact ⟨j + 1, rfl, by simp, HJT.out, bl_n HBJ.out _⟩
            · go_wp2_with fail
              go_roundg (cn - (i + 1))
              case measure => have := HLT.out; omega
              case rel => exact ⟨i + 1, rfl, by simp, HLT.out, bl_t (bl_t HBR.out HFN.out.bel) HBJ.out⟩
    · have h8 := HHD.out wr (bl_t HBW.out (bl_t HB5.out HBR.out))
      go_wp2_with fail
      refine h8.mono ?_; rintro r w9 ⟨rfl, hb9⟩
      go_wp2_with fail
      rw [HP.out]
      exact ⟨rfl, bl_t (bl_t HBW.out (bl_t HB5.out HBR.out)) hb9⟩
end Go.Proofs.YtkbkedknoahhgaaDoor
