/-
  UtfShortest answers true for every bytes, and leaves them as they were. Conditions: none but the table of greatest code points as the program's text lays it (the card ties it).
-/
import Derived.Test.YtibkhbmglnlgkaaDoorRow
import Derived.Test.YtibkhbmglnlgkaaDoorD2
import Derived.Deep.RegionHeld3
import Derived.Deep.DrawnRows
namespace Go.Proofs.YtibkhbmglnlgkaaDoor
open Go.ChangeShapes Go.WideShapes Go.ChangeAt Go.RowKit
attribute [local go_sem ↓] Go.wp_at_zero Go.wp_at_succ

/-- What one of the two statements of a round calls: a copy of the first m bytes, and utf.Good of them with an end behind. -/
structure Tries (a : Option Addr) (cap m j H : Nat) (f : Nat → Int) (wr : World) : Prop where
  slice : ∀ len wx, (Instr.slice 22 (.slice a len cap) none (some (.int .i64 (m : Int))) none).run Tryd.prog wx = .ok (.slice a m cap) wx
  copy : Calls Tryd.prog 26 #[.slice a m cap] wr.drew fun e w' => ∃ r, e = .returned r ∧ w'.ownsRow wr.heap.size 5 1 r m (vals m f) ∧ Below wr.heap.size wr w'
  cell : ∀ w', Below wr.heap.size wr w' → w'.cell? ⟨H + 1 + 1 + 1 + 1 + 1 + 1 + 1 + 1, j, none⟩ = some (.slice (some ⟨H + j, 0, none⟩) (endM j) (endM j))
  row : ∀ w', Below wr.heap.size wr w' → Row w' (.slice (some ⟨H + j, 0, none⟩) (endM j) (endM j)) (endM j) (endF j)
  good : ∀ v3 w3, w3.ownsRow wr.heap.size 5 1 v3 (m + endM j) (vals m f ++ vals (endM j) (endF j)) → Below wr.heap.size wr w3 →
    Calls Tryd.prog 9 #[v3] w3 fun e w' => e = .returned (.tuple #[.int .i64 ((good (m + endM j) (catF m f (endF j))).1 : Nat), .bool (good (m + endM j) (catF m f (endF j))).2]) ∧ ∃ n, w' = w3.drewN n

theorem tries (a : Option Addr) (n cap m j H : Nat) (f : Nat → Int) (wr : World) (hT : Tab wr) (h0 : 0 < wr.heap.size) (hR : Row wr (.slice a n cap) n f) (lo : ∀ i, 0 ≤ f i) (up : ∀ i, f i < 256) (hE : Ends wr H) (hj : j < 8) (hm : m ≤ n) (hn : n + 9 ≤ 140737488355328) : Tries a cap m j H f wr := by
  obtain ⟨hr, hc⟩ := hR.take hm
  refine ⟨fun len wx => slice_to a len cap m hc wx, ?_, fun w' hb => (hE.below hb).cell j hj, fun w' hb => (hE.below hb).row j hj, fun v3 w3 ho hb => ?_⟩
  · refine (copy_any _ m f wr.drew (hr.drewN 1) (by omega)).mono ?_
    rintro e w' ⟨r, h1, h2, h3⟩
    exact ⟨r, h1, h2, (below_drewN (Below.refl _ _) 1).trans h3⟩
  · rw [vals_cat] at ho
    exact good_any v3 _ _ w3 (hT.below hb h0) (Row.of_own (catF_lo _ _ _ lo (endF_lo j)) (catF_hi _ _ _ up (endF_hi j)) ho)

/-- What stands at the head of each round. -/
def ShRel (gd : Nat) (f : Nat → Int) (w5 : World) (t i : Value) (wr : World) : Prop :=
  ∃ j : Nat, j ≤ 8 ∧ i = .int .i64 j ∧ t = .bool (anyB gd f j) ∧ Below w5.heap.size w5 wr

set_option maxRecDepth 100000 in
set_option maxHeartbeats 4000000 in
theorem short_eq (a : Option Addr) (cap n : Nat) (f : Nat → Int) (w : World) (hT : Tab w) (h0 : 0 < w.heap.size) (hR : Row w (.slice a n cap) n f) (lo : ∀ i, 0 ≤ f i) (up : ∀ i, f i < 256) (hn : n + 9 ≤ 140737488355328) (hgn : (good n f).1 = n) :
    Calls Tryd.prog 6 #[.slice a n cap] w fun e w' => e = .returned (.bool true) ∧ Below w.heap.size w w' := by
  have hg := good_any _ n f w hT hR
  obtain ⟨e, he, HS⟩ := shortest_some n f lo up
  rw [hgn] at hg HS
  have HA : Hid (anyB n f 8 = true) := anyB_of n f 8 e he HS
  clear hgn HS
  generalize (good n f).2 = ok at *
  have g1 : ((n : Int) == (n : Int)) = true := by simp
  have k1 : ¬ (n : Int) < (n : Int) := by omega
  have k2 : ¬ (n : Int) < 0 := by omega
  have k1d : decide ((n : Int) < (n : Int)) = false := by simp
  cases ok
  all_goals
    go_enter Tryd.func6, Tryd.ntmps6
    go_wp2_with fail
    refine hg.mono ?_
    rintro e w' ⟨rfl, q, rfl⟩
    clear hg
    go_wp2_with fail
    obtain ⟨w5, hw5⟩ : ∃ w5, w5 = endsWorld (w.drewN q) := ⟨_, rfl⟩
    have hE0 := (ends_new (w.drewN q)).1
    have hb0 : Below w.heap.size w (endsWorld (w.drewN q)) := (below_drewN (Below.refl _ _) q).trans (ends_new (w.drewN q)).2
    rw [← hw5] at hE0 hb0
    unfold endsWorld at hw5
    simp only [World.heap_drewN] at hw5 hE0
    rw [← hw5]
    clear hw5
    have hz0 := hb0.size
    have hT5 := hT.below hb0 h0
    have hR5 := hR.below hb0
    generalize hH : w.heap.size = H at *
    have HH : Hid (w.heap.size = H) := hH
    clear hH
    go_loopw [6, 7] (fun t i wr => ShRel n f w5 t i wr) (fun _ i _ => 8 - (intOf i).toNat)
    case atStart => exact ⟨0, by omega, rfl, rfl, Below.refl _ _⟩
    case round =>
      obtain ⟨j, hj, rfl, rfl, hb⟩ := hrel
      have hzr := hb.size
      by_cases hlt : j < 8
      · have hTr := tries a n cap n j H f wr (hT5.below hb (by omega)) (by omega) (hR5.below hb) lo up (hE0.below hb) hlt (Nat.le_refl _) hn
        obtain ⟨t1, t2, t3, t4, t5⟩ := hTr
        have t1 := t1 n
        have HN : Hid (anyB n f (j + 1) = (anyB n f j || (good (n + endM j) (catF n f (endF j))).2)) := rfl
        have m3 := endM_le j
        have hsm1 : n + endM j ≤ 140737488355328 := by omega
        have hjI : (j : Int) < 8 := by omega
        generalize (good (n + endM j) (catF n f (endF j))).1 = g0 at *
        generalize (good (n + endM j) (catF n f (endF j))).2 = gj at *
        generalize anyB n f j = sm at *
        go_wp2_with fail
        go_region_held3 (fun w' => w'.cell? ⟨H + 1 + 1 + 1 + 1 + 1 + 1 + 1 + 1, j, none⟩ = some (.slice (some ⟨H + j, 0, none⟩) (endM j) (endM j))) (first | exact t3 _ (Below.refl _ _) | exact t3 _ (below_drewN (Below.refl _ _) 1) | exact t3 _ hb1 | exact t3 _ hb3 | exact t3 _ (below_drewN hb3 _)) (first | (go_at_call 26; refine t2.mono ?_; rintro e w1 ⟨r, rfl, ho, hb1⟩) | (go_at_call 9; refine (t5 _ _ hown3 hb3).mono ?_; rintro e w' ⟨rfl, q3, rfl⟩) | (refine step_append_row (by rfl) _ _ (by rfl) wr.heap.size _ _ _ (by rfl) ho ⟨H + j, 0, none⟩ (endM j) (endM j) (endF j) (by rfl) (t4 _ hb1) hsm1 hb1.size ?_; intro v3 w3 hown3 hgrow3; have hb3 : Below wr.heap.size wr w3 := hb1.grown hgrow3 hb1.size (fun i hi => (ho.lt i hi).1)) | fail)
        have hbn : Below w5.heap.size w5 (w3.drewN q3) := hb.trans ((below_drewN hb3 q3).mono hzr)
        clear hown3 hgrow3 ho t1 t2 t3 t4 t5 hb1 hb3
        cases sm
        · go_wp2
          go_roundw
          case rel => exact ⟨j + 1, by omega, by go_num, by rw [HN.out]; rfl, hbn⟩
          case measure => simp [intOf]; omega
        · go_wp2
          go_roundw
          case rel => exact ⟨j + 1, by omega, by go_num, by rw [HN.out]; rfl, hbn⟩
          case measure => simp [intOf]; omega
      · have e : j = 8 := by omega
        subst e
        rw [HA.out]
        have hh := heads_any wr (hT5.below hb (by omega)) (by omega)
        go_wp2_with (go_at_call 18; refine hh.mono ?_; rintro e w9 ⟨rfl, hb9⟩)
        go_ret
        exact ⟨rfl, by rw [HH.out]; exact (hb0.trans (hb.mono hz0)).trans (hb9.mono (by omega))⟩
set_option maxRecDepth 100000 in
set_option maxHeartbeats 4000000 in
theorem short_lt (a : Option Addr) (cap n : Nat) (f : Nat → Int) (w : World) (hT : Tab w) (h0 : 0 < w.heap.size) (hR : Row w (.slice a n cap) n f) (lo : ∀ i, 0 ≤ f i) (up : ∀ i, f i < 256) (hn : n + 9 ≤ 140737488355328) (hgn : (good n f).1 < n) :
    Calls Tryd.prog 6 #[.slice a n cap] w fun e w' => e = .returned (.bool true) ∧ Below w.heap.size w w' := by
  have hg := good_any _ n f w hT hR
  obtain ⟨e, he, HS⟩ := shortest_some n f lo up
  have HX := shortest_none n f lo up hgn
  have hok : (good n f).2 = false := by
    cases z : (good n f).2
    · rfl
    · have := good_whole n f z; omega
  have HA : Hid (anyB (good n f).1 f 8 = true) := anyB_of (good n f).1 f 8 e he HS
  rw [hok] at hg
  clear HS hok
  generalize (good n f).1 = gd at *
  have k1 : decide ((n : Int) < (gd : Int)) = false := decide_eq_false (by omega)
  have k2 : decide ((gd : Int) < 0) = false := decide_eq_false (by omega)
  have k4 : decide (n < gd) = false := decide_eq_false (by omega)
  have k3 : (gd : Int) < (n : Int) := by omega
  have hwr : IntKind.i64.wrap ((gd : Int) + 1) = (gd : Int) + 1 := by rw [IntKind.wrap_i64]; omega
  go_enter Tryd.func6, Tryd.ntmps6
  go_wp2_with fail
  refine hg.mono ?_
  rintro e w' ⟨rfl, q, rfl⟩
  clear hg
  go_wp2_with fail
  obtain ⟨w5, hw5⟩ : ∃ w5, w5 = endsWorld (w.drewN q) := ⟨_, rfl⟩
  have hE0 := (ends_new (w.drewN q)).1
  have hb0 : Below w.heap.size w (endsWorld (w.drewN q)) := (below_drewN (Below.refl _ _) q).trans (ends_new (w.drewN q)).2
  rw [← hw5] at hE0 hb0
  unfold endsWorld at hw5
  simp only [World.heap_drewN] at hw5 hE0
  rw [← hw5]
  clear hw5
  have hz0 := hb0.size
  have hT5 := hT.below hb0 h0
  have hR5 := hR.below hb0
  generalize hH : w.heap.size = H at *
  have HH : Hid (w.heap.size = H) := hH
  clear hH
  go_loopw [6, 7] (fun t i wr => ShRel gd f w5 t i wr) (fun _ i _ => 8 - (intOf i).toNat)
  case atStart => exact ⟨0, by omega, rfl, rfl, Below.refl _ _⟩
  case round =>
    obtain ⟨j, hj, rfl, rfl, hb⟩ := hrel
    have hzr := hb.size
    by_cases hlt : j < 8
    · have hTr := tries a n cap gd j H f wr (hT5.below hb (by omega)) (by omega) (hR5.below hb) lo up (hE0.below hb) hlt (by omega) hn
      obtain ⟨t1, t2, t3, t4, t5⟩ := hTr
      have t1 := t1 n
      have HN : Hid (anyB gd f (j + 1) = (anyB gd f j || (good (gd + endM j) (catF gd f (endF j))).2)) := rfl
      have m3 := endM_le j
      have hsm1 : gd + endM j ≤ 140737488355328 := by omega
      have hsm2 : gd + 1 + endM j ≤ 140737488355328 := by omega
      have hjI : (j : Int) < 8 := by omega
      generalize (good (gd + endM j) (catF gd f (endF j))).1 = g0 at *
      generalize (good (gd + endM j) (catF gd f (endF j))).2 = gj at *
      generalize anyB gd f j = sm at *
      go_wp2_with fail
      go_region_held3 (fun w' => w'.cell? ⟨H + 1 + 1 + 1 + 1 + 1 + 1 + 1 + 1, j, none⟩ = some (.slice (some ⟨H + j, 0, none⟩) (endM j) (endM j))) (first | exact t3 _ (Below.refl _ _) | exact t3 _ (below_drewN (Below.refl _ _) 1) | exact t3 _ hb1 | exact t3 _ hb3 | exact t3 _ (below_drewN hb3 _)) (first | (go_at_call 26; refine t2.mono ?_; rintro e w1 ⟨r, rfl, ho, hb1⟩) | (go_at_call 9; refine (t5 _ _ hown3 hb3).mono ?_; rintro e w' ⟨rfl, q3, rfl⟩) | (refine step_append_row (by rfl) _ _ (by rfl) wr.heap.size _ _ _ (by rfl) ho ⟨H + j, 0, none⟩ (endM j) (endM j) (endF j) (by rfl) (t4 _ hb1) hsm1 hb1.size ?_; intro v3 w3 hown3 hgrow3; have hb3 : Below wr.heap.size wr w3 := hb1.grown hgrow3 hb1.size (fun i hi => (ho.lt i hi).1)) | fail)
      have hbn : Below w5.heap.size w5 (w3.drewN q3) := hb.trans ((below_drewN hb3 q3).mono hzr)
      clear hown3 hgrow3 ho t1 t2 t3 t4 t5 hb1 hb3
      obtain ⟨w6, hw6⟩ : ∃ w6, w6 = w3.drewN q3 := ⟨_, rfl⟩
      rw [← hw6] at hbn
      have HW : Hid (w6 = w3.drewN q3) := hw6
      clear hw6
      have hz6 := hbn.size
      have hTs := tries a n cap (gd + 1) j H f w6 (hT5.below hbn (by omega)) (by omega) (hR5.below hbn) lo up (hE0.below hbn) hlt (by omega) hn
      obtain ⟨t1, t2, t3, t4, t5⟩ := hTs
      have hxj := HX j
      rw [hxj] at t5
      have t1 := t1 n
      rw [show (((gd + 1 : Nat)) : Int) = (gd : Int) + 1 from by omega] at t1
      generalize (good (gd + 1 + endM j) (catF (gd + 1) f (endF j))).1 = g6 at *
      clear hxj
      cases sm
      · go_wp2_with fail
        rw [← HW.out]
        go_region_held3 (fun w' => w'.cell? ⟨H + 1 + 1 + 1 + 1 + 1 + 1 + 1 + 1, j, none⟩ = some (.slice (some ⟨H + j, 0, none⟩) (endM j) (endM j))) (first | exact t3 _ (Below.refl _ _) | exact t3 _ (below_drewN (Below.refl _ _) 1) | exact t3 _ hb1 | exact t3 _ hb3 | exact t3 _ (below_drewN hb3 _)) (first | (go_at_call 26; refine t2.mono ?_; rintro e w1 ⟨r, rfl, ho, hb1⟩) | (go_at_call 9; refine (t5 _ _ hown3 hb3).mono ?_; rintro e w' ⟨rfl, q3, rfl⟩) | (refine step_append_row (by rfl) _ _ (by rfl) w6.heap.size _ _ _ (by rfl) ho ⟨H + j, 0, none⟩ (endM j) (endM j) (endF j) (by rfl) (t4 _ hb1) hsm2 hb1.size ?_; intro v3 w7 hown3 hgrow3; have hb3 : Below w6.heap.size w6 w7 := hb1.grown hgrow3 hb1.size (fun i hi => (ho.lt i hi).1)) | fail)
        have hbm : Below w5.heap.size w5 (w7.drewN q3) := hbn.trans ((below_drewN hb3 q3).mono hz6)
        clear hown3 hgrow3 ho t1 t2 t3 t4 t5 hb1 hb3
        go_wp2
        go_roundw
        case rel => exact ⟨j + 1, by omega, by go_num, by rw [HN.out]; rfl, hbm⟩
        case measure => simp [intOf]; omega
      · go_wp2_with fail
        rw [← HW.out]
        go_region_held3 (fun w' => w'.cell? ⟨H + 1 + 1 + 1 + 1 + 1 + 1 + 1 + 1, j, none⟩ = some (.slice (some ⟨H + j, 0, none⟩) (endM j) (endM j))) (first | exact t3 _ (Below.refl _ _) | exact t3 _ (below_drewN (Below.refl _ _) 1) | exact t3 _ hb1 | exact t3 _ hb3 | exact t3 _ (below_drewN hb3 _)) (first | (go_at_call 26; refine t2.mono ?_; rintro e w1 ⟨r, rfl, ho, hb1⟩) | (go_at_call 9; refine (t5 _ _ hown3 hb3).mono ?_; rintro e w' ⟨rfl, q3, rfl⟩) | (refine step_append_row (by rfl) _ _ (by rfl) w6.heap.size _ _ _ (by rfl) ho ⟨H + j, 0, none⟩ (endM j) (endM j) (endF j) (by rfl) (t4 _ hb1) hsm2 hb1.size ?_; intro v3 w7 hown3 hgrow3; have hb3 : Below w6.heap.size w6 w7 := hb1.grown hgrow3 hb1.size (fun i hi => (ho.lt i hi).1)) | fail)
        have hbm : Below w5.heap.size w5 (w7.drewN q3) := hbn.trans ((below_drewN hb3 q3).mono hz6)
        clear hown3 hgrow3 ho t1 t2 t3 t4 t5 hb1 hb3
        go_wp2
        go_roundw
        case rel => exact ⟨j + 1, by omega, by go_num, by rw [HN.out]; rfl, hbm⟩
        case measure => simp [intOf]; omega
    · have e : j = 8 := by omega
      subst e
      rw [HA.out]
      have hh := heads_any wr (hT5.below hb (by omega)) (by omega)
      go_wp2_with (go_at_call 18; refine hh.mono ?_; rintro e w9 ⟨rfl, hb9⟩)
      go_ret
      exact ⟨rfl, by rw [HH.out]; exact (hb0.trans (hb.mono hz0)).trans (hb9.mono (by omega))⟩

theorem short_walk (v : Value) (n : Nat) (f : Nat → Int) (w : World) (hT : Tab w) (h0 : 0 < w.heap.size) (hR : Row w v n f) (lo : ∀ i, 0 ≤ f i) (up : ∀ i, f i < 256) (hn : n + 9 ≤ 140737488355328) :
    Calls Tryd.prog 6 #[v] w fun e w' => e = .returned (.bool true) ∧ Below w.heap.size w w' := by
  obtain ⟨a, cap, e0, _⟩ := hR.shape
  subst e0
  have hle := good_le n f
  by_cases h : (good n f).1 = n
  · exact short_eq a cap n f w hT h0 hR lo up hn h
  · exact short_lt a cap n f w hT h0 hR lo up hn (by omega)

theorem short_contract (H : Type) (enc : TypeId × Value → H) (W : World) (base : Nat) (args : Array Value) (ds gs : List (DataW H)) (before : List MemPlace)
    (hval : ∀ (j : Nat) t v, Tryd.f6.params[j]? = some t → args[j]? = some v → Value.okWide Tryd.prog W .any base t v)
    (hW : DataW.Whole enc Tryd.prog Tryd.f6.params.toList Rows.utfShortestSpec.vars false W args.toList ds gs before)
    (hsz : (DataW.weightsEach Tryd.prog (Tryd.f6.params.toList ++ (OpenSpec.ofChange Rows.utfShortestSpec).bare.plain.varTypes Tryd.prog) (ds ++ gs)).all (· ≤ reachBytes) = true) (hL : laidMetH Tryd.prog Rows.utfPairsRow.laid W) :
    Calls Tryd.prog 6 args W fun e W' => ∃ v, e = .returned v ∧ Rows.utfShortestSpec.post enc Tryd.prog Tryd.f6 false true false false W args v W' := by
  have hW' := hW
  obtain ⟨p, q, hA0, hV, rfl, hfz, hnd⟩ := hW
  have hA : DataW.TrodAll enc Tryd.prog W 0 (fun _ => true) true Tryd.f6.params.toList args.toList ds p := hA0
  rw [Tryd.params6] at hA hval hsz
  obtain ⟨v0, vs0, d0, ds0, p0, q0, hargs, rfl, rfl, h0, r0⟩ := trodAll_cons hA
  obtain ⟨rfl, rfl, rfl⟩ := trodAll_nil r0
  obtain rfl : args = #[v0] := by cases args; simp_all
  obtain ⟨rfl, rfl⟩ := trodVars_none hV
  obtain ⟨n0, f0, hR0, lo0, up0, hd0⟩ := open_bytes (hval 0 22 v0 rfl rfl) h0
  have hn0 := reach_bytes hsz (j := 0) rfl rfl hd0
  have lt0 : ∀ x ∈ p0, x.block < W.heap.size := by obtain ⟨m, hm⟩ := h0; exact DataW.trod_lt m _ _ _ hm
  clear hA0
  have hT := table hL
  refine (short_walk v0 n0 f0 W hT hT.pos hR0 lo0 up0 (by omega)).mono fun e W' ⟨he, bel⟩ => ?_
  subst he
  exact ⟨_, rfl, _, _, _, [], _, [], hW', trodAll_mk1 (shut_bool Tryd.underlying4 _), (trodAll_cons_mk (Below.trod laidOut (by kernel_rfl) (of_decide_eq_true (by kernel_rfl)) h0 bel lt0) trodAll_mk0), rfl, bel.frame _, fun h => by cases h⟩

theorem short_laid_met (os : Os) : laidMet Tryd.prog Rows.utfShortestRow.laid (({ World.holding Tryd.prog os ⟨#[], #[], []⟩ with heap := (World.holding Tryd.prog os ⟨#[], #[], []⟩).heap.modify 0 fun
      | .cells _ t frozen => .cells #[.int .i64 127, .int .i64 2047, .int .i64 65535, .int .i64 1114111] t frozen
      | o => o } : World).forCall (fun _ _ => 0) ⟨#[], #[.slice none 0 0], []⟩).memory :=
  laidMet_of_run' 8 (by kernel_rfl) (by kernel_rfl)
theorem short_reads (os : Os) {H : Type} (enc : TypeId × Value → H) : ∃ places, DataW.whole enc Tryd.prog (({ World.holding Tryd.prog os ⟨#[], #[], []⟩ with heap := (World.holding Tryd.prog os ⟨#[], #[], []⟩).heap.modify 0 fun
      | .cells _ t frozen => .cells #[.int .i64 127, .int .i64 2047, .int .i64 65535, .int .i64 1114111] t frozen
      | o => o } : World).forCall (fun _ _ => 0) ⟨#[], #[.slice none 0 0], []⟩).memory Tryd.f6.params.toList Rows.utfShortestSpec.vars false #[Value.slice none 0 0].toList 8 = some ([.nil], [], places) :=
  ⟨[], by kernel_rfl⟩

set_option maxRecDepth 100000 in
theorem short_lifted (os : Os) (started : os.Started) (H : Type) (enc : TypeId × Value → H) (F : Stop.Interp) :
    ReturnsInHanded {} Tryd.checked os 6 .any ((OpenSpec.ofChange Rows.utfShortestSpec).preRow enc Tryd.prog Tryd.f6 Rows.utfShortestRow.domain false Rows.utfShortestRow.laid) (((OpenSpec.ofChange Rows.utfShortestSpec).at F).post enc Tryd.prog Tryd.f6 false true false false) := by
  obtain ⟨places, hx⟩ := short_reads os enc
  refine returnsInHanded_of_row (C := Tryd.checked) (s := (OpenSpec.ofChange Rows.utfShortestSpec)) own started (by kernel_rfl) Tryd.func6
    (witness_row_at (enc := enc) (C := Tryd.checked) false _ #[.slice none 0 0] rfl (by kernel_rfl) (by kernel_rfl) (by kernel_rfl)
      (OpenSpec.preRow_of_cond 8 hx (by kernel_rfl) (fun k hk => by cases hk) (by kernel_rfl) (short_laid_met os))) ?_
  intro W base args ds gs before hval hW _ _ hsz hL _ _
  exact short_contract H enc W base args ds gs before hval hW hsz hL

theorem short_said : Rows.UtfShortestSaid :=
  OpenClaim.holds_of_cond 6 Tryd.f6 rfl rfl rfl rfl rfl rfl rfl ⟨rfl, rfl, rfl, rfl, rfl⟩ rfl rfl rfl rfl rfl (by kernel_rfl) Tryd.func6 (by kernel_rfl)
    (of_decide_eq_true (by kernel_rfl)) (by unfold Func.isWrapper; first | (rw [if_pos (by decide +kernel)]; kernel_rfl) | (rw [if_neg (by decide +kernel)]; exact ⟨rfl, rfl⟩))
    (fun os started H enc _ F => by rw [OpenClaim.pre_eq_preRow]; exact short_lifted os started H enc F)

theorem short_plain (f : FuncId) (fn : Func) (hf : Tryd.pinned.checked.prog.funcNamed "caliper/caliperlaw01.UtfShortest" = some f) (hfn : Tryd.pinned.checked.prog.funcs[f]? = some fn) :
    false = Tryd.pinned.checked.prog.looks [] ∧ ∀ (j : Nat) t, fn.params[j]? = some t → Tryd.pinned.checked.prog.wantsStandIn t = false := by
  obtain rfl : f = 6 := Option.some.inj ((show Tryd.prog.funcNamed "caliper/caliperlaw01.UtfShortest" = some 6 by kernel_rfl).symm.trans hf) |>.symm
  obtain rfl : fn = Tryd.f6 := (Option.some.inj (Tryd.func6.symm.trans hfn)).symm
  refine ⟨by kernel_rfl, fun j t ht => ?_⟩
  rw [Tryd.params6] at ht
  have hm := Array.mem_of_getElem? ht
  simp at hm
  subst hm
  exact (show Tryd.prog.wantsStandIn 22 = false by kernel_rfl)

theorem short_card : Rows.UtfShortestCardSaid :=
  Claim7.holds_tied_plain_at .later [] _ _ _ _ short_said (fun _ h => by cases h) (by kernel_rfl) (fun _ h => by cases h) utfShortest_row_tie rfl ⟨rfl, rfl⟩ (by kernel_rfl) rfl short_plain (by kernel_rfl)
#print axioms short_card
end Go.Proofs.YtibkhbmglnlgkaaDoor
