/-
  LexBad answers true for every bytes. Conditions: at most 2^20 of them; the table of greatest code points and errors.errorType as they are laid.
-/
import Derived.Test.YtngpkgmgjbahgaaDoorB6
namespace Go.Proofs.YtngpkgmgjbahgaaDoor
open Go.RowKit
attribute [local go_sem] setCell_drewN alloc_drewN

set_option maxRecDepth 100000 in
set_option maxHeartbeats 12800000 in
theorem bad_err (l : List UInt8) (N : Nat) (v : Value) (w : World) (hE : Env w) (hB : Byt w v l) (hl : l.length ≤ 1048576) (hr : nextL l 0 = .error (N + 1)) :
    Calls Tryd.prog 3 #[v] w fun r w' => r = .returned (.bool true) ∧ Below w.heap.size w w' := by
  have hNl : N ≤ l.length := by have := (some_end hr).2.1; omega
  have h0 : 0 < l.length := by
    have := (readL_bad (pass_le (Nat.zero_le _)) hr).1
    omega
  obtain ⟨b, off, cap, ev, hc, hm'⟩ : ∃ b off cap, v = .slice (some ⟨b, off, none⟩) l.length cap ∧ l.length ≤ cap ∧ cap ≤ maxLen := by
    rcases hB with ⟨h, _⟩ | ⟨b, off, cap, e, hc, hm', _⟩
    · omega
    · exact ⟨b, off, cap, e, hc, hm'⟩
  subst ev
  have hcI : (cap : Int) ≤ 9223372036854775807 := by unfold maxLen at hm'; omega
  have hlI : (l.length : Int) ≤ 1048576 := by omega
  have hNI : (N : Int) ≤ (l.length : Int) := by omega
  have hNc : (N : Int) ≤ (cap : Int) := by omega
  have hN1 : (N : Int) + 1 ≤ (l.length : Int) + 1 := by omega
  have hmn : min (N : Int) (l.length : Int) = (N : Int) := by omega
  have hd1 : decide ((N : Int) + 1 < 1) = false := decide_eq_false (by omega)
  have hd2 : decide ((l.length : Int) + 1 < (N : Int) + 1) = false := decide_eq_false (by omega)
  have hd3 : decide (l.length < N) = false := decide_eq_false (by omega)
  have hd4 : decide (l.length + 1 < N + 1) = false := decide_eq_false (by omega)
  have hnat : ((N : Int) + 1).toNat = N + 1 := by omega
  have g1 := next_any l 0 _ w hE hB (Nat.zero_le _) (by omega)
  have g9 := fun w' (hb : Below w.heap.size w w') => heads4_any w' (hE.below hb)
  rw [hr] at g1
  simp only [nxV, tokV] at g1
  rw [show ((N + 1 : Nat) : Int) = (N : Int) + 1 by omega] at g1
  have HA : Hid (helped l N 30 = true) := helped_all hr
  have HE := (show Hid (nextL l 0 = .error (N + 1)) from hr)
  have gX := fun (e : List UInt8) (he : e.length ≤ 9) (v' : Value) (w' : World) (hb : Below w.heap.size w w') (hB' : Byt w' v' (l.take N ++ e)) => (show Calls Tryd.prog 4 #[v', .int .i64 0] w' fun r w'' => r = .returned (nxV (nextL (l.take N ++ e) 0)) ∧ Below w'.heap.size w' w'' from next_any (l.take N ++ e) 0 v' w' (hE.below hb) hB' (Nat.zero_le _) (by rw [end_len hNl]; omega))
  have gY := fun (hle : N + 1 ≤ l.length) (e : List UInt8) (he : e.length ≤ 9) (v' : Value) (w' : World) (hb : Below w.heap.size w w') (hB' : Byt w' v' (l.take (N + 1) ++ e)) => (show Calls Tryd.prog 4 #[v', .int .i64 0] w' fun r w'' => r = .returned (nxV (nextL (l.take (N + 1) ++ e) 0)) ∧ Below w'.heap.size w' w'' from next_any (l.take (N + 1) ++ e) 0 v' w' (hE.below hb) hB' (Nat.zero_le _) (by rw [end_len hle]; omega))
  clear hr
  go_enter Tryd.func3, Tryd.ntmps3
  go_wp2_with (go_at_call 4; refine g1.mono ?_; rintro r w1 ⟨rfl, hb1⟩)
  obtain ⟨W0, hW0⟩ : ∃ W0, W0 = endsWorld w1 := ⟨_, rfl⟩
  have hC0 := ends_at w1
  have hb0 : Below w.heap.size w (endsWorld w1) := bl_a (bl_a hb1 _) _
  have hz0 : (endsWorld w1).heap.size = w1.heap.size + 2 := by unfold endsWorld; simp
  rw [← hW0] at hC0 hb0 hz0
  unfold endsWorld at hW0
  rw [← hW0]
  clear hW0 g1
  generalize w1.heap.size = H at *
  clear hb1
  go_loopg [8, 9] 30 (fun g s8 s9 wr => ∃ k : Nat, k ≤ 30 ∧ g = 30 - k ∧ s9 = .int .i64 (k : Int) ∧ s8 = .bool (helped l N k) ∧ Below W0.heap.size W0 wr)
  case atStart => exact ⟨0, by omega, rfl, rfl, rfl, Below.refl _ _⟩
  case round =>
    obtain ⟨k, hk, rfl, rfl, rfl, hbr⟩ := hrel
    have hbel : Below w.heap.size w wr := bl_t hb0 hbr
    have hzr := hbr.size
    by_cases hk30 : k < 30
    · have hk30I : (k : Int) < 30 := by omega
      have HN : Hid (helped l N (k + 1) = (helped l N k || okB (nextL (l.take N ++ (endsL[k]?).getD []) 0))) := helped_next (l := l) (N := N) hk30
      have hsz := endS_size k
      have hel : ((endsL[k]?).getD []).length ≤ 9 := by have := endS_size k; rw [show (endS k).size = ((endsL[k]?).getD []).toArray.size from rfl, List.size_toArray] at this; exact this
      have t3 : ∀ w', Below wr.heap.size wr w' → w'.cell? ⟨H + 1, k, none⟩ = some (.string (endS k)) := fun w' hb => by
        rw [hb.cell (p := ⟨H + 1, k, none⟩) (by simp; omega), hbr.cell (p := ⟨H + 1, k, none⟩) (by simp; omega)]
        exact hC0 k hk30
      have hBr := hB.below hbel
      have hLr := (byt_lies hBr h0).1
      have hR0 : Row wr (.slice (some ⟨b, off, none⟩) N cap) N (bx (l.take N)) := byt_take hLr hc hm' hNl
      have hX := fun v' w' (hb : Below wr.heap.size wr w') hB' => gX _ hel v' w' (bl_t hbel hb) hB'
      obtain ⟨tk, ts, tf, te, nn, hform⟩ := nxV_form (nextL (l.take N ++ (endsL[k]?).getD []) 0)
      rw [hform] at hX
      clear hform
      generalize okB (nextL (l.take N ++ (endsL[k]?).getD []) 0) = ok at *
      generalize helped l N k = sm at *
      obtain ⟨ee, Hee⟩ : ∃ ee : Int, Hid ((if ok = true then (0 : Int) else 50) = ee) := ⟨_, rfl⟩
      rw [Hee.out] at hX
      go_upto_region 12 with fail
      go_cut [12] from 46 to 95 (fun s12 wx => s12 = .int .i64 ee ∧ Below wr.heap.size wr wx)
      case first =>
        clear g9 gX gY HA HE HN hC0
        go_region_held3 (fun w' => w'.cell? ⟨H + 1, k, none⟩ = some (.string (endS k))) (first | (refine t3 _ ?_; exact (by with_reducible repeat (first | exact Below.refl _ _ | exact hb2 | exact hb3 | refine bl_t ?_ hb4 | refine bl_d ?_ | refine bl_a ?_ _ | refine bl_s ?_ (by first | exact Nat.le_refl _ | exact Nat.le_succ _ | exact hb2.size | exact hb3.size | exact (bl_t hb3 hb4).size) _))) | fail) (first | (go_at_call 4; refine (hX _ _ hb3 (own_join (take_len hNl) hown2)).mono ?_; rintro r w4 ⟨rfl, hb4⟩; have hF := (Tb.below hT2 hb4).facts; obtain ⟨kc, kf, kz⟩ := hF) | (go_at_call 4; refine (hX _ _ (bl_a hb3 _) (Byt.below (own_join (take_len hNl) hown2) (bl_a (Below.refl _ _) _))).mono ?_; rintro r w4 ⟨rfl, hb4⟩; obtain ⟨kc, kf, kz⟩ := keepT hb4) | (go_at_call 4; refine (hX _ _ hb3 (own_join (take_len hNl) hown2)).mono ?_; rintro r w4 ⟨rfl, hb4⟩) | (refine step_append_row (by rfl) _ _ (by rfl) wr.heap.size _ _ _ (by rfl) (own_below (own_empty wr wr.heap.size rfl) (by with_reducible repeat (first | exact Below.refl _ _ | exact hb2 | exact hb3 | refine bl_t ?_ hb4 | refine bl_d ?_ | refine bl_a ?_ _ | refine bl_s ?_ (by first | exact Nat.le_refl _ | exact Nat.le_succ _ | exact hb2.size | exact hb3.size | exact (bl_t hb3 hb4).size) _))) ⟨b, off, none⟩ N cap (bx (l.take N)) (by rfl) (Row.below hR0 (by with_reducible repeat (first | exact Below.refl _ _ | exact hb2 | exact hb3 | refine bl_t ?_ hb4 | refine bl_d ?_ | refine bl_a ?_ _ | refine bl_s ?_ (by first | exact Nat.le_refl _ | exact Nat.le_succ _ | exact hb2.size | exact hb3.size | exact (bl_t hb3 hb4).size) _))) (by omega) (by simp <;> omega) ?_; intro vw2 w2 hown1 hgrow1; have hb2 : Below wr.heap.size wr w2 := Below.grown (by with_reducible repeat (first | exact Below.refl _ _ | exact hb2 | exact hb3 | refine bl_t ?_ hb4 | refine bl_d ?_ | refine bl_a ?_ _ | refine bl_s ?_ (by first | exact Nat.le_refl _ | exact Nat.le_succ _ | exact hb2.size | exact hb3.size | exact (bl_t hb3 hb4).size) _)) hgrow1 (by simp <;> omega) (fun j hj => (World.ownsRow.lt (own_below (own_empty wr wr.heap.size rfl) (by with_reducible repeat (first | exact Below.refl _ _ | exact hb2 | exact hb3 | refine bl_t ?_ hb4 | refine bl_d ?_ | refine bl_a ?_ _ | refine bl_s ?_ (by first | exact Nat.le_refl _ | exact Nat.le_succ _ | exact hb2.size | exact hb3.size | exact (bl_t hb3 hb4).size) _))) j hj).1); have hT : Tb w2 (wr.heap.size + 1) := Tb.step (by first | exact Tb.new2 wr _ | exact Tb.drew (Tb.new2 wr _)) (own_below (own_empty wr wr.heap.size rfl) (by with_reducible repeat (first | exact Below.refl _ _ | exact hb2 | exact hb3 | refine bl_t ?_ hb4 | refine bl_d ?_ | refine bl_a ?_ _ | refine bl_s ?_ (by first | exact Nat.le_refl _ | exact Nat.le_succ _ | exact hb2.size | exact hb3.size | exact (bl_t hb3 hb4).size) _))) hgrow1) | (refine step_append_row (by rfl) _ _ (by rfl) wr.heap.size _ _ _ (by rfl) (own_mono (own_below (own_empty (wr.alloc (.cells #[.int .i64 0, .string ⟨#[]⟩, .int .i64 0, .int .i64 0] 25)) (wr.heap.size + 1) (by simp)) (by with_reducible repeat (first | exact Below.refl _ _ | exact hb2 | exact hb3 | refine bl_t ?_ hb4 | refine bl_d ?_ | refine bl_a ?_ _ | refine bl_s ?_ (by first | exact Nat.le_refl _ | exact Nat.le_succ _ | exact hb2.size | exact hb3.size | exact (bl_t hb3 hb4).size) _))) (Nat.le_succ _)) ⟨b, off, none⟩ N cap (bx (l.take N)) (by rfl) (Row.below hR0 (by with_reducible repeat (first | exact Below.refl _ _ | exact hb2 | exact hb3 | refine bl_t ?_ hb4 | refine bl_d ?_ | refine bl_a ?_ _ | refine bl_s ?_ (by first | exact Nat.le_refl _ | exact Nat.le_succ _ | exact hb2.size | exact hb3.size | exact (bl_t hb3 hb4).size) _))) (by omega) (by simp <;> omega) ?_; intro vw2 w2 hown1 hgrow1; have hb2 : Below wr.heap.size wr w2 := Below.grown (by with_reducible repeat (first | exact Below.refl _ _ | exact hb2 | exact hb3 | refine bl_t ?_ hb4 | refine bl_d ?_ | refine bl_a ?_ _ | refine bl_s ?_ (by first | exact Nat.le_refl _ | exact Nat.le_succ _ | exact hb2.size | exact hb3.size | exact (bl_t hb3 hb4).size) _)) hgrow1 (by simp <;> omega) (fun j hj => (World.ownsRow.lt (own_mono (own_below (own_empty (wr.alloc (.cells #[.int .i64 0, .string ⟨#[]⟩, .int .i64 0, .int .i64 0] 25)) (wr.heap.size + 1) (by simp)) (by with_reducible repeat (first | exact Below.refl _ _ | exact hb2 | exact hb3 | refine bl_t ?_ hb4 | refine bl_d ?_ | refine bl_a ?_ _ | refine bl_s ?_ (by first | exact Nat.le_refl _ | exact Nat.le_succ _ | exact hb2.size | exact hb3.size | exact (bl_t hb3 hb4).size) _))) (Nat.le_succ _)) j hj).1); have hT : Tb w2 wr.heap.size := Tb.step (by first | exact Tb.alloc (Tb.new wr) _ | exact Tb.drew (Tb.alloc (Tb.new wr) _)) (own_mono (own_below (own_empty (wr.alloc (.cells #[.int .i64 0, .string ⟨#[]⟩, .int .i64 0, .int .i64 0] 25)) (wr.heap.size + 1) (by simp)) (by with_reducible repeat (first | exact Below.refl _ _ | exact hb2 | exact hb3 | refine bl_t ?_ hb4 | refine bl_d ?_ | refine bl_a ?_ _ | refine bl_s ?_ (by first | exact Nat.le_refl _ | exact Nat.le_succ _ | exact hb2.size | exact hb3.size | exact (bl_t hb3 hb4).size) _))) (Nat.le_succ _)) hgrow1) | (refine step_append_row (by rfl) _ _ (by rfl) wr.heap.size _ _ _ (by rfl) (own_below (own_empty wr wr.heap.size rfl) (by with_reducible repeat (first | exact Below.refl _ _ | exact hb2 | exact hb3 | refine bl_t ?_ hb4 | refine bl_d ?_ | refine bl_a ?_ _ | refine bl_s ?_ (by first | exact Nat.le_refl _ | exact Nat.le_succ _ | exact hb2.size | exact hb3.size | exact (bl_t hb3 hb4).size) _))) ⟨b, off, none⟩ N cap (bx (l.take N)) (by rfl) (Row.below hR0 (by with_reducible repeat (first | exact Below.refl _ _ | exact hb2 | exact hb3 | refine bl_t ?_ hb4 | refine bl_d ?_ | refine bl_a ?_ _ | refine bl_s ?_ (by first | exact Nat.le_refl _ | exact Nat.le_succ _ | exact hb2.size | exact hb3.size | exact (bl_t hb3 hb4).size) _))) (by omega) (by simp <;> omega) ?_; intro vw2 w2 hown1 hgrow1; have hb2 : Below wr.heap.size wr w2 := Below.grown (by with_reducible repeat (first | exact Below.refl _ _ | exact hb2 | exact hb3 | refine bl_t ?_ hb4 | refine bl_d ?_ | refine bl_a ?_ _ | refine bl_s ?_ (by first | exact Nat.le_refl _ | exact Nat.le_succ _ | exact hb2.size | exact hb3.size | exact (bl_t hb3 hb4).size) _)) hgrow1 (by simp <;> omega) (fun j hj => (World.ownsRow.lt (own_below (own_empty wr wr.heap.size rfl) (by with_reducible repeat (first | exact Below.refl _ _ | exact hb2 | exact hb3 | refine bl_t ?_ hb4 | refine bl_d ?_ | refine bl_a ?_ _ | refine bl_s ?_ (by first | exact Nat.le_refl _ | exact Nat.le_succ _ | exact hb2.size | exact hb3.size | exact (bl_t hb3 hb4).size) _))) j hj).1)) | (refine step_append_string (by rfl) _ _ (by rfl) wr.heap.size _ _ _ (by rfl) hown1 (endS k) (by rfl) (by omega) hb2.size ?_; intro vw3 w3 hown2 hgrow2; have hb3 : Below wr.heap.size wr w3 := hb2.grown hgrow2 hb2.size (fun j hj => (hown1.lt j hj).1); have hT2 := Tb.step hT hown1 hgrow2) | (refine step_append_string (by rfl) _ _ (by rfl) wr.heap.size _ _ _ (by rfl) (hown1.alloc _) (endS k) (by rfl) (by omega) (bl_a hb2 _).size ?_; intro vw3 w3 hown2 hgrow2; have hb3 : Below wr.heap.size wr w3 := (bl_a hb2 _).grown hgrow2 (bl_a hb2 _).size (fun j hj => (hown1.lt j hj).1); have hT2 := Tb.step (Tb.new w2) (hown1.alloc _) hgrow2) | (refine step_append_string (by rfl) _ _ (by rfl) wr.heap.size _ _ _ (by rfl) hown1 (endS k) (by rfl) (by omega) hb2.size ?_; intro vw3 w3 hown2 hgrow2; have hb3 : Below wr.heap.size wr w3 := hb2.grown hgrow2 hb2.size (fun j hj => (hown1.lt j hj).1)) | fail)
        all_goals
          go_wp2
          go_meet
          case rel => exact ⟨rfl, (by with_reducible repeat (first | exact Below.refl _ _ | exact hb2 | exact hb3 | refine bl_t ?_ hb4 | refine bl_d ?_ | refine bl_a ?_ _ | refine bl_s ?_ (by first | exact Nat.le_refl _ | exact Nat.le_succ _ | exact hb2.size | exact hb3.size | exact (bl_t hb3 hb4).size) _))⟩
      case rest =>
        obtain ⟨rfl, hbc⟩ := hcut
        clear hX hR0
        have hok : ee = if ok = true then (0 : Int) else 50 := Hee.out.symm
        have HN1 : Hid (helped l N (k + 1) = (sm || ok)) := HN
        clear HN Hee
        go_upto_region 13 with fail
        go_cut [8] from 46 to 95 (fun s8 wx => s8 = .bool (helped l N (k + 1)) ∧ wc = wx)
        case first =>
          clear t3 gX gY g9 hBr hLr
          cases sm <;> cases ok
          all_goals
            simp only [Bool.false_eq_true, if_false, if_true] at hok
            subst hok
            have e8 := HN1.out
            simp only [Bool.or_true, Bool.or_false] at e8
            clear HN1
            have E8 : Hid (_ = _) := e8
            clear e8
            go_wp2
            go_meet
            case rel => exact ⟨by rw [E8.out], rfl⟩
        case rest =>
          obtain ⟨rfl, rfl⟩ := hcut
          clear hok HN1
          by_cases hle : N + 1 ≤ l.length
          · have hleI : (N : Int) + 1 ≤ (l.length : Int) := by omega
            have hleN : (N : Int) < (l.length : Int) := by omega
            have hNc1 : (N : Int) + 1 ≤ (cap : Int) := by omega
            have hN0 : (0 : Int) ≤ (N : Int) + 1 := by omega
            have hNn : N + 1 ≤ cap := by omega
            have hNd : decide (cap < N + 1) = false := decide_eq_false (by omega)
            have t4 : ∀ w', Below wc.heap.size wc w' → w'.cell? ⟨H + 1, k, none⟩ = some (.string (endS k)) := fun w' hb => t3 w' (bl_t hbc hb)
            have hR1 : Row wc (.slice (some ⟨b, off, none⟩) (N + 1) cap) (N + 1) (bx (l.take (N + 1))) := byt_take (byt_lies (hBr.below hbc) h0).1 hc hm' hle
            have hY := fun v' w' (hb : Below wc.heap.size wc w') hB' => gY hle _ hel v' w' (bl_t (bl_t hbel hbc) hb) hB'
            rw [next_err HE.out hle] at hY
            simp only [nxV, tokV] at hY
            rw [show ((N + 1 : Nat) : Int) = (N : Int) + 1 by omega] at hY
            clear t3 gX gY hBr hLr
            go_upto_region 15 with fail
            go_cut [14, 15] from 46 to 95 (fun s14 s15 wx => s14 = .int .i64 ((N : Int) + 1) ∧ s15 = .int .i64 50 ∧ Below wc.heap.size wc wx)
            case first =>
              clear g9 HA HE hC0
              go_region_held3 (fun w' => w'.cell? ⟨H + 1, k, none⟩ = some (.string (endS k))) (first | (refine t4 _ ?_; exact (by with_reducible repeat (first | exact Below.refl _ _ | exact hb2 | exact hb3 | refine bl_t ?_ hb4 | refine bl_d ?_ | refine bl_a ?_ _ | refine bl_s ?_ (by first | exact Nat.le_refl _ | exact Nat.le_succ _ | exact hb2.size | exact hb3.size | exact (bl_t hb3 hb4).size) _))) | fail) (first | (go_at_call 4; refine (hY _ _ hb3 (own_join (take_len hle) hown2)).mono ?_; rintro r w4 ⟨rfl, hb4⟩; have hF := (Tb.below hT2 hb4).facts; obtain ⟨kc, kf, kz⟩ := hF) | (go_at_call 4; refine (hY _ _ (bl_a hb3 _) (Byt.below (own_join (take_len hle) hown2) (bl_a (Below.refl _ _) _))).mono ?_; rintro r w4 ⟨rfl, hb4⟩; obtain ⟨kc, kf, kz⟩ := keepT hb4) | (go_at_call 4; refine (hY _ _ hb3 (own_join (take_len hle) hown2)).mono ?_; rintro r w4 ⟨rfl, hb4⟩) | (refine step_append_row (by rfl) _ _ (by rfl) wc.heap.size _ _ _ (by rfl) (own_below (own_empty wc wc.heap.size rfl) (by with_reducible repeat (first | exact Below.refl _ _ | exact hb2 | exact hb3 | refine bl_t ?_ hb4 | refine bl_d ?_ | refine bl_a ?_ _ | refine bl_s ?_ (by first | exact Nat.le_refl _ | exact Nat.le_succ _ | exact hb2.size | exact hb3.size | exact (bl_t hb3 hb4).size) _))) ⟨b, off, none⟩ (N + 1) cap (bx (l.take (N + 1))) (by rfl) (Row.below hR1 (by with_reducible repeat (first | exact Below.refl _ _ | exact hb2 | exact hb3 | refine bl_t ?_ hb4 | refine bl_d ?_ | refine bl_a ?_ _ | refine bl_s ?_ (by first | exact Nat.le_refl _ | exact Nat.le_succ _ | exact hb2.size | exact hb3.size | exact (bl_t hb3 hb4).size) _))) (by omega) (by simp <;> omega) ?_; intro vw2 w2 hown1 hgrow1; have hb2 : Below wc.heap.size wc w2 := Below.grown (by with_reducible repeat (first | exact Below.refl _ _ | exact hb2 | exact hb3 | refine bl_t ?_ hb4 | refine bl_d ?_ | refine bl_a ?_ _ | refine bl_s ?_ (by first | exact Nat.le_refl _ | exact Nat.le_succ _ | exact hb2.size | exact hb3.size | exact (bl_t hb3 hb4).size) _)) hgrow1 (by simp <;> omega) (fun j hj => (World.ownsRow.lt (own_below (own_empty wc wc.heap.size rfl) (by with_reducible repeat (first | exact Below.refl _ _ | exact hb2 | exact hb3 | refine bl_t ?_ hb4 | refine bl_d ?_ | refine bl_a ?_ _ | refine bl_s ?_ (by first | exact Nat.le_refl _ | exact Nat.le_succ _ | exact hb2.size | exact hb3.size | exact (bl_t hb3 hb4).size) _))) j hj).1); have hT : Tb w2 (wc.heap.size + 1) := Tb.step (by first | exact Tb.new2 wc _ | exact Tb.drew (Tb.new2 wc _)) (own_below (own_empty wc wc.heap.size rfl) (by with_reducible repeat (first | exact Below.refl _ _ | exact hb2 | exact hb3 | refine bl_t ?_ hb4 | refine bl_d ?_ | refine bl_a ?_ _ | refine bl_s ?_ (by first | exact Nat.le_refl _ | exact Nat.le_succ _ | exact hb2.size | exact hb3.size | exact (bl_t hb3 hb4).size) _))) hgrow1) | (refine step_append_row (by rfl) _ _ (by rfl) wc.heap.size _ _ _ (by rfl) (own_mono (own_below (own_empty (wc.alloc (.cells #[.int .i64 0, .string ⟨#[]⟩, .int .i64 0, .int .i64 0] 25)) (wc.heap.size + 1) (by simp)) (by with_reducible repeat (first | exact Below.refl _ _ | exact hb2 | exact hb3 | refine bl_t ?_ hb4 | refine bl_d ?_ | refine bl_a ?_ _ | refine bl_s ?_ (by first | exact Nat.le_refl _ | exact Nat.le_succ _ | exact hb2.size | exact hb3.size | exact (bl_t hb3 hb4).size) _))) (Nat.le_succ _)) ⟨b, off, none⟩ (N + 1) cap (bx (l.take (N + 1))) (by rfl) (Row.below hR1 (by with_reducible repeat (first | exact Below.refl _ _ | exact hb2 | exact hb3 | refine bl_t ?_ hb4 | refine bl_d ?_ | refine bl_a ?_ _ | refine bl_s ?_ (by first | exact Nat.le_refl _ | exact Nat.le_succ _ | exact hb2.size | exact hb3.size | exact (bl_t hb3 hb4).size) _))) (by omega) (by simp <;> omega) ?_; intro vw2 w2 hown1 hgrow1; have hb2 : Below wc.heap.size wc w2 := Below.grown (by with_reducible repeat (first | exact Below.refl _ _ | exact hb2 | exact hb3 | refine bl_t ?_ hb4 | refine bl_d ?_ | refine bl_a ?_ _ | refine bl_s ?_ (by first | exact Nat.le_refl _ | exact Nat.le_succ _ | exact hb2.size | exact hb3.size | exact (bl_t hb3 hb4).size) _)) hgrow1 (by simp <;> omega) (fun j hj => (World.ownsRow.lt (own_mono (own_below (own_empty (wc.alloc (.cells #[.int .i64 0, .string ⟨#[]⟩, .int .i64 0, .int .i64 0] 25)) (wc.heap.size + 1) (by simp)) (by with_reducible repeat (first | exact Below.refl _ _ | exact hb2 | exact hb3 | refine bl_t ?_ hb4 | refine bl_d ?_ | refine bl_a ?_ _ | refine bl_s ?_ (by first | exact Nat.le_refl _ | exact Nat.le_succ _ | exact hb2.size | exact hb3.size | exact (bl_t hb3 hb4).size) _))) (Nat.le_succ _)) j hj).1); have hT : Tb w2 wc.heap.size := Tb.step (by first | exact Tb.alloc (Tb.new wc) _ | exact Tb.drew (Tb.alloc (Tb.new wc) _)) (own_mono (own_below (own_empty (wc.alloc (.cells #[.int .i64 0, .string ⟨#[]⟩, .int .i64 0, .int .i64 0] 25)) (wc.heap.size + 1) (by simp)) (by with_reducible repeat (first | exact Below.refl _ _ | exact hb2 | exact hb3 | refine bl_t ?_ hb4 | refine bl_d ?_ | refine bl_a ?_ _ | refine bl_s ?_ (by first | exact Nat.le_refl _ | exact Nat.le_succ _ | exact hb2.size | exact hb3.size | exact (bl_t hb3 hb4).size) _))) (Nat.le_succ _)) hgrow1) | (refine step_append_row (by rfl) _ _ (by rfl) wc.heap.size _ _ _ (by rfl) (own_below (own_empty wc wc.heap.size rfl) (by with_reducible repeat (first | exact Below.refl _ _ | exact hb2 | exact hb3 | refine bl_t ?_ hb4 | refine bl_d ?_ | refine bl_a ?_ _ | refine bl_s ?_ (by first | exact Nat.le_refl _ | exact Nat.le_succ _ | exact hb2.size | exact hb3.size | exact (bl_t hb3 hb4).size) _))) ⟨b, off, none⟩ (N + 1) cap (bx (l.take (N + 1))) (by rfl) (Row.below hR1 (by with_reducible repeat (first | exact Below.refl _ _ | exact hb2 | exact hb3 | refine bl_t ?_ hb4 | refine bl_d ?_ | refine bl_a ?_ _ | refine bl_s ?_ (by first | exact Nat.le_refl _ | exact Nat.le_succ _ | exact hb2.size | exact hb3.size | exact (bl_t hb3 hb4).size) _))) (by omega) (by simp <;> omega) ?_; intro vw2 w2 hown1 hgrow1; have hb2 : Below wc.heap.size wc w2 := Below.grown (by with_reducible repeat (first | exact Below.refl _ _ | exact hb2 | exact hb3 | refine bl_t ?_ hb4 | refine bl_d ?_ | refine bl_a ?_ _ | refine bl_s ?_ (by first | exact Nat.le_refl _ | exact Nat.le_succ _ | exact hb2.size | exact hb3.size | exact (bl_t hb3 hb4).size) _)) hgrow1 (by simp <;> omega) (fun j hj => (World.ownsRow.lt (own_below (own_empty wc wc.heap.size rfl) (by with_reducible repeat (first | exact Below.refl _ _ | exact hb2 | exact hb3 | refine bl_t ?_ hb4 | refine bl_d ?_ | refine bl_a ?_ _ | refine bl_s ?_ (by first | exact Nat.le_refl _ | exact Nat.le_succ _ | exact hb2.size | exact hb3.size | exact (bl_t hb3 hb4).size) _))) j hj).1)) | (refine step_append_string (by rfl) _ _ (by rfl) wc.heap.size _ _ _ (by rfl) hown1 (endS k) (by rfl) (by omega) hb2.size ?_; intro vw3 w3 hown2 hgrow2; have hb3 : Below wc.heap.size wc w3 := hb2.grown hgrow2 hb2.size (fun j hj => (hown1.lt j hj).1); have hT2 := Tb.step hT hown1 hgrow2) | (refine step_append_string (by rfl) _ _ (by rfl) wc.heap.size _ _ _ (by rfl) (hown1.alloc _) (endS k) (by rfl) (by omega) (bl_a hb2 _).size ?_; intro vw3 w3 hown2 hgrow2; have hb3 : Below wc.heap.size wc w3 := (bl_a hb2 _).grown hgrow2 (bl_a hb2 _).size (fun j hj => (hown1.lt j hj).1); have hT2 := Tb.step (Tb.new w2) (hown1.alloc _) hgrow2) | (refine step_append_string (by rfl) _ _ (by rfl) wc.heap.size _ _ _ (by rfl) hown1 (endS k) (by rfl) (by omega) hb2.size ?_; intro vw3 w3 hown2 hgrow2; have hb3 : Below wc.heap.size wc w3 := hb2.grown hgrow2 hb2.size (fun j hj => (hown1.lt j hj).1)) | fail)
              all_goals
                go_wp2
                go_meet
                case rel => exact ⟨rfl, rfl, (by with_reducible repeat (first | exact Below.refl _ _ | exact hb2 | exact hb3 | refine bl_t ?_ hb4 | refine bl_d ?_ | refine bl_a ?_ _ | refine bl_s ?_ (by first | exact Nat.le_refl _ | exact Nat.le_succ _ | exact hb2.size | exact hb3.size | exact (bl_t hb3 hb4).size) _))⟩
            case rest =>
              rename_i wd
              obtain ⟨rfl, rfl, hbd⟩ := hcut
              go_wp2
              go_roundg (30 - (k + 1))
              case measure => omega
              case rel => exact ⟨k + 1, by omega, rfl, by go_num, rfl, bl_t (bl_t hbr hbc) hbd⟩
          · have hleI : decide ((N : Int) + 1 ≤ (l.length : Int)) = false := decide_eq_false (by omega)
            have hleN : decide (N + 1 ≤ l.length) = false := decide_eq_false hle
            have hleM : decide (N < l.length) = false := decide_eq_false (by omega)
            clear hle t3 gX gY g9 hBr hLr
            go_wp2
            go_roundg (30 - (k + 1))
            case measure => omega
            case rel => exact ⟨k + 1, by omega, rfl, by go_num, rfl, bl_t hbr hbc⟩
    · obtain rfl : k = 30 := by omega
      rw [HA.out]
      have hh := g9 wr hbel
      clear g9 gX gY
      go_wp2_with (go_at_call 5; refine hh.mono ?_; rintro r w9 ⟨rfl, hb9⟩)
      go_ret
      exact ⟨rfl, bl_t hbel hb9⟩

theorem bad_walk (l : List UInt8) (v : Value) (w : World) (hE : Env w) (hB : Byt w v l) (hl : l.length ≤ 1048576) :
    Calls Tryd.prog 3 #[v] w fun r w' => r = .returned (.bool true) ∧ Below w.heap.size w w' := by
  cases hr : nextL l 0 with
  | ok t => exact bad_none l v w hE hB hl t hr
  | error n =>
    have h1 := (some_end hr).1
    obtain ⟨N, rfl⟩ : ∃ N, n = N + 1 := ⟨n - 1, by omega⟩
    exact bad_err l N v w hE hB hl hr
end Go.Proofs.YtngpkgmgjbahgaaDoor
