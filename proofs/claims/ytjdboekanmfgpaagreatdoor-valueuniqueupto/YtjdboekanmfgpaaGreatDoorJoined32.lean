/-
  What value.keysFit and value.fits answer. Conditions: lists and texts of at most 2^30, the table of code points as it is laid.
  What value.fits, value.mayBe and value.Check answer. Conditions: lists and texts of at most 2^30, the table of code points as it is laid.
-/
import Derived.Test.YtjdboekanmfgpaaGreatDoorJoined31
import Derived.Test.YtjdboekanmfgpaaGreatDoorJoined18
import Derived.Test.YtjdboekanmfgpaaGreatDoorJoined21
namespace Go.Proofs.YtjdboekanmfgpaaGreatDoor
open Go.RowKit Go.Lib Go.Sort
attribute [local go_sem] setCell_drewN alloc_drewN

theorem keys_anti (ks : List ByteArray) (n : Nat) : AntiAt n (byK ks) := fun i j _ _ => by unfold byK; exact kc_anti _ _
theorem alike_keys {ks : List ByteArray} : Alike ks.length (byK ks) ↔ ¬ ks.Nodup := by
 constructor
 ·rintro ⟨i, j, hi, hj, hne, h0⟩ hn
  unfold byK at h0
  have e := kc_zero h0
  simp only [List.getD_eq_getElem?_getD, List.getElem?_eq_getElem hi, List.getElem?_eq_getElem hj, Option.getD_some] at e
  exact hne ((List.getElem_inj hn).1 e)
 ·intro h
  refine Classical.byContradiction fun ha => h ?_
  refine List.pairwise_iff_getElem.2 fun i j hi hj hij e => ha ⟨i, j, hi, hj, by omega, ?_⟩
  unfold byK
  simp only [List.getD_eq_getElem?_getD, List.getElem?_eq_getElem hi, List.getElem?_eq_getElem hj, Option.getD_some, e]
  exact kc_refl _

set_option maxRecDepth 100000 in
set_option maxHeartbeats 3200000 in
theorem keysFit_any (k : Int) (n : Bool) (g : ByteArray) (e : Int) (t : ByteArray) (ao ko : Option Addr) (ll lc kc' : Nat) (ks : List ByteArray) (hks : ks.length ≤ 1073741824) (hsz : ∀ s ∈ ks, s.size ≤ 1073741824) (w : World) (hT : Lx.Tab w) (hS : SI w (fun _ => False) ks (.slice ko ks.length kc')) :
  Calls Tryz.prog 99 #[.agg #[.int .i64 k, .bool n, .string g, .int .i64 e, .string t, .slice ao ll lc, .slice ko ks.length kc']] w fun r w' => r = .returned (.bool (keyB k ll ks)) ∧ Below w.heap.size w w' := by
 have hb1 : Below w.heap.size w (vbox w k n g e t (.slice ao ll lc) (.slice ko ks.length kc')) := vb_a (Below.refl _ _) _
 by_cases h6 : k = 6
 ·subst h6
  by_cases hl : ks.length = ll
  ·subst hl
   obtain ⟨P, hP⟩ : ∃ P : Ending → World → Prop, P = fun r w' => r = .returned (.bool (keyB 6 ks.length ks)) ∧ Below w.heap.size w w' := ⟨_, rfl⟩
   rw [← hP]
   have HP := hid_intro hP
   obtain ⟨W, hW⟩ : ∃ W, vbox w 6 n g e t (.slice ao ks.length lc) (.slice ko ks.length kc') = W := ⟨_, rfl⟩
   rw [hW] at hb1
   have hb0 := hb1
   have hlt : w.heap.size < W.heap.size := by rw [← hW]; simp [vbox]
   have hcell : ∀ o, W.cell? ⟨w.heap.size, o, none⟩ = (#[.int .i64 6, .bool n, .string g, .int .i64 e, .string t, .slice ao ks.length lc, .slice ko ks.length kc'] : Array Value)[o]? := fun o => by rw [← hW]; simp [vbox]
   have HS : Hid (∀ w', Below W.heap.size W w' → ∀ o, w'.cell? ⟨w.heap.size, o, none⟩ = (#[.int .i64 6, .bool n, .string g, .int .i64 e, .string t, .slice ao ks.length lc, .slice ko ks.length kc'] : Array Value)[o]?) := hid_intro (fun w' hb o => (hb.cell (p := ⟨w.heap.size, o, none⟩) hlt).trans (hcell o))
   have HM : Hid (∀ w', Below W.heap.size W w' → Calls Tryz.prog 49 #[.agg #[.int .i64 6, .bool n, .string g, .int .i64 e, .string t, .slice ao ks.length lc, .slice ko ks.length kc']] w' fun r w'' => r = .returned (.int .i64 (ks.length : Int)) ∧ Below W.heap.size W w'') := hid_intro (fun w' hb => (members_any 6 n g e t ao ko ks.length lc ks.length kc' w').mono fun r w'' ⟨h1, h2⟩ => ⟨by rw [h1, Nat.min_self], vb_t hb h2⟩)
   have HK : Hid (∀ w', Below W.heap.size W w' → Calls Tryz.prog 82 #[.agg #[.int .i64 6, .bool n, .string g, .int .i64 e, .string t, .slice ao ks.length lc, .slice ko ks.length kc']] w' fun r w'' => ∃ B, r = .returned (.func (.func 108) #[] #[.pointer (some ⟨B, 0, none⟩)]) ∧ w''.cell? ⟨B, 6, none⟩ = some (.slice ko ks.length kc') ∧ Below W.heap.size W w'') := hid_intro (fun w' hb => (byKeys_any 6 n g e t _ _ w').mono fun r w'' ⟨h1, h2⟩ => ⟨_, h1, by rw [h2]; simp [vbox], by rw [h2]; exact vb_a hb _⟩)
   have HN : Hid (∀ w' B, Below W.heap.size W w' → w'.cell? ⟨B, 6, none⟩ = some (.slice ko ks.length kc') → Calls Tryz.prog 54 #[.int .i64 (ks.length : Int), .func (.func 108) #[] #[.pointer (some ⟨B, 0, none⟩)]] w' fun r w'' => ∃ b : Bool, r = .returned (.bool b) ∧ Hid (b = true ↔ ¬ ks.Nodup) ∧ Below W.heap.size W w'') := hid_intro (fun w' B hb hB => by
    have hbb : Below w.heap.size w w' := vb_t hb0 hb
    refine (alike_any ks.length (by omega) 108 #[.pointer (some ⟨B, 0, none⟩)] (byK ks) (keys_ord ks _) (keys_anti ks _) w' (keys_cmp w' B ks _ hB (hS.carry fun b _ hlt => ⟨hbb.block b hlt, fun h => h⟩) _ (Nat.le_refl _))).mono ?_
    rintro r w'' ⟨b, h1, h2, h3⟩
    exact ⟨b, h1, h2.trans alike_keys, vb_t hb h3⟩)
   have HI : Hid (∀ w' i (h : i < ks.length), Below W.heap.size W w' → Calls Tryz.prog 98 #[.string ks[i]] w' fun r w'' => r = .returned (.bool (utB ks[i])) ∧ Below W.heap.size W w'') := hid_intro (fun w' i h hb => (isText_any ks[i] w' (hT.below (vb_t hb0 hb)) (by have := hsz _ (List.getElem_mem h); unfold maxLen; omega)).mono fun r w'' ⟨h1, h2⟩ => ⟨h1, vb_t hb h2⟩)
   have HC : Hid (∀ w' i (h : i < ks.length), Below W.heap.size W w' → ∃ b off, ko = some ⟨b, off, none⟩ ∧ w'.cell? ⟨b, off + i, none⟩ = some (.string ks[i])) := hid_intro (fun w' i h hb => by
    obtain ⟨ao', cap', e1, _, _, _, h4⟩ := hS
    injection e1 with e1 _ _
    subst e1
    obtain ⟨b, off, h5, _, h7⟩ := h4.resolve_left (fun e => by rw [e] at h; exact absurd h (by simp))
    have hbb : Below w.heap.size w w' := vb_t hb0 hb
    exact ⟨b, off, h5, (hbb.cell (p := ⟨b, off + i, none⟩) (World.block_lt_of_cell? w _ (h7 i h))).trans (h7 i h)⟩)
   have HBW := hid_intro hb0
   have hm : (ks.length : Int) ≤ 1073741824 := by omega
   unfold vbox at hW
   clear hS hb0 hb1 hcell hT hsz hks hP hlt
   go_enter Tryz.func99, Tryz.ntmps99
   have q0 := HS.out W (Below.refl _ _) 0
   have q1 := HS.out W (Below.refl _ _) 1
   have q2 := HS.out W (Below.refl _ _) 2
   have q3 := HS.out W (Below.refl _ _) 3
   have q4 := HS.out W (Below.refl _ _) 4
   have q5 := HS.out W (Below.refl _ _) 5
   have q6 := HS.out W (Below.refl _ _) 6
   go_wp2_with (first | (go_at_call 49; refine (HM.out _ (Below.refl _ _)).mono ?_; rintro r w1 ⟨rfl, hb1⟩))
   clear q0 q1 q2 q3 q4 q5 q6
   go_loopg [16] ks.length (fun gg s16 wr => ∃ i : Nat, i ≤ ks.length ∧ gg = ks.length - i ∧ s16 = .int .i64 (i : Int) ∧ Hid (∀ j (h : j < ks.length), j < i → utB ks[j] = true) ∧ Hid (Below W.heap.size W wr))
   case atStart => exact ⟨0, Nat.zero_le _, rfl, rfl, hid_intro (fun j _ h => absurd h (Nat.not_lt_zero _)), hid_intro hb1⟩
   case round =>
    obtain ⟨i, hi, rfl, rfl, HU, HB⟩ := hrel
    clear hb1
    by_cases h : i < ks.length
    ·have hI : (i : Int) < (ks.length : Int) := by omega
     obtain ⟨b, off, rfl, hc⟩ := HC.out wr i h HB.out
     have q6 := HS.out wr HB.out 6
     have cal := HI.out wr i h HB.out
     have HX := hid_intro (fun (hu : utB ks[i] = false) => (show keyB 6 ks.length ks = false by
      unfold keyB
      have : ks.all utB = false := by
       rw [List.all_eq_false]
       exact ⟨ks[i], List.getElem_mem h, by rw [hu]; simp⟩
      simp [this]))
     have HY := hid_intro (fun (hu : utB ks[i] = true) => (show ∀ j (h : j < ks.length), j < i + 1 → utB ks[j] = true from fun j hj hji => by
      rcases (by omega : j < i ∨ j = i) with h2 | rfl
      ·exact HU.out j hj h2
      ·exact hu))
     generalize utB ks[i] = u at *
     cases u with
     | true =>
      go_wp2_with (first | (go_at_call 98; refine cal.mono ?_; rintro r w2 ⟨rfl, hb2⟩))
      go_roundg (ks.length - (i + 1))
      case measure => omega
      case rel => exact ⟨i + 1, by omega, rfl, by go_num, hid_intro (HY.out (by trivial)), hid_intro hb2⟩
     | false =>
      go_wp2_with (first | (go_at_call 98; refine cal.mono ?_; rintro r w2 ⟨rfl, hb2⟩))
      rw [HP.out]
      exact ⟨by rw [HX.out (by trivial)]; rfl, vb_t HBW.out hb2⟩
    ·have hI : ¬ ((i : Int) < (ks.length : Int)) := by omega
     have HE : Hid (ks.all utB = true) := hid_intro (by
      rw [List.all_eq_true]
      intro s hs
      obtain ⟨j, hj, rfl⟩ := List.getElem_of_mem hs
      exact HU.out j hj (by omega))
     have hbel := HB.out
     clear HU HB
     go_wp2_with fail
     go_region_held3 (fun w' => ∀ o, w'.cell? ⟨w.heap.size, o, none⟩ = (#[.int .i64 6, .bool n, .string g, .int .i64 e, .string t, .slice ao ks.length lc, .slice ko ks.length kc'] : Array Value)[o]?) (first | (refine HS.out _ ?_; with_reducible repeat (first | exact hbel | exact hc | refine vb_d ?_)) | fail) (first | (go_at_call 49; refine (HM.out _ ?_).mono ?_; (with_reducible repeat (first | exact hbel | exact hc | refine vb_d ?_)); rintro r w3 ⟨rfl, hc⟩) | (go_at_call 82; refine (HK.out _ ?_).mono ?_; (with_reducible repeat (first | exact hbel | exact hc | refine vb_d ?_)); rintro r w4 ⟨B, rfl, hB6, hc⟩) | (go_at_call 54; refine (HN.out _ B ?_ ?_).mono ?_; (with_reducible repeat (first | exact hc | refine vb_d ?_)); (first | exact hB6 | skip); rintro r w5 ⟨b2, rfl, h2, hc⟩) | fail)
     all_goals
      go_wp2_with fail
      rw [HP.out]
      refine ⟨?_, vb_t HBW.out hc⟩
      have hk : keyB 6 ks.length ks = !b2 := by
       unfold keyB
       have h2 := h2.out
       rw [HE.out]
       cases b2 with
       | true => simp [h2.1 rfl]
       | false =>
        have : ks.Nodup := Classical.byContradiction fun hn => Bool.noConfusion (h2.2 hn)
        simp [this]
      rw [hk]
      rfl
  ·have hk : keyB 6 ll ks = false := by unfold keyB; simp [hl]
   rw [hk]
   unfold vbox at hb1
   clear hk hS hsz
   go_enter Tryz.func99, Tryz.ntmps99
   go_wp2_with fail
   go_ret
   exact ⟨rfl, hb1⟩
 ·have b6 : (k == 6) = false := beq_eq_false_iff_ne.2 h6
  have b6' : (k != 6) = true := by simp [h6]
  have hk : keyB k ll ks = true := by unfold keyB; simp [b6]
  rw [hk]
  unfold vbox at hb1
  clear hk hS hsz h6
  go_enter Tryz.func99, Tryz.ntmps99
  go_wp2_with fail
  go_ret
  exact ⟨rfl, hb1⟩
end Go.Proofs.YtjdboekanmfgpaaGreatDoor

namespace Go.Proofs.YtjdboekanmfgpaaGreatDoor
open Go.RowKit Go.Lib Go.Sort
attribute [local go_sem] setCell_drewN alloc_drewN

set_option maxRecDepth 100000 in
set_option maxHeartbeats 3200000 in
theorem fits_any (k : Int) (n : Bool) (g : ByteArray) (e : Int) (t : ByteArray) (ao ko : Option Addr) (ll lc kc' : Nat) (ks : List ByteArray) (hks : ks.length ≤ 1073741824) (hsz : ∀ s ∈ ks, s.size ≤ 1073741824) (hg : g.size ≤ 1073741824) (ht : t.size ≤ 1073741824) (w : World) (hT : Lx.Tab w) (hS : SI w (fun _ => False) ks (.slice ko ks.length kc')) :
  Calls Tryz.prog 66 #[.agg #[.int .i64 k, .bool n, .string g, .int .i64 e, .string t, .slice ao ll lc, .slice ko ks.length kc']] w fun r w' => r = .returned (.bool (fitB k n g e t ll ks)) ∧ Below w.heap.size w w' := by
 obtain ⟨W, hW⟩ : ∃ W, vbox w k n g e t (.slice ao ll lc) (.slice ko ks.length kc') = W := ⟨_, rfl⟩
 have hb0 : Below w.heap.size w W := hW ▸ vb_a (Below.refl _ _) _
 have hlt : w.heap.size < W.heap.size := by rw [← hW]; simp [vbox]
 have hcell : ∀ o, W.cell? ⟨w.heap.size, o, none⟩ = (#[.int .i64 k, .bool n, .string g, .int .i64 e, .string t, .slice ao ll lc, .slice ko ks.length kc'] : Array Value)[o]? := fun o => by rw [← hW]; simp [vbox]
 have HS : Hid (∀ w', Below W.heap.size W w' → ∀ o, w'.cell? ⟨w.heap.size, o, none⟩ = (#[.int .i64 k, .bool n, .string g, .int .i64 e, .string t, .slice ao ll lc, .slice ko ks.length kc'] : Array Value)[o]?) := hid_intro (fun w' hb o => (hb.cell (p := ⟨w.heap.size, o, none⟩) hlt).trans (hcell o))
 have HO : Hid (∀ w', Below W.heap.size W w' → Calls Tryz.prog 97 #[.agg #[.int .i64 k, .bool n, .string g, .int .i64 e, .string t, .slice ao ll lc, .slice ko ks.length kc']] w' fun r w'' => r = .returned (.bool (othB k n g e t ll ks.length)) ∧ Below W.heap.size W w'') := hid_intro (fun w' hb => (others_any k n g e t ao ko ll lc ks.length kc' w').mono fun r w'' ⟨h1, h2⟩ => ⟨h1, vb_t hb h2⟩)
 have HG : Hid (∀ w', Below W.heap.size W w' → Calls Tryz.prog 90 #[.agg #[.bool n, .string g, .int .i64 e]] w' fun r w'' => r = .returned (.int .i64 (errB (goodB n g e))) ∧ Below W.heap.size W w'') := hid_intro (fun w' hb => (check_any n g e w' (by unfold maxLen; omega)).mono fun r w'' ⟨h1, h2⟩ => ⟨h1, vb_t hb h2⟩)
 have HU : Hid (∀ w', Below W.heap.size W w' → Calls Tryz.prog 98 #[.string t] w' fun r w'' => r = .returned (.bool (utB t)) ∧ Below W.heap.size W w'') := hid_intro (fun w' hb => (isText_any t w' (hT.below (vb_t hb0 hb)) (by unfold maxLen; omega)).mono fun r w'' ⟨h1, h2⟩ => ⟨h1, vb_t hb h2⟩)
 have HK : Hid (∀ w', Below W.heap.size W w' → Calls Tryz.prog 99 #[.agg #[.int .i64 k, .bool n, .string g, .int .i64 e, .string t, .slice ao ll lc, .slice ko ks.length kc']] w' fun r w'' => r = .returned (.bool (keyB k ll ks)) ∧ Below W.heap.size W w'') := hid_intro (fun w' hb => (keysFit_any k n g e t ao ko ll lc kc' ks hks hsz w' (hT.below (vb_t hb0 hb)) (hS.carry fun b _ hlt => ⟨(vb_t hb0 hb).block b hlt, fun h => h⟩)).mono fun r w'' ⟨h1, h2⟩ => ⟨h1, vb_t hb h2⟩)
 have HBW := hid_intro hb0
 obtain ⟨P, hP⟩ : ∃ P : Ending → World → Prop, P = fun r w' => r = .returned (.bool (fitB k n g e t ll ks)) ∧ Below w.heap.size w w' := ⟨_, rfl⟩
 rw [← hP]
 have HP := hid_intro hP
 have HF : Hid (fitB k n g e t ll ks = (decide (0 ≤ k) && (decide (k ≤ 6) && (!othB k n g e t ll ks.length && (goodB n g e && (utB t && keyB k ll ks)))))) := hid_intro rfl
 generalize fitB k n g e t ll ks = F at *
 generalize othB k n g e t ll ks.length = bo at *
 generalize goodB n g e = bg at *
 generalize utB t = bu at *
 generalize keyB k ll ks = bk at *
 unfold vbox at hW
 clear hS hb0 hT hsz hks hP hg ht hlt
 have q0 := hcell 0
 have q1 := hcell 1
 have q2 := hcell 2
 have q3 := hcell 3
 have q4 := hcell 4
 have q5 := hcell 5
 have q6 := hcell 6
 clear hcell
 by_cases k0 : 0 ≤ k
 ·by_cases k6 : k ≤ 6
  ·cases bo with
   | true =>
    go_enter Tryz.func66, Tryz.ntmps66
    go_wp2_with (first | (go_at_call 97; refine (HO.out _ (Below.refl _ _)).mono ?_; rintro r w1 ⟨rfl, hb1⟩))
    rw [HP.out]
    have hF : F = false := by rw [HF.out]; simp [k0, k6]
    exact ⟨by rw [hF]; rfl, vb_t HBW.out hb1⟩
   | false =>
    cases bg with
    | false =>
     go_enter Tryz.func66, Tryz.ntmps66
     go_wp2_with (first | (go_at_call 97; refine (HO.out _ (Below.refl _ _)).mono ?_; rintro r w1 ⟨rfl, hb1⟩; have p1 := HS.out w1 hb1 1; have p2 := HS.out w1 hb1 2; have p3 := HS.out w1 hb1 3) | (go_at_call 90; refine (HG.out _ hb1).mono ?_; rintro r w2 ⟨rfl, hb2⟩))
     rw [HP.out]
     have hF : F = false := by rw [HF.out]; simp [k0, k6]
     exact ⟨by rw [hF]; rfl, vb_t HBW.out hb2⟩
    | true =>
     cases bu with
     | false =>
      go_enter Tryz.func66, Tryz.ntmps66
      go_wp2_with (first | (go_at_call 97; refine (HO.out _ (Below.refl _ _)).mono ?_; rintro r w1 ⟨rfl, hb1⟩; have p1 := HS.out w1 hb1 1; have p2 := HS.out w1 hb1 2; have p3 := HS.out w1 hb1 3) | (go_at_call 90; refine (HG.out _ hb1).mono ?_; rintro r w2 ⟨rfl, hb2⟩; have o4 := HS.out w2 hb2 4) | (go_at_call 98; refine (HU.out _ hb2).mono ?_; rintro r w3 ⟨rfl, hb3⟩))
      rw [HP.out]
      have hF : F = false := by rw [HF.out]; simp [k0, k6]
      exact ⟨by rw [hF]; rfl, vb_t HBW.out hb3⟩
     | true =>
      go_enter Tryz.func66, Tryz.ntmps66
      go_wp2_with (first | (go_at_call 97; refine (HO.out _ (Below.refl _ _)).mono ?_; rintro r w1 ⟨rfl, hb1⟩; have p1 := HS.out w1 hb1 1; have p2 := HS.out w1 hb1 2; have p3 := HS.out w1 hb1 3) | (go_at_call 90; refine (HG.out _ hb1).mono ?_; rintro r w2 ⟨rfl, hb2⟩; have o4 := HS.out w2 hb2 4) | (go_at_call 98; refine (HU.out _ hb2).mono ?_; rintro r w3 ⟨rfl, hb3⟩; have n0 := HS.out w3 hb3 0; have n1 := HS.out w3 hb3 1; have n2 := HS.out w3 hb3 2; have n3 := HS.out w3 hb3 3; have n4 := HS.out w3 hb3 4; have n5 := HS.out w3 hb3 5; have n6 := HS.out w3 hb3 6) | (go_at_call 99; refine (HK.out _ hb3).mono ?_; rintro r w4 ⟨rfl, hb4⟩))
      rw [HP.out]
      have hF : F = bk := by rw [HF.out]; simp [k0, k6]
      exact ⟨by rw [hF]; rfl, vb_t HBW.out hb4⟩
  ·go_enter Tryz.func66, Tryz.ntmps66
   go_wp2_with fail
   rw [HP.out]
   have hF : F = false := by rw [HF.out, decide_eq_false (by omega : ¬ k ≤ 6)]; simp
   exact ⟨by rw [hF], HBW.out⟩
 ·go_enter Tryz.func66, Tryz.ntmps66
  go_wp2_with fail
  rw [HP.out]
  have hF : F = false := by rw [HF.out, decide_eq_false (by omega : ¬ 0 ≤ k)]; rfl
  exact ⟨by rw [hF], HBW.out⟩

theorem mayBL_drop {d : Nat} {l : List JV} {i : Nat} (h : i < l.length) : mayBL d (l.drop i) = (mayB d l[i] && mayBL d (l.drop (i + 1))) := by
 rw [List.drop_eq_getElem_cons h, mayBL]

set_option maxRecDepth 100000 in
set_option maxHeartbeats 3200000 in
theorem mayBe_any (v : JV) : Sm v → ∀ (d : Nat) (f : Nat → Value) (w : World), d ≤ 10000 → Lx.Tab w → VI w (fun _ => False) v f →
  Calls Tryz.prog 35 #[va f, .int .i64 (d : Int)] w fun r w' => r = .returned (.bool (mayB d v)) ∧ Below w.heap.size w w' := by
 induction v using JV.ind with
 | h k n g e t l ks ih =>
 intro hsm d f w hd hT hv
 cases hsm with
 | mk s1 s2 s3 s4 s5 s6 =>
 obtain ⟨ao, ko, cap, kc, G, hf, hLI, hSI, _, _⟩ := hv.li
 rw [hf]
 obtain ⟨W, hW⟩ : ∃ W, vbox w k n g e t (.slice ao l.length cap) (.slice ko ks.length kc) = W := ⟨_, rfl⟩
 have hb0 : Below w.heap.size w W := hW ▸ vb_a (Below.refl _ _) _
 have hlt : w.heap.size < W.heap.size := by rw [← hW]; simp [vbox]
 have hcell : ∀ o, W.cell? ⟨w.heap.size, o, none⟩ = (#[.int .i64 k, .bool n, .string g, .int .i64 e, .string t, .slice ao l.length cap, .slice ko ks.length kc] : Array Value)[o]? := fun o => by rw [← hW]; simp [vbox]
 have HS : Hid (∀ w', Below W.heap.size W w' → ∀ o, w'.cell? ⟨w.heap.size, o, none⟩ = (#[.int .i64 k, .bool n, .string g, .int .i64 e, .string t, .slice ao l.length cap, .slice ko ks.length kc] : Array Value)[o]?) := hid_intro (fun w' hb o => (hb.cell (p := ⟨w.heap.size, o, none⟩) hlt).trans (hcell o))
 have HO : Hid (∀ w', Below W.heap.size W w' → Calls Tryz.prog 53 #[.agg #[.int .i64 k, .bool n, .string g, .int .i64 e, .string t, .slice ao l.length cap, .slice ko ks.length kc]] w' fun r w'' => r = .returned (.bool (vholds k)) ∧ Below W.heap.size W w'') := hid_intro (fun w' hb => (holds_any k n g e t _ _ w').mono fun r w'' ⟨h1, h2⟩ => ⟨h1, vb_t hb h2⟩)
 have HF : Hid (∀ w', Below W.heap.size W w' → Calls Tryz.prog 66 #[.agg #[.int .i64 k, .bool n, .string g, .int .i64 e, .string t, .slice ao l.length cap, .slice ko ks.length kc]] w' fun r w'' => r = .returned (.bool (fitB k n g e t l.length ks)) ∧ Below W.heap.size W w'') := hid_intro (fun w' hb => (fits_any k n g e t ao ko l.length cap kc ks s2 s6 s4 s5 w' (hT.below (vb_t hb0 hb)) (hSI.carry fun b _ hlt => ⟨(vb_t hb0 hb).block b hlt, fun h => h⟩)).mono fun r w'' ⟨h1, h2⟩ => ⟨h1, vb_t hb h2⟩)
 have HBW := hid_intro hb0
 have HB : Hid (mayB d (.mk k n g e t l ks) = (!((k == 5 || k == 6) && d == 0) && (fitB k n g e t l.length ks && mayBL (d - 1) l))) := hid_intro (by rw [mayB])
 have hvh : vholds k = (k == 5 || k == 6) := by
  unfold vholds
  by_cases h5 : k = 5
  ·simp [h5]
  ·by_cases h6 : k = 6
   ·simp [h6]
   ·simp [h5, h6]
 have HLL : Hid (fitB k n g e t l.length ks = true → vholds k = false → l.length = 0) := hid_intro (fun h1 h2 => by
  unfold fitB at h1
  simp only [Bool.and_eq_true] at h1
  have h3 := h1.2.2.1
  rw [hvh] at h2
  unfold othB at h3
  simp only [Bool.or_eq_false_iff] at h2
  simp [h2.1, h2.2] at h3
  exact List.length_eq_zero_iff.2 h3.2)
 rw [← hvh] at HB
 have HIH : Hid (∀ i (h : i < l.length) w', Below W.heap.size W w' → ∃ b off, ao = some ⟨b, off, none⟩ ∧ (∀ j, j < 7 → w'.cell? ⟨b, off + i * 7 + j, none⟩ = some (G i j)) ∧ (d ≠ 0 → Calls Tryz.prog 35 #[.agg #[G i 0, G i 1, G i 2, G i 3, G i 4, G i 5, G i 6], .int .i64 ((d - 1 : Nat) : Int)] w' fun r w'' => r = .returned (.bool (mayB (d - 1) l[i])) ∧ Below W.heap.size W w'')) := hid_intro (fun i h w' hb => by
  obtain ⟨b, off, cap', e1, hblt, hc⟩ := hLI.at h
  injection e1 with e1 _ _
  have hbb := vb_t hb0 hb
  refine ⟨b, off, e1, fun j hj => (hbb.cell (p := ⟨b, off + i * 7 + j, none⟩) hblt).trans (hc j hj), fun hd0 => ?_⟩
  exact (ih l[i] (List.getElem_mem h) (s3 _ (List.getElem_mem h)) (d - 1) (G i) w' (by omega) (hT.below hbb) ((hLI.kept hbb).choose_spec.choose_spec.2.2.1 i h)).mono fun r w'' ⟨h1, h2⟩ => ⟨h1, vb_t hb h2⟩)
 obtain ⟨P, hP⟩ : ∃ P : Ending → World → Prop, P = fun r w' => r = .returned (.bool (mayB d (.mk k n g e t l ks))) ∧ Below w.heap.size w w' := ⟨_, rfl⟩
 rw [← hP]
 have HP := hid_intro hP
 have hm : (l.length : Int) ≤ 1073741824 := by omega
 have HM : Hid (mayBL (d - 1) (l.drop 0) = mayBL (d - 1) l) := hid_intro rfl
 generalize mayB d (.mk k n g e t l ks) = R at *
 generalize hfb : fitB k n g e t l.length ks = bf at *
 generalize vholds k = bh at *
 have q0 := hcell 0
 have q1 := hcell 1
 have q2 := hcell 2
 have q3 := hcell 3
 have q4 := hcell 4
 have q5 := hcell 5
 have q6 := hcell 6
 have hdI : (d : Int) ≤ 10000 := by omega
 unfold vbox at hW
 clear hv hLI hSI hb0 hT hcell hlt hP ih s1 s2 s3 s4 s5 s6 hvh hfb hd
 by_cases hbad : (bh && d == 0) = true
 ·have h1 : bh = true := by simp at hbad; exact hbad.1
  have h2 : d = 0 := by simp at hbad; exact hbad.2
  subst h1 h2
  go_enter Tryz.func35, Tryz.ntmps35
  go_wp2_with (first | (go_at_call 53; refine (HO.out _ (Below.refl _ _)).mono ?_; rintro r w1 ⟨rfl, hb1⟩))
  rw [HP.out]
  exact ⟨by rw [HB.out]; rfl, vb_t HBW.out hb1⟩
 have hbad' : (bh && d == 0) = false := by simpa using hbad
 rw [hbad'] at HB
 have HD : Hid (bh = true → d ≠ 0) := hid_intro (fun h1 h2 => by rw [h1, h2] at hbad'; cases hbad')
 clear hbad hbad'
 have HEQ : Hid ((d : Int) = 0 ↔ d = 0) := hid_intro (by omega)
 cases bf with
 | false =>
  cases bh with
  | true =>
   have hd0 : ¬ d = 0 := HD.out rfl
   have hdz : ((d : Int) == 0) = false := by rw [beq_eq_false_iff_ne]; omega
   go_enter Tryz.func35, Tryz.ntmps35
   go_wp2_with (first | (go_at_call 53; refine (HO.out _ (Below.refl _ _)).mono ?_; rintro r w1 ⟨rfl, hb1⟩; have p0 := HS.out w1 hb1 0; have p1 := HS.out w1 hb1 1; have p2 := HS.out w1 hb1 2; have p3 := HS.out w1 hb1 3; have p4 := HS.out w1 hb1 4; have p5 := HS.out w1 hb1 5; have p6 := HS.out w1 hb1 6) | (go_at_call 66; refine (HF.out _ hb1).mono ?_; rintro r w2 ⟨rfl, hb2⟩))
   rw [HP.out]
   exact ⟨by rw [HB.out]; rfl, vb_t HBW.out hb2⟩
  | false =>
   go_enter Tryz.func35, Tryz.ntmps35
   go_wp2_with (first | (go_at_call 53; refine (HO.out _ (Below.refl _ _)).mono ?_; rintro r w1 ⟨rfl, hb1⟩; have p0 := HS.out w1 hb1 0; have p1 := HS.out w1 hb1 1; have p2 := HS.out w1 hb1 2; have p3 := HS.out w1 hb1 3; have p4 := HS.out w1 hb1 4; have p5 := HS.out w1 hb1 5; have p6 := HS.out w1 hb1 6) | (go_at_call 66; refine (HF.out _ hb1).mono ?_; rintro r w2 ⟨rfl, hb2⟩))
   rw [HP.out]
   exact ⟨by rw [HB.out]; rfl, vb_t HBW.out hb2⟩
 | true =>
  have HZ : Hid (d = 0 → l.length = 0) := hid_intro (fun h => by
   cases bh with
   | true => exact absurd h (HD.out rfl)
   | false => exact HLL.out rfl rfl)
  cases bh with
  | true =>
   have hd0 : ¬ d = 0 := HD.out rfl
   have hdz : ((d : Int) == 0) = false := by rw [beq_eq_false_iff_ne]; omega
   go_enter Tryz.func35, Tryz.ntmps35
   go_wp2_with (first | (go_at_call 53; refine (HO.out _ (Below.refl _ _)).mono ?_; rintro r w1 ⟨rfl, hb1⟩; have p0 := HS.out w1 hb1 0; have p1 := HS.out w1 hb1 1; have p2 := HS.out w1 hb1 2; have p3 := HS.out w1 hb1 3; have p4 := HS.out w1 hb1 4; have p5 := HS.out w1 hb1 5; have p6 := HS.out w1 hb1 6) | (go_at_call 66; refine (HF.out _ hb1).mono ?_; rintro r w2 ⟨rfl, hb2⟩; have o5 := HS.out w2 hb2 5))
   clear p0 p1 p2 p3 p4 p5 p6 q0 q1 q2 q3 q4 q5 q6 o5
   go_loopg [20] l.length (fun gg s20 wr => ∃ i : Nat, i ≤ l.length ∧ gg = l.length - i ∧ s20 = .int .i64 (i : Int) ∧ Hid (mayBL (d - 1) (l.drop i) = mayBL (d - 1) l) ∧ Hid (Below W.heap.size W wr))
   case atStart => exact ⟨0, Nat.zero_le _, rfl, rfl, HM, hid_intro hb2⟩
   case round =>
    obtain ⟨i, hi, rfl, rfl, HI, HBR⟩ := hrel
    clear hb1 hb2
    by_cases h : i < l.length
    ·have hI : (i : Int) < (l.length : Int) := by omega
     obtain ⟨b, off, rfl, hc, cal⟩ := HIH.out i h wr HBR.out
     have cal := cal hd0
     have d0 : wr.cell? ⟨b, off + i * 7, none⟩ = some (G i 0) := hc 0 (by omega)
     have d1 := hc 1 (by omega)
     have d2 := hc 2 (by omega)
     have d3 := hc 3 (by omega)
     have d4 := hc 4 (by omega)
     have d5 := hc 5 (by omega)
     have d6 := hc 6 (by omega)
     have q5 := HS.out wr HBR.out 5
     have HDR := hid_intro (mayBL_drop (d := d - 1) h)
     have hsub : ((d - 1 : Nat) : Int) = (d : Int) - 1 := by omega
     have hwr : IntKind.i64.wrap ((d : Int) - 1) = (d : Int) - 1 := by rw [IntKind.wrap_i64]; omega
     rw [hsub] at cal
     generalize mayB (d - 1) l[i] = u at *
     clear hc hsub
     cases u with
     | true =>
      go_wp2_with (first | (go_at_call 35; refine cal.mono ?_; rintro r w3 ⟨rfl, hb3⟩))
      go_roundg (l.length - (i + 1))
      case measure => omega
      case rel => exact ⟨i + 1, by omega, rfl, by go_num, hid_intro (by rw [← HI.out, HDR.out]; rfl), hid_intro hb3⟩
     | false =>
      go_wp2_with (first | (go_at_call 35; refine cal.mono ?_; rintro r w3 ⟨rfl, hb3⟩))
      have hR : R = false := by rw [HB.out, ← HI.out, HDR.out]; rfl
      rw [HP.out, hR]
      exact ⟨rfl, vb_t HBW.out hb3⟩
    ·have hI : ¬ ((i : Int) < (l.length : Int)) := by omega
     go_wp2_with fail
     have hx := HI.out
     rw [List.drop_eq_nil_of_le (by omega), mayBL] at hx
     have hR : R = true := by rw [HB.out, ← hx]; rfl
     rw [HP.out, hR]
     exact ⟨rfl, vb_t HBW.out HBR.out⟩
  | false =>
   go_enter Tryz.func35, Tryz.ntmps35
   go_wp2_with (first | (go_at_call 53; refine (HO.out _ (Below.refl _ _)).mono ?_; rintro r w1 ⟨rfl, hb1⟩; have p0 := HS.out w1 hb1 0; have p1 := HS.out w1 hb1 1; have p2 := HS.out w1 hb1 2; have p3 := HS.out w1 hb1 3; have p4 := HS.out w1 hb1 4; have p5 := HS.out w1 hb1 5; have p6 := HS.out w1 hb1 6) | (go_at_call 66; refine (HF.out _ hb1).mono ?_; rintro r w2 ⟨rfl, hb2⟩; have o5 := HS.out w2 hb2 5))
   clear p0 p1 p2 p3 p4 p5 p6 q0 q1 q2 q3 q4 q5 q6 o5
   go_loopg [20] l.length (fun gg s20 wr => ∃ i : Nat, i ≤ l.length ∧ gg = l.length - i ∧ s20 = .int .i64 (i : Int) ∧ Hid (mayBL (d - 1) (l.drop i) = mayBL (d - 1) l) ∧ Hid (Below W.heap.size W wr))
   case atStart => exact ⟨0, Nat.zero_le _, rfl, rfl, HM, hid_intro hb2⟩
   case round =>
    obtain ⟨i, hi, rfl, rfl, HI, HBR⟩ := hrel
    clear hb1 hb2
    by_cases h : i < l.length
    ·have hI : (i : Int) < (l.length : Int) := by omega
     obtain ⟨b, off, rfl, hc, cal⟩ := HIH.out i h wr HBR.out
     have cal := cal (fun h0 => by have := HZ.out h0; omega)
     have hd1 : 1 ≤ d := by have := HZ.out; omega
     have d0 : wr.cell? ⟨b, off + i * 7, none⟩ = some (G i 0) := hc 0 (by omega)
     have d1 := hc 1 (by omega)
     have d2 := hc 2 (by omega)
     have d3 := hc 3 (by omega)
     have d4 := hc 4 (by omega)
     have d5 := hc 5 (by omega)
     have d6 := hc 6 (by omega)
     have q5 := HS.out wr HBR.out 5
     have HDR := hid_intro (mayBL_drop (d := d - 1) h)
     have hsub : ((d - 1 : Nat) : Int) = (d : Int) - 1 := by omega
     have hwr : IntKind.i64.wrap ((d : Int) - 1) = (d : Int) - 1 := by rw [IntKind.wrap_i64]; omega
     rw [hsub] at cal
     generalize mayB (d - 1) l[i] = u at *
     clear hc hsub
     cases u with
     | true =>
      go_wp2_with (first | (go_at_call 35; refine cal.mono ?_; rintro r w3 ⟨rfl, hb3⟩))
      go_roundg (l.length - (i + 1))
      case measure => omega
      case rel => exact ⟨i + 1, by omega, rfl, by go_num, hid_intro (by rw [← HI.out, HDR.out]; rfl), hid_intro hb3⟩
     | false =>
      go_wp2_with (first | (go_at_call 35; refine cal.mono ?_; rintro r w3 ⟨rfl, hb3⟩))
      have hR : R = false := by rw [HB.out, ← HI.out, HDR.out]; rfl
      rw [HP.out, hR]
      exact ⟨rfl, vb_t HBW.out hb3⟩
    ·have hI : ¬ ((i : Int) < (l.length : Int)) := by omega
     go_wp2_with fail
     have hx := HI.out
     rw [List.drop_eq_nil_of_le (by omega), mayBL] at hx
     have hR : R = true := by rw [HB.out, ← hx]; rfl
     rw [HP.out, hR]
     exact ⟨rfl, vb_t HBW.out HBR.out⟩

set_option maxHeartbeats 1600000 in
theorem vcheck_any (v : JV) (hs : Sm v) (f : Nat → Value) (w : World) (hT : Lx.Tab w) (hv : VI w (fun _ => False) v f) :
  Calls Tryz.prog 11 #[va f] w fun r w' => r = .returned (.int .i64 (if mayB 10000 v = true then 0 else 60)) ∧ Below w.heap.size w w' := by
 obtain ⟨k, n, g, e, t, l, ks⟩ := v
 obtain ⟨ao, ko, cap, kc, G, hf, _⟩ := hv.li
 have hb0 : Below w.heap.size w (w.alloc (.cells #[.int .i64 k, .bool n, .string g, .int .i64 e, .string t, .slice ao l.length cap, .slice ko ks.length kc] 28)) := vb_a (Below.refl _ _) _
 have cal := mayBe_any _ hs 10000 f _ (Nat.le_refl _) (hT.below hb0) (hv.kept hb0)
 rw [hf] at cal ⊢
 generalize mayB 10000 (.mk k n g e t l ks) = b at *
 have HB := hid_intro hb0
 clear hv hf hT hs hb0
 cases b
 ·go_enter Tryz.func11, Tryz.ntmps11
  go_wp2_with (first | (go_at_call 35; refine cal.mono ?_; rintro r w1 ⟨rfl, hb1⟩))
  go_ret
  exact ⟨rfl, vb_t HB.out hb1⟩
 ·go_enter Tryz.func11, Tryz.ntmps11
  go_wp2_with (first | (go_at_call 35; refine cal.mono ?_; rintro r w1 ⟨rfl, hb1⟩))
  go_ret
  exact ⟨rfl, vb_t HB.out hb1⟩
end Go.Proofs.YtjdboekanmfgpaaGreatDoor
