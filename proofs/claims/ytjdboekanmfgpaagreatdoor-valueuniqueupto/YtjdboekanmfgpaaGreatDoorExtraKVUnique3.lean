/-
  ValueUnique answers true of all lists and numbers. Conditions: lists and texts of at most 2^30, at most 2^20 elements; the tables as they are laid.
-/
import Derived.Test.YtjdboekanmfgpaaGreatDoorExtraKVUnique0
import Derived.Test.YtjdboekanmfgpaaGreatDoorExtraKVUnique2
import Derived.Test.YtjdboekanmfgpaaGreatDoorJoined36
namespace Go.Proofs.YtjdboekanmfgpaaGreatDoor
open Go.RowKit Go.Lib Go.Sort
attribute [local go_sem] setCell_drewN alloc_drewN

set_option maxRecDepth 100000 in
set_option maxHeartbeats 12000000 in
theorem unique_walk (l : List JV) (lv : Value) (G : Nat → Nat → Value) (at' : Int) (w : World) (hE : Lx.Tab w ∧ Pow w) (hl : LI w (fun _ => False) l lv G) (hs : ∀ v ∈ l, Sm v) (hn : l.length ≤ 1048576) (hcap : ∀ ao n c, lv = .slice ao n c → n ≤ c) (h64 : I64 at') :
  Calls Tryz.prog 8 #[lv, .int .i64 at'] w fun r w' => r = .returned (.bool true) ∧ Below w.heap.size w w' := by
 obtain ⟨P, hP⟩ : ∃ P : Ending → World → Prop, P = fun r w' => r = .returned (.bool true) ∧ Below w.heap.size w w' := ⟨_, rfl⟩
 rw [← hP]
 have HP := hid_intro hP
 have HLI := hid_intro hl
 obtain ⟨ao, cap, rfl, hm, hvi, hrow⟩ := id hl
 have HEl : Hid (∀ i (h : i < l.length) w', Below w.heap.size w w' → ∃ b off, ao = some ⟨b, off, none⟩ ∧ (∀ j, j < 7 → w'.cell? ⟨b, off + i * 7 + j, none⟩ = some (G i j)) ∧ ∃ bm : Bool, mayB 10000 l[i] = bm ∧ Calls Tryz.prog 11 #[.agg #[G i 0, G i 1, G i 2, G i 3, G i 4, G i 5, G i 6]] w' fun r w'' => r = .returned (.int .i64 (if bm = true then 0 else 60)) ∧ Below w.heap.size w w'') := hid_intro (fun i h w' hb => by
  obtain ⟨b, off, cap', e1, hblt, hc⟩ := hl.at h
  injection e1 with e1 _ _
  refine ⟨b, off, e1, fun j hj => (hb.cell (p := ⟨b, off + i * 7 + j, none⟩) hblt).trans (hc j hj), _, rfl, ?_⟩
  exact (vcheck_any l[i] (hs _ (List.getElem_mem h)) (G i) w' (hE.1.below hb) ((hvi i h).kept hb)).mono fun r w'' ⟨h1, h2⟩ => ⟨h1, vb_t hb h2⟩)
 have HH : Hid (∀ w', Below w.heap.size w w' → Calls Tryz.prog 13 #[] w' fun r w'' => r = .returned (.bool true) ∧ Below w.heap.size w w'') := hid_intro (fun w' hb => (heads_any w' (hE.1.below hb) (tab_below hE.2 hb)).mono fun r w'' ⟨h1, h2⟩ => ⟨h1, vb_t hb h2⟩)
 have HSM := hid_intro hs
 have HVI := hid_intro hvi
 have HE0 := hid_intro hE
 have HN := hid_intro hn
 have hnI : (l.length : Int) ≤ 1048576 := by omega
 obtain ⟨hat0, hat1⟩ := h64
 have HC := hid_intro (hcap _ _ _ rfl)
 clear hP hl hvi hrow hE hs hm hn hcap
 go_enter Tryz.func8, Tryz.ntmps8
 go_wp2_with fail
 go_loopg [5] l.length (fun gg s5 wr => ∃ i : Nat, i ≤ l.length ∧ gg = l.length - i ∧ s5 = .int .i64 (i : Int) ∧ Hid (∀ j (h : j < l.length), j < i → mayB 10000 l[j] = true) ∧ Hid (Below w.heap.size w wr))
 case atStart => exact ⟨0, Nat.zero_le _, rfl, rfl, hid_intro (fun j _ h => absurd h (Nat.not_lt_zero _)), hid_intro (Below.refl _ _)⟩
 case round =>
  obtain ⟨i, hi, rfl, rfl, HM, HB⟩ := hrel
  by_cases h : i < l.length
  ·have hI : (i : Int) < (l.length : Int) := by omega
   obtain ⟨b, off, rfl, hc, bm, hm, cal⟩ := HEl.out i h wr HB.out
   have d0 : wr.cell? ⟨b, off + i * 7, none⟩ = some (G i 0) := hc 0 (by omega)
   have d1 := hc 1 (by omega)
   have d2 := hc 2 (by omega)
   have d3 := hc 3 (by omega)
   have d4 := hc 4 (by omega)
   have d5 := hc 5 (by omega)
   have d6 := hc 6 (by omega)
   have HH0 := hid_intro h
   clear hc
   cases bm with
   | true =>
    simp only [if_true] at cal
    have HM2 : Hid (∀ j (h : j < l.length), j < i + 1 → mayB 10000 l[j] = true) := hid_intro (fun j hj hji => by
     rcases (by omega : j < i ∨ j = i) with h2 | rfl
     ·exact HM.out j hj h2
     ·exact hm)
    clear hm
    go_wp2_with (first | (go_at_call 11; refine cal.mono ?_; rintro r w1 ⟨rfl, hb1⟩))
    go_roundg (l.length - (i + 1))
    case measure => have := HH0.out; omega
    case rel => exact ⟨i + 1, HH0.out, rfl, by go_num, HM2, hid_intro hb1⟩
   | false =>
    simp only [Bool.false_eq_true, if_false] at cal
    clear hm
    go_wp2_with (first | (go_at_call 11; refine cal.mono ?_; rintro r w1 ⟨rfl, hb1⟩) | (go_at_call 13; refine (HH.out _ hb1).mono ?_; rintro r w2 ⟨rfl, hb2⟩))
    rw [HP.out]
    exact ⟨rfl, hb2⟩
  ·have hI : ¬ ((i : Int) < (l.length : Int)) := by omega
   have HOK : Hid (∀ v ∈ l, okC NumG v) := hid_intro (fun v hv => by
    obtain ⟨j, hj, rfl⟩ := List.getElem_of_mem hv
    exact may_okC _ 10000 (HSM.out _ (List.getElem_mem hj)) (HM.out j hj (by omega)))
   have HMA : Hid (∀ j (h : j < l.length), mayB 10000 l[j] = true) := hid_intro (fun j hj => HM.out j hj (by omega))
   have HBR := HB
   clear HM HB hi h
   go_wp2_with fail
   go_loopg [6, 7] l.length (fun gg s6 s7 wx => ∃ (k : Nat) (a : Option Addr) (c : Nat) (m : Int), k ≤ l.length ∧ gg = l.length - k ∧ s6 = .slice a k c ∧ s7 = .int .i64 m ∧ m = (l.length : Int) - 1 - k ∧ Hid (wx.ownsRow w.heap.size 28 7 (.slice a k c) k (rowG (fun x y => G (l.length - 1 - x) y) k)) ∧ Hid (Below w.heap.size w wx))
   case atStart => exact ⟨0, none, 0, _, Nat.zero_le _, rfl, rfl, rfl, by omega, hid_intro (World.ownsRow_nil _ _ _ _), HBR⟩
   case round =>
    clear HBR
    obtain ⟨k, a, c, m, hk, rfl, rfl, rfl, hmk, HO, HB⟩ := hrel
    by_cases h2 : k < l.length
    ·obtain ⟨i2, hi2⟩ : ∃ i2, l.length - 1 - k = i2 := ⟨_, rfl⟩
     obtain rfl : m = (i2 : Int) := by omega
     have hlt2 : i2 < l.length := by omega
     have hI2 : (i2 : Int) < (l.length : Int) := by omega
     have hI3 : (0 : Int) ≤ (i2 : Int) := by omega
     obtain ⟨b, off, rfl, hc, -⟩ := HEl.out i2 hlt2 _ HB.out
     have hcx := fun j hj => hc j hj
     have HY := hid_intro (c7l_one (HVI.out i2 hlt2))
     have HI2 := hid_intro hi2
     have HH2 := hid_intro h2
     have hwr : IntKind.i64.wrap ((i2 : Int) - 1) = (i2 : Int) - 1 := by rw [IntKind.wrap_i64]; omega
     have d0 := hcx 0 (by omega)
     have d1 := hcx 1 (by omega)
     have d2 := hcx 2 (by omega)
     have d3 := hcx 3 (by omega)
     have d4 := hcx 4 (by omega)
     have d5 := hcx 5 (by omega)
     have d6 := hcx 6 (by omega)
     rw [Nat.add_zero] at d0
     have HMK := hid_intro hmk
     clear hc hcx hi2 hmk h2 hlt2
     go_wp2_with (at_builtin; refine wpList_append_J rfl _ _ rfl w.heap.size _ k _ rfl HO.out HB.out.size (by have := HN.out; have := HH2.out; omega) (G i2) HY.out _ rfl rfl ?_; intro g c2 w3 ho3 hg3; have HO3 := hid_intro ho3; have HG3 := hid_intro hg3; clear ho3 hg3)
     go_roundg (l.length - (k + 1))
     case measure => have := HH2.out; omega
     case rel =>
      have hbx : Below w.heap.size w w3 := (vb_a HB.out _).grown HG3.out (by have := HB.out.size; simp; omega) (fun j hj => (World.ownsRow.lt HO.out j hj).1)
      refine ⟨k + 1, some ⟨g, 0, none⟩, c2, _, HH2.out, rfl, rfl, rfl, by have := HI2.out; have := HH2.out; omega, hid_intro ?_, hid_intro hbx⟩
      rw [show rowG (fun x y => G (l.length - 1 - x) y) (k + 1) = rowG (fun x y => if x < k then G (l.length - 1 - x) y else G i2 y) (k + 1) from rowG_congr fun x y hx _ => by
       by_cases e : x < k
       ·rw [if_pos e]
       ·rw [if_neg e, ← HI2.out, show x = k by omega]]
      exact HO3.out
    ·have hkn : k = l.length := by omega
     have hm0 : m < 0 := by omega
     have hrev : LI wr (fun _ => False) l.reverse (.slice a l.length c) (fun x y => G (l.length - 1 - x) y) := by
      have ho := HO.out
      rw [hkn] at ho
      have h0 := li_own (l := l.reverse) (by rw [List.length_reverse]; exact ho) (by rw [List.length_reverse]; have := HN.out; unfold maxLen; omega) (fun i hi => by
       have hi' : i < l.length := by simpa using hi
       have e : l.reverse[i] = l[l.length - 1 - i] := by rw [List.getElem_reverse]
       rw [e]
       exact (HVI.out _ (by omega)).kept HB.out)
      exact h0
     have hli := HLI.out.kept HB.out
     obtain ⟨B1, hB1⟩ : ∃ B1 : Bool, (B1 = true ↔ ¬ Alike l.length (fun i j => cmpJ (l.getD i jD) (l.getD j jD))) := by
      by_cases hA : Alike l.length (fun i j => cmpJ (l.getD i jD) (l.getD j jD))
      ·exact ⟨false, ⟨fun h => Bool.noConfusion h, fun h => absurd hA h⟩⟩
      ·exact ⟨true, ⟨fun _ => hA, fun _ => rfl⟩⟩
     have hbool : ∀ b : Bool, (b = true ↔ ¬ Alike l.length (fun i j => cmpJ (l.getD i jD) (l.getD j jD))) → b = B1 := fun b hb => by
      rw [Bool.eq_iff_iff, hb, hB1]
     have HU1 : Hid (∀ w', Below wr.heap.size wr w' → Calls Tryz.prog 29 #[.slice ao l.length cap] w' fun r w'' => r = .returned (.bool B1) ∧ Below wr.heap.size wr w'') := hid_intro (fun w' hb => (vuniq_any l (by have := HN.out; omega) HOK.out _ G w' (hli.kept hb)).mono fun r w'' ⟨b, h1, h2, h3⟩ => ⟨by rw [h1, hbool b h2], vb_t hb h3⟩)
     have HU2 : Hid (∀ w', Below wr.heap.size wr w' → Calls Tryz.prog 29 #[.slice a l.length c] w' fun r w'' => r = .returned (.bool B1) ∧ Below wr.heap.size wr w'') := hid_intro (fun w' hb => (vuniq_any l.reverse (by rw [List.length_reverse]; have := HN.out; omega) (fun v hv => HOK.out v (List.mem_reverse.1 hv)) _ _ w' (hrev.kept hb)).mono fun r w'' ⟨b, h1, h2, h3⟩ => ⟨by
      rw [List.length_reverse] at h2
      rw [h1, hbool b (h2.trans (not_congr (alike_rev l).symm))], vb_t hb h3⟩)
     have HU3 : Hid (∀ w', Below wr.heap.size wr w' → Calls Tryz.prog 29 #[.slice none 0 0] w' fun r w'' => r = .returned (.bool true) ∧ Below wr.heap.size wr w'') := hid_intro (fun w' hb => (vuniq_any [] (by simp) (fun v hv => absurd hv (by simp)) (.slice none 0 0) (fun _ _ => .nilIface) w' ⟨none, 0, rfl, by unfold maxLen; simp, fun i hi => absurd hi (by simp), .inl rfl⟩).mono fun r w'' ⟨b, h1, h2, h3⟩ => ⟨by
      have : b = true := h2.2 (fun ⟨i, j, hi, _⟩ => absurd hi (by simp))
      rw [h1, this], vb_t hb h3⟩)
     have HHX : Hid (∀ w', Below wr.heap.size wr w' → Calls Tryz.prog 13 #[] w' fun r w'' => r = .returned (.bool true) ∧ Below wr.heap.size wr w'') := hid_intro (fun w' hb => (heads_any w' (HE0.out.1.below (vb_t HB.out hb)) (tab_below HE0.out.2 (vb_t HB.out hb))).mono fun r w'' ⟨h1, h2⟩ => ⟨h1, vb_t hb h2⟩)
     have HBX := hid_intro HB.out
     have HB1 := hid_intro hB1
     subst hkn
     have hm0' : ¬ (0 : Int) ≤ m := by omega
     clear hrev hli hbool hB1 hmk h2 hk HO HB HEl HH HVI
     by_cases ha : at' < 0
     ·cases B1 <;>
      ·go_wp2_with (first | (go_at_call 29; (with_reducible refine (HU1.out _ (Below.refl _ _)).mono ?_); rintro r w1 ⟨rfl, hb1⟩) | (go_at_call 29; (with_reducible refine (HU2.out _ hb1).mono ?_); rintro r w2 ⟨rfl, hb2⟩) | (go_at_call 29; (with_reducible refine (HU3.out _ hb2).mono ?_); rintro r w3 ⟨rfl, hb3⟩) | (go_at_call 13; (with_reducible refine (HHX.out _ hb3).mono ?_); rintro r w4 ⟨rfl, hb4⟩))
       rw [HP.out]
       exact ⟨rfl, vb_t HBX.out hb4⟩
     ·by_cases hb : (l.length : Int) ≤ at'
      ·cases B1 <;>
       ·go_wp2_with (first | (go_at_call 29; (with_reducible refine (HU1.out _ (Below.refl _ _)).mono ?_); rintro r w1 ⟨rfl, hb1⟩) | (go_at_call 29; (with_reducible refine (HU2.out _ hb1).mono ?_); rintro r w2 ⟨rfl, hb2⟩) | (go_at_call 29; (with_reducible refine (HU3.out _ hb2).mono ?_); rintro r w3 ⟨rfl, hb3⟩) | (go_at_call 13; (with_reducible refine (HHX.out _ hb3).mono ?_); rintro r w4 ⟨rfl, hb4⟩))
        rw [HP.out]
        exact ⟨rfl, vb_t HBX.out hb4⟩
      ·obtain ⟨p, rfl⟩ : ∃ p : Nat, at' = (p : Int) := ⟨at'.toNat, by omega⟩
       have hp : p < l.length := by omega
       obtain ⟨b, off, cap', e1, hblt, hcell⟩ := HLI.out.at hp
       injection e1 with e1 _ e3
       subst e1 e3
       have HN0 : Hid (0 < l.length) := hid_intro (by omega)
       have hvl := HLI.out.choose_spec.choose_spec.2.2.1
       have HONE : Hid (∀ i j, i < l.length → j < 7 → (G i j).oneCell' = true) := hid_intro (fun i j hi hj => (hvl i hi).one j hj)
       have HCL : Hid (∀ w', Below wr.heap.size wr w' → ∀ i, i < l.length → ∀ j, j < 7 → w'.cell? ⟨b, off + i * 7 + j, none⟩ = some (G i j)) := hid_intro (fun w' hb i hi j hj => by
        obtain ⟨b2, off2, cap2, e2, hb2, hc2⟩ := HLI.out.at hi
        injection e2 with e2 _ _
        injection e2 with e2
        injection e2 with e4 e5
        subst e4 e5
        exact ((vb_t HBX.out hb).cell (p := ⟨b, off + i * 7 + j, none⟩) hb2).trans (hc2 j hj))
       have HS : Hid (∀ w', Below wr.heap.size wr w' → w'.cell? ⟨b, off + p * 7, none⟩ = some (G p 0) ∧ w'.cell? ⟨b, off + p * 7 + 1, none⟩ = some (G p 1) ∧ w'.cell? ⟨b, off + p * 7 + 2, none⟩ = some (G p 2) ∧ w'.cell? ⟨b, off + p * 7 + 3, none⟩ = some (G p 3) ∧ w'.cell? ⟨b, off + p * 7 + 4, none⟩ = some (G p 4) ∧ w'.cell? ⟨b, off + p * 7 + 5, none⟩ = some (G p 5) ∧ w'.cell? ⟨b, off + p * 7 + 6, none⟩ = some (G p 6)) := hid_intro (fun w' hb => ⟨HCL.out w' hb p hp 0 (by omega), HCL.out w' hb p hp 1 (by omega), HCL.out w' hb p hp 2 (by omega), HCL.out w' hb p hp 3 (by omega), HCL.out w' hb p hp 4 (by omega), HCL.out w' hb p hp 5 (by omega), HCL.out w' hb p hp 6 (by omega)⟩)
       have HSR : Hid (∀ w1 g1, Below wr.heap.size wr w1 → wr.heap.size ≤ g1 → g1 < w1.heap.size → ∀ w', Below w1.heap.size w1 w' → Calls Tryz.prog 19 #[.agg #[G p 0, G p 1, G p 2, G p 3, G p 4, G p 5, G p 6]] w' fun r w'' => ∃ f', r = .returned (.agg #[f' 0, f' 1, f' 2, f' 3, f' 4, f' 5, f' 6]) ∧ Hid (VI w'' (fun b => b = g1) (srt l[p]) f') ∧ Below w1.heap.size w1 w'') := hid_intro (fun w1 g1 hb1 hg hg2 w' hb' => by
        have hbw : Below w.heap.size w w' := vb_t HBX.out (vb_t hb1 hb')
        have hws : w.heap.size ≤ wr.heap.size := HBX.out.size
        refine (sorted_any l[p] (HSM.out _ (List.getElem_mem hp)) 10000 (HMA.out p hp) (G p) w' (fun b => b = g1) (fun b e => by rw [e]; exact Nat.lt_of_lt_of_le hg2 hb'.size) ((hvl p hp).carry fun b _ hlt => ⟨hbw.block b hlt, fun e => by omega⟩)).mono ?_
        rintro r w'' ⟨f', h1, h2, h3⟩
        exact ⟨f', h1, hid_intro h2, vb_t hb' h3⟩)
       have HUX : Hid (∀ ws g1 f' w8 wb g2 c2, wr.heap.size ≤ g1 → Hid (VI ws (fun b => b = g1) (srt l[p]) f') → Below wr.heap.size wr ws → Below ws.heap.size ws w8 → w8.grownBy wb (some g1) → wb.ownsRow wr.heap.size 28 7 (.slice (some ⟨g2, 0, none⟩) (l.length + 1) c2) (l.length + 1) (rowG (fun p q => if p < l.length then G p q else f' q) (l.length + 1)) → ∀ w', Below wb.heap.size wb w' → Calls Tryz.prog 29 #[.slice (some ⟨g2, 0, none⟩) (l.length + 1) c2] w' fun r w'' => r = .returned (.bool false) ∧ Below wr.heap.size wr w'') := hid_intro (fun ws g1 f' w8 wb g2 c2 hg hv hbs h8 hgb hob w' hb' => by
        have hwr8 : Below wr.heap.size wr w8 := vb_t hbs h8
        have hwrb : Below wr.heap.size wr wb := Below.grown hwr8 hgb hwr8.size (fun q e => by injection e with e; omega)
        have hvf : VI wb (fun _ => False) (srt l[p]) f' := (hv.out.kept h8).carry fun q hx hlt => ⟨hgb.block q hlt (fun e => hx (by injection e)), fun h => h⟩
        have hlen : (l ++ [srt l[p]]).length = l.length + 1 := by simp
        have hli : LI wb (fun _ => False) (l ++ [srt l[p]]) (.slice (some ⟨g2, 0, none⟩) (l.length + 1) c2) (fun p q => if p < l.length then G p q else f' q) := by
         have h0 := li_own (w := wb) (B := wr.heap.size) (v := .slice (some ⟨g2, 0, none⟩) (l.length + 1) c2) (l := l ++ [srt l[p]]) (G := fun p q => if p < l.length then G p q else f' q) (by rw [hlen]; exact hob) (by rw [hlen]; have := HN.out; unfold maxLen; omega) (fun i hi => by
          rw [hlen] at hi
          by_cases e : i < l.length
          ·have ei : (l ++ [srt l[p]])[i]'(by rw [hlen]; exact hi) = l[i] := List.getElem_append_left e
           rw [ei]
           exact ((hvl i e).kept (vb_t HBX.out hwrb)).congr fun q _ => by simp [e]
          ·have ei : i = l.length := by omega
           subst ei
           have e2 : (l ++ [srt l[p]])[l.length]'(by rw [hlen]; exact hi) = srt l[p] := by simp
           rw [e2]
           exact hvf.congr fun q _ => by simp)
         exact h0
        have hok : ∀ v ∈ l ++ [srt l[p]], okC NumG v := fun v hv => by
         rcases List.mem_append.1 hv with hv | hv
         ·exact HOK.out v hv
         ·rw [List.mem_singleton.1 hv]; exact okC_srt _ (HOK.out _ (List.getElem_mem hp))
        refine (vuniq_any (l ++ [srt l[p]]) (by rw [hlen]; have := HN.out; omega) hok _ _ w' (hli.kept hb')).mono ?_
        rintro r w'' ⟨bb, h1, h2, h3⟩
        have hbb : bb = false := by
         cases bb with
         | false => rfl
         | true => exact absurd (alike_again l p hp (HOK.out _ (List.getElem_mem hp))) (h2.1 rfl)
        exact ⟨by rw [h1, hbb], vb_t (vb_t hwrb hb') h3⟩)
       have hpI : (p : Int) < (l.length : Int) := by omega
       have hp0 : (0 : Int) ≤ (p : Int) := by omega
       have HP7 := hid_intro hp
       have hwp : IntKind.i64.wrap ((p : Int) + 1) = (p : Int) + 1 := by rw [IntKind.wrap_i64]; omega
       have hlc : (p : Int) + 1 ≤ (cap : Int) := by have := HC.out; omega
       have hle : (p : Int) ≤ (p : Int) + 1 := by omega
       have HUS : Hid (∀ w' o n c, Below wr.heap.size wr w' → o = some ⟨b, off + p * 7, none⟩ → n = 1 → Calls Tryz.prog 29 #[.slice o n c] w' fun r w'' => r = .returned (.bool true) ∧ Below wr.heap.size wr w'') := hid_intro (fun w' o n c hb ho hn => by
        subst ho hn
        have hok : ∀ v ∈ [l[p]], okC NumG v := fun v hv => by rw [List.mem_singleton.1 hv]; exact HOK.out _ (List.getElem_mem hp)
        have hli : LI w' (fun _ => False) [l[p]] (.slice (some ⟨b, off + p * 7, none⟩) 1 c) (fun _ => G p) := by
         refine ⟨_, c, rfl, by unfold maxLen; simp, fun i hi => ?_, .inr ⟨b, _, rfl, fun h => h, Nat.lt_of_lt_of_le hblt (vb_t HBX.out hb).size, fun i hi j hj => ?_⟩⟩
         ·have : i = 0 := by simpa using hi
          subst this
          exact (hvl p hp).kept (vb_t HBX.out hb)
         ·have : i = 0 := by simpa using hi
          subst this
          have := HCL.out w' hb p hp j hj
          rw [show off + p * 7 + 0 * 7 + j = off + p * 7 + j by omega]
          exact this
        refine (vuniq_any [l[p]] (by simp) hok _ _ w' hli).mono ?_
        rintro r w'' ⟨bb, h1, h2, h3⟩
        have hbb : bb = true := h2.2 (by rintro ⟨i, j, hi, hj, hij, -⟩; have hj2 : j < 1 := hj; have hi2 : i < 1 := hi; exact hij (by omega))
        exact ⟨by rw [h1, hbb], vb_t hb h3⟩)
       clear hcell hvl hblt
       cases B1 <;>
       ·go_wp2_with (first | (go_at_call 29; (with_reducible refine (HU1.out _ (Below.refl _ _)).mono ?_); rintro r w1 ⟨rfl, hb1⟩) | (go_at_call 29; (with_reducible refine (HU2.out _ hb1).mono ?_); rintro r w2 ⟨rfl, hb2⟩) | (go_at_call 29; (with_reducible refine (HU3.out _ hb2).mono ?_); rintro r w3 ⟨rfl, hb3⟩))
        have HB3S : Hid (wr.heap.size ≤ w3.heap.size) := hid_intro hb3.size
        go_region_held3 (fun w' => w'.cell? ⟨b, off + p * 7, none⟩ = some (G p 0) ∧ w'.cell? ⟨b, off + p * 7 + 1, none⟩ = some (G p 1) ∧ w'.cell? ⟨b, off + p * 7 + 2, none⟩ = some (G p 2) ∧ w'.cell? ⟨b, off + p * 7 + 3, none⟩ = some (G p 3) ∧ w'.cell? ⟨b, off + p * 7 + 4, none⟩ = some (G p 4) ∧ w'.cell? ⟨b, off + p * 7 + 5, none⟩ = some (G p 5) ∧ w'.cell? ⟨b, off + p * 7 + 6, none⟩ = some (G p 6)) (first | (refine HS.out _ ?_; first | ((with_reducible repeat (first | exact he9 | refine vb_d ?_ | refine vb_a ?_ _)); done) | ((with_reducible repeat (first | exact hd9 | refine vb_d ?_ | refine vb_a ?_ _)); done) | ((with_reducible repeat (first | exact hc9 | refine vb_d ?_ | refine vb_a ?_ _)); done) | ((with_reducible repeat (first | exact hcb | refine vb_d ?_ | refine vb_a ?_ _)); done) | ((with_reducible repeat (first | exact hcs | refine vb_d ?_ | refine vb_a ?_ _)); done) | ((with_reducible repeat (first | exact hca | refine vb_d ?_ | refine vb_a ?_ _)); done) | ((with_reducible repeat (first | exact hb3 | refine vb_d ?_ | refine vb_a ?_ _)); done)) | fail) (first | (refine step_appL (by rfl) _ _ (by rfl) wr.heap.size w3.heap.size (by rfl) b off l.length cap G (by rfl) HN0.out HN.out HONE.out ?_ ?_ ?_ ?_; (focus (refine own_of_bx ?_ HB3S.out; (with_reducible repeat (first | exact Bx.new _ _ _ | refine Bx.dw ?_ | refine Bx.al ?_ _)))); (focus (refine Below.size (w := wr) (B := wr.heap.size) ?_; (with_reducible repeat (first | exact hb3 | refine vb_d ?_ | refine vb_a ?_ _)))); (focus (refine HCL.out _ ?_; (with_reducible repeat (first | exact hb3 | refine vb_d ?_ | refine vb_a ?_ _)))); intro g1 c1 wa hoa hga; have hg1 := hid_intro (World.ownsRow.lt hoa g1 rfl); have hca : Below wr.heap.size wr wa := Below.grown (by (with_reducible repeat (first | exact hb3 | refine vb_d ?_ | refine vb_a ?_ _))) hga (by refine Below.size (w := wr) (B := wr.heap.size) ?_; (with_reducible repeat (first | exact hb3 | refine vb_d ?_ | refine vb_a ?_ _))) (fun q e => by injection e with e; have := HB3S.out; omega)) | (go_at_call 19; with_reducible refine (HSR.out wa g1 hca hg1.out.1 hg1.out.2 _ ?_).mono ?_; (with_reducible repeat (first | exact Below.refl _ _ | refine vb_d ?_ | refine vb_a ?_ _)); rintro r ws ⟨f', rfl, hvs, hs9⟩; have HOS := hid_intro (own_belJ hoa hs9); have hcs := vb_t hca hs9) | (refine step_appJ (by rfl) _ _ (by rfl) wr.heap.size g1 l.length c1 G (by rfl) f' _ (by rfl) HN.out (c7l_one hvs.out) ?_ ?_ ?_ ?_; (focus (refine own_belJ HOS.out ?_; (with_reducible repeat (first | exact Below.refl _ _ | refine vb_d ?_ | refine vb_a ?_ _)))); (focus (refine Below.size (w := wr) (B := wr.heap.size) ?_; (with_reducible repeat (first | exact hcs | refine vb_d ?_ | refine vb_a ?_ _)))); (focus (with_reducible repeat (first | exact Bx.new _ _ _ | refine Bx.dw ?_ | refine Bx.al ?_ _))); intro g2 c2 wb hob hgb; have hcb : Below wr.heap.size wr wb := Below.grown (by (with_reducible repeat (first | exact hcs | refine vb_d ?_ | refine vb_a ?_ _))) hgb (by refine Below.size (w := wr) (B := wr.heap.size) ?_; (with_reducible repeat (first | exact hcs | refine vb_d ?_ | refine vb_a ?_ _))) (fun q e => by injection e with e; rw [← e]; exact hg1.out.1)) | (go_at_call 29; with_reducible refine (HUX.out ws g1 f' _ wb g2 c2 hg1.out.1 hvs hcs ?_ hgb hob _ ?_).mono ?_; (focus (with_reducible repeat (first | exact Below.refl _ _ | refine vb_d ?_ | refine vb_a ?_ _))); (focus (with_reducible repeat (first | exact Below.refl _ _ | refine vb_d ?_ | refine vb_a ?_ _))); rintro r wc ⟨rfl, hc9⟩) | (go_at_call 29; with_reducible refine (HUS.out _ _ _ _ ?_ ?_ ?_).mono ?_; (focus (with_reducible repeat (first | exact hc9 | refine vb_d ?_ | refine vb_a ?_ _))); (focus (exact if_neg (by have := HC.out; have := HP7.out; omega))); (focus rfl); rintro r wd ⟨rfl, hd9⟩) | (go_at_call 13; with_reducible refine (HHX.out _ ?_).mono ?_; (focus (with_reducible repeat (first | exact hd9 | refine vb_d ?_ | refine vb_a ?_ _))); rintro r we ⟨rfl, he9⟩) | fail)
        go_wp2_with fail
        rw [HP.out]
        exact ⟨rfl, vb_t HBX.out he9⟩
end Go.Proofs.YtjdboekanmfgpaaGreatDoor
