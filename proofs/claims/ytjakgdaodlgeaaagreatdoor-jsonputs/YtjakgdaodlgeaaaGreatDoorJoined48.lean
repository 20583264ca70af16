/-
  JsonPuts answers true for all texts. Conditions: the tables as they are laid.
-/
import Derived.Test.YtjakgdaodlgeaaaGreatDoorJoined47
import Derived.Deep.RegionLaw
import Derived.Deep.CutRange
import Derived.Deep.LoopGhost
namespace Go.Proofs.YtjakgdaodlgeaaaGreatDoor
open Go.RowKit Go.Maps
attribute [local go_sem] setCell_drewN alloc_drewN

theorem judged_dN {l : List UInt8} {v : JV} (h : judgedS l (bm 0 0 0) = .ok v) : dN v ≤ 10000 := by
 rw [← refj] at h
 unfold judgedR at h
 split at h
 ·cases h
 ·split at h
  ·cases h
  ·rename_i p hp
   split at h
   ·cases h
   ·rename_i h1
    split at h
    ·cases h
    ·injection h with h
     have e := alone_dp rd_flat hp
     have e2 : (bm 0 0 0).dep = 10000 := by decide
     rw [e2] at h1
     rw [← h, ← e]; omega
set_option maxRecDepth 100000 in
set_option maxHeartbeats 3200000 in
theorem puts_walk (ls : List (List UInt8)) (v : Value) (w : World) (a : Addr) (hE : Lx.Env w) (hD : Env w a) (hR : Rws w v ls) :
  Calls Tryz.prog 7 #[v] w fun r w' => r = .returned (.bool true) ∧ Below w.heap.size w w' := by
 obtain ⟨P, hP⟩ : ∃ P : Ending → World → Prop, P = fun r w' => r = .returned (.bool true) ∧ Below w.heap.size w w' := ⟨_, rfl⟩
 rw [← hP]
 have HP := hid_intro hP
 obtain ⟨ao, cap, rfl, hc1, hc2, hrow⟩ := hR
 have HROW := hid_intro hrow
 have HH : Hid (∀ (w' : World), Below w.heap.size w w' → Calls Tryz.prog 14 #[] w' (fun r w3 => r = .returned (.bool true) ∧ Below w.heap.size w w3)) := hid_intro (fun w' hb => (heads_any w' a (hE.below hb) (hD.below hb)).mono fun r w3 hr => ⟨hr.1, vb_t hb hr.2⟩)
 have HRD : Hid (∀ (l : List UInt8) (u : Value) (w' : World), Below w.heap.size w w' → Lx.Byt w' u l → Calls Tryz.prog 9 #[u, .agg #[.int .i64 0, .int .i64 0, .int .i64 0, .int .i64 0, .int .i64 0]] w' (JdR (judgedS l (bm 0 0 0)) w')) := hid_intro (fun l u w' hb hB => read_any l u 0 0 0 0 0 w' a (hE.below hb) (hD.below hb) hB)
 obtain ⟨W1, hW1⟩ : ∃ W1, (w.alloc (.cells #[.int .u8 91] 5 (1, 2))).alloc (.cells #[.int .u8 123] 5 (1, 2)) = W1 := ⟨_, rfl⟩
 have HST : Hid (PU w ls 0 (.slice (some ⟨w.heap.size, 0, none⟩) 1 1) (.slice (some ⟨w.heap.size + 1, 0, none⟩) 1 1) (.slice none 0 0) [] W1) := hid_intro (by
  rw [← hW1]
  refine PU.start (vb_a (vb_a (Below.refl _ _) _) _) (by simp) ?_ ?_
  ·have e : ((w.alloc (.cells #[.int .u8 91] 5 (1, 2))).alloc (.cells #[.int .u8 123] 5 (1, 2))).heap[w.heap.size]? = some (.cells #[.int .u8 91] 5 (1, 2)) := by show ((w.heap.push _).push _)[w.heap.size]? = _; simp [Array.getElem?_push]
   unfold World.cell?; rw [e]; rfl
  ·have e : ((w.alloc (.cells #[.int .u8 91] 5 (1, 2))).alloc (.cells #[.int .u8 123] 5 (1, 2))).heap[w.heap.size + 1]? = some (.cells #[.int .u8 123] 5 (1, 2)) := by
    have h0 : (w.heap.push (.cells #[.int .u8 91] 5 (1, 2))).size = w.heap.size + 1 := by simp
    show ((w.heap.push _).push _)[w.heap.size + 1]? = _
    rw [← h0]; exact Array.getElem?_push_size
   unfold World.cell?; rw [e]; rfl)
 have hcI : (ls.length : Int) ≤ (cap : Int) := by omega
 have hmI : (cap : Int) ≤ 9223372036854775807 := by unfold maxLen at hc2; omega
 have cv1 := Lx.conv_lit w _ 1 #[.int .u8 91] 1 rfl rfl
 have cv2 := Lx.conv_lit (w.alloc (.cells #[.int .u8 91] 5 (1, 2))) (w.heap.size + 1) 1 #[.int .u8 123] 1 (by simp) rfl
 clear hP hE hD hrow hc1 hc2
 go_enter Tryz.func7, Tryz.ntmps7
 go_wp2_with fail
 go_loopg [3, 4, 5, 6, 7, 8] (ls.length) (fun g s3 s4 s5 s6 s7 s8 wr => ∃ (i : Nat) (vA vO vV : Value) (pvs : List PV), g = ls.length - i ∧ s3 = vA ∧ s4 = vO ∧ s5 = vV ∧ s6 = .int .i64 (i : Int) ∧ Hid (PU w ls i vA vO vV pvs wr))
 case atStart => exact ⟨0, _, _, _, [], rfl, rfl, rfl, rfl, rfl, HST⟩
 case round =>
  obtain ⟨i, vA, vO, vV, pvs, rfl, e3, e4, e5, rfl, HI⟩ := hrel
  replace e3 := e3.symm
  replace e4 := e4.symm
  replace e5 := e5.symm
  subst e3 e4 e5
  by_cases hlt : i < ls.length
  ·by_cases h30 : i < 30
   ·have hI1 : (i : Int) < (ls.length : Int) := by omega
    have hI2 : (i : Int) < 30 := by omega
    obtain ⟨b, off, rfl, hbl, hcell⟩ := HROW.out.resolve_left (fun e => by rw [e] at hlt; exact absurd hlt (by simp))
    obtain ⟨la, lc, kc0, kb0⟩ := hcell i hlt
    have kc : wr.cell? ⟨b, off + i, none⟩ = some (.slice la ls[i].length lc) := (HI.out.bel.cell (p := ⟨b, off + i, none⟩) hbl).trans kc0
    have HR := hid_intro (HRD.out ls[i] (.slice la ls[i].length lc) wr HI.out.bel (kb0.below HI.out.bel))
    have HKC : Hid (∀ w', Below w.heap.size w w' → w'.cell? ⟨b, off + i, none⟩ = some (.slice la ls[i].length lc) ∧ Lx.Byt w' (.slice la ls[i].length lc) ls[i]) := hid_intro (fun w' hb => ⟨(hb.cell (p := ⟨b, off + i, none⟩) hbl).trans kc0, kb0.below hb⟩)
    clear hcell kc0 kb0
    go_wp2_with fail
    refine HR.out.mono ?_
    rintro r1 w1 hr1
    have hb1 := vb_t HI.out.bel hr1.1
    cases hX : judgedS ls[i] (bm 0 0 0) with
    | error p =>
     rw [hX] at hr1
     have hk : p.1 = 3 ∨ p.1 = 4 := by
      unfold judgedS at hX
      repeat' split at hX
      all_goals first | (injection hX with hX; rw [← hX]; first | exact Or.inl rfl | exact Or.inr rfl) | cases hX
     obtain ⟨p1, p2⟩ := p
     obtain ⟨_, hr1⟩ := hr1
     replace hr1 : r1 = .returned (.tuple #[.agg #[.int .i64 0, .bool false, .string ⟨#[]⟩, .int .i64 0, .string ⟨#[]⟩, .slice none 0 0, .slice none 0 0], .agg #[.int .i64 p1, .int .i64 p2]]) := hr1
     subst hr1
     have hk1 : (p1 != 1) = true := by rcases hk with hk | hk <;> (replace hk : p1 = _ := hk; rw [hk]; decide)
     clear hX hk kc HR
     go_wp2_with (go_at_call 14; refine (HH.out _ ?_).mono ?_; (with_reducible repeat (first | exact hb1 | refine vb_a ?_ _)); rintro r3 w3 ⟨rfl, h3⟩)
     rw [HP.out]
     exact ⟨rfl, h3⟩
    | ok y =>
     rw [hX] at hr1
     obtain ⟨hbr, f1, rfl, hv1⟩ := hr1
     obtain ⟨k1, n1, g1, e1, t1, a1_, m1, cc1, s1, o1, d1, hva1, hsv1⟩ := hv1.lit
     rw [hva1]
     obtain ⟨A1, hA1⟩ : ∃ A1, ((w1.alloc (.cells #[.int .i64 k1, .bool n1, .string g1, .int .i64 e1, .string t1, .slice a1_ m1 cc1, .slice s1 o1 d1] 31)).alloc (.cells #[.int .i64 1, .int .i64 0] 34)) = A1 := ⟨_, rfl⟩
     have hs1 : Below w1.heap.size w1 A1 := hA1 ▸ vb_a (vb_a (Below.refl _ _) _) _
     have hbA := vb_t hb1 hs1
     have HBA := hid_intro hbA
     obtain ⟨x0, x1, x2, x3, x4, x5, x6⟩ := (show Bj A1 w1.heap.size #[.int .i64 k1, .bool n1, .string g1, .int .i64 e1, .string t1, .slice a1_ m1 cc1, .slice s1 o1 d1] from hA1 ▸ (Bj.new _ _ _).al _).c7
     obtain ⟨y0, y1⟩ := (show Bj A1 (w1.heap.size + 1) #[.int .i64 1, .int .i64 0] from hA1 ▸ Bj.new' _ _ _ _ (by simp)).c2
     have kc1 := (HKC.out A1 hbA).1
     have hdn := judged_dN hX
     have HDP : Hid (Calls Tryz.prog 18 #[.agg #[.int .i64 k1, .bool n1, .string g1, .int .i64 e1, .string t1, .slice a1_ m1 cc1, .slice s1 o1 d1]] A1 fun r w' => r = .returned (.int .i64 (dN y : Int)) ∧ Below A1.heap.size A1 w') := hid_intro (by
      have := r5depth_any y f1 A1 (hv1.carry fun b _ hlt => ⟨hs1.block b hlt, id⟩)
      rw [hva1, depth_dN y (by omega)] at this
      exact this)
     have HXA := hid_intro hX
     have HT1 : Hid (TV w vA vO vV (ArT ls i) (ObT ls i) pvs y f1 w1.heap.size #[.int .i64 k1, .bool n1, .string g1, .int .i64 e1, .string t1, .slice a1_ m1 cc1, .slice s1 o1 d1] A1) := hid_intro (TV.start HI.out hbr hs1 hv1 (hA1 ▸ (Bj.new _ _ _).al _))
     have HSV := hid_intro hsv1
     subst hA1
     by_cases hz : (10000 : Int) < (ls[i].length : Int)
     ·have hzb : decide ((10000 : Int) < (ls[i].length : Int)) = true := by simp [hz]
      clear hX kc HR
      go_wp2_with (go_at_call 14; refine (HH.out _ HBA.out).mono ?_; rintro r3 w3 ⟨rfl, h3⟩)
      rw [HP.out]
      exact ⟨rfl, h3⟩
     ·have hzb : decide ((10000 : Int) < (ls[i].length : Int)) = false := by simp [hz]
      by_cases hd : (9000 : Int) < (dN y : Int)
      ·have hdb : decide ((9000 : Int) < (dN y : Int)) = true := by simp [hd]
       clear hX kc HR
       go_wp2_with (first | (go_at_call 18; refine HDP.out.mono ?_; rintro r2 w2 ⟨rfl, hb2⟩) | (go_at_call 14; refine (HH.out _ (vb_t HBA.out hb2)).mono ?_; rintro r3 w3 ⟨rfl, h3⟩))
       rw [HP.out]
       exact ⟨rfl, h3⟩
      ·have hdb : decide ((9000 : Int) < (dN y : Int)) = false := by simp [hd]
       have HSZ : Hid ((ArT ls i).length ≤ 300100 ∧ (ObT ls i).length ≤ 300300 ∧ ls[i].length ≤ 10000) := hid_intro ⟨(arT_len HI.out.i30.1 HI.out.sz).1, (arT_len HI.out.i30.1 HI.out.sz).2, by omega⟩
       have HNE : Hid (ls[i] ≠ []) := hid_intro (judged_ne hX)
       have HYD : Hid (dN y ≤ 9000) := hid_intro (by omega)
       by_cases hi0 : 0 < i
       ·have hi0I : (0 : Int) < (i : Int) := by omega
        have hi0b : decide ((0 : Int) < (i : Int)) = true := decide_eq_true hi0I
        clear hX kc HR hdn hb1 hs1 hv1 hva1 hsv1 hbr x0 x1 x2 x3 x4 x5 x6 
        go_wp2_with fail
        refine HDP.out.mono ?_
        rintro r2 w2 ⟨rfl, hb2⟩
        have HT2 := hid_intro (HT1.out.bl hb2)
        clear hb2
        obtain ⟨T1, hT1⟩ : ∃ T1, w2.alloc (.cells #[.int .u8 44] 5) = T1 := ⟨_, rfl⟩; have HT3 := hid_intro (HT2.out.bl (hT1 ▸ vb_a (Below.refl _ _) _)); have HY1 : Hid (Lx.Byt T1 (.slice (some ⟨w2.heap.size, 0, none⟩) 1 1) [44]) := hid_intro (hT1 ▸ byt_lit1 w2 44 44 rfl _)
        go_wp2_with (first | (at_builtin; refine wp_app_rb rfl _ _ rfl w.heap.size vA (ArT ls i) rfl _ [44] rfl ?_ ?_ HT3.out.thr.ra HY1.out HT3.out.bel.size ?_; (focus (have := HSZ.out; first | omega | (simp; omega))); (focus (simp)); intro v3 w3 hn3; have HT4 := hid_intro (HT3.out.arr hn3); clear hn3; obtain ⟨T2, hT2⟩ : ∃ T2, w3.alloc (.cells #[.int .u8 44] 5) = T2 := ⟨_, rfl⟩; have HT5 := hid_intro (HT4.out.bl (hT2 ▸ vb_a (Below.refl _ _) _)); have HY2 : Hid (Lx.Byt T2 (.slice (some ⟨w3.heap.size, 0, none⟩) 1 1) [44]) := hid_intro (hT2 ▸ byt_lit1 w3 44 44 rfl _)) | (at_builtin; refine wp_app_rb rfl _ _ rfl w.heap.size vO (ObT ls i) rfl _ [44] rfl ?_ ?_ HT5.out.thr.ro HY2.out HT5.out.bel.size ?_; (focus (have := HSZ.out; first | omega | (simp; omega))); (focus (simp)); intro v4 w4 hn4; have HT6 := hid_intro (HT5.out.obj hn4); clear hn4; obtain ⟨kc4, ky4⟩ := HKC.out w4 HT6.out.bel; have HY4 := hid_intro ky4; clear ky4) | (at_builtin; refine wp_app_rb rfl _ _ rfl w.heap.size v3 (ArT ls i ++ [44]) rfl _ ls[i] rfl ?_ HNE.out HT6.out.thr.ra HY4.out HT6.out.bel.size ?_; (focus (have := HSZ.out; first | omega | (simp; omega))); intro v5 w5 hn5; have HT7 := hid_intro (HT6.out.arr hn5); clear hn5; obtain ⟨kc5, ky5⟩ := HKC.out w5 HT7.out.bel; have HY5 := hid_intro ky5; clear ky5) | fail)
        obtain ⟨qa, qb, hqa, hqb, hq1, hq2⟩ := ky_num i h30
        have HQ := hid_intro (And.intro hqa hqb)
        have H30 := hid_intro h30
        have kca : ∀ o, (w5.alloc o).cell? ⟨b, off + i, none⟩ = some (.slice la ls[i].length lc) := fun o => (HKC.out _ (vb_a HT7.out.bel o)).1
        clear hbA y0 y1 kc1 HDP HT1 hzb hdb hz hd hcI hmI cv1 cv2 hW1 hqa hqb
        go_region_law (first | (refine step_app_rb (by rfl) _ _ (by rfl) w.heap.size v4 (ObT ls i ++ [44]) (by rfl) _ (kyT i) (by rfl) ?_ ?_ ?_ ?_ ?_ ?_; (focus (have := HSZ.out; unfold kyT; first | omega | (simp; omega))); (focus (unfold kyT; simp)); (focus (exact (HT7.out.bl (by with_reducible repeat (first | exact Below.refl _ _ | refine vb_d ?_ | refine vb_a ?_ _))).thr.ro)); (focus (refine byt_ky H30.out HQ.out.1 HQ.out.2 ?_; with_reducible repeat (first | exact Bj.new _ _ _ | refine Bj.dw ?_))); (focus (exact (HT7.out.bl (by with_reducible repeat (first | exact Below.refl _ _ | refine vb_d ?_ | refine vb_a ?_ _))).bel.size)); intro v6 w6 hn6; have HT8 := hid_intro (TV.obj (HT7.out.bl (by with_reducible repeat (first | exact Below.refl _ _ | refine vb_d ?_ | refine vb_a ?_ _))) hn6); clear hn6; obtain ⟨kc6, ky6⟩ := HKC.out w6 HT8.out.bel; have HY6 := hid_intro ky6; clear ky6) | (refine step_app_rb (by rfl) _ _ (by rfl) w.heap.size v6 ((ObT ls i ++ [44]) ++ kyT i) (by rfl) _ ls[i] (by rfl) ?_ HNE.out ?_ ?_ ?_ ?_; (focus (have := HSZ.out; unfold kyT; first | omega | (simp; omega))); (focus (exact (HT8.out.bl (by with_reducible repeat (first | exact Below.refl _ _ | refine vb_d ?_ | refine vb_a ?_ _))).thr.ro)); (focus (exact (HKC.out _ (vb_t HT8.out.bel (by with_reducible repeat (first | exact Below.refl _ _ | refine vb_d ?_ | refine vb_a ?_ _)))).2)); (focus (exact (HT8.out.bl (by with_reducible repeat (first | exact Below.refl _ _ | refine vb_d ?_ | refine vb_a ?_ _))).bel.size)); intro v7 w7 hn7; have HT9 := hid_intro (TV.obj (HT8.out.bl (by with_reducible repeat (first | exact Below.refl _ _ | refine vb_d ?_ | refine vb_a ?_ _))) hn7); clear hn7) | fail)
        all_goals
         have HCM : Hid (cmT i = [44]) := hid_intro (by unfold cmT; rw [if_pos hi0])
         have HPL : Hid (pvs.length = i) := hid_intro HI.out.len
         obtain ⟨i0, hi, hz0, hz1, hz2⟩ := info_parts infoV
         have hwI : IntKind.i64.wrap ((i : Int) + 1) = (i : Int) + 1 := by simp [IntKind.wrap, IntKind.bits, IntKind.signed]; omega
         clear kca hq1 hq2 HQ HY4 HY5 
         obtain ⟨x0, x1, x2, x3, x4, x5, x6⟩ := HT9.out.bj.c7
         go_wp2_with (at_builtin; refine wpList_append_own_at _ rfl _ _ 28 rfl w.heap.size 31 i0 _ 7 104 Tryz.underlying28 hi hz0 hz1 hz2 rfl (by decide) _ pvs.length (flat7 pvs) rfl ?_ ⟨w7.heap.size, 0, none⟩ 1 1 [.int .i64 k1, .bool n1, .string g1, .int .i64 e1, .string t1, .slice a1_ m1 cc1, .slice s1 o1 d1] rfl rfl ?_ (one7 _ _ _ _ _ _ _ _ _ _ _) ?_ ?_ ?_ ?_; (focus (exact (HT9.out.bl (by with_reducible repeat (first | exact Below.refl _ _ | refine vb_d ?_ | refine vb_a ?_ _))).thr.row)); (focus (exact bj_row7 (by with_reducible repeat (first | exact Bj.new _ _ _ | refine Bj.dw ?_)))); (focus (have := HPL.out; have := H30.out; unfold maxLen; omega)); (focus (have := HPL.out; have := H30.out; omega)); (focus (exact (HT9.out.bl (by with_reducible repeat (first | exact Below.refl _ _ | refine vb_d ?_ | refine vb_a ?_ _))).bel.size)); intro v8 w8 ho8 hg8 _ h48; have HP8 := hid_intro (PU.fin HI.out hlt H30.out HXA.out HYD.out HSZ.out.2.2 (HT9.out.bl (by with_reducible repeat (first | exact Below.refl _ _ | refine vb_d ?_ | refine vb_a ?_ _))) (by rw [HCM.out]; skip) (by rw [HCM.out]; skip) HSV.out ho8 hg8 h48); clear ho8 hg8 h48)
         go_roundg (ls.length - (i + 1))
         case measure => omega
         case rel => exact ⟨i + 1, _, _, _, _, rfl, rfl, rfl, rfl, by go_num, HP8⟩
       ·have hi0I : ¬ (0 : Int) < (i : Int) := by omega
        have hi0b : decide ((0 : Int) < (i : Int)) = false := decide_eq_false hi0I
        clear hX kc HR hdn hb1 hs1 hv1 hva1 hsv1 hbr x0 x1 x2 x3 x4 x5 x6 
        go_wp2_with fail
        refine HDP.out.mono ?_
        rintro r2 w4 ⟨rfl, hb2⟩
        have HT6 := hid_intro (HT1.out.bl hb2)
        clear hb2
        obtain ⟨kc4, ky4⟩ := HKC.out w4 HT6.out.bel
        have HY4 := hid_intro ky4
        clear ky4
        go_wp2_with (first | (at_builtin; refine wp_app_rb rfl _ _ rfl w.heap.size vA (ArT ls i) rfl _ ls[i] rfl ?_ HNE.out HT6.out.thr.ra HY4.out HT6.out.bel.size ?_; (focus (have := HSZ.out; first | omega | (simp; omega))); intro v5 w5 hn5; have HT7 := hid_intro (HT6.out.arr hn5); clear hn5; obtain ⟨kc5, ky5⟩ := HKC.out w5 HT7.out.bel; have HY5 := hid_intro ky5; clear ky5) | fail)
        obtain ⟨qa, qb, hqa, hqb, hq1, hq2⟩ := ky_num i h30
        have HQ := hid_intro (And.intro hqa hqb)
        have H30 := hid_intro h30
        have kca : ∀ o, (w5.alloc o).cell? ⟨b, off + i, none⟩ = some (.slice la ls[i].length lc) := fun o => (HKC.out _ (vb_a HT7.out.bel o)).1
        clear hbA y0 y1 kc1 HDP HT1 hzb hdb hz hd hcI hmI cv1 cv2 hW1 hqa hqb
        go_region_law (first | (refine step_app_rb (by rfl) _ _ (by rfl) w.heap.size vO (ObT ls i) (by rfl) _ (kyT i) (by rfl) ?_ ?_ ?_ ?_ ?_ ?_; (focus (have := HSZ.out; unfold kyT; first | omega | (simp; omega))); (focus (unfold kyT; simp)); (focus (exact (HT7.out.bl (by with_reducible repeat (first | exact Below.refl _ _ | refine vb_d ?_ | refine vb_a ?_ _))).thr.ro)); (focus (refine byt_ky H30.out HQ.out.1 HQ.out.2 ?_; with_reducible repeat (first | exact Bj.new _ _ _ | refine Bj.dw ?_))); (focus (exact (HT7.out.bl (by with_reducible repeat (first | exact Below.refl _ _ | refine vb_d ?_ | refine vb_a ?_ _))).bel.size)); intro v6 w6 hn6; have HT8 := hid_intro (TV.obj (HT7.out.bl (by with_reducible repeat (first | exact Below.refl _ _ | refine vb_d ?_ | refine vb_a ?_ _))) hn6); clear hn6; obtain ⟨kc6, ky6⟩ := HKC.out w6 HT8.out.bel; have HY6 := hid_intro ky6; clear ky6) | (refine step_app_rb (by rfl) _ _ (by rfl) w.heap.size v6 ((ObT ls i) ++ kyT i) (by rfl) _ ls[i] (by rfl) ?_ HNE.out ?_ ?_ ?_ ?_; (focus (have := HSZ.out; unfold kyT; first | omega | (simp; omega))); (focus (exact (HT8.out.bl (by with_reducible repeat (first | exact Below.refl _ _ | refine vb_d ?_ | refine vb_a ?_ _))).thr.ro)); (focus (exact (HKC.out _ (vb_t HT8.out.bel (by with_reducible repeat (first | exact Below.refl _ _ | refine vb_d ?_ | refine vb_a ?_ _)))).2)); (focus (exact (HT8.out.bl (by with_reducible repeat (first | exact Below.refl _ _ | refine vb_d ?_ | refine vb_a ?_ _))).bel.size)); intro v7 w7 hn7; have HT9 := hid_intro (TV.obj (HT8.out.bl (by with_reducible repeat (first | exact Below.refl _ _ | refine vb_d ?_ | refine vb_a ?_ _))) hn7); clear hn7) | fail)
        all_goals
         have HCM : Hid (cmT i = []) := hid_intro (by unfold cmT; rw [if_neg hi0])
         have HPL : Hid (pvs.length = i) := hid_intro HI.out.len
         obtain ⟨i0, hi, hz0, hz1, hz2⟩ := info_parts infoV
         have hwI : IntKind.i64.wrap ((i : Int) + 1) = (i : Int) + 1 := by simp [IntKind.wrap, IntKind.bits, IntKind.signed]; omega
         clear kca hq1 hq2 HQ HY4 HY5 
         obtain ⟨x0, x1, x2, x3, x4, x5, x6⟩ := HT9.out.bj.c7
         go_wp2_with (at_builtin; refine wpList_append_own_at _ rfl _ _ 28 rfl w.heap.size 31 i0 _ 7 104 Tryz.underlying28 hi hz0 hz1 hz2 rfl (by decide) _ pvs.length (flat7 pvs) rfl ?_ ⟨w7.heap.size, 0, none⟩ 1 1 [.int .i64 k1, .bool n1, .string g1, .int .i64 e1, .string t1, .slice a1_ m1 cc1, .slice s1 o1 d1] rfl rfl ?_ (one7 _ _ _ _ _ _ _ _ _ _ _) ?_ ?_ ?_ ?_; (focus (exact (HT9.out.bl (by with_reducible repeat (first | exact Below.refl _ _ | refine vb_d ?_ | refine vb_a ?_ _))).thr.row)); (focus (exact bj_row7 (by with_reducible repeat (first | exact Bj.new _ _ _ | refine Bj.dw ?_)))); (focus (have := HPL.out; have := H30.out; unfold maxLen; omega)); (focus (have := HPL.out; have := H30.out; omega)); (focus (exact (HT9.out.bl (by with_reducible repeat (first | exact Below.refl _ _ | refine vb_d ?_ | refine vb_a ?_ _))).bel.size)); intro v8 w8 ho8 hg8 _ h48; have HP8 := hid_intro (PU.fin HI.out hlt H30.out HXA.out HYD.out HSZ.out.2.2 (HT9.out.bl (by with_reducible repeat (first | exact Below.refl _ _ | refine vb_d ?_ | refine vb_a ?_ _))) (by rw [HCM.out]; simp) (by rw [HCM.out]; simp) HSV.out ho8 hg8 h48); clear ho8 hg8 h48)
         go_roundg (ls.length - (i + 1))
         case measure => omega
         case rel => exact ⟨i + 1, _, _, _, _, rfl, rfl, rfl, rfl, by go_num, HP8⟩
   ·have hI1 : (i : Int) < (ls.length : Int) := by omega
    have hI2 : ¬ (i : Int) < 30 := by omega
    have HJ1 := hid_intro HI.out.reads.1
    have HJ2 := hid_intro HI.out.reads.2
    have HLN : Hid (pvs.length = i ∧ i ≤ 30 ∧ (pvs.map (·.1)).length = i) := hid_intro ⟨HI.out.len, HI.out.i30.1, by rw [List.length_map]; exact HI.out.len⟩
    have HSZ : Hid ((ArT ls i).length ≤ 300100 ∧ (ObT ls i).length ≤ 300300) := hid_intro (arT_len HI.out.i30.1 HI.out.sz)
    obtain ⟨T1, hT1⟩ : ∃ T1, wr.alloc (.cells #[.int .u8 93] 5) = T1 := ⟨_, rfl⟩
    have hbT : Below wr.heap.size wr T1 := hT1 ▸ vb_a (Below.refl _ _) _
    have HY1 : Hid (Lx.Byt T1 (.slice (some ⟨wr.heap.size, 0, none⟩) 1 1) [93]) := hid_intro (hT1 ▸ byt_lit1 wr 93 93 rfl _)
    have HR1 := hid_intro (HI.out.thr.bel hbT)
    have HE1 : Hid (Below w.heap.size w T1) := hid_intro (vb_t HI.out.bel hbT)
    clear hbT hcI hmI cv1 cv2 hW1
    go_wp2_with (at_builtin; refine wp_app_rb rfl _ _ rfl w.heap.size vA (ArT ls i) rfl _ [93] rfl ?_ ?_ HR1.out.ra HY1.out HE1.out.size ?_; (focus (have := HSZ.out; first | omega | (simp; omega))); (focus (simp)); intro v3 w3 hn3; have HR3 := hid_intro (HR1.out.arr hn3); have HE3 : Hid (Below w.heap.size w w3) := hid_intro (HE1.out.grown hn3.2.1 HE1.out.size (fun b e => (HR1.out.ra.lt b e).1)); have HY3 : Hid (Lx.Byt w3 v3 (ArT ls i ++ [93])) := hid_intro (byt_own hn3.1); clear hn3)
    refine (HRD.out (ArT ls i ++ [93]) v3 w3 HE3.out HY3.out).mono ?_
    rintro r4 w4 hr4
    rw [HJ1.out] at hr4
    obtain ⟨hb4, fa, rfl, hva⟩ := hr4
    obtain ⟨aa, ac, ka, kc, Ga0, hla, _, _⟩ := vi_rv hva
    rw [HLN.out.2.2] at hla
    simp only [List.length_nil] at hla
    rw [hla]
    obtain ⟨A1, hA1⟩ : ∃ A1, (w4.alloc (.cells #[.int .i64 5, .bool false, .string ⟨#[]⟩, .int .i64 0, .string ⟨#[]⟩, .slice aa i ac, .slice ka 0 kc] 31)).alloc (.cells #[.int .i64 1, .int .i64 0] 34) = A1 := ⟨_, rfl⟩
    have hbA : Below w4.heap.size w4 A1 := hA1 ▸ vb_a (vb_a (Below.refl _ _) _) _
    obtain ⟨T2, hT2⟩ : ∃ T2, A1.alloc (.cells #[.int .u8 125] 5) = T2 := ⟨_, rfl⟩
    have hb42 : Below w4.heap.size w4 T2 := vb_t hbA (hT2 ▸ vb_a (Below.refl _ _) _)
    have HB2 : Hid (Below w3.heap.size w3 T2) := hid_intro (vb_t hb4 hb42)
    have HY2 : Hid (Lx.Byt T2 (.slice (some ⟨w4.heap.size + 1 + 1, 0, none⟩) 1 1) [125]) := hid_intro ((show A1.heap.size = w4.heap.size + 1 + 1 by rw [← hA1]; simp) ▸ (show Lx.Byt T2 (.slice (some ⟨A1.heap.size, 0, none⟩) 1 1) [125] from hT2 ▸ byt_lit1 A1 125 125 rfl _))
    have HR2 := hid_intro (HR3.out.bel HB2.out)
    have HE2 : Hid (Below w.heap.size w T2) := hid_intro (vb_t HE3.out HB2.out)
    have HX9 : Hid (Bj T2 w4.heap.size #[.int .i64 5, .bool false, .string ⟨#[]⟩, .int .i64 0, .string ⟨#[]⟩, .slice aa i ac, .slice ka 0 kc]) := hid_intro ((show Bj A1 w4.heap.size _ from hA1 ▸ (Bj.new _ _ _).al _).bel (hT2 ▸ vb_a (Below.refl _ _) _))
    have HX10 : Hid (Bj T2 (w4.heap.size + 1) #[.int .i64 1, .int .i64 0]) := hid_intro ((show Bj A1 (w4.heap.size + 1) _ from hA1 ▸ Bj.new' _ _ _ _ (by simp)).bel (hT2 ▸ vb_a (Below.refl _ _) _))
    have HOB : Hid (∀ b, vO.ownBlock = some b → b < w3.heap.size ∧ b < w4.heap.size) := hid_intro (fun b e => ⟨(HR3.out.ro.lt b e).2, Nat.lt_of_lt_of_le (HR3.out.ro.lt b e).2 hb4.size⟩)
    have HVA2 : Hid (VI T2 (· < w3.heap.size) (.mk 5 false ⟨#[]⟩ 0 ⟨#[]⟩ (pvs.map (·.1)) []) fa) := hid_intro (hva.kept hb42)
    have HLA := hid_intro hla
    have HA1 := hid_intro hA1
    have HT2 := hid_intro hT2
    have HSA : Hid (A1.heap.size = w4.heap.size + 1 + 1) := hid_intro (by rw [← hA1]; simp)
    clear hva hb4 hbA hb42 hla hA1 hT2
    go_wp2_with (at_builtin; rw [HA1.out, HT2.out]; refine wp_app_rb rfl _ _ rfl w.heap.size vO (ObT ls i) rfl _ [125] rfl ?_ ?_ HR2.out.ro HY2.out HE2.out.size ?_; (focus (have := HSZ.out; first | omega | (simp; omega))); (focus (simp)); intro v5 w5 hn5; have HR5 := hid_intro (HR2.out.obj hn5); have HE5 : Hid (Below w.heap.size w w5) := hid_intro (HE2.out.grown hn5.2.1 HE2.out.size (fun b e => (HR2.out.ro.lt b e).1)); have HY5 : Hid (Lx.Byt w5 v5 (ObT ls i ++ [125])) := hid_intro (byt_own hn5.1); have HX9b : Hid (Bj w5 w4.heap.size #[.int .i64 5, .bool false, .string ⟨#[]⟩, .int .i64 0, .string ⟨#[]⟩, .slice aa i ac, .slice ka 0 kc]) := hid_intro (HX9.out.grown hn5.2.1 (fun e => by have := (HOB.out _ e).2; omega)); have HX10b : Hid (Bj w5 (w4.heap.size + 1) #[.int .i64 1, .int .i64 0]) := hid_intro (HX10.out.grown hn5.2.1 (fun e => by have := (HOB.out _ e).2; omega)); have HVA5 : Hid (VI w5 (fun _ => False) (.mk 5 false ⟨#[]⟩ 0 ⟨#[]⟩ (pvs.map (·.1)) []) fa) := hid_intro (HVA2.out.carry fun b hx hl => ⟨hn5.2.1.block b hl (fun e => hx (HOB.out b e.symm).1), id⟩); clear hn5)
    refine (HRD.out (ObT ls i ++ [125]) v5 w5 HE5.out HY5.out).mono ?_
    rintro r6 w6 hr6
    rw [HJ2.out] at hr6
    obtain ⟨hb6, fo, rfl, hvo⟩ := hr6
    obtain ⟨oa, oc, qa_, qc, Go0, hlo, _, _⟩ := vi_rv hvo
    rw [HLN.out.2.2] at hlo
    simp only [List.length_map, List.length_range] at hlo
    rw [hlo]
    obtain ⟨W, hW⟩ : ∃ W, ((w6.alloc (.cells #[.int .i64 6, .bool false, .string ⟨#[]⟩, .int .i64 0, .string ⟨#[]⟩, .slice oa i oc, .slice qa_ i qc] 31)).alloc (.cells #[.int .i64 1, .int .i64 0] 34)) = W := ⟨_, rfl⟩
    have hbW : Below w6.heap.size w6 W := hW ▸ vb_a (vb_a (Below.refl _ _) _) _
    have hb5W : Below w5.heap.size w5 W := vb_t hb6 hbW
    have HEW : Hid (Below w.heap.size w W) := hid_intro (vb_t HE5.out hb5W)
    have HX9 := hid_intro (HX9b.out.bel hb5W)
    have HX10 := hid_intro (HX10b.out.bel hb5W)
    have HX11 : Hid (Bj W w6.heap.size #[.int .i64 6, .bool false, .string ⟨#[]⟩, .int .i64 0, .string ⟨#[]⟩, .slice oa i oc, .slice qa_ i qc]) := hid_intro (hW ▸ (Bj.new _ _ _).al _)
    have HX12 : Hid (Bj W (w6.heap.size + 1) #[.int .i64 1, .int .i64 0]) := hid_intro (hW ▸ Bj.new' _ _ _ _ (by simp))
    obtain ⟨vb, vc, Gv, hvV, hrv⟩ := thr_rv (HR5.out.bel hb5W)
    obtain ⟨Ga, hra, _⟩ := vi_rv_of (HVA5.out.kept hb5W) HLA.out
    obtain ⟨Go, hro, hko⟩ := vi_rv_of (hvo.kept hbW) hlo
    rw [HLN.out.1] at hvV
    subst hvV
    have HRV := hid_intro hrv
    have HRA := hid_intro hra
    have HRO := hid_intro hro
    have HKO := hid_intro hko
    clear hvo hb6 hbW hb5W hlo hrv hra hro hko
    have HW := hid_intro hW
    obtain ⟨x0, x1, x2, x3, x4, x5, x6⟩ := (show Bj ((w6.alloc (.cells #[.int .i64 6, .bool false, .string ⟨#[]⟩, .int .i64 0, .string ⟨#[]⟩, .slice oa i oc, .slice qa_ i qc] 31)).alloc (.cells #[.int .i64 1, .int .i64 0] 34)) w4.heap.size #[.int .i64 5, .bool false, .string ⟨#[]⟩, .int .i64 0, .string ⟨#[]⟩, .slice aa i ac, .slice ka 0 kc] from hW.symm ▸ HX9.out).c7
    obtain ⟨y0, y1, y2, y3, y4, y5, y6⟩ := (show Bj ((w6.alloc (.cells #[.int .i64 6, .bool false, .string ⟨#[]⟩, .int .i64 0, .string ⟨#[]⟩, .slice oa i oc, .slice qa_ i qc] 31)).alloc (.cells #[.int .i64 1, .int .i64 0] 34)) w6.heap.size #[.int .i64 6, .bool false, .string ⟨#[]⟩, .int .i64 0, .string ⟨#[]⟩, .slice oa i oc, .slice qa_ i qc] from hW.symm ▸ HX11.out).c7
    obtain ⟨u0, u1⟩ := (show Bj ((w6.alloc (.cells #[.int .i64 6, .bool false, .string ⟨#[]⟩, .int .i64 0, .string ⟨#[]⟩, .slice oa i oc, .slice qa_ i qc] 31)).alloc (.cells #[.int .i64 1, .int .i64 0] 34)) (w4.heap.size + 1) #[.int .i64 1, .int .i64 0] from hW.symm ▸ HX10.out).c2
    obtain ⟨z0, z1⟩ := (show Bj ((w6.alloc (.cells #[.int .i64 6, .bool false, .string ⟨#[]⟩, .int .i64 0, .string ⟨#[]⟩, .slice oa i oc, .slice qa_ i qc] 31)).alloc (.cells #[.int .i64 1, .int .i64 0] 34)) (w6.heap.size + 1) #[.int .i64 1, .int .i64 0] from hW.symm ▸ HX12.out).c2
    clear hW
    have hi30I : (i : Int) ≤ 30 := by have := HLN.out.2.1; omega
    go_wp2_with fail
    clear x0 x1 x2 x3 x4 x5 x6 y0 y1 y2 y3 y4 y5 y6 u0 u1 z0 z1
    rw [HW.out]
    go_loopg [13] (i) (fun g s13 wq => ∃ (j : Nat), g = i - j ∧ s13 = .int .i64 (j : Int) ∧ Hid (Below W.heap.size W wq ∧ j ≤ i))
    case atStart => exact ⟨0, rfl, rfl, hid_intro ⟨Below.refl _ _, Nat.zero_le _⟩⟩
    case round =>
     obtain ⟨j, rfl, rfl, HQ⟩ := hrel
     by_cases hji : j < i
     ·have hjI : (j : Int) < (i : Int) := by omega
      have hul : (pvs.map (·.1)).length = i := HLN.out.2.2
      obtain ⟨b1, f1, rfl, hc1⟩ := HRA.out.at (i := j) (by omega)
      obtain ⟨b2, f2, rfl, hc2⟩ := HRO.out.at (i := j) (by omega)
      obtain ⟨b3, f3, rfl, hc3⟩ := HRV.out.at (i := j) (by omega)
      obtain ⟨b4, f4, rfl, hl4, hc4⟩ := HKO.out.resolve_left (fun e => by have := congrArg List.length e; simp at this; omega)
      have hk4 := hc4 j (by simp; omega)
      rw [List.getElem_map, List.getElem_range] at hk4
      obtain ⟨ea, eb, hea, heb, hq1, hq2⟩ := ky_num j (by omega)
      have HCV : Hid (∀ (X : World) (n : Nat), (convert 22 9 (.slice (some ⟨X.heap.size, 0, none⟩) 2 2)).run Tryz.prog ((X.alloc (.cells #[.int .u8 (ea : Int), .int .u8 (eb : Int)] 5)).drewN n) = .ok (.string (kyS j)) ((X.alloc (.cells #[.int .u8 (ea : Int), .int .u8 (eb : Int)] 5)).drewN n)) := hid_intro (fun X n => conv_ky X n j _ ea eb (by omega) hea heb rfl)
      have HS1 : Hid (∀ w', Below W.heap.size W w' → Calls Tryz.prog 11 #[.agg #[Ga j 0, Ga j 1, Ga j 2, Ga j 3, Ga j 4, Ga j 5, Ga j 6], .agg #[Gv j 0, Gv j 1, Gv j 2, Gv j 3, Gv j 4, Gv j 5, Gv j 6]] w' (fun r w3 => r = .returned (.bool true) ∧ Below W.heap.size W w3)) := hid_intro (fun w' hb => by
       have := same_refl _ (Ga j) (Gv j) w' ((HRA.out.2 j (by omega)).kept hb) ((HRV.out.2 j (by omega)).kept hb)
       exact this.mono fun r w3 hr => ⟨hr.1, vb_t hb hr.2⟩)
      have HS2 : Hid (∀ w', Below W.heap.size W w' → Calls Tryz.prog 11 #[.agg #[Go j 0, Go j 1, Go j 2, Go j 3, Go j 4, Go j 5, Go j 6], .agg #[Gv j 0, Gv j 1, Gv j 2, Gv j 3, Gv j 4, Gv j 5, Gv j 6]] w' (fun r w3 => r = .returned (.bool true) ∧ Below W.heap.size W w3)) := hid_intro (fun w' hb => by
       have := same_refl _ (Go j) (Gv j) w' ((HRO.out.2 j (by omega)).kept hb) ((HRV.out.2 j (by omega)).kept hb)
       exact this.mono fun r w3 hr => ⟨hr.1, vb_t hb hr.2⟩)
      obtain ⟨y, hy⟩ : ∃ y, kyS j = y := ⟨_, rfl⟩
      rw [hy] at hk4 HCV
      have heq : (y.toList == y.toList) = true := by simp
      have HS : Hid (∀ w', Below W.heap.size W w' → (w'.cell? ⟨b1, f1 + j * 7, none⟩ = some (Ga j 0) ∧ w'.cell? ⟨b1, f1 + j * 7 + 1, none⟩ = some (Ga j 1) ∧ w'.cell? ⟨b1, f1 + j * 7 + 2, none⟩ = some (Ga j 2) ∧ w'.cell? ⟨b1, f1 + j * 7 + 3, none⟩ = some (Ga j 3) ∧ w'.cell? ⟨b1, f1 + j * 7 + 4, none⟩ = some (Ga j 4) ∧ w'.cell? ⟨b1, f1 + j * 7 + 5, none⟩ = some (Ga j 5) ∧ w'.cell? ⟨b1, f1 + j * 7 + 6, none⟩ = some (Ga j 6)) ∧ (w'.cell? ⟨b2, f2 + j * 7, none⟩ = some (Go j 0) ∧ w'.cell? ⟨b2, f2 + j * 7 + 1, none⟩ = some (Go j 1) ∧ w'.cell? ⟨b2, f2 + j * 7 + 2, none⟩ = some (Go j 2) ∧ w'.cell? ⟨b2, f2 + j * 7 + 3, none⟩ = some (Go j 3) ∧ w'.cell? ⟨b2, f2 + j * 7 + 4, none⟩ = some (Go j 4) ∧ w'.cell? ⟨b2, f2 + j * 7 + 5, none⟩ = some (Go j 5) ∧ w'.cell? ⟨b2, f2 + j * 7 + 6, none⟩ = some (Go j 6)) ∧ (w'.cell? ⟨b3, f3 + j * 7, none⟩ = some (Gv j 0) ∧ w'.cell? ⟨b3, f3 + j * 7 + 1, none⟩ = some (Gv j 1) ∧ w'.cell? ⟨b3, f3 + j * 7 + 2, none⟩ = some (Gv j 2) ∧ w'.cell? ⟨b3, f3 + j * 7 + 3, none⟩ = some (Gv j 3) ∧ w'.cell? ⟨b3, f3 + j * 7 + 4, none⟩ = some (Gv j 4) ∧ w'.cell? ⟨b3, f3 + j * 7 + 5, none⟩ = some (Gv j 5) ∧ w'.cell? ⟨b3, f3 + j * 7 + 6, none⟩ = some (Gv j 6)) ∧ (w'.cell? ⟨w4.heap.size, 5, none⟩ = some (.slice (some ⟨b1, f1, none⟩) i ac) ∧ w'.cell? ⟨w6.heap.size, 5, none⟩ = some (.slice (some ⟨b2, f2, none⟩) i oc) ∧ w'.cell? ⟨w6.heap.size, 6, none⟩ = some (.slice (some ⟨b4, f4, none⟩) i qc) ∧ w'.cell? ⟨b4, f4 + j, none⟩ = some (.string y))) := hid_intro (fun w' hb => ⟨hc1 w' hb, hc2 w' hb, hc3 w' hb, (HX9.out.bel hb).cell 5, (HX11.out.bel hb).cell 5, (HX11.out.bel hb).cell 6, (hb.cell (p := ⟨b4, f4 + j, none⟩) hl4).trans hk4⟩)
      have hc := HQ.out.1
      clear hc1 hc2 hc3 hc4 hk4 hl4 hul hy hea heb hi30I HW
      have HQQ := hid_intro (And.intro hq1 hq2)
      clear hq1 hq2
      go_wp2_with fail
      go_region_held (fun w' => (w'.cell? ⟨b1, f1 + j * 7, none⟩ = some (Ga j 0) ∧ w'.cell? ⟨b1, f1 + j * 7 + 1, none⟩ = some (Ga j 1) ∧ w'.cell? ⟨b1, f1 + j * 7 + 2, none⟩ = some (Ga j 2) ∧ w'.cell? ⟨b1, f1 + j * 7 + 3, none⟩ = some (Ga j 3) ∧ w'.cell? ⟨b1, f1 + j * 7 + 4, none⟩ = some (Ga j 4) ∧ w'.cell? ⟨b1, f1 + j * 7 + 5, none⟩ = some (Ga j 5) ∧ w'.cell? ⟨b1, f1 + j * 7 + 6, none⟩ = some (Ga j 6)) ∧ (w'.cell? ⟨b2, f2 + j * 7, none⟩ = some (Go j 0) ∧ w'.cell? ⟨b2, f2 + j * 7 + 1, none⟩ = some (Go j 1) ∧ w'.cell? ⟨b2, f2 + j * 7 + 2, none⟩ = some (Go j 2) ∧ w'.cell? ⟨b2, f2 + j * 7 + 3, none⟩ = some (Go j 3) ∧ w'.cell? ⟨b2, f2 + j * 7 + 4, none⟩ = some (Go j 4) ∧ w'.cell? ⟨b2, f2 + j * 7 + 5, none⟩ = some (Go j 5) ∧ w'.cell? ⟨b2, f2 + j * 7 + 6, none⟩ = some (Go j 6)) ∧ (w'.cell? ⟨b3, f3 + j * 7, none⟩ = some (Gv j 0) ∧ w'.cell? ⟨b3, f3 + j * 7 + 1, none⟩ = some (Gv j 1) ∧ w'.cell? ⟨b3, f3 + j * 7 + 2, none⟩ = some (Gv j 2) ∧ w'.cell? ⟨b3, f3 + j * 7 + 3, none⟩ = some (Gv j 3) ∧ w'.cell? ⟨b3, f3 + j * 7 + 4, none⟩ = some (Gv j 4) ∧ w'.cell? ⟨b3, f3 + j * 7 + 5, none⟩ = some (Gv j 5) ∧ w'.cell? ⟨b3, f3 + j * 7 + 6, none⟩ = some (Gv j 6)) ∧ (w'.cell? ⟨w4.heap.size, 5, none⟩ = some (.slice (some ⟨b1, f1, none⟩) i ac) ∧ w'.cell? ⟨w6.heap.size, 5, none⟩ = some (.slice (some ⟨b2, f2, none⟩) i oc) ∧ w'.cell? ⟨w6.heap.size, 6, none⟩ = some (.slice (some ⟨b4, f4, none⟩) i qc) ∧ w'.cell? ⟨b4, f4 + j, none⟩ = some (.string y))) (first | (refine HS.out _ ?_; (with_reducible repeat (first | exact hc | refine vb_d ?_ | refine vb_a ?_ _)); done) | fail) (first | (go_at_call 11; (have hm2 := hmark); refine (HS2.out _ ?_).mono ?_; (with_reducible repeat (first | exact hc | refine vb_d ?_ | refine vb_a ?_ _)); rintro r9 w9 ⟨rfl, hc⟩; obtain ⟨hq1, hq2⟩ := HQQ.out; have cv0 : (convert 22 9 (.slice (some ⟨w9.heap.size, 0, none⟩) 2 2)).run Tryz.prog (w9.alloc (.cells #[.int .u8 (ea : Int), .int .u8 (eb : Int)] 5)) = .ok (.string y) (w9.alloc (.cells #[.int .u8 (ea : Int), .int .u8 (eb : Int)] 5)) := HCV.out w9 0; have cv1 : (convert 22 9 (.slice (some ⟨w9.heap.size, 0, none⟩) 2 2)).run Tryz.prog (w9.alloc (.cells #[.int .u8 (ea : Int), .int .u8 (eb : Int)] 5)).drew = .ok (.string y) (w9.alloc (.cells #[.int .u8 (ea : Int), .int .u8 (eb : Int)] 5)).drew := HCV.out w9 1; have cv2 : (convert 22 9 (.slice (some ⟨w9.heap.size, 0, none⟩) 2 2)).run Tryz.prog (w9.alloc (.cells #[.int .u8 (ea : Int), .int .u8 (eb : Int)] 5)).drew.drew = .ok (.string y) (w9.alloc (.cells #[.int .u8 (ea : Int), .int .u8 (eb : Int)] 5)).drew.drew := HCV.out w9 2; have cv3 : (convert 22 9 (.slice (some ⟨w9.heap.size, 0, none⟩) 2 2)).run Tryz.prog (w9.alloc (.cells #[.int .u8 (ea : Int), .int .u8 (eb : Int)] 5)).drew.drew.drew = .ok (.string y) (w9.alloc (.cells #[.int .u8 (ea : Int), .int .u8 (eb : Int)] 5)).drew.drew.drew := HCV.out w9 3) | (go_at_call 11; refine (HS1.out _ ?_).mono ?_; (with_reducible repeat (first | exact hc | refine vb_d ?_ | refine vb_a ?_ _)); rintro r8 w8 ⟨rfl, hc⟩; have hmark : True := True.intro) | fail)
      all_goals
       clear HS HS1 HS2 HCV HQQ
       have hj30 : (j : Int) ≤ 30 := by have := HLN.out.2.1; omega
       go_wp2_with fail
       go_roundg (i - (j + 1))
       case measure => omega
       case rel => exact ⟨j + 1, rfl, by go_num, hid_intro ⟨by with_reducible repeat (first | exact hc | refine vb_d ?_ | refine vb_a ?_ _), by omega⟩⟩
     ·have hjI : ¬ (j : Int) < (i : Int) := by omega
      go_wp2_with (go_at_call 14; refine (HH.out _ (vb_t HEW.out HQ.out.1)).mono ?_; rintro r3 w9 ⟨rfl, h3⟩)
      rw [HP.out]
      exact ⟨rfl, h3⟩
  ·have hI1 : ¬ (i : Int) < (ls.length : Int) := by omega
   have HJ1 := hid_intro HI.out.reads.1
   have HJ2 := hid_intro HI.out.reads.2
   have HLN : Hid (pvs.length = i ∧ i ≤ 30 ∧ (pvs.map (·.1)).length = i) := hid_intro ⟨HI.out.len, HI.out.i30.1, by rw [List.length_map]; exact HI.out.len⟩
   have HSZ : Hid ((ArT ls i).length ≤ 300100 ∧ (ObT ls i).length ≤ 300300) := hid_intro (arT_len HI.out.i30.1 HI.out.sz)
   obtain ⟨T1, hT1⟩ : ∃ T1, wr.alloc (.cells #[.int .u8 93] 5) = T1 := ⟨_, rfl⟩
   have hbT : Below wr.heap.size wr T1 := hT1 ▸ vb_a (Below.refl _ _) _
   have HY1 : Hid (Lx.Byt T1 (.slice (some ⟨wr.heap.size, 0, none⟩) 1 1) [93]) := hid_intro (hT1 ▸ byt_lit1 wr 93 93 rfl _)
   have HR1 := hid_intro (HI.out.thr.bel hbT)
   have HE1 : Hid (Below w.heap.size w T1) := hid_intro (vb_t HI.out.bel hbT)
   clear hbT hcI hmI cv1 cv2 hW1
   go_wp2_with (at_builtin; refine wp_app_rb rfl _ _ rfl w.heap.size vA (ArT ls i) rfl _ [93] rfl ?_ ?_ HR1.out.ra HY1.out HE1.out.size ?_; (focus (have := HSZ.out; first | omega | (simp; omega))); (focus (simp)); intro v3 w3 hn3; have HR3 := hid_intro (HR1.out.arr hn3); have HE3 : Hid (Below w.heap.size w w3) := hid_intro (HE1.out.grown hn3.2.1 HE1.out.size (fun b e => (HR1.out.ra.lt b e).1)); have HY3 : Hid (Lx.Byt w3 v3 (ArT ls i ++ [93])) := hid_intro (byt_own hn3.1); clear hn3)
   refine (HRD.out (ArT ls i ++ [93]) v3 w3 HE3.out HY3.out).mono ?_
   rintro r4 w4 hr4
   rw [HJ1.out] at hr4
   obtain ⟨hb4, fa, rfl, hva⟩ := hr4
   obtain ⟨aa, ac, ka, kc, Ga0, hla, _, _⟩ := vi_rv hva
   rw [HLN.out.2.2] at hla
   simp only [List.length_nil] at hla
   rw [hla]
   obtain ⟨A1, hA1⟩ : ∃ A1, (w4.alloc (.cells #[.int .i64 5, .bool false, .string ⟨#[]⟩, .int .i64 0, .string ⟨#[]⟩, .slice aa i ac, .slice ka 0 kc] 31)).alloc (.cells #[.int .i64 1, .int .i64 0] 34) = A1 := ⟨_, rfl⟩
   have hbA : Below w4.heap.size w4 A1 := hA1 ▸ vb_a (vb_a (Below.refl _ _) _) _
   obtain ⟨T2, hT2⟩ : ∃ T2, A1.alloc (.cells #[.int .u8 125] 5) = T2 := ⟨_, rfl⟩
   have hb42 : Below w4.heap.size w4 T2 := vb_t hbA (hT2 ▸ vb_a (Below.refl _ _) _)
   have HB2 : Hid (Below w3.heap.size w3 T2) := hid_intro (vb_t hb4 hb42)
   have HY2 : Hid (Lx.Byt T2 (.slice (some ⟨w4.heap.size + 1 + 1, 0, none⟩) 1 1) [125]) := hid_intro ((show A1.heap.size = w4.heap.size + 1 + 1 by rw [← hA1]; simp) ▸ (show Lx.Byt T2 (.slice (some ⟨A1.heap.size, 0, none⟩) 1 1) [125] from hT2 ▸ byt_lit1 A1 125 125 rfl _))
   have HR2 := hid_intro (HR3.out.bel HB2.out)
   have HE2 : Hid (Below w.heap.size w T2) := hid_intro (vb_t HE3.out HB2.out)
   have HX9 : Hid (Bj T2 w4.heap.size #[.int .i64 5, .bool false, .string ⟨#[]⟩, .int .i64 0, .string ⟨#[]⟩, .slice aa i ac, .slice ka 0 kc]) := hid_intro ((show Bj A1 w4.heap.size _ from hA1 ▸ (Bj.new _ _ _).al _).bel (hT2 ▸ vb_a (Below.refl _ _) _))
   have HX10 : Hid (Bj T2 (w4.heap.size + 1) #[.int .i64 1, .int .i64 0]) := hid_intro ((show Bj A1 (w4.heap.size + 1) _ from hA1 ▸ Bj.new' _ _ _ _ (by simp)).bel (hT2 ▸ vb_a (Below.refl _ _) _))
   have HOB : Hid (∀ b, vO.ownBlock = some b → b < w3.heap.size ∧ b < w4.heap.size) := hid_intro (fun b e => ⟨(HR3.out.ro.lt b e).2, Nat.lt_of_lt_of_le (HR3.out.ro.lt b e).2 hb4.size⟩)
   have HVA2 : Hid (VI T2 (· < w3.heap.size) (.mk 5 false ⟨#[]⟩ 0 ⟨#[]⟩ (pvs.map (·.1)) []) fa) := hid_intro (hva.kept hb42)
   have HLA := hid_intro hla
   have HA1 := hid_intro hA1
   have HT2 := hid_intro hT2
   have HSA : Hid (A1.heap.size = w4.heap.size + 1 + 1) := hid_intro (by rw [← hA1]; simp)
   clear hva hb4 hbA hb42 hla hA1 hT2
   go_wp2_with (at_builtin; rw [HA1.out, HT2.out]; refine wp_app_rb rfl _ _ rfl w.heap.size vO (ObT ls i) rfl _ [125] rfl ?_ ?_ HR2.out.ro HY2.out HE2.out.size ?_; (focus (have := HSZ.out; first | omega | (simp; omega))); (focus (simp)); intro v5 w5 hn5; have HR5 := hid_intro (HR2.out.obj hn5); have HE5 : Hid (Below w.heap.size w w5) := hid_intro (HE2.out.grown hn5.2.1 HE2.out.size (fun b e => (HR2.out.ro.lt b e).1)); have HY5 : Hid (Lx.Byt w5 v5 (ObT ls i ++ [125])) := hid_intro (byt_own hn5.1); have HX9b : Hid (Bj w5 w4.heap.size #[.int .i64 5, .bool false, .string ⟨#[]⟩, .int .i64 0, .string ⟨#[]⟩, .slice aa i ac, .slice ka 0 kc]) := hid_intro (HX9.out.grown hn5.2.1 (fun e => by have := (HOB.out _ e).2; omega)); have HX10b : Hid (Bj w5 (w4.heap.size + 1) #[.int .i64 1, .int .i64 0]) := hid_intro (HX10.out.grown hn5.2.1 (fun e => by have := (HOB.out _ e).2; omega)); have HVA5 : Hid (VI w5 (fun _ => False) (.mk 5 false ⟨#[]⟩ 0 ⟨#[]⟩ (pvs.map (·.1)) []) fa) := hid_intro (HVA2.out.carry fun b hx hl => ⟨hn5.2.1.block b hl (fun e => hx (HOB.out b e.symm).1), id⟩); clear hn5)
   refine (HRD.out (ObT ls i ++ [125]) v5 w5 HE5.out HY5.out).mono ?_
   rintro r6 w6 hr6
   rw [HJ2.out] at hr6
   obtain ⟨hb6, fo, rfl, hvo⟩ := hr6
   obtain ⟨oa, oc, qa_, qc, Go0, hlo, _, _⟩ := vi_rv hvo
   rw [HLN.out.2.2] at hlo
   simp only [List.length_map, List.length_range] at hlo
   rw [hlo]
   obtain ⟨W, hW⟩ : ∃ W, ((w6.alloc (.cells #[.int .i64 6, .bool false, .string ⟨#[]⟩, .int .i64 0, .string ⟨#[]⟩, .slice oa i oc, .slice qa_ i qc] 31)).alloc (.cells #[.int .i64 1, .int .i64 0] 34)) = W := ⟨_, rfl⟩
   have hbW : Below w6.heap.size w6 W := hW ▸ vb_a (vb_a (Below.refl _ _) _) _
   have hb5W : Below w5.heap.size w5 W := vb_t hb6 hbW
   have HEW : Hid (Below w.heap.size w W) := hid_intro (vb_t HE5.out hb5W)
   have HX9 := hid_intro (HX9b.out.bel hb5W)
   have HX10 := hid_intro (HX10b.out.bel hb5W)
   have HX11 : Hid (Bj W w6.heap.size #[.int .i64 6, .bool false, .string ⟨#[]⟩, .int .i64 0, .string ⟨#[]⟩, .slice oa i oc, .slice qa_ i qc]) := hid_intro (hW ▸ (Bj.new _ _ _).al _)
   have HX12 : Hid (Bj W (w6.heap.size + 1) #[.int .i64 1, .int .i64 0]) := hid_intro (hW ▸ Bj.new' _ _ _ _ (by simp))
   obtain ⟨vb, vc, Gv, hvV, hrv⟩ := thr_rv (HR5.out.bel hb5W)
   obtain ⟨Ga, hra, _⟩ := vi_rv_of (HVA5.out.kept hb5W) HLA.out
   obtain ⟨Go, hro, hko⟩ := vi_rv_of (hvo.kept hbW) hlo
   rw [HLN.out.1] at hvV
   subst hvV
   have HRV := hid_intro hrv
   have HRA := hid_intro hra
   have HRO := hid_intro hro
   have HKO := hid_intro hko
   clear hvo hb6 hbW hb5W hlo hrv hra hro hko
   have HW := hid_intro hW
   obtain ⟨x0, x1, x2, x3, x4, x5, x6⟩ := (show Bj ((w6.alloc (.cells #[.int .i64 6, .bool false, .string ⟨#[]⟩, .int .i64 0, .string ⟨#[]⟩, .slice oa i oc, .slice qa_ i qc] 31)).alloc (.cells #[.int .i64 1, .int .i64 0] 34)) w4.heap.size #[.int .i64 5, .bool false, .string ⟨#[]⟩, .int .i64 0, .string ⟨#[]⟩, .slice aa i ac, .slice ka 0 kc] from hW.symm ▸ HX9.out).c7
   obtain ⟨y0, y1, y2, y3, y4, y5, y6⟩ := (show Bj ((w6.alloc (.cells #[.int .i64 6, .bool false, .string ⟨#[]⟩, .int .i64 0, .string ⟨#[]⟩, .slice oa i oc, .slice qa_ i qc] 31)).alloc (.cells #[.int .i64 1, .int .i64 0] 34)) w6.heap.size #[.int .i64 6, .bool false, .string ⟨#[]⟩, .int .i64 0, .string ⟨#[]⟩, .slice oa i oc, .slice qa_ i qc] from hW.symm ▸ HX11.out).c7
   obtain ⟨u0, u1⟩ := (show Bj ((w6.alloc (.cells #[.int .i64 6, .bool false, .string ⟨#[]⟩, .int .i64 0, .string ⟨#[]⟩, .slice oa i oc, .slice qa_ i qc] 31)).alloc (.cells #[.int .i64 1, .int .i64 0] 34)) (w4.heap.size + 1) #[.int .i64 1, .int .i64 0] from hW.symm ▸ HX10.out).c2
   obtain ⟨z0, z1⟩ := (show Bj ((w6.alloc (.cells #[.int .i64 6, .bool false, .string ⟨#[]⟩, .int .i64 0, .string ⟨#[]⟩, .slice oa i oc, .slice qa_ i qc] 31)).alloc (.cells #[.int .i64 1, .int .i64 0] 34)) (w6.heap.size + 1) #[.int .i64 1, .int .i64 0] from hW.symm ▸ HX12.out).c2
   clear hW
   have hi30I : (i : Int) ≤ 30 := by have := HLN.out.2.1; omega
   go_wp2_with fail
   clear x0 x1 x2 x3 x4 x5 x6 y0 y1 y2 y3 y4 y5 y6 u0 u1 z0 z1
   rw [HW.out]
   go_loopg [13] (i) (fun g s13 wq => ∃ (j : Nat), g = i - j ∧ s13 = .int .i64 (j : Int) ∧ Hid (Below W.heap.size W wq ∧ j ≤ i))
   case atStart => exact ⟨0, rfl, rfl, hid_intro ⟨Below.refl _ _, Nat.zero_le _⟩⟩
   case round =>
    obtain ⟨j, rfl, rfl, HQ⟩ := hrel
    by_cases hji : j < i
    ·have hjI : (j : Int) < (i : Int) := by omega
     have hul : (pvs.map (·.1)).length = i := HLN.out.2.2
     obtain ⟨b1, f1, rfl, hc1⟩ := HRA.out.at (i := j) (by omega)
     obtain ⟨b2, f2, rfl, hc2⟩ := HRO.out.at (i := j) (by omega)
     obtain ⟨b3, f3, rfl, hc3⟩ := HRV.out.at (i := j) (by omega)
     obtain ⟨b4, f4, rfl, hl4, hc4⟩ := HKO.out.resolve_left (fun e => by have := congrArg List.length e; simp at this; omega)
     have hk4 := hc4 j (by simp; omega)
     rw [List.getElem_map, List.getElem_range] at hk4
     obtain ⟨ea, eb, hea, heb, hq1, hq2⟩ := ky_num j (by omega)
     have HCV : Hid (∀ (X : World) (n : Nat), (convert 22 9 (.slice (some ⟨X.heap.size, 0, none⟩) 2 2)).run Tryz.prog ((X.alloc (.cells #[.int .u8 (ea : Int), .int .u8 (eb : Int)] 5)).drewN n) = .ok (.string (kyS j)) ((X.alloc (.cells #[.int .u8 (ea : Int), .int .u8 (eb : Int)] 5)).drewN n)) := hid_intro (fun X n => conv_ky X n j _ ea eb (by omega) hea heb rfl)
     have HS1 : Hid (∀ w', Below W.heap.size W w' → Calls Tryz.prog 11 #[.agg #[Ga j 0, Ga j 1, Ga j 2, Ga j 3, Ga j 4, Ga j 5, Ga j 6], .agg #[Gv j 0, Gv j 1, Gv j 2, Gv j 3, Gv j 4, Gv j 5, Gv j 6]] w' (fun r w3 => r = .returned (.bool true) ∧ Below W.heap.size W w3)) := hid_intro (fun w' hb => by
      have := same_refl _ (Ga j) (Gv j) w' ((HRA.out.2 j (by omega)).kept hb) ((HRV.out.2 j (by omega)).kept hb)
      exact this.mono fun r w3 hr => ⟨hr.1, vb_t hb hr.2⟩)
     have HS2 : Hid (∀ w', Below W.heap.size W w' → Calls Tryz.prog 11 #[.agg #[Go j 0, Go j 1, Go j 2, Go j 3, Go j 4, Go j 5, Go j 6], .agg #[Gv j 0, Gv j 1, Gv j 2, Gv j 3, Gv j 4, Gv j 5, Gv j 6]] w' (fun r w3 => r = .returned (.bool true) ∧ Below W.heap.size W w3)) := hid_intro (fun w' hb => by
      have := same_refl _ (Go j) (Gv j) w' ((HRO.out.2 j (by omega)).kept hb) ((HRV.out.2 j (by omega)).kept hb)
      exact this.mono fun r w3 hr => ⟨hr.1, vb_t hb hr.2⟩)
     obtain ⟨y, hy⟩ : ∃ y, kyS j = y := ⟨_, rfl⟩
     rw [hy] at hk4 HCV
     have heq : (y.toList == y.toList) = true := by simp
     have HS : Hid (∀ w', Below W.heap.size W w' → (w'.cell? ⟨b1, f1 + j * 7, none⟩ = some (Ga j 0) ∧ w'.cell? ⟨b1, f1 + j * 7 + 1, none⟩ = some (Ga j 1) ∧ w'.cell? ⟨b1, f1 + j * 7 + 2, none⟩ = some (Ga j 2) ∧ w'.cell? ⟨b1, f1 + j * 7 + 3, none⟩ = some (Ga j 3) ∧ w'.cell? ⟨b1, f1 + j * 7 + 4, none⟩ = some (Ga j 4) ∧ w'.cell? ⟨b1, f1 + j * 7 + 5, none⟩ = some (Ga j 5) ∧ w'.cell? ⟨b1, f1 + j * 7 + 6, none⟩ = some (Ga j 6)) ∧ (w'.cell? ⟨b2, f2 + j * 7, none⟩ = some (Go j 0) ∧ w'.cell? ⟨b2, f2 + j * 7 + 1, none⟩ = some (Go j 1) ∧ w'.cell? ⟨b2, f2 + j * 7 + 2, none⟩ = some (Go j 2) ∧ w'.cell? ⟨b2, f2 + j * 7 + 3, none⟩ = some (Go j 3) ∧ w'.cell? ⟨b2, f2 + j * 7 + 4, none⟩ = some (Go j 4) ∧ w'.cell? ⟨b2, f2 + j * 7 + 5, none⟩ = some (Go j 5) ∧ w'.cell? ⟨b2, f2 + j * 7 + 6, none⟩ = some (Go j 6)) ∧ (w'.cell? ⟨b3, f3 + j * 7, none⟩ = some (Gv j 0) ∧ w'.cell? ⟨b3, f3 + j * 7 + 1, none⟩ = some (Gv j 1) ∧ w'.cell? ⟨b3, f3 + j * 7 + 2, none⟩ = some (Gv j 2) ∧ w'.cell? ⟨b3, f3 + j * 7 + 3, none⟩ = some (Gv j 3) ∧ w'.cell? ⟨b3, f3 + j * 7 + 4, none⟩ = some (Gv j 4) ∧ w'.cell? ⟨b3, f3 + j * 7 + 5, none⟩ = some (Gv j 5) ∧ w'.cell? ⟨b3, f3 + j * 7 + 6, none⟩ = some (Gv j 6)) ∧ (w'.cell? ⟨w4.heap.size, 5, none⟩ = some (.slice (some ⟨b1, f1, none⟩) i ac) ∧ w'.cell? ⟨w6.heap.size, 5, none⟩ = some (.slice (some ⟨b2, f2, none⟩) i oc) ∧ w'.cell? ⟨w6.heap.size, 6, none⟩ = some (.slice (some ⟨b4, f4, none⟩) i qc) ∧ w'.cell? ⟨b4, f4 + j, none⟩ = some (.string y))) := hid_intro (fun w' hb => ⟨hc1 w' hb, hc2 w' hb, hc3 w' hb, (HX9.out.bel hb).cell 5, (HX11.out.bel hb).cell 5, (HX11.out.bel hb).cell 6, (hb.cell (p := ⟨b4, f4 + j, none⟩) hl4).trans hk4⟩)
     have hc := HQ.out.1
     clear hc1 hc2 hc3 hc4 hk4 hl4 hul hy hea heb hi30I HW
     have HQQ := hid_intro (And.intro hq1 hq2)
     clear hq1 hq2
     go_wp2_with fail
     go_region_held (fun w' => (w'.cell? ⟨b1, f1 + j * 7, none⟩ = some (Ga j 0) ∧ w'.cell? ⟨b1, f1 + j * 7 + 1, none⟩ = some (Ga j 1) ∧ w'.cell? ⟨b1, f1 + j * 7 + 2, none⟩ = some (Ga j 2) ∧ w'.cell? ⟨b1, f1 + j * 7 + 3, none⟩ = some (Ga j 3) ∧ w'.cell? ⟨b1, f1 + j * 7 + 4, none⟩ = some (Ga j 4) ∧ w'.cell? ⟨b1, f1 + j * 7 + 5, none⟩ = some (Ga j 5) ∧ w'.cell? ⟨b1, f1 + j * 7 + 6, none⟩ = some (Ga j 6)) ∧ (w'.cell? ⟨b2, f2 + j * 7, none⟩ = some (Go j 0) ∧ w'.cell? ⟨b2, f2 + j * 7 + 1, none⟩ = some (Go j 1) ∧ w'.cell? ⟨b2, f2 + j * 7 + 2, none⟩ = some (Go j 2) ∧ w'.cell? ⟨b2, f2 + j * 7 + 3, none⟩ = some (Go j 3) ∧ w'.cell? ⟨b2, f2 + j * 7 + 4, none⟩ = some (Go j 4) ∧ w'.cell? ⟨b2, f2 + j * 7 + 5, none⟩ = some (Go j 5) ∧ w'.cell? ⟨b2, f2 + j * 7 + 6, none⟩ = some (Go j 6)) ∧ (w'.cell? ⟨b3, f3 + j * 7, none⟩ = some (Gv j 0) ∧ w'.cell? ⟨b3, f3 + j * 7 + 1, none⟩ = some (Gv j 1) ∧ w'.cell? ⟨b3, f3 + j * 7 + 2, none⟩ = some (Gv j 2) ∧ w'.cell? ⟨b3, f3 + j * 7 + 3, none⟩ = some (Gv j 3) ∧ w'.cell? ⟨b3, f3 + j * 7 + 4, none⟩ = some (Gv j 4) ∧ w'.cell? ⟨b3, f3 + j * 7 + 5, none⟩ = some (Gv j 5) ∧ w'.cell? ⟨b3, f3 + j * 7 + 6, none⟩ = some (Gv j 6)) ∧ (w'.cell? ⟨w4.heap.size, 5, none⟩ = some (.slice (some ⟨b1, f1, none⟩) i ac) ∧ w'.cell? ⟨w6.heap.size, 5, none⟩ = some (.slice (some ⟨b2, f2, none⟩) i oc) ∧ w'.cell? ⟨w6.heap.size, 6, none⟩ = some (.slice (some ⟨b4, f4, none⟩) i qc) ∧ w'.cell? ⟨b4, f4 + j, none⟩ = some (.string y))) (first | (refine HS.out _ ?_; (with_reducible repeat (first | exact hc | refine vb_d ?_ | refine vb_a ?_ _)); done) | fail) (first | (go_at_call 11; (have hm2 := hmark); refine (HS2.out _ ?_).mono ?_; (with_reducible repeat (first | exact hc | refine vb_d ?_ | refine vb_a ?_ _)); rintro r9 w9 ⟨rfl, hc⟩; obtain ⟨hq1, hq2⟩ := HQQ.out; have cv0 : (convert 22 9 (.slice (some ⟨w9.heap.size, 0, none⟩) 2 2)).run Tryz.prog (w9.alloc (.cells #[.int .u8 (ea : Int), .int .u8 (eb : Int)] 5)) = .ok (.string y) (w9.alloc (.cells #[.int .u8 (ea : Int), .int .u8 (eb : Int)] 5)) := HCV.out w9 0; have cv1 : (convert 22 9 (.slice (some ⟨w9.heap.size, 0, none⟩) 2 2)).run Tryz.prog (w9.alloc (.cells #[.int .u8 (ea : Int), .int .u8 (eb : Int)] 5)).drew = .ok (.string y) (w9.alloc (.cells #[.int .u8 (ea : Int), .int .u8 (eb : Int)] 5)).drew := HCV.out w9 1; have cv2 : (convert 22 9 (.slice (some ⟨w9.heap.size, 0, none⟩) 2 2)).run Tryz.prog (w9.alloc (.cells #[.int .u8 (ea : Int), .int .u8 (eb : Int)] 5)).drew.drew = .ok (.string y) (w9.alloc (.cells #[.int .u8 (ea : Int), .int .u8 (eb : Int)] 5)).drew.drew := HCV.out w9 2; have cv3 : (convert 22 9 (.slice (some ⟨w9.heap.size, 0, none⟩) 2 2)).run Tryz.prog (w9.alloc (.cells #[.int .u8 (ea : Int), .int .u8 (eb : Int)] 5)).drew.drew.drew = .ok (.string y) (w9.alloc (.cells #[.int .u8 (ea : Int), .int .u8 (eb : Int)] 5)).drew.drew.drew := HCV.out w9 3) | (go_at_call 11; refine (HS1.out _ ?_).mono ?_; (with_reducible repeat (first | exact hc | refine vb_d ?_ | refine vb_a ?_ _)); rintro r8 w8 ⟨rfl, hc⟩; have hmark : True := True.intro) | fail)
     all_goals
      clear HS HS1 HS2 HCV HQQ
      have hj30 : (j : Int) ≤ 30 := by have := HLN.out.2.1; omega
      go_wp2_with fail
      go_roundg (i - (j + 1))
      case measure => omega
      case rel => exact ⟨j + 1, rfl, by go_num, hid_intro ⟨by with_reducible repeat (first | exact hc | refine vb_d ?_ | refine vb_a ?_ _), by omega⟩⟩
    ·have hjI : ¬ (j : Int) < (i : Int) := by omega
     go_wp2_with (go_at_call 14; refine (HH.out _ (vb_t HEW.out HQ.out.1)).mono ?_; rintro r3 w9 ⟨rfl, h3⟩)
     rw [HP.out]
     exact ⟨rfl, h3⟩
end Go.Proofs.YtjakgdaodlgeaaaGreatDoor
