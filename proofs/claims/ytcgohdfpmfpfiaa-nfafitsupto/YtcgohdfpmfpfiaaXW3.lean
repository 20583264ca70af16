/-
  NfaFits answers true. Conditions: nothing in the tree is longer than 2^20.
-/
import Derived.Test.YtcgohdfpmfpfiaaXBI
import Derived.Test.YtcgohdfpmfpfiaaXH2
import Derived.Test.YtcgohdfpmfpfiaaXC3
namespace Go.Proofs.Ytcgohdfpmfpfiaa
open Go.RowKit
attribute [local go_sem] setCell_drewN alloc_drewN

theorem nfaL_fits (t : RX) (hy : YOK t) : nfaB (nfaL t) = true := by
  have hl := nfaL_len t hy.len
  unfold nfaB
  rw [decide_eq_true (by omega : (nfaL t).length ≠ 0), Bool.true_and, List.all_eq_true]
  intro s hs
  rw [hl]
  rcases List.mem_append.1 hs with hs | hs
  · obtain ⟨g1, g2, g3, g4, g5, g6, g7, g8, g9⟩ := hy.good (szX t) 0 (by omega) s hs
    rw [st_yes (s := s) (n := ((szX t + 1 : Nat) : Int)) ⟨g1, by omega, g3, by omega, g5, by omega, fun h => by omega, g7, fun h => by rw [g8 h]; rfl⟩]
    exact g9
  · obtain rfl := List.mem_singleton.1 hs
    rw [st_yes (n := ((szX t + 1 : Nat) : Int)) ⟨by simp, by simp, by simp, by simp, by simp, by simp, fun _ => rfl, fun _ => rfl, fun _ => rfl⟩]
    exact rg_nil
theorem nfaL_kind (t : RX) (hy : YOK t) (i : Nat) (hi : i < szX t + 1) : ((sa (nfaL t) i).k == 7) = ((i : Int) == ((szX t + 1 : Nat) : Int) - 1) := by
  have hl := nfaL_len t hy.len
  by_cases h : i < szX t
  · have hm : sa (nfaL t) i ∈ bld t 0 := by
      unfold sa nfaL
      rw [List.getD_eq_getElem?_getD, List.getElem?_append_left (by rw [hy.len]; exact h), List.getElem?_eq_getElem (by rw [hy.len]; exact h)]
      exact List.getElem_mem _
    obtain ⟨g1, g2, _⟩ := hy.good (szX t) 0 (by omega) _ hm
    rw [beq_eq_false_iff_ne.2 (by omega), beq_eq_false_iff_ne.2 (by omega)]
  · obtain rfl : i = szX t := by omega
    have e : sa (nfaL t) (szX t) = ⟨7, [], 0, 0⟩ := by
      unfold sa nfaL
      rw [List.getD_eq_getElem?_getD, List.getElem?_append_right (by rw [hy.len]; exact Nat.le_refl _), hy.len, Nat.sub_self]; rfl
    rw [e, beq_iff_eq.2 (by omega : (szX t : Int) = ((szX t + 1 : Nat) : Int) - 1)]; rfl
set_option maxRecDepth 100000 in
set_option maxHeartbeats 6400000 in
theorem fits_walk (t : RX) (f : Nat → Value) (most : Int) (hm : I64 most) (w : World) (Y : Nat → Prop) (hbd : BdX 1048576 t) (hv : XI w Y t f) :
    Calls Try.prog 4 #[xa f, .int .i64 most] w fun e w' => e = .returned (.bool true) ∧ Below w.heap.size w w' := by
  obtain ⟨k, a1, n1, c1, lo, hi, z, a2, n2, c2, e0, e1, e2, e3, e4, e5⟩ := hv.six
  have exa : xa f = .agg #[.int .i64 k, .slice a1 n1 c1, .int .i64 lo, .int .i64 hi, .bool z, .slice a2 n2 c2] := by unfold xa; rw [e0, e1, e2, e3, e4, e5]
  obtain ⟨W, hW⟩ : ∃ W, w.alloc (.cells #[.int .i64 k, .slice a1 n1 c1, .int .i64 lo, .int .i64 hi, .bool z, .slice a2 n2 c2] 32) = W := ⟨_, rfl⟩
  have hbW : Below w.heap.size w W := hW ▸ vb_a (Below.refl _ _) _
  have kX : Bk W w.heap.size #[.int .i64 k, .slice a1 n1 c1, .int .i64 lo, .int .i64 hi, .bool z, .slice a2 n2 c2] := hW ▸ Bk.new _ _ _
  have hck := fun w' (hb : Below W.heap.size W w') => refCheck_any t f w' Y (hv.kept (vb_t hbW hb))
  have hsz := fun w' (hb : Below W.heap.size W w') => size_any t f w' Y (hbd.mono (by omega)) (hv.kept (vb_t hbW hb)) 65536 (I64_of (by omega) (by omega))
  have hc1 := comp_bad t hbd f W Y (hv.kept hbW) most hm
  have hc2 := comp_big t hbd f W Y (hv.kept hbW) most hm
  have hc3 := comp_ok t hbd f W Y (hv.kept hbW) most
  rw [exa] at hck hsz hc1 hc2 hc3 ⊢
  obtain ⟨P, hP⟩ : ∃ P : Ending → World → Prop, P = fun e w' => e = .returned (.bool true) ∧ Below w.heap.size w w' := ⟨_, rfl⟩
  rw [← hP]
  have HP := hid_intro hP
  have HW := hid_intro hW
  have HBW := hid_intro hbW
  have HK := hid_intro kX
  have HHD := hid_intro (fun w' => heads_any w')
  clear hP hv e0 e1 e2 e3 e4 e5 hW hbW kX exa hm
  cases hr : rightB 1000 t
  · have he : errV t = 91 := by unfold errV; rw [hr]; rfl
    have hc := hc1 hr
    rw [he] at hsz
    rw [hr] at hck
    generalize sizeV t 65536 = n at *
    have HCK := hid_intro hck
    have HSZ := hid_intro hsz
    clear hr hc1 hc2 hc3 hck hsz he hbd
    go_enter Try.func4, Try.ntmps4
    go_wp2_with fail
    rw [HW.out]
    refine hc.mono ?_; rintro e w1 ⟨rfl, hb1⟩
    have HB1 := hid_intro hb1
    clear hb1 hc
    obtain ⟨x0, x1, x2, x3, x4, x5⟩ := (HK.out.bel HB1.out).c6
    have hsz1 := HSZ.out w1 HB1.out
    go_wp2_with fail
    refine hsz1.mono ?_; rintro e w2 ⟨rfl, hb2⟩
    have HB2 := hid_intro (vb_t HB1.out hb2)
    clear x0 x1 x2 x3 x4 x5 hb2 hsz1
    obtain ⟨x0, x1, x2, x3, x4, x5⟩ := (HK.out.bel HB2.out).c6
    have hck2 := HCK.out w2 HB2.out
    go_wp2_with fail
    refine hck2.mono ?_; rintro e w3 ⟨rfl, hb3⟩
    have HB3 := hid_intro (vb_t HB2.out hb3)
    clear x0 x1 x2 x3 x4 x5 hb3 hck2
    go_wp2_with fail
    refine (HHD.out _).mono ?_; rintro e w4 ⟨rfl, hb4⟩
    go_wp2_with fail
    rw [HP.out]
    exact ⟨rfl, vb_t (vb_t HBW.out HB3.out) hb4⟩
  · have he : errV t = 0 := by unfold errV; rw [hr]; rfl
    have hn : sizeV t 65536 = min ((szX t : Int) + 1) 65537 := by unfold sizeV om; rw [hr, if_pos rfl, if_neg (by omega)]; rfl
    rw [he, hn] at hsz
    rw [hr] at hck
    have HCK := hid_intro hck
    by_cases hbig : min most 65536 < (szX t : Int) + 1
    · have hc := hc2 hr hbig
      obtain ⟨n, hnn⟩ : ∃ n, min ((szX t : Int) + 1) 65537 = n := ⟨_, rfl⟩
      rw [hnn] at hsz
      have HSZ := hid_intro hsz
      by_cases q1 : n > most
      · clear hr hc1 hc2 hc3 hck hsz he hbd hn hbig hnn
        go_enter Try.func4, Try.ntmps4
        go_wp2_with fail
        rw [HW.out]
        refine hc.mono ?_; rintro e w1 ⟨rfl, hb1⟩
        have HB1 := hid_intro hb1
        clear hb1 hc
        obtain ⟨x0, x1, x2, x3, x4, x5⟩ := (HK.out.bel HB1.out).c6
        have hsz1 := HSZ.out w1 HB1.out
        go_wp2_with fail
        refine hsz1.mono ?_; rintro e w2 ⟨rfl, hb2⟩
        have HB2 := hid_intro (vb_t HB1.out hb2)
        clear x0 x1 x2 x3 x4 x5 hb2 hsz1
        obtain ⟨x0, x1, x2, x3, x4, x5⟩ := (HK.out.bel HB2.out).c6
        have hck2 := HCK.out w2 HB2.out
        go_wp2_with fail
        refine hck2.mono ?_; rintro e w3 ⟨rfl, hb3⟩
        have HB3 := hid_intro (vb_t HB2.out hb3)
        clear x0 x1 x2 x3 x4 x5 hb3 hck2
        go_wp2_with fail
        refine (HHD.out _).mono ?_; rintro e w4 ⟨rfl, hb4⟩
        go_wp2_with fail
        rw [HP.out]
        exact ⟨rfl, vb_t (vb_t HBW.out HB3.out) hb4⟩
      · have q2 : n > 65536 := by omega
        clear hr hc1 hc2 hc3 hck hsz he hbd hn hbig hnn
        go_enter Try.func4, Try.ntmps4
        go_wp2_with fail
        rw [HW.out]
        refine hc.mono ?_; rintro e w1 ⟨rfl, hb1⟩
        have HB1 := hid_intro hb1
        clear hb1 hc
        obtain ⟨x0, x1, x2, x3, x4, x5⟩ := (HK.out.bel HB1.out).c6
        have hsz1 := HSZ.out w1 HB1.out
        go_wp2_with fail
        refine hsz1.mono ?_; rintro e w2 ⟨rfl, hb2⟩
        have HB2 := hid_intro (vb_t HB1.out hb2)
        clear x0 x1 x2 x3 x4 x5 hb2 hsz1
        obtain ⟨x0, x1, x2, x3, x4, x5⟩ := (HK.out.bel HB2.out).c6
        have hck2 := HCK.out w2 HB2.out
        go_wp2_with fail
        refine hck2.mono ?_; rintro e w3 ⟨rfl, hb3⟩
        have HB3 := hid_intro (vb_t HB2.out hb3)
        clear x0 x1 x2 x3 x4 x5 hb3 hck2
        go_wp2_with fail
        refine (HHD.out _).mono ?_; rintro e w4 ⟨rfl, hb4⟩
        go_wp2_with fail
        rw [HP.out]
        exact ⟨rfl, vb_t (vb_t HBW.out HB3.out) hb4⟩
    · have hyok := yok_of hr hbd
      have hc := hc3 hr (by omega)
      obtain ⟨C, hC⟩ : ∃ C, szX t + 1 = C := ⟨_, rfl⟩
      have hnC : min ((szX t : Int) + 1) 65537 = (C : Int) := by omega
      have q1 : (C : Int) ≤ most := by omega
      have q2 : (C : Int) ≤ 65536 := by omega
      have q0 : 1 ≤ C := by omega
      have hkd := nfaL_kind t hyok
      have hfit := nfaL_fits t hyok
      have hlen := nfaL_len t hyok.len
      rw [hnC] at hsz
      rw [hC] at hc hkd hlen
      have HSZ := hid_intro hsz
      have HLF := hid_intro (And.intro hlen (And.intro hfit (And.intro hkd (fun s (hs : s ∈ nfaL t) => (show s.r.length ≤ 1099511627776 from by
        rcases List.mem_append.1 hs with hs | hs
        · exact hyok.rl 0 s hs
        · obtain rfl := List.mem_singleton.1 hs; exact Nat.zero_le _)))))
      clear hr hc1 hc2 hc3 hck hsz he hbd hn hbig hyok hC hnC hkd hfit hlen
      go_enter Try.func4, Try.ntmps4
      go_wp2_with fail
      rw [HW.out]
      refine hc.mono ?_; rintro e w1 ⟨sb, rfl, hsi, hb1⟩
      have HB1 := hid_intro hb1
      have HSI := hid_intro hsi
      clear hb1 hc hsi
      obtain ⟨x0, x1, x2, x3, x4, x5⟩ := (HK.out.bel HB1.out).c6
      have hsz1 := HSZ.out w1 HB1.out
      go_wp2_with fail
      refine hsz1.mono ?_; rintro e w2 ⟨rfl, hb2⟩
      have HB12 := hid_intro hb2
      have HB2 := hid_intro (vb_t HB1.out hb2)
      clear x0 x1 x2 x3 x4 x5 hb2 hsz1
      obtain ⟨x0, x1, x2, x3, x4, x5⟩ := (HK.out.bel HB2.out).c6
      have hck2 := HCK.out w2 HB2.out
      go_wp2_with fail
      refine hck2.mono ?_; rintro e w3 ⟨rfl, hb3⟩
      have HB13 := hid_intro (vb_t HB12.out hb3)
      have HB3 := hid_intro (vb_t HB2.out hb3)
      clear x0 x1 x2 x3 x4 x5 hb3 hck2
      have hb13 : Below w1.heap.size w1 w3 := HB13.out
      have hch := nfaCheck_any (nfaL t) _ w3 _ (HSI.out.kept hb13) HLF.out.2.2.2
      rw [HLF.out.2.1] at hch
      have HSI3 := hid_intro (HSI.out.kept hb13)
      clear hb13
      go_wp2_with fail
      refine hch.mono ?_; rintro e w4 ⟨rfl, hb4⟩
      have HB4 := hid_intro (vb_t HB3.out hb4)
      have HSI4 := hid_intro (HSI3.out.kept hb4)
      clear hb4 hch
      have HCE : Hid (∀ wr, Below w4.heap.size w4 wr → ∀ i, i < C → wr.cell? ⟨sb, i * 4, none⟩ = some (.int .i64 (sa (nfaL t) i).k)) := hid_intro (fun wr hb i hi => by
        obtain ⟨ao, cap, ee, _, _, _, hlie⟩ := HSI4.out.kept hb
        injection ee with ee _ _
        rcases hlie with h | ⟨b', off', G, h1, _, h3⟩
        · have := HLF.out.1; rw [h] at this; simp at this; omega
        · rw [h1] at ee
          injection ee with ee
          injection ee with ea eb _
          have := (h3 i (by rw [HLF.out.1]; exact hi)).1.1
          rw [← ea, ← eb, Nat.zero_add] at this
          exact this)
      clear HSI3 HSI4 HSI
      have hwC : wrap64 ((C : Int) - 1) = (C : Int) - 1 := wrap64_of (by omega) (by omega)
      go_wp2_with fail
      go_loopg [9] C (fun m s9 wr => ∃ i : Nat, i ≤ C ∧ m = C - i ∧ s9 = .int .i64 (i : Int) ∧ Hid (Below w4.heap.size w4 wr))
      case atStart => exact ⟨0, Nat.zero_le _, rfl, rfl, Below.refl _ _⟩
      case round =>
        obtain ⟨i, hi, rfl, rfl, HZ⟩ := hrel
        by_cases hlt : i < C
        · have hJ : (i : Int) < (C : Int) := by omega
          have hce := HCE.out wr HZ.out i hlt
          have hkd := HLF.out.2.2.1 i hlt
          obtain ⟨bk, hbk⟩ : ∃ bk, ((i : Int) == (C : Int) - 1) = bk := ⟨_, rfl⟩
          rw [hbk] at hkd
          generalize (sa (nfaL t) i).k = K at *
          cases bk
          · have k7 : ¬ K = 7 := by simpa using hkd
            have ic : ¬ (i : Int) = (C : Int) - 1 := by simpa using hbk
            go_wp2_with fail
            go_roundg (C - (i + 1))
            case measure => omega
            case rel => exact ⟨i + 1, by omega, rfl, by simp, HZ⟩
          · have k7 : K = 7 := by simpa using hkd
            subst k7
            go_wp2_with fail
            go_roundg (C - (i + 1))
            case measure => omega
            case rel => exact ⟨i + 1, by omega, rfl, by simp, HZ⟩
        · have hJ : ¬ (i : Int) < (C : Int) := by omega
          go_wp2_with fail
          refine (HHD.out _).mono ?_; rintro e w5 ⟨rfl, hb5⟩
          go_wp2_with fail
          rw [HP.out]
          exact ⟨rfl, vb_t (vb_t (vb_t HBW.out HB4.out) HZ.out) hb5⟩
end Go.Proofs.Ytcgohdfpmfpfiaa
