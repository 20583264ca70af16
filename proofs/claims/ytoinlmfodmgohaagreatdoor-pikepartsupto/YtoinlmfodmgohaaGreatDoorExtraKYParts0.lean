/-
  PikeParts answers true where it asks. Conditions: the table of greatest code points holds its four numbers; nothing in the trees is longer than 2^20.
  PikeParts answers true. Conditions: the table of greatest code points holds its four numbers; nothing in the trees and the text is longer than 2^20.
-/
import Derived.Test.YtoinlmfodmgohaaGreatDoorJoined42
namespace Go.Proofs.YtoinlmfodmgohaaGreatDoor
open Go.RowKit
attribute [local go_sem] setCell_drewN alloc_drewN

theorem Bk.c6l {w : World} {b : Nat} {x0 x1 x2 x3 x4 x5 : Value} (h : Bk w b #[x0, x1, x2, x3, x4, x5]) : w.cell? ⟨b, 0, none⟩ = some x0 ∧ w.cell? ⟨b, 1, none⟩ = some x1 ∧ w.cell? ⟨b, 2, none⟩ = some x2 ∧ w.cell? ⟨b, 3, none⟩ = some x3 ∧ w.cell? ⟨b, 4, none⟩ = some x4 ∧ w.cell? ⟨b, 5, none⟩ = some x5 := h.c6
set_option maxRecDepth 100000 in
set_option maxHeartbeats 3200000 in
theorem parts_asks (x y : RX) (fx fy : Nat → Value) (s : ByteArray) (W0 : World) (hT : Tab W0) (hg0 : 0 < W0.heap.size) (hbx : BdX 1048576 x) (hby : BdX 1048576 y) (hvx : XI W0 (fun _ => False) x fx) (hvy : XI W0 (fun _ => False) y fy) (hin : PartsIn x y s) :
    Calls Tryz.prog 8 #[xa fx, xa fy, .string s] W0 fun e w' => e = .returned (.bool true) ∧ Below W0.heap.size W0 w' := by
  obtain ⟨hrx, hry, hzx, hzy, hsl, hlvx, hlvy⟩ := hin
  obtain ⟨k, a1, n1, c1, lo, hi, z, a2, n2, c2, e0, e1, e2, e3, e4, e5⟩ := hvx.six
  have exa : xa fx = .agg #[.int .i64 k, .slice a1 n1 c1, .int .i64 lo, .int .i64 hi, .bool z, .slice a2 n2 c2] := by unfold xa; rw [e0, e1, e2, e3, e4, e5]
  obtain ⟨k', a1', n1', c1', lo', hi', z', a2', n2', c2', e0', e1', e2', e3', e4', e5'⟩ := hvy.six
  have exb : xa fy = .agg #[.int .i64 k', .slice a1' n1' c1', .int .i64 lo', .int .i64 hi', .bool z', .slice a2' n2' c2'] := by unfold xa; rw [e0', e1', e2', e3', e4', e5']
  obtain ⟨W, hW⟩ : ∃ W, (W0.alloc (.cells #[.int .i64 k, .slice a1 n1 c1, .int .i64 lo, .int .i64 hi, .bool z, .slice a2 n2 c2] 31)).alloc (.cells #[.int .i64 k', .slice a1' n1' c1', .int .i64 lo', .int .i64 hi', .bool z', .slice a2' n2' c2'] 31) = W := ⟨_, rfl⟩
  have hbW : Below W0.heap.size W0 W := hW ▸ vb_a (vb_a (Below.refl _ _) _) _
  have kX : Bk W W0.heap.size #[.int .i64 k, .slice a1 n1 c1, .int .i64 lo, .int .i64 hi, .bool z, .slice a2 n2 c2] := hW ▸ (Bk.new _ _ _).al _
  have kY : Bk W (W0.heap.size + 1) #[.int .i64 k', .slice a1' n1' c1', .int .i64 lo', .int .i64 hi', .bool z', .slice a2' n2' c2'] := by
    rw [← hW]; have := Bk.new (W0.alloc (.cells #[.int .i64 k, .slice a1 n1 c1, .int .i64 lo, .int .i64 hi, .bool z, .slice a2 n2 c2] 31)) #[.int .i64 k', .slice a1' n1' c1', .int .i64 lo', .int .i64 hi', .bool z', .slice a2' n2' c2'] 31; simpa using this
  have hsx := fun w' (hb : Below W.heap.size W w') => size_any x fx w' _ (hbx.mono (by omega)) (hvx.kept (vb_t hbW hb)) 1000 (I64_of (by omega) (by omega))
  have hsy := fun w' (hb : Below W.heap.size W w') => size_any y fy w' _ (hby.mono (by omega)) (hvy.kept (vb_t hbW hb)) 1000 (I64_of (by omega) (by omega))
  have hlx := fun w' (hb : Below W.heap.size W w') => levels_any x fx w' _ (hvx.kept (vb_t hbW hb)) (lv_right x 1000 hrx)
  have hly := fun w' (hb : Below W.heap.size W w') => levels_any y fy w' _ (hvy.kept (vb_t hbW hb)) (lv_right y 1000 hry)
  have HHD := hid_intro (fun w' (hb : Below W.heap.size W w') => pheads_any w' (hT.below (vb_t hbW hb)) (Nat.lt_of_lt_of_le hg0 (vb_t hbW hb).size))
  have HTB := hid_intro (fun w' (hb : Below W.heap.size W w') => hT.below (vb_t hbW hb))
  have hcx := fun w' (hb : Below W.heap.size W w') => comp_ok x hbx fx w' _ (hvx.kept (vb_t hbW hb)) 1000 hrx (by omega)
  have hcy := fun w' (hb : Below W.heap.size W w') => comp_ok y hby fy w' _ (hvy.kept (vb_t hbW hb)) 1000 hry (by omega)
  obtain ⟨hra, hrs⟩ := right_both hrx hry hlvx hlvy
  have hca := fun w' (hb : Below W.heap.size W w') n h => comp_alt (n := n) hbx hby (hvx.kept (vb_t hbW hb)) (hvy.kept (vb_t hbW hb)) h hra hzx hzy
  have hcs := fun w' (hb : Below W.heap.size W w') n h => comp_seq (n := n) hbx (hvx.kept (vb_t hbW hb)) h hrs hzx
  rw [e0, e1, e2, e3, e4, e5, e0', e1', e2', e3', e4', e5'] at hca
  rw [e0, e1, e2, e3, e4, e5] at hcs
  have hsv : ∀ t, rightB 1000 t = true → sizeV t 1000 = min ((szX t : Int) + 1) 1001 := fun t hr => by unfold sizeV om; rw [hr, if_pos rfl, if_neg (by omega)]; omega
  have hev : ∀ t, rightB 1000 t = true → errN t = 0 := fun t hr => by unfold errN; rw [hr]; rfl
  rw [exa] at hsx hlx hcx
  rw [exb] at hsy hly hcy
  rw [exa, exb]
  rw [hev x hrx, hsv x hrx] at hsx
  rw [hev y hry, hsv y hry] at hsy
  obtain ⟨n, hn⟩ : ∃ n, min ((szX x : Int) + 1) 1001 = n := ⟨_, rfl⟩
  obtain ⟨m, hm⟩ : ∃ m, min ((szX y : Int) + 1) 1001 = m := ⟨_, rfl⟩
  rw [hn] at hsx
  rw [hm] at hsy
  have q3 : ¬ 500 < n := by omega
  have q4 : ¬ 500 < m := by omega
  have q5 : ¬ 200 < s.size := by omega
  have q6 : ¬ 900 < lvX x := by omega
  have q7 : ¬ 900 < lvX y := by omega
  have q6' : ¬ (900 : Int) < (lvX x : Int) := by omega
  have q7' : ¬ (900 : Int) < (lvX y : Int) := by omega
  have HSX := hid_intro hsx
  have HSY := hid_intro hsy
  have HLX := hid_intro hlx
  have HLY := hid_intro hly
  have HCX := hid_intro hcx
  have HCY := hid_intro hcy
  have HCA := hid_intro hca
  have HCS := hid_intro hcs
  have hgE : gE s = 0 ∧ goodS s = true ∨ gE s = 10 := by unfold gE; cases goodS s <;> simp
  have HFX := hid_intro (fun w' (hb : Below W.heap.size W w') lv (hS : SI w' (fun _ => False) (nfaL x) lv) => nfa_find x hrx hbx (by omega) s (by omega) lv w' (HTB.out w' hb) _ hS)
  have HFY := hid_intro (fun w' (hb : Below W.heap.size W w') lv (hS : SI w' (fun _ => False) (nfaL y) lv) => nfa_find y hry hby (by omega) s (by omega) lv w' (HTB.out w' hb) _ hS)
  have HFA := hid_intro (fun w' (hb : Below W.heap.size W w') lv (hS : SI w' (fun _ => False) (nfaL (tAlt x y)) lv) => nfa_find (tAlt x y) hra (.mk (Nat.zero_le _) (by simp) (fun c hc => by simp at hc; rcases hc with rfl | rfl <;> assumption)) (by rw [sz_talt]; omega) s (by omega) lv w' (HTB.out w' hb) _ hS)
  have HFS := hid_intro (fun w' (hb : Below W.heap.size W w') lv (hS : SI w' (fun _ => False) (nfaL (tSeq x)) lv) => nfa_find (tSeq x) hrs (.mk (Nat.zero_le _) (by simp) (fun c hc => by
    simp at hc; rcases hc with rfl | rfl
    · exact hbx
    · exact .mk (Nat.zero_le _) (Nat.zero_le _) (fun c hc => by simp at hc))) (by rw [sz_tseq]; omega) s (by omega) lv w' (HTB.out w' hb) _ hS)
  have HRS := hid_intro (And.intro hrx hry)
  obtain ⟨P, hP⟩ : ∃ P : Ending → World → Prop, P = fun e w' => e = .returned (.bool true) ∧ Below W0.heap.size W0 w' := ⟨_, rfl⟩
  rw [← hP]
  have HP := hid_intro hP
  have HW := hid_intro hW
  have HBW := hid_intro hbW
  have HKX := hid_intro kX
  have HKY := hid_intro kY
  have HG := hid_intro hgE
  have HSLX := hid_intro (And.intro hzx hzy)
  clear hP hW hbW kX kY hvx hvy hbx hby exa exb e0 e1 e2 e3 e4 e5 e0' e1' e2' e3' e4' e5' hT hg0 hsx hsy hlx hly hcx hcy hca hcs hgE hra hrs hrx hry hsv hev hn hm hzx hzy hsl hlvx hlvy
  go_enter Tryz.func8, Tryz.ntmps8
  go_wp2_with fail
  rw [HW.out]
  refine (HSX.out _ (Below.refl _ _)).mono ?_; rintro e w1 ⟨rfl, hb1⟩
  have h2 := HSY.out w1 hb1
  obtain ⟨y0, y1, y2, y3, y4, y5⟩ := (HKY.out.bel hb1).c6
  go_wp2_with fail
  refine h2.mono ?_; rintro e w2 ⟨rfl, hb2⟩
  have HB2 := hid_intro (vb_t hb1 hb2)
  have h3 := HLX.out w2 (vb_t hb1 hb2)
  obtain ⟨x0, x1, x2, x3, x4, x5⟩ := (HKX.out.bel HB2.out).c6
  clear h2 hb1 hb2 y0 y1 y2 y3 y4 y5
  go_wp2_with fail
  refine h3.mono ?_; rintro e w3 ⟨rfl, hb3⟩
  have HB3 := hid_intro (vb_t HB2.out hb3)
  have h4 := HLY.out w3 (vb_t HB2.out hb3)
  obtain ⟨y0, y1, y2, y3, y4, y5⟩ := (HKY.out.bel HB3.out).c6
  clear h3 hb3 x0 x1 x2 x3 x4 x5
  go_wp2_with fail
  refine h4.mono ?_; rintro e w4 ⟨rfl, hb4⟩
  have HB4 := hid_intro (vb_t HB3.out hb4)
  have h5 := HCX.out w4 HB4.out
  obtain ⟨x0, x1, x2, x3, x4, x5⟩ := (HKX.out.bel HB4.out).c6
  clear h4 hb4 y0 y1 y2 y3 y4 y5
  go_wp2_with fail
  refine h5.mono ?_; rintro e w5 ⟨sa', rfl, hsa, hb5⟩
  have HB5 := hid_intro (vb_t HB4.out hb5)
  have HSA := hid_intro hsa
  have h6 := HCY.out w5 HB5.out
  obtain ⟨y0, y1, y2, y3, y4, y5⟩ := (HKY.out.bel HB5.out).c6
  clear q3 q4 q5 q6 q7 q6' q7'
  clear h5 hb5 x0 x1 x2 x3 x4 x5 hsa
  go_wp2_with fail
  refine h6.mono ?_; rintro e w6 ⟨sb', rfl, hsb, hb6⟩
  have HB6 := hid_intro (vb_t HB5.out hb6)
  have HSB := hid_intro (And.intro (HSA.out.kept hb6) hsb)
  obtain ⟨x0, x1, x2, x3, x4, x5⟩ := (HKX.out.bel HB6.out).c6
  obtain ⟨y0, y1, y2, y3, y4, y5⟩ := (HKY.out.bel HB6.out).c6
  clear h6 hb6 hsb
  go_wp2_with fail
  have hk6 : Bk (w6.alloc (.cells #[.int .i64 k, .slice a1 n1 c1, .int .i64 lo, .int .i64 hi, .bool z, .slice a2 n2 c2, .int .i64 k', .slice a1' n1' c1', .int .i64 lo', .int .i64 hi', .bool z', .slice a2' n2' c2'] 31)) w6.heap.size #[.int .i64 k, .slice a1 n1 c1, .int .i64 lo, .int .i64 hi, .bool z, .slice a2 n2 c2, .int .i64 k', .slice a1' n1' c1', .int .i64 lo', .int .i64 hi', .bool z', .slice a2' n2' c2'] := Bk.new _ _ _
  have h7 := HCA.out _ (vb_a HB6.out _) _ hk6
  refine h7.mono ?_; rintro e w7 ⟨sc, rfl, hsc, hb7⟩
  have HB7 := hid_intro (vb_t (vb_a HB6.out _) hb7)
  have HSC := hid_intro (And.intro ((HSB.out.1.kept (vb_a (Below.refl _ _) _)).kept hb7) (And.intro ((HSB.out.2.kept (vb_a (Below.refl _ _) _)).kept hb7) hsc))
  clear x0 x1 x2 x3 x4 x5 y0 y1 y2 y3 y4 y5
  obtain ⟨x0, x1, x2, x3, x4, x5⟩ := (HKX.out.bel HB7.out).c6
  clear h7 hk6 hsc hb7
  go_wp2_with fail
  have hk7 : Bk (w7.alloc (.cells #[.int .i64 k, .slice a1 n1 c1, .int .i64 lo, .int .i64 hi, .bool z, .slice a2 n2 c2, .int .i64 1, .slice none 0 0, .int .i64 0, .int .i64 0, .bool false, .slice none 0 0] 31)) w7.heap.size #[.int .i64 k, .slice a1 n1 c1, .int .i64 lo, .int .i64 hi, .bool z, .slice a2 n2 c2, .int .i64 1, .slice none 0 0, .int .i64 0, .int .i64 0, .bool false, .slice none 0 0] := Bk.new _ _ _
  have h8 := HCS.out _ (vb_a HB7.out _) _ hk7
  refine h8.mono ?_; rintro e w8 ⟨sd, rfl, hsd, hb8⟩
  have HB8 := hid_intro (vb_t (vb_a HB7.out _) hb8)
  have HSD := hid_intro (And.intro ((HSC.out.1.kept (vb_a (Below.refl _ _) _)).kept hb8) (And.intro ((HSC.out.2.1.kept (vb_a (Below.refl _ _) _)).kept hb8) (And.intro ((HSC.out.2.2.kept (vb_a (Below.refl _ _) _)).kept hb8) hsd)))
  clear x0 x1 x2 x3 x4 x5
  have h9 := HFX.out w8 HB8.out _ HSD.out.1
  clear h8 hk7 hsd hb8
  go_wp2_with fail
  refine h9.mono ?_; rintro e w9 ⟨bp, np, rfl, hp, hb9⟩
  have HB9 := hid_intro (vb_t HB8.out hb9)
  have HQ1 := hid_intro hp
  have h10 := HFY.out w9 HB9.out _ (HSD.out.2.1.kept hb9)
  have HSE := hid_intro (And.intro (HSD.out.2.2.1.kept hb9) (HSD.out.2.2.2.kept hb9))
  clear h9 hb9 hp
  go_wp2_with fail
  refine h10.mono ?_; rintro e w10 ⟨bq, nq, rfl, hq, hb10⟩
  have HB10 := hid_intro (vb_t HB9.out hb10)
  have HQ2 := hid_intro hq
  have h11 := HFA.out w10 HB10.out _ (HSE.out.1.kept hb10)
  have HSF := hid_intro (HSE.out.2.kept hb10)
  clear h10 hb10 hq
  go_wp2_with fail
  refine h11.mono ?_; rintro e w11 ⟨br, nr, rfl, hr, hb11⟩
  have HB11 := hid_intro (vb_t HB10.out hb11)
  have HQ3 := hid_intro hr
  have h12 := HFS.out w11 HB11.out _ (HSF.out.kept hb11)
  clear h11 hb11 hr
  go_wp2_with fail
  refine h12.mono ?_; rintro e w12 ⟨bt, nt, rfl, ht, hb12⟩
  have HB12 := hid_intro (vb_t HB11.out hb12)
  have HQ4 := hid_intro ht
  clear h12 hb12 ht
  rcases HG.out with ⟨hg, hgood⟩ | hg
  · obtain ⟨e1, e2⟩ := parts_say HRS.out.1 HRS.out.2 (HQ1.out hgood) (HQ2.out hgood) (HQ3.out hgood) (HQ4.out hgood)
    subst e1 e2
    rw [hg]
    cases bt <;> cases bq
    all_goals
      go_wp2_with fail
      refine (HHD.out _ HB12.out).mono ?_; rintro e w13 ⟨rfl, hb13⟩
      go_wp2_with fail
      rw [HP.out]
      exact ⟨rfl, vb_t HBW.out (vb_t HB12.out hb13)⟩
  · rw [hg]
    go_wp2_with fail
    refine (HHD.out _ HB12.out).mono ?_; rintro e w13 ⟨rfl, hb13⟩
    go_wp2_with fail
    rw [HP.out]
    exact ⟨rfl, vb_t HBW.out (vb_t HB12.out hb13)⟩
end Go.Proofs.YtoinlmfodmgohaaGreatDoor

namespace Go.Proofs.YtoinlmfodmgohaaGreatDoor
open Go.RowKit

theorem parts_walk (x y : RX) (fx fy : Nat → Value) (s : ByteArray) (hs : s.size ≤ 1048576) (W0 : World) (hT : Tab W0) (hg0 : 0 < W0.heap.size) (X Y : Nat → Prop) (hbx : BdX 1048576 x) (hby : BdX 1048576 y) (hvx : XI W0 X x fx) (hvy : XI W0 Y y fy) :
    Calls Tryz.prog 8 #[xa fx, xa fy, .string s] W0 fun e w' => e = .returned (.bool true) ∧ Below W0.heap.size W0 w' := by
  by_cases h : PartsIn x y s
  · exact parts_asks x y fx fy s W0 hT hg0 hbx hby (hvx.weak fun _ h => h.elim) (hvy.weak fun _ h => h.elim) h
  · exact parts_guard x y fx fy s hs W0 hT hg0 X Y (hbx.mono (by omega)) (hby.mono (by omega)) hvx hvy h
end Go.Proofs.YtoinlmfodmgohaaGreatDoor
