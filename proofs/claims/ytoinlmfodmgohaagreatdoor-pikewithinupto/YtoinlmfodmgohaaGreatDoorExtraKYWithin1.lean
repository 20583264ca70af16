/-
  PikeWithin answers true where it asks. Conditions: the table of greatest code points holds its four numbers; nothing in the tree is longer than 2^20.
-/
import Derived.Test.YtoinlmfodmgohaaGreatDoorExtraKYWithin0
import Derived.Test.YtoinlmfodmgohaaGreatDoorJoined42
import Derived.Test.YtoinlmfodmgohaaGreatDoorJoined24
namespace Go.Proofs.YtoinlmfodmgohaaGreatDoor
open Go.RowKit Go.Maps
attribute [local go_sem] setCell_drewN alloc_drewN

theorem xi_one5 {w : World} {y : RX} {g : Nat → Value} (k lo hi : Int) (z : Bool) (n : Nat) (hw : I64 k ∧ I64 lo ∧ I64 hi) (hy : XI w (fun _ => False) y g) (h : Bk w n #[g 0, g 1, g 2, g 3, g 4, g 5]) :
    XI w (fun _ => False) (.mk k [] lo hi z [y]) (fun i => [Value.int .i64 k, .slice none 0 0, .int .i64 lo, .int .i64 hi, .bool z, .slice (some ⟨n, 0, none⟩) 1 1].getD i .nilIface) := by
  refine XI.mk (some ⟨n, 0, none⟩) 1 (fun _ => g) rfl (RI.nil _ _) rfl rfl rfl rfl ⟨Nat.le_refl _, by unfold maxLen; omega⟩ hw (Or.inr ⟨n, 0, rfl, fun h => h, fun i hi j hj => ?_⟩) (fun i hi => ?_)
  · obtain rfl : i = 0 := by simp at hi; omega
    rw [h.cell]
    match j, hj with
    | 0, _ => rfl
    | 1, _ => rfl
    | 2, _ => rfl
    | 3, _ => rfl
    | 4, _ => rfl
    | 5, _ => rfl
  · obtain rfl : i = 0 := by simp at hi; omega
    exact hy
theorem ri_any {w : World} {n : Nat} (k : Bk w n #[.int .i64 0, .int .i64 1114111]) : RI w (fun _ => False) [(0, 1114111)] (.slice (some ⟨n, 0, none⟩) 1 1) := by
  refine ⟨some ⟨n, 0, none⟩, 1, rfl, Nat.le_refl _, by unfold maxLen; omega, fun r hr => ?_, Or.inr ⟨n, 0, rfl, fun h => h, fun i hi => ?_⟩⟩
  · obtain rfl : r = (0, 1114111) := by simpa using hr
    exact ⟨I64_of (by omega) (by omega), I64_of (by omega) (by omega)⟩
  · obtain rfl : i = 0 := by simp at hi; omega
    exact k.c2
theorem xi_any5 {w : World} {rb n : Nat} (k1 : Bk w rb #[.int .i64 0, .int .i64 1114111]) (k2 : Bk w n #[.int .i64 2, .slice (some ⟨rb, 0, none⟩) 1 1, .int .i64 0, .int .i64 0, .bool false, .slice none 0 0]) :
    XI w (fun _ => False) tAny (fun i => [Value.int .i64 5, .slice none 0 0, .int .i64 0, .int .i64 (-1), .bool false, .slice (some ⟨n, 0, none⟩) 1 1].getD i .nilIface) :=
  xi_one5 5 0 (-1) false n ⟨I64_of (by omega) (by omega), I64_of (by omega) (by omega), I64_of (by omega) (by omega)⟩ (xi_set1 w _ _ _ (ri_any k1)) k2
theorem bd_tany : BdX 1048576 tAny := .mk (Nat.zero_le _) (by simp) (fun c hc => by simp at hc; subst hc; exact .mk (by simp) (Nat.zero_le _) (fun c hc => by simp at hc))
theorem bd_twin {x : RX} (h : BdX 1048576 x) : BdX 1048576 (tWin x) := .mk (Nat.zero_le _) (by simp) (fun c hc => by
  simp at hc; rcases hc with rfl | rfl
  · exact bd_tany
  · exact h)
theorem comp_win {w : World} {x : RX} {g : Nat → Value} {rb m n : Nat} (bx : BdX 1048576 x) (hx : XI w (fun _ => False) x g) (k1 : Bk w rb #[.int .i64 0, .int .i64 1114111]) (k2 : Bk w m #[.int .i64 2, .slice (some ⟨rb, 0, none⟩) 1 1, .int .i64 0, .int .i64 0, .bool false, .slice none 0 0])
    (h : Bk w n #[.int .i64 5, .slice none 0 0, .int .i64 0, .int .i64 (-1), .bool false, .slice (some ⟨m, 0, none⟩) 1 1, g 0, g 1, g 2, g 3, g 4, g 5]) (hr : rightB 1000 (tWin x) = true) (sx : szX x < 500) :
    Calls Tryz.prog 10 #[.agg #[.int .i64 3, .slice none 0 0, .int .i64 0, .int .i64 0, .bool false, .slice (some ⟨n, 0, none⟩) 2 2], .int .i64 1010] w fun e w' => ∃ sb, e = .returned (.tuple #[.slice (some ⟨sb, 0, none⟩) (szX x + 3 + 1) (szX x + 3 + 1), .int .i64 0]) ∧ SI w' (fun _ => False) (nfaL (tWin x)) (.slice (some ⟨sb, 0, none⟩) (szX x + 3 + 1) (szX x + 3 + 1)) ∧ Below w.heap.size w w' := by
  have hc := comp_ok (tWin x) (bd_twin bx) _ w _ (xi_two 3 n (I64_of (by omega) (by omega)) (xi_any5 k1 k2) hx h) 1010 hr (by rw [sz_twin]; omega)
  rw [sz_twin] at hc
  exact hc
theorem nfa_ends (t : RX) (hr : rightB 1000 t = true) (hb : BdX 1048576 t) (hz : szX t ≤ 2000) (s : ByteArray) (hs : s.size ≤ 1048576) (hg : goodS s = true) (lv : Value) (w : World) (hT : Tab w) (X : Nat → Prop) (hS : SI w X (nfaL t) lv) :
    Calls Tryz.prog 15 #[lv, .string s] w fun e w' => ∃ v E, e = .returned (.tuple #[v, .int .i64 0]) ∧ OwnI w' w.heap.size v E ∧ EnP (nfaL t) (ptsS s) ((ptsS s).length + 1) E ∧ Below w.heap.size w w' := by
  have hy := yok_of hr hb
  have hf := nfaL_right t hy
  have hl := nfaL_len t hy.len
  have hrl : ∀ s ∈ nfaL t, s.r.length ≤ 1048576 := fun s hs => by
    rcases List.mem_append.1 hs with hs | hs
    · exact bld_rl 1048576 t hb 0 s hs
    · obtain rfl := List.mem_singleton.1 hs
      exact Nat.zero_le _
  exact ends_ok (nfaL t) (by omega) hrl s hs lv w hT X hS hf hg
set_option maxRecDepth 100000 in
set_option maxHeartbeats 3200000 in
theorem within_asks (x : RX) (fx : Nat → Value) (s : ByteArray) (hs : s.size ≤ 1048576) (W0 : World) (hT : Tab W0) (hg0 : 0 < W0.heap.size) (hbx : BdX 1048576 x) (hvx : XI W0 (fun _ => False) x fx) (hin : WithinIn x s) :
    Calls Tryz.prog 7 #[xa fx, .string s] W0 fun e w' => e = .returned (.bool true) ∧ Below W0.heap.size W0 w' := by
  obtain ⟨hgs, hrx, hzx, htl, hlvx⟩ := hin
  obtain ⟨k, a1, n1, c1, lo, hi, z, a2, n2, c2, e0, e1, e2, e3, e4, e5⟩ := hvx.six
  have exa : xa fx = .agg #[.int .i64 k, .slice a1 n1 c1, .int .i64 lo, .int .i64 hi, .bool z, .slice a2 n2 c2] := by unfold xa; rw [e0, e1, e2, e3, e4, e5]
  obtain ⟨W, hW⟩ : ∃ W, W0.alloc (.cells #[.int .i64 k, .slice a1 n1 c1, .int .i64 lo, .int .i64 hi, .bool z, .slice a2 n2 c2] 31) = W := ⟨_, rfl⟩
  have hbW : Below W0.heap.size W0 W := hW ▸ vb_a (Below.refl _ _) _
  have kX : Bk W W0.heap.size #[.int .i64 k, .slice a1 n1 c1, .int .i64 lo, .int .i64 hi, .bool z, .slice a2 n2 c2] := hW ▸ Bk.new _ _ _
  have hsx := fun w' (hb : Below W.heap.size W w') => size_any x fx w' _ (hbx.mono (by omega)) (hvx.kept (vb_t hbW hb)) 1000 (I64_of (by omega) (by omega))
  have hlx := fun w' (hb : Below W.heap.size W w') => levels_any x fx w' _ (hvx.kept (vb_t hbW hb)) (lv_right x 1000 hrx)
  have HHD := hid_intro (fun w' (hb : Below W.heap.size W w') => pheads_any w' (hT.below (vb_t hbW hb)) (Nat.lt_of_lt_of_le hg0 (vb_t hbW hb).size))
  have HTB := hid_intro (fun w' (hb : Below W.heap.size W w') => hT.below (vb_t hbW hb))
  have hcx := fun w' (hb : Below W.heap.size W w') => comp_ok x hbx fx w' _ (hvx.kept (vb_t hbW hb)) 1000 hrx (by omega)
  have hrw := right_win hrx hlvx
  have hcw := fun w' (hb : Below W.heap.size W w') rb m n k1 k2 h => comp_win (rb := rb) (m := m) (n := n) hbx (hvx.kept (vb_t hbW hb)) k1 k2 h hrw hzx
  rw [e0, e1, e2, e3, e4, e5] at hcw
  have hsv : sizeV x 1000 = min ((szX x : Int) + 1) 1001 := by unfold sizeV om; rw [hrx, if_pos rfl, if_neg (by omega)]; omega
  have hev : errN x = 0 := by unfold errN; rw [hrx]; rfl
  rw [exa] at hsx hlx hcx
  rw [exa]
  rw [hev, hsv] at hsx
  obtain ⟨n, hn⟩ : ∃ n, min ((szX x : Int) + 1) 1001 = n := ⟨_, rfl⟩
  rw [hn] at hsx
  have q3 : decide (500 < n) = false := decide_eq_false (by omega)
  have q6 : decide (900 < lvX x) = false := decide_eq_false (by omega)
  have q6' : decide ((900 : Int) < (lvX x : Int)) = false := decide_eq_false (by omega)
  have HSX := hid_intro hsx
  have HLX := hid_intro hlx
  have HCX := hid_intro hcx
  have HCW := hid_intro hcw
  have HP2 := hid_intro (fun w' => rpts_ok s (by omega) w' hgs)
  have hcv : ∀ w', (convert 9 35 (.string s)).run Tryz.prog w' = _ := fun w' => conv_str w' s
  have HFX := hid_intro (fun w' (hb : Below W.heap.size W w') lv (hS : SI w' (fun _ => False) (nfaL x) lv) => nfa_find x hrx hbx (by omega) s hs lv w' (HTB.out w' hb) _ hS)
  have HFW := hid_intro (fun w' (hb : Below W.heap.size W w') lv (hS : SI w' (fun _ => False) (nfaL (tWin x)) lv) => nfa_ends (tWin x) hrw (bd_twin hbx) (by rw [sz_twin]; omega) s hs hgs lv w' (HTB.out w' hb) _ hS)
  have hge : gE s = 0 := by unfold gE; rw [hgs]; rfl
  have HRS : Hid (PartOK x ∧ goodS s = true ∧ ∀ c ∈ ptsS s, 0 ≤ c ∧ c ≤ 1114111) := hid_intro ⟨part_ok hrx, hgs, ptsS_bd s hgs⟩
  rw [hge] at HFX
  generalize ptsS s = t at HP2 HFX HFW HRS htl
  have q5 : decide ((100 : Int) < (t.length : Int)) = false := decide_eq_false (by omega)
  have q5' : decide (100 < t.length) = false := decide_eq_false (by omega)
  obtain ⟨P, hP⟩ : ∃ P : Ending → World → Prop, P = fun e w' => e = .returned (.bool true) ∧ Below W0.heap.size W0 w' := ⟨_, rfl⟩
  rw [← hP]
  have HP := hid_intro hP
  have HW := hid_intro hW
  have HBW := hid_intro hbW
  have HKX := hid_intro kX
  have h1 := HP2.out W
  clear hP hbW kX hvx hbx exa e0 e1 e2 e3 e4 e5 hT hg0 hsx hlx hcx hcw hrw hrx hsv hev hn hzx htl hlvx hgs hge hs
  go_enter Tryz.func7, Tryz.ntmps7
  go_wp2_with fail
  refine h1.mono ?_; rintro e w1 ⟨r, rfl, ho, hb1⟩
  obtain ⟨ro, rc, rfl, _⟩ := ho.form
  have h2 := HSX.out w1 hb1
  obtain ⟨x0, x1, x2, x3, x4, x5⟩ := (HKX.out.bel hb1).c6
  clear h1 ho
  go_wp2_with fail
  refine h2.mono ?_; rintro e w2 ⟨rfl, hb2⟩
  have HB2 := hid_intro (vb_t hb1 hb2)
  have h3 := HLX.out w2 (vb_t hb1 hb2)
  clear h2 hb1 hb2 x0 x1 x2 x3 x4 x5
  obtain ⟨x0, x1, x2, x3, x4, x5⟩ := (HKX.out.bel HB2.out).c6
  go_wp2_with fail
  refine h3.mono ?_; rintro e w3 ⟨rfl, hb3⟩
  have HB3 := hid_intro (vb_t HB2.out hb3)
  clear h3 hb3 x0 x1 x2 x3 x4 x5
  obtain ⟨V, hV⟩ : ∃ V, ((w3.alloc (.cells #[.int .i64 0, .int .i64 1114111] 40)).alloc (.cells #[.int .i64 2, .slice (some ⟨w3.heap.size, 0, none⟩) 1 1, .int .i64 0, .int .i64 0, .bool false, .slice none 0 0] 31)).alloc (.cells #[.int .i64 5, .slice none 0 0, .int .i64 0, .int .i64 (-1), .bool false, .slice (some ⟨w3.heap.size + 1, 0, none⟩) 1 1] 31) = V := ⟨_, rfl⟩
  have hbV : Below w3.heap.size w3 V := hV ▸ vb_a (vb_a (vb_a (Below.refl _ _) _) _) _
  have kR : Bk V w3.heap.size #[.int .i64 0, .int .i64 1114111] := hV ▸ ((Bk.new _ _ _).al _).al _
  have kS : Bk V (w3.heap.size + 1) #[.int .i64 2, .slice (some ⟨w3.heap.size, 0, none⟩) 1 1, .int .i64 0, .int .i64 0, .bool false, .slice none 0 0] := by
    rw [← hV]
    have := Bk.new (w3.alloc (.cells #[.int .i64 0, .int .i64 1114111] 40)) #[.int .i64 2, .slice (some ⟨w3.heap.size, 0, none⟩) 1 1, .int .i64 0, .int .i64 0, .bool false, .slice none 0 0] 31
    rw [show (w3.alloc (.cells #[.int .i64 0, .int .i64 1114111] 40)).heap.size = w3.heap.size + 1 by simp] at this
    exact this.al _
  have kE : Bk V (w3.heap.size + 2) #[.int .i64 5, .slice none 0 0, .int .i64 0, .int .i64 (-1), .bool false, .slice (some ⟨w3.heap.size + 1, 0, none⟩) 1 1] := by
    rw [← hV]
    have := Bk.new ((w3.alloc (.cells #[.int .i64 0, .int .i64 1114111] 40)).alloc (.cells #[.int .i64 2, .slice (some ⟨w3.heap.size, 0, none⟩) 1 1, .int .i64 0, .int .i64 0, .bool false, .slice none 0 0] 31)) #[.int .i64 5, .slice none 0 0, .int .i64 0, .int .i64 (-1), .bool false, .slice (some ⟨w3.heap.size + 1, 0, none⟩) 1 1] 31
    rw [show ((w3.alloc (.cells #[.int .i64 0, .int .i64 1114111] 40)).alloc (.cells #[.int .i64 2, .slice (some ⟨w3.heap.size, 0, none⟩) 1 1, .int .i64 0, .int .i64 0, .bool false, .slice none 0 0] 31)).heap.size = w3.heap.size + 2 by simp] at this
    exact this
  have HBV := hid_intro (vb_t HB3.out hbV)
  have HKR := hid_intro (And.intro kR (And.intro kS kE))
  have h4 := HCX.out V HBV.out
  clear hbV kR kS kE
  obtain ⟨x0, x1, x2, x3, x4, x5⟩ := (HKX.out.bel HBV.out).c6
  go_wp2_with fail
  refine h4.mono ?_; rintro e w4 ⟨sa', rfl, hsa, hb4⟩
  have HB4 := hid_intro (vb_t HBV.out hb4)
  have HK4 := hid_intro (And.intro (HKR.out.1.bel hb4) (And.intro (HKR.out.2.1.bel hb4) (HKR.out.2.2.bel hb4)))
  have HSA := hid_intro hsa
  clear h4 hb4 hsa x0 x1 x2 x3 x4 x5 hV q3 q5 q5' q6 q6'
  obtain ⟨x0, x1, x2, x3, x4, x5⟩ := (HKX.out.bel HB4.out).c6
  obtain ⟨y0, y1, y2, y3, y4, y5⟩ := HK4.out.2.2.c6
  go_wp2_with fail
  have hk4 : Bk (w4.alloc (.cells #[.int .i64 5, .slice none 0 0, .int .i64 0, .int .i64 (-1), .bool false, .slice (some ⟨w3.heap.size + 1, 0, none⟩) 1 1, .int .i64 k, .slice a1 n1 c1, .int .i64 lo, .int .i64 hi, .bool z, .slice a2 n2 c2] 31)) w4.heap.size #[.int .i64 5, .slice none 0 0, .int .i64 0, .int .i64 (-1), .bool false, .slice (some ⟨w3.heap.size + 1, 0, none⟩) 1 1, .int .i64 k, .slice a1 n1 c1, .int .i64 lo, .int .i64 hi, .bool z, .slice a2 n2 c2] := Bk.new _ _ _
  have h5 := HCW.out _ (vb_a HB4.out _) _ _ _ (HK4.out.1.al _) (HK4.out.2.1.al _) hk4
  refine h5.mono ?_; rintro e w5 ⟨sw, rfl, hsw, hb5⟩
  have HB5 := hid_intro (vb_t (vb_a HB4.out _) hb5)
  have HSW := hid_intro (And.intro ((HSA.out.kept (vb_a (Below.refl _ _) _)).kept hb5) hsw)
  have h6 := HFX.out w5 HB5.out _ HSW.out.1
  clear h5 hk4 hsw hb5 x0 x1 x2 x3 x4 x5 y0 y1 y2 y3 y4 y5
  go_wp2_with fail
  refine h6.mono ?_; rintro e w6 ⟨bp, np, rfl, hp, hb6⟩
  have HB6 := hid_intro (vb_t HB5.out hb6)
  have HQ1 := hid_intro (hp HRS.out.2.1)
  have h7 := HFW.out w6 HB6.out _ (HSW.out.2.kept hb6)
  clear h6 hb6 hp
  go_wp2_with fail
  refine h7.mono ?_; rintro e w7 ⟨v7, E, rfl, ho7, hen, hb7⟩
  have HB7 := hid_intro (vb_t HB6.out hb7)
  obtain ⟨vo, vc, rfl, _⟩ := ho7.form
  have hbe := within_say HRS.out.1 HRS.out.2.2 HQ1.out hen
  have h8 := HHD.out w7 HB7.out
  clear h7 hb7 ho7 hen
  by_cases hE : 0 < E.length
  · rw [decide_eq_true hE] at hbe
    subst hbe
    have hE' : (0 : Int) < (E.length : Int) := by omega
    have hE2 : ¬ E = [] := fun e => by rw [e] at hE; exact absurd hE (by simp)
    go_wp2_with fail
    refine h8.mono ?_; rintro e w8 ⟨rfl, hb8⟩
    go_wp2_with fail
    rw [HP.out]
    exact ⟨rfl, vb_t HBW.out (vb_t HB7.out hb8)⟩
  · rw [decide_eq_false hE] at hbe
    subst hbe
    obtain rfl : E = [] := List.eq_nil_of_length_eq_zero (by omega)
    go_wp2_with fail
    refine h8.mono ?_; rintro e w8 ⟨rfl, hb8⟩
    go_wp2_with fail
    rw [HP.out]
    exact ⟨rfl, vb_t HBW.out (vb_t HB7.out hb8)⟩
theorem within_walk (x : RX) (fx : Nat → Value) (s : ByteArray) (hs : s.size ≤ 1048576) (W0 : World) (hT : Tab W0) (hg0 : 0 < W0.heap.size) (X : Nat → Prop) (hbx : BdX 1048576 x) (hvx : XI W0 X x fx) :
    Calls Tryz.prog 7 #[xa fx, .string s] W0 fun e w' => e = .returned (.bool true) ∧ Below W0.heap.size W0 w' := by
  by_cases h : WithinIn x s
  · exact within_asks x fx s hs W0 hT hg0 hbx (hvx.weak fun _ h => h.elim) h
  · exact within_guard x fx s hs W0 hT hg0 X (hbx.mono (by omega)) hvx h
end Go.Proofs.YtoinlmfodmgohaaGreatDoor
