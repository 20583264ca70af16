/-
  That heads answers true. No condition.
-/
import Derived.Test.YtcgohdfpmfpfiaaXH1
namespace Go.Proofs.Ytcgohdfpmfpfiaa
open Go.RowKit
attribute [local go_sem] setCell_drewN alloc_drewN

theorem xi_rep {w : World} {y : RX} {g : Nat → Value} (n : Nat) (hy : XI w (fun _ => False) y g) (k : Bk w n #[g 0, g 1, g 2, g 3, g 4, g 5]) :
    XI w (fun _ => False) (.mk 5 [] 1000 1000 false [y]) (fun i => [Value.int .i64 5, .slice none 0 0, .int .i64 1000, .int .i64 1000, .bool false, .slice (some ⟨n, 0, none⟩) 1 1].getD i .nilIface) := by
  refine XI.mk (some ⟨n, 0, none⟩) 1 (fun _ => g) rfl (RI.nil _ _) rfl rfl rfl rfl ⟨Nat.le_refl _, by unfold maxLen; omega⟩ ⟨I64_of (by omega) (by omega), I64_of (by omega) (by omega), I64_of (by omega) (by omega)⟩ (Or.inr ⟨n, 0, rfl, fun h => h, fun i hi j hj => ?_⟩) (fun i hi => ?_)
  · obtain rfl : i = 0 := by simp at hi; omega
    rw [k.cell]
    match j, hj with
    | 0, _ => rfl
    | 1, _ => rfl
    | 2, _ => rfl
    | 3, _ => rfl
    | 4, _ => rfl
    | 5, _ => rfl
  · obtain rfl : i = 0 := by simp at hi; omega
    exact hy
theorem nfa_auto5 : nfaB (auto5 [(97, 97)] [(98, 98)]) = true := by decide
set_option maxRecDepth 100000 in
set_option maxHeartbeats 3200000 in
theorem heads_any (w : World) : Calls Try.prog 9 #[] w fun e w' => e = .returned (.bool true) ∧ Below w.heap.size w w' := by
  obtain ⟨P, hP⟩ : ∃ P : Ending → World → Prop, P = fun e w' => e = .returned (.bool true) ∧ Below w.heap.size w w' := ⟨_, rfl⟩
  rw [← hP]
  have HP := hid_intro hP
  clear hP
  have HLE := hid_intro (fun c w' => letter_any c w')
  go_enter Try.func9, Try.ntmps9
  go_wp2_with fail
  refine (HLE.out _ _).mono ?_; rintro e w1 ⟨b1, rfl, k1, hb1⟩
  go_wp2_with fail
  refine (HLE.out _ _).mono ?_; rintro e w2 ⟨b2, rfl, k2, hb2⟩
  obtain ⟨W, hW⟩ : ∃ W, (w2.alloc (.cells #[.int .i64 2, .slice (some ⟨b1, 0, none⟩) 1 1, .int .i64 0, .int .i64 0, .bool false, .slice none 0 0, .int .i64 2, .slice (some ⟨b2, 0, none⟩) 1 1, .int .i64 0, .int .i64 0, .bool false, .slice none 0 0] 32)).alloc (.cells #[.int .i64 4, .slice none 0 0, .int .i64 0, .int .i64 0, .bool false, .slice (some ⟨w2.heap.size, 0, none⟩) 2 2] 32) = W := ⟨_, rfl⟩
  have hbW : Below w2.heap.size w2 W := hW ▸ vb_a (vb_a (Below.refl _ _) _) _
  have kX : Bk W (w2.heap.size + 1) #[.int .i64 4, .slice none 0 0, .int .i64 0, .int .i64 0, .bool false, .slice (some ⟨w2.heap.size, 0, none⟩) 2 2] := hW ▸ Bk.new' _ _ _ _ (by simp)
  have kS : Bk W w2.heap.size #[.int .i64 2, .slice (some ⟨b1, 0, none⟩) 1 1, .int .i64 0, .int .i64 0, .bool false, .slice none 0 0, .int .i64 2, .slice (some ⟨b2, 0, none⟩) 1 1, .int .i64 0, .int .i64 0, .bool false, .slice none 0 0] := hW ▸ (Bk.new _ _ _).al _
  have ht : HT W w2.heap.size b1 b2 := ⟨kS, (k1.bel hb2).bel hbW, k2.bel hbW⟩
  have hc1 := compile_ok ht
  have HT0 := hid_intro ht
  have HB0 := hid_intro (vb_t (vb_t hb1 hb2) hbW)
  have HKX := hid_intro kX
  obtain ⟨x0, x1, x2, x3, x4, x5⟩ := kX.c6
  clear k1 k2 hb1 hb2 hbW kX kS ht
  go_wp2_with fail
  refine hc1.mono ?_; rintro e w3 ⟨sb, rfl, hsi, hb3⟩
  have hc2 := compile_no (HT0.out.bel hb3)
  have HSI := hid_intro hsi
  have HB3 := hid_intro hb3
  clear x0 x1 x2 x3 x4 x5 hsi hc1 hW
  obtain ⟨x0, x1, x2, x3, x4, x5⟩ := (HKX.out.bel hb3).c6
  clear hb3
  go_wp2_with fail
  refine hc2.mono ?_; rintro e w4 ⟨rfl, hb4⟩
  have hc3 := ((HT0.out.bel HB3.out).bel hb4).size 100 (by omega)
  have HB4 := hid_intro hb4
  clear x0 x1 x2 x3 x4 x5 hc2
  obtain ⟨x0, x1, x2, x3, x4, x5⟩ := ((HKX.out.bel HB3.out).bel hb4).c6
  clear hb4
  go_wp2_with fail
  refine hc3.mono ?_; rintro e w5 ⟨rfl, hb5⟩
  have HB5 := hid_intro hb5
  clear x0 x1 x2 x3 x4 x5 hc3 hb5
  go_wp2_with fail
  refine (HLE.out _ _).mono ?_; rintro e w6 ⟨b3, rfl, k3, hb6⟩
  obtain ⟨V, hV⟩ : ∃ V, ((w6.alloc (.cells #[.int .i64 2, .slice (some ⟨b3, 0, none⟩) 1 1, .int .i64 0, .int .i64 0, .bool false, .slice none 0 0] 32)).alloc (.cells #[.int .i64 5, .slice none 0 0, .int .i64 1000, .int .i64 1000, .bool false, .slice (some ⟨w6.heap.size, 0, none⟩) 1 1] 32)).alloc (.cells #[.int .i64 5, .slice none 0 0, .int .i64 1000, .int .i64 1000, .bool false, .slice (some ⟨w6.heap.size, 0, none⟩) 1 1] 32) = V := ⟨_, rfl⟩
  have hbV : Below w6.heap.size w6 V := hV ▸ vb_a (vb_a (vb_a (Below.refl _ _) _) _) _
  have y1 : Bk V w6.heap.size #[.int .i64 2, .slice (some ⟨b3, 0, none⟩) 1 1, .int .i64 0, .int .i64 0, .bool false, .slice none 0 0] := hV ▸ ((Bk.new _ _ _).al _).al _
  have y3 : Bk V (w6.heap.size + 2) #[.int .i64 5, .slice none 0 0, .int .i64 1000, .int .i64 1000, .bool false, .slice (some ⟨w6.heap.size, 0, none⟩) 1 1] := hV ▸ Bk.new' _ _ _ _ (by simp)
  have xl := xi_let V 97 (I64_of (by omega) (by omega)) b3 (k3.bel hbV)
  have xm := xi_rep w6.heap.size xl y1
  have xmm := xi_rep (w6.heap.size + 2) xm y3
  have hs := size_any xMM _ V _ bd_MM xmm 100 (I64_of (by omega) (by omega))
  rw [size_MM.1, size_MM.2] at hs
  have hs2 : Calls Try.prog 11 #[.agg #[.int .i64 5, .slice none 0 0, .int .i64 1000, .int .i64 1000, .bool false, .slice (some ⟨w6.heap.size + 2, 0, none⟩) 1 1], .int .i64 100] V fun e w' => e = .returned (.tuple #[.int .i64 101, .int .i64 0]) ∧ Below V.heap.size V w' := hs
  have HB6 := hid_intro (vb_t hb6 hbV)
  have HV := hid_intro hV
  clear hs xmm xm xl y1 y3 hbV hV hb6 k3 HLE
  go_wp2_with fail
  rw [HV.out]
  refine hs2.mono ?_; rintro e w7 ⟨rfl, hb7⟩
  have hb37 : Below w3.heap.size w3 w7 := vb_t (vb_t (vb_t HB4.out HB5.out) HB6.out) hb7
  have hsi7 := HSI.out.kept hb37
  have hnil := nfaCheck_any [] (.slice none 0 0) w7 (fun _ => False) (SI.nil _ _) (fun s hs => by simp at hs)
  have hchk := fun w' (hb : Below w7.heap.size w7 w') => nfaCheck_any (auto5 [(97, 97)] [(98, 98)]) _ w' _ (hsi7.kept hb) (fun s hs => by
    simp only [auto5, List.mem_cons, List.not_mem_nil, or_false] at hs
    rcases hs with rfl | rfl | rfl | rfl | rfl <;> simp)
  rw [nfa_auto5] at hchk
  have HCH := hid_intro hchk
  obtain ⟨ao, cap, e0, z1, z2, z3, hlie⟩ := hsi7
  injection e0 with e1 e2 e3
  clear e2 e3 z1 z2 z3
  subst e1
  rcases hlie with h | ⟨sb', off', G, h1, z4, h3⟩
  · simp [auto5] at h
  injection h1 with h1
  injection h1 with h1a h1b z5
  subst h1a h1b
  clear z4 z5
  have c0 : w7.cell? ⟨sb, 0, none⟩ = some (.int .i64 2) := (h3 0 (by simp [auto5])).1.1
  have c1 : w7.cell? ⟨sb, 3, none⟩ = some (.int .i64 3) := (h3 0 (by simp [auto5])).1.2.2.2
  have c2 : w7.cell? ⟨sb, 10, none⟩ = some (.int .i64 4) := (h3 2 (by simp [auto5])).1.2.2.1
  have HBZ := hid_intro (vb_t (vb_t HB0.out HB3.out) hb37)
  clear h3 hb37 hb7 hs2 hchk
  go_wp2_with fail
  refine hnil.mono ?_; rintro e w8 ⟨rfl, hb8⟩
  have hc := HCH.out w8 hb8
  go_wp2_with fail
  refine hc.mono ?_; rintro e w9 ⟨rfl, hb9⟩
  go_wp2_with fail
  rw [HP.out]
  exact ⟨rfl, vb_t (vb_t HBZ.out hb8) hb9⟩
end Go.Proofs.Ytcgohdfpmfpfiaa
