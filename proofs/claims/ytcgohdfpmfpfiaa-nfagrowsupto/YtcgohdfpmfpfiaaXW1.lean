/-
  NfaGrows answers true. Conditions: no row of ranges is longer than 2^40.
-/
import Derived.Test.YtcgohdfpmfpfiaaXH2
import Derived.Test.YtcgohdfpmfpfiaaXQ7
namespace Go.Proofs.Ytcgohdfpmfpfiaa
open Go.RowKit
attribute [local go_sem] setCell_drewN alloc_drewN

set_option maxRecDepth 100000 in
set_option maxHeartbeats 3200000 in
theorem grows_walk (t : RX) (f : Nat → Value) (a b : Int) (W0 : World) (X : Nat → Prop) (hbd : BdX 1099511627776 t) (hv : XI W0 X t f) :
    Calls Try.prog 6 #[xa f, .int .i64 a, .int .i64 b] W0 fun e w' => e = .returned (.bool true) ∧ Below W0.heap.size W0 w' := by
  obtain ⟨k, a1, n1, c1, lo, hi, z, a2, n2, c2, e0, e1, e2, e3, e4, e5⟩ := hv.six
  have exa : xa f = .agg #[.int .i64 k, .slice a1 n1 c1, .int .i64 lo, .int .i64 hi, .bool z, .slice a2 n2 c2] := by unfold xa; rw [e0, e1, e2, e3, e4, e5]
  obtain ⟨W, hW⟩ : ∃ W, W0.alloc (.cells #[.int .i64 k, .slice a1 n1 c1, .int .i64 lo, .int .i64 hi, .bool z, .slice a2 n2 c2] 32) = W := ⟨_, rfl⟩
  have hbW : Below W0.heap.size W0 W := hW ▸ vb_a (Below.refl _ _) _
  have kX : Bk W W0.heap.size #[.int .i64 k, .slice a1 n1 c1, .int .i64 lo, .int .i64 hi, .bool z, .slice a2 n2 c2] := hW ▸ Bk.new _ _ _
  have hck := refCheck_any t f W X (hv.kept hbW)
  have hsz : ∀ most, 0 ≤ most → most ≤ 1073741824 → ∀ w', Below W.heap.size W w' → Calls Try.prog 11 #[xa f, .int .i64 most] w' fun e w2 => e = .returned (.tuple #[.int .i64 (sizeV t most), .int .i64 (errV t)]) ∧ Below w'.heap.size w' w2 := fun most h0 h1 w' hb => size_any t f w' X hbd (hv.kept (vb_t hbW hb)) most (I64_of (by omega) (by omega))
  have hsv : rightB 1000 t = true → ∀ most, 0 ≤ most → most ≤ 1073741824 → sizeV t most = min ((szX t : Int) + 1) (most + 1) := fun hr most h0 h1 => by
    unfold sizeV om; rw [hr, if_pos rfl, if_neg (by omega)]; omega
  have hev : rightB 1000 t = true → errV t = 0 := fun hr => by unfold errV; rw [hr]; rfl
  rw [exa] at hck hsz ⊢
  obtain ⟨P, hP⟩ : ∃ P : Ending → World → Prop, P = fun e w' => e = .returned (.bool true) ∧ Below W0.heap.size W0 w' := ⟨_, rfl⟩
  rw [← hP]
  have HP := hid_intro hP
  have HW := hid_intro hW
  have HBW := hid_intro hbW
  have HK := hid_intro kX
  have HHD := hid_intro (fun w' => heads_any w')
  clear hP hv e0 e1 e2 e3 e4 e5 hW hbW kX exa hbd
  cases hr : rightB 1000 t
  · rw [hr] at hck
    clear hr hsz hsv hev
    go_enter Try.func6, Try.ntmps6
    go_wp2_with fail
    rw [HW.out]
    refine hck.mono ?_; rintro e w1 ⟨rfl, hb1⟩
    go_wp2_with fail
    refine (HHD.out _).mono ?_; rintro e w2 ⟨rfl, hb2⟩
    go_wp2_with fail
    rw [HP.out]
    exact ⟨rfl, vb_t (vb_t HBW.out hb1) hb2⟩
  · rw [hr] at hck
    have hsv := hsv hr
    have hev := hev hr
    clear hr
    by_cases q1 : a < 0
    · clear hsz hsv hev
      go_enter Try.func6, Try.ntmps6
      go_wp2_with fail
      rw [HW.out]
      refine hck.mono ?_; rintro e w1 ⟨rfl, hb1⟩
      go_wp2_with fail
      refine (HHD.out _).mono ?_; rintro e w2 ⟨rfl, hb2⟩
      go_wp2_with fail
      rw [HP.out]
      exact ⟨rfl, vb_t (vb_t HBW.out hb1) hb2⟩
    · by_cases q2 : b < a
      · clear hsz hsv hev
        go_enter Try.func6, Try.ntmps6
        go_wp2_with fail
        rw [HW.out]
        refine hck.mono ?_; rintro e w1 ⟨rfl, hb1⟩
        go_wp2_with fail
        refine (HHD.out _).mono ?_; rintro e w2 ⟨rfl, hb2⟩
        go_wp2_with fail
        rw [HP.out]
        exact ⟨rfl, vb_t (vb_t HBW.out hb1) hb2⟩
      · by_cases q3 : b > 1073741824
        · clear hsz hsv hev
          go_enter Try.func6, Try.ntmps6
          go_wp2_with fail
          rw [HW.out]
          refine hck.mono ?_; rintro e w1 ⟨rfl, hb1⟩
          go_wp2_with fail
          refine (HHD.out _).mono ?_; rintro e w2 ⟨rfl, hb2⟩
          go_wp2_with fail
          rw [HP.out]
          exact ⟨rfl, vb_t (vb_t HBW.out hb1) hb2⟩
        · have ha := hsz a (by omega) (by omega)
          have hb := hsz b (by omega) (by omega)
          rw [hsv a (by omega) (by omega), hev] at ha
          rw [hsv b (by omega) (by omega), hev] at hb
          have f1 : 1 ≤ min ((szX t : Int) + 1) (a + 1) := by omega
          have f2 : min ((szX t : Int) + 1) (a + 1) ≤ a + 1 := by omega
          have f3 : min ((szX t : Int) + 1) (b + 1) ≤ b + 1 := by omega
          have f4 : min (min ((szX t : Int) + 1) (b + 1)) (a + 1) = min ((szX t : Int) + 1) (a + 1) := by omega
          generalize min ((szX t : Int) + 1) (a + 1) = n at *
          generalize min ((szX t : Int) + 1) (b + 1) = m at *
          have HA := hid_intro ha
          have HB := hid_intro hb
          have hw1 : IntKind.i64.wrap (a + 1) = a + 1 := by simp [IntKind.wrap, IntKind.bits, IntKind.signed]; omega
          have hw2 : IntKind.i64.wrap (b + 1) = b + 1 := by simp [IntKind.wrap, IntKind.bits, IntKind.signed]; omega
          clear hsz hsv hev ha hb
          go_enter Try.func6, Try.ntmps6
          go_wp2_with fail
          rw [HW.out]
          refine hck.mono ?_; rintro e w1 ⟨rfl, hb1⟩
          obtain ⟨x0, x1, x2, x3, x4, x5⟩ := (HK.out.bel hb1).c6
          have hA := HA.out w1 hb1
          have HB1 := hid_intro hb1
          clear hb1 hck
          go_wp2_with fail
          refine hA.mono ?_; rintro e w2 ⟨rfl, hb2⟩
          clear x0 x1 x2 x3 x4 x5 hA
          have HB2 := hid_intro (vb_t HB1.out hb2)
          obtain ⟨x0, x1, x2, x3, x4, x5⟩ := (HK.out.bel HB2.out).c6
          have hB := HB.out w2 HB2.out
          clear hb2
          go_wp2_with fail
          refine hB.mono ?_; rintro e w3 ⟨rfl, hb3⟩
          clear x0 x1 x2 x3 x4 x5 hB
          have HB3 := hid_intro (vb_t HB2.out hb3)
          clear hb3
          go_wp2_with fail
          refine (HHD.out _).mono ?_; rintro e w4 ⟨rfl, hb4⟩
          go_wp2_with fail
          rw [HP.out]
          exact ⟨rfl, vb_t (vb_t HBW.out HB3.out) hb4⟩
end Go.Proofs.Ytcgohdfpmfpfiaa
