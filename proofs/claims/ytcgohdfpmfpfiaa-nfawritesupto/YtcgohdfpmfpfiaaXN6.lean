/-
  How many states a tree has, at most so many and one. Conditions: no row of ranges is longer than 2^40.
-/
import Derived.Test.YtcgohdfpmfpfiaaXN5
import Derived.Test.YtcgohdfpmfpfiaaXQ6
import Derived.Lib.MinMax
namespace Go.Proofs.Ytcgohdfpmfpfiaa
open Go.RowKit
attribute [local go_sem] setCell_drewN alloc_drewN

/-- Where counting ends. -/
def om (most : Int) : Int := if most = 9223372036854775807 then most else max most 0 + 1
theorem om_pos (most : Int) (h : I64 most) : 1 ≤ om most ∧ om most ≤ 9223372036854775807 := by
  unfold om; unfold I64 at h; split <;> omega
set_option maxRecDepth 100000 in
theorem oneMore_any (most : Int) (hm : I64 most) (w : World) :
    Calls Try.prog 21 #[.int .i64 most] w fun e w' => e = .returned (.int .i64 (om most)) ∧ Below w.heap.size w w' := by
  obtain ⟨h1, h2⟩ := hm
  obtain ⟨P, hP⟩ : ∃ P : Ending → World → Prop, P = fun e w' => e = .returned (.int .i64 (om most)) ∧ Below w.heap.size w w' := ⟨_, rfl⟩
  rw [← hP]
  have HP := hid_intro hP
  clear hP
  by_cases hq : most = 9223372036854775807
  · have HE : Hid (om most = most) := hid_intro (by unfold om; rw [if_pos hq])
    subst hq
    go_enter Try.func21, Try.ntmps21
    go_wp2_with fail
    rw [HP.out, HE.out]
    exact ⟨rfl, Below.refl _ _⟩
  · by_cases hn : most ≤ 0
    · have HE : Hid (om most = 1) := hid_intro (by unfold om; rw [if_neg hq]; omega)
      have hmx : max most 0 = 0 := by omega
      go_enter Try.func21, Try.ntmps21
      go_wp2_with fail
      rw [HP.out, HE.out]
      exact ⟨ret_int (by omega), Below.refl _ _⟩
    · have HE : Hid (om most = most + 1) := hid_intro (by unfold om; rw [if_neg hq]; omega)
      have hmx : max most 0 = most := by omega
      have hlt : most + 1 ≤ 9223372036854775807 := by omega
      go_enter Try.func21, Try.ntmps21
      go_wp2_with fail
      rw [HP.out, HE.out]
      exact ⟨ret_int (by omega), Below.refl _ _⟩
/-- What Size answers. -/
def sizeV (t : RX) (most : Int) : Int := if rightB 1000 t = true then min ((szX t : Int) + 1) (om most) else 0
def errV (t : RX) : Int := if rightB 1000 t = true then 0 else 91
set_option maxRecDepth 100000 in
set_option maxHeartbeats 1600000 in
theorem size_any (t : RX) (f : Nat → Value) (w : World) (X : Nat → Prop) (hbd : BdX 1099511627776 t) (hv : XI w X t f) (most : Int) (hm : I64 most) :
    Calls Try.prog 11 #[xa f, .int .i64 most] w fun e w' => e = .returned (.tuple #[.int .i64 (sizeV t most), .int .i64 (errV t)]) ∧ Below w.heap.size w w' := by
  obtain ⟨k, a1, n1, c1, lo, hi, z, a2, n2, c2, e0, e1, e2, e3, e4, e5⟩ := hv.six
  have exa : xa f = .agg #[.int .i64 k, .slice a1 n1 c1, .int .i64 lo, .int .i64 hi, .bool z, .slice a2 n2 c2] := by unfold xa; rw [e0, e1, e2, e3, e4, e5]
  obtain ⟨W, hW⟩ : ∃ W, w.alloc (.cells #[.int .i64 k, .slice a1 n1 c1, .int .i64 lo, .int .i64 hi, .bool z, .slice a2 n2 c2] 32) = W := ⟨_, rfl⟩
  have hbW : Below w.heap.size w W := hW ▸ vb_a (Below.refl _ _) _
  have kX : Bk W w.heap.size #[.int .i64 k, .slice a1 n1 c1, .int .i64 lo, .int .i64 hi, .bool z, .slice a2 n2 c2] := hW ▸ Bk.new _ _ _
  have hck := check_any t f W X hbd (hv.kept hbW)
  have hop := om_pos most hm
  have HOM := hid_intro (fun w' => oneMore_any most hm w')
  have hst : rightB 1000 t = true → ∀ w', Below w.heap.size w w' → Calls Try.prog 23 #[.agg #[.int .i64 (om most)], xa f] w' fun e w2 => e = .returned (.int .i64 (min (szX t : Int) (om most))) ∧ Below w'.heap.size w' w2 := fun hr w' hb => states_any (om most) hop.1 hop.2 t 1000 f w' X hr (hv.kept hb)
  have HPL := hid_intro (fun w' => plus_any (om most) (min (szX t : Int) (om most)) 1 (by omega) hop.2 (by omega) (by omega) w')
  rw [exa] at hck ⊢
  obtain ⟨P, hP⟩ : ∃ P : Ending → World → Prop, P = fun e w' => e = .returned (.tuple #[.int .i64 (sizeV t most), .int .i64 (errV t)]) ∧ Below w.heap.size w w' := ⟨_, rfl⟩
  rw [← hP]
  have HP := hid_intro hP
  have HW := hid_intro hW
  have HBW := hid_intro hbW
  have HK := hid_intro kX
  cases hr : rightB 1000 t
  · rw [hr] at hck
    have HE : Hid (sizeV t most = 0 ∧ errV t = 91) := hid_intro (by unfold sizeV errV; rw [hr]; exact ⟨rfl, rfl⟩)
    clear hP hv hst e0 e1 e2 e3 e4 e5 hop hm hW hbW kX exa hr HPL
    go_enter Try.func11, Try.ntmps11
    go_wp2_with fail
    rw [HW.out]
    refine hck.mono ?_; rintro e w1 ⟨rfl, hb1⟩
    go_wp2_with fail
    rw [HP.out, HE.out.1, HE.out.2]
    exact ⟨rfl, vb_t HBW.out hb1⟩
  · rw [hr] at hck
    have hst := hst hr
    rw [exa] at hst
    have HST := hid_intro hst
    have HE : Hid (sizeV t most = min (min (szX t : Int) (om most) + 1) (om most) ∧ errV t = 0) := hid_intro (by unfold sizeV errV; rw [hr]; exact ⟨by simp; omega, rfl⟩)
    generalize min (szX t : Int) (om most) = vs at *
    clear hP hv hst e0 e1 e2 e3 e4 e5 hop hm hW hbW kX exa hr
    go_enter Try.func11, Try.ntmps11
    go_wp2_with fail
    rw [HW.out]
    refine hck.mono ?_; rintro e w0 ⟨rfl, hb0⟩
    have HB0 := hid_intro hb0
    clear hb0 hck
    go_wp2_with fail
    refine (HOM.out _).mono ?_; rintro e w1 ⟨rfl, hb1⟩
    obtain ⟨V, hV⟩ : ∃ V, w1.alloc (.cells #[.int .i64 (om most)] 52) = V := ⟨_, rfl⟩
    have hbV : Below w1.heap.size w1 V := hV ▸ vb_a (Below.refl _ _) _
    have kC : Bk V w1.heap.size #[.int .i64 (om most)] := hV ▸ Bk.new _ _ _
    have kX : Bk V w.heap.size #[.int .i64 k, .slice a1 n1 c1, .int .i64 lo, .int .i64 hi, .bool z, .slice a2 n2 c2] := ((HK.out.bel HB0.out).bel hb1).bel hbV
    have hwV : Below w.heap.size w V := vb_t (vb_t (vb_t HBW.out HB0.out) hb1) hbV
    have HS : Hid (∀ w', Below V.heap.size V w' → w'.cell? ⟨w.heap.size, 0, none⟩ = some (.int .i64 k) ∧ w'.cell? ⟨w.heap.size, 1, none⟩ = some (.slice a1 n1 c1) ∧ w'.cell? ⟨w.heap.size, 2, none⟩ = some (.int .i64 lo) ∧ w'.cell? ⟨w.heap.size, 3, none⟩ = some (.int .i64 hi) ∧ w'.cell? ⟨w.heap.size, 4, none⟩ = some (.bool z) ∧ w'.cell? ⟨w.heap.size, 5, none⟩ = some (.slice a2 n2 c2) ∧ w'.cell? ⟨w1.heap.size, 0, none⟩ = some (.int .i64 (om most))) := hid_intro (fun w' hb => by
      obtain ⟨b0, b1, b2, b3, b4, b5⟩ := (kX.bel hb).c6
      exact ⟨b0, b1, b2, b3, b4, b5, (kC.bel hb).cell 0⟩)
    have HST2 := hid_intro (fun w' (hb : Below V.heap.size V w') => HST.out w' (vb_t hwV hb))
    have HV := hid_intro hV
    have HWV := hid_intro hwV
    clear hV hbV kC kX hwV hb1 HOM HST HK
    go_wp2_with fail
    rw [HV.out]
    go_region_held3 (fun w' => w'.cell? ⟨w.heap.size, 0, none⟩ = some (.int .i64 k) ∧ w'.cell? ⟨w.heap.size, 1, none⟩ = some (.slice a1 n1 c1) ∧ w'.cell? ⟨w.heap.size, 2, none⟩ = some (.int .i64 lo) ∧ w'.cell? ⟨w.heap.size, 3, none⟩ = some (.int .i64 hi) ∧ w'.cell? ⟨w.heap.size, 4, none⟩ = some (.bool z) ∧ w'.cell? ⟨w.heap.size, 5, none⟩ = some (.slice a2 n2 c2) ∧ w'.cell? ⟨w1.heap.size, 0, none⟩ = some (.int .i64 (om most))) (first | (refine HS.out _ ?_; with_reducible repeat (first | exact Below.refl _ _ | refine vb_d ?_ | refine vb_t ?_ hb4 | refine vb_t ?_ hb3)) | fail) (first | (go_at_call 23; refine (HST2.out _ ?_).mono ?_; (with_reducible repeat (first | exact Below.refl _ _ | refine vb_d ?_)); rintro e w3 ⟨rfl, hb3⟩) | (go_at_call 22; refine (HPL.out _).mono ?_; rintro e w4 ⟨rfl, hb4⟩) | fail)
    all_goals
      go_wp2_with fail
      rw [HP.out, HE.out.1, HE.out.2]
      exact ⟨rfl, vb_t HWV.out (vb_t (by with_reducible repeat (first | exact Below.refl _ _ | refine vb_d ?_ | refine vb_t ?_ hb3)) hb4)⟩
end Go.Proofs.Ytcgohdfpmfpfiaa
