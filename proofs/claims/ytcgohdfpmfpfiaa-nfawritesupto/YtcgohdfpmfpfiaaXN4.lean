/-
  The counter over a count and over a tree. Conditions: the tree may be.
-/
import Derived.Test.YtcgohdfpmfpfiaaXN3
namespace Go.Proofs.Ytcgohdfpmfpfiaa
open Go.RowKit
attribute [local go_sem] setCell_drewN alloc_drewN

/-- What a count has. -/
def repC (L lo hi one : Int) : Int := if hi = -1 then min (min (lo * one) L + min (one + 2) L) L else min (min (lo * one) L + min ((hi - lo) * min (one + 1) L) L) L
set_option maxRecDepth 100000 in
set_option maxHeartbeats 3200000 in
theorem repeat_any (L : Int) (hL0 : 0 ≤ L) (hL : L ≤ 9223372036854775807) (k : Int) (a : Option Addr) (n c : Nat) (lo hi : Int) (z : Bool) (b off cap : Nat) (hlo : 0 ≤ lo ∧ lo ≤ 1000) (hhi : hi = -1 ∨ lo ≤ hi ∧ hi ≤ 1000)
    (x0 : Int) (x1 : Option Addr) (x2 x3 : Nat) (x4 x5 : Int) (x6 : Bool) (x7 : Option Addr) (x8 x9 : Nat) (one : Int) (h1 : 0 ≤ one) (w : World) (hblt : b < w.heap.size)
    (g0 : w.cell? ⟨b, off, none⟩ = some (.int .i64 x0)) (g1 : w.cell? ⟨b, off + 1, none⟩ = some (.slice x1 x2 x3)) (g2 : w.cell? ⟨b, off + 2, none⟩ = some (.int .i64 x4)) (g3 : w.cell? ⟨b, off + 3, none⟩ = some (.int .i64 x5)) (g4 : w.cell? ⟨b, off + 4, none⟩ = some (.bool x6)) (g5 : w.cell? ⟨b, off + 5, none⟩ = some (.slice x7 x8 x9))
    (hI : ∀ w', Below w.heap.size w w' → Calls Try.prog 23 #[.agg #[.int .i64 L], .agg #[.int .i64 x0, .slice x1 x2 x3, .int .i64 x4, .int .i64 x5, .bool x6, .slice x7 x8 x9]] w' fun r w2 => r = .returned (.int .i64 one) ∧ Below w'.heap.size w' w2) :
    Calls Try.prog 32 #[.agg #[.int .i64 L], .agg #[.int .i64 k, .slice a n c, .int .i64 lo, .int .i64 hi, .bool z, .slice (some ⟨b, off, none⟩) 1 cap]] w fun r w' => r = .returned (.int .i64 (repC L lo hi one)) ∧ Below w.heap.size w w' := by
  obtain ⟨P, hP⟩ : ∃ P : Ending → World → Prop, P = fun r w' => r = .returned (.int .i64 (repC L lo hi one)) ∧ Below w.heap.size w w' := ⟨_, rfl⟩
  rw [← hP]
  have HP := hid_intro hP
  clear hP
  have HPL := hid_intro (fun a b ha hb w' => plus_any L a b hL0 hL ha hb w')
  have HTI := hid_intro (fun a b ha hb w' => times_any L a b hL0 hL ha hb w')
  obtain ⟨W, hW⟩ : ∃ W, (w.alloc (.cells #[.int .i64 L] 52)).alloc (.cells #[.int .i64 k, .slice a n c, .int .i64 lo, .int .i64 hi, .bool z, .slice (some ⟨b, off, none⟩) 1 cap] 32) = W := ⟨_, rfl⟩
  have hbW : Below w.heap.size w W := hW ▸ vb_a (vb_a (Below.refl _ _) _) _
  have kC : Bk W w.heap.size #[.int .i64 L] := hW ▸ (Bk.new _ _ _).al _
  have kX : Bk W (w.heap.size + 1) #[.int .i64 k, .slice a n c, .int .i64 lo, .int .i64 hi, .bool z, .slice (some ⟨b, off, none⟩) 1 cap] := hW ▸ Bk.new' _ _ _ _ (by simp)
  have HS : Hid (∀ w', Below W.heap.size W w' → w'.cell? ⟨w.heap.size, 0, none⟩ = some (.int .i64 L) ∧ w'.cell? ⟨w.heap.size + 1, 2, none⟩ = some (.int .i64 lo) ∧ w'.cell? ⟨w.heap.size + 1, 3, none⟩ = some (.int .i64 hi) ∧ w'.cell? ⟨w.heap.size + 1, 5, none⟩ = some (.slice (some ⟨b, off, none⟩) 1 cap) ∧ w'.cell? ⟨b, off, none⟩ = some (.int .i64 x0) ∧ w'.cell? ⟨b, off + 1, none⟩ = some (.slice x1 x2 x3) ∧ w'.cell? ⟨b, off + 2, none⟩ = some (.int .i64 x4) ∧ w'.cell? ⟨b, off + 3, none⟩ = some (.int .i64 x5) ∧ w'.cell? ⟨b, off + 4, none⟩ = some (.bool x6) ∧ w'.cell? ⟨b, off + 5, none⟩ = some (.slice x7 x8 x9)) := hid_intro (fun w' hb => by
    obtain ⟨a0, a1, a2, a3, a4, a5⟩ := (kX.bel hb).c6
    have key : ∀ o v, w.cell? ⟨b, o, none⟩ = some v → w'.cell? ⟨b, o, none⟩ = some v := fun o v hv => ((vb_t hbW hb).cell (p := ⟨b, o, none⟩) hblt).trans hv
    exact ⟨(kC.bel hb).cell 0, a2, a3, a5, key _ _ g0, key _ _ g1, key _ _ g2, key _ _ g3, key _ _ g4, key _ _ g5⟩)
  have HC : Hid (∀ w', Below W.heap.size W w' → Calls Try.prog 23 #[.agg #[.int .i64 L], .agg #[.int .i64 x0, .slice x1 x2 x3, .int .i64 x4, .int .i64 x5, .bool x6, .slice x7 x8 x9]] w' fun r w2 => r = .returned (.int .i64 one) ∧ Below w'.heap.size w' w2) := hid_intro (fun w' hb => hI w' (vb_t hbW hb))
  have HW := hid_intro hW
  have HX := hid_intro hbW
  have n1 : (0 : Int) ≤ min (lo * one) L := by have := Int.mul_nonneg hlo.1 h1; omega
  have HT1 := hid_intro (fun w' => HTI.out lo one hlo.1 h1 w')
  have HLH := hid_intro (And.intro hlo (And.intro hL0 hL))
  clear hW hbW kC kX hI g0 g1 g2 g3 g4 g5 hblt hL hL0
  go_enter Try.func32, Try.ntmps32
  go_wp2_with fail
  rw [HW.out]
  go_region_held3 (fun w' => w'.cell? ⟨w.heap.size, 0, none⟩ = some (.int .i64 L) ∧ w'.cell? ⟨w.heap.size + 1, 2, none⟩ = some (.int .i64 lo) ∧ w'.cell? ⟨w.heap.size + 1, 3, none⟩ = some (.int .i64 hi) ∧ w'.cell? ⟨w.heap.size + 1, 5, none⟩ = some (.slice (some ⟨b, off, none⟩) 1 cap) ∧ w'.cell? ⟨b, off, none⟩ = some (.int .i64 x0) ∧ w'.cell? ⟨b, off + 1, none⟩ = some (.slice x1 x2 x3) ∧ w'.cell? ⟨b, off + 2, none⟩ = some (.int .i64 x4) ∧ w'.cell? ⟨b, off + 3, none⟩ = some (.int .i64 x5) ∧ w'.cell? ⟨b, off + 4, none⟩ = some (.bool x6) ∧ w'.cell? ⟨b, off + 5, none⟩ = some (.slice x7 x8 x9)) (first | (refine HS.out _ ?_; with_reducible repeat (first | exact Below.refl _ _ | refine vb_d ?_ | refine vb_t ?_ hb3)) | fail) (first | (go_at_call 23; refine (HC.out _ ?_).mono ?_; (with_reducible repeat (first | exact Below.refl _ _ | refine vb_d ?_ )); rintro r w3 ⟨rfl, hb3⟩) | fail)
  all_goals
    have hb03 : Below W.heap.size W w3 := vb_t (by with_reducible repeat (first | exact Below.refl _ _ | refine vb_d ?_)) hb3
    clear hb3
    clear HC
    obtain ⟨c0, c1, c2, c3, _⟩ := HS.out _ hb03
    go_wp2_with fail
    refine (HT1.out _).mono ?_; rintro r w4 ⟨rfl, hb4⟩
    have hb04 := vb_t hb03 hb4
    clear hb4 c0 c1 c2 c3
    obtain ⟨c0, c1, c2, c3, _⟩ := HS.out _ hb04
    have HS4 : Hid (∀ w', Below w4.heap.size w4 w' → w'.cell? ⟨w.heap.size, 0, none⟩ = some (.int .i64 L) ∧ w'.cell? ⟨w.heap.size + 1, 2, none⟩ = some (.int .i64 lo) ∧ w'.cell? ⟨w.heap.size + 1, 3, none⟩ = some (.int .i64 hi) ∧ w'.cell? ⟨w.heap.size + 1, 5, none⟩ = some (.slice (some ⟨b, off, none⟩) 1 cap) ∧ w'.cell? ⟨b, off, none⟩ = some (.int .i64 x0) ∧ w'.cell? ⟨b, off + 1, none⟩ = some (.slice x1 x2 x3) ∧ w'.cell? ⟨b, off + 2, none⟩ = some (.int .i64 x4) ∧ w'.cell? ⟨b, off + 3, none⟩ = some (.int .i64 x5) ∧ w'.cell? ⟨b, off + 4, none⟩ = some (.bool x6) ∧ w'.cell? ⟨b, off + 5, none⟩ = some (.slice x7 x8 x9)) := hid_intro (fun w' hb => HS.out w' (vb_t hb04 hb))
    have HB4 := hid_intro hb04
    clear HS hb03 hb04
    rcases hhi with hhi | hhi
    · subst hhi
      have HE : Hid (repC L lo (-1) one = min (min (lo * one) L + min (one + 2) L) L) := hid_intro (by unfold repC; rw [if_pos rfl])
      have HP1 := hid_intro (fun w' => HPL.out one 2 h1 (by omega) w')
      have n2 : (0 : Int) ≤ min (one + 2) L := by have := HLH.out; omega
      have HP2 := hid_intro (fun w' => HPL.out _ _ n1 n2 w')
      generalize min (lo * one) L = va at *
      generalize min (one + 2) L = vb at *
      clear HPL HTI HT1 HLH n1 n2
      go_wp2_with fail
      clear c0 c1 c2 c3
      go_region_held3 (fun w' => w'.cell? ⟨w.heap.size, 0, none⟩ = some (.int .i64 L) ∧ w'.cell? ⟨w.heap.size + 1, 2, none⟩ = some (.int .i64 lo) ∧ w'.cell? ⟨w.heap.size + 1, 3, none⟩ = some (.int .i64 (-1)) ∧ w'.cell? ⟨w.heap.size + 1, 5, none⟩ = some (.slice (some ⟨b, off, none⟩) 1 cap) ∧ w'.cell? ⟨b, off, none⟩ = some (.int .i64 x0) ∧ w'.cell? ⟨b, off + 1, none⟩ = some (.slice x1 x2 x3) ∧ w'.cell? ⟨b, off + 2, none⟩ = some (.int .i64 x4) ∧ w'.cell? ⟨b, off + 3, none⟩ = some (.int .i64 x5) ∧ w'.cell? ⟨b, off + 4, none⟩ = some (.bool x6) ∧ w'.cell? ⟨b, off + 5, none⟩ = some (.slice x7 x8 x9)) (first | (refine HS4.out _ ?_; with_reducible repeat (first | exact Below.refl _ _ | refine vb_d ?_ | refine vb_t ?_ hb6 | refine vb_t ?_ hb5)) | fail) (first | (go_at_call 22; first | (with_reducible refine Calls.mono (HP1.out _) ?_; rintro r w5 ⟨rfl, hb5⟩) | (with_reducible refine Calls.mono (HP2.out _) ?_; rintro r w6 ⟨rfl, hb6⟩)) | fail)
      all_goals
        go_wp2_with fail
        rw [HP.out, HE.out]
        exact ⟨rfl, vb_t HX.out (vb_t HB4.out (vb_t (by with_reducible repeat (first | exact Below.refl _ _ | refine vb_d ?_ | refine vb_t ?_ hb5)) hb6))⟩
    · have hne : ¬ hi = -1 := by have := HLH.out; omega
      have HE : Hid (repC L lo hi one = min (min (lo * one) L + min ((hi - lo) * min (one + 1) L) L) L) := hid_intro (by unfold repC; rw [if_neg hne])
      have HP1 := hid_intro (fun w' => HPL.out one 1 h1 (by omega) w')
      have n2 : (0 : Int) ≤ min (one + 1) L := by have := HLH.out; omega
      have n4 : (0 : Int) ≤ hi - lo := by omega
      have hsub : hi - lo ≤ 1000 := by have := HLH.out; omega
      have hwr : IntKind.i64.wrap (hi - lo) = hi - lo := by simp [IntKind.wrap, IntKind.bits, IntKind.signed]; omega
      have HT2 := hid_intro (fun w' => HTI.out (hi - lo) _ n4 n2 w')
      have n3 : (0 : Int) ≤ min ((hi - lo) * min (one + 1) L) L := by have := HLH.out; have := Int.mul_nonneg n4 n2; omega
      have HP2 := hid_intro (fun w' => HPL.out _ _ n1 n3 w')
      generalize min ((hi - lo) * min (one + 1) L) L = vc at *
      have HT3 := HT2
      rw [← hwr] at HT3
      generalize min (lo * one) L = va at *
      generalize min (one + 1) L = vb at *
      clear HPL HTI HT1 HLH n1 n2 n3 hhi
      go_wp2_with fail
      clear c0 c1 c2 c3
      go_region_held3 (fun w' => w'.cell? ⟨w.heap.size, 0, none⟩ = some (.int .i64 L) ∧ w'.cell? ⟨w.heap.size + 1, 2, none⟩ = some (.int .i64 lo) ∧ w'.cell? ⟨w.heap.size + 1, 3, none⟩ = some (.int .i64 hi) ∧ w'.cell? ⟨w.heap.size + 1, 5, none⟩ = some (.slice (some ⟨b, off, none⟩) 1 cap) ∧ w'.cell? ⟨b, off, none⟩ = some (.int .i64 x0) ∧ w'.cell? ⟨b, off + 1, none⟩ = some (.slice x1 x2 x3) ∧ w'.cell? ⟨b, off + 2, none⟩ = some (.int .i64 x4) ∧ w'.cell? ⟨b, off + 3, none⟩ = some (.int .i64 x5) ∧ w'.cell? ⟨b, off + 4, none⟩ = some (.bool x6) ∧ w'.cell? ⟨b, off + 5, none⟩ = some (.slice x7 x8 x9)) (first | (refine HS4.out _ ?_; with_reducible repeat (first | exact Below.refl _ _ | refine vb_d ?_ | refine vb_t ?_ hb6 | refine vb_t ?_ hb7 | refine vb_t ?_ hb5)) | fail) (first | (go_at_call 31; (first | (with_reducible refine Calls.mono (HT2.out _) ?_) | (with_reducible refine Calls.mono (HT3.out _) ?_)); rintro r w7 ⟨rfl, hb7⟩) | (go_at_call 22; first | (with_reducible refine Calls.mono (HP1.out _) ?_; rintro r w5 ⟨rfl, hb5⟩) | (with_reducible refine Calls.mono (HP2.out _) ?_; rintro r w6 ⟨rfl, hb6⟩)) | fail)
      all_goals
        go_wp2_with fail
        rw [HP.out, HE.out]
        exact ⟨rfl, vb_t HX.out (vb_t HB4.out (vb_t (by with_reducible repeat (first | exact Below.refl _ _ | refine vb_d ?_ | refine vb_t ?_ hb7 | refine vb_t ?_ hb5)) hb6))⟩
end Go.Proofs.Ytcgohdfpmfpfiaa
