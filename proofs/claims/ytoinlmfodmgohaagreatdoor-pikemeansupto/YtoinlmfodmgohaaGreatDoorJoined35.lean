/-
  The counter over a count and over a tree. Conditions: the tree may be.
  The counter over a tree that may be: how many states it has, up to the limit. Conditions: the tree may be; the limit is 1 at least.
  How many states a tree has, at most so many and one. Conditions: no row of ranges is longer than 2^40.
-/
import Derived.Test.YtoinlmfodmgohaaGreatDoorJoined23
import Derived.Test.YtoinlmfodmgohaaGreatDoorJoined24
import Derived.Lib.MinMax
namespace Go.Proofs.YtoinlmfodmgohaaGreatDoor
open Go.RowKit
attribute [local go_sem] setCell_drewN alloc_drewN

/-- What a count has. -/
def repC (L lo hi one : Int) : Int := if hi = -1 then min (min (lo * one) L + min (one + 2) L) L else min (min (lo * one) L + min ((hi - lo) * min (one + 1) L) L) L
set_option maxRecDepth 100000 in
set_option maxHeartbeats 3200000 in
theorem repeat_any (L : Int) (hL0 : 0 ≤ L) (hL : L ≤ 9223372036854775807) (k : Int) (a : Option Addr) (n c : Nat) (lo hi : Int) (z : Bool) (b off cap : Nat) (hlo : 0 ≤ lo ∧ lo ≤ 1000) (hhi : hi = -1 ∨ lo ≤ hi ∧ hi ≤ 1000)
    (x0 : Int) (x1 : Option Addr) (x2 x3 : Nat) (x4 x5 : Int) (x6 : Bool) (x7 : Option Addr) (x8 x9 : Nat) (one : Int) (h1 : 0 ≤ one) (w : World) (hblt : b < w.heap.size)
    (g0 : w.cell? ⟨b, off, none⟩ = some (.int .i64 x0)) (g1 : w.cell? ⟨b, off + 1, none⟩ = some (.slice x1 x2 x3)) (g2 : w.cell? ⟨b, off + 2, none⟩ = some (.int .i64 x4)) (g3 : w.cell? ⟨b, off + 3, none⟩ = some (.int .i64 x5)) (g4 : w.cell? ⟨b, off + 4, none⟩ = some (.bool x6)) (g5 : w.cell? ⟨b, off + 5, none⟩ = some (.slice x7 x8 x9))
    (hI : ∀ w', Below w.heap.size w w' → Calls Tryz.prog 44 #[.agg #[.int .i64 L], .agg #[.int .i64 x0, .slice x1 x2 x3, .int .i64 x4, .int .i64 x5, .bool x6, .slice x7 x8 x9]] w' fun r w2 => r = .returned (.int .i64 one) ∧ Below w'.heap.size w' w2) :
    Calls Tryz.prog 69 #[.agg #[.int .i64 L], .agg #[.int .i64 k, .slice a n c, .int .i64 lo, .int .i64 hi, .bool z, .slice (some ⟨b, off, none⟩) 1 cap]] w fun r w' => r = .returned (.int .i64 (repC L lo hi one)) ∧ Below w.heap.size w w' := by
  obtain ⟨P, hP⟩ : ∃ P : Ending → World → Prop, P = fun r w' => r = .returned (.int .i64 (repC L lo hi one)) ∧ Below w.heap.size w w' := ⟨_, rfl⟩
  rw [← hP]
  have HP := hid_intro hP
  clear hP
  have HPL := hid_intro (fun a b ha hb w' => plus_any L a b hL0 hL ha hb w')
  have HTI := hid_intro (fun a b ha hb w' => times_any L a b hL0 hL ha hb w')
  obtain ⟨W, hW⟩ : ∃ W, (w.alloc (.cells #[.int .i64 L] 82)).alloc (.cells #[.int .i64 k, .slice a n c, .int .i64 lo, .int .i64 hi, .bool z, .slice (some ⟨b, off, none⟩) 1 cap] 31) = W := ⟨_, rfl⟩
  have hbW : Below w.heap.size w W := hW ▸ vb_a (vb_a (Below.refl _ _) _) _
  have kC : Bk W w.heap.size #[.int .i64 L] := hW ▸ (Bk.new _ _ _).al _
  have kX : Bk W (w.heap.size + 1) #[.int .i64 k, .slice a n c, .int .i64 lo, .int .i64 hi, .bool z, .slice (some ⟨b, off, none⟩) 1 cap] := hW ▸ Bk.new' _ _ _ _ (by simp)
  have HS : Hid (∀ w', Below W.heap.size W w' → w'.cell? ⟨w.heap.size, 0, none⟩ = some (.int .i64 L) ∧ w'.cell? ⟨w.heap.size + 1, 2, none⟩ = some (.int .i64 lo) ∧ w'.cell? ⟨w.heap.size + 1, 3, none⟩ = some (.int .i64 hi) ∧ w'.cell? ⟨w.heap.size + 1, 5, none⟩ = some (.slice (some ⟨b, off, none⟩) 1 cap) ∧ w'.cell? ⟨b, off, none⟩ = some (.int .i64 x0) ∧ w'.cell? ⟨b, off + 1, none⟩ = some (.slice x1 x2 x3) ∧ w'.cell? ⟨b, off + 2, none⟩ = some (.int .i64 x4) ∧ w'.cell? ⟨b, off + 3, none⟩ = some (.int .i64 x5) ∧ w'.cell? ⟨b, off + 4, none⟩ = some (.bool x6) ∧ w'.cell? ⟨b, off + 5, none⟩ = some (.slice x7 x8 x9)) := hid_intro (fun w' hb => by
    obtain ⟨a0, a1, a2, a3, a4, a5⟩ := (kX.bel hb).c6
    have key : ∀ o v, w.cell? ⟨b, o, none⟩ = some v → w'.cell? ⟨b, o, none⟩ = some v := fun o v hv => ((vb_t hbW hb).cell (p := ⟨b, o, none⟩) hblt).trans hv
    exact ⟨(kC.bel hb).cell 0, a2, a3, a5, key _ _ g0, key _ _ g1, key _ _ g2, key _ _ g3, key _ _ g4, key _ _ g5⟩)
  have HC : Hid (∀ w', Below W.heap.size W w' → Calls Tryz.prog 44 #[.agg #[.int .i64 L], .agg #[.int .i64 x0, .slice x1 x2 x3, .int .i64 x4, .int .i64 x5, .bool x6, .slice x7 x8 x9]] w' fun r w2 => r = .returned (.int .i64 one) ∧ Below w'.heap.size w' w2) := hid_intro (fun w' hb => hI w' (vb_t hbW hb))
  have HW := hid_intro hW
  have HX := hid_intro hbW
  have n1 : (0 : Int) ≤ min (lo * one) L := by have := Int.mul_nonneg hlo.1 h1; omega
  have HT1 := hid_intro (fun w' => HTI.out lo one hlo.1 h1 w')
  have HLH := hid_intro (And.intro hlo (And.intro hL0 hL))
  clear hW hbW kC kX hI g0 g1 g2 g3 g4 g5 hblt hL hL0
  go_enter Tryz.func69, Tryz.ntmps69
  go_wp2_with fail
  rw [HW.out]
  go_region_held3 (fun w' => w'.cell? ⟨w.heap.size, 0, none⟩ = some (.int .i64 L) ∧ w'.cell? ⟨w.heap.size + 1, 2, none⟩ = some (.int .i64 lo) ∧ w'.cell? ⟨w.heap.size + 1, 3, none⟩ = some (.int .i64 hi) ∧ w'.cell? ⟨w.heap.size + 1, 5, none⟩ = some (.slice (some ⟨b, off, none⟩) 1 cap) ∧ w'.cell? ⟨b, off, none⟩ = some (.int .i64 x0) ∧ w'.cell? ⟨b, off + 1, none⟩ = some (.slice x1 x2 x3) ∧ w'.cell? ⟨b, off + 2, none⟩ = some (.int .i64 x4) ∧ w'.cell? ⟨b, off + 3, none⟩ = some (.int .i64 x5) ∧ w'.cell? ⟨b, off + 4, none⟩ = some (.bool x6) ∧ w'.cell? ⟨b, off + 5, none⟩ = some (.slice x7 x8 x9)) (first | (refine HS.out _ ?_; with_reducible repeat (first | exact Below.refl _ _ | refine vb_d ?_ | refine vb_t ?_ hb3)) | fail) (first | (go_at_call 44; refine (HC.out _ ?_).mono ?_; (with_reducible repeat (first | exact Below.refl _ _ | refine vb_d ?_ )); rintro r w3 ⟨rfl, hb3⟩) | fail)
  all_goals
    have hb03 : Below W.heap.size W w3 := vb_t (by with_reducible repeat (first | exact Below.refl _ _ | refine vb_d ?_)) hb3
    clear hb3
    clear HC
    obtain ⟨c0, c1, c2, c3, _⟩ := HS.out _ hb03
    go_wp2_with fail
    refine (HT1.out _).mono ?_; rintro r w4 ⟨rfl, hb4⟩
    have hb04 := vb_t hb03 hb4
    clear hb4 c0 c1 c2 c3
    obtain ⟨c0, c1, c2, c3, _⟩ := HS.out _ hb04
    have HS4 : Hid (∀ w', Below w4.heap.size w4 w' → w'.cell? ⟨w.heap.size, 0, none⟩ = some (.int .i64 L) ∧ w'.cell? ⟨w.heap.size + 1, 2, none⟩ = some (.int .i64 lo) ∧ w'.cell? ⟨w.heap.size + 1, 3, none⟩ = some (.int .i64 hi) ∧ w'.cell? ⟨w.heap.size + 1, 5, none⟩ = some (.slice (some ⟨b, off, none⟩) 1 cap) ∧ w'.cell? ⟨b, off, none⟩ = some (.int .i64 x0) ∧ w'.cell? ⟨b, off + 1, none⟩ = some (.slice x1 x2 x3) ∧ w'.cell? ⟨b, off + 2, none⟩ = some (.int .i64 x4) ∧ w'.cell? ⟨b, off + 3, none⟩ = some (.int .i64 x5) ∧ w'.cell? ⟨b, off + 4, none⟩ = some (.bool x6) ∧ w'.cell? ⟨b, off + 5, none⟩ = some (.slice x7 x8 x9)) := hid_intro (fun w' hb => HS.out w' (vb_t hb04 hb))
    have HB4 := hid_intro hb04
    clear HS hb03 hb04
    rcases hhi with hhi | hhi
    · subst hhi
      have HE : Hid (repC L lo (-1) one = min (min (lo * one) L + min (one + 2) L) L) := hid_intro (by unfold repC; rw [if_pos rfl])
      have HP1 := hid_intro (fun w' => HPL.out one 2 h1 (by omega) w')
      have n2 : (0 : Int) ≤ min (one + 2) L := by have := HLH.out; omega
      have HP2 := hid_intro (fun w' => HPL.out _ _ n1 n2 w')
      generalize min (lo * one) L = va at *
      generalize min (one + 2) L = vb at *
      clear HPL HTI HT1 HLH n1 n2
      go_wp2_with fail
      clear c0 c1 c2 c3
      go_region_held3 (fun w' => w'.cell? ⟨w.heap.size, 0, none⟩ = some (.int .i64 L) ∧ w'.cell? ⟨w.heap.size + 1, 2, none⟩ = some (.int .i64 lo) ∧ w'.cell? ⟨w.heap.size + 1, 3, none⟩ = some (.int .i64 (-1)) ∧ w'.cell? ⟨w.heap.size + 1, 5, none⟩ = some (.slice (some ⟨b, off, none⟩) 1 cap) ∧ w'.cell? ⟨b, off, none⟩ = some (.int .i64 x0) ∧ w'.cell? ⟨b, off + 1, none⟩ = some (.slice x1 x2 x3) ∧ w'.cell? ⟨b, off + 2, none⟩ = some (.int .i64 x4) ∧ w'.cell? ⟨b, off + 3, none⟩ = some (.int .i64 x5) ∧ w'.cell? ⟨b, off + 4, none⟩ = some (.bool x6) ∧ w'.cell? ⟨b, off + 5, none⟩ = some (.slice x7 x8 x9)) (first | (refine HS4.out _ ?_; with_reducible repeat (first | exact Below.refl _ _ | refine vb_d ?_ | refine vb_t ?_ hb6 | refine vb_t ?_ hb5)) | fail) (first | (go_at_call 43; first | (with_reducible refine Calls.mono (HP1.out _) ?_; rintro r w5 ⟨rfl, hb5⟩) | (with_reducible refine Calls.mono (HP2.out _) ?_; rintro r w6 ⟨rfl, hb6⟩)) | fail)
      all_goals
        go_wp2_with fail
        rw [HP.out, HE.out]
        exact ⟨rfl, vb_t HX.out (vb_t HB4.out (vb_t (by with_reducible repeat (first | exact Below.refl _ _ | refine vb_d ?_ | refine vb_t ?_ hb5)) hb6))⟩
    · have hne : ¬ hi = -1 := by have := HLH.out; omega
      have HE : Hid (repC L lo hi one = min (min (lo * one) L + min ((hi - lo) * min (one + 1) L) L) L) := hid_intro (by unfold repC; rw [if_neg hne])
      have HP1 := hid_intro (fun w' => HPL.out one 1 h1 (by omega) w')
      have n2 : (0 : Int) ≤ min (one + 1) L := by have := HLH.out; omega
      have n4 : (0 : Int) ≤ hi - lo := by omega
      have hsub : hi - lo ≤ 1000 := by have := HLH.out; omega
      have hwr : IntKind.i64.wrap (hi - lo) = hi - lo := by simp [IntKind.wrap, IntKind.bits, IntKind.signed]; omega
      have HT2 := hid_intro (fun w' => HTI.out (hi - lo) _ n4 n2 w')
      have n3 : (0 : Int) ≤ min ((hi - lo) * min (one + 1) L) L := by have := HLH.out; have := Int.mul_nonneg n4 n2; omega
      have HP2 := hid_intro (fun w' => HPL.out _ _ n1 n3 w')
      generalize min ((hi - lo) * min (one + 1) L) L = vc at *
      have HT3 := HT2
      rw [← hwr] at HT3
      generalize min (lo * one) L = va at *
      generalize min (one + 1) L = vb at *
      clear HPL HTI HT1 HLH n1 n2 n3 hhi
      go_wp2_with fail
      clear c0 c1 c2 c3
      go_region_held3 (fun w' => w'.cell? ⟨w.heap.size, 0, none⟩ = some (.int .i64 L) ∧ w'.cell? ⟨w.heap.size + 1, 2, none⟩ = some (.int .i64 lo) ∧ w'.cell? ⟨w.heap.size + 1, 3, none⟩ = some (.int .i64 hi) ∧ w'.cell? ⟨w.heap.size + 1, 5, none⟩ = some (.slice (some ⟨b, off, none⟩) 1 cap) ∧ w'.cell? ⟨b, off, none⟩ = some (.int .i64 x0) ∧ w'.cell? ⟨b, off + 1, none⟩ = some (.slice x1 x2 x3) ∧ w'.cell? ⟨b, off + 2, none⟩ = some (.int .i64 x4) ∧ w'.cell? ⟨b, off + 3, none⟩ = some (.int .i64 x5) ∧ w'.cell? ⟨b, off + 4, none⟩ = some (.bool x6) ∧ w'.cell? ⟨b, off + 5, none⟩ = some (.slice x7 x8 x9)) (first | (refine HS4.out _ ?_; with_reducible repeat (first | exact Below.refl _ _ | refine vb_d ?_ | refine vb_t ?_ hb6 | refine vb_t ?_ hb7 | refine vb_t ?_ hb5)) | fail) (first | (go_at_call 68; (first | (with_reducible refine Calls.mono (HT2.out _) ?_) | (with_reducible refine Calls.mono (HT3.out _) ?_)); rintro r w7 ⟨rfl, hb7⟩) | (go_at_call 43; first | (with_reducible refine Calls.mono (HP1.out _) ?_; rintro r w5 ⟨rfl, hb5⟩) | (with_reducible refine Calls.mono (HP2.out _) ?_; rintro r w6 ⟨rfl, hb6⟩)) | fail)
      all_goals
        go_wp2_with fail
        rw [HP.out, HE.out]
        exact ⟨rfl, vb_t HX.out (vb_t HB4.out (vb_t (by with_reducible repeat (first | exact Below.refl _ _ | refine vb_d ?_ | refine vb_t ?_ hb7 | refine vb_t ?_ hb5)) hb6))⟩
end Go.Proofs.YtoinlmfodmgohaaGreatDoor

namespace Go.Proofs.YtoinlmfodmgohaaGreatDoor
open Go.RowKit
attribute [local go_sem] setCell_drewN alloc_drewN

theorem cap_mul (n a L : Int) (hn : 0 ≤ n) (hL : 0 ≤ L) : min (n * min a L) L = min (n * a) L := by
  by_cases h : a ≤ L
  · rw [Int.min_eq_left h]
  · have hLa : L ≤ a := by omega
    rw [Int.min_eq_right hLa]
    by_cases h0 : n = 0
    · subst h0; rw [Int.zero_mul, Int.zero_mul]
    · have h1 : 1 * L ≤ n * L := Int.mul_le_mul_of_nonneg_right (by omega) hL
      have h2 : n * L ≤ n * a := Int.mul_le_mul_of_nonneg_left hLa hn
      omega
theorem repC_sz (L : Int) (hL : 0 ≤ L) (lo hi : Int) (hlo : 0 ≤ lo) (hhi : hi = -1 ∨ lo ≤ hi) (q : Nat) :
    repC L lo hi (min (q : Int) L) = min (((if hi = -1 then lo.toNat * q + (q + 2) else lo.toNat * q + (hi - lo).toNat * (q + 1) : Nat)) : Int) L := by
  unfold repC
  have e1 := cap_mul lo q L hlo hL
  by_cases h : hi = -1
  · rw [if_pos h, if_pos h, e1]
    have e : ((lo.toNat * q + (q + 2) : Nat) : Int) = lo * q + (q + 2) := by rw [Int.natCast_add, Int.natCast_mul, Int.toNat_of_nonneg hlo]; rfl
    rw [e]
    have := Int.mul_nonneg hlo (Int.natCast_nonneg q)
    generalize lo * (q : Int) = m at *
    omega
  · rw [if_neg h, if_neg h, e1]
    have hd : 0 ≤ hi - lo := by omega
    have e3 : min (min (q : Int) L + 1) L = min ((q : Int) + 1) L := by omega
    rw [e3, cap_mul _ _ _ hd hL]
    have e : ((lo.toNat * q + (hi - lo).toNat * (q + 1) : Nat) : Int) = lo * q + (hi - lo) * (q + 1) := by rw [Int.natCast_add, Int.natCast_mul, Int.natCast_mul, Int.toNat_of_nonneg hlo, Int.toNat_of_nonneg hd]; rfl
    rw [e]
    have := Int.mul_nonneg hlo (Int.natCast_nonneg q)
    have := Int.mul_nonneg hd (show (0 : Int) ≤ (q : Int) + 1 by omega)
    generalize lo * (q : Int) = m at *
    generalize (hi - lo) * ((q : Int) + 1) = m2 at *
    omega
set_option maxRecDepth 100000 in
set_option maxHeartbeats 3200000 in
theorem states_any (L : Int) (hL1 : 1 ≤ L) (hL : L ≤ 9223372036854775807) (t : RX) : ∀ (d : Nat) (f : Nat → Value) (w : World) (X : Nat → Prop), rightB d t = true → XI w X t f →
    Calls Tryz.prog 44 #[.agg #[.int .i64 L], xa f] w fun r w' => r = .returned (.int .i64 (min (szX t : Int) L)) ∧ Below w.heap.size w w' := by
  have hL0 : 0 ≤ L := by omega
  induction t using RX.ind with
  | h k r lo hi z s ih =>
  intro d f w X hrt hv
  obtain ⟨⟨e, rfl, hre⟩, hk4, hk5⟩ := right_parts hrt
  cases hv with
  | mk ao cap G f0 f1 f2 f3 f4 f5 hc hw hl hr =>
  obtain ⟨a1, c1, e1, _⟩ := f1.shape
  have exa : xa f = .agg #[.int .i64 k, .slice a1 r.length c1, .int .i64 lo, .int .i64 hi, .bool z, .slice ao s.length cap] := by unfold xa; rw [f0, e1, f2, f3, f4, f5]
  rw [exa]
  have hlI : (s.length : Int) ≤ 9223372036854775807 := by have := hc.1; have := hc.2; unfold maxLen at this; omega
  have hl' : s = [] ∨ ∃ b off, ao = some ⟨b, off, none⟩ ∧ ∀ i, i < s.length → ∀ j, j < 6 → w.cell? ⟨b, off + i * 6 + j, none⟩ = some (G i j) := by
    rcases hl with h | ⟨b, off, h1, _, h3⟩
    · exact .inl h
    · exact .inr ⟨b, off, h1, h3⟩
  have hI : ∀ w' i (h : i < s.length), Below w.heap.size w w' → Calls Tryz.prog 44 #[.agg #[.int .i64 L], .agg #[G i 0, G i 1, G i 2, G i 3, G i 4, G i 5]] w' fun r w2 => r = .returned (.int .i64 (min (szX s[i] : Int) L)) ∧ Below w'.heap.size w' w2 := fun w' i h hb =>
    ih s[i] (List.getElem_mem h) e (G i) w' X (hre _ (List.getElem_mem h)) ((hr i h).kept hb)
  have hSix : ∀ i, i < s.length → Six (G i) := fun i h => (hr i h).six
  have hall : ∀ w', Below w.heap.size w w' → Calls Tryz.prog 67 #[.agg #[.int .i64 L], .slice ao s.length cap] w' fun r w2 => r = .returned (.int .i64 (min (szL s : Int) L)) ∧ Below w'.heap.size w' w2 := fun w' hb =>
    all_any L hL0 hL s ao cap G w' hc (by
      rcases hl' with h | ⟨b, off, h1, h3⟩
      · exact .inl h
      · exact .inr ⟨b, off, h1, fun i hi j hj => (hb.cell (p := ⟨b, off + i * 6 + j, none⟩) (World.block_lt_of_cell? w _ (h3 i hi j hj))).trans (h3 i hi j hj)⟩) hSix (fun w2 i h hb2 => hI w2 i h (vb_t hb hb2))
  obtain ⟨P, hP⟩ : ∃ P : Ending → World → Prop, P = fun e' w' => e' = .returned (.int .i64 (min (szX (.mk k r lo hi z s) : Int) L)) ∧ Below w.heap.size w w' := ⟨_, rfl⟩
  rw [← hP]
  have HP := hid_intro hP
  clear hP
  obtain ⟨W, hW⟩ : ∃ W, (w.alloc (.cells #[.int .i64 L] 82)).alloc (.cells #[.int .i64 k, .slice a1 r.length c1, .int .i64 lo, .int .i64 hi, .bool z, .slice ao s.length cap] 31) = W := ⟨_, rfl⟩
  have hbW : Below w.heap.size w W := hW ▸ vb_a (vb_a (Below.refl _ _) _) _
  have kC : Bk W w.heap.size #[.int .i64 L] := hW ▸ (Bk.new _ _ _).al _
  have kX : Bk W (w.heap.size + 1) #[.int .i64 k, .slice a1 r.length c1, .int .i64 lo, .int .i64 hi, .bool z, .slice ao s.length cap] := hW ▸ Bk.new' _ _ _ _ (by simp)
  have HW := hid_intro hW
  have HX := hid_intro hbW
  clear hW
  have HPL := hid_intro (fun a b ha hb w' => plus_any L a b hL0 hL ha hb w')
  have HTI := hid_intro (fun a b ha hb w' => times_any L a b hL0 hL ha hb w')
  have HAL := hid_intro (fun w' (hb : Below W.heap.size W w') => hall w' (vb_t hbW hb))
  have hk0 := kC.cell 0
  obtain ⟨b0, b1, b2, b3, b4, b5⟩ := kX.c6
  have HLL := hid_intro (And.intro hL1 hL)
  by_cases k1 : k = 1
  · have HE : Hid (min (szX (.mk k r lo hi z s) : Int) L = 0) := hid_intro (by unfold szX; rw [if_pos k1]; omega)
    subst k1
    clear hall hI hSix hl hl' hr hrt hre ih f1 exa HPL HTI HAL hk4 hk5
    go_enter Tryz.func44, Tryz.ntmps44
    go_wp2_with fail
    rw [HP.out, HE.out, HW.out]
    exact ⟨rfl, hbW⟩
  · by_cases k3 : k = 3
    · have HE : Hid (szX (.mk k r lo hi z s) = szL s) := hid_intro (by unfold szX; rw [if_neg k1, if_pos k3])
      subst k3
      have hall2 := HAL.out W (Below.refl _ _)
      clear hall hI hSix hl hl' hr hrt hre ih f1 exa HPL HTI HAL hk4 hk5
      go_enter Tryz.func44, Tryz.ntmps44
      go_wp2_with fail
      rw [HW.out]
      refine hall2.mono ?_; rintro r3 w3 ⟨rfl, hb3⟩
      go_wp2_with fail
      rw [HP.out, HE.out]
      exact ⟨rfl, vb_t hbW hb3⟩
    · by_cases k4 : k = 4
      · have hlen := hk4 k4
        have HE : Hid (min (min (szL s : Int) L + min (((s.length : Int) - 1) * 2) L) L = min (szX (.mk k r lo hi z s) : Int) L) := hid_intro (by unfold szX; rw [if_neg k1, if_neg k3, if_pos k4]; omega)
        subst k4
        have hS : Hid (∀ w', Below W.heap.size W w' → w'.cell? ⟨w.heap.size, 0, none⟩ = some (.int .i64 L) ∧ w'.cell? ⟨w.heap.size + 1, 5, none⟩ = some (.slice ao s.length cap)) := hid_intro (fun w' hb => ⟨(kC.bel hb).cell 0, (kX.bel hb).c6.2.2.2.2.2⟩)
        have n0 : (0 : Int) ≤ (s.length : Int) - 1 := by omega
        have HT := hid_intro (fun w' => HTI.out ((s.length : Int) - 1) 2 n0 (by omega) w')
        have hwr : IntKind.i64.wrap ((s.length : Int) - 1) = (s.length : Int) - 1 := by simp [IntKind.wrap, IntKind.bits, IntKind.signed]; omega
        have n1 : (0 : Int) ≤ min (szL s : Int) L := by omega
        have n2 : (0 : Int) ≤ min (((s.length : Int) - 1) * 2) L := by omega
        have HPP := hid_intro (fun w' => HPL.out _ _ n1 n2 w')
        clear hall hI hSix hl hl' hr hrt hre ih f1 exa HPL HTI hk4 hk5 n1 n2
        generalize min (szL s : Int) L = va at *
        generalize min (((s.length : Int) - 1) * 2) L = vb at *
        have HT3 := HT
        rw [← hwr] at HT3
        go_enter Tryz.func44, Tryz.ntmps44
        go_wp2_with fail
        rw [HW.out]
        clear hk0 b0 b1 b2 b3 b4 b5
        go_region_held3 (fun w' => w'.cell? ⟨w.heap.size, 0, none⟩ = some (.int .i64 L) ∧ w'.cell? ⟨w.heap.size + 1, 5, none⟩ = some (.slice ao s.length cap)) (first | (refine hS.out _ ?_; with_reducible repeat (first | exact Below.refl _ _ | refine vb_d ?_ | refine vb_t ?_ hb6 | refine vb_t ?_ hb5 | refine vb_t ?_ hb4)) | fail) (first | (go_at_call 67; (with_reducible refine Calls.mono (HAL.out _ ?_) ?_); (with_reducible repeat (first | exact Below.refl _ _ | refine vb_d ?_ | refine vb_t ?_ hb5)); rintro r w4 ⟨rfl, hb4⟩) | (go_at_call 68; (first | (with_reducible refine Calls.mono (HT.out _) ?_) | (with_reducible refine Calls.mono (HT3.out _) ?_)); rintro r w5 ⟨rfl, hb5⟩) | (go_at_call 43; (with_reducible refine Calls.mono (HPP.out _) ?_); rintro r w6 ⟨rfl, hb6⟩) | fail)
        all_goals
          go_wp2_with fail
          rw [HP.out, ← HE.out]
          exact ⟨rfl, vb_t HX.out (vb_t (by with_reducible repeat (first | exact Below.refl _ _ | refine vb_d ?_ | refine vb_t ?_ hb5 | refine vb_t ?_ hb4)) hb6)⟩
      · by_cases k5 : k = 5
        · obtain ⟨hs1, hlo0, hlo1, hhi⟩ := hk5 k5
          obtain ⟨y, rfl⟩ : ∃ y, s = [y] := by
            match s, hs1 with
            | [y], _ => exact ⟨y, rfl⟩
          obtain ⟨b, off, rfl, h3⟩ := hl'.resolve_left (by simp)
          have h3' := h3 0 (by simp)
          simp only [Nat.zero_mul, Nat.add_zero] at h3'
          obtain ⟨x0, x1, x2, x3, x4, x5, x6, x7, x8, x9, e0, e1', e2, e3, e4, e5⟩ := hSix 0 (by simp)
          have hI0 := fun w' hb => hI w' 0 (by simp) hb
          rw [e0, e1', e2, e3, e4, e5] at hI0
          have g0 := h3' 0 (by omega)
          have g1 := h3' 1 (by omega)
          have g2 := h3' 2 (by omega)
          have g3 := h3' 3 (by omega)
          have g4 := h3' 4 (by omega)
          have g5 := h3' 5 (by omega)
          rw [e0] at g0
          rw [e1'] at g1
          rw [e2] at g2
          rw [e3] at g3
          rw [e4] at g4
          rw [e5] at g5
          have hblt := World.block_lt_of_cell? w _ g0
          have key : ∀ o v, w.cell? ⟨b, o, none⟩ = some v → W.cell? ⟨b, o, none⟩ = some v := fun o v hv => (hbW.cell (p := ⟨b, o, none⟩) hblt).trans hv
          have hrep := repeat_any L hL0 hL k a1 r.length c1 lo hi z b off cap ⟨hlo0, hlo1⟩ hhi x0 x1 x2 x3 x4 x5 x6 x7 x8 x9 (min (szX y : Int) L) (by omega) W (Nat.lt_of_lt_of_le hblt hbW.size) (key _ _ g0) (key _ _ g1) (key _ _ g2) (key _ _ g3) (key _ _ g4) (key _ _ g5) (fun w' hb => hI0 w' (vb_t hbW hb))
          have HE : Hid (repC L lo hi (min (szX y : Int) L) = min (szX (.mk k r lo hi z [y]) : Int) L) := hid_intro (by
            rw [repC_sz L hL0 lo hi hlo0 (hhi.imp id (·.1))]
            have : szX (.mk k r lo hi z [y]) = (if hi = -1 then lo.toNat * szX y + (szX y + 2) else lo.toNat * szX y + (hi - lo).toNat * (szX y + 1)) := by
              rw [szX, if_neg k1, if_neg k3, if_neg k4, if_pos k5]
              simp only [szL, Nat.add_zero]
            rw [this])
          subst k5
          have HW2 : Hid ((w.alloc (.cells #[.int .i64 L] 82)).alloc (.cells #[.int .i64 5, .slice a1 r.length c1, .int .i64 lo, .int .i64 hi, .bool z, .slice (some ⟨b, off, none⟩) 1 cap] 31) = W) := HW
          clear hall hI hI0 hSix hl hl' hr hrt hre ih f1 exa HPL HTI HAL hk4 hk5 h3 h3' g0 g1 g2 g3 g4 g5 key e0 e1' e2 e3 e4 e5
          go_enter Tryz.func44, Tryz.ntmps44
          go_wp2_with fail
          rw [HW2.out]
          refine hrep.mono ?_; rintro r3 w3 ⟨rfl, hb3⟩
          go_wp2_with fail
          rw [HP.out, HE.out]
          exact ⟨rfl, vb_t hbW hb3⟩
        · have HE : Hid (min (szX (.mk k r lo hi z s) : Int) L = 1) := hid_intro (by unfold szX; rw [if_neg k1, if_neg k3, if_neg k4, if_neg k5]; omega)
          clear hall hI hSix hl hl' hr hrt hre ih f1 exa HPL HTI HAL hk4 hk5
          go_enter Tryz.func44, Tryz.ntmps44
          go_wp2_with fail
          rw [HP.out, HE.out, HW.out]
          exact ⟨rfl, hbW⟩
end Go.Proofs.YtoinlmfodmgohaaGreatDoor

namespace Go.Proofs.YtoinlmfodmgohaaGreatDoor
open Go.RowKit
attribute [local go_sem] setCell_drewN alloc_drewN

/-- Where counting ends. -/
def om (most : Int) : Int := if most = 9223372036854775807 then most else max most 0 + 1
theorem om_pos (most : Int) (h : I64 most) : 1 ≤ om most ∧ om most ≤ 9223372036854775807 := by
  unfold om; unfold I64 at h; split <;> omega
set_option maxRecDepth 100000 in
theorem oneMore_any (most : Int) (hm : I64 most) (w : World) :
    Calls Tryz.prog 42 #[.int .i64 most] w fun e w' => e = .returned (.int .i64 (om most)) ∧ Below w.heap.size w w' := by
  obtain ⟨h1, h2⟩ := hm
  obtain ⟨P, hP⟩ : ∃ P : Ending → World → Prop, P = fun e w' => e = .returned (.int .i64 (om most)) ∧ Below w.heap.size w w' := ⟨_, rfl⟩
  rw [← hP]
  have HP := hid_intro hP
  clear hP
  by_cases hq : most = 9223372036854775807
  · have HE : Hid (om most = most) := hid_intro (by unfold om; rw [if_pos hq])
    subst hq
    go_enter Tryz.func42, Tryz.ntmps42
    go_wp2_with fail
    rw [HP.out, HE.out]
    exact ⟨rfl, Below.refl _ _⟩
  · by_cases hn : most ≤ 0
    · have HE : Hid (om most = 1) := hid_intro (by unfold om; rw [if_neg hq]; omega)
      have hmx : max most 0 = 0 := by omega
      go_enter Tryz.func42, Tryz.ntmps42
      go_wp2_with fail
      rw [HP.out, HE.out]
      exact ⟨ret_int (by omega), Below.refl _ _⟩
    · have HE : Hid (om most = most + 1) := hid_intro (by unfold om; rw [if_neg hq]; omega)
      have hmx : max most 0 = most := by omega
      have hlt : most + 1 ≤ 9223372036854775807 := by omega
      go_enter Tryz.func42, Tryz.ntmps42
      go_wp2_with fail
      rw [HP.out, HE.out]
      exact ⟨ret_int (by omega), Below.refl _ _⟩
/-- What Size answers. -/
def sizeV (t : RX) (most : Int) : Int := if rightB 1000 t = true then min ((szX t : Int) + 1) (om most) else 0
def errN (t : RX) : Int := if rightB 1000 t = true then 0 else 91
set_option maxRecDepth 100000 in
set_option maxHeartbeats 1600000 in
theorem size_any (t : RX) (f : Nat → Value) (w : World) (X : Nat → Prop) (hbd : BdX 1099511627776 t) (hv : XI w X t f) (most : Int) (hm : I64 most) :
    Calls Tryz.prog 20 #[xa f, .int .i64 most] w fun e w' => e = .returned (.tuple #[.int .i64 (sizeV t most), .int .i64 (errN t)]) ∧ Below w.heap.size w w' := by
  obtain ⟨k, a1, n1, c1, lo, hi, z, a2, n2, c2, e0, e1, e2, e3, e4, e5⟩ := hv.six
  have exa : xa f = .agg #[.int .i64 k, .slice a1 n1 c1, .int .i64 lo, .int .i64 hi, .bool z, .slice a2 n2 c2] := by unfold xa; rw [e0, e1, e2, e3, e4, e5]
  obtain ⟨W, hW⟩ : ∃ W, w.alloc (.cells #[.int .i64 k, .slice a1 n1 c1, .int .i64 lo, .int .i64 hi, .bool z, .slice a2 n2 c2] 31) = W := ⟨_, rfl⟩
  have hbW : Below w.heap.size w W := hW ▸ vb_a (Below.refl _ _) _
  have kX : Bk W w.heap.size #[.int .i64 k, .slice a1 n1 c1, .int .i64 lo, .int .i64 hi, .bool z, .slice a2 n2 c2] := hW ▸ Bk.new _ _ _
  have hck := check_any t f W X hbd (hv.kept hbW)
  have hop := om_pos most hm
  have HOM := hid_intro (fun w' => oneMore_any most hm w')
  have hst : rightB 1000 t = true → ∀ w', Below w.heap.size w w' → Calls Tryz.prog 44 #[.agg #[.int .i64 (om most)], xa f] w' fun e w2 => e = .returned (.int .i64 (min (szX t : Int) (om most))) ∧ Below w'.heap.size w' w2 := fun hr w' hb => states_any (om most) hop.1 hop.2 t 1000 f w' X hr (hv.kept hb)
  have HPL := hid_intro (fun w' => plus_any (om most) (min (szX t : Int) (om most)) 1 (by omega) hop.2 (by omega) (by omega) w')
  rw [exa] at hck ⊢
  obtain ⟨P, hP⟩ : ∃ P : Ending → World → Prop, P = fun e w' => e = .returned (.tuple #[.int .i64 (sizeV t most), .int .i64 (errN t)]) ∧ Below w.heap.size w w' := ⟨_, rfl⟩
  rw [← hP]
  have HP := hid_intro hP
  have HW := hid_intro hW
  have HBW := hid_intro hbW
  have HK := hid_intro kX
  cases hr : rightB 1000 t
  · rw [hr] at hck
    have HE : Hid (sizeV t most = 0 ∧ errN t = 91) := hid_intro (by unfold sizeV errN; rw [hr]; exact ⟨rfl, rfl⟩)
    clear hP hv hst e0 e1 e2 e3 e4 e5 hop hm hW hbW kX exa hr HPL
    go_enter Tryz.func20, Tryz.ntmps20
    go_wp2_with fail
    rw [HW.out]
    refine hck.mono ?_; rintro e w1 ⟨rfl, hb1⟩
    go_wp2_with fail
    rw [HP.out, HE.out.1, HE.out.2]
    exact ⟨rfl, vb_t HBW.out hb1⟩
  · rw [hr] at hck
    have hst := hst hr
    rw [exa] at hst
    have HST := hid_intro hst
    have HE : Hid (sizeV t most = min (min (szX t : Int) (om most) + 1) (om most) ∧ errN t = 0) := hid_intro (by unfold sizeV errN; rw [hr]; exact ⟨by simp; omega, rfl⟩)
    generalize min (szX t : Int) (om most) = vs at *
    clear hP hv hst e0 e1 e2 e3 e4 e5 hop hm hW hbW kX exa hr
    go_enter Tryz.func20, Tryz.ntmps20
    go_wp2_with fail
    rw [HW.out]
    refine hck.mono ?_; rintro e w0 ⟨rfl, hb0⟩
    have HB0 := hid_intro hb0
    clear hb0 hck
    go_wp2_with fail
    refine (HOM.out _).mono ?_; rintro e w1 ⟨rfl, hb1⟩
    obtain ⟨V, hV⟩ : ∃ V, w1.alloc (.cells #[.int .i64 (om most)] 82) = V := ⟨_, rfl⟩
    have hbV : Below w1.heap.size w1 V := hV ▸ vb_a (Below.refl _ _) _
    have kC : Bk V w1.heap.size #[.int .i64 (om most)] := hV ▸ Bk.new _ _ _
    have kX : Bk V w.heap.size #[.int .i64 k, .slice a1 n1 c1, .int .i64 lo, .int .i64 hi, .bool z, .slice a2 n2 c2] := ((HK.out.bel HB0.out).bel hb1).bel hbV
    have hwV : Below w.heap.size w V := vb_t (vb_t (vb_t HBW.out HB0.out) hb1) hbV
    have HS : Hid (∀ w', Below V.heap.size V w' → w'.cell? ⟨w.heap.size, 0, none⟩ = some (.int .i64 k) ∧ w'.cell? ⟨w.heap.size, 1, none⟩ = some (.slice a1 n1 c1) ∧ w'.cell? ⟨w.heap.size, 2, none⟩ = some (.int .i64 lo) ∧ w'.cell? ⟨w.heap.size, 3, none⟩ = some (.int .i64 hi) ∧ w'.cell? ⟨w.heap.size, 4, none⟩ = some (.bool z) ∧ w'.cell? ⟨w.heap.size, 5, none⟩ = some (.slice a2 n2 c2) ∧ w'.cell? ⟨w1.heap.size, 0, none⟩ = some (.int .i64 (om most))) := hid_intro (fun w' hb => by
      obtain ⟨b0, b1, b2, b3, b4, b5⟩ := (kX.bel hb).c6
      exact ⟨b0, b1, b2, b3, b4, b5, (kC.bel hb).cell 0⟩)
    have HST2 := hid_intro (fun w' (hb : Below V.heap.size V w') => HST.out w' (vb_t hwV hb))
    have HV := hid_intro hV
    have HWV := hid_intro hwV
    clear hV hbV kC kX hwV hb1 HOM HST HK
    go_wp2_with fail
    rw [HV.out]
    go_region_held3 (fun w' => w'.cell? ⟨w.heap.size, 0, none⟩ = some (.int .i64 k) ∧ w'.cell? ⟨w.heap.size, 1, none⟩ = some (.slice a1 n1 c1) ∧ w'.cell? ⟨w.heap.size, 2, none⟩ = some (.int .i64 lo) ∧ w'.cell? ⟨w.heap.size, 3, none⟩ = some (.int .i64 hi) ∧ w'.cell? ⟨w.heap.size, 4, none⟩ = some (.bool z) ∧ w'.cell? ⟨w.heap.size, 5, none⟩ = some (.slice a2 n2 c2) ∧ w'.cell? ⟨w1.heap.size, 0, none⟩ = some (.int .i64 (om most))) (first | (refine HS.out _ ?_; with_reducible repeat (first | exact Below.refl _ _ | refine vb_d ?_ | refine vb_t ?_ hb4 | refine vb_t ?_ hb3)) | fail) (first | (go_at_call 44; refine (HST2.out _ ?_).mono ?_; (with_reducible repeat (first | exact Below.refl _ _ | refine vb_d ?_)); rintro e w3 ⟨rfl, hb3⟩) | (go_at_call 43; refine (HPL.out _).mono ?_; rintro e w4 ⟨rfl, hb4⟩) | fail)
    all_goals
      go_wp2_with fail
      rw [HP.out, HE.out.1, HE.out.2]
      exact ⟨rfl, vb_t HWV.out (vb_t (by with_reducible repeat (first | exact Below.refl _ _ | refine vb_d ?_ | refine vb_t ?_ hb3)) hb4)⟩
end Go.Proofs.YtoinlmfodmgohaaGreatDoor
