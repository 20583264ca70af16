/-
  The counter over rows of trees. Conditions: each tree's own count is known.
-/
import Derived.Test.YtcgohdfpmfpfiaaG16
import Derived.Deep.RegionHeld3
namespace Go.Proofs.Ytcgohdfpmfpfiaa
open Go.RowKit
attribute [local go_sem] setCell_drewN alloc_drewN

/-- A tree's six cells are of their kinds. -/
def Six (g : Nat → Value) : Prop := ∃ k a n c lo hi z a' n' c', g 0 = .int .i64 k ∧ g 1 = .slice a n c ∧ g 2 = .int .i64 lo ∧ g 3 = .int .i64 hi ∧ g 4 = .bool z ∧ g 5 = .slice a' n' c'
theorem XI.six {w : World} {X : Nat → Prop} {t : RX} {f : Nat → Value} (h : XI w X t f) : Six f := by
  cases h with
  | mk ao cap G f0 f1 f2 f3 f4 f5 hc hw hl hr =>
    obtain ⟨a, c, e, _⟩ := f1.shape
    exact ⟨_, a, _, c, _, _, _, ao, _, cap, f0, e, f2, f3, f4, f5⟩
set_option maxRecDepth 100000 in
set_option maxHeartbeats 3200000 in
theorem all_any (L : Int) (hL0 : 0 ≤ L) (hL : L ≤ 9223372036854775807) (s : List RX) (ao : Option Addr) (cap : Nat) (G : Nat → Nat → Value) (w : World) (hc : s.length ≤ cap ∧ cap ≤ maxLen)
    (hl : s = [] ∨ ∃ b off, ao = some ⟨b, off, none⟩ ∧ ∀ i, i < s.length → ∀ j, j < 6 → w.cell? ⟨b, off + i * 6 + j, none⟩ = some (G i j))
    (hS : ∀ i, i < s.length → Six (G i))
    (hI : ∀ w' i (h : i < s.length), Below w.heap.size w w' → Calls Try.prog 23 #[.agg #[.int .i64 L], .agg #[G i 0, G i 1, G i 2, G i 3, G i 4, G i 5]] w' fun r w2 => r = .returned (.int .i64 (min (szX s[i] : Int) L)) ∧ Below w'.heap.size w' w2) :
    Calls Try.prog 30 #[.agg #[.int .i64 L], .slice ao s.length cap] w fun r w' => r = .returned (.int .i64 (min (szL s : Int) L)) ∧ Below w.heap.size w w' := by
  have hlI : (s.length : Int) ≤ 9223372036854775807 := by have := hc.1; have := hc.2; unfold maxLen at this; omega
  obtain ⟨P, hP⟩ : ∃ P : Ending → World → Prop, P = fun r w' => r = .returned (.int .i64 (min (szL s : Int) L)) ∧ Below w.heap.size w w' := ⟨_, rfl⟩
  rw [← hP]
  have HP := hid_intro hP
  clear hP
  have hpl := fun a b ha hb w' => plus_any L a b hL0 hL ha hb w'
  have HPL := hid_intro hpl
  have HL0 := hid_intro (And.intro hL0 hL)
  have HI := hid_intro hI
  have HS := hid_intro hS
  obtain ⟨W, hW⟩ : ∃ W, w.alloc (.cells #[.int .i64 L] 52) = W := ⟨_, rfl⟩
  have hbW : Below w.heap.size w W := by rw [← hW]; exact vb_a (Below.refl _ _) _
  have hA : Bk W w.heap.size #[.int .i64 L] := by rw [← hW]; exact Bk.new _ _ _
  have HW := hid_intro hW
  have HA := hid_intro hA
  have HX := hid_intro hbW
  have HL : Hid (∀ w', Below W.heap.size W w' → (s = [] ∨ ∃ b off, ao = some ⟨b, off, none⟩ ∧ ∀ i, i < s.length → ∀ j, j < 6 → w'.cell? ⟨b, off + i * 6 + j, none⟩ = some (G i j))) := hid_intro (fun w' hb => by
    rcases hl with hl | ⟨b, off, h1, h3⟩
    · exact .inl hl
    · exact .inr ⟨b, off, h1, fun i hi j hj => by rw [(vb_t hbW hb).cell (p := ⟨b, off + i * 6 + j, none⟩) (World.block_lt_of_cell? w _ (h3 i hi j hj))]; exact h3 i hi j hj⟩)
  clear hl hI hS hpl hL0 hL hW hA hbW hc
  go_enter Try.func30, Try.ntmps30
  go_wp2_with fail
  rw [HW.out]
  go_loopg [5, 10] s.length (fun me s5 s10 wr => ∃ j : Nat, j ≤ s.length ∧ me = s.length - j ∧ s5 = .int .i64 (min (szL (s.take j) : Int) L) ∧ s10 = .int .i64 (j : Int) ∧ Hid (Below W.heap.size W wr))
  case atStart => exact ⟨0, Nat.zero_le _, rfl, by have := HL0.out.1; simp [szL]; omega, rfl, Below.refl _ _⟩
  case round =>
    obtain ⟨j, hj, rfl, rfl, rfl, HZ⟩ := hrel
    by_cases hlt : j < s.length
    · have hJ : (j : Int) < (s.length : Int) := by omega
      obtain ⟨b, off, rfl, h3⟩ := (HL.out wr HZ.out).resolve_left (fun e => by rw [e] at hlt; exact absurd hlt (by simp))
      have g0 : wr.cell? ⟨b, off + j * 6, none⟩ = some (G j 0) := h3 j hlt 0 (by omega)
      have g1 := h3 j hlt 1 (by omega)
      have g2 := h3 j hlt 2 (by omega)
      have g3 := h3 j hlt 3 (by omega)
      have g4 := h3 j hlt 4 (by omega)
      have g5 := h3 j hlt 5 (by omega)
      have HC : Hid (∀ w', Below wr.heap.size wr w' → Calls Try.prog 23 #[.agg #[.int .i64 L], .agg #[G j 0, G j 1, G j 2, G j 3, G j 4, G j 5]] w' fun r w2 => r = .returned (.int .i64 (min (szX s[j] : Int) L)) ∧ Below w'.heap.size w' w2) := hid_intro (fun w' hb => HI.out w' j hlt (vb_t HX.out (vb_t HZ.out hb)))
      have hnn : (0 : Int) ≤ min (szL (s.take j) : Int) L ∧ (0 : Int) ≤ min (szX s[j] : Int) L := by have := HL0.out.1; omega
      have HPC := hid_intro (fun w' => HPL.out (min (szL (s.take j) : Int) L) (min (szX s[j] : Int) L) hnn.1 hnn.2 w')
      have HE : Hid (min (min (szL (s.take j) : Int) L + min (szX s[j] : Int) L) L = min (szL (s.take (j + 1)) : Int) L) := hid_intro (by
        rw [szL_take s j hlt]; have := HL0.out.1; omega)
      clear HL HI h3 hnn HPL
      generalize min (szL (s.take j) : Int) L = va at *
      generalize min (szX s[j] : Int) L = vb at *
      obtain ⟨x0, x1, x2, x3, x4, x5, x6, x7, x8, x9, e0, e1, e2, e3, e4, e5⟩ := HS.out j hlt
      rw [e0] at g0 HC
      rw [e1] at g1 HC
      rw [e2] at g2 HC
      rw [e3] at g3 HC
      rw [e4] at g4 HC
      rw [e5] at g5 HC
      clear e0 e1 e2 e3 e4 e5 HS
      obtain ⟨V, hV⟩ : ∃ V, wr.alloc (.cells #[.int .i64 x0, .slice x1 x2 x3, .int .i64 x4, .int .i64 x5, .bool x6, .slice x7 x8 x9] 32) = V := ⟨_, rfl⟩
      have hVb : Below wr.heap.size wr V := hV ▸ vb_a (Below.refl _ _) _
      have kV : Bk V wr.heap.size #[.int .i64 x0, .slice x1 x2 x3, .int .i64 x4, .int .i64 x5, .bool x6, .slice x7 x8 x9] := hV ▸ Bk.new _ _ _
      have kA : Bk V w.heap.size #[.int .i64 L] := (HA.out.bel HZ.out).bel hVb
      have HSV : Hid (∀ w', Below V.heap.size V w' → w'.cell? ⟨w.heap.size, 0, none⟩ = some (.int .i64 L) ∧ w'.cell? ⟨wr.heap.size, 0, none⟩ = some (.int .i64 x0) ∧ w'.cell? ⟨wr.heap.size, 1, none⟩ = some (.slice x1 x2 x3) ∧ w'.cell? ⟨wr.heap.size, 2, none⟩ = some (.int .i64 x4) ∧ w'.cell? ⟨wr.heap.size, 3, none⟩ = some (.int .i64 x5) ∧ w'.cell? ⟨wr.heap.size, 4, none⟩ = some (.bool x6) ∧ w'.cell? ⟨wr.heap.size, 5, none⟩ = some (.slice x7 x8 x9)) := hid_intro (fun w' hb => by
        obtain ⟨a0, a1, a2, a3, a4, a5⟩ := (kV.bel hb).c6
        exact ⟨(kA.bel hb).cell 0, a0, a1, a2, a3, a4, a5⟩)
      have HC2 : Hid (∀ w', Below V.heap.size V w' → Calls Try.prog 23 #[.agg #[.int .i64 L], .agg #[.int .i64 x0, .slice x1 x2 x3, .int .i64 x4, .int .i64 x5, .bool x6, .slice x7 x8 x9]] w' fun r w2 => r = .returned (.int .i64 vb) ∧ Below w'.heap.size w' w2) := hid_intro (fun w' hb => HC.out w' (vb_t hVb hb))
      have HV := hid_intro hV
      have HVb := hid_intro hVb
      clear hV hVb kV kA HC
      go_wp2_with fail
      rw [HV.out]
      clear g0 g1 g2 g3 g4 g5 HA
      go_region_held3 (fun w' => w'.cell? ⟨w.heap.size, 0, none⟩ = some (.int .i64 L) ∧ w'.cell? ⟨wr.heap.size, 0, none⟩ = some (.int .i64 x0) ∧ w'.cell? ⟨wr.heap.size, 1, none⟩ = some (.slice x1 x2 x3) ∧ w'.cell? ⟨wr.heap.size, 2, none⟩ = some (.int .i64 x4) ∧ w'.cell? ⟨wr.heap.size, 3, none⟩ = some (.int .i64 x5) ∧ w'.cell? ⟨wr.heap.size, 4, none⟩ = some (.bool x6) ∧ w'.cell? ⟨wr.heap.size, 5, none⟩ = some (.slice x7 x8 x9)) (first | (refine HSV.out _ ?_; with_reducible repeat (first | exact Below.refl _ _ | refine vb_d ?_ | refine vb_t ?_ hb4 | refine vb_t ?_ hb3)) | fail) (first | (go_at_call 23; refine (HC2.out _ ?_).mono ?_; (with_reducible repeat (first | exact Below.refl _ _ | refine vb_d ?_)); rintro r w3 ⟨rfl, hb3⟩) | (go_at_call 22; refine (HPC.out _).mono ?_; rintro r w4 ⟨rfl, hb4⟩) | fail)
      all_goals
        have HNX : Hid (Below W.heap.size W w4) := hid_intro (vb_t HZ.out (vb_t HVb.out (vb_t (by with_reducible repeat (first | exact Below.refl _ _ | refine vb_d ?_ | refine vb_t ?_ hb3)) hb4)))
        clear HSV HC2 HPC
        go_wp2_with fail
        go_roundg (s.length - (j + 1))
        case measure => omega
        case rel => exact ⟨j + 1, by omega, rfl, by rw [← HE.out], by simp, HNX⟩
    · have hJ : ¬ (j : Int) < (s.length : Int) := by omega
      have HE : Hid (szL (s.take j) = szL s) := hid_intro (by rw [List.take_of_length_le (by omega)])
      rw [HE.out]
      clear HL HI
      go_wp2_with fail
      rw [HP.out]
      exact ⟨rfl, vb_t HX.out HZ.out⟩
end Go.Proofs.Ytcgohdfpmfpfiaa
