/-
  The counter over rows of trees. Conditions: each tree's own count is known.
  Trees in which nothing is longer than a bound. No condition.
  Which trees may be, as the program asks it. Conditions: no row of ranges is longer than 2^40.
  Whether ranges are a set, by the document's answer. Conditions: none.
  Which trees may be, by the document's answer. Conditions: none.
-/
import Derived.Test.YtoinlmfodmgohaaGreatDoorJoined24
import Derived.Deep.RegionHeld3
import Derived.Test.YtoinlmfodmgohaaGreatDoorJoined4
import Derived.Test.YtoinlmfodmgohaaGreatDoorJoined9
import Derived.BigQuiet
import Derived.Test.YtoinlmfodmgohaaGreatDoorJoined5
namespace Go.Proofs.YtoinlmfodmgohaaGreatDoor
open Go.RowKit
attribute [local go_sem] setCell_drewN alloc_drewN

/-- A tree's six cells are of their kinds. -/
def Six (g : Nat → Value) : Prop := ∃ k a n c lo hi z a' n' c', g 0 = .int .i64 k ∧ g 1 = .slice a n c ∧ g 2 = .int .i64 lo ∧ g 3 = .int .i64 hi ∧ g 4 = .bool z ∧ g 5 = .slice a' n' c'
theorem XI.six {w : World} {X : Nat → Prop} {t : RX} {f : Nat → Value} (h : XI w X t f) : Six f := by
  cases h with
  | mk ao cap G f0 f1 f2 f3 f4 f5 hc hw hl hr =>
    obtain ⟨a, c, e, _⟩ := f1.shape
    exact ⟨_, a, _, c, _, _, _, ao, _, cap, f0, e, f2, f3, f4, f5⟩
set_option maxRecDepth 100000 in
set_option maxHeartbeats 3200000 in
theorem all_any (L : Int) (hL0 : 0 ≤ L) (hL : L ≤ 9223372036854775807) (s : List RX) (ao : Option Addr) (cap : Nat) (G : Nat → Nat → Value) (w : World) (hc : s.length ≤ cap ∧ cap ≤ maxLen)
    (hl : s = [] ∨ ∃ b off, ao = some ⟨b, off, none⟩ ∧ ∀ i, i < s.length → ∀ j, j < 6 → w.cell? ⟨b, off + i * 6 + j, none⟩ = some (G i j))
    (hS : ∀ i, i < s.length → Six (G i))
    (hI : ∀ w' i (h : i < s.length), Below w.heap.size w w' → Calls Tryz.prog 44 #[.agg #[.int .i64 L], .agg #[G i 0, G i 1, G i 2, G i 3, G i 4, G i 5]] w' fun r w2 => r = .returned (.int .i64 (min (szX s[i] : Int) L)) ∧ Below w'.heap.size w' w2) :
    Calls Tryz.prog 67 #[.agg #[.int .i64 L], .slice ao s.length cap] w fun r w' => r = .returned (.int .i64 (min (szL s : Int) L)) ∧ Below w.heap.size w w' := by
  have hlI : (s.length : Int) ≤ 9223372036854775807 := by have := hc.1; have := hc.2; unfold maxLen at this; omega
  obtain ⟨P, hP⟩ : ∃ P : Ending → World → Prop, P = fun r w' => r = .returned (.int .i64 (min (szL s : Int) L)) ∧ Below w.heap.size w w' := ⟨_, rfl⟩
  rw [← hP]
  have HP := hid_intro hP
  clear hP
  have hpl := fun a b ha hb w' => plus_any L a b hL0 hL ha hb w'
  have HPL := hid_intro hpl
  have HL0 := hid_intro (And.intro hL0 hL)
  have HI := hid_intro hI
  have HS := hid_intro hS
  obtain ⟨W, hW⟩ : ∃ W, w.alloc (.cells #[.int .i64 L] 82) = W := ⟨_, rfl⟩
  have hbW : Below w.heap.size w W := by rw [← hW]; exact vb_a (Below.refl _ _) _
  have hA : Bk W w.heap.size #[.int .i64 L] := by rw [← hW]; exact Bk.new _ _ _
  have HW := hid_intro hW
  have HA := hid_intro hA
  have HX := hid_intro hbW
  have HL : Hid (∀ w', Below W.heap.size W w' → (s = [] ∨ ∃ b off, ao = some ⟨b, off, none⟩ ∧ ∀ i, i < s.length → ∀ j, j < 6 → w'.cell? ⟨b, off + i * 6 + j, none⟩ = some (G i j))) := hid_intro (fun w' hb => by
    rcases hl with hl | ⟨b, off, h1, h3⟩
    · exact .inl hl
    · exact .inr ⟨b, off, h1, fun i hi j hj => by rw [(vb_t hbW hb).cell (p := ⟨b, off + i * 6 + j, none⟩) (World.block_lt_of_cell? w _ (h3 i hi j hj))]; exact h3 i hi j hj⟩)
  clear hl hI hS hpl hL0 hL hW hA hbW hc
  go_enter Tryz.func67, Tryz.ntmps67
  go_wp2_with fail
  rw [HW.out]
  go_loopg [5, 10] s.length (fun me s5 s10 wr => ∃ j : Nat, j ≤ s.length ∧ me = s.length - j ∧ s5 = .int .i64 (min (szL (s.take j) : Int) L) ∧ s10 = .int .i64 (j : Int) ∧ Hid (Below W.heap.size W wr))
  case atStart => exact ⟨0, Nat.zero_le _, rfl, by have := HL0.out.1; simp [szL]; omega, rfl, Below.refl _ _⟩
  case round =>
    obtain ⟨j, hj, rfl, rfl, rfl, HZ⟩ := hrel
    by_cases hlt : j < s.length
    · have hJ : (j : Int) < (s.length : Int) := by omega
      obtain ⟨b, off, rfl, h3⟩ := (HL.out wr HZ.out).resolve_left (fun e => by rw [e] at hlt; exact absurd hlt (by simp))
      have g0 : wr.cell? ⟨b, off + j * 6, none⟩ = some (G j 0) := h3 j hlt 0 (by omega)
      have g1 := h3 j hlt 1 (by omega)
      have g2 := h3 j hlt 2 (by omega)
      have g3 := h3 j hlt 3 (by omega)
      have g4 := h3 j hlt 4 (by omega)
      have g5 := h3 j hlt 5 (by omega)
      have HC : Hid (∀ w', Below wr.heap.size wr w' → Calls Tryz.prog 44 #[.agg #[.int .i64 L], .agg #[G j 0, G j 1, G j 2, G j 3, G j 4, G j 5]] w' fun r w2 => r = .returned (.int .i64 (min (szX s[j] : Int) L)) ∧ Below w'.heap.size w' w2) := hid_intro (fun w' hb => HI.out w' j hlt (vb_t HX.out (vb_t HZ.out hb)))
      have hnn : (0 : Int) ≤ min (szL (s.take j) : Int) L ∧ (0 : Int) ≤ min (szX s[j] : Int) L := by have := HL0.out.1; omega
      have HPC := hid_intro (fun w' => HPL.out (min (szL (s.take j) : Int) L) (min (szX s[j] : Int) L) hnn.1 hnn.2 w')
      have HE : Hid (min (min (szL (s.take j) : Int) L + min (szX s[j] : Int) L) L = min (szL (s.take (j + 1)) : Int) L) := hid_intro (by
        rw [szL_take s j hlt]; have := HL0.out.1; omega)
      clear HL HI h3 hnn HPL
      generalize min (szL (s.take j) : Int) L = va at *
      generalize min (szX s[j] : Int) L = vb at *
      obtain ⟨x0, x1, x2, x3, x4, x5, x6, x7, x8, x9, e0, e1, e2, e3, e4, e5⟩ := HS.out j hlt
      rw [e0] at g0 HC
      rw [e1] at g1 HC
      rw [e2] at g2 HC
      rw [e3] at g3 HC
      rw [e4] at g4 HC
      rw [e5] at g5 HC
      clear e0 e1 e2 e3 e4 e5 HS
      obtain ⟨V, hV⟩ : ∃ V, wr.alloc (.cells #[.int .i64 x0, .slice x1 x2 x3, .int .i64 x4, .int .i64 x5, .bool x6, .slice x7 x8 x9] 31) = V := ⟨_, rfl⟩
      have hVb : Below wr.heap.size wr V := hV ▸ vb_a (Below.refl _ _) _
      have kV : Bk V wr.heap.size #[.int .i64 x0, .slice x1 x2 x3, .int .i64 x4, .int .i64 x5, .bool x6, .slice x7 x8 x9] := hV ▸ Bk.new _ _ _
      have kA : Bk V w.heap.size #[.int .i64 L] := (HA.out.bel HZ.out).bel hVb
      have HSV : Hid (∀ w', Below V.heap.size V w' → w'.cell? ⟨w.heap.size, 0, none⟩ = some (.int .i64 L) ∧ w'.cell? ⟨wr.heap.size, 0, none⟩ = some (.int .i64 x0) ∧ w'.cell? ⟨wr.heap.size, 1, none⟩ = some (.slice x1 x2 x3) ∧ w'.cell? ⟨wr.heap.size, 2, none⟩ = some (.int .i64 x4) ∧ w'.cell? ⟨wr.heap.size, 3, none⟩ = some (.int .i64 x5) ∧ w'.cell? ⟨wr.heap.size, 4, none⟩ = some (.bool x6) ∧ w'.cell? ⟨wr.heap.size, 5, none⟩ = some (.slice x7 x8 x9)) := hid_intro (fun w' hb => by
        obtain ⟨a0, a1, a2, a3, a4, a5⟩ := (kV.bel hb).c6
        exact ⟨(kA.bel hb).cell 0, a0, a1, a2, a3, a4, a5⟩)
      have HC2 : Hid (∀ w', Below V.heap.size V w' → Calls Tryz.prog 44 #[.agg #[.int .i64 L], .agg #[.int .i64 x0, .slice x1 x2 x3, .int .i64 x4, .int .i64 x5, .bool x6, .slice x7 x8 x9]] w' fun r w2 => r = .returned (.int .i64 vb) ∧ Below w'.heap.size w' w2) := hid_intro (fun w' hb => HC.out w' (vb_t hVb hb))
      have HV := hid_intro hV
      have HVb := hid_intro hVb
      clear hV hVb kV kA HC
      go_wp2_with fail
      rw [HV.out]
      clear g0 g1 g2 g3 g4 g5 HA
      go_region_held3 (fun w' => w'.cell? ⟨w.heap.size, 0, none⟩ = some (.int .i64 L) ∧ w'.cell? ⟨wr.heap.size, 0, none⟩ = some (.int .i64 x0) ∧ w'.cell? ⟨wr.heap.size, 1, none⟩ = some (.slice x1 x2 x3) ∧ w'.cell? ⟨wr.heap.size, 2, none⟩ = some (.int .i64 x4) ∧ w'.cell? ⟨wr.heap.size, 3, none⟩ = some (.int .i64 x5) ∧ w'.cell? ⟨wr.heap.size, 4, none⟩ = some (.bool x6) ∧ w'.cell? ⟨wr.heap.size, 5, none⟩ = some (.slice x7 x8 x9)) (first | (refine HSV.out _ ?_; with_reducible repeat (first | exact Below.refl _ _ | refine vb_d ?_ | refine vb_t ?_ hb4 | refine vb_t ?_ hb3)) | fail) (first | (go_at_call 44; refine (HC2.out _ ?_).mono ?_; (with_reducible repeat (first | exact Below.refl _ _ | refine vb_d ?_)); rintro r w3 ⟨rfl, hb3⟩) | (go_at_call 43; refine (HPC.out _).mono ?_; rintro r w4 ⟨rfl, hb4⟩) | fail)
      all_goals
        have HNX : Hid (Below W.heap.size W w4) := hid_intro (vb_t HZ.out (vb_t HVb.out (vb_t (by with_reducible repeat (first | exact Below.refl _ _ | refine vb_d ?_ | refine vb_t ?_ hb3)) hb4)))
        clear HSV HC2 HPC
        go_wp2_with fail
        go_roundg (s.length - (j + 1))
        case measure => omega
        case rel => exact ⟨j + 1, by omega, rfl, by rw [← HE.out], by simp, HNX⟩
    · have hJ : ¬ (j : Int) < (s.length : Int) := by omega
      have HE : Hid (szL (s.take j) = szL s) := hid_intro (by rw [List.take_of_length_le (by omega)])
      rw [HE.out]
      clear HL HI
      go_wp2_with fail
      rw [HP.out]
      exact ⟨rfl, vb_t HX.out HZ.out⟩
end Go.Proofs.YtoinlmfodmgohaaGreatDoor

namespace Go.Proofs.YtoinlmfodmgohaaGreatDoor

/-- Nothing in it is longer than N. -/
inductive BdX (N : Nat) : RX → Prop
  | mk {k : Int} {r : List (Int × Int)} {lo hi : Int} {z : Bool} {s : List RX} (h1 : r.length ≤ N) (h2 : s.length ≤ N) (h3 : ∀ c ∈ s, BdX N c) : BdX N (.mk k r lo hi z s)
theorem BdX.mono {N M : Nat} {v : RX} (h : BdX N v) (hle : N ≤ M) : BdX M v := by
  induction v using RX.ind with
  | h k r lo hi z s ih =>
    cases h with
    | mk h1 h2 h3 => exact .mk (by omega) (by omega) (fun c hc => ih c hc (h3 c hc))
theorem BdX.r {N : Nat} {k : Int} {r : List (Int × Int)} {lo hi : Int} {z : Bool} {s : List RX} (h : BdX N (.mk k r lo hi z s)) : r.length ≤ N := by cases h; assumption
theorem BdX.s {N : Nat} {k : Int} {r : List (Int × Int)} {lo hi : Int} {z : Bool} {s : List RX} (h : BdX N (.mk k r lo hi z s)) : ∀ c ∈ s, BdX N c := by cases h; assumption
theorem BdX.n {N : Nat} {k : Int} {r : List (Int × Int)} {lo hi : Int} {z : Bool} {s : List RX} (h : BdX N (.mk k r lo hi z s)) : s.length ≤ N := by cases h; assumption
end Go.Proofs.YtoinlmfodmgohaaGreatDoor

namespace Go.Proofs.YtoinlmfodmgohaaGreatDoor
open Go.RowKit
attribute [local go_sem] setCell_drewN alloc_drewN

set_option maxRecDepth 100000 in
set_option maxHeartbeats 3200000 in
theorem may_any : ∀ (d : Nat), d ≤ 1000 → ∀ (t : RX) (f : Nat → Value) (w : World) (X : Nat → Prop), BdX 1099511627776 t → XI w X t f →
    Calls Tryz.prog 66 #[xa f, .int .i64 (d : Int)] w fun r' w' => r' = .returned (.bool (mayB d t)) ∧ Below w.heap.size w w' := by
  intro d
  induction d with
  | zero =>
    intro _ t f w X _ hv
    obtain ⟨k, a, n, c, lo, hi, z, a', n', c', e0, e1, e2, e3, e4, e5⟩ := hv.six
    have exa : xa f = .agg #[.int .i64 k, .slice a n c, .int .i64 lo, .int .i64 hi, .bool z, .slice a' n' c'] := by unfold xa; rw [e0, e1, e2, e3, e4, e5]
    rw [exa]
    have em : mayB 0 t = false := rfl
    rw [em]
    obtain ⟨P, hP⟩ : ∃ P : Ending → World → Prop, P = fun r' w' => r' = .returned (.bool false) ∧ Below w.heap.size w w' := ⟨_, rfl⟩
    rw [← hP]
    have HP := hid_intro hP
    clear hP hv exa em
    go_enter Tryz.func66, Tryz.ntmps66
    go_wp2_with fail
    rw [HP.out]
    exact ⟨rfl, vb_a (Below.refl _ _) _⟩
  | succ d ih =>
    intro hd1 t f w X hbd hv
    obtain ⟨k, r, lo, hi, z, s⟩ := t
    have hbr := hbd.r
    have hbs := hbd.s
    cases hv with
    | mk ao cap G f0 f1 f2 f3 f4 f5 hc hw hl hr =>
    obtain ⟨a1, c1, e1, _⟩ := f1.shape
    have exa : xa f = .agg #[.int .i64 k, .slice a1 r.length c1, .int .i64 lo, .int .i64 hi, .bool z, .slice ao s.length cap] := by unfold xa; rw [f0, e1, f2, f3, f4, f5]
    rw [exa]
    have hlI : (s.length : Int) ≤ 9223372036854775807 := by have := hc.1; have := hc.2; unfold maxLen at this; omega
    obtain ⟨P, hP⟩ : ∃ P : Ending → World → Prop, P = fun r' w' => r' = .returned (.bool (mayB (d + 1) (.mk k r lo hi z s))) ∧ Below w.heap.size w w' := ⟨_, rfl⟩
    rw [← hP]
    have HP := hid_intro hP
    clear hP
    obtain ⟨W, hW⟩ : ∃ W, w.alloc (.cells #[.int .i64 k, .slice a1 r.length c1, .int .i64 lo, .int .i64 hi, .bool z, .slice ao s.length cap] 31) = W := ⟨_, rfl⟩
    have hbW : Below w.heap.size w W := hW ▸ vb_a (Below.refl _ _) _
    have kX : Bk W w.heap.size #[.int .i64 k, .slice a1 r.length c1, .int .i64 lo, .int .i64 hi, .bool z, .slice ao s.length cap] := hW ▸ Bk.new _ _ _
    have hown := own_any k r a1 c1 lo hi z ao s.length cap W X ((e1 ▸ f1).kept hbW) hbr
    have HL : Hid (∀ w', Below W.heap.size W w' → (s = [] ∨ ∃ b off, ao = some ⟨b, off, none⟩ ∧ ∀ i, i < s.length → ∀ j, j < 6 → w'.cell? ⟨b, off + i * 6 + j, none⟩ = some (G i j))) := hid_intro (fun w' hb => by
      rcases hl with hl | ⟨b, off, h1, _, h3⟩
      · exact .inl hl
      · exact .inr ⟨b, off, h1, fun i hi j hj => by rw [(vb_t hbW hb).cell (p := ⟨b, off + i * 6 + j, none⟩) (World.block_lt_of_cell? w _ (h3 i hi j hj))]; exact h3 i hi j hj⟩)
    have HI : Hid (∀ w' i (h : i < s.length), Below W.heap.size W w' → Calls Tryz.prog 66 #[.agg #[G i 0, G i 1, G i 2, G i 3, G i 4, G i 5], .int .i64 (d : Int)] w' fun r' w2 => r' = .returned (.bool (mayB d s[i])) ∧ Below w'.heap.size w' w2) := hid_intro (fun w' i h hb =>
      ih (by omega) s[i] (G i) w' X (hbs _ (List.getElem_mem h)) ((hr i h).kept (vb_t hbW hb)))
    have HSix := hid_intro (fun i h => (hr i h).six)
    have HE : Hid (mayB (d + 1) (.mk k r lo hi z s) = (ownB k r lo hi z s.length && s.all (mayB d))) := hid_intro rfl
    have HX := hid_intro hbW
    have HW := hid_intro hW
    have HK := hid_intro kX
    have hdI : (d : Int) + 1 ≤ 1000 := by omega
    have hdz : ¬ ((d : Int) + 1 = 0) := by omega
    have ecast : ((d + 1 : Nat) : Int) = (d : Int) + 1 := rfl
    rw [ecast]
    clear hl hr ih hbW kX hW exa f1 hbd hbr hbs ecast hd1 hw
    go_enter Tryz.func66, Tryz.ntmps66
    go_wp2_with fail
    rw [HW.out]
    refine hown.mono ?_; rintro r' w1 ⟨rfl, hb1⟩
    obtain ⟨a0, a1', a2, a3, a4, a5⟩ := (HK.out.bel hb1).c6
    cases hob : ownB k r lo hi z s.length
    · have HF : Hid (mayB (d + 1) (.mk k r lo hi z s) = false) := hid_intro (by rw [HE.out, hob]; rfl)
      clear hob HE HL HI HSix
      go_wp2_with fail
      rw [HP.out, HF.out]
      exact ⟨rfl, vb_t HX.out hb1⟩
    · have HE2 : Hid (mayB (d + 1) (.mk k r lo hi z s) = s.all (mayB d)) := hid_intro (by rw [HE.out, hob]; rfl)
      clear hob HE
      go_wp2_with fail
      clear a0 a1' a2 a3 a4 a5
      go_loopg [17] s.length (fun me s17 wr => ∃ j : Nat, j ≤ s.length ∧ me = s.length - j ∧ s17 = .int .i64 (j : Int) ∧ Hid (∀ i (h : i < s.length), i < j → mayB d s[i] = true) ∧ Hid (Below W.heap.size W wr))
      case atStart => exact ⟨0, Nat.zero_le _, rfl, rfl, fun i _ h => absurd h (by omega), hb1⟩
      case round =>
        obtain ⟨j, hj, rfl, rfl, HA, HZ⟩ := hrel
        clear hb1
        by_cases hlt : j < s.length
        · have hJ : (j : Int) < (s.length : Int) := by omega
          obtain ⟨b, off, rfl, h3⟩ := (HL.out wr HZ.out).resolve_left (fun e => by rw [e] at hlt; exact absurd hlt (by simp))
          have g0 : wr.cell? ⟨b, off + j * 6, none⟩ = some (G j 0) := h3 j hlt 0 (by omega)
          have g1 := h3 j hlt 1 (by omega)
          have g2 := h3 j hlt 2 (by omega)
          have g3 := h3 j hlt 3 (by omega)
          have g4 := h3 j hlt 4 (by omega)
          have g5 := h3 j hlt 5 (by omega)
          have HC : Hid (∀ w', Below wr.heap.size wr w' → Calls Tryz.prog 66 #[.agg #[G j 0, G j 1, G j 2, G j 3, G j 4, G j 5], .int .i64 (d : Int)] w' fun r' w2 => r' = .returned (.bool (mayB d s[j])) ∧ Below w'.heap.size w' w2) := hid_intro (fun w' hb => HI.out w' j hlt (vb_t HZ.out hb))
          obtain ⟨x0, x1, x2, x3, x4, x5, x6, x7, x8, x9, e0, e1, e2, e3, e4, e5⟩ := HSix.out j hlt
          rw [e0] at g0 HC
          rw [e1] at g1 HC
          rw [e2] at g2 HC
          rw [e3] at g3 HC
          rw [e4] at g4 HC
          rw [e5] at g5 HC
          clear e0 e1 e2 e3 e4 e5 HSix HL HI h3
          cases hmb : mayB d s[j]
          · have HF : Hid (mayB (d + 1) (.mk k r lo hi z s) = false) := hid_intro (by
              rw [HE2.out, List.all_eq_false]
              exact ⟨s[j], List.getElem_mem hlt, by rw [hmb]; decide⟩)
            rw [hmb] at HC
            clear hmb HA HE2
            go_wp2_with fail
            refine (HC.out _ (vb_a (Below.refl _ _) _)).mono ?_; rintro r' w3 ⟨rfl, hb3⟩
            have HB := hid_intro (vb_t (vb_a (Below.refl _ _) _) hb3)
            clear hb3
            go_wp2_with fail
            rw [HP.out, HF.out]
            exact ⟨rfl, vb_t HX.out (vb_t HZ.out HB.out)⟩
          · have HA2 : Hid (∀ i (h : i < s.length), i < j + 1 → mayB d s[i] = true) := hid_intro (fun i h hi => by
              by_cases e : i = j
              · subst e; exact hmb
              · exact HA.out i h (by omega))
            rw [hmb] at HC
            clear hmb HA HE2
            go_wp2_with fail
            refine (HC.out _ (vb_a (Below.refl _ _) _)).mono ?_; rintro r' w3 ⟨rfl, hb3⟩
            have HB := hid_intro (vb_t HZ.out (vb_t (vb_a (Below.refl _ _) _) hb3))
            clear hb3
            go_wp2_with fail
            go_roundg (s.length - (j + 1))
            case measure => omega
            case rel => exact ⟨j + 1, by omega, rfl, by simp, HA2, HB⟩
        · have hJ : ¬ (j : Int) < (s.length : Int) := by omega
          have HF : Hid (mayB (d + 1) (.mk k r lo hi z s) = true) := hid_intro (by
            rw [HE2.out, List.all_eq_true]
            intro x hx
            obtain ⟨i, hi, rfl⟩ := List.getElem_of_mem hx
            exact HA.out i hi (by omega))
          clear HL HI HA HE2
          go_wp2_with fail
          rw [HP.out, HF.out]
          exact ⟨rfl, vb_t HX.out HZ.out⟩
set_option maxRecDepth 100000 in
set_option maxHeartbeats 800000 in
theorem check_any (t : RX) (f : Nat → Value) (w : World) (X : Nat → Prop) (hbd : BdX 1099511627776 t) (hv : XI w X t f) :
    Calls Tryz.prog 41 #[xa f] w fun r' w' => r' = .returned (.int .i64 (if rightB 1000 t = true then 0 else 91)) ∧ Below w.heap.size w w' := by
  obtain ⟨k, a, n, c, lo, hi, z, a', n', c', e0, e1, e2, e3, e4, e5⟩ := hv.six
  have exa : xa f = .agg #[.int .i64 k, .slice a n c, .int .i64 lo, .int .i64 hi, .bool z, .slice a' n' c'] := by unfold xa; rw [e0, e1, e2, e3, e4, e5]
  have hm := may_any 1000 (by omega) t f _ X hbd (hv.kept (vb_a (Below.refl w.heap.size w) (.cells #[.int .i64 k, .slice a n c, .int .i64 lo, .int .i64 hi, .bool z, .slice a' n' c'] 31)))
  rw [may_right, exa] at hm
  rw [exa]
  obtain ⟨P, hP⟩ : ∃ P : Ending → World → Prop, P = fun r' w' => r' = .returned (.int .i64 (if rightB 1000 t = true then 0 else 91)) ∧ Below w.heap.size w w' := ⟨_, rfl⟩
  rw [← hP]
  have HP := hid_intro hP
  clear hP hv exa e0 e1 e2 e3 e4 e5 hbd
  cases hb : rightB 1000 t
  all_goals
    rw [hb] at hm HP
    clear hb
    go_enter Tryz.func41, Tryz.ntmps41
    go_wp2_with fail
    refine hm.mono ?_; rintro r' w1 ⟨rfl, hb1⟩
    have HB := hid_intro (vb_t (vb_a (Below.refl _ _) _) hb1)
    clear hb1
    go_wp2_with fail
    rw [HP.out]
    exact ⟨rfl, HB.out⟩
end Go.Proofs.YtoinlmfodmgohaaGreatDoor

namespace Go.Proofs.YtoinlmfodmgohaaGreatDoor
open Go.RowKit
attribute [local go_sem] setCell_drewN alloc_drewN

end Go.Proofs.YtoinlmfodmgohaaGreatDoor

namespace Go.Proofs.YtoinlmfodmgohaaGreatDoor
open Go.RowKit
attribute [local go_sem] setCell_drewN alloc_drewN

theorem headB_no {k : Int} {r : List (Int × Int)} {lo hi : Int} {z : Bool} (h : (k ≠ 2 ∧ r.length > 0) ∨ (k ≠ 5 ∧ (lo ≠ 0 ∨ hi ≠ 0 ∨ z = true))) : headB k r lo hi z = false := by
  unfold headB
  rcases h with ⟨h1, h2⟩ | ⟨h1, h2⟩
  · rw [decide_eq_true h1, decide_eq_true h2]; rfl
  · rw [decide_eq_true h1]
    rcases h2 with h2 | h2 | h2
    · rw [decide_eq_true h2]; simp
    · rw [decide_eq_true h2]; simp
    · rw [h2]; simp
theorem headB_yes {k : Int} {r : List (Int × Int)} {lo hi : Int} {z : Bool} (h : (k = 2 ∨ r.length = 0) ∧ (k = 5 ∨ (lo = 0 ∧ hi = 0 ∧ z = false))) : headB k r lo hi z = rgB r := by
  unfold headB
  obtain ⟨h1, h2⟩ := h
  have e1 : (decide (k ≠ 2) && decide (r.length > 0)) = false := by
    rcases h1 with h | h
    · rw [decide_eq_false (by simpa using h)]; rfl
    · rw [decide_eq_false (by omega : ¬ r.length > 0)]; simp
  have e2 : (decide (k ≠ 5) && (decide (lo ≠ 0) || decide (hi ≠ 0) || z)) = false := by
    rcases h2 with h | ⟨h, h', h''⟩
    · rw [decide_eq_false (by simpa using h)]; rfl
    · rw [decide_eq_false (show ¬ lo ≠ 0 by simpa using h), decide_eq_false (show ¬ hi ≠ 0 by simpa using h'), h'']; simp
  rw [e1, e2]; simp
theorem kindB_34 {k : Int} (hk : k = 3 ∨ k = 4) (lo hi : Int) (n : Nat) : kindB k lo hi n = !decide (n < 2) := if_pos hk
theorem kindB_5 (lo hi : Int) (n : Nat) : kindB 5 lo hi n = !(decide (n ≠ 1) || decide (lo < 0) || decide (lo > 1000) || decide (hi < -1) || decide (hi > 1000) || (decide (hi ≥ 0) && decide (hi < lo))) := rfl
theorem kindB_1 {k : Int} (hk : k = 2 ∨ k = 1 ∨ k = 6 ∨ k = 7 ∨ k = 8 ∨ k = 9) (lo hi : Int) (n : Nat) : kindB k lo hi n = !decide (n > 0) := by
  unfold kindB; rw [if_neg (by omega), if_neg (by omega), if_pos hk]
theorem kindB_no {k : Int} (h3 : ¬ (k = 3 ∨ k = 4)) (h5 : ¬ k = 5) (h1 : ¬ (k = 2 ∨ k = 1 ∨ k = 6 ∨ k = 7 ∨ k = 8 ∨ k = 9)) (lo hi : Int) (n : Nat) : kindB k lo hi n = false := by
  unfold kindB; rw [if_neg h3, if_neg h5, if_neg h1]

end Go.Proofs.YtoinlmfodmgohaaGreatDoor
