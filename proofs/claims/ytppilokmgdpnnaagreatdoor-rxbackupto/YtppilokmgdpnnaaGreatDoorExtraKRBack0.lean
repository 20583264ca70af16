/-
  What the statement's question answers: whether a tree has a range that begins or ends with a surrogate. No condition.
-/
import Derived.Test.YtppilokmgdpnnaaGreatDoorJoined28
import Derived.Test.YtppilokmgdpnnaaGreatDoorJoined7
import Derived.Deep.RegionHeld3
namespace Go.Proofs.YtppilokmgdpnnaaGreatDoor
open Go.RowKit
attribute [local go_sem] setCell_drewN alloc_drewN

/-- Does a range begin or end with a surrogate? -/
def sur2 (r : Int × Int) : Bool := (decide (55296 ≤ r.1) && decide (r.1 ≤ 57343)) || (decide (55296 ≤ r.2) && decide (r.2 ≤ 57343))
mutual
def loneX : RX → Bool
  | .mk _ r _ _ _ s => r.any sur2 || loneL s
def loneL : List RX → Bool
  | [] => false
  | x :: l => loneX x || loneL l
end
theorem loneL_any : ∀ l : List RX, loneL l = l.any loneX
  | [] => rfl
  | x :: l => by rw [loneL, List.any_cons, loneL_any l]
theorem any_take {α : Type} (l : List α) (p : α → Bool) (j : Nat) (h : j < l.length) : (l.take (j + 1)).any p = ((l.take j).any p || p l[j]) := by
  rw [List.take_succ_eq_append_getElem h, List.any_append]; simp
set_option maxRecDepth 100000 in
set_option maxHeartbeats 3200000 in
theorem lone_any : ∀ (t : RX) (f : Nat → Value) (w : World) (Y : Nat → Prop), XI w Y t f →
    Calls Tryz.prog 11 #[xa f] w fun e w' => e = .returned (.bool (loneX t)) ∧ Below w.heap.size w w' := by
  intro t
  induction t using RX.ind with
  | h k r lo hi z s ih =>
    intro f w Y hv
    cases hv with
    | mk ao cap G f0 f1 f2 f3 f4 f5 hc hw hl hr =>
    have HRI := hid_intro f1
    obtain ⟨a1, c1, e1, hr1⟩ := f1.shape
    have exa : xa f = .agg #[.int .i64 k, .slice a1 r.length c1, .int .i64 lo, .int .i64 hi, .bool z, .slice ao s.length cap] := by unfold xa; rw [f0, e1, f2, f3, f4, f5]
    rw [exa]
    have hlI : (s.length : Int) ≤ 9223372036854775807 := by have := hc.1; have := hc.2; unfold maxLen at this; omega
    have hrI : (r.length : Int) ≤ 9223372036854775807 := by unfold maxLen at hr1; omega
    obtain ⟨P, hP⟩ : ∃ P : Ending → World → Prop, P = fun e w' => e = .returned (.bool (loneX (.mk k r lo hi z s))) ∧ Below w.heap.size w w' := ⟨_, rfl⟩
    rw [← hP]
    have HP := hid_intro hP
    obtain ⟨W, hW⟩ : ∃ W, w.alloc (.cells #[.int .i64 k, .slice a1 r.length c1, .int .i64 lo, .int .i64 hi, .bool z, .slice ao s.length cap] 26) = W := ⟨_, rfl⟩
    have hbW : Below w.heap.size w W := hW ▸ vb_a (Below.refl _ _) _
    have kX : Bk W w.heap.size #[.int .i64 k, .slice a1 r.length c1, .int .i64 lo, .int .i64 hi, .bool z, .slice ao s.length cap] := hW ▸ Bk.new _ _ _
    have HR : Hid (∀ w', Below W.heap.size W w' → (r = [] ∨ ∃ b off, a1 = some ⟨b, off, none⟩ ∧ ∀ i, i < r.length → w'.cell? ⟨b, off + i * 2, none⟩ = some (.int .i64 (ra r i).1) ∧ w'.cell? ⟨b, off + i * 2 + 1, none⟩ = some (.int .i64 (ra r i).2))) := hid_intro (fun w' hb => by
      obtain ⟨ao', cap', e, _, _, _, h4⟩ := HRI.out.kept (vb_t hbW hb)
      rw [e1] at e
      injection e with e e' e''
      subst e
      rcases h4 with h4 | ⟨b, off, q1, _, q2⟩
      · exact .inl h4
      · exact .inr ⟨b, off, q1, q2⟩)
    have HL : Hid (∀ w', Below W.heap.size W w' → (s = [] ∨ ∃ b off, ao = some ⟨b, off, none⟩ ∧ ∀ i, i < s.length → ∀ j, j < 6 → w'.cell? ⟨b, off + i * 6 + j, none⟩ = some (G i j))) := hid_intro (fun w' hb => by
      rcases hl with hl | ⟨b, off, h1, _, h3⟩
      · exact .inl hl
      · exact .inr ⟨b, off, h1, fun i hi j hj => by rw [(vb_t hbW hb).cell (p := ⟨b, off + i * 6 + j, none⟩) (World.block_lt_of_cell? w _ (h3 i hi j hj))]; exact h3 i hi j hj⟩)
    have HI : Hid (∀ w' i (h : i < s.length), Below W.heap.size W w' → Calls Tryz.prog 11 #[.agg #[G i 0, G i 1, G i 2, G i 3, G i 4, G i 5]] w' fun e w2 => e = .returned (.bool (loneX s[i])) ∧ Below w'.heap.size w' w2) := hid_intro (fun w' i h hb =>
      ih s[i] (List.getElem_mem h) (G i) w' Y ((hr i h).kept (vb_t hbW hb)))
    have HSix := hid_intro (fun i h => (hr i h).six)
    have HE : Hid (loneX (.mk k r lo hi z s) = (r.any sur2 || s.any loneX)) := hid_intro (by rw [loneX, loneL_any])
    have HX := hid_intro hbW
    have HW := hid_intro hW
    have HK := hid_intro kX
    clear hP hl hr ih hbW kX hW exa f1 hw HRI e1 hr1
    go_enter Tryz.func11, Tryz.ntmps11
    go_wp2_with fail
    rw [HW.out]
    go_loopg [3] r.length (fun me s3 wr => ∃ j : Nat, j ≤ r.length ∧ me = r.length - j ∧ s3 = .int .i64 (j : Int) ∧ Hid ((r.take j).any sur2 = false) ∧ Hid (Below W.heap.size W wr))
    case atStart => exact ⟨0, Nat.zero_le _, rfl, rfl, hid_intro (by simp), hid_intro (Below.refl _ _)⟩
    case round =>
      obtain ⟨j, hj, rfl, rfl, HA, HZ⟩ := hrel
      have a1c := (HK.out.bel HZ.out).c6.2.1
      by_cases hlt : j < r.length
      · have hJ : (j : Int) < (r.length : Int) := by omega
        obtain ⟨b, off, rfl, h3⟩ := (HR.out wr HZ.out).resolve_left (fun e => by rw [e] at hlt; exact absurd hlt (by simp))
        obtain ⟨q0, q1⟩ := h3 j hlt
        have HS : Hid (sur2 (ra r j) = sur2 r[j]) := hid_intro (by rw [ra_get hlt])
        have HT := hid_intro (any_take r sur2 j hlt)
        generalize hrr : ra r j = rr at *
        obtain ⟨x, y⟩ := rr
        simp only at q0 q1
        clear h3 hrr
        cases hs2 : sur2 (x, y)
        · have HA2 : Hid ((r.take (j + 1)).any sur2 = false) := hid_intro (by rw [HT.out, HA.out, ← HS.out, hs2]; rfl)
          have hxy : ¬ (55296 ≤ x ∧ x ≤ 57343) ∧ ¬ (55296 ≤ y ∧ y ≤ 57343) := by
            unfold sur2 at hs2; simp at hs2; omega
          obtain ⟨hx1, hy1⟩ := hxy
          clear HT HS HA hs2 HL HI HSix HE
          go_wp2_with fail
          go_region
          all_goals
            by_cases c1 : 55296 ≤ x
            · have c2 : ¬ x ≤ 57343 := by omega
              by_cases c3 : 55296 ≤ y
              · have c4 : ¬ y ≤ 57343 := by omega
                clear hx1 hy1
                go_wp2_with fail
                go_roundg (r.length - (j + 1))
                case measure => omega
                case rel => exact ⟨j + 1, by omega, rfl, by simp, HA2, hid_intro (vb_d HZ.out)⟩
              · clear hx1 hy1
                go_wp2_with fail
                go_roundg (r.length - (j + 1))
                case measure => omega
                case rel => exact ⟨j + 1, by omega, rfl, by simp, HA2, hid_intro (vb_d HZ.out)⟩
            · by_cases c3 : 55296 ≤ y
              · have c4 : ¬ y ≤ 57343 := by omega
                clear hx1 hy1
                go_wp2_with fail
                go_roundg (r.length - (j + 1))
                case measure => omega
                case rel => exact ⟨j + 1, by omega, rfl, by simp, HA2, hid_intro (vb_d HZ.out)⟩
              · clear hx1 hy1
                go_wp2_with fail
                go_roundg (r.length - (j + 1))
                case measure => omega
                case rel => exact ⟨j + 1, by omega, rfl, by simp, HA2, hid_intro (vb_d HZ.out)⟩
        · have HF : Hid (loneX (.mk k r lo hi z s) = true) := hid_intro (by
            rw [HE.out, Bool.or_eq_true]
            exact Or.inl (List.any_eq_true.2 ⟨r[j], List.getElem_mem hlt, by rw [← HS.out]; exact hs2⟩))
          clear HT HS HA HL HI HSix HE
          by_cases c1 : 55296 ≤ x ∧ x ≤ 57343
          · obtain ⟨d1, d2⟩ := c1
            clear hs2
            go_wp2_with fail
            go_region
            all_goals
              go_wp2_with fail
              rw [HP.out, HF.out]
              exact ⟨rfl, vb_t HX.out (vb_d HZ.out)⟩
          · have c2 : 55296 ≤ y ∧ y ≤ 57343 := by
              unfold sur2 at hs2; simp at hs2; omega
            obtain ⟨d1, d2⟩ := c2
            clear hs2
            go_wp2_with fail
            go_region
            all_goals
              by_cases c3 : 55296 ≤ x
              · have c4 : ¬ x ≤ 57343 := by omega
                clear c1
                go_wp2_with fail
                rw [HP.out, HF.out]
                exact ⟨rfl, vb_t HX.out (vb_d HZ.out)⟩
              · clear c1
                go_wp2_with fail
                rw [HP.out, HF.out]
                exact ⟨rfl, vb_t HX.out (vb_d HZ.out)⟩
      · have hJ : ¬ (j : Int) < (r.length : Int) := by omega
        have HR0 : Hid (r.any sur2 = false) := hid_intro (by rw [← HA.out, List.take_of_length_le (by omega)])
        have HZ0 := HZ.out
        clear HA HR
        go_wp2_with fail
        go_loopg [6] s.length (fun me s6 wr2 => ∃ i : Nat, i ≤ s.length ∧ me = s.length - i ∧ s6 = .int .i64 (i : Int) ∧ Hid ((s.take i).any loneX = false) ∧ Hid (Below W.heap.size W wr2))
        case atStart => exact ⟨0, Nat.zero_le _, rfl, rfl, hid_intro (by simp), HZ⟩
        case round =>
          obtain ⟨i, hi2, rfl, rfl, HA, HZ2⟩ := hrel
          have a5c := (HK.out.bel HZ2.out).c6.2.2.2.2.2
          clear HZ0 HZ a1c
          by_cases hli : i < s.length
          · have hI : (i : Int) < (s.length : Int) := by omega
            obtain ⟨b, off, rfl, h3⟩ := (HL.out _ HZ2.out).resolve_left (fun e => by rw [e] at hli; exact absurd hli (by simp))
            have g0 := h3 i hli 0 (by omega)
            have g1 := h3 i hli 1 (by omega)
            have g2 := h3 i hli 2 (by omega)
            have g3 := h3 i hli 3 (by omega)
            have g4 := h3 i hli 4 (by omega)
            have g5 := h3 i hli 5 (by omega)
            rw [Nat.add_zero] at g0
            have HC := hid_intro (HI.out _ i hli HZ2.out)
            have HT := hid_intro (any_take s loneX i hli)
            obtain ⟨x0, x1, x2, x3, x4, x5, x6, x7, x8, x9, e0, e1, e2, e3, e4, e5⟩ := HSix.out i hli
            rw [e0] at g0 HC
            rw [e1] at g1 HC
            rw [e2] at g2 HC
            rw [e3] at g3 HC
            rw [e4] at g4 HC
            rw [e5] at g5 HC
            clear e0 e1 e2 e3 e4 e5 HSix HL HI h3
            cases hmb : loneX s[i]
            · have HA2 : Hid ((s.take (i + 1)).any loneX = false) := hid_intro (by rw [HT.out, HA.out, hmb]; rfl)
              rw [hmb] at HC
              clear hmb HA HE HT
              go_wp2_with fail
              refine HC.out.mono ?_; rintro r' w3 ⟨rfl, hb3⟩
              have HB := hid_intro (vb_t HZ2.out hb3)
              clear hb3
              go_wp2_with fail
              go_roundg (s.length - (i + 1))
              case measure => omega
              case rel => exact ⟨i + 1, by omega, rfl, by simp, HA2, HB⟩
            · have HF : Hid (loneX (.mk k r lo hi z s) = true) := hid_intro (by
                rw [HE.out, Bool.or_eq_true]
                exact Or.inr (List.any_eq_true.2 ⟨s[i], List.getElem_mem hli, hmb⟩))
              rw [hmb] at HC
              clear hmb HA HE HT
              go_wp2_with fail
              refine HC.out.mono ?_; rintro r' w3 ⟨rfl, hb3⟩
              have HB := hid_intro (vb_t HZ2.out hb3)
              clear hb3
              go_wp2_with fail
              rw [HP.out, HF.out]
              exact ⟨rfl, vb_t HX.out HB.out⟩
          · have hI : ¬ (i : Int) < (s.length : Int) := by omega
            have HF : Hid (loneX (.mk k r lo hi z s) = false) := hid_intro (by
              have h1 := HA.out
              rw [List.take_of_length_le (by omega)] at h1
              rw [HE.out, HR0.out, h1]; rfl)
            clear HL HI HA HE
            go_wp2_with fail
            rw [HP.out, HF.out]
            exact ⟨rfl, vb_t HX.out HZ2.out⟩
theorem sur2_no {r : Int × Int} (h : sur2 r = false) (ho : okR r) : isPt r.1 = true ∧ isPt r.2 = true := by
  unfold sur2 at h
  unfold okR at ho
  simp at h
  unfold isPt
  simp
  omega
end Go.Proofs.YtppilokmgdpnnaaGreatDoor
