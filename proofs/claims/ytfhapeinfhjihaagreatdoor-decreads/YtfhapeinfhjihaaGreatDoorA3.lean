/-
  What nat.compared and ref.Same answer. Conditions: the limbs are numbers.
-/
import Derived.Test.YtfhapeinfhjihaaGreatDoorA2
namespace Go.Proofs.YtfhapeinfhjihaaGreatDoor
open Go.RowKit

/-- How two numbers stand. -/
def cmpI (a b : Int) : Int := if a < b then -1 else if a = b then 0 else 1

set_option maxHeartbeats 400000 in
theorem compared_len (v0 v1 : Value) (n m : Nat) (f g : Nat → Int) (w : World) (h0 : Row w v0 n f) (h1 : Row w v1 m g) (hne : n ≠ m) :
    Calls Tryz.prog 108 #[v0, v1] w fun e w' => e = .returned (.int .i64 (if decide (n < m) then -1 else 1)) ∧ w = w' := by
  obtain ⟨a, cap, rfl, m1⟩ := h0.shape
  obtain ⟨a', cap', rfl, m2⟩ := h1.shape
  unfold maxLen at m1 m2
  have hb0 : ((n : Int) == (m : Int)) = false := by simp; omega
  have hb : ((n : Int) != (m : Int)) = true := by simp only [bne, hb0]; rfl
  have hs := sign_any (decide (n < m)) w
  obtain ⟨s, hsd⟩ : ∃ s : Int, (if decide (n < m) = true then (-1 : Int) else 1) = s := ⟨_, rfl⟩
  rw [hsd] at hs ⊢
  clear h0 h1 hsd
  go_enter Tryz.func108, Tryz.ntmps108
  go_wp2_with fail
  refine hs.mono ?_
  rintro e w' ⟨rfl, rfl⟩
  go_wp2
  go_ret
  exact ⟨rfl, rfl⟩

set_option maxHeartbeats 400000 in
theorem compared_same (v0 v1 : Value) (n : Nat) (f g : Nat → Int) (w : World) (h0 : Row w v0 n f) (h1 : Row w v1 n g) (hf : Limbs n f) (hg : Limbs n g) :
    Calls Tryz.prog 108 #[v0, v1] w fun e w' => e = .returned (.int .i64 (cmpI (val f n) (val g n))) ∧ ∃ q, w' = w.drewN q := by
  by_cases h : 0 < n
  · obtain ⟨b, off, cap, rfl, hc, hm, hL⟩ := h0.lies h
    obtain ⟨b', off', cap', rfl, hc', hm', hL'⟩ := h1.lies h
    unfold maxLen at hm hm'
    have HL : Hid (Lies w b off n f) := hL
    have HL' : Hid (Lies w b' off' n g) := hL'
    have HF : Hid (Limbs n f) := hf
    have HG : Hid (Limbs n g) := hg
    have hs := sign_any
    clear h0 h1 hL hL' hf hg
    go_enter Tryz.func108, Tryz.ntmps108
    go_wp2
    go_loopw [5] (fun i wr => ∃ k : Nat, k ≤ n ∧ i = .int .i64 ((k : Int) - 1) ∧ Hid (∀ j, k ≤ j → j < n → f j = g j) ∧ ∃ q, wr = w.drewN q) (fun i _ => ((intOf i) + 1).toNat)
    case atStart => exact ⟨n, Nat.le_refl _, rfl, fun j h1 h2 => absurd h1 (by omega), 0, rfl⟩
    case round =>
      obtain ⟨k, hk, rfl, HE, q, rfl⟩ := hrel
      by_cases hlt : 0 < k
      · have c1 := HL.out.cell (k - 1) (by omega)
        have c2 := HL'.out.cell (k - 1) (by omega)
        have ez : ((k : Int) - 1).toNat = k - 1 := by omega
        have i0 : 0 ≤ (k : Int) - 1 := by omega
        have i1 : (k : Int) - 1 < (n : Int) := by omega
        by_cases e : f (k - 1) = g (k - 1)
        · have HE2 : Hid (∀ j, k - 1 ≤ j → j < n → f j = g j) := fun j h1 h2 => by
            by_cases e1 : j = k - 1
            · rw [e1]; exact e
            · exact HE.out j (by omega) h2
          rw [← e] at c2
          generalize f (k - 1) = y at *
          clear e HE
          go_wp2_with fail
          go_quiet (fail)
          go_wp2
          go_roundw
          case rel => exact ⟨k - 1, by omega, by go_num, HE2, _, rfl⟩
          case measure => simp [intOf]; omega
        · have HV : Hid (cmpI (val f n) (val g n) = if decide (f (k - 1) < g (k - 1)) = true then -1 else 1) := by
            have hE : ∀ i, k - 1 < i → i < n → f i = g i := fun i h1 h2 => HE.out i (by omega) h2
            show cmpI (val f n) (val g n) = _
            by_cases l : f (k - 1) < g (k - 1)
            · have := val_less HF.out HG.out (k - 1) (by omega) l hE
              simp [cmpI, this, l]
            · have := val_less HG.out HF.out (k - 1) (by omega) (by omega) (fun i a b => (hE i a b).symm)
              simp [cmpI, l, show ¬ val f n < val g n by omega, show ¬ val f n = val g n by omega]
          have hne : (f (k - 1) == g (k - 1)) = false := by simpa using e
          obtain ⟨d, hd⟩ : ∃ d, decide (f (k - 1) < g (k - 1)) = d := ⟨_, rfl⟩
          obtain ⟨s, hsd⟩ : ∃ s : Int, (if d = true then -1 else 1) = s := ⟨_, rfl⟩
          rw [hd, hsd] at HV
          generalize f (k - 1) = x at *
          generalize g (k - 1) = y at *
          clear e HE
          go_wp2_with fail
          go_quiet (fail)
          go_wp2_with fail
          have hq : ∀ w, Calls Tryz.prog 123 #[.bool d] w fun e w' => e = .returned (.int .i64 s) ∧ w' = w := fun w => (hs d w).mono fun e w' h => ⟨h.1.trans (ret_int hsd), h.2.symm⟩
          clear hs hsd
          go_quiet ((go_at_call 123; exact (hq _).mono fun e w' h => ⟨h.1, _, h.2⟩))
          all_goals go_wp2
          all_goals go_ret
          all_goals exact ⟨ret_int HV.out.symm, _, by rw [World.drewN_drewN, World.drewN_drewN]⟩
      · have e : k = 0 := by omega
        subst e
        have HV : Hid (cmpI (val f n) (val g n) = 0) := by
          have := val_congr (fun i hi => HE.out i (by omega) hi)
          show cmpI (val f n) (val g n) = 0
          rw [this]; simp [cmpI]
        clear HE
        go_wp2
        go_ret
        exact ⟨ret_int HV.out.symm, _, rfl⟩
  · obtain ⟨a, cap, rfl, hm⟩ := h0.shape
    obtain ⟨a', cap', rfl, hm'⟩ := h1.shape
    have e : n = 0 := by omega
    subst e
    clear h0 h1 h hf hg
    go_enter Tryz.func108, Tryz.ntmps108
    go_wp2
    refine wp_loop_rounds 1 ?_
    rw [rounds_succ]
    go_wp2
    go_ret
    exact ⟨rfl, 0, rfl⟩

theorem compared_any (v0 v1 : Value) (n m : Nat) (f g : Nat → Int) (w : World) (h0 : Row w v0 n f) (h1 : Row w v1 m g) (hf : Can n f) (hg : Can m g) :
    Calls Tryz.prog 108 #[v0, v1] w fun e w' => e = .returned (.int .i64 (cmpI (val f n) (val g m))) ∧ ∃ q, w' = w.drewN q := by
  by_cases h : n = m
  · subst h
    exact compared_same v0 v1 n f g w h0 h1 hf.1 hg.1
  · refine (compared_len v0 v1 n m f g w h0 h1 h).mono ?_
    rintro e w' ⟨rfl, rfl⟩
    refine ⟨ret_int ?_, 0, rfl⟩
    by_cases l : n < m
    · have := can_less hf.1 hg l
      simp [cmpI, this, l]
    · have := can_less hg.1 hf (by omega)
      simp [cmpI, l, show ¬ val f n < val g m by omega, show ¬ val f n = val g m by omega]

end Go.Proofs.YtfhapeinfhjihaaGreatDoor
