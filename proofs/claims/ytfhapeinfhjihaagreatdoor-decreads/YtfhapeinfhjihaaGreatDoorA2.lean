/-
  What nat.Check answers of limbs that are no number; what nat.checked, nat.trimmed, nat.compared and ref.Same answer. Conditions: none but that the limbs lie there.
-/
import Derived.Test.YtfhapeinfhjihaaGreatDoorA1
import Derived.Deep.Light
namespace Go.Proofs.YtfhapeinfhjihaaGreatDoor
open Go.RowKit

set_option maxHeartbeats 400000 in
theorem check_bad (v : Value) (n : Nat) (f : Nat → Int) (w : World) (hR : Row w v n f) (hC : ¬ Can n f) :
    Calls Tryz.prog 19 #[v] w fun e w' => e = .returned (.int .i64 2) ∧ w = w' := by
  have h : 0 < n := by
    by_cases h : 0 < n
    · exact h
    · exact absurd ⟨fun i hi => absurd hi (by omega), fun h' => absurd h' h⟩ hC
  obtain ⟨b, off, cap, rfl, hc, hm, hL⟩ := hR.lies (by omega)
  unfold maxLen at hm
  have c := hL.cell (n - 1) (by omega)
  have ez : ((n : Int) - 1).toNat = n - 1 := by omega
  have hI : (0 : Int) < (n : Int) := by omega
  by_cases z : f (n - 1) = 0
  · rw [z] at c
    clear hR hL hC z
    go_enter Tryz.func19, Tryz.ntmps19
    go_wp2
    go_ret
    exact ⟨rfl, rfl⟩
  · have hz : (f (n - 1) == 0) = false := by simpa using z
    have hN : ¬ Limbs n f := fun k => hC ⟨k, fun _ => z⟩
    generalize f (n - 1) = x at *
    have HL : Hid (Lies w b off n f) := hL
    have HC : Hid (¬ Limbs n f) := hN
    clear hR hL hC z hN
    go_enter Tryz.func19, Tryz.ntmps19
    go_wp2
    go_loop [19] (fun i => ∃ k : Nat, k ≤ n ∧ i = .int .i64 k ∧ Hid (Limbs k f)) (fun i => n - (intOf i).toNat)
    case atStart => exact ⟨0, Nat.zero_le _, rfl, fun i hi => absurd hi (by omega)⟩
    case round =>
      obtain ⟨k, hk, rfl, HK⟩ := hrel
      by_cases hlt : k < n
      · have c1 := HL.out.cell k hlt
        have l1 := HL.out.lo k
        have hkI : (k : Int) < (n : Int) := by omega
        by_cases b1 : f k < 1000000000
        · have HK2 : Hid (Limbs (k + 1) f) := fun i hi => by
            by_cases e : i = k
            · rw [e]; exact ⟨l1, b1⟩
            · exact HK.out i (by omega)
          generalize f k = y at *
          go_wp2
          go_round
          case rel => exact ⟨k + 1, by omega, by go_num, HK2⟩
          case measure => simp [intOf]; omega
        · generalize f k = y at *
          go_wp2
          go_ret
          exact ⟨rfl, rfl⟩
      · have e : k = n := by omega
        subst e
        exact absurd HK.out HC.out

set_option maxHeartbeats 400000 in
theorem checked_ok (v0 v1 : Value) (n m b : Nat) (f g : Nat → Int) (w : World) (c0 : w.cell? ⟨b, 0, none⟩ = some v0) (c1 : w.cell? ⟨b, 1, none⟩ = some v1) (h0 : Row w v0 n f) (h1 : Row w v1 m g) (k0 : Can n f) (k1 : Can m g) :
    Calls Tryz.prog 46 #[.slice (some ⟨b, 0, none⟩) 2 2] w fun e w' => e = .returned (.int .i64 0) ∧ w = w' := by
  have p0 := check_ok v0 n f w h0 k0
  have p1 := check_ok v1 m g w h1 k1
  obtain ⟨a, cap, rfl, _⟩ := h0.shape
  obtain ⟨a', cap', rfl, _⟩ := h1.shape
  clear h0 h1
  go_enter Tryz.func46, Tryz.ntmps46
  go_wp2
  refine wp_loop_rounds 3 ?_
  rw [rounds_succ]
  go_wp2_with fail
  refine p0.mono ?_
  rintro e w' ⟨rfl, rfl⟩
  go_wp2
  rw [rounds_succ]
  go_wp2_with fail
  refine p1.mono ?_
  rintro e w' ⟨rfl, rfl⟩
  go_wp2
  rw [rounds_succ]
  go_wp2
  go_ret
  exact ⟨rfl, rfl⟩

set_option maxHeartbeats 400000 in
theorem checked_bad (v0 v1 : Value) (n m b : Nat) (f g : Nat → Int) (w : World) (c0 : w.cell? ⟨b, 0, none⟩ = some v0) (c1 : w.cell? ⟨b, 1, none⟩ = some v1) (h0 : Row w v0 n f) (h1 : Row w v1 m g) (k : ¬ (Can n f ∧ Can m g)) :
    Calls Tryz.prog 46 #[.slice (some ⟨b, 0, none⟩) 2 2] w fun e w' => e = .returned (.int .i64 2) ∧ w = w' := by
  by_cases k0 : Can n f
  · have p0 := check_ok v0 n f w h0 k0
    have p1 := check_bad v1 m g w h1 (fun k1 => k ⟨k0, k1⟩)
    obtain ⟨a, cap, rfl, _⟩ := h0.shape
    obtain ⟨a', cap', rfl, _⟩ := h1.shape
    clear h0 h1 k k0
    go_enter Tryz.func46, Tryz.ntmps46
    go_wp2
    refine wp_loop_rounds 3 ?_
    rw [rounds_succ]
    go_wp2_with fail
    refine p0.mono ?_
    rintro e w' ⟨rfl, rfl⟩
    go_wp2
    rw [rounds_succ]
    go_wp2_with fail
    refine p1.mono ?_
    rintro e w' ⟨rfl, rfl⟩
    go_wp2
    go_ret
    exact ⟨rfl, rfl⟩
  · have p0 := check_bad v0 n f w h0 k0
    obtain ⟨a, cap, rfl, _⟩ := h0.shape
    clear h0 h1 k k0
    go_enter Tryz.func46, Tryz.ntmps46
    go_wp2
    refine wp_loop_rounds 3 ?_
    rw [rounds_succ]
    go_wp2_with fail
    refine p0.mono ?_
    rintro e w' ⟨rfl, rfl⟩
    go_wp2
    go_ret
    exact ⟨rfl, rfl⟩

/-- What nat.trimmed leaves: the limbs up to the last that is not nought. -/
def Trims (n : Nat) (f : Nat → Int) (m : Nat) : Prop := m ≤ n ∧ (∀ i, m ≤ i → i < n → f i = 0) ∧ (0 < m → f (m - 1) ≠ 0)

set_option maxHeartbeats 400000 in
theorem trimmed_any (v : Value) (n : Nat) (f : Nat → Int) (w : World) (hR : Row w v n f) :
    Calls Tryz.prog 45 #[v] w fun e w' => ∃ r, e = .returned r ∧ (∃ m, Row w r m f ∧ Trims n f m) ∧ w = w' := by
  by_cases h : 0 < n
  · obtain ⟨b, off, cap, rfl, hc, hm, hL⟩ := hR.lies (by omega)
    have hm' := hm
    unfold maxLen at hm
    have HL : Hid (Lies w b off n f) := hL
    clear hR hL
    go_enter Tryz.func45, Tryz.ntmps45
    go_wp2
    go_loop [3] (fun t => ∃ m : Nat, m ≤ n ∧ t = .int .i64 m ∧ Hid (∀ i, m ≤ i → i < n → f i = 0)) (fun t => (intOf t).toNat)
    case atStart => exact ⟨n, Nat.le_refl _, rfl, fun i h1 h2 => absurd h1 (by omega)⟩
    case round =>
      obtain ⟨m, hk, rfl, HZ⟩ := hrel
      by_cases hlt : 0 < m
      · have c1 := HL.out.cell (m - 1) (by omega)
        have ez : ((m : Int) - 1).toNat = m - 1 := by omega
        have hI : (0 : Int) < (m : Int) := by omega
        by_cases z : f (m - 1) = 0
        · have HZ2 : Hid (∀ i, m - 1 ≤ i → i < n → f i = 0) := fun i h1 h2 => by
            by_cases e : i = m - 1
            · rw [e]; exact z
            · exact HZ.out i (by omega) h2
          rw [z] at c1
          clear z HZ
          go_wp2
          go_round
          case rel => exact ⟨m - 1, by omega, by go_num, HZ2⟩
          case measure => simp [intOf]; omega
        · have HT : Hid (Trims n f m) := ⟨hk, HZ.out, fun _ => z⟩
          have hz : (f (m - 1) == 0) = false := by simpa using z
          generalize f (m - 1) = y at *
          clear HZ z
          go_wp2
          go_ret
          exact ⟨_, rfl, ⟨m, .inr ⟨b, off, m, rfl, Nat.le_refl _, by omega, ⟨fun i hi => HL.out.cell i (by omega), HL.out.lo, HL.out.hi⟩⟩, HT.out⟩, rfl⟩
      · have e : m = 0 := by omega
        subst e
        have HT : Hid (Trims n f 0) := ⟨hk, HZ.out, fun h => absurd h (by omega)⟩
        clear HZ hlt
        go_wp2
        go_ret
        exact ⟨_, rfl, ⟨0, .inl ⟨rfl, _, 0, rfl, fun _ => rfl⟩, HT.out⟩, rfl⟩
  · obtain ⟨a, cap, rfl, hm⟩ := hR.shape
    have e : n = 0 := by omega
    subst e
    clear hR h
    go_enter Tryz.func45, Tryz.ntmps45
    go_wp2
    refine wp_loop_rounds 1 ?_
    rw [rounds_succ]
    go_wp2
    go_ret
    exact ⟨_, rfl, ⟨0, .inl ⟨rfl, _, 0, rfl, fun _ => rfl⟩, ⟨Nat.le_refl _, fun i _ h => absurd h (by omega), fun h => absurd h (by omega)⟩⟩, rfl⟩
theorem Trims.can {n m : Nat} {f : Nat → Int} (h : Trims n f m) (hl : Limbs n f) : Can m f ∧ val f m = val f n :=
  ⟨⟨hl.le h.1, h.2.2⟩, (val_trim h.1 h.2.1).symm⟩
end Go.Proofs.YtfhapeinfhjihaaGreatDoor
