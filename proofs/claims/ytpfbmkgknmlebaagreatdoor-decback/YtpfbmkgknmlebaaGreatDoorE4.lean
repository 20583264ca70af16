/-
  What nat.takeAll answers and leaves: how often a number goes into a row of one limb more, and the rest. Conditions: fewer than 10^9 times.
-/
import Derived.Test.YtpfbmkgknmlebaaGreatDoorE3
namespace Go.Proofs.YtpfbmkgknmlebaaGreatDoor
open Go.RowKit

theorem val_split (f : Nat → Int) (a k : Nat) : val f (a + k) = val f a + pw a * val (sh f a) k := by
  induction k with
  | zero => simp [val_zero]
  | succ k ih =>
    rw [← Nat.add_assoc, val_succ, ih, val_succ, Int.mul_add, pw_add]
    show _ + f (a + k) * (pw a * pw k) = _ + (pw a * val (sh f a) k + pw a * (f (a + k) * pw k))
    rw [Int.mul_left_comm]; omega
/-- The guess by the highest limbs: never too great, at most one short. -/
theorem guess_ok (m : Nat) (f g : Nat → Int) (h2 : 2 ≤ m) (hf : Limbs (m + 1) f) (hg : Limbs m g) (hz : g (m - 1) ≠ 0) (hlt : val f (m + 1) < 1000000000 * val g m) (T : Int)
    (hT : T = (f m * 1000000000000000000 + f (m - 1) * 1000000000 + f (m - 2)) / (g (m - 1) * 1000000000 + g (m - 2) + 1)) :
    0 ≤ T ∧ T < 1000000000 ∧ val g m * T ≤ val f (m + 1) ∧ val f (m + 1) < val g m * T + 2 * val g m := by
  obtain ⟨k, rfl⟩ : ∃ k, m = k + 2 := ⟨m - 2, by omega⟩
  simp only [show k + 2 - 1 = k + 1 by omega, show k + 2 - 2 = k by omega] at *
  have eF : val f (k + 2 + 1) = val f k + (f k + f (k + 1) * 1000000000 + f (k + 2) * 1000000000000000000) * pw k := by
    rw [val_succ, val_succ, val_succ, pw_succ (k + 1), pw_succ k, Int.add_mul, Int.add_mul, ← Int.mul_assoc, ← Int.mul_assoc, ← Int.mul_assoc, Int.mul_right_comm (f (k + 1)), Int.mul_right_comm (f (k + 2)) 1000000000000000000]
    omega
  have eG : val g (k + 2) = val g k + (g k + g (k + 1) * 1000000000) * pw k := by
    rw [val_succ, val_succ, pw_succ k, Int.add_mul, ← Int.mul_assoc, Int.mul_right_comm (g (k + 1))]
    omega
  have f0 := val_nonneg (hf.le (show k ≤ k + 2 + 1 by omega))
  have f1 := val_lt (hf.le (show k ≤ k + 2 + 1 by omega))
  have g0 := val_nonneg (hg.le (show k ≤ k + 2 by omega))
  have g1 := val_lt (hg.le (show k ≤ k + 2 by omega))
  have a0 := hf k (by omega)
  have a1 := hf (k + 1) (by omega)
  have a2 := hf (k + 2) (by omega)
  have b0 := hg k (by omega)
  have b1 := hg (k + 1) (by omega)
  have pp := pw_pos k
  generalize val f (k + 2 + 1) = R at *
  generalize val g (k + 2) = V at *
  obtain ⟨X, hX⟩ : ∃ X, f (k + 2) * 1000000000000000000 + f (k + 1) * 1000000000 + f k = X := ⟨_, rfl⟩
  obtain ⟨D, hD⟩ : ∃ D, g (k + 1) * 1000000000 + g k = D := ⟨_, rfl⟩
  rw [hX, hD] at hT
  rw [show f k + f (k + 1) * 1000000000 + f (k + 2) * 1000000000000000000 = X by omega] at eF
  rw [show g k + g (k + 1) * 1000000000 = D by omega] at eG
  have X0 : 0 ≤ X := by omega
  have D0 : 1000000000 ≤ D := by omega
  generalize val f k = r at *
  generalize val g k = s at *
  generalize pw k = E at *
  have e := Int.mul_ediv_add_emod X (D + 1)
  have m0 := Int.emod_nonneg X (show D + 1 ≠ 0 by omega)
  have m1 := Int.emod_lt_of_pos X (show 0 < D + 1 by omega)
  rw [← hT] at e
  have T0 : 0 ≤ T := by rw [hT]; exact Int.ediv_nonneg X0 (by omega)
  generalize X % (D + 1) = z at *
  clear hT hX hD a0 a1 a2 b0 b1 hz hf hg
  have sT : s * T ≤ E * T := Int.mul_le_mul_of_nonneg_right (by omega) T0
  have zE : 0 ≤ z * E := Int.mul_nonneg m0 (by omega)
  have lo : V * T ≤ R := by
    rw [eG, eF, ← e, Int.add_mul, Int.add_mul (_ * T), Int.add_mul D, Int.add_mul (D * T)]
    rw [Int.mul_right_comm D E T, Int.one_mul]
    rw [Int.mul_comm E T] at sT
    omega
  have hT9 : T < 1000000000 := by
    have hV : 0 < V := by
      have : 0 ≤ D * E := Int.mul_nonneg (by omega) (by omega)
      have : 1000000000 * E ≤ D * E := Int.mul_le_mul_of_nonneg_right D0 (by omega)
      omega
    by_cases c : T < 1000000000
    · exact c
    · have : V * 1000000000 ≤ V * T := Int.mul_le_mul_of_nonneg_left (by omega) (by omega)
      omega
  refine ⟨T0, hT9, lo, ?_⟩
  have zE2 : z * E ≤ D * E := Int.mul_le_mul_of_nonneg_right (by omega) (by omega)
  have sT0 : 0 ≤ s * T := Int.mul_nonneg g0 T0
  have tE : (T + 1) * E ≤ D * E := Int.mul_le_mul_of_nonneg_right (by omega) (by omega)
  have q1 : (D + 1) * T * E = D * T * E + T * E := by rw [Int.add_mul, Int.one_mul, Int.add_mul]
  have q2 : (s + D * E) * T = s * T + D * T * E := by rw [Int.add_mul, Int.mul_right_comm]
  rw [eG, eF, ← e, Int.add_mul ((D + 1) * T), q1, q2]
  rw [Int.add_mul] at tE
  omega

theorem own_lies {w : World} {B g N a k : Nat} {f : Nat → Int} (h : Own w B g N f) (h9 : All9 f) (hk : a + k ≤ N) : Lies w g a k (sh f a) :=
  ⟨fun i hi => h.cell (a + i) (by omega), fun i => (h9 (a + i)).1, fun i => by have := (h9 (a + i)).2; show f (a + i) < _; omega⟩
theorem sh_limbs {f : Nat → Int} (h9 : All9 f) (a k : Nat) : Limbs k (sh f a) := fun i _ => h9 (a + i)
/-- What nat.takeAll leaves. -/
def TakenAll (w w' : World) (B g N a m : Nat) (f : Nat → Int) (R V Q : Int) : Prop :=
  ∃ f', Own w' B g N f' ∧ All9 f' ∧ (∀ i, i < a ∨ a + m + 1 ≤ i → f' i = f i) ∧ val (sh f' a) (m + 1) = R - Q * V ∧ R - Q * V < V ∧ w.grownBy w' (some g)

set_option maxRecDepth 100000 in
set_option maxHeartbeats 1600000 in
theorem takeAll_any (vb : Value) (B g N a m : Nat) (f gb : Nat → Int) (R V : Int) (w0 w : World) (hB : Below w0.heap.size w0 w) (hBg : w0.heap.size ≤ B) (hR : Row w0 vb m gb) (hb : Can m gb) (h2 : 2 ≤ m) (hm : m ≤ 2305843009213693952) (hO : Own w B g N f) (h9 : All9 f) (hN : a + m + 1 ≤ N) (hNm : N ≤ 4611686018427387904)
    (eR : val (sh f a) (m + 1) = R) (eV : val gb m = V) (hlt : R < 1000000000 * V) :
    Calls Tryz.prog 123 #[.slice (some ⟨g, a, none⟩) (m + 1) (m + 1), vb] w fun e w' => ∃ Q, e = .returned (.int .u32 Q) ∧ (0 ≤ Q ∧ Q < 1000000000 ∧ TakenAll w w' B g N a m f R V Q) := by
  have hmL : m ≤ maxLen := by unfold maxLen; omega
  have gB := hO.block.1
  obtain ⟨b, off, cap, rfl, hc, hcm, hL0⟩ := hR.lies (by omega)
  have hL : Lies w b off m gb := hL0.below hB (fun _ => hL0.lt (by omega))
  have hgs := guess_any g a (m + 1) b off cap m (sh f a) gb w (own_lies hO h9 (by omega)) hL (sh_limbs h9 a _) hb.1 h2 (by omega) (hb.2 (by omega))
  obtain ⟨T, hT⟩ : ∃ T, (sh f a m * 1000000000000000000 + sh f a (m - 1) * 1000000000 + sh f a (m - 2)) / (gb (m - 1) * 1000000000 + gb (m - 2) + 1) = T := ⟨_, rfl⟩
  obtain ⟨T0, T1, lo, up⟩ := guess_ok m (sh f a) gb h2 (sh_limbs h9 a _) hb.1 (hb.2 (by omega)) (by rw [eR, eV]; exact hlt) T hT.symm
  rw [hT] at hgs
  have htk := fun q => take_any _ B g N a m f gb T w0 (w.drewN q) (below_drewN hB q) hBg hR hb.1 (by omega) hmL (show Own (w.drewN q) B g N f from hO) h9 hN hNm T0 T1 lo
  have HC : Hid (Can m gb) := hb
  have HR : Hid (Row w0 (.slice (some ⟨b, off, none⟩) m cap) m gb) := hR
  have HB : Hid (Below w0.heap.size w0 w) := hB
  have HEV : Hid (val gb m = V) := eV
  have HER : Hid (val (sh f a) (m + 1) = R) := eR
  rw [eR, eV] at lo up
  clear hT hR hb hB hL hL0 hO eV eR h9
  go_enter Tryz.func123, Tryz.ntmps123
  go_wp2_with fail
  refine hgs.mono ?_
  rintro e w' ⟨rfl, q, rfl⟩
  have htk := htk q
  clear hgs
  go_wp2_with fail
  refine htk.mono ?_
  rintro e w2 ⟨rfl, ⟨f', o2, a2, u2, v2, g2⟩⟩
  clear htk
  rw [HEV.out, HER.out] at v2
  have bel : Below w0.heap.size w0 w2 := (below_drewN HB.out q).grown g2 (by have := HB.out.size; simpa using this) (fun j hj => by simp at hj; omega)
  have hrow : Row w2 (.slice (some ⟨g, a, none⟩) (m + 1) (m + 1)) (m + 1) (sh f' a) := .inr ⟨g, a, m + 1, rfl, Nat.le_refl _, by unfold maxLen; omega, own_lies o2 a2 (by omega)⟩
  have ht := trimmed_any _ (m + 1) _ w2 hrow
  have hRb : Row w2 (.slice (some ⟨b, off, none⟩) m cap) m gb := HR.out.below bel
  have hg02 : w.grownBy w2 (some g) := grown_trans (grown_drew (grown_refl w (some g)) q) g2
  clear hrow g2
  go_wp2_with fail
  refine ht.mono ?_
  rintro e w' ⟨r, rfl, ⟨m', hr, htr⟩, rfl⟩
  obtain ⟨cr, er⟩ := htr.can (sh_limbs a2 a _)
  have hcp := compared_any r _ m' m (sh f' a) gb w2 hr hRb cr HC.out
  rw [er, v2, HEV.out] at hcp
  obtain ⟨ar, capr, rfl, _⟩ := hr.shape
  clear ht hr htr cr er hRb
  by_cases hge : V ≤ R - V * T
  · have hcl : decide (cmpI (R - V * T) V < 0) = false := by rw [cmpI_lt]; exact decide_eq_false (by omega)
    have hcg : 0 ≤ cmpI (R - V * T) V := by have := of_decide_eq_false hcl; omega
    have htk2 := fun q => take_any _ B g N a m f' gb 1 w0 (w2.drewN q) (below_drewN bel q) hBg HR.out HC.out.1 (by omega) hmL (show Own (w2.drewN q) B g N f' from o2) a2 hN hNm (by omega) (by omega) (by rw [v2, HEV.out]; omega)
    have HU : Hid (∀ i, i < a ∨ a + m + 1 ≤ i → f' i = f i) := u2
    have HV2 : Hid (val (sh f' a) (m + 1) = R - V * T) := v2
    have T2 : T + 1 < 1000000000 := by
      by_cases c : T + 1 < 1000000000
      · exact c
      · have : V * 999999999 ≤ V * T := Int.mul_le_mul_of_nonneg_left (by omega) (by omega)
        omega
    clear hcl o2 a2 u2 v2 bel
    generalize cmpI (R - V * T) V = C at *
    go_wp2_with fail
    refine hcp.mono ?_
    rintro e w' ⟨rfl, q2, rfl⟩
    have htk2 := htk2 q2
    clear hcp
    go_wp2_with fail
    refine htk2.mono ?_
    rintro e w3 ⟨rfl, ⟨f'', o3, a3, u3, v3, g3⟩⟩
    clear htk2
    have HF : Hid (TakenAll w w3 B g N a m f R V (T + 1)) := by
      refine ⟨f'', o3, a3, fun i hi => by rw [u3 i hi, HU.out i hi], ?_, ?_, grown_trans hg02 (grown_trans (grown_drew (grown_refl w2 (some g)) q2) g3)⟩
      · rw [v3, HV2.out, HEV.out, Int.mul_one, Int.add_mul, Int.mul_comm T V]; omega
      · rw [Int.add_mul, Int.mul_comm T V]; omega
    clear o3 a3 u3 v3 g3
    go_wp2
    go_ret
    exact ⟨_, rfl, by omega, T2, HF.out⟩
  · have hcl : decide (cmpI (R - V * T) V < 0) = true := by rw [cmpI_lt]; exact decide_eq_true (by omega)
    have hcg : ¬ 0 ≤ cmpI (R - V * T) V := by have := of_decide_eq_true hcl; omega
    have HF : Hid (∀ q, TakenAll w (w2.drewN q) B g N a m f R V T) := fun q =>
      ⟨f', o2, a2, u2, by rw [v2, Int.mul_comm T V], by rw [Int.mul_comm T V]; omega, grown_drew hg02 q⟩
    clear hcl o2 a2 u2 v2 bel
    generalize cmpI (R - V * T) V = C at *
    go_wp2_with fail
    refine hcp.mono ?_
    rintro e w' ⟨rfl, q2, rfl⟩
    clear hcp
    go_wp2
    go_ret
    exact ⟨_, rfl, T0, T1, HF.out _⟩
end Go.Proofs.YtpfbmkgknmlebaaGreatDoor
