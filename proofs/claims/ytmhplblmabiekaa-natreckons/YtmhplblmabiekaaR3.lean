/-
  What ref.mul answers. Conditions: the numbers have at most 1000 limbs.
-/
import Derived.Test.YtmhplblmabiekaaR2
namespace Go.Proofs.Ytmhplblmabiekaa
open Go.RowKit

theorem val_put (g : Nat → Int) (n t : Nat) (q : Int) (ht : t < n) : val (upd g t q) n = val g n + (q - g t) * pw t := by
  induction n with
  | zero => omega
  | succ n ih =>
    rw [val_succ, val_succ]
    by_cases e : t = n
    · subst e
      rw [val_congr (f := upd g t q) (g := g) (fun i hi => by simp [upd, show ¬ i = t by omega])]
      simp only [upd, if_true]
      rw [Int.sub_mul]; omega
    · rw [ih (by omega)]
      simp only [upd, show ¬ n = t by omega, if_false]
      omega
theorem zero_above {h : Nat → Int} (h9 : All9 h) (N p : Nat) (hv : val h N < pw p) : ∀ j, p ≤ j → j < N → h j = 0 := by
  intro j hp hj
  obtain ⟨r, rfl⟩ : ∃ r, N = j + 1 + r := ⟨N - (j + 1), by omega⟩
  rw [val_split, val_succ] at hv
  have a1 := val_nonneg (all_limbs h9 j)
  have a2 : 0 ≤ pw (j + 1) * val (sh h (j + 1)) r := Int.mul_nonneg (by have := pw_pos (j + 1); omega) (val_nonneg (sh_limbs h9 _ _))
  have a3 := (h9 j).1
  have a4 := pw_mono hp
  by_cases c : h j = 0
  · exact c
  · have : 1 * pw j ≤ h j * pw j := Int.mul_le_mul_of_nonneg_right (by omega) (by have := pw_pos j; omega)
    omega
/-- Behind the first i rows. -/
def MOut (w wr : World) (N i : Nat) (f : Nat → Int) (V : Int) : Prop := ∃ h, Own wr w.heap.size w.heap.size N h ∧ All9 h ∧ val h N = val f i * V ∧ Below w.heap.size w wr
/-- In the middle of a row. -/
def MIn (w wr : World) (N i k : Nat) (G h : Nat → Int) (x c : Int) : Prop :=
  ∃ h', Own wr w.heap.size w.heap.size N h' ∧ All9 h' ∧ (∀ j, i + k ≤ j → h' j = h j) ∧ val h' N + c * pw (i + k) = val h N + x * val G k * pw i ∧ Below w.heap.size w wr
theorem min_next (w wr : World) (N i k q : Nat) (G h h' : Nat → Int) (x c z y P : Int) (hk : i + k < N) (o : Own wr w.heap.size w.heap.size N h') (h9 : All9 h') (hs : ∀ j, i + k ≤ j → h' j = h j) (hv : val h' N + c * pw (i + k) = val h N + x * val G k * pw i) (hb : Below w.heap.size w wr)
    (hz : h' (i + k) = z) (hP : x * y = P) (hG : G k = y) : MIn w ((wr.drewN q).setCell ⟨w.heap.size, i + k, none⟩ (.int .u32 ((c + z + P) % 1000000000))) N i (k + 1) G h x ((c + z + P) / 1000000000) := by
  have o2 : Own (wr.drewN q) w.heap.size w.heap.size N h' := o
  refine ⟨upd h' (i + k) ((c + z + P) % 1000000000), o2.stored _ _, upd_all h9 _ _ (by omega) (by omega), fun j hj => ?_, ?_, (below_drewN hb q).setCell (Nat.le_refl _) _⟩
  · rw [show upd h' (i + k) ((c + z + P) % 1000000000) j = h' j by simp [upd, show ¬ j = i + k by omega]]; exact hs j (by omega)
  · rw [val_put h' N (i + k) _ hk, hz, val_succ, hG, Int.mul_add, Int.add_mul, ← Int.mul_assoc x y, hP, ← Nat.add_assoc, pw_succ]
    have e1 := step_mul ((c + z + P) % 1000000000) ((c + z + P) / 1000000000) (c + z + P) (pw (i + k)) (by omega)
    have e2 : P * pw k * pw i = P * pw (i + k) := by rw [pw_add, Int.mul_assoc, Int.mul_comm (pw k)]
    rw [e2, Int.sub_mul]
    rw [Int.add_mul, Int.add_mul] at e1
    omega

set_option maxRecDepth 100000 in
set_option maxHeartbeats 3200000 in
theorem rmul_any (v0 v1 : Value) (n m : Nat) (f g : Nat → Int) (w : World) (h0 : Row w v0 n f) (h1 : Row w v1 m g) (hf : Limbs n f) (hg : Limbs m g) (hn : n ≤ 1000) (hm : m ≤ 1000) :
    Calls Try.prog 33 #[v0, v1] w fun e w' => ∃ r, e = .returned r ∧ Num w' r (val f n * val g m) ∧ Below w.heap.size w w' := by
  obtain ⟨V, hV⟩ : ∃ V, val g m = V := ⟨_, rfl⟩
  have V0 : 0 ≤ V := by rw [← hV]; exact val_nonneg hg
  have V1 : V < pw m := by rw [← hV]; exact val_lt hg
  have HVG : Hid (∀ k, m ≤ k → val (limb m g) k = V) := fun k hk => by rw [limb_val hk, hV]
  rw [hV]
  have hmk := make_row w (n + m + 1) (by omega)
  rw [show ((n + m + 1 : Nat) : Int) = (n : Int) + (m : Int) + 1 from by omega] at hmk
  have HS : Hid (MOut w (w.alloc (.cells (madeCells #[.int .u32 0] (n + m + 1)) 46)) (n + m + 1) 0 f V) := ⟨_, make_own w w.heap.size (n + m + 1) (Nat.le_refl _) (by unfold maxLen; omega), fun _ => (by decide : (0 : Int) ≤ 0 ∧ (0 : Int) < 1000000000), by rw [val_null, val_zero]; simp, one_below w _⟩
  obtain ⟨a, cap, e0, _⟩ := h0.shape
  obtain ⟨a', cap', e1, _⟩ := h1.shape
  have H0 : Hid (Row w v0 n f) := h0
  have H1 : Hid (Row w v1 m g) := h1
  have HF : Hid (Limbs n f) := hf
  have HG : Hid (Limbs m g) := hg
  clear h0 h1 hf hg hV
  subst e0 e1
  go_enter Try.func33, Try.ntmps33
  go_wp2
  clear hmk
  go_loopw [6] (fun t wr => ∃ i : Nat, i ≤ n ∧ t = .int .i64 i ∧ Hid (MOut w wr (n + m + 1) i f V)) (fun t _ => n - (intOf t).toNat)
  case atStart => exact ⟨0, Nat.zero_le _, rfl, HS.out⟩
  case round =>
    obtain ⟨i, hin, rfl, HM⟩ := hrel
    by_cases hlt : i < n
    · have hIi : (i : Int) < (n : Int) := by omega
      obtain ⟨h, oh, h9, hvh, hb⟩ := HM.out
      have hzero : h (i + m) = 0 := by
        refine zero_above h9 (n + m + 1) (i + m) ?_ (i + m) (Nat.le_refl _) (by omega)
        rw [hvh]
        exact mul_pw (val_nonneg (HF.out.le (by omega))) (val_lt (HF.out.le (by omega))) V1
      have bx := HF.out i hlt
      have HI0 : Hid (MIn w wr (n + m + 1) i 0 (limb m g) h (f i) 0) := ⟨h, oh, h9, fun _ _ => rfl, by simp [val_zero], hb⟩
      have HVH : Hid (val h (n + m + 1) = val f i * V) := hvh
      have HVS : Hid (val f (i + 1) = val f i + f i * pw i) := rfl
      have HCX : Hid (∀ w2, Below w.heap.size w w2 → ∃ b off, a = some ⟨b, off, none⟩ ∧ w2.cell? ⟨b, off + i, none⟩ = some (.int .u32 (f i))) := fun w2 hb2 => by
        obtain ⟨b, off, cp, eS, _, _, hL⟩ := (H0.out.below hb2).lies (by omega)
        obtain ⟨rfl, rfl⟩ : a = some ⟨b, off, none⟩ ∧ cap = cp := by simpa using eS
        exact ⟨b, off, rfl, hL.cell i hlt⟩
      obtain ⟨x, hx⟩ : ∃ x, f i = x := ⟨_, rfl⟩
      rw [hx] at bx HI0 HVS HCX
      clear HM oh h9 hvh hb hx
      go_wp2
      go_loopw [7, 8] (fun cy t wrI => ∃ (k : Nat) (c : Int), k ≤ m + 1 ∧ cy = .int .u64 c ∧ t = .int .i64 k ∧ 0 ≤ c ∧ c < 1000000000 ∧ (k = m + 1 → c = 0) ∧ Hid (MIn w wrI (n + m + 1) i k (limb m g) h x c)) (fun _ t _ => m + 1 - (intOf t).toNat)
      case atStart => exact ⟨0, 0, Nat.zero_le _, rfl, rfl, by omega, by omega, fun _ => rfl, HI0.out⟩
      case round =>
        obtain ⟨k, c, hk, rfl, rfl, c0, c1, hkc, HI⟩ := hrel
        by_cases hkm : k < m
        · have hIk : (k : Int) < (m : Int) := by omega
          obtain ⟨h', o, h9, hs, hv, hb⟩ := HI.out
          have cz := o.cell (i + k) (by omega)
          have fz := o.free (i + k)
          have bz := h9 (i + k)
          obtain ⟨b, off, rfl, cx⟩ := HCX.out _ hb
          obtain ⟨b', off', cp', eS', _, _, hL'⟩ := (H1.out.below hb).lies (by omega)
          obtain ⟨rfl, rfl⟩ : a' = some ⟨b', off', none⟩ ∧ cap' = cp' := by simpa using eS'
          have cy := hL'.cell k hkm
          have bg := HG.out k hkm
          have ey : limb m g k = g k := by simp [limb, hkm]
          have bP := mul9 x (g k) bx.1 bx.2 bg.1 bg.2
          obtain ⟨P, hP⟩ : ∃ P, x * g k = P := ⟨_, rfl⟩
          obtain ⟨z, hz⟩ : ∃ z, h' (i + k) = z := ⟨_, rfl⟩
          rw [hP] at bP
          rw [hz] at bz cz
          have HN : Hid (∀ q, MIn w ((wr.drewN q).setCell ⟨w.heap.size, i + k, none⟩ (.int .u32 ((c + z + P) % 1000000000))) (n + m + 1) i (k + 1) (limb m g) h x ((c + z + P) / 1000000000)) := fun q =>
            min_next w wr (n + m + 1) i k q (limb m g) h h' x c z (g k) P (by omega) o h9 hs hv hb hz hP ey
          clear HI o h9 hs hv hb hL' ey hz hkc
          generalize g k = y at *
          have iik : ((i : Int) + (k : Int)).toNat = i + k := by omega
          have iil : (i : Int) + (k : Int) < (n : Int) + (m : Int) + 1 := by omega
          go_wp2_with fail
          go_quiet (fail)
          go_wp2
          go_roundw
          case rel => exact ⟨k + 1, _, by omega, rfl, by go_num, by omega, by omega, fun h => absurd h (by omega), HN.out _⟩
          case measure => simp [intOf]; omega
        · have hIk : ¬ (k : Int) < (m : Int) := by omega
          by_cases hc : 0 < c
          · have ek : k = m := by
              by_cases z : k = m + 1
              · have := hkc z; omega
              · omega
            subst ek
            obtain ⟨h', o, h9, hs, hv, hb⟩ := HI.out
            have cz := o.cell (i + k) (by omega)
            have fz := o.free (i + k)
            have hz : h' (i + k) = 0 := by rw [hs (i + k) (Nat.le_refl _)]; exact hzero
            rw [hz] at cz
            have ey : limb k g k = 0 := limb_z k g k (Nat.le_refl _)
            have HN0 := min_next w wr (n + k + 1) i k 0 (limb k g) h h' x c 0 0 0 (by omega) o h9 hs hv hb hz (by simp) ey
            rw [show (c + 0 + 0) % 1000000000 = c by omega, show (c + 0 + 0) / 1000000000 = 0 by omega] at HN0
            have HN : Hid (MIn w (wr.setCell ⟨w.heap.size, i + k, none⟩ (.int .u32 c)) (n + k + 1) i (k + 1) (limb k g) h x 0) := HN0
            have cm : c % 1000000000 = c := by omega
            have cd : c / 1000000000 = 0 := by omega
            have iik : ((i : Int) + (k : Int)).toNat = i + k := by omega
            have iil : (i : Int) + (k : Int) < (n : Int) + (k : Int) + 1 := by omega
            clear HI o h9 hs hv hb hz HN0 ey hkc
            go_wp2
            go_roundw
            case rel => exact ⟨k + 1, 0, by omega, by rw [cd], by go_num, by omega, by omega, fun _ => rfl, HN.out⟩
            case measure => simp [intOf] <;> omega
          · have ec : c = 0 := by omega
            subst ec
            have HR : Hid (MOut w wr (n + m + 1) (i + 1) f V) := by
              obtain ⟨h', o, h9, hs, hv, hb⟩ := HI.out
              refine ⟨h', o, h9, ?_, hb⟩
              rw [HVG.out k (by omega), HVH.out, Int.zero_mul, Int.add_zero] at hv
              rw [hv, HVS.out, Int.add_mul, Int.mul_right_comm x V]
            clear HI hkc
            go_wp2
            go_roundw
            case rel => exact ⟨i + 1, by omega, by go_num, HR.out⟩
            case measure => simp [intOf]; omega
    · have e : i = n := by omega
      subst e
      obtain ⟨h, o, h9, hv, hb⟩ := HM.out
      have ht := rtrim_any _ (i + m + 1) h wr (o.row (fun j => (h9 j).1) (fun j => by have := (h9 j).2; omega) (by unfold maxLen; omega)) (by omega)
      have HE : Hid (∀ r w2, (∃ m' f', Row w2 r m' f' ∧ (∀ j, j < m' → f' j = h j) ∧ Trims (i + m + 1) h m') → Num w2 r (val f i * V)) := fun r w2 k => rnum_of_trim (fun j _ => h9 j) k hv
      clear HM o h9 hv
      go_wp2_with fail
      refine ht.mono ?_
      rintro e w4 ⟨r, rfl, hr, _, b4⟩
      clear ht
      go_wp2
      go_ret
      exact ⟨_, rfl, HE.out _ _ hr, hb.trans (b4.mono hb.size)⟩
theorem rmul_num (v0 v1 : Value) (A B : Int) (w : World) (h0 : Num w v0 A) (h1 : Num w v1 B) (hA : A < pw 1000) (hB : B < pw 1000) :
    Calls Try.prog 33 #[v0, v1] w fun e w' => ∃ r, e = .returned r ∧ Num w' r (A * B) ∧ Below w.heap.size w w' := by
  obtain ⟨n, f, r0, c0, e0⟩ := h0
  obtain ⟨m, g, r1, c1, e1⟩ := h1
  have := can_le c0 (k := 1000) (by rw [e0]; exact hA)
  have := can_le c1 (k := 1000) (by rw [e1]; exact hB)
  have := rmul_any v0 v1 n m f g w r0 r1 c0.1 c1.1 (by omega) (by omega)
  rw [e0, e1] at this
  exact this
end Go.Proofs.Ytmhplblmabiekaa
