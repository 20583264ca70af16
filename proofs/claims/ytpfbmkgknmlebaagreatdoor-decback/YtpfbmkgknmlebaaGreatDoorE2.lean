/-
  What nat.take leaves in a row of the call's own. Conditions: the row is worth at least as much as is taken off; fewer than 10^9 times.
-/
import Derived.Test.YtpfbmkgknmlebaaGreatDoorE1
namespace Go.Proofs.YtpfbmkgknmlebaaGreatDoor
open Go.RowKit

theorem take_step' (V T F t p x b lo bo Q : Int) (k : Nat) (hI : V + F * t = T + bo * pw k) (hp : b * t + bo = p) (hlo : p % 1000000000 = lo) (hQ : p / 1000000000 = Q) :
    (x < lo → V + (x + 1000000000 - lo) * pw k + (F + b * pw k) * t = T + x * pw k + (Q + 1) * pw (k + 1)) ∧
    (¬ x < lo → V + (x - lo) * pw k + (F + b * pw k) * t = T + x * pw k + Q * pw (k + 1)) := by
  subst hQ
  exact take_step V T F t p x b lo bo k hI hp hlo
theorem val_sh_upd (f : Nat → Int) (a k : Nat) (z : Int) : val (sh (upd f (a + k) z) a) (k + 1) = val (sh f a) k + z * pw k := by
  rw [val_succ]
  have e1 : sh (upd f (a + k) z) a k = z := by simp [sh, upd]
  rw [e1, val_congr (f := sh (upd f (a + k) z) a) (g := sh f a) (fun i hi => by unfold sh upd; rw [if_neg (by omega)])]
theorem grown_refl (w : World) (r : Option Nat) : w.grownBy w r := ⟨rfl, rfl, rfl, Nat.le_refl _, fun _ _ _ => rfl⟩
theorem grown_drew {w w' : World} {r : Option Nat} (h : w.grownBy w' r) (q : Nat) : w.grownBy (w'.drewN q) r := ⟨h.os, h.tape, h.output, h.size, h.block⟩
theorem grown_set {w w' : World} {g : Nat} (h : w.grownBy w' (some g)) (o : Nat) (u : Value) : w.grownBy (w'.setCell ⟨g, o, none⟩ u) (some g) :=
  ⟨h.os, h.tape, h.output, by simpa [World.setCell] using h.size, fun k hk hne => by rw [Below.heap_setCell _ _ _ _ (by simp at hne ⊢; omega)]; exact h.block k hk hne⟩
theorem grown_trans {a b c : World} {g : Nat} (h : a.grownBy b (some g)) (k : b.grownBy c (some g)) : a.grownBy c (some g) :=
  ⟨k.os.trans h.os, k.tape.trans h.tape, k.output.trans h.output, Nat.le_trans h.size k.size, fun i hi hne => (k.block i (Nat.lt_of_lt_of_le hi h.size) hne).trans (h.block i hi hne)⟩
/-- The row, in the middle of nat.take. -/
def TkRel (w wr : World) (B g N a _m k : Nat) (f gb : Nat → Int) (t bo : Int) : Prop :=
  ∃ f', Own wr B g N f' ∧ All9 f' ∧ (∀ i, i < a ∨ a + k ≤ i → f' i = f i) ∧ val (sh f' a) k + val gb k * t = val (sh f a) k + bo * pw k ∧ w.grownBy wr (some g)
/-- What nat.take leaves. -/
def Taken (w w' : World) (B g N a m : Nat) (f gb : Nat → Int) (t : Int) : Prop :=
  ∃ f', Own w' B g N f' ∧ All9 f' ∧ (∀ i, i < a ∨ a + m + 1 ≤ i → f' i = f i) ∧ val (sh f' a) (m + 1) = val (sh f a) (m + 1) - val gb m * t ∧ w.grownBy w' (some g)
theorem tk_next (w wr : World) (B g N a m k q : Nat) (f gb : Nat → Int) (t bo x z bo' : Int) (h : TkRel w wr B g N a m k f gb t bo) (hx : f (a + k) = x) (z0 : 0 ≤ z) (z1 : z < 1000000000)
    (he : ∀ V T F, V + F * t = T + bo * pw k → V + z * pw k + (F + gb k * pw k) * t = T + x * pw k + bo' * pw (k + 1)) :
    TkRel w ((wr.drewN q).setCell ⟨g, a + k, none⟩ (.int .u32 z)) B g N a m (k + 1) f gb t bo' := by
  obtain ⟨f', o, a9, hf, hv, hg⟩ := h
  have o2 : Own (wr.drewN q) B g N f' := o
  refine ⟨upd f' (a + k) z, o2.stored _ _, upd_all a9 _ _ z0 z1, fun i hi => ?_, ?_, grown_set (grown_drew hg q) _ _⟩
  · rw [show upd f' (a + k) z i = f' i by simp [upd, show ¬ i = a + k by omega]]
    exact hf i (by omega)
  · rw [val_sh_upd, val_succ, val_succ, show sh f a k = x from hx]
    exact he _ _ _ hv
theorem tk_last (w wr : World) (B g N a m : Nat) (f gb : Nat → Int) (t bo x : Int) (h : TkRel w wr B g N a m m f gb t bo) (hx : f (a + m) = x) (x1 : x < 1000000000) (b0 : 0 ≤ bo) (hge : val gb m * t ≤ val (sh f a) (m + 1)) :
    bo ≤ x ∧ Taken w (wr.setCell ⟨g, a + m, none⟩ (.int .u32 (x - bo))) B g N a m f gb t := by
  obtain ⟨f', o, a9, hf, hv, hg⟩ := h
  have es : val (sh f a) (m + 1) = val (sh f a) m + x * pw m := by rw [val_succ, show sh f a m = x from hx]
  have l1 : val (sh f' a) m < pw m := val_lt (fun i _ => a9 (a + i))
  have hle : bo ≤ x := by
    by_cases z : bo ≤ x
    · exact z
    · have : (x + 1) * pw m ≤ bo * pw m := Int.mul_le_mul_of_nonneg_right (by omega) (by have := pw_pos m; omega)
      rw [Int.add_mul] at this
      omega
  refine ⟨hle, upd f' (a + m) (x - bo), o.stored _ _, upd_all a9 _ _ (by omega) (by omega), fun i hi => ?_, ?_, grown_set hg _ _⟩
  · rw [show upd f' (a + m) (x - bo) i = f' i by simp [upd, show ¬ i = a + m by omega]]
    exact hf i (by omega)
  · rw [val_sh_upd, es, Int.sub_mul]; omega

set_option maxRecDepth 100000 in
set_option maxHeartbeats 1600000 in
theorem take_any (vb : Value) (B g N a m : Nat) (f gb : Nat → Int) (t : Int) (w0 w : World) (hB : Below w0.heap.size w0 w) (hBg : w0.heap.size ≤ B) (hR : Row w0 vb m gb) (hb : Limbs m gb) (h0 : 0 < m) (hm : m ≤ maxLen) (hO : Own w B g N f) (h9 : All9 f) (hN : a + m + 1 ≤ N) (hNm : N ≤ 4611686018427387904)
    (t0 : 0 ≤ t) (t1 : t < 1000000000) (hge : val gb m * t ≤ val (sh f a) (m + 1)) :
    Calls Tryz.prog 130 #[.slice (some ⟨g, a, none⟩) (m + 1) (m + 1), vb, .int .u64 t] w fun e w' => e = .returned (.tuple #[]) ∧ Taken w w' B g N a m f gb t := by
  obtain ⟨b, off, cap, rfl, hc, hcm, hL⟩ := hR.lies h0
  have hbB := hL.lt h0
  have HL : Hid (Lies w0 b off m gb) := hL
  have HB : Hid (Below w0.heap.size w0 w) := hB
  have HLb : Hid (Limbs m gb) := hb
  have HG : Hid (val gb m * t ≤ val (sh f a) (m + 1)) := hge
  have gB := hO.block.1
  have H9 : Hid (All9 f) := h9
  have HS : Hid (TkRel w w B g N a m 0 f gb t 0) := ⟨f, hO, h9, fun _ _ => rfl, by simp [val_zero], grown_refl _ _⟩
  have hmI : (m : Int) < 4611686018427387904 := by omega
  clear hR hL hB hb hge hO h9 hcm
  go_enter Tryz.func130, Tryz.ntmps130
  go_wp2
  go_loopw [6, 14] (fun bo i wr => ∃ (k : Nat) (x : Int), k ≤ m ∧ bo = .int .u64 x ∧ i = .int .i64 k ∧ 0 ≤ x ∧ x ≤ t ∧ Hid (TkRel w wr B g N a m k f gb t x)) (fun _ i _ => m - (intOf i).toNat)
  case atStart => exact ⟨0, 0, Nat.zero_le _, rfl, rfl, by omega, t0, HS.out⟩
  case round =>
    obtain ⟨k, bo, hk, rfl, rfl, b0, b1, HT⟩ := hrel
    obtain ⟨f', o, a9, hf, hv, hg⟩ := HT.out
    have bel : Below w0.heap.size w0 wr := HB.out.grown hg HB.out.size (fun j hj => by simp at hj; omega)
    have cx := o.cell (a + k) (by omega)
    rw [hf (a + k) (by omega)] at cx
    have fx := o.free (a + k)
    by_cases hlt : k < m
    · have hI : (k : Int) < (m : Int) := by omega
      have cy : wr.cell? ⟨b, off + k, none⟩ = some (.int .u32 (gb k)) := by rw [bel.cell (p := ⟨b, off + k, none⟩) hbB]; exact HL.out.cell k hlt
      have by9 := HLb.out k hlt
      have bx9 := H9.out (a + k)
      obtain ⟨Pr, hPr⟩ : ∃ Pr, gb k * t = Pr := ⟨_, rfl⟩
      have pr0 : 0 ≤ Pr := by rw [← hPr]; exact Int.mul_nonneg by9.1 t0
      have pr1 : Pr ≤ 999999999 * t := by rw [← hPr]; exact Int.mul_le_mul_of_nonneg_right (by omega) t0
      have hi1 : (k : Int) < (m : Int) + 1 := by omega
      have HNX := fun q z bo' x hx z0 z1 he => tk_next w wr B g N a m k q f gb t bo x z bo' HT.out hx z0 z1 he
      have STP := fun V T F x lo qb hI2 hlo hq => take_step' V T F t (Pr + bo) x (gb k) lo bo qb k hI2 (by rw [hPr]) hlo hq
      clear o a9 hf hv hg bel HT
      obtain ⟨x, hx⟩ : ∃ x, f (a + k) = x := ⟨_, rfl⟩
      rw [hx] at cx bx9
      obtain ⟨lo, hlo⟩ : ∃ lo, (Pr + bo) % 1000000000 = lo := ⟨_, rfl⟩
      have lo0 : 0 ≤ lo := by omega
      have lo1 : lo < 1000000000 := by omega
      obtain ⟨qb, hqb⟩ : ∃ qb, (Pr + bo) / 1000000000 = qb := ⟨_, rfl⟩
      have qb0 : 0 ≤ qb := by omega
      have qb1 : qb ≤ t := by omega
      have qb2 : 0 < lo → qb + 1 ≤ t := by intro _; omega
      have hsum : Pr + bo = qb * 1000000000 + lo := by omega
      by_cases hxl : x < lo
      · have bo1 : qb + 1 ≤ t := qb2 (by omega)
        have HR : Hid (∀ q, TkRel w ((wr.drewN q).setCell ⟨g, a + k, none⟩ (.int .u32 (x + 1000000000 - lo))) B g N a m (k + 1) f gb t (qb + 1)) := fun q =>
          HNX q _ _ x hx (by omega) (by omega) (fun V T F hI2 => (STP V T F x lo qb hI2 hlo hqb).1 hxl)
        have HX : Hid (f (a + k) = x) := hx
        clear HNX STP hx hsum qb2
        generalize gb k = y at *
        go_wp2_with fail
        go_quiet (fail)
        go_wp2
        go_roundw
        case rel => exact ⟨k + 1, qb + 1, by omega, by (first | rfl | rw [hqb]), by go_num, by omega, bo1, HR.out _⟩
        case measure => simp [intOf]; omega
      · have bo1 : qb ≤ t := qb1
        have hxl' : lo ≤ x := by omega
        have HR : Hid (∀ q, TkRel w ((wr.drewN q).setCell ⟨g, a + k, none⟩ (.int .u32 (x - lo))) B g N a m (k + 1) f gb t qb) := fun q =>
          HNX q _ _ x hx (by omega) (by omega) (fun V T F hI2 => (STP V T F x lo qb hI2 hlo hqb).2 hxl)
        have HX : Hid (f (a + k) = x) := hx
        have hxd : decide (x < lo) = false := decide_eq_false hxl
        clear HNX STP hx hsum qb2 hxl bo1
        generalize gb k = y at *
        go_wp2_with fail
        go_quiet (fail)
        go_wp2
        go_roundw
        case rel => exact ⟨k + 1, qb, by omega, by (first | rfl | rw [hqb]), by go_num, qb0, qb1, HR.out _⟩
        case measure => simp [intOf]; omega
    · have e : k = m := by omega
      subst e
      have bx9 := H9.out (a + k)
      have HE := tk_last w wr B g N a k f gb t bo _ HT.out rfl bx9.2 b0 HG.out
      have hle := HE.1
      have HF : Hid (Taken w (wr.setCell ⟨g, a + k, none⟩ (.int .u32 (f (a + k) - bo))) B g N a k f gb t) := HE.2
      have hi1 : (k : Int) < (k : Int) + 1 := by omega
      clear o a9 hf hv hg bel HT HE
      generalize f (a + k) = x at *
      go_wp2
      go_end0
      exact ⟨rfl, HF.out⟩
end Go.Proofs.YtpfbmkgknmlebaaGreatDoor
