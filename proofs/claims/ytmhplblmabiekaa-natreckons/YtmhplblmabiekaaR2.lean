/-
  What ref.Add and ref.sub answer. Conditions: the numbers have at most 1000 limbs.
-/
import Derived.Test.YtmhplblmabiekaaR1
namespace Go.Proofs.Ytmhplblmabiekaa
open Go.RowKit

def dg (d nx : Int → Int → Int → Int) (F G : Nat → Int) : Nat → Int := fun i => d (F i) (G i) (carr nx F G i)
theorem dg_all {d nx : Int → Int → Int → Int} (hS : Steps d nx) {F G : Nat → Int} (hF : All9 F) (hG : All9 G) : All9 (dg d nx F G) := by
  intro i
  have := carr_bd hS hF hG i
  exact ⟨hS.dlo _ _ _ (hF i).1 (hF i).2 (hG i).1 (hG i).2 this.1 this.2, hS.dhi _ _ _ (hF i).1 (hF i).2 (hG i).1 (hG i).2 this.1 this.2⟩
theorem dg_outs (d nx : Int → Int → Int → Int) (F G : Nat → Int) (K : Nat) : val (dg d nx F G) K = val (outs d nx F G K) K := val_congr (fun i hi => by simp [dg, outs, hi])
theorem vals_succ (k : Nat) (g : Nat → Int) : vals k g ++ [.int .u32 (g k)] = vals (k + 1) g := by
  rw [vals_snoc]
  exact vals_congr (fun i hi => by
    unfold upd
    by_cases e : i = k
    · subst e; simp
    · simp [e])
/-- What stands at the head of each round. -/
def RRel (d nx : Int → Int → Int → Int) (F G : Nat → Int) (K : Nat) (kd : IntKind) (w : World) (v cy i : Value) (wr : World) : Prop :=
  ∃ k : Nat, k ≤ K ∧ i = .int .i64 k ∧ cy = .int kd (carr nx F G k) ∧ wr.ownsRow w.heap.size 46 1 v k (vals k (dg d nx F G)) ∧ Below w.heap.size w wr
theorem RRel_next {d nx : Int → Int → Int → Int} {F G : Nat → Int} {K : Nat} {kd : IntKind} {w w2 w3 : World} {v v' : Value} {o : Obj} {k : Nat} {D c' : Int} (hk : k < K) (hD : D = dg d nx F G k) (hc : c' = carr nx F G (k + 1))
    (hown2 : w2.ownsRow w.heap.size 46 1 v k (vals k (dg d nx F G))) (hb : Below w.heap.size w w2)
    (hown : w3.ownsRow w.heap.size 46 1 v' (k + 1) (vals k (dg d nx F G) ++ [.int .u32 D])) (hgrow : (w2.alloc o).grownBy w3 v.ownBlock) : RRel d nx F G K kd w v' (.int kd c') (.int .i64 ((k : Int) + 1)) w3 := by
  subst hD hc
  rw [vals_succ] at hown
  refine ⟨k + 1, by omega, by simp, rfl, hown, ?_⟩
  exact (hb.alloc hb.size o).grown hgrow (by simp; have := hb.size; omega) (fun j hj => (hown2.lt j hj).1)

set_option maxRecDepth 100000 in
set_option maxHeartbeats 3200000 in
theorem radd_ok (v0 v1 : Value) (A B : Int) (n m : Nat) (f g : Nat → Int) (w : World) (h0 : Row w v0 n f) (h1 : Row w v1 m g) (hf : Can n f) (hg : Can m g) (eA : val f n = A) (eB : val g m = B) (hn : n ≤ 1000) (hm : m ≤ 1000) :
    Calls Try.prog 12 #[v0, v1] w fun e w' => ∃ r, e = .returned (.tuple #[r, .int .i64 0]) ∧ Num w' r (A + B) ∧ Below w.heap.size w w' := by
  obtain ⟨i0, hi, hz0, hz1, hz2⟩ := info_parts info46
  have k0 := rcheck_ok v0 n f w h0 hf
  have k1 := rcheck_ok v1 m g w h1 hg
  have F9 := limb_all hf.1
  have G9 := limb_all hg.1
  obtain ⟨a, cap, e0, _⟩ := h0.shape
  obtain ⟨a', cap', e1, _⟩ := h1.shape
  have H0 : Hid (Row w v0 n f) := h0
  have H1 : Hid (Row w v1 m g) := h1
  have HF : Hid (Limbs n f) := hf.1
  have HG : Hid (Limbs m g) := hg.1
  have HEA : Hid (val f n = A) := eA
  have HEB : Hid (val g m = B) := eB
  clear h0 h1 hf hg eA eB
  subst e0 e1
  by_cases hnm : n < m
  · have hInm : (n : Int) < (m : Int) := by omega
    have HV : Hid (val (upd (dg dS nS (limb n f) (limb m g)) m (carr nS (limb n f) (limb m g) m)) (m + 1) = A + B) := by
      show val (upd _ _ _) _ = _
      rw [val_succ, val_congr (f := upd (dg dS nS (limb n f) (limb m g)) m (carr nS (limb n f) (limb m g) m)) (g := dg dS nS (limb n f) (limb m g)) (fun i hi => by simp [upd, show ¬ i = m by omega]), dg_outs]
      have e : upd (dg dS nS (limb n f) (limb m g)) m (carr nS (limb n f) (limb m g) m) m = carr nS (limb n f) (limb m g) m := by simp [upd]
      rw [e, sum_val m m (Nat.le_refl _), limb_val (by omega), limb_val (by omega), HEA.out, HEB.out]
    go_enter Try.func12, Try.ntmps12
    go_wp2_with fail
    refine k0.mono ?_
    rintro e w' ⟨rfl, rfl⟩
    go_wp2_with fail
    refine k1.mono ?_
    rintro e w' ⟨rfl, rfl⟩
    clear k0 k1
    go_wp2
    go_loopw [6, 7, 8] (fun v cy i wr => RRel dS nS (limb n f) (limb m g) m .u64 w v cy i wr) (fun _ _ i _ => m - (intOf i).toNat)
    case atStart => exact ⟨0, Nat.zero_le _, rfl, rfl, World.ownsRow_nil _ _ _ _, Below.refl _ _⟩
    case round =>
      obtain ⟨k, hk, rfl, rfl, hown, hb⟩ := hrel
      have hz := hb.size
      have bc := carr_bd stepsS F9 G9 k
      by_cases hlt : k < m
      · have hIk : (k : Int) < (m : Int) := by omega
        have hNc : carr nS (limb n f) (limb m g) (k + 1) = nS (limb n f k) (limb m g k) (carr nS (limb n f) (limb m g) k) := rfl
        have hDg : dg dS nS (limb n f) (limb m g) k = dS (limb n f k) (limb m g k) (carr nS (limb n f) (limb m g) k) := rfl
        have bF := F9 k
        have bG := G9 k
        by_cases ho : k < n
        · have hIo : (k : Int) < (n : Int) := by omega
          obtain ⟨b, off, cp, eS, _, _, hL⟩ := (H0.out.below hb).lies (by omega)
          obtain ⟨rfl, rfl⟩ : a = some ⟨b, off, none⟩ ∧ cap = cp := by simpa using eS
          have cx := hL.cell k (by omega)
          have ex : limb n f k = f k := by simp [limb, show k < n by omega]
          obtain ⟨b', off', cp', eS', _, _, hL'⟩ := (H1.out.below hb).lies (by omega)
          obtain ⟨rfl, rfl⟩ : a' = some ⟨b', off', none⟩ ∧ cap' = cp' := by simpa using eS'
          have cy := hL'.cell k (by omega)
          have ey : limb m g k = g k := by simp [limb, show k < m by omega]
          rw [ex, ey] at hNc hDg
          rw [ex] at bF
          rw [ey] at bG
          generalize f k = x at *
          generalize g k = y at *
          obtain ⟨c, hc⟩ : ∃ c, carr nS (limb n f) (limb m g) k = c := ⟨_, rfl⟩
          rw [hc] at hNc hDg bc ⊢
          have HN := fun v' w3 o h1 h2 => RRel_next (d := dS) (nx := nS) (F := limb n f) (G := limb m g) (K := m) (kd := .u64) (w := w) (w2 := wr) (w3 := w3) (v := u6) (v' := v') (o := o) (k := k) (D := (c + x + y) % 1000000000) (c' := (c + x + y) / 1000000000) hlt (by rw [hDg]; unfold dS; omega) (by rw [hNc]; unfold nS; omega) hown hb h1 h2
          clear hNc hDg hc ex ey
          go_wp2_with (at_builtin; refine wpList_append_own _ rfl _ _ 22 rfl w.heap.size 46 i0 (.int .u32 0) 1 4 Try.underlying22 hi hz0 hz1 hz2 rfl (by decide) _ _ _ rfl (hown.alloc _) ⟨wr.heap.size, 0, none⟩ 1 1 [.int .u32 ((c + x + y) % 1000000000)] rfl rfl (cell_one_new _ _) (by intro u hu; simp at hu; subst hu; rfl) (by unfold maxLen; omega) (by omega) (by simp; omega) ?_)
          intro v' w3 hown3 hgrow3 _
          have HR : Hid (RRel dS nS (limb n f) (limb m g) m .u64 w v' (.int .u64 ((c + x + y) / 1000000000)) (.int .i64 ((k : Int) + 1)) w3) := HN v' w3 _ hown3 hgrow3
          clear HN hown3 hgrow3 hown
          go_wp2
          go_roundw
          case rel => exact HR.out
          case measure => simp [intOf]; omega
        · have hIo : ¬ (k : Int) < (n : Int) := by omega
          obtain ⟨b', off', cp', eS', _, _, hL'⟩ := (H1.out.below hb).lies (by omega)
          obtain ⟨rfl, rfl⟩ : a' = some ⟨b', off', none⟩ ∧ cap' = cp' := by simpa using eS'
          have cy := hL'.cell k (by omega)
          have ey : limb m g k = g k := by simp [limb, show k < m by omega]
          have ex : limb n f k = 0 := limb_z n f k (by omega)
          rw [ex, ey] at hNc hDg
          rw [ey] at bG
          generalize g k = y at *
          obtain ⟨c, hc⟩ : ∃ c, carr nS (limb n f) (limb m g) k = c := ⟨_, rfl⟩
          rw [hc] at hNc hDg bc ⊢
          have HN := fun v' w3 o h1 h2 => RRel_next (d := dS) (nx := nS) (F := limb n f) (G := limb m g) (K := m) (kd := .u64) (w := w) (w2 := wr) (w3 := w3) (v := u6) (v' := v') (o := o) (k := k) (D := (c + y) % 1000000000) (c' := (c + y) / 1000000000) hlt (by rw [hDg]; unfold dS; omega) (by rw [hNc]; unfold nS; omega) hown hb h1 h2
          clear hNc hDg hc ex ey
          go_wp2_with (at_builtin; refine wpList_append_own _ rfl _ _ 22 rfl w.heap.size 46 i0 (.int .u32 0) 1 4 Try.underlying22 hi hz0 hz1 hz2 rfl (by decide) _ _ _ rfl (hown.alloc _) ⟨wr.heap.size, 0, none⟩ 1 1 [.int .u32 ((c + y) % 1000000000)] rfl rfl (cell_one_new _ _) (by intro u hu; simp at hu; subst hu; rfl) (by unfold maxLen; omega) (by omega) (by simp; omega) ?_)
          intro v' w3 hown3 hgrow3 _
          have HR : Hid (RRel dS nS (limb n f) (limb m g) m .u64 w v' (.int .u64 ((c + y) / 1000000000)) (.int .i64 ((k : Int) + 1)) w3) := HN v' w3 _ hown3 hgrow3
          clear HN hown3 hgrow3 hown
          go_wp2
          go_roundw
          case rel => exact HR.out
          case measure => simp [intOf]; omega
      · have e : k = m := by omega
        subst e
        obtain ⟨c, hc⟩ : ∃ c, carr nS (limb n f) (limb k g) k = c := ⟨_, rfl⟩
        rw [hc] at bc HV ⊢
        have U9 : Limbs (k + 1) (upd (dg dS nS (limb n f) (limb k g)) k c) := fun i _ => upd_all (dg_all stepsS F9 G9) k c (by omega) (by omega) i
        have hnot : ¬ (k : Int) < (k : Int) := by omega
        go_wp2_with (at_builtin; refine wpList_append_own _ rfl _ _ 22 rfl w.heap.size 46 i0 (.int .u32 0) 1 4 Try.underlying22 hi hz0 hz1 hz2 rfl (by decide) _ _ _ rfl (hown.alloc _) ⟨wr.heap.size, 0, none⟩ 1 1 [.int .u32 (c)] rfl rfl (cell_one_new _ _) (by intro u hu; simp at hu; subst hu; rfl) (by unfold maxLen; omega) (by omega) (by simp; omega) ?_)
        intro v' w3 hown3 hgrow3 _
        rw [vals_snoc] at hown3
        have hb3 : Below w.heap.size w w3 := (hb.alloc hz _).grown hgrow3 (by simp; omega) (fun j hj => (hown.lt j hj).1)
        have ht := rtrim_any v' (k + 1) _ w3 (row_own (fun i => (upd_all (dg_all stepsS F9 G9) k c (by omega) (by omega) i).1) (fun i => by have := (upd_all (dg_all stepsS F9 G9) k c (by omega) (by omega) i).2; omega) hown3) (by omega)
        clear hown3 hgrow3 hown
        go_wp2_with fail
        refine ht.mono ?_
        rintro e w4 ⟨r, rfl, hr, fr, b4⟩
        clear ht
        go_wp2
        go_ret2
        exact ⟨_, rfl, rnum_of_trim U9 hr HV.out, hb3.trans (b4.mono hb3.size)⟩
  · have hInm : ¬ (n : Int) < (m : Int) := by omega
    have HV : Hid (val (upd (dg dS nS (limb n f) (limb m g)) n (carr nS (limb n f) (limb m g) n)) (n + 1) = A + B) := by
      show val (upd _ _ _) _ = _
      rw [val_succ, val_congr (f := upd (dg dS nS (limb n f) (limb m g)) n (carr nS (limb n f) (limb m g) n)) (g := dg dS nS (limb n f) (limb m g)) (fun i hi => by simp [upd, show ¬ i = n by omega]), dg_outs]
      have e : upd (dg dS nS (limb n f) (limb m g)) n (carr nS (limb n f) (limb m g) n) n = carr nS (limb n f) (limb m g) n := by simp [upd]
      rw [e, sum_val n n (Nat.le_refl _), limb_val (by omega), limb_val (by omega), HEA.out, HEB.out]
    go_enter Try.func12, Try.ntmps12
    go_wp2_with fail
    refine k0.mono ?_
    rintro e w' ⟨rfl, rfl⟩
    go_wp2_with fail
    refine k1.mono ?_
    rintro e w' ⟨rfl, rfl⟩
    clear k0 k1
    go_wp2
    go_loopw [6, 7, 8] (fun v cy i wr => RRel dS nS (limb n f) (limb m g) n .u64 w v cy i wr) (fun _ _ i _ => n - (intOf i).toNat)
    case atStart => exact ⟨0, Nat.zero_le _, rfl, rfl, World.ownsRow_nil _ _ _ _, Below.refl _ _⟩
    case round =>
      obtain ⟨k, hk, rfl, rfl, hown, hb⟩ := hrel
      have hz := hb.size
      have bc := carr_bd stepsS F9 G9 k
      by_cases hlt : k < n
      · have hIk : (k : Int) < (n : Int) := by omega
        have hNc : carr nS (limb n f) (limb m g) (k + 1) = nS (limb n f k) (limb m g k) (carr nS (limb n f) (limb m g) k) := rfl
        have hDg : dg dS nS (limb n f) (limb m g) k = dS (limb n f k) (limb m g k) (carr nS (limb n f) (limb m g) k) := rfl
        have bF := F9 k
        have bG := G9 k
        by_cases ho : k < m
        · have hIo : (k : Int) < (m : Int) := by omega
          obtain ⟨b, off, cp, eS, _, _, hL⟩ := (H0.out.below hb).lies (by omega)
          obtain ⟨rfl, rfl⟩ : a = some ⟨b, off, none⟩ ∧ cap = cp := by simpa using eS
          have cx := hL.cell k (by omega)
          have ex : limb n f k = f k := by simp [limb, show k < n by omega]
          obtain ⟨b', off', cp', eS', _, _, hL'⟩ := (H1.out.below hb).lies (by omega)
          obtain ⟨rfl, rfl⟩ : a' = some ⟨b', off', none⟩ ∧ cap' = cp' := by simpa using eS'
          have cy := hL'.cell k (by omega)
          have ey : limb m g k = g k := by simp [limb, show k < m by omega]
          rw [ex, ey] at hNc hDg
          rw [ex] at bF
          rw [ey] at bG
          generalize f k = x at *
          generalize g k = y at *
          obtain ⟨c, hc⟩ : ∃ c, carr nS (limb n f) (limb m g) k = c := ⟨_, rfl⟩
          rw [hc] at hNc hDg bc ⊢
          have HN := fun v' w3 o h1 h2 => RRel_next (d := dS) (nx := nS) (F := limb n f) (G := limb m g) (K := n) (kd := .u64) (w := w) (w2 := wr) (w3 := w3) (v := u6) (v' := v') (o := o) (k := k) (D := (c + x + y) % 1000000000) (c' := (c + x + y) / 1000000000) hlt (by rw [hDg]; unfold dS; omega) (by rw [hNc]; unfold nS; omega) hown hb h1 h2
          clear hNc hDg hc ex ey
          go_wp2_with (at_builtin; refine wpList_append_own _ rfl _ _ 22 rfl w.heap.size 46 i0 (.int .u32 0) 1 4 Try.underlying22 hi hz0 hz1 hz2 rfl (by decide) _ _ _ rfl (hown.alloc _) ⟨wr.heap.size, 0, none⟩ 1 1 [.int .u32 ((c + x + y) % 1000000000)] rfl rfl (cell_one_new _ _) (by intro u hu; simp at hu; subst hu; rfl) (by unfold maxLen; omega) (by omega) (by simp; omega) ?_)
          intro v' w3 hown3 hgrow3 _
          have HR : Hid (RRel dS nS (limb n f) (limb m g) n .u64 w v' (.int .u64 ((c + x + y) / 1000000000)) (.int .i64 ((k : Int) + 1)) w3) := HN v' w3 _ hown3 hgrow3
          clear HN hown3 hgrow3 hown
          go_wp2
          go_roundw
          case rel => exact HR.out
          case measure => simp [intOf]; omega
        · have hIo : ¬ (k : Int) < (m : Int) := by omega
          obtain ⟨b, off, cp, eS, _, _, hL⟩ := (H0.out.below hb).lies (by omega)
          obtain ⟨rfl, rfl⟩ : a = some ⟨b, off, none⟩ ∧ cap = cp := by simpa using eS
          have cx := hL.cell k (by omega)
          have ex : limb n f k = f k := by simp [limb, show k < n by omega]
          have ey : limb m g k = 0 := limb_z m g k (by omega)
          rw [ex, ey] at hNc hDg
          rw [ex] at bF
          generalize f k = x at *
          obtain ⟨c, hc⟩ : ∃ c, carr nS (limb n f) (limb m g) k = c := ⟨_, rfl⟩
          rw [hc] at hNc hDg bc ⊢
          have HN := fun v' w3 o h1 h2 => RRel_next (d := dS) (nx := nS) (F := limb n f) (G := limb m g) (K := n) (kd := .u64) (w := w) (w2 := wr) (w3 := w3) (v := u6) (v' := v') (o := o) (k := k) (D := (c + x) % 1000000000) (c' := (c + x) / 1000000000) hlt (by rw [hDg]; unfold dS; omega) (by rw [hNc]; unfold nS; omega) hown hb h1 h2
          clear hNc hDg hc ex ey
          go_wp2_with (at_builtin; refine wpList_append_own _ rfl _ _ 22 rfl w.heap.size 46 i0 (.int .u32 0) 1 4 Try.underlying22 hi hz0 hz1 hz2 rfl (by decide) _ _ _ rfl (hown.alloc _) ⟨wr.heap.size, 0, none⟩ 1 1 [.int .u32 ((c + x) % 1000000000)] rfl rfl (cell_one_new _ _) (by intro u hu; simp at hu; subst hu; rfl) (by unfold maxLen; omega) (by omega) (by simp; omega) ?_)
          intro v' w3 hown3 hgrow3 _
          have HR : Hid (RRel dS nS (limb n f) (limb m g) n .u64 w v' (.int .u64 ((c + x) / 1000000000)) (.int .i64 ((k : Int) + 1)) w3) := HN v' w3 _ hown3 hgrow3
          clear HN hown3 hgrow3 hown
          go_wp2
          go_roundw
          case rel => exact HR.out
          case measure => simp [intOf]; omega
      · have e : k = n := by omega
        subst e
        obtain ⟨c, hc⟩ : ∃ c, carr nS (limb k f) (limb m g) k = c := ⟨_, rfl⟩
        rw [hc] at bc HV ⊢
        have U9 : Limbs (k + 1) (upd (dg dS nS (limb k f) (limb m g)) k c) := fun i _ => upd_all (dg_all stepsS F9 G9) k c (by omega) (by omega) i
        have hnot : ¬ (k : Int) < (k : Int) := by omega
        go_wp2_with (at_builtin; refine wpList_append_own _ rfl _ _ 22 rfl w.heap.size 46 i0 (.int .u32 0) 1 4 Try.underlying22 hi hz0 hz1 hz2 rfl (by decide) _ _ _ rfl (hown.alloc _) ⟨wr.heap.size, 0, none⟩ 1 1 [.int .u32 (c)] rfl rfl (cell_one_new _ _) (by intro u hu; simp at hu; subst hu; rfl) (by unfold maxLen; omega) (by omega) (by simp; omega) ?_)
        intro v' w3 hown3 hgrow3 _
        rw [vals_snoc] at hown3
        have hb3 : Below w.heap.size w w3 := (hb.alloc hz _).grown hgrow3 (by simp; omega) (fun j hj => (hown.lt j hj).1)
        have ht := rtrim_any v' (k + 1) _ w3 (row_own (fun i => (upd_all (dg_all stepsS F9 G9) k c (by omega) (by omega) i).1) (fun i => by have := (upd_all (dg_all stepsS F9 G9) k c (by omega) (by omega) i).2; omega) hown3) (by omega)
        clear hown3 hgrow3 hown
        go_wp2_with fail
        refine ht.mono ?_
        rintro e w4 ⟨r, rfl, hr, fr, b4⟩
        clear ht
        go_wp2
        go_ret2
        exact ⟨_, rfl, rnum_of_trim U9 hr HV.out, hb3.trans (b4.mono hb3.size)⟩

set_option maxRecDepth 100000 in
set_option maxHeartbeats 3200000 in
theorem rsub_num (v0 v1 : Value) (A B : Int) (n m : Nat) (f g : Nat → Int) (w : World) (h0 : Row w v0 n f) (h1 : Row w v1 m g) (hf : Can n f) (hg : Can m g) (eA : val f n = A) (eB : val g m = B) (hn : n ≤ 1000) (hle : B ≤ A) :
    Calls Try.prog 31 #[v0, v1] w fun e w' => ∃ r, e = .returned r ∧ (Num w' r (A - B) ∧ From w.heap.size r) ∧ Below w.heap.size w w' := by
  obtain ⟨i0, hi, hz0, hz1, hz2⟩ := info_parts info46
  have hmn : m ≤ n := by
    by_cases z : m ≤ n
    · exact z
    · have := can_less hf.1 hg (by omega); omega
  have F9 := limb_all hf.1
  have G9 := limb_all hg.1
  have HV : Hid (val (dg dD nD (limb n f) (limb m g)) n = A - B) := by
    show val _ n = _
    rw [dg_outs, dif_fits hf.1 hg.1 hmn (by omega), eA, eB]
  obtain ⟨a, cap, e0, _⟩ := h0.shape
  obtain ⟨a', cap', e1, _⟩ := h1.shape
  have H0 : Hid (Row w v0 n f) := h0
  have H1 : Hid (Row w v1 m g) := h1
  clear h0 h1 hf hg eA eB
  subst e0 e1
  go_enter Try.func31, Try.ntmps31
  go_wp2
  go_loopw [5, 6, 7] (fun v cy i wr => RRel dD nD (limb n f) (limb m g) n .u32 w v cy i wr) (fun _ _ i _ => n - (intOf i).toNat)
  case atStart => exact ⟨0, Nat.zero_le _, rfl, rfl, World.ownsRow_nil _ _ _ _, Below.refl _ _⟩
  case round =>
    obtain ⟨k, hk, rfl, rfl, hown, hb⟩ := hrel
    have hz := hb.size
    have bc := carr_bd stepsD F9 G9 k
    by_cases hlt : k < n
    · have hIk : (k : Int) < (n : Int) := by omega
      have hNc : carr nD (limb n f) (limb m g) (k + 1) = nD (limb n f k) (limb m g k) (carr nD (limb n f) (limb m g) k) := rfl
      have hDg : dg dD nD (limb n f) (limb m g) k = dD (limb n f k) (limb m g k) (carr nD (limb n f) (limb m g) k) := rfl
      have bF := F9 k
      have bG := G9 k
      obtain ⟨b, off, cp, eS, _, _, hL⟩ := (H0.out.below hb).lies (by omega)
      obtain ⟨rfl, rfl⟩ : a = some ⟨b, off, none⟩ ∧ cap = cp := by simpa using eS
      have cx := hL.cell k (by omega)
      have ex : limb n f k = f k := by simp [limb, show k < n by omega]
      rw [ex] at hNc hDg bF
      generalize f k = x at *
      obtain ⟨c, hc⟩ : ∃ c, carr nD (limb n f) (limb m g) k = c := ⟨_, rfl⟩
      rw [hc] at hNc hDg bc ⊢
      by_cases ho : k < m
      · have hIo : (k : Int) < (m : Int) := by omega
        obtain ⟨b', off', cp', eS', _, _, hL'⟩ := (H1.out.below hb).lies (by omega)
        obtain ⟨rfl, rfl⟩ : a' = some ⟨b', off', none⟩ ∧ cap' = cp' := by simpa using eS'
        have cy := hL'.cell k (by omega)
        have ey : limb m g k = g k := by simp [limb, show k < m by omega]
        rw [ey] at hNc hDg bG
        generalize g k = y at *
        by_cases hge : c + y ≤ x
        · have HN := fun v' w3 o h1 h2 => RRel_next (d := dD) (nx := nD) (F := limb n f) (G := limb m g) (K := n) (kd := .u32) (w := w) (w2 := wr) (w3 := w3) (v := u5) (v' := v') (o := o) (k := k) (D := x - (c + y)) (c' := 0) hlt (by rw [hDg]; unfold dD; omega) (by rw [hNc]; unfold nD; omega) hown hb h1 h2
          clear hNc hDg hc
          go_wp2_with (at_builtin; refine wpList_append_own _ rfl _ _ 22 rfl w.heap.size 46 i0 (.int .u32 0) 1 4 Try.underlying22 hi hz0 hz1 hz2 rfl (by decide) _ _ _ rfl (hown.alloc _) ⟨wr.heap.size, 0, none⟩ 1 1 [.int .u32 (x - (c + y))] rfl rfl (cell_one_new _ _) (by intro u hu; simp at hu; subst hu; rfl) (by unfold maxLen; omega) (by omega) (by simp; omega) ?_)
          intro v' w3 hown3 hgrow3 _
          have HR : Hid (RRel dD nD (limb n f) (limb m g) n .u32 w v' (.int .u32 (0)) (.int .i64 ((k : Int) + 1)) w3) := HN v' w3 _ hown3 hgrow3
          clear HN hown3 hgrow3 hown
          go_wp2
          go_roundw
          case rel => exact HR.out
          case measure => simp [intOf]; omega
        · have HN := fun v' w3 o h1 h2 => RRel_next (d := dD) (nx := nD) (F := limb n f) (G := limb m g) (K := n) (kd := .u32) (w := w) (w2 := wr) (w3 := w3) (v := u5) (v' := v') (o := o) (k := k) (D := x + 1000000000 - (c + y)) (c' := 1) hlt (by rw [hDg]; unfold dD; omega) (by rw [hNc]; unfold nD; omega) hown hb h1 h2
          clear hNc hDg hc
          go_wp2_with (at_builtin; refine wpList_append_own _ rfl _ _ 22 rfl w.heap.size 46 i0 (.int .u32 0) 1 4 Try.underlying22 hi hz0 hz1 hz2 rfl (by decide) _ _ _ rfl (hown.alloc _) ⟨wr.heap.size, 0, none⟩ 1 1 [.int .u32 (x + 1000000000 - (c + y))] rfl rfl (cell_one_new _ _) (by intro u hu; simp at hu; subst hu; rfl) (by unfold maxLen; omega) (by omega) (by simp; omega) ?_)
          intro v' w3 hown3 hgrow3 _
          have HR : Hid (RRel dD nD (limb n f) (limb m g) n .u32 w v' (.int .u32 (1)) (.int .i64 ((k : Int) + 1)) w3) := HN v' w3 _ hown3 hgrow3
          clear HN hown3 hgrow3 hown
          go_wp2
          go_roundw
          case rel => exact HR.out
          case measure => simp [intOf]; omega
      · have hIo : ¬ (k : Int) < (m : Int) := by omega
        have ey : limb m g k = 0 := limb_z m g k (by omega)
        rw [ey] at hNc hDg
        by_cases hge : c ≤ x
        · have HN := fun v' w3 o h1 h2 => RRel_next (d := dD) (nx := nD) (F := limb n f) (G := limb m g) (K := n) (kd := .u32) (w := w) (w2 := wr) (w3 := w3) (v := u5) (v' := v') (o := o) (k := k) (D := x - (c)) (c' := 0) hlt (by rw [hDg]; unfold dD; omega) (by rw [hNc]; unfold nD; omega) hown hb h1 h2
          clear hNc hDg hc
          go_wp2_with (at_builtin; refine wpList_append_own _ rfl _ _ 22 rfl w.heap.size 46 i0 (.int .u32 0) 1 4 Try.underlying22 hi hz0 hz1 hz2 rfl (by decide) _ _ _ rfl (hown.alloc _) ⟨wr.heap.size, 0, none⟩ 1 1 [.int .u32 (x - (c))] rfl rfl (cell_one_new _ _) (by intro u hu; simp at hu; subst hu; rfl) (by unfold maxLen; omega) (by omega) (by simp; omega) ?_)
          intro v' w3 hown3 hgrow3 _
          have HR : Hid (RRel dD nD (limb n f) (limb m g) n .u32 w v' (.int .u32 (0)) (.int .i64 ((k : Int) + 1)) w3) := HN v' w3 _ hown3 hgrow3
          clear HN hown3 hgrow3 hown
          go_wp2
          go_roundw
          case rel => exact HR.out
          case measure => simp [intOf]; omega
        · have HN := fun v' w3 o h1 h2 => RRel_next (d := dD) (nx := nD) (F := limb n f) (G := limb m g) (K := n) (kd := .u32) (w := w) (w2 := wr) (w3 := w3) (v := u5) (v' := v') (o := o) (k := k) (D := x + 1000000000 - (c)) (c' := 1) hlt (by rw [hDg]; unfold dD; omega) (by rw [hNc]; unfold nD; omega) hown hb h1 h2
          clear hNc hDg hc
          go_wp2_with (at_builtin; refine wpList_append_own _ rfl _ _ 22 rfl w.heap.size 46 i0 (.int .u32 0) 1 4 Try.underlying22 hi hz0 hz1 hz2 rfl (by decide) _ _ _ rfl (hown.alloc _) ⟨wr.heap.size, 0, none⟩ 1 1 [.int .u32 (x + 1000000000 - (c))] rfl rfl (cell_one_new _ _) (by intro u hu; simp at hu; subst hu; rfl) (by unfold maxLen; omega) (by omega) (by simp; omega) ?_)
          intro v' w3 hown3 hgrow3 _
          have HR : Hid (RRel dD nD (limb n f) (limb m g) n .u32 w v' (.int .u32 (1)) (.int .i64 ((k : Int) + 1)) w3) := HN v' w3 _ hown3 hgrow3
          clear HN hown3 hgrow3 hown
          go_wp2
          go_roundw
          case rel => exact HR.out
          case measure => simp [intOf]; omega
    · have e : k = n := by omega
      subst e
      have U9 := dg_all stepsD F9 G9
      have ht := rtrim_any u5 k _ wr (row_own (fun i => (U9 i).1) (fun i => by have := (U9 i).2; omega) hown) (by omega)
      have U9' : Limbs k (dg dD nD (limb k f) (limb m g)) := fun i _ => U9 i
      clear hown U9
      generalize carr nD (limb k f) (limb m g) k = c at *
      go_wp2_with fail
      refine ht.mono ?_
      rintro e w4 ⟨r, rfl, hr, fr, b4⟩
      clear ht
      go_wp2
      go_ret
      exact ⟨_, rfl, ⟨rnum_of_trim U9' hr HV.out, fun a n c e => Nat.le_trans hz (fr a n c e)⟩, hb.trans (b4.mono hz)⟩
end Go.Proofs.Ytmhplblmabiekaa
