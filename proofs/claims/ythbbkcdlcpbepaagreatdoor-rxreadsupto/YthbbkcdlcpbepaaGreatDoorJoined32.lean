/-
  The reference's count. No condition.
-/
import Derived.Test.YthbbkcdlcpbepaaGreatDoorJoined31
import Derived.Test.YthbbkcdlcpbepaaGreatDoorJoined16
import Derived.Deep.RegionHeld3
import Derived.Deep.DeepCutAuto
import Derived.Deep.LoopGhost
import Derived.Deep.CutBlock
namespace Go.Proofs.YthbbkcdlcpbepaaGreatDoor
open Go.RowKit
attribute [local go_sem] setCell_drewN alloc_drewN

/-- What count answers: a tree and the place behind it, or it failed. -/
def CntQ (y : Option (RX × List Int)) (S : List Int) (pb : Nat) (g : Int) (X : Nat → Prop) (w : World) (r : Ending) (w' : World) : Prop :=
  But (· = pb) w w' ∧ match y with
    | none => ∃ t f a', r = .returned (xa f) ∧ XI w' X t f ∧ RP w' pb S a' g true
    | some (t, l') => ∃ f a', r = .returned (xa f) ∧ XI w' X t f ∧ RP w' pb S a' g false ∧ a' ≤ S.length ∧ l' = S.drop a'
theorem cnt_fin {S : List Int} {a aT : Nat} {bad bT : Bool} {x : RX} {low high : Int} (h : TailF S a bad x low high aT bT) : (if bad = true then none else countedL x (S.drop a)) = if bT = true then none else some (.mk 5 [] low high (decide (pk S aT = 63)) [x], S.drop (tk S aT 63)) := by
  cases bT
  · obtain ⟨rfl, h⟩ := h
    simp only [Bool.false_eq_true, reduceIte]
    rw [h, lazy_at]
  · rcases h with rfl | h
    · rfl
    · rw [h]; simp
theorem cnt_end {S : List Int} {pb aF : Nat} {g low high : Int} {X : Nat → Prop} {w wf : World} {bT zb : Bool} {x : RX} {F : Nat → Value} {r : Ending} (h1 : But (· = pb) w wf) (h2 : XI wf X (.mk 5 [] low high zb [x]) F) (h3 : RP wf pb S aF g bT) (h4 : bT = false → aF ≤ S.length) (h5 : r = .returned (xa F)) :
    CntQ (if bT = true then none else some (.mk 5 [] low high zb [x], S.drop aF)) S pb g X w r wf := by
  cases bT
  · exact ⟨h1, F, aF, h5, h2, h3, h4 rfl, rfl⟩
  · exact ⟨h1, _, F, aF, h5, h2, h3⟩
theorem RP.al {w : World} {pb a : Nat} {S : List Int} {g : Int} {bad : Bool} (h : RP w pb S a g bad) (o : Obj) : RP (w.alloc o) pb S a g bad := h.below (vb_a (Below.refl _ _) _)

set_option maxRecDepth 100000 in
set_option maxHeartbeats 12800000 in
theorem rcount_any (w : World) (pb a : Nat) (S : List Int) (g : Int) (bad : Bool) (X : Nat → Prop) (hX : ∀ b, X b → b < w.heap.size) (hXr : X pb) (x : RX) (f : Nat → Value) (hx : XI w X x f) (ha : a ≤ S.length ∨ bad = true) (h : RP w pb S a g bad)  :
    Calls Tryz.prog 60 #[.pointer (some ⟨pb, 0, none⟩), xa f] w (CntQ (if bad = true then none else countedL x (S.drop a)) S pb g X w) := by
  obtain ⟨P, hP⟩ : ∃ P, P = CntQ (if bad = true then none else countedL x (S.drop a)) S pb g X w := ⟨_, rfl⟩
  rw [← hP]
  have HP := hid_intro hP
  have HPL := hid_intro h.lt
  obtain ⟨k_, i1, n1, q1, lo, hi, z, i2, n2, q2, ef⟩ := hx.lit
  have HEF := hid_intro ef
  have HX := hid_intro hx
  have HXL := hid_intro hX
  have HXR := hid_intro hXr
  have HAL := hid_intro ha
  have HLN := hid_intro h.len
  rw [ef]
  obtain ⟨W, hW⟩ : ∃ W, (w.alloc (.cells #[.int .i64 k_, .slice i1 n1 q1, .int .i64 lo, .int .i64 hi, .bool z, .slice i2 n2 q2] 26)).alloc (.cells #[.int .i64 0, .slice none 0 0, .int .i64 0, .int .i64 0, .bool false, .slice none 0 0] 26) = W := ⟨_, rfl⟩
  have hWb : Below w.heap.size w W := hW ▸ vb_a (vb_a (Below.refl _ _) _) _
  have HKA : Hid (Bk W w.heap.size #[.int .i64 k_, .slice i1 n1 q1, .int .i64 lo, .int .i64 hi, .bool z, .slice i2 n2 q2]) := hid_intro (hW ▸ (Bk.new _ _ _).al _)
  have HKZ : Hid (Bk W (w.heap.size + 1) #[.int .i64 0, .slice none 0 0, .int .i64 0, .int .i64 0, .bool false, .slice none 0 0]) := hid_intro (hW ▸ Bk.new' _ _ _ _ (by simp))
  have HR0 : Hid (RP W pb S a g bad) := hid_intro (h.below hWb)
  have HBW : Hid (But (· = pb) w W) := hid_intro (But.ofBelow hWb)
  have HMW : Hid (w.heap.size + 1 < W.heap.size) := hid_intro (by rw [← hW]; simp)
  have hnp0 : ¬ w.heap.size = pb := by have := h.lt; omega
  have hnp1 : ¬ w.heap.size + 1 = pb := by have := h.lt; omega
  have hT := fun (c : Int) (hc : c ≠ -1) (a : Nat) (bad : Bool) w' (h : RP w' pb S a g bad) => rtake_any w' pb a S g c bad hc h
  clear hP h hx ef hX hXr ha hWb
  go_enter Tryz.func60, Tryz.ntmps60
  go_upto_block 0 with fail
  go_cut [5, 6] (fun s5 s6 wx => ∃ (low high : Int) (aT : Nat) (bT : Bool), s5 = .int .i64 low ∧ s6 = .int .i64 high ∧ Hid (But (· = pb) w wx ∧ w.heap.size + 1 < wx.heap.size ∧ Bk wx w.heap.size #[.int .i64 k_, .slice i1 n1 q1, .int .i64 lo, .int .i64 hi, .bool z, .slice i2 n2 q2] ∧ Bk wx (w.heap.size + 1) #[.int .i64 0, .slice none 0 0, .int .i64 0, .int .i64 0, .bool false, .slice none 0 0] ∧ RP wx pb S aT g bT ∧ TailF S a bad x low high aT bT ∧ (I64 low ∧ I64 high) ∧ (bT = false → aT ≤ S.length)))
  case first =>
    go_wp2_with fail
    by_cases hq : pk S a = 42
    · have ht1 := hT 42 (by omega) (a) bad _ HR0.out
      rw [decide_eq_true hq, show tk S (a) 42 = a + 1 by unfold tk; rw [if_pos hq]] at ht1
      refine ht1.mono ?_; rintro r w1 ⟨rfl, hb1, hr1⟩
      have HR1 := hid_intro hr1
      have HB1 := hid_intro (HBW.out.trans hb1)
      have HKA1 := hid_intro (HKA.out.but hb1 hnp0)
      have HKZ1 := hid_intro (HKZ.out.but hb1 hnp1)
      have HM1 : Hid (w.heap.size + 1 < w1.heap.size) := hid_intro (Nat.lt_of_lt_of_le HMW.out hb1.size)
      clear hb1 hr1 ht1
      go_wp2_with fail
      go_meet
      exact ⟨0, -1, a + 1, bad, rfl, rfl, HB1.out, HM1.out, HKA1.out, HKZ1.out, HR1.out, tail_s (Or.inl ⟨hq, rfl, rfl⟩), ⟨I64_of (by omega) (by omega), I64_of (by omega) (by omega)⟩, fun _ => pk_lt (by omega)⟩
    have ht1 := hT 42 (by omega) (a) bad _ HR0.out
    rw [decide_eq_false hq, show tk S (a) 42 = a by unfold tk; rw [if_neg hq]] at ht1
    refine ht1.mono ?_; rintro r w1 ⟨rfl, hb1, hr1⟩
    have HR1 := hid_intro hr1
    have HB1 := hid_intro (HBW.out.trans hb1)
    have HKA1 := hid_intro (HKA.out.but hb1 hnp0)
    have HKZ1 := hid_intro (HKZ.out.but hb1 hnp1)
    have HM1 : Hid (w.heap.size + 1 < w1.heap.size) := hid_intro (Nat.lt_of_lt_of_le HMW.out hb1.size)
    clear hb1 hr1 ht1
    go_wp2_with fail
    by_cases hq2 : pk S a = 43
    · have ht2 := hT 43 (by omega) (a) bad _ HR1.out
      rw [decide_eq_true hq2, show tk S (a) 43 = a + 1 by unfold tk; rw [if_pos hq2]] at ht2
      refine ht2.mono ?_; rintro r w2 ⟨rfl, hb2, hr2⟩
      have HR2 := hid_intro hr2
      have HB2 := hid_intro (HB1.out.trans hb2)
      have HKA2 := hid_intro (HKA1.out.but hb2 hnp0)
      have HKZ2 := hid_intro (HKZ1.out.but hb2 hnp1)
      have HM2 : Hid (w.heap.size + 1 < w2.heap.size) := hid_intro (Nat.lt_of_lt_of_le HM1.out hb2.size)
      clear hb2 hr2 ht2
      go_wp2_with fail
      go_meet
      exact ⟨1, -1, a + 1, bad, rfl, rfl, HB2.out, HM2.out, HKA2.out, HKZ2.out, HR2.out, tail_s (Or.inr (Or.inl ⟨hq2, rfl, rfl⟩)), ⟨I64_of (by omega) (by omega), I64_of (by omega) (by omega)⟩, fun _ => pk_lt (by omega)⟩
    have ht2 := hT 43 (by omega) (a) bad _ HR1.out
    rw [decide_eq_false hq2, show tk S (a) 43 = a by unfold tk; rw [if_neg hq2]] at ht2
    refine ht2.mono ?_; rintro r w2 ⟨rfl, hb2, hr2⟩
    have HR2 := hid_intro hr2
    have HB2 := hid_intro (HB1.out.trans hb2)
    have HKA2 := hid_intro (HKA1.out.but hb2 hnp0)
    have HKZ2 := hid_intro (HKZ1.out.but hb2 hnp1)
    have HM2 : Hid (w.heap.size + 1 < w2.heap.size) := hid_intro (Nat.lt_of_lt_of_le HM1.out hb2.size)
    clear hb2 hr2 ht2
    go_wp2_with fail
    by_cases hq3 : pk S a = 63
    · have ht3 := hT 63 (by omega) (a) bad _ HR2.out
      rw [decide_eq_true hq3, show tk S (a) 63 = a + 1 by unfold tk; rw [if_pos hq3]] at ht3
      refine ht3.mono ?_; rintro r w3 ⟨rfl, hb3, hr3⟩
      have HR3 := hid_intro hr3
      have HB3 := hid_intro (HB2.out.trans hb3)
      have HKA3 := hid_intro (HKA2.out.but hb3 hnp0)
      have HKZ3 := hid_intro (HKZ2.out.but hb3 hnp1)
      have HM3 : Hid (w.heap.size + 1 < w3.heap.size) := hid_intro (Nat.lt_of_lt_of_le HM2.out hb3.size)
      clear hb3 hr3 ht3
      go_wp2_with fail
      go_meet
      exact ⟨0, 1, a + 1, bad, rfl, rfl, HB3.out, HM3.out, HKA3.out, HKZ3.out, HR3.out, tail_s (Or.inr (Or.inr ⟨hq3, rfl, rfl⟩)), ⟨I64_of (by omega) (by omega), I64_of (by omega) (by omega)⟩, fun _ => pk_lt (by omega)⟩
    have ht3 := hT 63 (by omega) (a) bad _ HR2.out
    rw [decide_eq_false hq3, show tk S (a) 63 = a by unfold tk; rw [if_neg hq3]] at ht3
    refine ht3.mono ?_; rintro r w3 ⟨rfl, hb3, hr3⟩
    have HR3 := hid_intro hr3
    have HB3 := hid_intro (HB2.out.trans hb3)
    have HKA3 := hid_intro (HKA2.out.but hb3 hnp0)
    have HKZ3 := hid_intro (HKZ2.out.but hb3 hnp1)
    have HM3 : Hid (w.heap.size + 1 < w3.heap.size) := hid_intro (Nat.lt_of_lt_of_le HM2.out hb3.size)
    clear hb3 hr3 ht3
    go_wp2_with fail
    by_cases hq4 : pk S a = 123
    rotate_left
    · have ht4 := hT 123 (by omega) (a) bad _ HR3.out
      rw [decide_eq_false hq4, show tk S (a) 123 = a by unfold tk; rw [if_neg hq4]] at ht4
      refine ht4.mono ?_; rintro r w4 ⟨rfl, hb4, hr4⟩
      have HR4 := hid_intro hr4
      have HB4 := hid_intro (HB3.out.trans hb4)
      have HKA4 := hid_intro (HKA3.out.but hb4 hnp0)
      have HKZ4 := hid_intro (HKZ3.out.but hb4 hnp1)
      have HM4 : Hid (w.heap.size + 1 < w4.heap.size) := hid_intro (Nat.lt_of_lt_of_le HM3.out hb4.size)
      clear hb4 hr4 ht4
      have HE := hid_intro (tail_0 (S := S) (a := a) (x := x) hq hq2 hq3 hq4)
      obtain ⟨c0, c1, c2, c3, c4, c5⟩ := HKA4.out.c6
      obtain ⟨d0, d1, d2, d3, d4, d5⟩ := HKZ4.out.c6
      obtain ⟨e0, e1, e2, e3, e4, e5⟩ := HKZ4.out.z6
      have hl : pb < w.heap.size + 1 := Nat.lt_succ_of_lt HPL.out
      have hw1 : w.heap.size ≤ w.heap.size + 1 := Nat.le_succ _
      go_wp2_with fail
      refine bodyPost_ret (v := .agg #[.int .i64 k_, .slice i1 n1 q1, .int .i64 lo, .int .i64 hi, .bool z, .slice i2 n2 q2]) (by simp [results, Tryz.results60, go_sem, d0, d1, d2, d3, d4, d5]) rfl ?_
      rw [HP.out]
      have hbf : But (· = pb) w (((((((w4.setCell ⟨w.heap.size + 1, 0, none⟩ (.int .i64 k_)).setCell ⟨w.heap.size + 1, 1, none⟩ (.slice i1 n1 q1)).setCell ⟨w.heap.size + 1, 2, none⟩ (.int .i64 lo)).setCell ⟨w.heap.size + 1, 3, none⟩ (.int .i64 hi)).setCell ⟨w.heap.size + 1, 4, none⟩ (.bool z)).setCell ⟨w.heap.size + 1, 5, none⟩ (.slice i2 n2 q2))) := by with_reducible (repeat (first | exact HB4.out | refine But.set ?_ (Or.inr hw1) _))
      have hrf : RP (((((((w4.setCell ⟨w.heap.size + 1, 0, none⟩ (.int .i64 k_)).setCell ⟨w.heap.size + 1, 1, none⟩ (.slice i1 n1 q1)).setCell ⟨w.heap.size + 1, 2, none⟩ (.int .i64 lo)).setCell ⟨w.heap.size + 1, 3, none⟩ (.int .i64 hi)).setCell ⟨w.heap.size + 1, 4, none⟩ (.bool z)).setCell ⟨w.heap.size + 1, 5, none⟩ (.slice i2 n2 q2))) pb S a g bad := by with_reducible (repeat (first | exact HR4.out | refine RP.away ?_ hl _))
      have hxf := HX.out.but hbf (fun b hb => by rw [hb]; exact HXR.out)
      cases bad
      · simp only [Bool.false_eq_true, reduceIte]
        rw [HE.out]
        exact ⟨hbf, f, a, by rw [HEF.out], hxf, hrf, by rcases HAL.out with h | h; exact h; simp at h, rfl⟩
      · exact ⟨hbf, x, f, a, by rw [HEF.out], hxf, hrf⟩
    have ht4 := hT 123 (by omega) (a) bad _ HR3.out
    rw [decide_eq_true hq4, show tk S (a) 123 = a + 1 by unfold tk; rw [if_pos hq4]] at ht4
    refine ht4.mono ?_; rintro r w4 ⟨rfl, hb4, hr4⟩
    have HR4 := hid_intro hr4
    have HB4 := hid_intro (HB3.out.trans hb4)
    have HKA4 := hid_intro (HKA3.out.but hb4 hnp0)
    have HKZ4 := hid_intro (HKZ3.out.but hb4 hnp1)
    have HM4 : Hid (w.heap.size + 1 < w4.heap.size) := hid_intro (Nat.lt_of_lt_of_le HM3.out hb4.size)
    clear hb4 hr4 ht4
    go_wp2_with fail
    refine (rnumber_any _ pb (a + 1) S g bad HR4.out).mono ?_; rintro r w5 ⟨x5, a5, b5, rfl, hb5, hr5, hn5⟩
    have HR5 := hid_intro hr5
    have HB5 := hid_intro (HB4.out.trans hb5)
    have HKA5 := hid_intro (HKA4.out.but hb5 hnp0)
    have HKZ5 := hid_intro (HKZ4.out.but hb5 hnp1)
    have HM5 : Hid (w.heap.size + 1 < w5.heap.size) := hid_intro (Nat.lt_of_lt_of_le HM4.out hb5.size)
    have HN5 := hid_intro hn5
    have hx5 := And.intro hn5.1 hn5.2.1
    clear hb5 hr5 hn5
    go_wp2_with fail
    by_cases hc : pk S a5 = 44
    · have ht6 := hT 44 (by omega) (a5) b5 _ HR5.out
      rw [decide_eq_true hc, show tk S (a5) 44 = a5 + 1 by unfold tk; rw [if_pos hc]] at ht6
      refine ht6.mono ?_; rintro r w6 ⟨rfl, hb6, hr6⟩
      have HR6 := hid_intro hr6
      have HB6 := hid_intro (HB5.out.trans hb6)
      have HKA6 := hid_intro (HKA5.out.but hb6 hnp0)
      have HKZ6 := hid_intro (HKZ5.out.but hb6 hnp1)
      have HM6 : Hid (w.heap.size + 1 < w6.heap.size) := hid_intro (Nat.lt_of_lt_of_le HM5.out hb6.size)
      clear hb6 hr6 ht6
      go_wp2_with fail
      refine (rnumber_any _ pb (a5 + 1) S g b5 HR6.out).mono ?_; rintro r w7 ⟨x7, a7, b7, rfl, hb7, hr7, hn7⟩
      have HR7 := hid_intro hr7
      have HB7 := hid_intro (HB6.out.trans hb7)
      have HKA7 := hid_intro (HKA6.out.but hb7 hnp0)
      have HKZ7 := hid_intro (HKZ6.out.but hb7 hnp1)
      have HM7 : Hid (w.heap.size + 1 < w7.heap.size) := hid_intro (Nat.lt_of_lt_of_le HM6.out hb7.size)
      have HN7 := hid_intro hn7
      have hx7 := And.intro hn7.1 hn7.2.1
      clear hb7 hr7 hn7
      by_cases hc1 : 0 ≤ x7
      · by_cases hc2 : x7 < x5
        · have hx50 : ¬ x5 < 0 := by omega
          go_wp2_with fail
          refine (rfail_any _ _ _ _ _ _ HR7.out).mono ?_; rintro r w8 ⟨rfl, hb8, hr8⟩
          have HR8 := hid_intro hr8
          have HB8 := hid_intro (HB7.out.trans hb8)
          have HKA8 := hid_intro (HKA7.out.but hb8 hnp0)
          have HKZ8 := hid_intro (HKZ7.out.but hb8 hnp1)
          have HM8 : Hid (w.heap.size + 1 < w8.heap.size) := hid_intro (Nat.lt_of_lt_of_le HM7.out hb8.size)
          clear hb8 hr8
          go_wp2_with fail
          by_cases hqb : pk S a7 = 125
          · have ht9 := hT 125 (by omega) (a7) true _ HR8.out
            rw [decide_eq_true hqb, show tk S (a7) 125 = a7 + 1 by unfold tk; rw [if_pos hqb]] at ht9
            refine ht9.mono ?_; rintro r w9 ⟨rfl, hb9, hr9⟩
            have HR9 := hid_intro hr9
            have HB9 := hid_intro (HB8.out.trans hb9)
            have HKA9 := hid_intro (HKA8.out.but hb9 hnp0)
            have HKZ9 := hid_intro (HKZ8.out.but hb9 hnp1)
            have HM9 : Hid (w.heap.size + 1 < w9.heap.size) := hid_intro (Nat.lt_of_lt_of_le HM8.out hb9.size)
            clear hb9 hr9 ht9
            go_wp2_with fail
            go_meet
            exact ⟨x5, x7, a7 + 1, true, rfl, rfl, HB9.out, HM9.out, HKA9.out, HKZ9.out, HR9.out, tail_b hq4 (cnt_c HN5.out HN7.out (by omega) hc hc1 hc2), ⟨I64_of (by omega) (by omega), I64_of (by omega) (by omega)⟩, fun h => absurd h (by simp)⟩
          have ht9 := hT 125 (by omega) (a7) true _ HR8.out
          rw [decide_eq_false hqb, show tk S (a7) 125 = a7 by unfold tk; rw [if_neg hqb]] at ht9
          refine ht9.mono ?_; rintro r w9 ⟨rfl, hb9, hr9⟩
          have HR9 := hid_intro hr9
          have HB9 := hid_intro (HB8.out.trans hb9)
          have HKA9 := hid_intro (HKA8.out.but hb9 hnp0)
          have HKZ9 := hid_intro (HKZ8.out.but hb9 hnp1)
          have HM9 : Hid (w.heap.size + 1 < w9.heap.size) := hid_intro (Nat.lt_of_lt_of_le HM8.out hb9.size)
          clear hb9 hr9 ht9
          go_wp2_with fail
          refine (rfail_any _ _ _ _ _ _ HR9.out).mono ?_; rintro r w10 ⟨rfl, hb10, hr10⟩
          have HR10 := hid_intro hr10
          have HB10 := hid_intro (HB9.out.trans hb10)
          have HKA10 := hid_intro (HKA9.out.but hb10 hnp0)
          have HKZ10 := hid_intro (HKZ9.out.but hb10 hnp1)
          have HM10 : Hid (w.heap.size + 1 < w10.heap.size) := hid_intro (Nat.lt_of_lt_of_le HM9.out hb10.size)
          clear hb10 hr10
          go_wp2_with fail
          go_meet
          exact ⟨x5, x7, a7, true, rfl, rfl, HB10.out, HM10.out, HKA10.out, HKZ10.out, HR10.out, tail_b hq4 (cnt_c HN5.out HN7.out (by omega) hc hc1 hc2), ⟨I64_of (by omega) (by omega), I64_of (by omega) (by omega)⟩, fun h => absurd h (by simp)⟩
        · by_cases hlow : x5 < 0
          · go_wp2_with fail
            refine (rfail_any _ _ _ _ _ _ HR7.out).mono ?_; rintro r w8 ⟨rfl, hb8, hr8⟩
            have HR8 := hid_intro hr8
            have HB8 := hid_intro (HB7.out.trans hb8)
            have HKA8 := hid_intro (HKA7.out.but hb8 hnp0)
            have HKZ8 := hid_intro (HKZ7.out.but hb8 hnp1)
            have HM8 : Hid (w.heap.size + 1 < w8.heap.size) := hid_intro (Nat.lt_of_lt_of_le HM7.out hb8.size)
            clear hb8 hr8
            go_wp2_with fail
            go_meet
            exact ⟨x5, x7, a7, true, rfl, rfl, HB8.out, HM8.out, HKA8.out, HKZ8.out, HR8.out, tail_b hq4 (cnt_n (HN5.out.none_of hlow)), ⟨I64_of (by omega) (by omega), I64_of (by omega) (by omega)⟩, fun h => absurd h (by simp)⟩
          go_wp2_with fail
          by_cases hqb : pk S a7 = 125
          · have ht8 := hT 125 (by omega) (a7) b7 _ HR7.out
            rw [decide_eq_true hqb, show tk S (a7) 125 = a7 + 1 by unfold tk; rw [if_pos hqb]] at ht8
            refine ht8.mono ?_; rintro r w8 ⟨rfl, hb8, hr8⟩
            have HR8 := hid_intro hr8
            have HB8 := hid_intro (HB7.out.trans hb8)
            have HKA8 := hid_intro (HKA7.out.but hb8 hnp0)
            have HKZ8 := hid_intro (HKZ7.out.but hb8 hnp1)
            have HM8 : Hid (w.heap.size + 1 < w8.heap.size) := hid_intro (Nat.lt_of_lt_of_le HM7.out hb8.size)
            clear hb8 hr8 ht8
            go_wp2_with fail
            go_meet
            exact ⟨x5, x7, a7 + 1, b7, rfl, rfl, HB8.out, HM8.out, HKA8.out, HKZ8.out, HR8.out, tail_b hq4 (cnt_d HN5.out HN7.out (by omega) hc (by omega) hqb), ⟨I64_of (by omega) (by omega), I64_of (by omega) (by omega)⟩, fun _ => pk_lt (by omega)⟩
          have ht8 := hT 125 (by omega) (a7) b7 _ HR7.out
          rw [decide_eq_false hqb, show tk S (a7) 125 = a7 by unfold tk; rw [if_neg hqb]] at ht8
          refine ht8.mono ?_; rintro r w8 ⟨rfl, hb8, hr8⟩
          have HR8 := hid_intro hr8
          have HB8 := hid_intro (HB7.out.trans hb8)
          have HKA8 := hid_intro (HKA7.out.but hb8 hnp0)
          have HKZ8 := hid_intro (HKZ7.out.but hb8 hnp1)
          have HM8 : Hid (w.heap.size + 1 < w8.heap.size) := hid_intro (Nat.lt_of_lt_of_le HM7.out hb8.size)
          clear hb8 hr8 ht8
          go_wp2_with fail
          refine (rfail_any _ _ _ _ _ _ HR8.out).mono ?_; rintro r w9 ⟨rfl, hb9, hr9⟩
          have HR9 := hid_intro hr9
          have HB9 := hid_intro (HB8.out.trans hb9)
          have HKA9 := hid_intro (HKA8.out.but hb9 hnp0)
          have HKZ9 := hid_intro (HKZ8.out.but hb9 hnp1)
          have HM9 : Hid (w.heap.size + 1 < w9.heap.size) := hid_intro (Nat.lt_of_lt_of_le HM8.out hb9.size)
          clear hb9 hr9
          go_wp2_with fail
          go_meet
          exact ⟨x5, x7, a7, true, rfl, rfl, HB9.out, HM9.out, HKA9.out, HKZ9.out, HR9.out, tail_b hq4 (cnt_e HN5.out HN7.out (by omega) hc hqb), ⟨I64_of (by omega) (by omega), I64_of (by omega) (by omega)⟩, fun h => absurd h (by simp)⟩
      · by_cases hlow : x5 < 0
        · go_wp2_with fail
          refine (rfail_any _ _ _ _ _ _ HR7.out).mono ?_; rintro r w8 ⟨rfl, hb8, hr8⟩
          have HR8 := hid_intro hr8
          have HB8 := hid_intro (HB7.out.trans hb8)
          have HKA8 := hid_intro (HKA7.out.but hb8 hnp0)
          have HKZ8 := hid_intro (HKZ7.out.but hb8 hnp1)
          have HM8 : Hid (w.heap.size + 1 < w8.heap.size) := hid_intro (Nat.lt_of_lt_of_le HM7.out hb8.size)
          clear hb8 hr8
          go_wp2_with fail
          go_meet
          exact ⟨x5, x7, a7, true, rfl, rfl, HB8.out, HM8.out, HKA8.out, HKZ8.out, HR8.out, tail_b hq4 (cnt_n (HN5.out.none_of hlow)), ⟨I64_of (by omega) (by omega), I64_of (by omega) (by omega)⟩, fun h => absurd h (by simp)⟩
        go_wp2_with fail
        by_cases hqb : pk S a7 = 125
        · have ht8 := hT 125 (by omega) (a7) b7 _ HR7.out
          rw [decide_eq_true hqb, show tk S (a7) 125 = a7 + 1 by unfold tk; rw [if_pos hqb]] at ht8
          refine ht8.mono ?_; rintro r w8 ⟨rfl, hb8, hr8⟩
          have HR8 := hid_intro hr8
          have HB8 := hid_intro (HB7.out.trans hb8)
          have HKA8 := hid_intro (HKA7.out.but hb8 hnp0)
          have HKZ8 := hid_intro (HKZ7.out.but hb8 hnp1)
          have HM8 : Hid (w.heap.size + 1 < w8.heap.size) := hid_intro (Nat.lt_of_lt_of_le HM7.out hb8.size)
          clear hb8 hr8 ht8
          go_wp2_with fail
          go_meet
          exact ⟨x5, x7, a7 + 1, b7, rfl, rfl, HB8.out, HM8.out, HKA8.out, HKZ8.out, HR8.out, tail_b hq4 (cnt_d HN5.out HN7.out (by omega) hc (by omega) hqb), ⟨I64_of (by omega) (by omega), I64_of (by omega) (by omega)⟩, fun _ => pk_lt (by omega)⟩
        have ht8 := hT 125 (by omega) (a7) b7 _ HR7.out
        rw [decide_eq_false hqb, show tk S (a7) 125 = a7 by unfold tk; rw [if_neg hqb]] at ht8
        refine ht8.mono ?_; rintro r w8 ⟨rfl, hb8, hr8⟩
        have HR8 := hid_intro hr8
        have HB8 := hid_intro (HB7.out.trans hb8)
        have HKA8 := hid_intro (HKA7.out.but hb8 hnp0)
        have HKZ8 := hid_intro (HKZ7.out.but hb8 hnp1)
        have HM8 : Hid (w.heap.size + 1 < w8.heap.size) := hid_intro (Nat.lt_of_lt_of_le HM7.out hb8.size)
        clear hb8 hr8 ht8
        go_wp2_with fail
        refine (rfail_any _ _ _ _ _ _ HR8.out).mono ?_; rintro r w9 ⟨rfl, hb9, hr9⟩
        have HR9 := hid_intro hr9
        have HB9 := hid_intro (HB8.out.trans hb9)
        have HKA9 := hid_intro (HKA8.out.but hb9 hnp0)
        have HKZ9 := hid_intro (HKZ8.out.but hb9 hnp1)
        have HM9 : Hid (w.heap.size + 1 < w9.heap.size) := hid_intro (Nat.lt_of_lt_of_le HM8.out hb9.size)
        clear hb9 hr9
        go_wp2_with fail
        go_meet
        exact ⟨x5, x7, a7, true, rfl, rfl, HB9.out, HM9.out, HKA9.out, HKZ9.out, HR9.out, tail_b hq4 (cnt_e HN5.out HN7.out (by omega) hc hqb), ⟨I64_of (by omega) (by omega), I64_of (by omega) (by omega)⟩, fun h => absurd h (by simp)⟩
    have ht6 := hT 44 (by omega) (a5) b5 _ HR5.out
    rw [decide_eq_false hc, show tk S (a5) 44 = a5 by unfold tk; rw [if_neg hc]] at ht6
    refine ht6.mono ?_; rintro r w6 ⟨rfl, hb6, hr6⟩
    have HR6 := hid_intro hr6
    have HB6 := hid_intro (HB5.out.trans hb6)
    have HKA6 := hid_intro (HKA5.out.but hb6 hnp0)
    have HKZ6 := hid_intro (HKZ5.out.but hb6 hnp1)
    have HM6 : Hid (w.heap.size + 1 < w6.heap.size) := hid_intro (Nat.lt_of_lt_of_le HM5.out hb6.size)
    clear hb6 hr6 ht6
    by_cases hlow : x5 < 0
    · go_wp2_with fail
      refine (rfail_any _ _ _ _ _ _ HR6.out).mono ?_; rintro r w7 ⟨rfl, hb7, hr7⟩
      have HR7 := hid_intro hr7
      have HB7 := hid_intro (HB6.out.trans hb7)
      have HKA7 := hid_intro (HKA6.out.but hb7 hnp0)
      have HKZ7 := hid_intro (HKZ6.out.but hb7 hnp1)
      have HM7 : Hid (w.heap.size + 1 < w7.heap.size) := hid_intro (Nat.lt_of_lt_of_le HM6.out hb7.size)
      clear hb7 hr7
      go_wp2_with fail
      go_meet
      exact ⟨x5, x5, a5, true, rfl, rfl, HB7.out, HM7.out, HKA7.out, HKZ7.out, HR7.out, tail_b hq4 (cnt_n (HN5.out.none_of hlow)), ⟨I64_of (by omega) (by omega), I64_of (by omega) (by omega)⟩, fun h => absurd h (by simp)⟩
    go_wp2_with fail
    by_cases hqb : pk S a5 = 125
    · have ht7 := hT 125 (by omega) (a5) b5 _ HR6.out
      rw [decide_eq_true hqb, show tk S (a5) 125 = a5 + 1 by unfold tk; rw [if_pos hqb]] at ht7
      refine ht7.mono ?_; rintro r w7 ⟨rfl, hb7, hr7⟩
      have HR7 := hid_intro hr7
      have HB7 := hid_intro (HB6.out.trans hb7)
      have HKA7 := hid_intro (HKA6.out.but hb7 hnp0)
      have HKZ7 := hid_intro (HKZ6.out.but hb7 hnp1)
      have HM7 : Hid (w.heap.size + 1 < w7.heap.size) := hid_intro (Nat.lt_of_lt_of_le HM6.out hb7.size)
      clear hb7 hr7 ht7
      go_wp2_with fail
      go_meet
      exact ⟨x5, x5, a5 + 1, b5, rfl, rfl, HB7.out, HM7.out, HKA7.out, HKZ7.out, HR7.out, tail_b hq4 (cnt_a HN5.out (by omega) hqb), ⟨I64_of (by omega) (by omega), I64_of (by omega) (by omega)⟩, fun _ => pk_lt (by omega)⟩
    have ht7 := hT 125 (by omega) (a5) b5 _ HR6.out
    rw [decide_eq_false hqb, show tk S (a5) 125 = a5 by unfold tk; rw [if_neg hqb]] at ht7
    refine ht7.mono ?_; rintro r w7 ⟨rfl, hb7, hr7⟩
    have HR7 := hid_intro hr7
    have HB7 := hid_intro (HB6.out.trans hb7)
    have HKA7 := hid_intro (HKA6.out.but hb7 hnp0)
    have HKZ7 := hid_intro (HKZ6.out.but hb7 hnp1)
    have HM7 : Hid (w.heap.size + 1 < w7.heap.size) := hid_intro (Nat.lt_of_lt_of_le HM6.out hb7.size)
    clear hb7 hr7 ht7
    go_wp2_with fail
    refine (rfail_any _ _ _ _ _ _ HR7.out).mono ?_; rintro r w8 ⟨rfl, hb8, hr8⟩
    have HR8 := hid_intro hr8
    have HB8 := hid_intro (HB7.out.trans hb8)
    have HKA8 := hid_intro (HKA7.out.but hb8 hnp0)
    have HKZ8 := hid_intro (HKZ7.out.but hb8 hnp1)
    have HM8 : Hid (w.heap.size + 1 < w8.heap.size) := hid_intro (Nat.lt_of_lt_of_le HM7.out hb8.size)
    clear hb8 hr8
    go_wp2_with fail
    go_meet
    exact ⟨x5, x5, a5, true, rfl, rfl, HB8.out, HM8.out, HKA8.out, HKZ8.out, HR8.out, tail_b hq4 (cnt_b HN5.out (by omega) hc hqb), ⟨I64_of (by omega) (by omega), I64_of (by omega) (by omega)⟩, fun h => absurd h (by simp)⟩
  case rest =>
    obtain ⟨low, high, aT, bT, rfl, rfl, HCU⟩ := hcut
    have HB1 := hid_intro HCU.out.1
    have HM1 := hid_intro HCU.out.2.1
    have HKA1 := hid_intro HCU.out.2.2.1
    have HKZ1 := hid_intro HCU.out.2.2.2.1
    have HR1 := hid_intro HCU.out.2.2.2.2.1
    have HTF := hid_intro HCU.out.2.2.2.2.2.1
    have HI64 := hid_intro HCU.out.2.2.2.2.2.2.1
    have HLE := hid_intro HCU.out.2.2.2.2.2.2.2
    clear HCU HR0 HBW HMW
    have HTQ : Hid (∀ w', Below wc.heap.size wc w' → Calls Tryz.prog 30 #[.pointer (some ⟨pb, 0, none⟩), .int .i64 63] w' fun r w2 => r = .returned (.bool (decide (pk S (aT) = 63))) ∧ But (· = pb) w' w2 ∧ RP w2 pb S (tk S (aT) 63) g bT) := hid_intro (fun w' hb => rtake_any w' pb (aT) S g 63 bT (by omega) (HR1.out.below hb))
    have HFI : Hid ((if bad = true then none else countedL x (S.drop a)) = if bT = true then none else some (.mk 5 [] low high (decide (pk S (aT) = 63)) [x], S.drop (tk S (aT) 63))) := hid_intro (cnt_fin (HTF.out))
    obtain ⟨zb, hzb⟩ : ∃ zb, decide (pk S (aT) = 63) = zb := ⟨_, rfl⟩
    obtain ⟨aF, haF⟩ : ∃ aF, tk S (aT) 63 = aF := ⟨_, rfl⟩
    rw [hzb, haF] at HTQ HFI
    have HAF : Hid (bT = false → aF ≤ S.length) := hid_intro (fun hbt => by
      rw [← haF]
      exact (tk_le (by omega) HR1.out.len.2).2 (HLE.out hbt))
    clear hzb haF hT
    go_upto_region 17 with fail
    obtain ⟨p0, p1, p2, p3, p4, p5⟩ := HKA1.out.c6
    go_region_law (go_simp; go_at_call 30; refine (HTQ.out _ ?_).mono ?_; (focus (with_reducible (repeat (first | exact Below.refl _ _ | refine vb_d ?_ | refine vb_a ?_ _)))); rintro r w9 ⟨rfl, hb9, hr9⟩; have HB9 := hid_intro ((HB1.out.below (show Below wc.heap.size wc _ by with_reducible (repeat (first | exact Below.refl _ _ | refine vb_d ?_ | refine vb_a ?_ _)))).trans hb9); have HR9 := hid_intro hr9; have HM9 : Hid (wc.heap.size ≤ w9.heap.size) := hid_intro (Nat.le_trans (Below.size (show Below wc.heap.size wc _ by with_reducible (repeat (first | exact Below.refl _ _ | refine vb_d ?_ | refine vb_a ?_ _)))) hb9.size); obtain ⟨u0, u1, u2, u3, u4, u5⟩ := ((HKA1.out.bel (show Below wc.heap.size wc _ by with_reducible (repeat (first | exact Below.refl _ _ | refine vb_d ?_ | refine vb_a ?_ _)))).but hb9 hnp0).c6; have HKZ9 := hid_intro ((HKZ1.out.bel (show Below wc.heap.size wc _ by with_reducible (repeat (first | exact Below.refl _ _ | refine vb_d ?_ | refine vb_a ?_ _)))).but hb9 hnp1); obtain ⟨x0, x1, x2, x3, x4, x5⟩ := HKZ9.out.c6; obtain ⟨y0, y1, y2, y3, y4, y5⟩ := HKZ9.out.z6; have v0 : ∀ o, (w9.alloc o).cell? ⟨w.heap.size + 1, 0, none⟩ = some (.int .i64 0) := fun o => (HKZ9.out.al o).cell 0; have t0 : ∀ o, (w9.alloc o).frozen? ⟨w.heap.size + 1, 0, none⟩ = false := fun o => (HKZ9.out.al o).frz 0; have v1 : ∀ o, (w9.alloc o).cell? ⟨w.heap.size + 1, 1, none⟩ = some (.slice none 0 0) := fun o => (HKZ9.out.al o).cell 1; have t1 : ∀ o, (w9.alloc o).frozen? ⟨w.heap.size + 1, 1, none⟩ = false := fun o => (HKZ9.out.al o).frz 1; have v2 : ∀ o, (w9.alloc o).cell? ⟨w.heap.size + 1, 2, none⟩ = some (.int .i64 0) := fun o => (HKZ9.out.al o).cell 2; have t2 : ∀ o, (w9.alloc o).frozen? ⟨w.heap.size + 1, 2, none⟩ = false := fun o => (HKZ9.out.al o).frz 2; have v3 : ∀ o, (w9.alloc o).cell? ⟨w.heap.size + 1, 3, none⟩ = some (.int .i64 0) := fun o => (HKZ9.out.al o).cell 3; have t3 : ∀ o, (w9.alloc o).frozen? ⟨w.heap.size + 1, 3, none⟩ = false := fun o => (HKZ9.out.al o).frz 3; have v4 : ∀ o, (w9.alloc o).cell? ⟨w.heap.size + 1, 4, none⟩ = some (.bool false) := fun o => (HKZ9.out.al o).cell 4; have t4 : ∀ o, (w9.alloc o).frozen? ⟨w.heap.size + 1, 4, none⟩ = false := fun o => (HKZ9.out.al o).frz 4; have v5 : ∀ o, (w9.alloc o).cell? ⟨w.heap.size + 1, 5, none⟩ = some (.slice none 0 0) := fun o => (HKZ9.out.al o).cell 5; have t5 : ∀ o, (w9.alloc o).frozen? ⟨w.heap.size + 1, 5, none⟩ = false := fun o => (HKZ9.out.al o).frz 5)
    all_goals
      have hw1 : w.heap.size ≤ w.heap.size + 1 := Nat.le_succ _
      have hl : pb < w.heap.size + 1 := Nat.lt_succ_of_lt HPL.out
      clear HTQ HKA HKZ u0 u1 u2 u3 u4 u5 p0 p1 p2 p3 p4 p5
      go_wp2_with fail
      first
        | (have hne : w9.heap.size ≠ w.heap.size + 1 := (by have h1 := HM1.out; have h2 := HM9.out; omega); (refine bodyPost_ret (v := .agg #[.int .i64 5, .slice none 0 0, .int .i64 (low), .int .i64 (high), .bool zb, .slice (some ⟨w9.heap.size, 0, none⟩) 1 1]) ?_ rfl ?_; (focus (simp [results, Tryz.results60, go_sem, v0, v1, v2, v3, v4, v5]; done)); rw [HP.out, HFI.out]; refine cnt_end ?_ (counted_fin (nb := w9.heap.size) ?_ ?_ HX.out ?_ HXR.out HEF.out (low) (high) HI64.out zb) ?_ HAF.out rfl; (focus (with_reducible (repeat (first | exact HB9.out | refine But.set ?_ (Or.inr hw1) _ | refine But.alloc ?_ _ | refine But.drew ?_)))); (focus (with_reducible (repeat (first | exact HB9.out | refine But.set ?_ (Or.inr hw1) _ | refine But.alloc ?_ _ | refine But.drew ?_)))); (focus (with_reducible (repeat (first | exact Bk.new _ _ _ | refine Bk.away ?_ hne | refine Bk.dw ?_)))); (focus (intro hXn; have h1 := HXL.out _ hXn; have h2 := HM1.out; have h3 := HM9.out; omega)); (focus (with_reducible (repeat (first | exact HR9.out | refine RP.away ?_ hl _ | refine RP.al ?_ _ | refine RP.drew ?_))))))
        | (have hne : wc.heap.size ≠ w.heap.size + 1 := (by have h1 := HM1.out; omega); have hkn := Bk.but (X := (· = pb)) (Bk.dw (Bk.new wc _ _)) hb9 (show ¬ wc.heap.size = pb by have h1 := HPL.out; have h2 := HM1.out; omega); (refine bodyPost_ret (v := .agg #[.int .i64 5, .slice none 0 0, .int .i64 (low), .int .i64 (high), .bool zb, .slice (some ⟨wc.heap.size, 0, none⟩) 1 1]) ?_ rfl ?_; (focus (simp [results, Tryz.results60, go_sem, x0, x1, x2, x3, x4, x5]; done)); rw [HP.out, HFI.out]; refine cnt_end ?_ (counted_fin (nb := wc.heap.size) ?_ ?_ HX.out ?_ HXR.out HEF.out (low) (high) HI64.out zb) ?_ HAF.out rfl; (focus (with_reducible (repeat (first | exact HB9.out | refine But.set ?_ (Or.inr hw1) _ | refine But.alloc ?_ _ | refine But.drew ?_)))); (focus (with_reducible (repeat (first | exact HB9.out | refine But.set ?_ (Or.inr hw1) _ | refine But.alloc ?_ _ | refine But.drew ?_)))); (focus (with_reducible (repeat (first | exact hkn | refine Bk.away ?_ hne | refine Bk.dw ?_)))); (focus (intro hXn; have h1 := HXL.out _ hXn; have h2 := HM1.out; have h3 := HM9.out; omega)); (focus (with_reducible (repeat (first | exact HR9.out | refine RP.away ?_ hl _ | refine RP.al ?_ _ | refine RP.drew ?_))))))
end Go.Proofs.YthbbkcdlcpbepaaGreatDoor
