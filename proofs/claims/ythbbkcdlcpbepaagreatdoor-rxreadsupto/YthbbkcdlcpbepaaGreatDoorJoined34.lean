/-
  The reference's atom, whole. Conditions: what is read within a group is given.
-/
import Derived.Test.YthbbkcdlcpbepaaGreatDoorJoined33
namespace Go.Proofs.YthbbkcdlcpbepaaGreatDoor
open Go.RowKit
attribute [local go_sem] setCell_drewN alloc_drewN

set_option maxRecDepth 100000 in
set_option maxHeartbeats 6400000 in
theorem ratom_46 (pat : List Int → Option (RX × List Int)) (w : World) (pb a : Nat) (S : List Int) (g : Int) (ha : a ≤ S.length) (hq : pk S a = 46) (h : RP w pb S a g false) :
    Calls Tryz.prog 61 #[.pointer (some ⟨pb, 0, none⟩)] w (TreeQ (atomP pat (S.drop a)) S pb g w) := by
  obtain ⟨P, hP⟩ : ∃ P, P = TreeQ (atomP pat (S.drop a)) S pb g w := ⟨_, rfl⟩
  rw [← hP]
  have HP := hid_intro hP
  have HPL := hid_intro h.lt
  have HLN := hid_intro h.len
  have HMEM := hid_intro h.mem
  have HGB := hid_intro h.grps
  have hrl := h.lt
  have HA := hid_intro ha
  obtain ⟨W, hW⟩ : ∃ W, w.alloc (.cells #[.int .i64 0, .slice none 0 0, .int .i64 0, .int .i64 0, .bool false, .slice none 0 0] 26) = W := ⟨_, rfl⟩
  have HK0 : Hid (Bk W w.heap.size #[.int .i64 0, .slice none 0 0, .int .i64 0, .int .i64 0, .bool false, .slice none 0 0]) := hid_intro (hW ▸ Bk.new _ _ _)
  have HR0 : Hid (RP W pb S a g false) := hid_intro (h.below (hW ▸ vb_a (Below.refl _ _) _))
  have HB0 : Hid (But (· = pb) w W) := hid_intro (But.ofBelow (hW ▸ vb_a (Below.refl _ _) _))
  have HM0 : Hid (w.heap.size + 1 ≤ W.heap.size) := hid_intro (by rw [← hW]; simp)
  have hnp : ¬ w.heap.size = pb := by have := h.lt; omega
  have hT := fun (c : Int) (hc : c ≠ -1) (a : Nat) (g : Int) (bad : Bool) w' (h : RP w' pb S a g bad) => rtake_any w' pb a S g c bad hc h
  have HE : Hid (atomP pat (S.drop a) = some (.mk 2 (turnL [(10, 10), (13, 13), (8232, 8233)]) 0 0 false [], S.drop (a + 1))) := hid_intro (by
    rw [atom_at (by omega) (by omega), if_neg (by omega), if_pos hq]
    unfold setX inLines
    rw [merge_set (turn_can _)])
  have hn40 : pk S a ≠ 40 := by omega
  clear hP h ha
  go_enter Tryz.func61, Tryz.ntmps61
  go_wp2_with fail
  refine (rpeek_any _ _ _ _ _ _ HR0.out).mono ?_; rintro r w1 ⟨rfl, hb1⟩
  have HR1 := hid_intro (HR0.out.below hb1)
  have HB1 := hid_intro (HB0.out.below hb1)
  have HK1 := hid_intro (HK0.out.bel hb1)
  have HM1 := hid_intro (Nat.le_trans HM0.out hb1.size)
  clear hb1
  go_wp2_with fail
  have ht2 := hT 40 (by omega) (a) (g) false _ HR1.out
  rw [decide_eq_false hn40, show tk S (a) 40 = a by unfold tk; rw [if_neg hn40]] at ht2
  refine ht2.mono ?_; rintro r w2 ⟨rfl, hb2, hr2⟩
  have HR2 := hid_intro hr2
  have HB2 := hid_intro (HB1.out.trans hb2)
  have HK2 := hid_intro (HK1.out.but hb2 hnp)
  have HM2 := hid_intro (Nat.le_trans HM1.out hb2.size)
  clear hb2 hr2 ht2
  go_wp2_with fail
  have ht3 := hT 46 (by omega) (a) (g) false _ HR2.out
  rw [decide_eq_true hq, show tk S (a) 46 = a + 1 by unfold tk; rw [if_pos hq]] at ht3
  refine ht3.mono ?_; rintro r w3 ⟨rfl, hb3, hr3⟩
  have HR3 := hid_intro hr3
  have HB3 := hid_intro (HB2.out.trans hb3)
  have HK3 := hid_intro (HK2.out.but hb3 hnp)
  have HM3 := hid_intro (Nat.le_trans HM2.out hb3.size)
  clear hb3 hr3 ht3
  have hol := OwnR.lit w3 w3.heap.size [(10, 10), (13, 13), (8232, 8233)] #[.int .i64 10, .int .i64 10, .int .i64 13, .int .i64 13, .int .i64 8232, .int .i64 8233] rfl (Nat.le_refl _) (by decide) (by simp [I64]) 3 rfl
  have htn := refTurnN_any [(10, 10), (13, 13), (8232, 8233)] _ _ (fun _ => False) (hol.ri _ (fun _ _ h => h)) (by decide)
  have HBA : Hid (Below w3.heap.size w3 (w3.alloc (.cells #[.int .i64 10, .int .i64 10, .int .i64 13, .int .i64 13, .int .i64 8232, .int .i64 8233] 51))) := hid_intro (vb_a (Below.refl _ _) _)
  clear hol
  go_wp2_with fail
  refine htn.mono ?_; rintro r w4 ⟨v4, rfl, hri4, hba4⟩
  have hb4 := vb_t HBA.out hba4
  have HR4 := hid_intro (HR3.out.below hb4)
  have HB4 := hid_intro (HB3.out.below hb4)
  have HK4 := hid_intro (HK3.out.bel hb4)
  have HM4 := hid_intro (Nat.le_trans HM3.out hb4.size)
  have HRI4 : Hid (RI w4 (fun j => j < w.heap.size + 1) (turnL [(10, 10), (13, 13), (8232, 8233)]) v4) := hid_intro (hri4.weak (fun j hj => by have h1 : j < w.heap.size + 1 := hj; have := HM3.out; show j < _; simp; omega))
  clear hb4 hba4 hri4 htn HBA
  go_wp2_with fail
  have hst := rset_any (turnL [(10, 10), (13, 13), (8232, 8233)]) v4 w4 (fun j => j < w.heap.size + 1) (HRI4.out)
  refine hst.mono ?_; rintro r w5 ⟨f, rfl, hx5, hb5⟩
  have HR5 := hid_intro (HR4.out.below hb5)
  have HB5 := hid_intro (HB4.out.below hb5)
  have HK5 := hid_intro (HK4.out.bel hb5)
  have HM5 := hid_intro (Nat.le_trans HM4.out hb5.size)
  have HX5 := hid_intro hx5
  clear hb5 hx5 hst
  obtain ⟨k_, i1, n1, q1, lo, hi, z, i2, n2, q2, ef⟩ := HX5.out.lit
  have HEF := hid_intro ef
  rw [ef]
  clear ef
  obtain ⟨c0, c1, c2, c3, c4, c5⟩ := HK5.out.c6
  obtain ⟨z0, z1, z2, z3, z4, z5⟩ := HK5.out.z6
  go_wp2_with fail
  refine bodyPost_ret (v := .agg #[.int .i64 k_, .slice i1 n1 q1, .int .i64 lo, .int .i64 hi, .bool z, .slice i2 n2 q2]) (by simp [results, Tryz.results61, go_sem, c0, c1, c2, c3, c4, c5]) rfl ?_
  rw [HP.out, HE.out]
  have hbf : But (· = pb) w ((((((w5.setCell ⟨w.heap.size, 0, none⟩ (.int .i64 k_)).setCell ⟨w.heap.size, 1, none⟩ (.slice i1 n1 q1)).setCell ⟨w.heap.size, 2, none⟩ (.int .i64 lo)).setCell ⟨w.heap.size, 3, none⟩ (.int .i64 hi)).setCell ⟨w.heap.size, 4, none⟩ (.bool z)).setCell ⟨w.heap.size, 5, none⟩ (.slice i2 n2 q2)) := by with_reducible (repeat (first | exact HB5.out | refine But.set ?_ (Or.inr (Nat.le_refl _)) _))
  have hrf : RP ((((((w5.setCell ⟨w.heap.size, 0, none⟩ (.int .i64 k_)).setCell ⟨w.heap.size, 1, none⟩ (.slice i1 n1 q1)).setCell ⟨w.heap.size, 2, none⟩ (.int .i64 lo)).setCell ⟨w.heap.size, 3, none⟩ (.int .i64 hi)).setCell ⟨w.heap.size, 4, none⟩ (.bool z)).setCell ⟨w.heap.size, 5, none⟩ (.slice i2 n2 q2)) pb S (a + 1) (g) false := by with_reducible (repeat (first | exact HR5.out | refine RP.away ?_ hrl _))
  have hxf : XI ((((((w5.setCell ⟨w.heap.size, 0, none⟩ (.int .i64 k_)).setCell ⟨w.heap.size, 1, none⟩ (.slice i1 n1 q1)).setCell ⟨w.heap.size, 2, none⟩ (.int .i64 lo)).setCell ⟨w.heap.size, 3, none⟩ (.int .i64 hi)).setCell ⟨w.heap.size, 4, none⟩ (.bool z)).setCell ⟨w.heap.size, 5, none⟩ (.slice i2 n2 q2)) (· < w.heap.size) (.mk 2 (turnL [(10, 10), (13, 13), (8232, 8233)]) 0 0 false []) f := XI.weak (X := fun b => b < w.heap.size + 1) (by with_reducible (repeat (first | exact HX5.out | refine XI.set ?_ (Nat.lt_succ_self _) _))) (fun b hb => Nat.lt_succ_of_lt hb)
  exact ⟨hbf, _, a + 1, by rw [HEF.out], hxf, hrf, pk_lt (by omega), rfl⟩

set_option maxRecDepth 100000 in
set_option maxHeartbeats 6400000 in
theorem ratom_91 (pat : List Int → Option (RX × List Int)) (w : World) (pb a : Nat) (S : List Int) (g : Int) (ha : a ≤ S.length) (hq : pk S a = 91) (h : RP w pb S a g false) :
    Calls Tryz.prog 61 #[.pointer (some ⟨pb, 0, none⟩)] w (TreeQ (atomP pat (S.drop a)) S pb g w) := by
  obtain ⟨P, hP⟩ : ∃ P, P = TreeQ (atomP pat (S.drop a)) S pb g w := ⟨_, rfl⟩
  rw [← hP]
  have HP := hid_intro hP
  have HPL := hid_intro h.lt
  have HLN := hid_intro h.len
  have HMEM := hid_intro h.mem
  have HGB := hid_intro h.grps
  have hrl := h.lt
  have HA := hid_intro ha
  obtain ⟨W, hW⟩ : ∃ W, w.alloc (.cells #[.int .i64 0, .slice none 0 0, .int .i64 0, .int .i64 0, .bool false, .slice none 0 0] 26) = W := ⟨_, rfl⟩
  have HK0 : Hid (Bk W w.heap.size #[.int .i64 0, .slice none 0 0, .int .i64 0, .int .i64 0, .bool false, .slice none 0 0]) := hid_intro (hW ▸ Bk.new _ _ _)
  have HR0 : Hid (RP W pb S a g false) := hid_intro (h.below (hW ▸ vb_a (Below.refl _ _) _))
  have HB0 : Hid (But (· = pb) w W) := hid_intro (But.ofBelow (hW ▸ vb_a (Below.refl _ _) _))
  have HM0 : Hid (w.heap.size + 1 ≤ W.heap.size) := hid_intro (by rw [← hW]; simp)
  have hnp : ¬ w.heap.size = pb := by have := h.lt; omega
  have hT := fun (c : Int) (hc : c ≠ -1) (a : Nat) (g : Int) (bad : Bool) w' (h : RP w' pb S a g bad) => rtake_any w' pb a S g c bad hc h
  have HE : Hid (atomP pat (S.drop a) = classL (S.drop (a + 1))) := hid_intro (by rw [atom_at (by omega) (by omega), if_pos hq])
  have hn40 : pk S a ≠ 40 := by omega
  have hn46 : pk S a ≠ 46 := by omega
  have HK91 := hid_intro (pk_lt (S := S) (a := a) (by omega))
  obtain ⟨U, hU⟩ : ∃ U, classL (S.drop (a + 1)) = U := ⟨_, rfl⟩
  rw [hU] at HE
  clear hP h ha
  go_enter Tryz.func61, Tryz.ntmps61
  go_wp2_with fail
  refine (rpeek_any _ _ _ _ _ _ HR0.out).mono ?_; rintro r w1 ⟨rfl, hb1⟩
  have HR1 := hid_intro (HR0.out.below hb1)
  have HB1 := hid_intro (HB0.out.below hb1)
  have HK1 := hid_intro (HK0.out.bel hb1)
  have HM1 := hid_intro (Nat.le_trans HM0.out hb1.size)
  clear hb1
  go_wp2_with fail
  have ht2 := hT 40 (by omega) (a) (g) false _ HR1.out
  rw [decide_eq_false hn40, show tk S (a) 40 = a by unfold tk; rw [if_neg hn40]] at ht2
  refine ht2.mono ?_; rintro r w2 ⟨rfl, hb2, hr2⟩
  have HR2 := hid_intro hr2
  have HB2 := hid_intro (HB1.out.trans hb2)
  have HK2 := hid_intro (HK1.out.but hb2 hnp)
  have HM2 := hid_intro (Nat.le_trans HM1.out hb2.size)
  clear hb2 hr2 ht2
  go_wp2_with fail
  have ht3 := hT 46 (by omega) (a) (g) false _ HR2.out
  rw [decide_eq_false hn46, show tk S (a) 46 = a by unfold tk; rw [if_neg hn46]] at ht3
  refine ht3.mono ?_; rintro r w3 ⟨rfl, hb3, hr3⟩
  have HR3 := hid_intro hr3
  have HB3 := hid_intro (HB2.out.trans hb3)
  have HK3 := hid_intro (HK2.out.but hb3 hnp)
  have HM3 := hid_intro (Nat.le_trans HM2.out hb3.size)
  clear hb3 hr3 ht3
  go_wp2_with fail
  have ht4 := hT 91 (by omega) (a) (g) false _ HR3.out
  rw [decide_eq_true hq, show tk S (a) 91 = a + 1 by unfold tk; rw [if_pos hq]] at ht4
  refine ht4.mono ?_; rintro r w4 ⟨rfl, hb4, hr4⟩
  have HR4 := hid_intro hr4
  have HB4 := hid_intro (HB3.out.trans hb4)
  have HK4 := hid_intro (HK3.out.but hb4 hnp)
  have HM4 := hid_intro (Nat.le_trans HM3.out hb4.size)
  clear hb4 hr4 ht4
  go_wp2_with fail
  have hcl := rclass_any w4 pb (a + 1) S g HK91.out HR4.out
  rw [hU] at hcl
  refine hcl.mono ?_; rintro r w5 ⟨v5, rfl, hb5, hq5⟩
  cases U with
  | none =>
    obtain ⟨a5, rl, hr5, hri5⟩ := hq5
    have HR5 := hid_intro hr5
    have HB5 := hid_intro (HB4.out.trans hb5)
    have HK5 := hid_intro (HK4.out.but hb5 hnp)
    have HM5 := hid_intro (Nat.le_trans HM4.out hb5.size)
    have HRI5 : Hid (RI w5 (fun j => j < w.heap.size + 1) rl v5) := hid_intro (hri5.weak (fun j hj => by have h1 : j < w.heap.size + 1 := hj; have := HM4.out; show j < _; omega))
    clear hb5 hr5 hri5 hcl hU
    go_wp2_with fail
    have hst := rset_any rl v5 w5 (fun j => j < w.heap.size + 1) (HRI5.out)
    refine hst.mono ?_; rintro r w6 ⟨f, rfl, hx6, hb6⟩
    have HR6 := hid_intro (HR5.out.below hb6)
    have HB6 := hid_intro (HB5.out.below hb6)
    have HK6 := hid_intro (HK5.out.bel hb6)
    have HM6 := hid_intro (Nat.le_trans HM5.out hb6.size)
    have HX6 := hid_intro hx6
    clear hb6 hx6 hst
    obtain ⟨k_, i1, n1, q1, lo, hi, z, i2, n2, q2, ef⟩ := HX6.out.lit
    have HEF := hid_intro ef
    rw [ef]
    clear ef
    obtain ⟨c0, c1, c2, c3, c4, c5⟩ := HK6.out.c6
    obtain ⟨z0, z1, z2, z3, z4, z5⟩ := HK6.out.z6
    go_wp2_with fail
    refine bodyPost_ret (v := .agg #[.int .i64 k_, .slice i1 n1 q1, .int .i64 lo, .int .i64 hi, .bool z, .slice i2 n2 q2]) (by simp [results, Tryz.results61, go_sem, c0, c1, c2, c3, c4, c5]) rfl ?_
    rw [HP.out, HE.out]
    have hbf : But (· = pb) w ((((((w6.setCell ⟨w.heap.size, 0, none⟩ (.int .i64 k_)).setCell ⟨w.heap.size, 1, none⟩ (.slice i1 n1 q1)).setCell ⟨w.heap.size, 2, none⟩ (.int .i64 lo)).setCell ⟨w.heap.size, 3, none⟩ (.int .i64 hi)).setCell ⟨w.heap.size, 4, none⟩ (.bool z)).setCell ⟨w.heap.size, 5, none⟩ (.slice i2 n2 q2)) := by with_reducible (repeat (first | exact HB6.out | refine But.set ?_ (Or.inr (Nat.le_refl _)) _))
    have hrf : RP ((((((w6.setCell ⟨w.heap.size, 0, none⟩ (.int .i64 k_)).setCell ⟨w.heap.size, 1, none⟩ (.slice i1 n1 q1)).setCell ⟨w.heap.size, 2, none⟩ (.int .i64 lo)).setCell ⟨w.heap.size, 3, none⟩ (.int .i64 hi)).setCell ⟨w.heap.size, 4, none⟩ (.bool z)).setCell ⟨w.heap.size, 5, none⟩ (.slice i2 n2 q2)) pb S (a5) (g) true := by with_reducible (repeat (first | exact HR6.out | refine RP.away ?_ hrl _))
    have hxf : XI ((((((w6.setCell ⟨w.heap.size, 0, none⟩ (.int .i64 k_)).setCell ⟨w.heap.size, 1, none⟩ (.slice i1 n1 q1)).setCell ⟨w.heap.size, 2, none⟩ (.int .i64 lo)).setCell ⟨w.heap.size, 3, none⟩ (.int .i64 hi)).setCell ⟨w.heap.size, 4, none⟩ (.bool z)).setCell ⟨w.heap.size, 5, none⟩ (.slice i2 n2 q2)) (· < w.heap.size) (.mk 2 rl 0 0 false []) f := XI.weak (X := fun b => b < w.heap.size + 1) (by with_reducible (repeat (first | exact HX6.out | refine XI.set ?_ (Nat.lt_succ_self _) _))) (fun b hb => Nat.lt_succ_of_lt hb)
    exact ⟨hbf, _, _, _, g, by rw [HEF.out], hxf, hrf, Int.le_refl _⟩
  | some y =>
    obtain ⟨t, l'⟩ := y
    obtain ⟨a5, rl, rfl, hr5, hle5, hl5, hri5⟩ := hq5
    have HR5 := hid_intro hr5
    have HB5 := hid_intro (HB4.out.trans hb5)
    have HK5 := hid_intro (HK4.out.but hb5 hnp)
    have HM5 := hid_intro (Nat.le_trans HM4.out hb5.size)
    have HRI5 : Hid (RI w5 (fun j => j < w.heap.size + 1) rl v5) := hid_intro (hri5.weak (fun j hj => by have h1 : j < w.heap.size + 1 := hj; have := HM4.out; show j < _; omega))
    have HL5 := hid_intro (And.intro hle5 hl5)
    clear hb5 hr5 hri5 hcl hU hle5 hl5
    go_wp2_with fail
    have hst := rset_any rl v5 w5 (fun j => j < w.heap.size + 1) (HRI5.out)
    refine hst.mono ?_; rintro r w6 ⟨f, rfl, hx6, hb6⟩
    have HR6 := hid_intro (HR5.out.below hb6)
    have HB6 := hid_intro (HB5.out.below hb6)
    have HK6 := hid_intro (HK5.out.bel hb6)
    have HM6 := hid_intro (Nat.le_trans HM5.out hb6.size)
    have HX6 := hid_intro hx6
    clear hb6 hx6 hst
    obtain ⟨k_, i1, n1, q1, lo, hi, z, i2, n2, q2, ef⟩ := HX6.out.lit
    have HEF := hid_intro ef
    rw [ef]
    clear ef
    obtain ⟨c0, c1, c2, c3, c4, c5⟩ := HK6.out.c6
    obtain ⟨z0, z1, z2, z3, z4, z5⟩ := HK6.out.z6
    go_wp2_with fail
    refine bodyPost_ret (v := .agg #[.int .i64 k_, .slice i1 n1 q1, .int .i64 lo, .int .i64 hi, .bool z, .slice i2 n2 q2]) (by simp [results, Tryz.results61, go_sem, c0, c1, c2, c3, c4, c5]) rfl ?_
    rw [HP.out, HE.out]
    have hbf : But (· = pb) w ((((((w6.setCell ⟨w.heap.size, 0, none⟩ (.int .i64 k_)).setCell ⟨w.heap.size, 1, none⟩ (.slice i1 n1 q1)).setCell ⟨w.heap.size, 2, none⟩ (.int .i64 lo)).setCell ⟨w.heap.size, 3, none⟩ (.int .i64 hi)).setCell ⟨w.heap.size, 4, none⟩ (.bool z)).setCell ⟨w.heap.size, 5, none⟩ (.slice i2 n2 q2)) := by with_reducible (repeat (first | exact HB6.out | refine But.set ?_ (Or.inr (Nat.le_refl _)) _))
    have hrf : RP ((((((w6.setCell ⟨w.heap.size, 0, none⟩ (.int .i64 k_)).setCell ⟨w.heap.size, 1, none⟩ (.slice i1 n1 q1)).setCell ⟨w.heap.size, 2, none⟩ (.int .i64 lo)).setCell ⟨w.heap.size, 3, none⟩ (.int .i64 hi)).setCell ⟨w.heap.size, 4, none⟩ (.bool z)).setCell ⟨w.heap.size, 5, none⟩ (.slice i2 n2 q2)) pb S (a5) (g) false := by with_reducible (repeat (first | exact HR6.out | refine RP.away ?_ hrl _))
    have hxf : XI ((((((w6.setCell ⟨w.heap.size, 0, none⟩ (.int .i64 k_)).setCell ⟨w.heap.size, 1, none⟩ (.slice i1 n1 q1)).setCell ⟨w.heap.size, 2, none⟩ (.int .i64 lo)).setCell ⟨w.heap.size, 3, none⟩ (.int .i64 hi)).setCell ⟨w.heap.size, 4, none⟩ (.bool z)).setCell ⟨w.heap.size, 5, none⟩ (.slice i2 n2 q2)) (· < w.heap.size) (.mk 2 rl 0 0 false []) f := XI.weak (X := fun b => b < w.heap.size + 1) (by with_reducible (repeat (first | exact HX6.out | refine XI.set ?_ (Nat.lt_succ_self _) _))) (fun b hb => Nat.lt_succ_of_lt hb)
    exact ⟨hbf, _, a5, by rw [HEF.out], hxf, hrf, HL5.out.1, HL5.out.2⟩

set_option maxRecDepth 100000 in
set_option maxHeartbeats 6400000 in
theorem ratom_92 (pat : List Int → Option (RX × List Int)) (w : World) (pb a : Nat) (S : List Int) (g : Int) (ha : a ≤ S.length) (hq : pk S a = 92) (h : RP w pb S a g false) :
    Calls Tryz.prog 61 #[.pointer (some ⟨pb, 0, none⟩)] w (TreeQ (atomP pat (S.drop a)) S pb g w) := by
  obtain ⟨P, hP⟩ : ∃ P, P = TreeQ (atomP pat (S.drop a)) S pb g w := ⟨_, rfl⟩
  rw [← hP]
  have HP := hid_intro hP
  have HPL := hid_intro h.lt
  have HLN := hid_intro h.len
  have HMEM := hid_intro h.mem
  have HGB := hid_intro h.grps
  have hrl := h.lt
  have HA := hid_intro ha
  obtain ⟨W, hW⟩ : ∃ W, w.alloc (.cells #[.int .i64 0, .slice none 0 0, .int .i64 0, .int .i64 0, .bool false, .slice none 0 0] 26) = W := ⟨_, rfl⟩
  have HK0 : Hid (Bk W w.heap.size #[.int .i64 0, .slice none 0 0, .int .i64 0, .int .i64 0, .bool false, .slice none 0 0]) := hid_intro (hW ▸ Bk.new _ _ _)
  have HR0 : Hid (RP W pb S a g false) := hid_intro (h.below (hW ▸ vb_a (Below.refl _ _) _))
  have HB0 : Hid (But (· = pb) w W) := hid_intro (But.ofBelow (hW ▸ vb_a (Below.refl _ _) _))
  have HM0 : Hid (w.heap.size + 1 ≤ W.heap.size) := hid_intro (by rw [← hW]; simp)
  have hnp : ¬ w.heap.size = pb := by have := h.lt; omega
  have hT := fun (c : Int) (hc : c ≠ -1) (a : Nat) (g : Int) (bad : Bool) w' (h : RP w' pb S a g bad) => rtake_any w' pb a S g c bad hc h
  have HE : Hid (atomP pat (S.drop a) = match escapeL (S.drop (a + 1)) with | none => none | some (m, r') => some (setX m.ranges, r')) := hid_intro (by rw [atom_at (by omega) (by omega), if_neg (by omega), if_neg (by omega), if_pos hq]; cases escapeL (S.drop (a + 1)) <;> rfl)
  have hn40 : pk S a ≠ 40 := by omega
  have hn46 : pk S a ≠ 46 := by omega
  have hn91 : pk S a ≠ 91 := by omega
  have HK92 := hid_intro (pk_lt (S := S) (a := a) (by omega))
  have HMM : Hid (∀ m r', escapeL (S.drop (a + 1)) = some (m, r') → mergeL m.ranges = m.ranges) := hid_intro (fun m r' he => merge_mark (fun c hc => HMEM.out c (List.mem_of_mem_drop hc)) he)
  obtain ⟨U, hU⟩ : ∃ U, escapeL (S.drop (a + 1)) = U := ⟨_, rfl⟩
  rw [hU] at HE HMM
  clear hP h ha
  go_enter Tryz.func61, Tryz.ntmps61
  go_wp2_with fail
  refine (rpeek_any _ _ _ _ _ _ HR0.out).mono ?_; rintro r w1 ⟨rfl, hb1⟩
  have HR1 := hid_intro (HR0.out.below hb1)
  have HB1 := hid_intro (HB0.out.below hb1)
  have HK1 := hid_intro (HK0.out.bel hb1)
  have HM1 := hid_intro (Nat.le_trans HM0.out hb1.size)
  clear hb1
  go_wp2_with fail
  have ht2 := hT 40 (by omega) (a) (g) false _ HR1.out
  rw [decide_eq_false hn40, show tk S (a) 40 = a by unfold tk; rw [if_neg hn40]] at ht2
  refine ht2.mono ?_; rintro r w2 ⟨rfl, hb2, hr2⟩
  have HR2 := hid_intro hr2
  have HB2 := hid_intro (HB1.out.trans hb2)
  have HK2 := hid_intro (HK1.out.but hb2 hnp)
  have HM2 := hid_intro (Nat.le_trans HM1.out hb2.size)
  clear hb2 hr2 ht2
  go_wp2_with fail
  have ht3 := hT 46 (by omega) (a) (g) false _ HR2.out
  rw [decide_eq_false hn46, show tk S (a) 46 = a by unfold tk; rw [if_neg hn46]] at ht3
  refine ht3.mono ?_; rintro r w3 ⟨rfl, hb3, hr3⟩
  have HR3 := hid_intro hr3
  have HB3 := hid_intro (HB2.out.trans hb3)
  have HK3 := hid_intro (HK2.out.but hb3 hnp)
  have HM3 := hid_intro (Nat.le_trans HM2.out hb3.size)
  clear hb3 hr3 ht3
  go_wp2_with fail
  have ht4 := hT 91 (by omega) (a) (g) false _ HR3.out
  rw [decide_eq_false hn91, show tk S (a) 91 = a by unfold tk; rw [if_neg hn91]] at ht4
  refine ht4.mono ?_; rintro r w4 ⟨rfl, hb4, hr4⟩
  have HR4 := hid_intro hr4
  have HB4 := hid_intro (HB3.out.trans hb4)
  have HK4 := hid_intro (HK3.out.but hb4 hnp)
  have HM4 := hid_intro (Nat.le_trans HM3.out hb4.size)
  clear hb4 hr4 ht4
  go_wp2_with fail
  have ht5 := hT 92 (by omega) (a) (g) false _ HR4.out
  rw [decide_eq_true hq, show tk S (a) 92 = a + 1 by unfold tk; rw [if_pos hq]] at ht5
  refine ht5.mono ?_; rintro r w5 ⟨rfl, hb5, hr5⟩
  have HR5 := hid_intro hr5
  have HB5 := hid_intro (HB4.out.trans hb5)
  have HK5 := hid_intro (HK4.out.but hb5 hnp)
  have HM5 := hid_intro (Nat.le_trans HM4.out hb5.size)
  clear hb5 hr5 ht5
  go_wp2_with fail
  have hcl := rescape_any w5 pb (a + 1) S g HK92.out HR5.out
  rw [hU] at hcl
  refine hcl.mono ?_; rintro r w6 ⟨v6, nm6, rfl, hb6, hq6⟩
  cases U with
  | none =>
    obtain ⟨a6, hr6, hv6⟩ := hq6
    obtain ⟨rl, hri6⟩ : ∃ rl, RI w6 (· < w5.heap.size) rl v6 := by
      rcases hv6 with rfl | ⟨rl, h1, _, _⟩
      · exact ⟨[], RI.nil _ _⟩
      · exact ⟨rl, h1⟩
    have HR6 := hid_intro hr6
    have HB6 := hid_intro (HB5.out.trans hb6)
    have HK6 := hid_intro (HK5.out.but hb6 hnp)
    have HM6 := hid_intro (Nat.le_trans HM5.out hb6.size)
    have HRI6 : Hid (RI w6 (fun j => j < w.heap.size + 1) rl v6) := hid_intro (hri6.weak (fun j hj => by have h1 : j < w.heap.size + 1 := hj; have := HM5.out; show j < _; omega))
    clear hb6 hr6 hri6 hcl hU hv6
    go_wp2_with fail
    have hst := rset_any rl v6 w6 (fun j => j < w.heap.size + 1) (HRI6.out)
    refine hst.mono ?_; rintro r w7 ⟨f, rfl, hx7, hb7⟩
    have HR7 := hid_intro (HR6.out.below hb7)
    have HB7 := hid_intro (HB6.out.below hb7)
    have HK7 := hid_intro (HK6.out.bel hb7)
    have HM7 := hid_intro (Nat.le_trans HM6.out hb7.size)
    have HX7 := hid_intro hx7
    clear hb7 hx7 hst
    obtain ⟨k_, i1, n1, q1, lo, hi, z, i2, n2, q2, ef⟩ := HX7.out.lit
    have HEF := hid_intro ef
    rw [ef]
    clear ef
    obtain ⟨c0, c1, c2, c3, c4, c5⟩ := HK7.out.c6
    obtain ⟨z0, z1, z2, z3, z4, z5⟩ := HK7.out.z6
    go_wp2_with fail
    refine bodyPost_ret (v := .agg #[.int .i64 k_, .slice i1 n1 q1, .int .i64 lo, .int .i64 hi, .bool z, .slice i2 n2 q2]) (by simp [results, Tryz.results61, go_sem, c0, c1, c2, c3, c4, c5]) rfl ?_
    rw [HP.out, HE.out]
    have hbf : But (· = pb) w ((((((w7.setCell ⟨w.heap.size, 0, none⟩ (.int .i64 k_)).setCell ⟨w.heap.size, 1, none⟩ (.slice i1 n1 q1)).setCell ⟨w.heap.size, 2, none⟩ (.int .i64 lo)).setCell ⟨w.heap.size, 3, none⟩ (.int .i64 hi)).setCell ⟨w.heap.size, 4, none⟩ (.bool z)).setCell ⟨w.heap.size, 5, none⟩ (.slice i2 n2 q2)) := by with_reducible (repeat (first | exact HB7.out | refine But.set ?_ (Or.inr (Nat.le_refl _)) _))
    have hrf : RP ((((((w7.setCell ⟨w.heap.size, 0, none⟩ (.int .i64 k_)).setCell ⟨w.heap.size, 1, none⟩ (.slice i1 n1 q1)).setCell ⟨w.heap.size, 2, none⟩ (.int .i64 lo)).setCell ⟨w.heap.size, 3, none⟩ (.int .i64 hi)).setCell ⟨w.heap.size, 4, none⟩ (.bool z)).setCell ⟨w.heap.size, 5, none⟩ (.slice i2 n2 q2)) pb S (a6) (g) true := by with_reducible (repeat (first | exact HR7.out | refine RP.away ?_ hrl _))
    have hxf : XI ((((((w7.setCell ⟨w.heap.size, 0, none⟩ (.int .i64 k_)).setCell ⟨w.heap.size, 1, none⟩ (.slice i1 n1 q1)).setCell ⟨w.heap.size, 2, none⟩ (.int .i64 lo)).setCell ⟨w.heap.size, 3, none⟩ (.int .i64 hi)).setCell ⟨w.heap.size, 4, none⟩ (.bool z)).setCell ⟨w.heap.size, 5, none⟩ (.slice i2 n2 q2)) (· < w.heap.size) (.mk 2 rl 0 0 false []) f := XI.weak (X := fun b => b < w.heap.size + 1) (by with_reducible (repeat (first | exact HX7.out | refine XI.set ?_ (Nat.lt_succ_self _) _))) (fun b hb => Nat.lt_succ_of_lt hb)
    exact ⟨hbf, _, _, _, g, by rw [HEF.out], hxf, hrf, Int.le_refl _⟩
  | some y =>
    obtain ⟨m, l'⟩ := y
    obtain ⟨a6, hr6, hle6, hl6, _, hri6⟩ := hq6
    have HE2 : Hid (atomP pat (S.drop a) = some (.mk 2 m.ranges 0 0 false [], l')) := hid_intro (by rw [HE.out]; simp only [setX]; rw [HMM.out m l' rfl])
    have HR6 := hid_intro hr6
    have HB6 := hid_intro (HB5.out.trans hb6)
    have HK6 := hid_intro (HK5.out.but hb6 hnp)
    have HM6 := hid_intro (Nat.le_trans HM5.out hb6.size)
    have HRI6 : Hid (RI w6 (fun j => j < w.heap.size + 1) m.ranges v6) := hid_intro (hri6.weak (fun j hj => by have h1 : j < w.heap.size + 1 := hj; have := HM5.out; show j < _; omega))
    have HL6 := hid_intro (And.intro hle6 hl6)
    clear hb6 hr6 hri6 hcl hU hle6 hl6
    go_wp2_with fail
    have hst := rset_any m.ranges v6 w6 (fun j => j < w.heap.size + 1) (HRI6.out)
    refine hst.mono ?_; rintro r w7 ⟨f, rfl, hx7, hb7⟩
    have HR7 := hid_intro (HR6.out.below hb7)
    have HB7 := hid_intro (HB6.out.below hb7)
    have HK7 := hid_intro (HK6.out.bel hb7)
    have HM7 := hid_intro (Nat.le_trans HM6.out hb7.size)
    have HX7 := hid_intro hx7
    clear hb7 hx7 hst
    obtain ⟨k_, i1, n1, q1, lo, hi, z, i2, n2, q2, ef⟩ := HX7.out.lit
    have HEF := hid_intro ef
    rw [ef]
    clear ef
    obtain ⟨c0, c1, c2, c3, c4, c5⟩ := HK7.out.c6
    obtain ⟨z0, z1, z2, z3, z4, z5⟩ := HK7.out.z6
    go_wp2_with fail
    refine bodyPost_ret (v := .agg #[.int .i64 k_, .slice i1 n1 q1, .int .i64 lo, .int .i64 hi, .bool z, .slice i2 n2 q2]) (by simp [results, Tryz.results61, go_sem, c0, c1, c2, c3, c4, c5]) rfl ?_
    rw [HP.out, HE2.out]
    have hbf : But (· = pb) w ((((((w7.setCell ⟨w.heap.size, 0, none⟩ (.int .i64 k_)).setCell ⟨w.heap.size, 1, none⟩ (.slice i1 n1 q1)).setCell ⟨w.heap.size, 2, none⟩ (.int .i64 lo)).setCell ⟨w.heap.size, 3, none⟩ (.int .i64 hi)).setCell ⟨w.heap.size, 4, none⟩ (.bool z)).setCell ⟨w.heap.size, 5, none⟩ (.slice i2 n2 q2)) := by with_reducible (repeat (first | exact HB7.out | refine But.set ?_ (Or.inr (Nat.le_refl _)) _))
    have hrf : RP ((((((w7.setCell ⟨w.heap.size, 0, none⟩ (.int .i64 k_)).setCell ⟨w.heap.size, 1, none⟩ (.slice i1 n1 q1)).setCell ⟨w.heap.size, 2, none⟩ (.int .i64 lo)).setCell ⟨w.heap.size, 3, none⟩ (.int .i64 hi)).setCell ⟨w.heap.size, 4, none⟩ (.bool z)).setCell ⟨w.heap.size, 5, none⟩ (.slice i2 n2 q2)) pb S (a6) (g) false := by with_reducible (repeat (first | exact HR7.out | refine RP.away ?_ hrl _))
    have hxf : XI ((((((w7.setCell ⟨w.heap.size, 0, none⟩ (.int .i64 k_)).setCell ⟨w.heap.size, 1, none⟩ (.slice i1 n1 q1)).setCell ⟨w.heap.size, 2, none⟩ (.int .i64 lo)).setCell ⟨w.heap.size, 3, none⟩ (.int .i64 hi)).setCell ⟨w.heap.size, 4, none⟩ (.bool z)).setCell ⟨w.heap.size, 5, none⟩ (.slice i2 n2 q2)) (· < w.heap.size) (.mk 2 m.ranges 0 0 false []) f := XI.weak (X := fun b => b < w.heap.size + 1) (by with_reducible (repeat (first | exact HX7.out | refine XI.set ?_ (Nat.lt_succ_self _) _))) (fun b hb => Nat.lt_succ_of_lt hb)
    exact ⟨hbf, _, a6, by rw [HEF.out], hxf, hrf, HL6.out.1, HL6.out.2⟩

set_option maxRecDepth 100000 in
set_option maxHeartbeats 6400000 in
theorem ratom_end (pat : List Int → Option (RX × List Int)) (w : World) (pb a : Nat) (S : List Int) (g : Int) (ha : a ≤ S.length) (hn : pk S a ≠ 40 ∧ pk S a ≠ 46 ∧ pk S a ≠ 91 ∧ pk S a ≠ 92) (hq : pk S a < 0) (h : RP w pb S a g false) :
    Calls Tryz.prog 61 #[.pointer (some ⟨pb, 0, none⟩)] w (TreeQ (atomP pat (S.drop a)) S pb g w) := by
  obtain ⟨P, hP⟩ : ∃ P, P = TreeQ (atomP pat (S.drop a)) S pb g w := ⟨_, rfl⟩
  rw [← hP]
  have HP := hid_intro hP
  have HPL := hid_intro h.lt
  have HLN := hid_intro h.len
  have HMEM := hid_intro h.mem
  have HGB := hid_intro h.grps
  have hrl := h.lt
  have HA := hid_intro ha
  obtain ⟨W, hW⟩ : ∃ W, w.alloc (.cells #[.int .i64 0, .slice none 0 0, .int .i64 0, .int .i64 0, .bool false, .slice none 0 0] 26) = W := ⟨_, rfl⟩
  have HK0 : Hid (Bk W w.heap.size #[.int .i64 0, .slice none 0 0, .int .i64 0, .int .i64 0, .bool false, .slice none 0 0]) := hid_intro (hW ▸ Bk.new _ _ _)
  have HR0 : Hid (RP W pb S a g false) := hid_intro (h.below (hW ▸ vb_a (Below.refl _ _) _))
  have HB0 : Hid (But (· = pb) w W) := hid_intro (But.ofBelow (hW ▸ vb_a (Below.refl _ _) _))
  have HM0 : Hid (w.heap.size + 1 ≤ W.heap.size) := hid_intro (by rw [← hW]; simp)
  have hnp : ¬ w.heap.size = pb := by have := h.lt; omega
  have hT := fun (c : Int) (hc : c ≠ -1) (a : Nat) (g : Int) (bad : Bool) w' (h : RP w' pb S a g bad) => rtake_any w' pb a S g c bad hc h
  have hn40 : pk S a ≠ 40 := hn.1
  have hn46 : pk S a ≠ 46 := hn.2.1
  have hn91 : pk S a ≠ 91 := hn.2.2.1
  have hn92 : pk S a ≠ 92 := hn.2.2.2
  have HE : Hid (atomP pat (S.drop a) = none) := hid_intro (by
    by_cases hk : a < S.length
    · have := h.mem _ (pk_mem hk); omega
    · rw [drop_out (by omega)]; rfl)
  clear hP h ha
  go_enter Tryz.func61, Tryz.ntmps61
  go_wp2_with fail
  refine (rpeek_any _ _ _ _ _ _ HR0.out).mono ?_; rintro r w1 ⟨rfl, hb1⟩
  have HR1 := hid_intro (HR0.out.below hb1)
  have HB1 := hid_intro (HB0.out.below hb1)
  have HK1 := hid_intro (HK0.out.bel hb1)
  have HM1 := hid_intro (Nat.le_trans HM0.out hb1.size)
  clear hb1
  go_wp2_with fail
  have ht2 := hT 40 (by omega) (a) (g) false _ HR1.out
  rw [decide_eq_false hn40, show tk S (a) 40 = a by unfold tk; rw [if_neg hn40]] at ht2
  refine ht2.mono ?_; rintro r w2 ⟨rfl, hb2, hr2⟩
  have HR2 := hid_intro hr2
  have HB2 := hid_intro (HB1.out.trans hb2)
  have HK2 := hid_intro (HK1.out.but hb2 hnp)
  have HM2 := hid_intro (Nat.le_trans HM1.out hb2.size)
  clear hb2 hr2 ht2
  go_wp2_with fail
  have ht3 := hT 46 (by omega) (a) (g) false _ HR2.out
  rw [decide_eq_false hn46, show tk S (a) 46 = a by unfold tk; rw [if_neg hn46]] at ht3
  refine ht3.mono ?_; rintro r w3 ⟨rfl, hb3, hr3⟩
  have HR3 := hid_intro hr3
  have HB3 := hid_intro (HB2.out.trans hb3)
  have HK3 := hid_intro (HK2.out.but hb3 hnp)
  have HM3 := hid_intro (Nat.le_trans HM2.out hb3.size)
  clear hb3 hr3 ht3
  go_wp2_with fail
  have ht4 := hT 91 (by omega) (a) (g) false _ HR3.out
  rw [decide_eq_false hn91, show tk S (a) 91 = a by unfold tk; rw [if_neg hn91]] at ht4
  refine ht4.mono ?_; rintro r w4 ⟨rfl, hb4, hr4⟩
  have HR4 := hid_intro hr4
  have HB4 := hid_intro (HB3.out.trans hb4)
  have HK4 := hid_intro (HK3.out.but hb4 hnp)
  have HM4 := hid_intro (Nat.le_trans HM3.out hb4.size)
  clear hb4 hr4 ht4
  go_wp2_with fail
  have ht5 := hT 92 (by omega) (a) (g) false _ HR4.out
  rw [decide_eq_false hn92, show tk S (a) 92 = a by unfold tk; rw [if_neg hn92]] at ht5
  refine ht5.mono ?_; rintro r w5 ⟨rfl, hb5, hr5⟩
  have HR5 := hid_intro hr5
  have HB5 := hid_intro (HB4.out.trans hb5)
  have HK5 := hid_intro (HK4.out.but hb5 hnp)
  have HM5 := hid_intro (Nat.le_trans HM4.out hb5.size)
  clear hb5 hr5 ht5
  generalize pk S a = q at *
  go_wp2_with fail
  refine (rfail_any _ _ _ _ _ _ HR5.out).mono ?_; rintro r w6 ⟨rfl, hb6, hr6⟩
  have HR6 := hid_intro hr6
  have HB6 := hid_intro (HB5.out.trans hb6)
  have HK6 := hid_intro (HK5.out.but hb6 hnp)
  have HM6 := hid_intro (Nat.le_trans HM5.out hb6.size)
  clear hb6 hr6
  obtain ⟨c0, c1, c2, c3, c4, c5⟩ := HK6.out.c6
  obtain ⟨z0, z1, z2, z3, z4, z5⟩ := HK6.out.z6
  go_wp2_with fail
  refine bodyPost_ret (v := .agg #[.int .i64 0, .slice none 0 0, .int .i64 0, .int .i64 0, .bool false, .slice none 0 0]) (by simp [results, Tryz.results61, go_sem, c0, c1, c2, c3, c4, c5]) rfl ?_
  rw [HP.out, HE.out]
  have hbf : But (· = pb) w ((((((w6.setCell ⟨w.heap.size, 0, none⟩ (.int .i64 0)).setCell ⟨w.heap.size, 1, none⟩ (.slice none 0 0)).setCell ⟨w.heap.size, 2, none⟩ (.int .i64 0)).setCell ⟨w.heap.size, 3, none⟩ (.int .i64 0)).setCell ⟨w.heap.size, 4, none⟩ (.bool false)).setCell ⟨w.heap.size, 5, none⟩ (.slice none 0 0)) := by with_reducible (repeat (first | exact HB6.out | refine But.set ?_ (Or.inr (Nat.le_refl _)) _))
  have hrf : RP ((((((w6.setCell ⟨w.heap.size, 0, none⟩ (.int .i64 0)).setCell ⟨w.heap.size, 1, none⟩ (.slice none 0 0)).setCell ⟨w.heap.size, 2, none⟩ (.int .i64 0)).setCell ⟨w.heap.size, 3, none⟩ (.int .i64 0)).setCell ⟨w.heap.size, 4, none⟩ (.bool false)).setCell ⟨w.heap.size, 5, none⟩ (.slice none 0 0)) pb S (a) (g) true := by with_reducible (repeat (first | exact HR6.out | refine RP.away ?_ hrl _))
  have hxf := xi_zero ((((((w6.setCell ⟨w.heap.size, 0, none⟩ (.int .i64 0)).setCell ⟨w.heap.size, 1, none⟩ (.slice none 0 0)).setCell ⟨w.heap.size, 2, none⟩ (.int .i64 0)).setCell ⟨w.heap.size, 3, none⟩ (.int .i64 0)).setCell ⟨w.heap.size, 4, none⟩ (.bool false)).setCell ⟨w.heap.size, 5, none⟩ (.slice none 0 0)) (· < w.heap.size)
  exact ⟨hbf, _, _, _, g, rfl, hxf, hrf, Int.le_refl _⟩

set_option maxRecDepth 100000 in
set_option maxHeartbeats 6400000 in
theorem ratom_syn (pat : List Int → Option (RX × List Int)) (w : World) (pb a : Nat) (S : List Int) (g : Int) (ha : a ≤ S.length) (hn : pk S a ≠ 40 ∧ pk S a ≠ 46 ∧ pk S a ≠ 91 ∧ pk S a ≠ 92) (hq : 0 ≤ pk S a) (hs : synB (pk S a) = true) (h : RP w pb S a g false) :
    Calls Tryz.prog 61 #[.pointer (some ⟨pb, 0, none⟩)] w (TreeQ (atomP pat (S.drop a)) S pb g w) := by
  obtain ⟨P, hP⟩ : ∃ P, P = TreeQ (atomP pat (S.drop a)) S pb g w := ⟨_, rfl⟩
  rw [← hP]
  have HP := hid_intro hP
  have HPL := hid_intro h.lt
  have HLN := hid_intro h.len
  have HMEM := hid_intro h.mem
  have HGB := hid_intro h.grps
  have hrl := h.lt
  have HA := hid_intro ha
  obtain ⟨W, hW⟩ : ∃ W, w.alloc (.cells #[.int .i64 0, .slice none 0 0, .int .i64 0, .int .i64 0, .bool false, .slice none 0 0] 26) = W := ⟨_, rfl⟩
  have HK0 : Hid (Bk W w.heap.size #[.int .i64 0, .slice none 0 0, .int .i64 0, .int .i64 0, .bool false, .slice none 0 0]) := hid_intro (hW ▸ Bk.new _ _ _)
  have HR0 : Hid (RP W pb S a g false) := hid_intro (h.below (hW ▸ vb_a (Below.refl _ _) _))
  have HB0 : Hid (But (· = pb) w W) := hid_intro (But.ofBelow (hW ▸ vb_a (Below.refl _ _) _))
  have HM0 : Hid (w.heap.size + 1 ≤ W.heap.size) := hid_intro (by rw [← hW]; simp)
  have hnp : ¬ w.heap.size = pb := by have := h.lt; omega
  have hT := fun (c : Int) (hc : c ≠ -1) (a : Nat) (g : Int) (bad : Bool) w' (h : RP w' pb S a g bad) => rtake_any w' pb a S g c bad hc h
  have hn40 : pk S a ≠ 40 := hn.1
  have hn46 : pk S a ≠ 46 := hn.2.1
  have hn91 : pk S a ≠ 91 := hn.2.2.1
  have hn92 : pk S a ≠ 92 := hn.2.2.2
  have hq0 : ¬ pk S a < 0 := by omega
  have hin := fun w' => rin_s (pk S a) ⟨#[94, 36, 42, 43, 63, 41, 93, 123, 125, 124]⟩ w' (by decide)
  rw [show ints ⟨#[94, 36, 42, 43, 63, 41, 93, 123, 125, 124]⟩ = [94, 36, 42, 43, 63, 41, 93, 123, 125, 124] from rfl] at hin
  have hmm : pk S a ∈ [94, 36, 42, 43, 63, 41, 93, 123, 125, 124] := by
    unfold synB at hs
    have h1 := List.contains_iff_mem.1 hs
    simp only [List.mem_cons, List.not_mem_nil, or_false] at h1 ⊢
    omega
  rw [decide_eq_true hmm] at hin
  have HE : Hid (atomP pat (S.drop a) = none) := hid_intro (by rw [atom_at hq hn.1, if_neg hn.2.2.1, if_neg hn.2.1, if_neg hn.2.2.2, if_pos hs])
  have HIN := hid_intro hin
  clear hmm hs hin
  clear hP h ha
  go_enter Tryz.func61, Tryz.ntmps61
  go_wp2_with fail
  refine (rpeek_any _ _ _ _ _ _ HR0.out).mono ?_; rintro r w1 ⟨rfl, hb1⟩
  have HR1 := hid_intro (HR0.out.below hb1)
  have HB1 := hid_intro (HB0.out.below hb1)
  have HK1 := hid_intro (HK0.out.bel hb1)
  have HM1 := hid_intro (Nat.le_trans HM0.out hb1.size)
  clear hb1
  go_wp2_with fail
  have ht2 := hT 40 (by omega) (a) (g) false _ HR1.out
  rw [decide_eq_false hn40, show tk S (a) 40 = a by unfold tk; rw [if_neg hn40]] at ht2
  refine ht2.mono ?_; rintro r w2 ⟨rfl, hb2, hr2⟩
  have HR2 := hid_intro hr2
  have HB2 := hid_intro (HB1.out.trans hb2)
  have HK2 := hid_intro (HK1.out.but hb2 hnp)
  have HM2 := hid_intro (Nat.le_trans HM1.out hb2.size)
  clear hb2 hr2 ht2
  go_wp2_with fail
  have ht3 := hT 46 (by omega) (a) (g) false _ HR2.out
  rw [decide_eq_false hn46, show tk S (a) 46 = a by unfold tk; rw [if_neg hn46]] at ht3
  refine ht3.mono ?_; rintro r w3 ⟨rfl, hb3, hr3⟩
  have HR3 := hid_intro hr3
  have HB3 := hid_intro (HB2.out.trans hb3)
  have HK3 := hid_intro (HK2.out.but hb3 hnp)
  have HM3 := hid_intro (Nat.le_trans HM2.out hb3.size)
  clear hb3 hr3 ht3
  go_wp2_with fail
  have ht4 := hT 91 (by omega) (a) (g) false _ HR3.out
  rw [decide_eq_false hn91, show tk S (a) 91 = a by unfold tk; rw [if_neg hn91]] at ht4
  refine ht4.mono ?_; rintro r w4 ⟨rfl, hb4, hr4⟩
  have HR4 := hid_intro hr4
  have HB4 := hid_intro (HB3.out.trans hb4)
  have HK4 := hid_intro (HK3.out.but hb4 hnp)
  have HM4 := hid_intro (Nat.le_trans HM3.out hb4.size)
  clear hb4 hr4 ht4
  go_wp2_with fail
  have ht5 := hT 92 (by omega) (a) (g) false _ HR4.out
  rw [decide_eq_false hn92, show tk S (a) 92 = a by unfold tk; rw [if_neg hn92]] at ht5
  refine ht5.mono ?_; rintro r w5 ⟨rfl, hb5, hr5⟩
  have HR5 := hid_intro hr5
  have HB5 := hid_intro (HB4.out.trans hb5)
  have HK5 := hid_intro (HK4.out.but hb5 hnp)
  have HM5 := hid_intro (Nat.le_trans HM4.out hb5.size)
  clear hb5 hr5 ht5
  generalize pk S a = q at *
  clear hn hq
  go_wp2_with fail
  refine (HIN.out _).mono ?_; rintro r w8 ⟨rfl, rfl⟩
  go_wp2_with fail
  refine (rfail_any _ _ _ _ _ _ HR5.out).mono ?_; rintro r w6 ⟨rfl, hb6, hr6⟩
  have HR6 := hid_intro hr6
  have HB6 := hid_intro (HB5.out.trans hb6)
  have HK6 := hid_intro (HK5.out.but hb6 hnp)
  have HM6 := hid_intro (Nat.le_trans HM5.out hb6.size)
  clear hb6 hr6
  obtain ⟨c0, c1, c2, c3, c4, c5⟩ := HK6.out.c6
  obtain ⟨z0, z1, z2, z3, z4, z5⟩ := HK6.out.z6
  go_wp2_with fail
  refine bodyPost_ret (v := .agg #[.int .i64 0, .slice none 0 0, .int .i64 0, .int .i64 0, .bool false, .slice none 0 0]) (by simp [results, Tryz.results61, go_sem, c0, c1, c2, c3, c4, c5]) rfl ?_
  rw [HP.out, HE.out]
  have hbf : But (· = pb) w ((((((w6.setCell ⟨w.heap.size, 0, none⟩ (.int .i64 0)).setCell ⟨w.heap.size, 1, none⟩ (.slice none 0 0)).setCell ⟨w.heap.size, 2, none⟩ (.int .i64 0)).setCell ⟨w.heap.size, 3, none⟩ (.int .i64 0)).setCell ⟨w.heap.size, 4, none⟩ (.bool false)).setCell ⟨w.heap.size, 5, none⟩ (.slice none 0 0)) := by with_reducible (repeat (first | exact HB6.out | refine But.set ?_ (Or.inr (Nat.le_refl _)) _))
  have hrf : RP ((((((w6.setCell ⟨w.heap.size, 0, none⟩ (.int .i64 0)).setCell ⟨w.heap.size, 1, none⟩ (.slice none 0 0)).setCell ⟨w.heap.size, 2, none⟩ (.int .i64 0)).setCell ⟨w.heap.size, 3, none⟩ (.int .i64 0)).setCell ⟨w.heap.size, 4, none⟩ (.bool false)).setCell ⟨w.heap.size, 5, none⟩ (.slice none 0 0)) pb S (a) (g) true := by with_reducible (repeat (first | exact HR6.out | refine RP.away ?_ hrl _))
  have hxf := xi_zero ((((((w6.setCell ⟨w.heap.size, 0, none⟩ (.int .i64 0)).setCell ⟨w.heap.size, 1, none⟩ (.slice none 0 0)).setCell ⟨w.heap.size, 2, none⟩ (.int .i64 0)).setCell ⟨w.heap.size, 3, none⟩ (.int .i64 0)).setCell ⟨w.heap.size, 4, none⟩ (.bool false)).setCell ⟨w.heap.size, 5, none⟩ (.slice none 0 0)) (· < w.heap.size)
  exact ⟨hbf, _, _, _, g, rfl, hxf, hrf, Int.le_refl _⟩

set_option maxRecDepth 100000 in
set_option maxHeartbeats 6400000 in
theorem ratom_pl (pat : List Int → Option (RX × List Int)) (w : World) (pb a : Nat) (S : List Int) (g : Int) (ha : a ≤ S.length) (hn : pk S a ≠ 40 ∧ pk S a ≠ 46 ∧ pk S a ≠ 91 ∧ pk S a ≠ 92) (hq : 0 ≤ pk S a) (hs : synB (pk S a) = false) (h : RP w pb S a g false) :
    Calls Tryz.prog 61 #[.pointer (some ⟨pb, 0, none⟩)] w (TreeQ (atomP pat (S.drop a)) S pb g w) := by
  obtain ⟨P, hP⟩ : ∃ P, P = TreeQ (atomP pat (S.drop a)) S pb g w := ⟨_, rfl⟩
  rw [← hP]
  have HP := hid_intro hP
  have HPL := hid_intro h.lt
  have HLN := hid_intro h.len
  have HMEM := hid_intro h.mem
  have HGB := hid_intro h.grps
  have hrl := h.lt
  have HA := hid_intro ha
  obtain ⟨W, hW⟩ : ∃ W, w.alloc (.cells #[.int .i64 0, .slice none 0 0, .int .i64 0, .int .i64 0, .bool false, .slice none 0 0] 26) = W := ⟨_, rfl⟩
  have HK0 : Hid (Bk W w.heap.size #[.int .i64 0, .slice none 0 0, .int .i64 0, .int .i64 0, .bool false, .slice none 0 0]) := hid_intro (hW ▸ Bk.new _ _ _)
  have HR0 : Hid (RP W pb S a g false) := hid_intro (h.below (hW ▸ vb_a (Below.refl _ _) _))
  have HB0 : Hid (But (· = pb) w W) := hid_intro (But.ofBelow (hW ▸ vb_a (Below.refl _ _) _))
  have HM0 : Hid (w.heap.size + 1 ≤ W.heap.size) := hid_intro (by rw [← hW]; simp)
  have hnp : ¬ w.heap.size = pb := by have := h.lt; omega
  have hT := fun (c : Int) (hc : c ≠ -1) (a : Nat) (g : Int) (bad : Bool) w' (h : RP w' pb S a g bad) => rtake_any w' pb a S g c bad hc h
  have hn40 : pk S a ≠ 40 := hn.1
  have hn46 : pk S a ≠ 46 := hn.2.1
  have hn91 : pk S a ≠ 91 := hn.2.2.1
  have hn92 : pk S a ≠ 92 := hn.2.2.2
  have hq0 : ¬ pk S a < 0 := by omega
  have hin := fun w' => rin_s (pk S a) ⟨#[94, 36, 42, 43, 63, 41, 93, 123, 125, 124]⟩ w' (by decide)
  rw [show ints ⟨#[94, 36, 42, 43, 63, 41, 93, 123, 125, 124]⟩ = [94, 36, 42, 43, 63, 41, 93, 123, 125, 124] from rfl] at hin
  have hmm : ¬ pk S a ∈ [94, 36, 42, 43, 63, 41, 93, 123, 125, 124] := fun h1 => by
    have : synB (pk S a) = true := by
      unfold synB
      refine List.contains_iff_mem.2 ?_
      simp only [List.mem_cons, List.not_mem_nil, or_false] at h1 ⊢
      omega
    rw [this] at hs; simp at hs
  rw [decide_eq_false hmm] at hin
  have hrg := h.mem _ (pk_mem (pk_lt hq))
  have HE : Hid (atomP pat (S.drop a) = some (.mk 2 [(pk S a, pk S a)] 0 0 false [], S.drop (a + 1))) := hid_intro (by
    rw [atom_at hq hn.1, if_neg hn.2.2.1, if_neg hn.2.1, if_neg hn.2.2.2, hs, if_neg (by simp)]
    unfold setX
    rw [merge_one hrg.1 hrg.2])
  have HI : Hid (I64 (pk S a)) := hid_intro ⟨by omega, by omega⟩
  have HKP := hid_intro (pk_lt hq)
  have HIN := hid_intro hin
  have hw : wrap64 ((a : Int) + 1) = (a : Int) + 1 := w64 (by omega) (by have := HLN.out; omega)
  clear hmm hs hin hrg
  clear hP h ha
  go_enter Tryz.func61, Tryz.ntmps61
  go_wp2_with fail
  refine (rpeek_any _ _ _ _ _ _ HR0.out).mono ?_; rintro r w1 ⟨rfl, hb1⟩
  have HR1 := hid_intro (HR0.out.below hb1)
  have HB1 := hid_intro (HB0.out.below hb1)
  have HK1 := hid_intro (HK0.out.bel hb1)
  have HM1 := hid_intro (Nat.le_trans HM0.out hb1.size)
  clear hb1
  go_wp2_with fail
  have ht2 := hT 40 (by omega) (a) (g) false _ HR1.out
  rw [decide_eq_false hn40, show tk S (a) 40 = a by unfold tk; rw [if_neg hn40]] at ht2
  refine ht2.mono ?_; rintro r w2 ⟨rfl, hb2, hr2⟩
  have HR2 := hid_intro hr2
  have HB2 := hid_intro (HB1.out.trans hb2)
  have HK2 := hid_intro (HK1.out.but hb2 hnp)
  have HM2 := hid_intro (Nat.le_trans HM1.out hb2.size)
  clear hb2 hr2 ht2
  go_wp2_with fail
  have ht3 := hT 46 (by omega) (a) (g) false _ HR2.out
  rw [decide_eq_false hn46, show tk S (a) 46 = a by unfold tk; rw [if_neg hn46]] at ht3
  refine ht3.mono ?_; rintro r w3 ⟨rfl, hb3, hr3⟩
  have HR3 := hid_intro hr3
  have HB3 := hid_intro (HB2.out.trans hb3)
  have HK3 := hid_intro (HK2.out.but hb3 hnp)
  have HM3 := hid_intro (Nat.le_trans HM2.out hb3.size)
  clear hb3 hr3 ht3
  go_wp2_with fail
  have ht4 := hT 91 (by omega) (a) (g) false _ HR3.out
  rw [decide_eq_false hn91, show tk S (a) 91 = a by unfold tk; rw [if_neg hn91]] at ht4
  refine ht4.mono ?_; rintro r w4 ⟨rfl, hb4, hr4⟩
  have HR4 := hid_intro hr4
  have HB4 := hid_intro (HB3.out.trans hb4)
  have HK4 := hid_intro (HK3.out.but hb4 hnp)
  have HM4 := hid_intro (Nat.le_trans HM3.out hb4.size)
  clear hb4 hr4 ht4
  go_wp2_with fail
  have ht5 := hT 92 (by omega) (a) (g) false _ HR4.out
  rw [decide_eq_false hn92, show tk S (a) 92 = a by unfold tk; rw [if_neg hn92]] at ht5
  refine ht5.mono ?_; rintro r w5 ⟨rfl, hb5, hr5⟩
  have HR5 := hid_intro hr5
  have HB5 := hid_intro (HB4.out.trans hb5)
  have HK5 := hid_intro (HK4.out.but hb5 hnp)
  have HM5 := hid_intro (Nat.le_trans HM4.out hb5.size)
  clear hb5 hr5 ht5
  generalize pk S a = q at *
  clear hn hq
  go_wp2_with fail
  refine (HIN.out _).mono ?_; rintro r w8 ⟨rfl, rfl⟩
  obtain ⟨e1, f1⟩ := HR5.out.one
  have hb6 : But (· = pb) w5 (w5.setCell ⟨pb, 1, none⟩ (.int .i64 ((a : Int) + 1))) := But.setr (But.refl _ _) _
  have hr6 : RP (w5.setCell ⟨pb, 1, none⟩ (.int .i64 ((a : Int) + 1))) pb S (a + 1) g false := HR5.out.at (a + 1) (by have := HKP.out; omega) _ (by omega)
  have HR6 := hid_intro hr6
  have HB6 := hid_intro (HB5.out.trans hb6)
  have HK6 := hid_intro (HK5.out.but hb6 hnp)
  have HM6 := hid_intro (Nat.le_trans HM5.out hb6.size)
  clear hb6 hr6
  go_wp2_with fail
  generalize w5.setCell ⟨pb, 1, none⟩ (.int .i64 ((a : Int) + 1)) = w6 at *
  clear e1 f1 hw
  refine (rone_any q _ HI.out).mono ?_; rintro r w7 ⟨v7, rfl, ho7, hb7⟩
  have HR7 := hid_intro (HR6.out.below hb7)
  have HB7 := hid_intro (HB6.out.below hb7)
  have HK7 := hid_intro (HK6.out.bel hb7)
  have HM7 := hid_intro (Nat.le_trans HM6.out hb7.size)
  have HRI7 : Hid (RI w7 (fun j => j < w.heap.size + 1) [(q, q)] v7) := hid_intro (ho7.ri _ (fun j hj h1 => by have h2 : j < w.heap.size + 1 := h1; have := HM6.out; omega))
  clear hb7 ho7
  go_wp2_with fail
  have hst := rset_any [(q, q)] v7 w7 (fun j => j < w.heap.size + 1) (HRI7.out)
  refine hst.mono ?_; rintro r w8 ⟨f, rfl, hx8, hb8⟩
  have HR8 := hid_intro (HR7.out.below hb8)
  have HB8 := hid_intro (HB7.out.below hb8)
  have HK8 := hid_intro (HK7.out.bel hb8)
  have HM8 := hid_intro (Nat.le_trans HM7.out hb8.size)
  have HX8 := hid_intro hx8
  clear hb8 hx8 hst
  obtain ⟨k_, i1, n1, q1, lo, hi, z, i2, n2, q2, ef⟩ := HX8.out.lit
  have HEF := hid_intro ef
  rw [ef]
  clear ef
  obtain ⟨c0, c1, c2, c3, c4, c5⟩ := HK8.out.c6
  obtain ⟨z0, z1, z2, z3, z4, z5⟩ := HK8.out.z6
  go_wp2_with fail
  refine bodyPost_ret (v := .agg #[.int .i64 k_, .slice i1 n1 q1, .int .i64 lo, .int .i64 hi, .bool z, .slice i2 n2 q2]) (by simp [results, Tryz.results61, go_sem, c0, c1, c2, c3, c4, c5]) rfl ?_
  rw [HP.out, HE.out]
  have hbf : But (· = pb) w ((((((w8.setCell ⟨w.heap.size, 0, none⟩ (.int .i64 k_)).setCell ⟨w.heap.size, 1, none⟩ (.slice i1 n1 q1)).setCell ⟨w.heap.size, 2, none⟩ (.int .i64 lo)).setCell ⟨w.heap.size, 3, none⟩ (.int .i64 hi)).setCell ⟨w.heap.size, 4, none⟩ (.bool z)).setCell ⟨w.heap.size, 5, none⟩ (.slice i2 n2 q2)) := by with_reducible (repeat (first | exact HB8.out | refine But.set ?_ (Or.inr (Nat.le_refl _)) _))
  have hrf : RP ((((((w8.setCell ⟨w.heap.size, 0, none⟩ (.int .i64 k_)).setCell ⟨w.heap.size, 1, none⟩ (.slice i1 n1 q1)).setCell ⟨w.heap.size, 2, none⟩ (.int .i64 lo)).setCell ⟨w.heap.size, 3, none⟩ (.int .i64 hi)).setCell ⟨w.heap.size, 4, none⟩ (.bool z)).setCell ⟨w.heap.size, 5, none⟩ (.slice i2 n2 q2)) pb S (a + 1) (g) false := by with_reducible (repeat (first | exact HR8.out | refine RP.away ?_ hrl _))
  have hxf : XI ((((((w8.setCell ⟨w.heap.size, 0, none⟩ (.int .i64 k_)).setCell ⟨w.heap.size, 1, none⟩ (.slice i1 n1 q1)).setCell ⟨w.heap.size, 2, none⟩ (.int .i64 lo)).setCell ⟨w.heap.size, 3, none⟩ (.int .i64 hi)).setCell ⟨w.heap.size, 4, none⟩ (.bool z)).setCell ⟨w.heap.size, 5, none⟩ (.slice i2 n2 q2)) (· < w.heap.size) (.mk 2 [(q, q)] 0 0 false []) f := XI.weak (X := fun b => b < w.heap.size + 1) (by with_reducible (repeat (first | exact HX8.out | refine XI.set ?_ (Nat.lt_succ_self _) _))) (fun b hb => Nat.lt_succ_of_lt hb)
  exact ⟨hbf, _, a + 1, by rw [HEF.out], hxf, hrf, HKP.out, rfl⟩

theorem ratom_any (pat : List Int → Option (RX × List Int)) (w : World) (pb a : Nat) (S : List Int) (g : Int) (ha : a ≤ S.length) (hg200 : g ≤ 200) (hpat : g + 1 ≤ 200 → PatQ pat S pb (g + 1)) (hnone : ¬ g + 1 ≤ 200 → ∀ l, pat l = none) (h63 : ∀ b, pk S b = 63 → pat (S.drop b) = none) (h : RP w pb S a g false) :
    Calls Tryz.prog 61 #[.pointer (some ⟨pb, 0, none⟩)] w (TreeQ (atomP pat (S.drop a)) S pb g w) := by
  by_cases c40 : pk S a = 40
  · exact ratom_40 pat w pb a S g ha hpat hnone h63 c40 hg200 h
  by_cases c46 : pk S a = 46
  · exact ratom_46 pat w pb a S g ha c46 h
  by_cases c91 : pk S a = 91
  · exact ratom_91 pat w pb a S g ha c91 h
  by_cases c92 : pk S a = 92
  · exact ratom_92 pat w pb a S g ha c92 h
  by_cases hq : 0 ≤ pk S a
  · cases hs : synB (pk S a)
    · exact ratom_pl pat w pb a S g ha ⟨c40, c46, c91, c92⟩ hq hs h
    · exact ratom_syn pat w pb a S g ha ⟨c40, c46, c91, c92⟩ hq hs h
  · exact ratom_end pat w pb a S g ha ⟨c40, c46, c91, c92⟩ (by omega) h
end Go.Proofs.YthbbkcdlcpbepaaGreatDoor
