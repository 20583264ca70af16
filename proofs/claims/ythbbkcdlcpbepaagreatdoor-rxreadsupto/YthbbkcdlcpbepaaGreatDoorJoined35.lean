/-
  The reference's term. Conditions: what is read within a group is given.
-/
import Derived.Test.YthbbkcdlcpbepaaGreatDoorJoined34
namespace Go.Proofs.YthbbkcdlcpbepaaGreatDoor
open Go.RowKit
attribute [local go_sem] setCell_drewN alloc_drewN

theorem term_94 {pat : List Int → Option (RX × List Int)} {S : List Int} {a : Nat} (h : pk S a = 94) : termP pat (S.drop a) = some (leaf 6, S.drop (a + 1)) := by
  unfold termP
  rw [sw1 (by omega), decide_eq_true h, if_pos rfl, List.drop_drop]
theorem term_36 {pat : List Int → Option (RX × List Int)} {S : List Int} {a : Nat} (h : pk S a = 36) : termP pat (S.drop a) = some (leaf 7, S.drop (a + 1)) := by
  unfold termP
  rw [sw1 (by omega), sw1 (by omega), decide_eq_false (by omega), decide_eq_true h, if_neg (by simp), if_pos rfl, List.drop_drop]
theorem term_b {pat : List Int → Option (RX × List Int)} {S : List Int} {a : Nat} (h : pk S a = 92) (h2 : pk S (a + 1) = 98) : termP pat (S.drop a) = some (leaf 8, S.drop (a + 2)) := by
  unfold termP
  rw [sw1 (by omega), sw1 (by omega), sw2 (by omega) (by omega), decide_eq_false (by omega), decide_eq_false (by omega), decide_eq_true h, decide_eq_true h2, if_neg (by simp), if_neg (by simp), if_pos (show (true && true) = true from rfl), List.drop_drop]
theorem term_B {pat : List Int → Option (RX × List Int)} {S : List Int} {a : Nat} (h : pk S a = 92) (h2 : pk S (a + 1) = 66) : termP pat (S.drop a) = some (leaf 9, S.drop (a + 2)) := by
  unfold termP
  rw [sw1 (by omega), sw1 (by omega), sw2 (by omega) (by omega), sw2 (by omega) (by omega), decide_eq_false (by omega), decide_eq_false (by omega), decide_eq_true h, decide_eq_false (show ¬ pk S (a + 1) = 98 by omega), decide_eq_true h2, if_neg (by simp), if_neg (by simp), if_neg (by simp), if_pos (show (true && true) = true from rfl), List.drop_drop]
theorem term_el {pat : List Int → Option (RX × List Int)} {S : List Int} {a : Nat} (h1 : pk S a ≠ 94) (h2 : pk S a ≠ 36) (h3 : ¬ (pk S a = 92 ∧ (pk S (a + 1) = 98 ∨ pk S (a + 1) = 66))) : termP pat (S.drop a) = match atomP pat (S.drop a) with
    | none => none
    | some (x, l1) => countedL x l1 := by
  unfold termP
  rw [sw1 (by omega), sw1 (by omega), sw2 (by omega) (by omega), sw2 (by omega) (by omega), decide_eq_false h1, decide_eq_false h2, if_neg (by simp), if_neg (by simp)]
  by_cases h : pk S a = 92
  · have h4 : ¬ pk S (a + 1) = 98 := fun e => h3 ⟨h, Or.inl e⟩
    have h5 : ¬ pk S (a + 1) = 66 := fun e => h3 ⟨h, Or.inr e⟩
    rw [decide_eq_true h, decide_eq_false h4, decide_eq_false h5, if_neg (by simp), if_neg (by simp)]
    cases atomP pat (S.drop a) <;> rfl
  · rw [decide_eq_false h, if_neg (by simp), if_neg (by simp)]
    cases atomP pat (S.drop a) <;> rfl
theorem RP.elem {w : World} {pb a : Nat} {S : List Int} {g : Int} {bad : Bool} (h : RP w pb S a g bad) {i : Nat} (hi : i < S.length) : ∃ qb qo cap, w.cell? ⟨pb, 0, none⟩ = some (.slice (some ⟨qb, qo, none⟩) S.length cap) ∧ w.cell? ⟨qb, qo + i, none⟩ = some (.int .i64 (pk S i)) ∧ S.length ≤ cap := by
  obtain ⟨ao, cap, c0, c1, c2, c3, fr, h1, h2, h3, h4, h5, h6⟩ := h
  rcases h6 with h6 | ⟨qb, qo, rfl, hne, h7⟩
  · subst h6; simp at hi
  · exact ⟨qb, qo, cap, c0, h7 i hi, h1⟩

set_option maxRecDepth 100000 in
set_option maxHeartbeats 6400000 in
theorem rterm_94 (pat : List Int → Option (RX × List Int)) (w : World) (pb a : Nat) (S : List Int) (g : Int) (ha : a ≤ S.length) (hq : pk S a = 94) (h : RP w pb S a g false) :
    Calls Tryz.prog 44 #[.pointer (some ⟨pb, 0, none⟩)] w (TreeQ (termP pat (S.drop a)) S pb g w) := by
  obtain ⟨P, hP⟩ : ∃ P, P = TreeQ (termP pat (S.drop a)) S pb g w := ⟨_, rfl⟩
  rw [← hP]
  have HP := hid_intro hP
  have HPL := hid_intro h.lt
  have HLN := hid_intro h.len
  have HMEM := hid_intro h.mem
  have HGB := hid_intro h.grps
  have hrl := h.lt
  have HA := hid_intro ha
  obtain ⟨W, hW⟩ : ∃ W, w.alloc (.cells #[.int .i64 0, .slice none 0 0, .int .i64 0, .int .i64 0, .bool false, .slice none 0 0] 26) = W := ⟨_, rfl⟩
  have HK0 : Hid (Bk W w.heap.size #[.int .i64 0, .slice none 0 0, .int .i64 0, .int .i64 0, .bool false, .slice none 0 0]) := hid_intro (hW ▸ Bk.new _ _ _)
  have HR0 : Hid (RP W pb S a g false) := hid_intro (h.below (hW ▸ vb_a (Below.refl _ _) _))
  have HB0 : Hid (But (· = pb) w W) := hid_intro (But.ofBelow (hW ▸ vb_a (Below.refl _ _) _))
  have HM0 : Hid (w.heap.size + 1 ≤ W.heap.size) := hid_intro (by rw [← hW]; simp)
  have hnp : ¬ w.heap.size = pb := by have := h.lt; omega
  have hT := fun (c : Int) (hc : c ≠ -1) (a : Nat) (g : Int) (bad : Bool) w' (h : RP w' pb S a g bad) => rtake_any w' pb a S g c bad hc h
  have HE := hid_intro (term_94 (pat := pat) hq)
  clear hP h ha
  go_enter Tryz.func44, Tryz.ntmps44
  go_wp2_with fail
  have ht1 := hT 94 (by omega) (a) (g) false _ HR0.out
  rw [decide_eq_true hq, show tk S (a) 94 = a + 1 by unfold tk; rw [if_pos hq]] at ht1
  refine ht1.mono ?_; rintro r w1 ⟨rfl, hb1, hr1⟩
  have HR1 := hid_intro hr1
  have HB1 := hid_intro (HB0.out.trans hb1)
  have HK1 := hid_intro (HK0.out.but hb1 hnp)
  have HM1 := hid_intro (Nat.le_trans HM0.out hb1.size)
  clear hb1 hr1 ht1
  obtain ⟨c0, c1, c2, c3, c4, c5⟩ := HK1.out.c6
  obtain ⟨z0, z1, z2, z3, z4, z5⟩ := HK1.out.z6
  go_wp2_with fail
  refine bodyPost_ret (v := .agg #[.int .i64 6, .slice none 0 0, .int .i64 0, .int .i64 0, .bool false, .slice none 0 0]) (by simp [results, Tryz.results44, go_sem, c0, c1, c2, c3, c4, c5]) rfl ?_
  rw [HP.out, HE.out]
  have hbf : But (· = pb) w ((((((w1.setCell ⟨w.heap.size, 0, none⟩ (.int .i64 6)).setCell ⟨w.heap.size, 1, none⟩ (.slice none 0 0)).setCell ⟨w.heap.size, 2, none⟩ (.int .i64 0)).setCell ⟨w.heap.size, 3, none⟩ (.int .i64 0)).setCell ⟨w.heap.size, 4, none⟩ (.bool false)).setCell ⟨w.heap.size, 5, none⟩ (.slice none 0 0)) := by with_reducible (repeat (first | exact HB1.out | refine But.set ?_ (Or.inr (Nat.le_refl _)) _))
  have hrf : RP ((((((w1.setCell ⟨w.heap.size, 0, none⟩ (.int .i64 6)).setCell ⟨w.heap.size, 1, none⟩ (.slice none 0 0)).setCell ⟨w.heap.size, 2, none⟩ (.int .i64 0)).setCell ⟨w.heap.size, 3, none⟩ (.int .i64 0)).setCell ⟨w.heap.size, 4, none⟩ (.bool false)).setCell ⟨w.heap.size, 5, none⟩ (.slice none 0 0)) pb S (a + 1) (g) false := by with_reducible (repeat (first | exact HR1.out | refine RP.away ?_ hrl _))
  have hxf := xi_leaf ((((((w1.setCell ⟨w.heap.size, 0, none⟩ (.int .i64 6)).setCell ⟨w.heap.size, 1, none⟩ (.slice none 0 0)).setCell ⟨w.heap.size, 2, none⟩ (.int .i64 0)).setCell ⟨w.heap.size, 3, none⟩ (.int .i64 0)).setCell ⟨w.heap.size, 4, none⟩ (.bool false)).setCell ⟨w.heap.size, 5, none⟩ (.slice none 0 0)) (· < w.heap.size) 6 (I64_of (by omega) (by omega))
  exact ⟨hbf, _, a + 1, rfl, hxf, hrf, pk_lt (by omega), rfl⟩

set_option maxRecDepth 100000 in
set_option maxHeartbeats 6400000 in
theorem rterm_36 (pat : List Int → Option (RX × List Int)) (w : World) (pb a : Nat) (S : List Int) (g : Int) (ha : a ≤ S.length) (hq : pk S a = 36) (h : RP w pb S a g false) :
    Calls Tryz.prog 44 #[.pointer (some ⟨pb, 0, none⟩)] w (TreeQ (termP pat (S.drop a)) S pb g w) := by
  obtain ⟨P, hP⟩ : ∃ P, P = TreeQ (termP pat (S.drop a)) S pb g w := ⟨_, rfl⟩
  rw [← hP]
  have HP := hid_intro hP
  have HPL := hid_intro h.lt
  have HLN := hid_intro h.len
  have HMEM := hid_intro h.mem
  have HGB := hid_intro h.grps
  have hrl := h.lt
  have HA := hid_intro ha
  obtain ⟨W, hW⟩ : ∃ W, w.alloc (.cells #[.int .i64 0, .slice none 0 0, .int .i64 0, .int .i64 0, .bool false, .slice none 0 0] 26) = W := ⟨_, rfl⟩
  have HK0 : Hid (Bk W w.heap.size #[.int .i64 0, .slice none 0 0, .int .i64 0, .int .i64 0, .bool false, .slice none 0 0]) := hid_intro (hW ▸ Bk.new _ _ _)
  have HR0 : Hid (RP W pb S a g false) := hid_intro (h.below (hW ▸ vb_a (Below.refl _ _) _))
  have HB0 : Hid (But (· = pb) w W) := hid_intro (But.ofBelow (hW ▸ vb_a (Below.refl _ _) _))
  have HM0 : Hid (w.heap.size + 1 ≤ W.heap.size) := hid_intro (by rw [← hW]; simp)
  have hnp : ¬ w.heap.size = pb := by have := h.lt; omega
  have hT := fun (c : Int) (hc : c ≠ -1) (a : Nat) (g : Int) (bad : Bool) w' (h : RP w' pb S a g bad) => rtake_any w' pb a S g c bad hc h
  have HE := hid_intro (term_36 (pat := pat) hq)
  have hn94 : pk S a ≠ 94 := by omega
  clear hP h ha
  go_enter Tryz.func44, Tryz.ntmps44
  go_wp2_with fail
  have ht1 := hT 94 (by omega) (a) (g) false _ HR0.out
  rw [decide_eq_false hn94, show tk S (a) 94 = a by unfold tk; rw [if_neg hn94]] at ht1
  refine ht1.mono ?_; rintro r w1 ⟨rfl, hb1, hr1⟩
  have HR1 := hid_intro hr1
  have HB1 := hid_intro (HB0.out.trans hb1)
  have HK1 := hid_intro (HK0.out.but hb1 hnp)
  have HM1 := hid_intro (Nat.le_trans HM0.out hb1.size)
  clear hb1 hr1 ht1
  go_wp2_with fail
  have ht2 := hT 36 (by omega) (a) (g) false _ HR1.out
  rw [decide_eq_true hq, show tk S (a) 36 = a + 1 by unfold tk; rw [if_pos hq]] at ht2
  refine ht2.mono ?_; rintro r w2 ⟨rfl, hb2, hr2⟩
  have HR2 := hid_intro hr2
  have HB2 := hid_intro (HB1.out.trans hb2)
  have HK2 := hid_intro (HK1.out.but hb2 hnp)
  have HM2 := hid_intro (Nat.le_trans HM1.out hb2.size)
  clear hb2 hr2 ht2
  obtain ⟨c0, c1, c2, c3, c4, c5⟩ := HK2.out.c6
  obtain ⟨z0, z1, z2, z3, z4, z5⟩ := HK2.out.z6
  go_wp2_with fail
  refine bodyPost_ret (v := .agg #[.int .i64 7, .slice none 0 0, .int .i64 0, .int .i64 0, .bool false, .slice none 0 0]) (by simp [results, Tryz.results44, go_sem, c0, c1, c2, c3, c4, c5]) rfl ?_
  rw [HP.out, HE.out]
  have hbf : But (· = pb) w ((((((w2.setCell ⟨w.heap.size, 0, none⟩ (.int .i64 7)).setCell ⟨w.heap.size, 1, none⟩ (.slice none 0 0)).setCell ⟨w.heap.size, 2, none⟩ (.int .i64 0)).setCell ⟨w.heap.size, 3, none⟩ (.int .i64 0)).setCell ⟨w.heap.size, 4, none⟩ (.bool false)).setCell ⟨w.heap.size, 5, none⟩ (.slice none 0 0)) := by with_reducible (repeat (first | exact HB2.out | refine But.set ?_ (Or.inr (Nat.le_refl _)) _))
  have hrf : RP ((((((w2.setCell ⟨w.heap.size, 0, none⟩ (.int .i64 7)).setCell ⟨w.heap.size, 1, none⟩ (.slice none 0 0)).setCell ⟨w.heap.size, 2, none⟩ (.int .i64 0)).setCell ⟨w.heap.size, 3, none⟩ (.int .i64 0)).setCell ⟨w.heap.size, 4, none⟩ (.bool false)).setCell ⟨w.heap.size, 5, none⟩ (.slice none 0 0)) pb S (a + 1) (g) false := by with_reducible (repeat (first | exact HR2.out | refine RP.away ?_ hrl _))
  have hxf := xi_leaf ((((((w2.setCell ⟨w.heap.size, 0, none⟩ (.int .i64 7)).setCell ⟨w.heap.size, 1, none⟩ (.slice none 0 0)).setCell ⟨w.heap.size, 2, none⟩ (.int .i64 0)).setCell ⟨w.heap.size, 3, none⟩ (.int .i64 0)).setCell ⟨w.heap.size, 4, none⟩ (.bool false)).setCell ⟨w.heap.size, 5, none⟩ (.slice none 0 0)) (· < w.heap.size) 7 (I64_of (by omega) (by omega))
  exact ⟨hbf, _, a + 1, rfl, hxf, hrf, pk_lt (by omega), rfl⟩

set_option maxRecDepth 100000 in
set_option maxHeartbeats 6400000 in
theorem rterm_98 (pat : List Int → Option (RX × List Int)) (w : World) (pb a : Nat) (S : List Int) (g : Int) (ha : a ≤ S.length) (hq : pk S a = 92) (hq2 : pk S (a + 1) = 98) (h : RP w pb S a g false) :
    Calls Tryz.prog 44 #[.pointer (some ⟨pb, 0, none⟩)] w (TreeQ (termP pat (S.drop a)) S pb g w) := by
  obtain ⟨P, hP⟩ : ∃ P, P = TreeQ (termP pat (S.drop a)) S pb g w := ⟨_, rfl⟩
  rw [← hP]
  have HP := hid_intro hP
  have HPL := hid_intro h.lt
  have HLN := hid_intro h.len
  have HMEM := hid_intro h.mem
  have HGB := hid_intro h.grps
  have hrl := h.lt
  have HA := hid_intro ha
  obtain ⟨W, hW⟩ : ∃ W, w.alloc (.cells #[.int .i64 0, .slice none 0 0, .int .i64 0, .int .i64 0, .bool false, .slice none 0 0] 26) = W := ⟨_, rfl⟩
  have HK0 : Hid (Bk W w.heap.size #[.int .i64 0, .slice none 0 0, .int .i64 0, .int .i64 0, .bool false, .slice none 0 0]) := hid_intro (hW ▸ Bk.new _ _ _)
  have HR0 : Hid (RP W pb S a g false) := hid_intro (h.below (hW ▸ vb_a (Below.refl _ _) _))
  have HB0 : Hid (But (· = pb) w W) := hid_intro (But.ofBelow (hW ▸ vb_a (Below.refl _ _) _))
  have HM0 : Hid (w.heap.size + 1 ≤ W.heap.size) := hid_intro (by rw [← hW]; simp)
  have hnp : ¬ w.heap.size = pb := by have := h.lt; omega
  have hT := fun (c : Int) (hc : c ≠ -1) (a : Nat) (g : Int) (bad : Bool) w' (h : RP w' pb S a g bad) => rtake_any w' pb a S g c bad hc h
  have HE := hid_intro (term_b (pat := pat) hq hq2)
  have hn94 : pk S a ≠ 94 := by omega
  have hn36 : pk S a ≠ 36 := by omega
  have HKL := hid_intro (pk_lt (S := S) (a := a + 1) (by omega))
  have hI : ((a : Int) + 1) < (S.length : Int) := by have := HKL.out; omega
  have HIN := hid_intro (fun w' => rin_any 98 ⟨#[98, 66]⟩ w' (by decide))
  rw [show decide ((98 : Int) ∈ ints ⟨#[98, 66]⟩) = true by decide] at HIN
  clear hP h ha
  go_enter Tryz.func44, Tryz.ntmps44
  go_wp2_with fail
  have ht1 := hT 94 (by omega) (a) (g) false _ HR0.out
  rw [decide_eq_false hn94, show tk S (a) 94 = a by unfold tk; rw [if_neg hn94]] at ht1
  refine ht1.mono ?_; rintro r w1 ⟨rfl, hb1, hr1⟩
  have HR1 := hid_intro hr1
  have HB1 := hid_intro (HB0.out.trans hb1)
  have HK1 := hid_intro (HK0.out.but hb1 hnp)
  have HM1 := hid_intro (Nat.le_trans HM0.out hb1.size)
  clear hb1 hr1 ht1
  go_wp2_with fail
  have ht2 := hT 36 (by omega) (a) (g) false _ HR1.out
  rw [decide_eq_false hn36, show tk S (a) 36 = a by unfold tk; rw [if_neg hn36]] at ht2
  refine ht2.mono ?_; rintro r w2 ⟨rfl, hb2, hr2⟩
  have HR2 := hid_intro hr2
  have HB2 := hid_intro (HB1.out.trans hb2)
  have HK2 := hid_intro (HK1.out.but hb2 hnp)
  have HM2 := hid_intro (Nat.le_trans HM1.out hb2.size)
  clear hb2 hr2 ht2
  have HPK := hid_intro (fun n => rpeek_q (w2.drewN n) pb a S g false (HR2.out.dn n))
  rw [hq] at HPK
  obtain ⟨qb, qo, cap, l0, l1, l2⟩ := HR2.out.elem HKL.out
  rw [hq2] at l1
  have l3 : w2.cell? ⟨qb, qo + ((a : Int) + 1).toNat, none⟩ = some (.int .i64 98) := by rw [show ((a : Int) + 1).toNat = a + 1 by omega]; exact l1
  obtain ⟨e1, f1⟩ := HR2.out.one
  have hw : wrap64 ((a : Int) + 1) = (a : Int) + 1 := w64 (by omega) (by have := HLN.out; omega)
  have hw2 : wrap64 ((a : Int) + 2) = (a : Int) + 2 := w64 (by omega) (by have := HLN.out; omega)
  have hW3 : wrap64 ((a : Int) + 2 - 1) = (a : Int) + 1 := by rw [w64 (by omega) (by have := HLN.out; omega)]; omega
  have HCC := hid_intro hq2
  clear hq hq2 hT
  go_wp2_with fail
  go_quiet (first | (go_at_call 43; refine Calls.quiet_of (HPK.out _)) | (go_at_call 59; refine Calls.quiet_of_same (HIN.out _)))
  have hb3 : But (· = pb) w2 ((w2.setCell ⟨pb, 1, none⟩ (.int .i64 ((a : Int) + 2))).drewN nq) := (But.setr (But.refl _ _) _).drewN nq
  have hr3 : RP ((w2.setCell ⟨pb, 1, none⟩ (.int .i64 ((a : Int) + 2))).drewN nq) pb S (a + 2) g false := (HR2.out.at (a + 2) (by have := HKL.out; omega) _ (by omega)).dn nq
  have HR3 := hid_intro hr3
  have HB3 := hid_intro (HB2.out.trans hb3)
  have HK3 := hid_intro (HK2.out.but hb3 hnp)
  have HM3 := hid_intro (Nat.le_trans HM2.out hb3.size)
  clear hb3 hr3
  go_upto_region 7 with fail
  generalize (w2.setCell ⟨pb, 1, none⟩ (.int .i64 ((a : Int) + 2))).drewN nq = w3 at *
  obtain ⟨qb3, qo3, cap3, k0, k1, k2⟩ := HR3.out.elem HKL.out
  obtain ⟨e3, f3⟩ := HR3.out.one
  clear l0 l1 l2 l3 e1 f1 HPK HIN
  have HQ2 := hid_intro k1
  have k1' : w3.cell? ⟨qb3, qo3 + (a + 1), none⟩ = some (.int .i64 (pk S (a + 1))) := HQ2.out
  rw [HCC.out] at k1'
  clear k1 HQ2
  have e3' : w3.cell? ⟨pb, 1, none⟩ = some (.int .i64 ((a : Int) + 2)) := by rw [e3]; simp
  have k3 : w3.cell? ⟨qb3, qo3 + ((a : Int) + 1).toNat, none⟩ = some (.int .i64 98) := by rw [show ((a : Int) + 1).toNat = a + 1 by omega]; exact k1'
  have hd : ((98 : Int) == 98) = true := by decide
  have hW4 : wrap64 ((a : Int) + 1) = (a : Int) + 1 := w64 (by omega) (by have := HLN.out; omega)
  clear e3
  go_quiet (fail)
  have hb4 := (show Below w3.heap.size w3 (w3.drewN nq) from vb_n (Below.refl _ _) nq)
  have HR4 := hid_intro (HR3.out.below hb4)
  have HB4 := hid_intro (HB3.out.below hb4)
  have HK4 := hid_intro (HK3.out.bel hb4)
  have HM4 := hid_intro (Nat.le_trans HM3.out hb4.size)
  clear hb4
  generalize w3.drewN nq = w4 at *
  clear k0 k1' k2 k3 e3' f3
  obtain ⟨c0, c1, c2, c3, c4, c5⟩ := HK4.out.c6
  obtain ⟨z0, z1, z2, z3, z4, z5⟩ := HK4.out.z6
  go_wp2_with fail
  refine bodyPost_ret (v := .agg #[.int .i64 8, .slice none 0 0, .int .i64 0, .int .i64 0, .bool false, .slice none 0 0]) (by simp [results, Tryz.results44, go_sem, c0, c1, c2, c3, c4, c5]) rfl ?_
  rw [HP.out, HE.out]
  have hbf : But (· = pb) w ((((((w4.setCell ⟨w.heap.size, 0, none⟩ (.int .i64 8)).setCell ⟨w.heap.size, 1, none⟩ (.slice none 0 0)).setCell ⟨w.heap.size, 2, none⟩ (.int .i64 0)).setCell ⟨w.heap.size, 3, none⟩ (.int .i64 0)).setCell ⟨w.heap.size, 4, none⟩ (.bool false)).setCell ⟨w.heap.size, 5, none⟩ (.slice none 0 0)) := by with_reducible (repeat (first | exact HB4.out | refine But.set ?_ (Or.inr (Nat.le_refl _)) _))
  have hrf : RP ((((((w4.setCell ⟨w.heap.size, 0, none⟩ (.int .i64 8)).setCell ⟨w.heap.size, 1, none⟩ (.slice none 0 0)).setCell ⟨w.heap.size, 2, none⟩ (.int .i64 0)).setCell ⟨w.heap.size, 3, none⟩ (.int .i64 0)).setCell ⟨w.heap.size, 4, none⟩ (.bool false)).setCell ⟨w.heap.size, 5, none⟩ (.slice none 0 0)) pb S (a + 2) (g) false := by with_reducible (repeat (first | exact HR4.out | refine RP.away ?_ hrl _))
  have hxf := xi_leaf ((((((w4.setCell ⟨w.heap.size, 0, none⟩ (.int .i64 8)).setCell ⟨w.heap.size, 1, none⟩ (.slice none 0 0)).setCell ⟨w.heap.size, 2, none⟩ (.int .i64 0)).setCell ⟨w.heap.size, 3, none⟩ (.int .i64 0)).setCell ⟨w.heap.size, 4, none⟩ (.bool false)).setCell ⟨w.heap.size, 5, none⟩ (.slice none 0 0)) (· < w.heap.size) 8 (I64_of (by omega) (by omega))
  exact ⟨hbf, _, a + 2, rfl, hxf, hrf, HKL.out, rfl⟩

set_option maxRecDepth 100000 in
set_option maxHeartbeats 6400000 in
theorem rterm_66 (pat : List Int → Option (RX × List Int)) (w : World) (pb a : Nat) (S : List Int) (g : Int) (ha : a ≤ S.length) (hq : pk S a = 92) (hq2 : pk S (a + 1) = 66) (h : RP w pb S a g false) :
    Calls Tryz.prog 44 #[.pointer (some ⟨pb, 0, none⟩)] w (TreeQ (termP pat (S.drop a)) S pb g w) := by
  obtain ⟨P, hP⟩ : ∃ P, P = TreeQ (termP pat (S.drop a)) S pb g w := ⟨_, rfl⟩
  rw [← hP]
  have HP := hid_intro hP
  have HPL := hid_intro h.lt
  have HLN := hid_intro h.len
  have HMEM := hid_intro h.mem
  have HGB := hid_intro h.grps
  have hrl := h.lt
  have HA := hid_intro ha
  obtain ⟨W, hW⟩ : ∃ W, w.alloc (.cells #[.int .i64 0, .slice none 0 0, .int .i64 0, .int .i64 0, .bool false, .slice none 0 0] 26) = W := ⟨_, rfl⟩
  have HK0 : Hid (Bk W w.heap.size #[.int .i64 0, .slice none 0 0, .int .i64 0, .int .i64 0, .bool false, .slice none 0 0]) := hid_intro (hW ▸ Bk.new _ _ _)
  have HR0 : Hid (RP W pb S a g false) := hid_intro (h.below (hW ▸ vb_a (Below.refl _ _) _))
  have HB0 : Hid (But (· = pb) w W) := hid_intro (But.ofBelow (hW ▸ vb_a (Below.refl _ _) _))
  have HM0 : Hid (w.heap.size + 1 ≤ W.heap.size) := hid_intro (by rw [← hW]; simp)
  have hnp : ¬ w.heap.size = pb := by have := h.lt; omega
  have hT := fun (c : Int) (hc : c ≠ -1) (a : Nat) (g : Int) (bad : Bool) w' (h : RP w' pb S a g bad) => rtake_any w' pb a S g c bad hc h
  have HE := hid_intro (term_B (pat := pat) hq hq2)
  have hn94 : pk S a ≠ 94 := by omega
  have hn36 : pk S a ≠ 36 := by omega
  have HKL := hid_intro (pk_lt (S := S) (a := a + 1) (by omega))
  have hI : ((a : Int) + 1) < (S.length : Int) := by have := HKL.out; omega
  have HIN := hid_intro (fun w' => rin_any 66 ⟨#[98, 66]⟩ w' (by decide))
  rw [show decide ((66 : Int) ∈ ints ⟨#[98, 66]⟩) = true by decide] at HIN
  clear hP h ha
  go_enter Tryz.func44, Tryz.ntmps44
  go_wp2_with fail
  have ht1 := hT 94 (by omega) (a) (g) false _ HR0.out
  rw [decide_eq_false hn94, show tk S (a) 94 = a by unfold tk; rw [if_neg hn94]] at ht1
  refine ht1.mono ?_; rintro r w1 ⟨rfl, hb1, hr1⟩
  have HR1 := hid_intro hr1
  have HB1 := hid_intro (HB0.out.trans hb1)
  have HK1 := hid_intro (HK0.out.but hb1 hnp)
  have HM1 := hid_intro (Nat.le_trans HM0.out hb1.size)
  clear hb1 hr1 ht1
  go_wp2_with fail
  have ht2 := hT 36 (by omega) (a) (g) false _ HR1.out
  rw [decide_eq_false hn36, show tk S (a) 36 = a by unfold tk; rw [if_neg hn36]] at ht2
  refine ht2.mono ?_; rintro r w2 ⟨rfl, hb2, hr2⟩
  have HR2 := hid_intro hr2
  have HB2 := hid_intro (HB1.out.trans hb2)
  have HK2 := hid_intro (HK1.out.but hb2 hnp)
  have HM2 := hid_intro (Nat.le_trans HM1.out hb2.size)
  clear hb2 hr2 ht2
  have HPK := hid_intro (fun n => rpeek_q (w2.drewN n) pb a S g false (HR2.out.dn n))
  rw [hq] at HPK
  obtain ⟨qb, qo, cap, l0, l1, l2⟩ := HR2.out.elem HKL.out
  rw [hq2] at l1
  have l3 : w2.cell? ⟨qb, qo + ((a : Int) + 1).toNat, none⟩ = some (.int .i64 66) := by rw [show ((a : Int) + 1).toNat = a + 1 by omega]; exact l1
  obtain ⟨e1, f1⟩ := HR2.out.one
  have hw : wrap64 ((a : Int) + 1) = (a : Int) + 1 := w64 (by omega) (by have := HLN.out; omega)
  have hw2 : wrap64 ((a : Int) + 2) = (a : Int) + 2 := w64 (by omega) (by have := HLN.out; omega)
  have hW3 : wrap64 ((a : Int) + 2 - 1) = (a : Int) + 1 := by rw [w64 (by omega) (by have := HLN.out; omega)]; omega
  have HCC := hid_intro hq2
  clear hq hq2 hT
  go_wp2_with fail
  go_quiet (first | (go_at_call 43; refine Calls.quiet_of (HPK.out _)) | (go_at_call 59; refine Calls.quiet_of_same (HIN.out _)))
  have hb3 : But (· = pb) w2 ((w2.setCell ⟨pb, 1, none⟩ (.int .i64 ((a : Int) + 2))).drewN nq) := (But.setr (But.refl _ _) _).drewN nq
  have hr3 : RP ((w2.setCell ⟨pb, 1, none⟩ (.int .i64 ((a : Int) + 2))).drewN nq) pb S (a + 2) g false := (HR2.out.at (a + 2) (by have := HKL.out; omega) _ (by omega)).dn nq
  have HR3 := hid_intro hr3
  have HB3 := hid_intro (HB2.out.trans hb3)
  have HK3 := hid_intro (HK2.out.but hb3 hnp)
  have HM3 := hid_intro (Nat.le_trans HM2.out hb3.size)
  clear hb3 hr3
  go_upto_region 7 with fail
  generalize (w2.setCell ⟨pb, 1, none⟩ (.int .i64 ((a : Int) + 2))).drewN nq = w3 at *
  obtain ⟨qb3, qo3, cap3, k0, k1, k2⟩ := HR3.out.elem HKL.out
  obtain ⟨e3, f3⟩ := HR3.out.one
  clear l0 l1 l2 l3 e1 f1 HPK HIN
  have HQ2 := hid_intro k1
  have k1' : w3.cell? ⟨qb3, qo3 + (a + 1), none⟩ = some (.int .i64 (pk S (a + 1))) := HQ2.out
  rw [HCC.out] at k1'
  clear k1 HQ2
  have e3' : w3.cell? ⟨pb, 1, none⟩ = some (.int .i64 ((a : Int) + 2)) := by rw [e3]; simp
  have k3 : w3.cell? ⟨qb3, qo3 + ((a : Int) + 1).toNat, none⟩ = some (.int .i64 66) := by rw [show ((a : Int) + 1).toNat = a + 1 by omega]; exact k1'
  have hd : ((66 : Int) == 98) = false := by decide
  have hW4 : wrap64 ((a : Int) + 1) = (a : Int) + 1 := w64 (by omega) (by have := HLN.out; omega)
  clear e3
  go_quiet (fail)
  have hb4 := (show Below w3.heap.size w3 (w3.drewN nq) from vb_n (Below.refl _ _) nq)
  have HR4 := hid_intro (HR3.out.below hb4)
  have HB4 := hid_intro (HB3.out.below hb4)
  have HK4 := hid_intro (HK3.out.bel hb4)
  have HM4 := hid_intro (Nat.le_trans HM3.out hb4.size)
  clear hb4
  generalize w3.drewN nq = w4 at *
  clear k0 k1' k2 k3 e3' f3
  obtain ⟨c0, c1, c2, c3, c4, c5⟩ := HK4.out.c6
  obtain ⟨z0, z1, z2, z3, z4, z5⟩ := HK4.out.z6
  go_wp2_with fail
  refine bodyPost_ret (v := .agg #[.int .i64 9, .slice none 0 0, .int .i64 0, .int .i64 0, .bool false, .slice none 0 0]) (by simp [results, Tryz.results44, go_sem, c0, c1, c2, c3, c4, c5]) rfl ?_
  rw [HP.out, HE.out]
  have hbf : But (· = pb) w ((((((w4.setCell ⟨w.heap.size, 0, none⟩ (.int .i64 9)).setCell ⟨w.heap.size, 1, none⟩ (.slice none 0 0)).setCell ⟨w.heap.size, 2, none⟩ (.int .i64 0)).setCell ⟨w.heap.size, 3, none⟩ (.int .i64 0)).setCell ⟨w.heap.size, 4, none⟩ (.bool false)).setCell ⟨w.heap.size, 5, none⟩ (.slice none 0 0)) := by with_reducible (repeat (first | exact HB4.out | refine But.set ?_ (Or.inr (Nat.le_refl _)) _))
  have hrf : RP ((((((w4.setCell ⟨w.heap.size, 0, none⟩ (.int .i64 9)).setCell ⟨w.heap.size, 1, none⟩ (.slice none 0 0)).setCell ⟨w.heap.size, 2, none⟩ (.int .i64 0)).setCell ⟨w.heap.size, 3, none⟩ (.int .i64 0)).setCell ⟨w.heap.size, 4, none⟩ (.bool false)).setCell ⟨w.heap.size, 5, none⟩ (.slice none 0 0)) pb S (a + 2) (g) false := by with_reducible (repeat (first | exact HR4.out | refine RP.away ?_ hrl _))
  have hxf := xi_leaf ((((((w4.setCell ⟨w.heap.size, 0, none⟩ (.int .i64 9)).setCell ⟨w.heap.size, 1, none⟩ (.slice none 0 0)).setCell ⟨w.heap.size, 2, none⟩ (.int .i64 0)).setCell ⟨w.heap.size, 3, none⟩ (.int .i64 0)).setCell ⟨w.heap.size, 4, none⟩ (.bool false)).setCell ⟨w.heap.size, 5, none⟩ (.slice none 0 0)) (· < w.heap.size) 9 (I64_of (by omega) (by omega))
  exact ⟨hbf, _, a + 2, rfl, hxf, hrf, HKL.out, rfl⟩

set_option maxRecDepth 100000 in
set_option maxHeartbeats 6400000 in
theorem rterm_i (pat : List Int → Option (RX × List Int)) (w : World) (pb a : Nat) (S : List Int) (g : Int) (ha : a ≤ S.length) (hg200 : g ≤ 200) (hpat : g + 1 ≤ 200 → PatQ pat S pb (g + 1)) (hnone : ¬ g + 1 ≤ 200 → ∀ l, pat l = none) (h63 : ∀ b, pk S b = 63 → pat (S.drop b) = none) (hn : pk S a ≠ 94 ∧ pk S a ≠ 36 ∧ ¬ (pk S a = 92 ∧ (pk S (a + 1) = 98 ∨ pk S (a + 1) = 66))) (hq : pk S a ≠ 92) (h : RP w pb S a g false) :
    Calls Tryz.prog 44 #[.pointer (some ⟨pb, 0, none⟩)] w (TreeQ (termP pat (S.drop a)) S pb g w) := by
  obtain ⟨P, hP⟩ : ∃ P, P = TreeQ (termP pat (S.drop a)) S pb g w := ⟨_, rfl⟩
  rw [← hP]
  have HP := hid_intro hP
  have HPL := hid_intro h.lt
  have HLN := hid_intro h.len
  have HMEM := hid_intro h.mem
  have HGB := hid_intro h.grps
  have hrl := h.lt
  have HA := hid_intro ha
  obtain ⟨W, hW⟩ : ∃ W, w.alloc (.cells #[.int .i64 0, .slice none 0 0, .int .i64 0, .int .i64 0, .bool false, .slice none 0 0] 26) = W := ⟨_, rfl⟩
  have HK0 : Hid (Bk W w.heap.size #[.int .i64 0, .slice none 0 0, .int .i64 0, .int .i64 0, .bool false, .slice none 0 0]) := hid_intro (hW ▸ Bk.new _ _ _)
  have HR0 : Hid (RP W pb S a g false) := hid_intro (h.below (hW ▸ vb_a (Below.refl _ _) _))
  have HB0 : Hid (But (· = pb) w W) := hid_intro (But.ofBelow (hW ▸ vb_a (Below.refl _ _) _))
  have HM0 : Hid (w.heap.size + 1 ≤ W.heap.size) := hid_intro (by rw [← hW]; simp)
  have hnp : ¬ w.heap.size = pb := by have := h.lt; omega
  have hT := fun (c : Int) (hc : c ≠ -1) (a : Nat) (g : Int) (bad : Bool) w' (h : RP w' pb S a g bad) => rtake_any w' pb a S g c bad hc h
  have HE := hid_intro (term_el (pat := pat) hn.1 hn.2.1 hn.2.2)
  have hn94 : pk S a ≠ 94 := hn.1
  have hn36 : pk S a ≠ 36 := hn.2.1
  have HPAT := hid_intro hpat
  have HNONE := hid_intro hnone
  have H63 := hid_intro h63
  have HG2 := hid_intro hg200
  have HATM := hid_intro (fun w' (h : RP w' pb S a g false) => ratom_any pat w' pb a S g ha hg200 hpat hnone h63 h)
  clear hpat hnone h63 hg200
  clear hP h ha
  go_enter Tryz.func44, Tryz.ntmps44
  go_wp2_with fail
  have ht1 := hT 94 (by omega) (a) (g) false _ HR0.out
  rw [decide_eq_false hn94, show tk S (a) 94 = a by unfold tk; rw [if_neg hn94]] at ht1
  refine ht1.mono ?_; rintro r w1 ⟨rfl, hb1, hr1⟩
  have HR1 := hid_intro hr1
  have HB1 := hid_intro (HB0.out.trans hb1)
  have HK1 := hid_intro (HK0.out.but hb1 hnp)
  have HM1 := hid_intro (Nat.le_trans HM0.out hb1.size)
  clear hb1 hr1 ht1
  go_wp2_with fail
  have ht2 := hT 36 (by omega) (a) (g) false _ HR1.out
  rw [decide_eq_false hn36, show tk S (a) 36 = a by unfold tk; rw [if_neg hn36]] at ht2
  refine ht2.mono ?_; rintro r w2 ⟨rfl, hb2, hr2⟩
  have HR2 := hid_intro hr2
  have HB2 := hid_intro (HB1.out.trans hb2)
  have HK2 := hid_intro (HK1.out.but hb2 hnp)
  have HM2 := hid_intro (Nat.le_trans HM1.out hb2.size)
  clear hb2 hr2 ht2
  have HPK := hid_intro (fun n => rpeek_q (w2.drewN n) pb a S g false (HR2.out.dn n))
  have hq3 : (pk S a == 92) = false := by simpa using hq
  generalize pk S a = q at *
  clear hn hq hn94 hn36 hT
  go_wp2_with fail
  go_quiet ((go_at_call 43; refine Calls.quiet_of (HPK.out _)))
  clear HPK hq3
  have hb3 := (show Below w2.heap.size w2 (w2.drewN nq) from vb_n (Below.refl _ _) nq)
  have HR3 := hid_intro (HR2.out.below hb3)
  have HB3 := hid_intro (HB2.out.below hb3)
  have HK3 := hid_intro (HK2.out.bel hb3)
  have HM3 := hid_intro (Nat.le_trans HM2.out hb3.size)
  clear hb3
  go_wp2_with fail
  generalize w2.drewN nq = w3 at *
  obtain ⟨U, hU⟩ : ∃ U, atomP pat (S.drop a) = U := ⟨_, rfl⟩
  have hat := HATM.out w3 HR3.out
  rw [hU] at hat HE
  refine hat.mono ?_; rintro r w4 ⟨hb4, hcs⟩
  cases U with
  | none =>
    obtain ⟨t, f, a4, g4, rfl, hx4, hr4, hg4⟩ := hcs
    have HR4 := hid_intro hr4
    have HB4 := hid_intro (HB3.out.trans hb4)
    have HK4 := hid_intro (HK3.out.but hb4 hnp)
    have HM4 := hid_intro (Nat.le_trans HM3.out hb4.size)
    have HX4 : Hid (XI w4 (fun j => j < w.heap.size + 1) t f) := hid_intro (hx4.weak (fun j hj => by have h1 : j < w.heap.size + 1 := hj; have := HM3.out; show j < _; omega))
    have HG4 := hid_intro hg4
    have hct := rcount_any w4 pb a4 S g4 true (fun j => j < w.heap.size + 1) (fun j hj => by have h1 : j < w.heap.size + 1 := hj; have := HM4.out; omega) (by show pb < _; have := HPL.out; omega) t f HX4.out (Or.inr rfl) hr4
    rw [if_pos rfl] at hct
    clear hb4 hr4 hx4 hg4 hat hU
    go_wp2_with fail
    refine hct.mono ?_; rintro r w5 ⟨hb5, t5, f5, a5, rfl, hx5, hr5⟩
    have HR5 := hid_intro hr5
    have HB5 := hid_intro (HB4.out.trans hb5)
    have HK5 := hid_intro (HK4.out.but hb5 hnp)
    have HM5 := hid_intro (Nat.le_trans HM4.out hb5.size)
    have HX5 := hid_intro hx5
    clear hb5 hr5 hx5 hct
    obtain ⟨k_, i1, n1, q1, lo, hi, z, i2, n2, q2, ef⟩ := HX5.out.lit
    have HEF := hid_intro ef
    rw [ef]
    clear ef
    obtain ⟨c0, c1, c2, c3, c4, c5⟩ := HK5.out.c6
    obtain ⟨z0, z1, z2, z3, z4, z5⟩ := HK5.out.z6
    go_wp2_with fail
    refine bodyPost_ret (v := .agg #[.int .i64 k_, .slice i1 n1 q1, .int .i64 lo, .int .i64 hi, .bool z, .slice i2 n2 q2]) (by simp [results, Tryz.results44, go_sem, c0, c1, c2, c3, c4, c5]) rfl ?_
    rw [HP.out, HE.out]
    have hbf : But (· = pb) w ((((((w5.setCell ⟨w.heap.size, 0, none⟩ (.int .i64 k_)).setCell ⟨w.heap.size, 1, none⟩ (.slice i1 n1 q1)).setCell ⟨w.heap.size, 2, none⟩ (.int .i64 lo)).setCell ⟨w.heap.size, 3, none⟩ (.int .i64 hi)).setCell ⟨w.heap.size, 4, none⟩ (.bool z)).setCell ⟨w.heap.size, 5, none⟩ (.slice i2 n2 q2)) := by with_reducible (repeat (first | exact HB5.out | refine But.set ?_ (Or.inr (Nat.le_refl _)) _))
    have hrf : RP ((((((w5.setCell ⟨w.heap.size, 0, none⟩ (.int .i64 k_)).setCell ⟨w.heap.size, 1, none⟩ (.slice i1 n1 q1)).setCell ⟨w.heap.size, 2, none⟩ (.int .i64 lo)).setCell ⟨w.heap.size, 3, none⟩ (.int .i64 hi)).setCell ⟨w.heap.size, 4, none⟩ (.bool z)).setCell ⟨w.heap.size, 5, none⟩ (.slice i2 n2 q2)) pb S (a5) (g4) true := by with_reducible (repeat (first | exact HR5.out | refine RP.away ?_ hrl _))
    have hxf : XI ((((((w5.setCell ⟨w.heap.size, 0, none⟩ (.int .i64 k_)).setCell ⟨w.heap.size, 1, none⟩ (.slice i1 n1 q1)).setCell ⟨w.heap.size, 2, none⟩ (.int .i64 lo)).setCell ⟨w.heap.size, 3, none⟩ (.int .i64 hi)).setCell ⟨w.heap.size, 4, none⟩ (.bool z)).setCell ⟨w.heap.size, 5, none⟩ (.slice i2 n2 q2)) (· < w.heap.size) t5 f5 := XI.weak (X := fun b => b < w.heap.size + 1) (by with_reducible (repeat (first | exact HX5.out | refine XI.set ?_ (Nat.lt_succ_self _) _))) (fun b hb => Nat.lt_succ_of_lt hb)
    exact ⟨hbf, _, _, _, g4, by rw [HEF.out], hxf, hrf, HG4.out⟩
  | some y =>
    obtain ⟨t, l1⟩ := y
    obtain ⟨f, a4, rfl, hx4, hr4, hle4, hl4⟩ := hcs
    have HR4 := hid_intro hr4
    have HB4 := hid_intro (HB3.out.trans hb4)
    have HK4 := hid_intro (HK3.out.but hb4 hnp)
    have HM4 := hid_intro (Nat.le_trans HM3.out hb4.size)
    have HX4 : Hid (XI w4 (fun j => j < w.heap.size + 1) t f) := hid_intro (hx4.weak (fun j hj => by have h1 : j < w.heap.size + 1 := hj; have := HM3.out; show j < _; omega))
    have hct := rcount_any w4 pb a4 S g false (fun j => j < w.heap.size + 1) (fun j hj => by have h1 : j < w.heap.size + 1 := hj; have := HM4.out; omega) (by show pb < _; have := HPL.out; omega) t f HX4.out (Or.inl hle4) hr4
    rw [if_neg (by simp)] at hct
    simp only [hl4] at HE
    obtain ⟨V, hV⟩ : ∃ V, countedL t (S.drop a4) = V := ⟨_, rfl⟩
    rw [hV] at hct HE
    clear hb4 hr4 hx4 hat hU hV hle4 hl4
    go_wp2_with fail
    refine hct.mono ?_; rintro r w5 ⟨hb5, hcs⟩
    cases V with
    | none =>
      obtain ⟨t5, f5, a5, rfl, hx5, hr5⟩ := hcs
      have HR5 := hid_intro hr5
      have HB5 := hid_intro (HB4.out.trans hb5)
      have HK5 := hid_intro (HK4.out.but hb5 hnp)
      have HM5 := hid_intro (Nat.le_trans HM4.out hb5.size)
      have HX5 := hid_intro hx5
      clear hb5 hr5 hx5 hct
      obtain ⟨k_, i1, n1, q1, lo, hi, z, i2, n2, q2, ef⟩ := HX5.out.lit
      have HEF := hid_intro ef
      rw [ef]
      clear ef
      obtain ⟨c0, c1, c2, c3, c4, c5⟩ := HK5.out.c6
      obtain ⟨z0, z1, z2, z3, z4, z5⟩ := HK5.out.z6
      go_wp2_with fail
      refine bodyPost_ret (v := .agg #[.int .i64 k_, .slice i1 n1 q1, .int .i64 lo, .int .i64 hi, .bool z, .slice i2 n2 q2]) (by simp [results, Tryz.results44, go_sem, c0, c1, c2, c3, c4, c5]) rfl ?_
      rw [HP.out, HE.out]
      have hbf : But (· = pb) w ((((((w5.setCell ⟨w.heap.size, 0, none⟩ (.int .i64 k_)).setCell ⟨w.heap.size, 1, none⟩ (.slice i1 n1 q1)).setCell ⟨w.heap.size, 2, none⟩ (.int .i64 lo)).setCell ⟨w.heap.size, 3, none⟩ (.int .i64 hi)).setCell ⟨w.heap.size, 4, none⟩ (.bool z)).setCell ⟨w.heap.size, 5, none⟩ (.slice i2 n2 q2)) := by with_reducible (repeat (first | exact HB5.out | refine But.set ?_ (Or.inr (Nat.le_refl _)) _))
      have hrf : RP ((((((w5.setCell ⟨w.heap.size, 0, none⟩ (.int .i64 k_)).setCell ⟨w.heap.size, 1, none⟩ (.slice i1 n1 q1)).setCell ⟨w.heap.size, 2, none⟩ (.int .i64 lo)).setCell ⟨w.heap.size, 3, none⟩ (.int .i64 hi)).setCell ⟨w.heap.size, 4, none⟩ (.bool z)).setCell ⟨w.heap.size, 5, none⟩ (.slice i2 n2 q2)) pb S (a5) (g) true := by with_reducible (repeat (first | exact HR5.out | refine RP.away ?_ hrl _))
      have hxf : XI ((((((w5.setCell ⟨w.heap.size, 0, none⟩ (.int .i64 k_)).setCell ⟨w.heap.size, 1, none⟩ (.slice i1 n1 q1)).setCell ⟨w.heap.size, 2, none⟩ (.int .i64 lo)).setCell ⟨w.heap.size, 3, none⟩ (.int .i64 hi)).setCell ⟨w.heap.size, 4, none⟩ (.bool z)).setCell ⟨w.heap.size, 5, none⟩ (.slice i2 n2 q2)) (· < w.heap.size) t5 f5 := XI.weak (X := fun b => b < w.heap.size + 1) (by with_reducible (repeat (first | exact HX5.out | refine XI.set ?_ (Nat.lt_succ_self _) _))) (fun b hb => Nat.lt_succ_of_lt hb)
      exact ⟨hbf, _, _, _, g, by rw [HEF.out], hxf, hrf, Int.le_refl _⟩
    | some y =>
      obtain ⟨t5, l5⟩ := y
      obtain ⟨f5, a5, rfl, hx5, hr5, hle5, hl5⟩ := hcs
      have HR5 := hid_intro hr5
      have HB5 := hid_intro (HB4.out.trans hb5)
      have HK5 := hid_intro (HK4.out.but hb5 hnp)
      have HM5 := hid_intro (Nat.le_trans HM4.out hb5.size)
      have HX5 := hid_intro hx5
      have HL5 := hid_intro (And.intro hle5 hl5)
      clear hb5 hr5 hx5 hct hle5 hl5
      obtain ⟨k_, i1, n1, q1, lo, hi, z, i2, n2, q2, ef⟩ := HX5.out.lit
      have HEF := hid_intro ef
      rw [ef]
      clear ef
      obtain ⟨c0, c1, c2, c3, c4, c5⟩ := HK5.out.c6
      obtain ⟨z0, z1, z2, z3, z4, z5⟩ := HK5.out.z6
      go_wp2_with fail
      refine bodyPost_ret (v := .agg #[.int .i64 k_, .slice i1 n1 q1, .int .i64 lo, .int .i64 hi, .bool z, .slice i2 n2 q2]) (by simp [results, Tryz.results44, go_sem, c0, c1, c2, c3, c4, c5]) rfl ?_
      rw [HP.out, HE.out]
      have hbf : But (· = pb) w ((((((w5.setCell ⟨w.heap.size, 0, none⟩ (.int .i64 k_)).setCell ⟨w.heap.size, 1, none⟩ (.slice i1 n1 q1)).setCell ⟨w.heap.size, 2, none⟩ (.int .i64 lo)).setCell ⟨w.heap.size, 3, none⟩ (.int .i64 hi)).setCell ⟨w.heap.size, 4, none⟩ (.bool z)).setCell ⟨w.heap.size, 5, none⟩ (.slice i2 n2 q2)) := by with_reducible (repeat (first | exact HB5.out | refine But.set ?_ (Or.inr (Nat.le_refl _)) _))
      have hrf : RP ((((((w5.setCell ⟨w.heap.size, 0, none⟩ (.int .i64 k_)).setCell ⟨w.heap.size, 1, none⟩ (.slice i1 n1 q1)).setCell ⟨w.heap.size, 2, none⟩ (.int .i64 lo)).setCell ⟨w.heap.size, 3, none⟩ (.int .i64 hi)).setCell ⟨w.heap.size, 4, none⟩ (.bool z)).setCell ⟨w.heap.size, 5, none⟩ (.slice i2 n2 q2)) pb S (a5) (g) false := by with_reducible (repeat (first | exact HR5.out | refine RP.away ?_ hrl _))
      have hxf : XI ((((((w5.setCell ⟨w.heap.size, 0, none⟩ (.int .i64 k_)).setCell ⟨w.heap.size, 1, none⟩ (.slice i1 n1 q1)).setCell ⟨w.heap.size, 2, none⟩ (.int .i64 lo)).setCell ⟨w.heap.size, 3, none⟩ (.int .i64 hi)).setCell ⟨w.heap.size, 4, none⟩ (.bool z)).setCell ⟨w.heap.size, 5, none⟩ (.slice i2 n2 q2)) (· < w.heap.size) t5 f5 := XI.weak (X := fun b => b < w.heap.size + 1) (by with_reducible (repeat (first | exact HX5.out | refine XI.set ?_ (Nat.lt_succ_self _) _))) (fun b hb => Nat.lt_succ_of_lt hb)
      exact ⟨hbf, _, a5, by rw [HEF.out], hxf, hrf, HL5.out.1, HL5.out.2⟩

set_option maxRecDepth 100000 in
set_option maxHeartbeats 6400000 in
theorem rterm_ii (pat : List Int → Option (RX × List Int)) (w : World) (pb a : Nat) (S : List Int) (g : Int) (ha : a ≤ S.length) (hg200 : g ≤ 200) (hpat : g + 1 ≤ 200 → PatQ pat S pb (g + 1)) (hnone : ¬ g + 1 ≤ 200 → ∀ l, pat l = none) (h63 : ∀ b, pk S b = 63 → pat (S.drop b) = none) (hn : pk S a ≠ 94 ∧ pk S a ≠ 36 ∧ ¬ (pk S a = 92 ∧ (pk S (a + 1) = 98 ∨ pk S (a + 1) = 66))) (hq : pk S a = 92) (hkl : ¬ a + 1 < S.length) (h : RP w pb S a g false) :
    Calls Tryz.prog 44 #[.pointer (some ⟨pb, 0, none⟩)] w (TreeQ (termP pat (S.drop a)) S pb g w) := by
  obtain ⟨P, hP⟩ : ∃ P, P = TreeQ (termP pat (S.drop a)) S pb g w := ⟨_, rfl⟩
  rw [← hP]
  have HP := hid_intro hP
  have HPL := hid_intro h.lt
  have HLN := hid_intro h.len
  have HMEM := hid_intro h.mem
  have HGB := hid_intro h.grps
  have hrl := h.lt
  have HA := hid_intro ha
  obtain ⟨W, hW⟩ : ∃ W, w.alloc (.cells #[.int .i64 0, .slice none 0 0, .int .i64 0, .int .i64 0, .bool false, .slice none 0 0] 26) = W := ⟨_, rfl⟩
  have HK0 : Hid (Bk W w.heap.size #[.int .i64 0, .slice none 0 0, .int .i64 0, .int .i64 0, .bool false, .slice none 0 0]) := hid_intro (hW ▸ Bk.new _ _ _)
  have HR0 : Hid (RP W pb S a g false) := hid_intro (h.below (hW ▸ vb_a (Below.refl _ _) _))
  have HB0 : Hid (But (· = pb) w W) := hid_intro (But.ofBelow (hW ▸ vb_a (Below.refl _ _) _))
  have HM0 : Hid (w.heap.size + 1 ≤ W.heap.size) := hid_intro (by rw [← hW]; simp)
  have hnp : ¬ w.heap.size = pb := by have := h.lt; omega
  have hT := fun (c : Int) (hc : c ≠ -1) (a : Nat) (g : Int) (bad : Bool) w' (h : RP w' pb S a g bad) => rtake_any w' pb a S g c bad hc h
  have HE := hid_intro (term_el (pat := pat) hn.1 hn.2.1 hn.2.2)
  have hn94 : pk S a ≠ 94 := hn.1
  have hn36 : pk S a ≠ 36 := hn.2.1
  have HPAT := hid_intro hpat
  have HNONE := hid_intro hnone
  have H63 := hid_intro h63
  have HG2 := hid_intro hg200
  have HATM := hid_intro (fun w' (h : RP w' pb S a g false) => ratom_any pat w' pb a S g ha hg200 hpat hnone h63 h)
  clear hpat hnone h63 hg200
  clear hP h ha
  go_enter Tryz.func44, Tryz.ntmps44
  go_wp2_with fail
  have ht1 := hT 94 (by omega) (a) (g) false _ HR0.out
  rw [decide_eq_false hn94, show tk S (a) 94 = a by unfold tk; rw [if_neg hn94]] at ht1
  refine ht1.mono ?_; rintro r w1 ⟨rfl, hb1, hr1⟩
  have HR1 := hid_intro hr1
  have HB1 := hid_intro (HB0.out.trans hb1)
  have HK1 := hid_intro (HK0.out.but hb1 hnp)
  have HM1 := hid_intro (Nat.le_trans HM0.out hb1.size)
  clear hb1 hr1 ht1
  go_wp2_with fail
  have ht2 := hT 36 (by omega) (a) (g) false _ HR1.out
  rw [decide_eq_false hn36, show tk S (a) 36 = a by unfold tk; rw [if_neg hn36]] at ht2
  refine ht2.mono ?_; rintro r w2 ⟨rfl, hb2, hr2⟩
  have HR2 := hid_intro hr2
  have HB2 := hid_intro (HB1.out.trans hb2)
  have HK2 := hid_intro (HK1.out.but hb2 hnp)
  have HM2 := hid_intro (Nat.le_trans HM1.out hb2.size)
  clear hb2 hr2 ht2
  have HPK := hid_intro (fun n => rpeek_q (w2.drewN n) pb a S g false (HR2.out.dn n))
  rw [hq] at HPK
  obtain ⟨ao, cap, c0, c1, _, _, _, _, _, _, _, _, _⟩ := HR2.out
  have hw : wrap64 ((a : Int) + 1) = (a : Int) + 1 := w64 (by omega) (by have := HLN.out; omega)
  have hd : decide ((a : Int) + 1 < (S.length : Int)) = false := decide_eq_false (by omega)
  clear hn hq hn94 hn36 hT hkl
  go_wp2_with fail
  go_quiet ((go_at_call 43; refine Calls.quiet_of (HPK.out _)))
  clear HPK hd hw c0 c1
  have hb3 := (show Below w2.heap.size w2 (w2.drewN nq) from vb_n (Below.refl _ _) nq)
  have HR3 := hid_intro (HR2.out.below hb3)
  have HB3 := hid_intro (HB2.out.below hb3)
  have HK3 := hid_intro (HK2.out.bel hb3)
  have HM3 := hid_intro (Nat.le_trans HM2.out hb3.size)
  clear hb3
  go_wp2_with fail
  generalize w2.drewN nq = w3 at *
  obtain ⟨U, hU⟩ : ∃ U, atomP pat (S.drop a) = U := ⟨_, rfl⟩
  have hat := HATM.out w3 HR3.out
  rw [hU] at hat HE
  refine hat.mono ?_; rintro r w4 ⟨hb4, hcs⟩
  cases U with
  | none =>
    obtain ⟨t, f, a4, g4, rfl, hx4, hr4, hg4⟩ := hcs
    have HR4 := hid_intro hr4
    have HB4 := hid_intro (HB3.out.trans hb4)
    have HK4 := hid_intro (HK3.out.but hb4 hnp)
    have HM4 := hid_intro (Nat.le_trans HM3.out hb4.size)
    have HX4 : Hid (XI w4 (fun j => j < w.heap.size + 1) t f) := hid_intro (hx4.weak (fun j hj => by have h1 : j < w.heap.size + 1 := hj; have := HM3.out; show j < _; omega))
    have HG4 := hid_intro hg4
    have hct := rcount_any w4 pb a4 S g4 true (fun j => j < w.heap.size + 1) (fun j hj => by have h1 : j < w.heap.size + 1 := hj; have := HM4.out; omega) (by show pb < _; have := HPL.out; omega) t f HX4.out (Or.inr rfl) hr4
    rw [if_pos rfl] at hct
    clear hb4 hr4 hx4 hg4 hat hU
    go_wp2_with fail
    refine hct.mono ?_; rintro r w5 ⟨hb5, t5, f5, a5, rfl, hx5, hr5⟩
    have HR5 := hid_intro hr5
    have HB5 := hid_intro (HB4.out.trans hb5)
    have HK5 := hid_intro (HK4.out.but hb5 hnp)
    have HM5 := hid_intro (Nat.le_trans HM4.out hb5.size)
    have HX5 := hid_intro hx5
    clear hb5 hr5 hx5 hct
    obtain ⟨k_, i1, n1, q1, lo, hi, z, i2, n2, q2, ef⟩ := HX5.out.lit
    have HEF := hid_intro ef
    rw [ef]
    clear ef
    obtain ⟨c0, c1, c2, c3, c4, c5⟩ := HK5.out.c6
    obtain ⟨z0, z1, z2, z3, z4, z5⟩ := HK5.out.z6
    go_wp2_with fail
    refine bodyPost_ret (v := .agg #[.int .i64 k_, .slice i1 n1 q1, .int .i64 lo, .int .i64 hi, .bool z, .slice i2 n2 q2]) (by simp [results, Tryz.results44, go_sem, c0, c1, c2, c3, c4, c5]) rfl ?_
    rw [HP.out, HE.out]
    have hbf : But (· = pb) w ((((((w5.setCell ⟨w.heap.size, 0, none⟩ (.int .i64 k_)).setCell ⟨w.heap.size, 1, none⟩ (.slice i1 n1 q1)).setCell ⟨w.heap.size, 2, none⟩ (.int .i64 lo)).setCell ⟨w.heap.size, 3, none⟩ (.int .i64 hi)).setCell ⟨w.heap.size, 4, none⟩ (.bool z)).setCell ⟨w.heap.size, 5, none⟩ (.slice i2 n2 q2)) := by with_reducible (repeat (first | exact HB5.out | refine But.set ?_ (Or.inr (Nat.le_refl _)) _))
    have hrf : RP ((((((w5.setCell ⟨w.heap.size, 0, none⟩ (.int .i64 k_)).setCell ⟨w.heap.size, 1, none⟩ (.slice i1 n1 q1)).setCell ⟨w.heap.size, 2, none⟩ (.int .i64 lo)).setCell ⟨w.heap.size, 3, none⟩ (.int .i64 hi)).setCell ⟨w.heap.size, 4, none⟩ (.bool z)).setCell ⟨w.heap.size, 5, none⟩ (.slice i2 n2 q2)) pb S (a5) (g4) true := by with_reducible (repeat (first | exact HR5.out | refine RP.away ?_ hrl _))
    have hxf : XI ((((((w5.setCell ⟨w.heap.size, 0, none⟩ (.int .i64 k_)).setCell ⟨w.heap.size, 1, none⟩ (.slice i1 n1 q1)).setCell ⟨w.heap.size, 2, none⟩ (.int .i64 lo)).setCell ⟨w.heap.size, 3, none⟩ (.int .i64 hi)).setCell ⟨w.heap.size, 4, none⟩ (.bool z)).setCell ⟨w.heap.size, 5, none⟩ (.slice i2 n2 q2)) (· < w.heap.size) t5 f5 := XI.weak (X := fun b => b < w.heap.size + 1) (by with_reducible (repeat (first | exact HX5.out | refine XI.set ?_ (Nat.lt_succ_self _) _))) (fun b hb => Nat.lt_succ_of_lt hb)
    exact ⟨hbf, _, _, _, g4, by rw [HEF.out], hxf, hrf, HG4.out⟩
  | some y =>
    obtain ⟨t, l1⟩ := y
    obtain ⟨f, a4, rfl, hx4, hr4, hle4, hl4⟩ := hcs
    have HR4 := hid_intro hr4
    have HB4 := hid_intro (HB3.out.trans hb4)
    have HK4 := hid_intro (HK3.out.but hb4 hnp)
    have HM4 := hid_intro (Nat.le_trans HM3.out hb4.size)
    have HX4 : Hid (XI w4 (fun j => j < w.heap.size + 1) t f) := hid_intro (hx4.weak (fun j hj => by have h1 : j < w.heap.size + 1 := hj; have := HM3.out; show j < _; omega))
    have hct := rcount_any w4 pb a4 S g false (fun j => j < w.heap.size + 1) (fun j hj => by have h1 : j < w.heap.size + 1 := hj; have := HM4.out; omega) (by show pb < _; have := HPL.out; omega) t f HX4.out (Or.inl hle4) hr4
    rw [if_neg (by simp)] at hct
    simp only [hl4] at HE
    obtain ⟨V, hV⟩ : ∃ V, countedL t (S.drop a4) = V := ⟨_, rfl⟩
    rw [hV] at hct HE
    clear hb4 hr4 hx4 hat hU hV hle4 hl4
    go_wp2_with fail
    refine hct.mono ?_; rintro r w5 ⟨hb5, hcs⟩
    cases V with
    | none =>
      obtain ⟨t5, f5, a5, rfl, hx5, hr5⟩ := hcs
      have HR5 := hid_intro hr5
      have HB5 := hid_intro (HB4.out.trans hb5)
      have HK5 := hid_intro (HK4.out.but hb5 hnp)
      have HM5 := hid_intro (Nat.le_trans HM4.out hb5.size)
      have HX5 := hid_intro hx5
      clear hb5 hr5 hx5 hct
      obtain ⟨k_, i1, n1, q1, lo, hi, z, i2, n2, q2, ef⟩ := HX5.out.lit
      have HEF := hid_intro ef
      rw [ef]
      clear ef
      obtain ⟨c0, c1, c2, c3, c4, c5⟩ := HK5.out.c6
      obtain ⟨z0, z1, z2, z3, z4, z5⟩ := HK5.out.z6
      go_wp2_with fail
      refine bodyPost_ret (v := .agg #[.int .i64 k_, .slice i1 n1 q1, .int .i64 lo, .int .i64 hi, .bool z, .slice i2 n2 q2]) (by simp [results, Tryz.results44, go_sem, c0, c1, c2, c3, c4, c5]) rfl ?_
      rw [HP.out, HE.out]
      have hbf : But (· = pb) w ((((((w5.setCell ⟨w.heap.size, 0, none⟩ (.int .i64 k_)).setCell ⟨w.heap.size, 1, none⟩ (.slice i1 n1 q1)).setCell ⟨w.heap.size, 2, none⟩ (.int .i64 lo)).setCell ⟨w.heap.size, 3, none⟩ (.int .i64 hi)).setCell ⟨w.heap.size, 4, none⟩ (.bool z)).setCell ⟨w.heap.size, 5, none⟩ (.slice i2 n2 q2)) := by with_reducible (repeat (first | exact HB5.out | refine But.set ?_ (Or.inr (Nat.le_refl _)) _))
      have hrf : RP ((((((w5.setCell ⟨w.heap.size, 0, none⟩ (.int .i64 k_)).setCell ⟨w.heap.size, 1, none⟩ (.slice i1 n1 q1)).setCell ⟨w.heap.size, 2, none⟩ (.int .i64 lo)).setCell ⟨w.heap.size, 3, none⟩ (.int .i64 hi)).setCell ⟨w.heap.size, 4, none⟩ (.bool z)).setCell ⟨w.heap.size, 5, none⟩ (.slice i2 n2 q2)) pb S (a5) (g) true := by with_reducible (repeat (first | exact HR5.out | refine RP.away ?_ hrl _))
      have hxf : XI ((((((w5.setCell ⟨w.heap.size, 0, none⟩ (.int .i64 k_)).setCell ⟨w.heap.size, 1, none⟩ (.slice i1 n1 q1)).setCell ⟨w.heap.size, 2, none⟩ (.int .i64 lo)).setCell ⟨w.heap.size, 3, none⟩ (.int .i64 hi)).setCell ⟨w.heap.size, 4, none⟩ (.bool z)).setCell ⟨w.heap.size, 5, none⟩ (.slice i2 n2 q2)) (· < w.heap.size) t5 f5 := XI.weak (X := fun b => b < w.heap.size + 1) (by with_reducible (repeat (first | exact HX5.out | refine XI.set ?_ (Nat.lt_succ_self _) _))) (fun b hb => Nat.lt_succ_of_lt hb)
      exact ⟨hbf, _, _, _, g, by rw [HEF.out], hxf, hrf, Int.le_refl _⟩
    | some y =>
      obtain ⟨t5, l5⟩ := y
      obtain ⟨f5, a5, rfl, hx5, hr5, hle5, hl5⟩ := hcs
      have HR5 := hid_intro hr5
      have HB5 := hid_intro (HB4.out.trans hb5)
      have HK5 := hid_intro (HK4.out.but hb5 hnp)
      have HM5 := hid_intro (Nat.le_trans HM4.out hb5.size)
      have HX5 := hid_intro hx5
      have HL5 := hid_intro (And.intro hle5 hl5)
      clear hb5 hr5 hx5 hct hle5 hl5
      obtain ⟨k_, i1, n1, q1, lo, hi, z, i2, n2, q2, ef⟩ := HX5.out.lit
      have HEF := hid_intro ef
      rw [ef]
      clear ef
      obtain ⟨c0, c1, c2, c3, c4, c5⟩ := HK5.out.c6
      obtain ⟨z0, z1, z2, z3, z4, z5⟩ := HK5.out.z6
      go_wp2_with fail
      refine bodyPost_ret (v := .agg #[.int .i64 k_, .slice i1 n1 q1, .int .i64 lo, .int .i64 hi, .bool z, .slice i2 n2 q2]) (by simp [results, Tryz.results44, go_sem, c0, c1, c2, c3, c4, c5]) rfl ?_
      rw [HP.out, HE.out]
      have hbf : But (· = pb) w ((((((w5.setCell ⟨w.heap.size, 0, none⟩ (.int .i64 k_)).setCell ⟨w.heap.size, 1, none⟩ (.slice i1 n1 q1)).setCell ⟨w.heap.size, 2, none⟩ (.int .i64 lo)).setCell ⟨w.heap.size, 3, none⟩ (.int .i64 hi)).setCell ⟨w.heap.size, 4, none⟩ (.bool z)).setCell ⟨w.heap.size, 5, none⟩ (.slice i2 n2 q2)) := by with_reducible (repeat (first | exact HB5.out | refine But.set ?_ (Or.inr (Nat.le_refl _)) _))
      have hrf : RP ((((((w5.setCell ⟨w.heap.size, 0, none⟩ (.int .i64 k_)).setCell ⟨w.heap.size, 1, none⟩ (.slice i1 n1 q1)).setCell ⟨w.heap.size, 2, none⟩ (.int .i64 lo)).setCell ⟨w.heap.size, 3, none⟩ (.int .i64 hi)).setCell ⟨w.heap.size, 4, none⟩ (.bool z)).setCell ⟨w.heap.size, 5, none⟩ (.slice i2 n2 q2)) pb S (a5) (g) false := by with_reducible (repeat (first | exact HR5.out | refine RP.away ?_ hrl _))
      have hxf : XI ((((((w5.setCell ⟨w.heap.size, 0, none⟩ (.int .i64 k_)).setCell ⟨w.heap.size, 1, none⟩ (.slice i1 n1 q1)).setCell ⟨w.heap.size, 2, none⟩ (.int .i64 lo)).setCell ⟨w.heap.size, 3, none⟩ (.int .i64 hi)).setCell ⟨w.heap.size, 4, none⟩ (.bool z)).setCell ⟨w.heap.size, 5, none⟩ (.slice i2 n2 q2)) (· < w.heap.size) t5 f5 := XI.weak (X := fun b => b < w.heap.size + 1) (by with_reducible (repeat (first | exact HX5.out | refine XI.set ?_ (Nat.lt_succ_self _) _))) (fun b hb => Nat.lt_succ_of_lt hb)
      exact ⟨hbf, _, a5, by rw [HEF.out], hxf, hrf, HL5.out.1, HL5.out.2⟩

set_option maxRecDepth 100000 in
set_option maxHeartbeats 6400000 in
theorem rterm_iii (pat : List Int → Option (RX × List Int)) (w : World) (pb a : Nat) (S : List Int) (g : Int) (ha : a ≤ S.length) (hg200 : g ≤ 200) (hpat : g + 1 ≤ 200 → PatQ pat S pb (g + 1)) (hnone : ¬ g + 1 ≤ 200 → ∀ l, pat l = none) (h63 : ∀ b, pk S b = 63 → pat (S.drop b) = none) (hn : pk S a ≠ 94 ∧ pk S a ≠ 36 ∧ ¬ (pk S a = 92 ∧ (pk S (a + 1) = 98 ∨ pk S (a + 1) = 66))) (hq : pk S a = 92) (hkl : a + 1 < S.length) (h : RP w pb S a g false) :
    Calls Tryz.prog 44 #[.pointer (some ⟨pb, 0, none⟩)] w (TreeQ (termP pat (S.drop a)) S pb g w) := by
  obtain ⟨P, hP⟩ : ∃ P, P = TreeQ (termP pat (S.drop a)) S pb g w := ⟨_, rfl⟩
  rw [← hP]
  have HP := hid_intro hP
  have HPL := hid_intro h.lt
  have HLN := hid_intro h.len
  have HMEM := hid_intro h.mem
  have HGB := hid_intro h.grps
  have hrl := h.lt
  have HA := hid_intro ha
  obtain ⟨W, hW⟩ : ∃ W, w.alloc (.cells #[.int .i64 0, .slice none 0 0, .int .i64 0, .int .i64 0, .bool false, .slice none 0 0] 26) = W := ⟨_, rfl⟩
  have HK0 : Hid (Bk W w.heap.size #[.int .i64 0, .slice none 0 0, .int .i64 0, .int .i64 0, .bool false, .slice none 0 0]) := hid_intro (hW ▸ Bk.new _ _ _)
  have HR0 : Hid (RP W pb S a g false) := hid_intro (h.below (hW ▸ vb_a (Below.refl _ _) _))
  have HB0 : Hid (But (· = pb) w W) := hid_intro (But.ofBelow (hW ▸ vb_a (Below.refl _ _) _))
  have HM0 : Hid (w.heap.size + 1 ≤ W.heap.size) := hid_intro (by rw [← hW]; simp)
  have hnp : ¬ w.heap.size = pb := by have := h.lt; omega
  have hT := fun (c : Int) (hc : c ≠ -1) (a : Nat) (g : Int) (bad : Bool) w' (h : RP w' pb S a g bad) => rtake_any w' pb a S g c bad hc h
  have HE := hid_intro (term_el (pat := pat) hn.1 hn.2.1 hn.2.2)
  have hn94 : pk S a ≠ 94 := hn.1
  have hn36 : pk S a ≠ 36 := hn.2.1
  have HPAT := hid_intro hpat
  have HNONE := hid_intro hnone
  have H63 := hid_intro h63
  have HG2 := hid_intro hg200
  have HATM := hid_intro (fun w' (h : RP w' pb S a g false) => ratom_any pat w' pb a S g ha hg200 hpat hnone h63 h)
  have hn98 : ¬ pk S (a + 1) ∈ ints ⟨#[98, 66]⟩ := fun h1 => by
    rw [show ints ⟨#[98, 66]⟩ = [98, 66] from rfl] at h1
    simp at h1
    exact hn.2.2 ⟨hq, h1⟩
  have HIN := hid_intro (fun w' => rin_any (pk S (a + 1)) ⟨#[98, 66]⟩ w' (by decide))
  rw [decide_eq_false hn98] at HIN
  clear hpat hnone h63 hg200 hn98
  clear hP h ha
  go_enter Tryz.func44, Tryz.ntmps44
  go_wp2_with fail
  have ht1 := hT 94 (by omega) (a) (g) false _ HR0.out
  rw [decide_eq_false hn94, show tk S (a) 94 = a by unfold tk; rw [if_neg hn94]] at ht1
  refine ht1.mono ?_; rintro r w1 ⟨rfl, hb1, hr1⟩
  have HR1 := hid_intro hr1
  have HB1 := hid_intro (HB0.out.trans hb1)
  have HK1 := hid_intro (HK0.out.but hb1 hnp)
  have HM1 := hid_intro (Nat.le_trans HM0.out hb1.size)
  clear hb1 hr1 ht1
  go_wp2_with fail
  have ht2 := hT 36 (by omega) (a) (g) false _ HR1.out
  rw [decide_eq_false hn36, show tk S (a) 36 = a by unfold tk; rw [if_neg hn36]] at ht2
  refine ht2.mono ?_; rintro r w2 ⟨rfl, hb2, hr2⟩
  have HR2 := hid_intro hr2
  have HB2 := hid_intro (HB1.out.trans hb2)
  have HK2 := hid_intro (HK1.out.but hb2 hnp)
  have HM2 := hid_intro (Nat.le_trans HM1.out hb2.size)
  clear hb2 hr2 ht2
  have HPK := hid_intro (fun n => rpeek_q (w2.drewN n) pb a S g false (HR2.out.dn n))
  rw [hq] at HPK
  obtain ⟨qb, qo, cap, l0, l1, l2⟩ := HR2.out.elem hkl
  have l3 : w2.cell? ⟨qb, qo + ((a : Int) + 1).toNat, none⟩ = some (.int .i64 (pk S (a + 1))) := by rw [show ((a : Int) + 1).toNat = a + 1 by omega]; exact l1
  obtain ⟨e1, f1⟩ := HR2.out.one
  have hw : wrap64 ((a : Int) + 1) = (a : Int) + 1 := w64 (by omega) (by have := HLN.out; omega)
  have hI : ((a : Int) + 1) < (S.length : Int) := by omega
  generalize pk S (a + 1) = q2 at *
  clear hn hq hn94 hn36 hT hkl
  go_wp2_with fail
  go_quiet (first | (go_at_call 43; refine Calls.quiet_of (HPK.out _)) | (go_at_call 59; refine Calls.quiet_of_same (HIN.out _)))
  clear HPK HIN hI hw l0 l1 l2 l3 e1 f1
  have hb3 := (show Below w2.heap.size w2 (w2.drewN nq) from vb_n (Below.refl _ _) nq)
  have HR3 := hid_intro (HR2.out.below hb3)
  have HB3 := hid_intro (HB2.out.below hb3)
  have HK3 := hid_intro (HK2.out.bel hb3)
  have HM3 := hid_intro (Nat.le_trans HM2.out hb3.size)
  clear hb3
  go_wp2_with fail
  generalize w2.drewN nq = w3 at *
  obtain ⟨U, hU⟩ : ∃ U, atomP pat (S.drop a) = U := ⟨_, rfl⟩
  have hat := HATM.out w3 HR3.out
  rw [hU] at hat HE
  refine hat.mono ?_; rintro r w4 ⟨hb4, hcs⟩
  cases U with
  | none =>
    obtain ⟨t, f, a4, g4, rfl, hx4, hr4, hg4⟩ := hcs
    have HR4 := hid_intro hr4
    have HB4 := hid_intro (HB3.out.trans hb4)
    have HK4 := hid_intro (HK3.out.but hb4 hnp)
    have HM4 := hid_intro (Nat.le_trans HM3.out hb4.size)
    have HX4 : Hid (XI w4 (fun j => j < w.heap.size + 1) t f) := hid_intro (hx4.weak (fun j hj => by have h1 : j < w.heap.size + 1 := hj; have := HM3.out; show j < _; omega))
    have HG4 := hid_intro hg4
    have hct := rcount_any w4 pb a4 S g4 true (fun j => j < w.heap.size + 1) (fun j hj => by have h1 : j < w.heap.size + 1 := hj; have := HM4.out; omega) (by show pb < _; have := HPL.out; omega) t f HX4.out (Or.inr rfl) hr4
    rw [if_pos rfl] at hct
    clear hb4 hr4 hx4 hg4 hat hU
    go_wp2_with fail
    refine hct.mono ?_; rintro r w5 ⟨hb5, t5, f5, a5, rfl, hx5, hr5⟩
    have HR5 := hid_intro hr5
    have HB5 := hid_intro (HB4.out.trans hb5)
    have HK5 := hid_intro (HK4.out.but hb5 hnp)
    have HM5 := hid_intro (Nat.le_trans HM4.out hb5.size)
    have HX5 := hid_intro hx5
    clear hb5 hr5 hx5 hct
    obtain ⟨k_, i1, n1, q1, lo, hi, z, i2, n2, q2, ef⟩ := HX5.out.lit
    have HEF := hid_intro ef
    rw [ef]
    clear ef
    obtain ⟨c0, c1, c2, c3, c4, c5⟩ := HK5.out.c6
    obtain ⟨z0, z1, z2, z3, z4, z5⟩ := HK5.out.z6
    go_wp2_with fail
    refine bodyPost_ret (v := .agg #[.int .i64 k_, .slice i1 n1 q1, .int .i64 lo, .int .i64 hi, .bool z, .slice i2 n2 q2]) (by simp [results, Tryz.results44, go_sem, c0, c1, c2, c3, c4, c5]) rfl ?_
    rw [HP.out, HE.out]
    have hbf : But (· = pb) w ((((((w5.setCell ⟨w.heap.size, 0, none⟩ (.int .i64 k_)).setCell ⟨w.heap.size, 1, none⟩ (.slice i1 n1 q1)).setCell ⟨w.heap.size, 2, none⟩ (.int .i64 lo)).setCell ⟨w.heap.size, 3, none⟩ (.int .i64 hi)).setCell ⟨w.heap.size, 4, none⟩ (.bool z)).setCell ⟨w.heap.size, 5, none⟩ (.slice i2 n2 q2)) := by with_reducible (repeat (first | exact HB5.out | refine But.set ?_ (Or.inr (Nat.le_refl _)) _))
    have hrf : RP ((((((w5.setCell ⟨w.heap.size, 0, none⟩ (.int .i64 k_)).setCell ⟨w.heap.size, 1, none⟩ (.slice i1 n1 q1)).setCell ⟨w.heap.size, 2, none⟩ (.int .i64 lo)).setCell ⟨w.heap.size, 3, none⟩ (.int .i64 hi)).setCell ⟨w.heap.size, 4, none⟩ (.bool z)).setCell ⟨w.heap.size, 5, none⟩ (.slice i2 n2 q2)) pb S (a5) (g4) true := by with_reducible (repeat (first | exact HR5.out | refine RP.away ?_ hrl _))
    have hxf : XI ((((((w5.setCell ⟨w.heap.size, 0, none⟩ (.int .i64 k_)).setCell ⟨w.heap.size, 1, none⟩ (.slice i1 n1 q1)).setCell ⟨w.heap.size, 2, none⟩ (.int .i64 lo)).setCell ⟨w.heap.size, 3, none⟩ (.int .i64 hi)).setCell ⟨w.heap.size, 4, none⟩ (.bool z)).setCell ⟨w.heap.size, 5, none⟩ (.slice i2 n2 q2)) (· < w.heap.size) t5 f5 := XI.weak (X := fun b => b < w.heap.size + 1) (by with_reducible (repeat (first | exact HX5.out | refine XI.set ?_ (Nat.lt_succ_self _) _))) (fun b hb => Nat.lt_succ_of_lt hb)
    exact ⟨hbf, _, _, _, g4, by rw [HEF.out], hxf, hrf, HG4.out⟩
  | some y =>
    obtain ⟨t, l1⟩ := y
    obtain ⟨f, a4, rfl, hx4, hr4, hle4, hl4⟩ := hcs
    have HR4 := hid_intro hr4
    have HB4 := hid_intro (HB3.out.trans hb4)
    have HK4 := hid_intro (HK3.out.but hb4 hnp)
    have HM4 := hid_intro (Nat.le_trans HM3.out hb4.size)
    have HX4 : Hid (XI w4 (fun j => j < w.heap.size + 1) t f) := hid_intro (hx4.weak (fun j hj => by have h1 : j < w.heap.size + 1 := hj; have := HM3.out; show j < _; omega))
    have hct := rcount_any w4 pb a4 S g false (fun j => j < w.heap.size + 1) (fun j hj => by have h1 : j < w.heap.size + 1 := hj; have := HM4.out; omega) (by show pb < _; have := HPL.out; omega) t f HX4.out (Or.inl hle4) hr4
    rw [if_neg (by simp)] at hct
    simp only [hl4] at HE
    obtain ⟨V, hV⟩ : ∃ V, countedL t (S.drop a4) = V := ⟨_, rfl⟩
    rw [hV] at hct HE
    clear hb4 hr4 hx4 hat hU hV hle4 hl4
    go_wp2_with fail
    refine hct.mono ?_; rintro r w5 ⟨hb5, hcs⟩
    cases V with
    | none =>
      obtain ⟨t5, f5, a5, rfl, hx5, hr5⟩ := hcs
      have HR5 := hid_intro hr5
      have HB5 := hid_intro (HB4.out.trans hb5)
      have HK5 := hid_intro (HK4.out.but hb5 hnp)
      have HM5 := hid_intro (Nat.le_trans HM4.out hb5.size)
      have HX5 := hid_intro hx5
      clear hb5 hr5 hx5 hct
      obtain ⟨k_, i1, n1, q1, lo, hi, z, i2, n2, q2, ef⟩ := HX5.out.lit
      have HEF := hid_intro ef
      rw [ef]
      clear ef
      obtain ⟨c0, c1, c2, c3, c4, c5⟩ := HK5.out.c6
      obtain ⟨z0, z1, z2, z3, z4, z5⟩ := HK5.out.z6
      go_wp2_with fail
      refine bodyPost_ret (v := .agg #[.int .i64 k_, .slice i1 n1 q1, .int .i64 lo, .int .i64 hi, .bool z, .slice i2 n2 q2]) (by simp [results, Tryz.results44, go_sem, c0, c1, c2, c3, c4, c5]) rfl ?_
      rw [HP.out, HE.out]
      have hbf : But (· = pb) w ((((((w5.setCell ⟨w.heap.size, 0, none⟩ (.int .i64 k_)).setCell ⟨w.heap.size, 1, none⟩ (.slice i1 n1 q1)).setCell ⟨w.heap.size, 2, none⟩ (.int .i64 lo)).setCell ⟨w.heap.size, 3, none⟩ (.int .i64 hi)).setCell ⟨w.heap.size, 4, none⟩ (.bool z)).setCell ⟨w.heap.size, 5, none⟩ (.slice i2 n2 q2)) := by with_reducible (repeat (first | exact HB5.out | refine But.set ?_ (Or.inr (Nat.le_refl _)) _))
      have hrf : RP ((((((w5.setCell ⟨w.heap.size, 0, none⟩ (.int .i64 k_)).setCell ⟨w.heap.size, 1, none⟩ (.slice i1 n1 q1)).setCell ⟨w.heap.size, 2, none⟩ (.int .i64 lo)).setCell ⟨w.heap.size, 3, none⟩ (.int .i64 hi)).setCell ⟨w.heap.size, 4, none⟩ (.bool z)).setCell ⟨w.heap.size, 5, none⟩ (.slice i2 n2 q2)) pb S (a5) (g) true := by with_reducible (repeat (first | exact HR5.out | refine RP.away ?_ hrl _))
      have hxf : XI ((((((w5.setCell ⟨w.heap.size, 0, none⟩ (.int .i64 k_)).setCell ⟨w.heap.size, 1, none⟩ (.slice i1 n1 q1)).setCell ⟨w.heap.size, 2, none⟩ (.int .i64 lo)).setCell ⟨w.heap.size, 3, none⟩ (.int .i64 hi)).setCell ⟨w.heap.size, 4, none⟩ (.bool z)).setCell ⟨w.heap.size, 5, none⟩ (.slice i2 n2 q2)) (· < w.heap.size) t5 f5 := XI.weak (X := fun b => b < w.heap.size + 1) (by with_reducible (repeat (first | exact HX5.out | refine XI.set ?_ (Nat.lt_succ_self _) _))) (fun b hb => Nat.lt_succ_of_lt hb)
      exact ⟨hbf, _, _, _, g, by rw [HEF.out], hxf, hrf, Int.le_refl _⟩
    | some y =>
      obtain ⟨t5, l5⟩ := y
      obtain ⟨f5, a5, rfl, hx5, hr5, hle5, hl5⟩ := hcs
      have HR5 := hid_intro hr5
      have HB5 := hid_intro (HB4.out.trans hb5)
      have HK5 := hid_intro (HK4.out.but hb5 hnp)
      have HM5 := hid_intro (Nat.le_trans HM4.out hb5.size)
      have HX5 := hid_intro hx5
      have HL5 := hid_intro (And.intro hle5 hl5)
      clear hb5 hr5 hx5 hct hle5 hl5
      obtain ⟨k_, i1, n1, q1, lo, hi, z, i2, n2, q2, ef⟩ := HX5.out.lit
      have HEF := hid_intro ef
      rw [ef]
      clear ef
      obtain ⟨c0, c1, c2, c3, c4, c5⟩ := HK5.out.c6
      obtain ⟨z0, z1, z2, z3, z4, z5⟩ := HK5.out.z6
      go_wp2_with fail
      refine bodyPost_ret (v := .agg #[.int .i64 k_, .slice i1 n1 q1, .int .i64 lo, .int .i64 hi, .bool z, .slice i2 n2 q2]) (by simp [results, Tryz.results44, go_sem, c0, c1, c2, c3, c4, c5]) rfl ?_
      rw [HP.out, HE.out]
      have hbf : But (· = pb) w ((((((w5.setCell ⟨w.heap.size, 0, none⟩ (.int .i64 k_)).setCell ⟨w.heap.size, 1, none⟩ (.slice i1 n1 q1)).setCell ⟨w.heap.size, 2, none⟩ (.int .i64 lo)).setCell ⟨w.heap.size, 3, none⟩ (.int .i64 hi)).setCell ⟨w.heap.size, 4, none⟩ (.bool z)).setCell ⟨w.heap.size, 5, none⟩ (.slice i2 n2 q2)) := by with_reducible (repeat (first | exact HB5.out | refine But.set ?_ (Or.inr (Nat.le_refl _)) _))
      have hrf : RP ((((((w5.setCell ⟨w.heap.size, 0, none⟩ (.int .i64 k_)).setCell ⟨w.heap.size, 1, none⟩ (.slice i1 n1 q1)).setCell ⟨w.heap.size, 2, none⟩ (.int .i64 lo)).setCell ⟨w.heap.size, 3, none⟩ (.int .i64 hi)).setCell ⟨w.heap.size, 4, none⟩ (.bool z)).setCell ⟨w.heap.size, 5, none⟩ (.slice i2 n2 q2)) pb S (a5) (g) false := by with_reducible (repeat (first | exact HR5.out | refine RP.away ?_ hrl _))
      have hxf : XI ((((((w5.setCell ⟨w.heap.size, 0, none⟩ (.int .i64 k_)).setCell ⟨w.heap.size, 1, none⟩ (.slice i1 n1 q1)).setCell ⟨w.heap.size, 2, none⟩ (.int .i64 lo)).setCell ⟨w.heap.size, 3, none⟩ (.int .i64 hi)).setCell ⟨w.heap.size, 4, none⟩ (.bool z)).setCell ⟨w.heap.size, 5, none⟩ (.slice i2 n2 q2)) (· < w.heap.size) t5 f5 := XI.weak (X := fun b => b < w.heap.size + 1) (by with_reducible (repeat (first | exact HX5.out | refine XI.set ?_ (Nat.lt_succ_self _) _))) (fun b hb => Nat.lt_succ_of_lt hb)
      exact ⟨hbf, _, a5, by rw [HEF.out], hxf, hrf, HL5.out.1, HL5.out.2⟩

theorem rterm_any (pat : List Int → Option (RX × List Int)) (w : World) (pb a : Nat) (S : List Int) (g : Int) (ha : a ≤ S.length) (hg200 : g ≤ 200) (hpat : g + 1 ≤ 200 → PatQ pat S pb (g + 1)) (hnone : ¬ g + 1 ≤ 200 → ∀ l, pat l = none) (h63 : ∀ b, pk S b = 63 → pat (S.drop b) = none) (h : RP w pb S a g false) :
    Calls Tryz.prog 44 #[.pointer (some ⟨pb, 0, none⟩)] w (TreeQ (termP pat (S.drop a)) S pb g w) := by
  by_cases c94 : pk S a = 94
  · exact rterm_94 pat w pb a S g ha c94 h
  by_cases c36 : pk S a = 36
  · exact rterm_36 pat w pb a S g ha c36 h
  by_cases c92 : pk S a = 92
  · by_cases cb : pk S (a + 1) = 98
    · exact rterm_98 pat w pb a S g ha c92 cb h
    by_cases cB : pk S (a + 1) = 66
    · exact rterm_66 pat w pb a S g ha c92 cB h
    by_cases hk : a + 1 < S.length
    · exact rterm_iii pat w pb a S g ha hg200 hpat hnone h63 ⟨c94, c36, fun h => by rcases h.2 with h | h; exact cb h; exact cB h⟩ c92 hk h
    · exact rterm_ii pat w pb a S g ha hg200 hpat hnone h63 ⟨c94, c36, fun h => by rcases h.2 with h | h; exact cb h; exact cB h⟩ c92 hk h
  · exact rterm_i pat w pb a S g ha hg200 hpat hnone h63 ⟨c94, c36, fun h => c92 h.1⟩ c92 h
end Go.Proofs.YthbbkcdlcpbepaaGreatDoor
