/-
  What json's reader makes of a number and of a simple token. Conditions: at most 2^20 bytes; dec's variables as they are laid.
  What json's reader makes of a simple token. Conditions: as J13's.
  The heads of layer 4's statements: what must come at any rate comes. Conditions: the table of greatest code points and errors.errorType as they are laid.
-/
import Derived.Test.YtjakgdaodlgeaaaGreatDoorJoined25
import Derived.Test.YtjakgdaodlgeaaaGreatDoorJoined16
import Derived.Lib.SlBytesConst
namespace Go.Proofs.YtjakgdaodlgeaaaGreatDoor
open Go.RowKit Go.Maps

theorem ex_lo (s : List UInt8) : -1000000 ≤ (parseL s).2.ex ∧ (parseL s).2.ex ≤ 1000000 := by
 by_cases h : (parseL s).1 = 0
 ·rcases parse_good h with ⟨_, _, h3⟩ | ⟨_, h3, h4⟩
  ·rw [h3]; omega
  ·exact ⟨h3, h4⟩
 ·have : (parseL s).2 = zeroD := by
   unfold parseL at h ⊢
   split
   ·rfl
   ·rename_i p e
    rw [e] at h
    simp only at h ⊢
    split
    ·rfl
    ·rename_i d e2
     rw [e2] at h
     simp at h
  rw [this]
  decide
def limV (a1 a2 a3 a4 a5 : Int) : Value := .agg #[.int .i64 a1, .int .i64 a2, .int .i64 a3, .int .i64 a4, .int .i64 a5]
set_option maxRecDepth 100000 in
set_option maxHeartbeats 1600000 in
theorem limitOf_any (s : ByteArray) (a1 a2 a3 a4 a5 : Int) (a : Addr) (w : World) (hE : Env w a) (hs : s.size ≤ 1048576) (h3 : 0 ≤ a3 ∧ a3 ≤ 1000000) :
  Calls Tryz.prog 118 #[.string s, .agg #[.int .i64 a1, .int .i64 a2, .int .i64 a3, .int .i64 a4, .int .i64 a5]] w fun r w' => r = .returned (.tuple #[d3 (limL ⟨a1, a2, a3⟩ s.data.toList).1, .int .i64 ((limL ⟨a1, a2, a3⟩ s.data.toList).2 : Int)]) ∧ Below w.heap.size w w' := by
 obtain ⟨P, hP⟩ : ∃ P : Ending → World → Prop, P = fun r w' => r = .returned (.tuple #[d3 (limL ⟨a1, a2, a3⟩ s.data.toList).1, .int .i64 ((limL ⟨a1, a2, a3⟩ s.data.toList).2 : Int)]) ∧ Below w.heap.size w w' := ⟨_, rfl⟩
 rw [← hP]
 have HP := hid_intro hP
 obtain ⟨W1, hW1⟩ : ∃ W1, (w.alloc (.cells #[.int .i64 a1, .int .i64 a2, .int .i64 a3, .int .i64 a4, .int .i64 a5] 24)).alloc (.cells #[.bool false, .string ⟨#[]⟩, .int .i64 0] 27) = W1 := ⟨_, rfl⟩
 have HB1 : Hid (Below w.heap.size w W1) := hid_intro (hW1 ▸ vb_a (vb_a (Below.refl _ _) _) _)
 have HL1 : Hid (Bj W1 w.heap.size #[.int .i64 a1, .int .i64 a2, .int .i64 a3, .int .i64 a4, .int .i64 a5]) := hid_intro (hW1 ▸ (Bj.new _ _ _).al _)
 have HR1 : Hid (Bj W1 (w.heap.size + 1) #[.bool false, .string ⟨#[]⟩, .int .i64 0]) := hid_intro (hW1 ▸ Bj.new' _ _ _ _ (by simp))
 have cd := fun w => digitsAhead_any s w (by unfold maxLen; omega)
 have l1 : W1.cell? ⟨w.heap.size, 1, none⟩ = some (.int .i64 a2) := HL1.out.cell 1
 have hdl := daL_le s.data.toList
 rw [len_of] at hdl
 have HD : Hid ((daL s.data.toList : Nat) ≤ 1048576) := hid_intro (by omega)
 clear hdl
 have HW1 := hid_intro hW1
 have HPA := hid_intro (fun w' (hb : Below w.heap.size w w') => parse_any s a w' (hE.below hb) (by unfold maxLen; omega))
 generalize hda : daL s.data.toList = da at *
 have HDA := hid_intro hda
 clear hP hE hs hW1 hda
 by_cases hq : a2 < (da : Int)
 ·have HE : Hid (limL ⟨a1, a2, a3⟩ s.data.toList = (zeroD, 3)) := hid_intro (by unfold limL; rw [HDA.out, if_pos hq])
  have hqd : decide ((da : Int) > a2) = true := by simpa using hq
  go_enter Tryz.func118, Tryz.ntmps118
  go_wp2_with fail
  go_quiet ((go_at_call 131; exact Calls.quiet_of_same (cd _)))
  go_wp2_with fail
  refine bodyPost_ret (v := .tuple #[.agg #[.bool false, .string ⟨#[]⟩, .int .i64 0], .int .i64 3]) (by simp [results, Tryz.results118, go_sem]) rfl ?_
  rw [HP.out, HE.out]
  exact ⟨rfl, vb_s (vb_s (vb_s (below_drewN (vb_a (vb_a (Below.refl _ _) _) _) nq) (Nat.le_succ _) _) (Nat.le_succ _) _) (Nat.le_succ _) _⟩
 ·have hqd : decide ((da : Int) > a2) = false := by simpa using hq
  have HQ := hid_intro hq
  have hb := ex_lo s.data.toList
  have HE : Hid (limL ⟨a1, a2, a3⟩ s.data.toList = if (parseL s.data.toList).1 ≠ 0 ∨ (parseL s.data.toList).2.ex < -a3 ∨ a3 < (parseL s.data.toList).2.ex then (zeroD, 4) else ((parseL s.data.toList).2, 0)) := hid_intro (by unfold limL; rw [HDA.out, if_neg HQ.out])
  generalize parseL s.data.toList = pr at *
  obtain ⟨e, d⟩ := pr
  obtain ⟨neg, dg, ex⟩ := d
  simp only at hb HE HPA
  have hneg : wrap64 (-a3) = -a3 := by unfold wrap64; omega
  have HPB : Hid (∀ w', Below w.heap.size w w' → Calls Tryz.prog 132 #[.string s] w' fun ev w'' => ev = .returned (.tuple #[.agg #[.bool neg, .string (bs dg), .int .i64 ex], .int .i64 e]) ∧ Below w'.heap.size w' w'') := HPA
  go_enter Tryz.func118, Tryz.ntmps118
  go_wp2_with fail
  go_quiet ((go_at_call 131; exact Calls.quiet_of_same (cd _)))
  go_wp2_with fail
  refine (HPB.out _ (below_drewN (vb_a (vb_a (Below.refl _ _) _) _) nq)).mono ?_; rintro r w1 ⟨rfl, hb1⟩
  have HBw := hid_intro (vb_t (below_drewN (vb_a (vb_a (Below.refl w.heap.size w) (.cells #[.int .i64 a1, .int .i64 a2, .int .i64 a3, .int .i64 a4, .int .i64 a5] 24)) (.cells #[.bool false, .string ⟨#[]⟩, .int .i64 0] 27)) nq) hb1)
  have hb0 : Below W1.heap.size W1 w1 := by rw [← HW1.out]; exact ⟨hb1.os, hb1.tape, hb1.output, hb1.size, hb1.block⟩
  have HLw := hid_intro (HL1.out.bel hb0)
  have HRw := hid_intro (HR1.out.bel hb0)
  obtain ⟨W3, hW3⟩ : ∃ W3, w1.alloc (.cells #[.bool neg, .string (bs dg), .int .i64 ex] 27) = W3 := ⟨_, rfl⟩
  have HB3 : Hid (Below w1.heap.size w1 W3) := hid_intro (hW3 ▸ vb_a (Below.refl _ _) _)
  have l2 : W3.cell? ⟨w.heap.size, 2, none⟩ = some (.int .i64 a3) := (HLw.out.bel HB3.out).cell 2
  obtain ⟨y0, y1, y2⟩ : W3.cell? ⟨w1.heap.size, 0, none⟩ = some (.bool neg) ∧ W3.cell? ⟨w1.heap.size, 1, none⟩ = some (.string (bs dg)) ∧ W3.cell? ⟨w1.heap.size, 2, none⟩ = some (.int .i64 ex) := by
   have h9 : Bj W3 w1.heap.size #[.bool neg, .string (bs dg), .int .i64 ex] := hW3 ▸ Bj.new _ _ _
   exact ⟨h9.cell 0, h9.cell 1, h9.cell 2⟩
  have HR3 := hid_intro (HRw.out.bel HB3.out)
  obtain ⟨x0, x1, x2⟩ : W3.cell? ⟨w.heap.size + 1, 0, none⟩ = some (.bool false) ∧ W3.cell? ⟨w.heap.size + 1, 1, none⟩ = some (.string ⟨#[]⟩) ∧ W3.cell? ⟨w.heap.size + 1, 2, none⟩ = some (.int .i64 0) := ⟨HR3.out.cell 0, HR3.out.cell 1, HR3.out.cell 2⟩
  have z0 := HR3.out.frz 0
  have z1 := HR3.out.frz 1
  have z2 := HR3.out.frz 2
  have HF : Hid (∀ a0 b0 c0, Below w.heap.size w (((W3.setCell ⟨w.heap.size + 1, 0, none⟩ a0).setCell ⟨w.heap.size + 1, 1, none⟩ b0).setCell ⟨w.heap.size + 1, 2, none⟩ c0)) := hid_intro (fun a0 b0 c0 => vb_s (vb_s (vb_s (vb_t HBw.out HB3.out) (Nat.le_succ _) _) (Nat.le_succ _) _) (Nat.le_succ _) _)
  clear hb1 hb0 hb h3 hq hqd
  by_cases c0 : e = 0
  ·subst c0
   by_cases c1 : ex < -a3
   ·have HE2 : Hid (limL ⟨a1, a2, a3⟩ s.data.toList = (zeroD, 4)) := hid_intro (by rw [HE.out, if_pos (Or.inr (Or.inl c1))])
    go_wp2_with fail
    refine bodyPost_ret (v := .tuple #[.agg #[.bool false, .string ⟨#[]⟩, .int .i64 0], .int .i64 4]) (by simp [results, Tryz.results118, go_sem, x0, x1, x2]) rfl ?_
    rw [HP.out, HE2.out]
    exact ⟨rfl, HF.out _ _ _⟩
   ·by_cases c2 : a3 < ex
    ·have HE2 : Hid (limL ⟨a1, a2, a3⟩ s.data.toList = (zeroD, 4)) := hid_intro (by rw [HE.out, if_pos (Or.inr (Or.inr c2))])
     go_wp2_with fail
     refine bodyPost_ret (v := .tuple #[.agg #[.bool false, .string ⟨#[]⟩, .int .i64 0], .int .i64 4]) (by simp [results, Tryz.results118, go_sem, x0, x1, x2]) rfl ?_
     rw [HP.out, HE2.out]
     exact ⟨rfl, HF.out _ _ _⟩
    ·have HE2 : Hid (limL ⟨a1, a2, a3⟩ s.data.toList = (⟨neg, dg, ex⟩, 0)) := hid_intro (by rw [HE.out, if_neg (by simp; omega)])
     go_wp2_with fail
     refine bodyPost_ret (v := .tuple #[.agg #[.bool neg, .string (bs dg), .int .i64 ex], .int .i64 0]) (by simp [results, Tryz.results118, go_sem, x0, x1, x2]) rfl ?_
     rw [HP.out, HE2.out]
     exact ⟨rfl, HF.out _ _ _⟩
  ·have HE2 : Hid (limL ⟨a1, a2, a3⟩ s.data.toList = (zeroD, 4)) := hid_intro (by rw [HE.out, if_pos (Or.inl c0)])
   have hc0 : (e == 0) = false := by simpa using c0
   have hc1 : (e != 0) = true := by simpa using c0
   have hc2 : decide (e = 0) = false := by simpa using c0
   go_wp2_with fail
   refine bodyPost_ret (v := .tuple #[.agg #[.bool false, .string ⟨#[]⟩, .int .i64 0], .int .i64 4]) (by simp [results, Tryz.results118, go_sem, x0, x1, x2]) rfl ?_
   rw [HP.out, HE2.out]
   exact ⟨rfl, HF.out _ _ _⟩
def LMof (lm : Nat → Int) : LM := ⟨lm 0, lm 1, lm 2⟩
set_option maxRecDepth 100000 in
set_option maxHeartbeats 1600000 in
theorem number_any (t : ByteArray) (a : Addr) (rb i : Nat) (v ov : Value) (lm : Nat → Int) (dp ps : Nat) (w : World) (hE : Env w a) (hR : Rd w rb (RF v lm i ov dp ps)) (ht : t.size ≤ 1048576) (h3 : 0 ≤ lm 2 ∧ lm 2 ≤ 1000000) :
  Calls Tryz.prog 105 #[.pointer (some ⟨rb, 0, none⟩), .string t] w fun r w' => r = .returned (d3 (if ps ≠ 0 then zeroD else (limL (LMof lm) t.data.toList).1)) ∧ But (· = rb) w w' ∧ Rd w' rb (RF v lm i ov dp (if ps ≠ 0 then ps else (limL (LMof lm) t.data.toList).2)) := by
 obtain ⟨P, hP⟩ : ∃ P : Ending → World → Prop, P = fun r w' => r = .returned (d3 (if ps ≠ 0 then zeroD else (limL (LMof lm) t.data.toList).1)) ∧ But (· = rb) w w' ∧ Rd w' rb (RF v lm i ov dp (if ps ≠ 0 then ps else (limL (LMof lm) t.data.toList).2)) := ⟨_, rfl⟩
 rw [← hP]
 have HP := hid_intro hP
 obtain ⟨A, hA⟩ : ∃ A, w.alloc (.cells #[.bool false, .string ⟨#[]⟩, .int .i64 0] 27) = A := ⟨_, rfl⟩
 have HBA : Hid (Below w.heap.size w A) := hid_intro (hA ▸ vb_a (Below.refl _ _) _)
 have HKA : Hid (Bj A w.heap.size #[.bool false, .string ⟨#[]⟩, .int .i64 0]) := hid_intro (hA ▸ Bj.new _ _ _)
 have HRA := hid_intro (hR.below HBA.out)
 have q9 := HRA.out.c 9 (by omega) (u := .int .i64 (ps : Int)) rfl
 have hne : w.heap.size ≠ rb := Nat.ne_of_gt hR.lt
 obtain ⟨x0, x1, x2⟩ : A.cell? ⟨w.heap.size, 0, none⟩ = some (.bool false) ∧ A.cell? ⟨w.heap.size, 1, none⟩ = some (.string ⟨#[]⟩) ∧ A.cell? ⟨w.heap.size, 2, none⟩ = some (.int .i64 0) := ⟨HKA.out.cell 0, HKA.out.cell 1, HKA.out.cell 2⟩
 have z0 := HKA.out.frz 0
 have z1 := HKA.out.frz 1
 have z2 := HKA.out.frz 2
 have HL := hid_intro (limitOf_any t (lm 0) (lm 1) (lm 2) (lm 3) (lm 4) a A (hE.below HBA.out) ht h3)
 have HA := hid_intro hA
 clear hP hR hE ht h3
 by_cases hp : ps = 0
 ·subst hp
  have p2 := HRA.out.c 2 (by omega) (u := .int .i64 (lm 0)) rfl
  have p3 := HRA.out.c 3 (by omega) (u := .int .i64 (lm 1)) rfl
  have p4 := HRA.out.c 4 (by omega) (u := .int .i64 (lm 2)) rfl
  have p5 := HRA.out.c 5 (by omega) (u := .int .i64 (lm 3)) rfl
  have p6 := HRA.out.c 6 (by omega) (u := .int .i64 (lm 4)) rfl
  have HE2 : Hid ((if (0 : Nat) ≠ 0 then zeroD else (limL (LMof lm) t.data.toList).1) = (limL (LMof lm) t.data.toList).1 ∧ (if (0 : Nat) ≠ 0 then 0 else (limL (LMof lm) t.data.toList).2) = (limL (LMof lm) t.data.toList).2) := hid_intro ⟨if_neg (by simp), if_neg (by simp)⟩
  have HLM : Hid (limL ⟨lm 0, lm 1, lm 2⟩ t.data.toList = limL (LMof lm) t.data.toList) := hid_intro rfl
  rw [HLM.out] at HL
  generalize limL (LMof lm) t.data.toList = res at *
  obtain ⟨d, k⟩ := res
  obtain ⟨neg, dg, ex⟩ := d
  have HL2 : Hid (Calls Tryz.prog 118 #[.string t, .agg #[.int .i64 (lm 0), .int .i64 (lm 1), .int .i64 (lm 2), .int .i64 (lm 3), .int .i64 (lm 4)]] A fun r w' => r = .returned (.tuple #[.agg #[.bool neg, .string (bs dg), .int .i64 ex], .int .i64 (k : Int)]) ∧ Below A.heap.size A w') := HL
  generalize lm 0 = m0 at *
  generalize lm 1 = m1 at *
  generalize lm 2 = m2 at *
  generalize lm 3 = m3 at *
  generalize lm 4 = m4 at *
  go_enter Tryz.func105, Tryz.ntmps105
  go_wp2_with fail
  refine HL2.out.mono ?_; rintro r w1 ⟨rfl, hb1⟩
  have HB1 := hid_intro (vb_t HBA.out hb1)
  have HR1 := hid_intro (HRA.out.below hb1)
  have HK1 := hid_intro (HKA.out.bel hb1)
  obtain ⟨W2, hW2⟩ : ∃ W2, w1.alloc (.cells #[.bool neg, .string (bs dg), .int .i64 ex] 27) = W2 := ⟨_, rfl⟩
  have HB2 : Hid (Below w1.heap.size w1 W2) := hid_intro (hW2 ▸ vb_a (Below.refl _ _) _)
  have HR2 := hid_intro (HR1.out.below HB2.out)
  have r9 := HR2.out.c 9 (by omega) (u := .int .i64 ((0 : Nat) : Int)) rfl
  have f9 := (HR2.out 9 (by omega)).2
  obtain ⟨W3, hW3⟩ : ∃ W3, W2.setCell ⟨rb, 9, none⟩ (.int .i64 (k : Int)) = W3 := ⟨_, rfl⟩
  have hne1 : w1.heap.size ≠ rb := Nat.ne_of_gt HR1.out.lt
  have HK3 : Hid (Bj W3 w.heap.size #[.bool false, .string ⟨#[]⟩, .int .i64 0]) := hid_intro (by rw [← hW3]; exact (HK1.out.bel HB2.out).away hne)
  have HN3 : Hid (Bj W3 w1.heap.size #[.bool neg, .string (bs dg), .int .i64 ex]) := hid_intro (by rw [← hW3, ← hW2]; exact (Bj.new _ _ _).away hne1)
  obtain ⟨y0, y1, y2⟩ : W3.cell? ⟨w1.heap.size, 0, none⟩ = some (.bool neg) ∧ W3.cell? ⟨w1.heap.size, 1, none⟩ = some (.string (bs dg)) ∧ W3.cell? ⟨w1.heap.size, 2, none⟩ = some (.int .i64 ex) := ⟨HN3.out.cell 0, HN3.out.cell 1, HN3.out.cell 2⟩
  obtain ⟨v0, v1, v2⟩ : W3.cell? ⟨w.heap.size, 0, none⟩ = some (.bool false) ∧ W3.cell? ⟨w.heap.size, 1, none⟩ = some (.string ⟨#[]⟩) ∧ W3.cell? ⟨w.heap.size, 2, none⟩ = some (.int .i64 0) := ⟨HK3.out.cell 0, HK3.out.cell 1, HK3.out.cell 2⟩
  have g0 := HK3.out.frz 0
  have g1 := HK3.out.frz 1
  have g2 := HK3.out.frz 2
  have HF : Hid (∀ a0 b0 c0, But (· = rb) w (((W3.setCell ⟨w.heap.size, 0, none⟩ a0).setCell ⟨w.heap.size, 1, none⟩ b0).setCell ⟨w.heap.size, 2, none⟩ c0) ∧ Rd (((W3.setCell ⟨w.heap.size, 0, none⟩ a0).setCell ⟨w.heap.size, 1, none⟩ b0).setCell ⟨w.heap.size, 2, none⟩ c0) rb (RF v lm i ov dp k)) := hid_intro (fun a0 b0 c0 => by
   have hb3 : But (· = rb) w W3 := by rw [← hW3]; exact (But.ofBelow (vb_t HB1.out HB2.out)).setr _
   have hr3 : Rd W3 rb (RF v lm i ov dp k) := by
    have := HR2.out.set (i := 9) (by omega) (.int .i64 (k : Int))
    rw [RF_p, hW3] at this
    exact this
   exact ⟨((hb3.set (p := ⟨w.heap.size, 0, none⟩) (Or.inr (Nat.le_refl _)) a0).set (p := ⟨w.heap.size, 1, none⟩) (Or.inr (Nat.le_refl _)) b0).set (p := ⟨w.heap.size, 2, none⟩) (Or.inr (Nat.le_refl _)) c0, ((hr3.oth hne a0).oth hne b0).oth hne c0⟩)
  clear hb1 x0 x1 x2 z0 z1 z2 q9 p2 p3 p4 p5 p6
  go_wp2_with fail
  refine bodyPost_ret (v := .agg #[.bool neg, .string (bs dg), .int .i64 ex]) (by simp [results, Tryz.results105, go_sem, v0, v1, v2]) rfl ?_
  rw [HP.out, HE2.out.1, HE2.out.2]
  exact ⟨rfl, HF.out _ _ _⟩
 ·have hp1 : ((ps : Int) == 0) = false := by simp; omega
  have HE2 : Hid ((if ps ≠ 0 then zeroD else (limL (LMof lm) t.data.toList).1) = zeroD ∧ (if ps ≠ 0 then ps else (limL (LMof lm) t.data.toList).2) = ps) := hid_intro ⟨if_pos hp, if_pos hp⟩
  have HF : Hid (∀ a0 b0 c0, But (· = rb) w (((A.setCell ⟨w.heap.size, 0, none⟩ a0).setCell ⟨w.heap.size, 1, none⟩ b0).setCell ⟨w.heap.size, 2, none⟩ c0) ∧ Rd (((A.setCell ⟨w.heap.size, 0, none⟩ a0).setCell ⟨w.heap.size, 1, none⟩ b0).setCell ⟨w.heap.size, 2, none⟩ c0) rb (RF v lm i ov dp ps)) := hid_intro (fun a0 b0 c0 =>
   ⟨(((But.ofBelow HBA.out : But (· = rb) w A).set (p := ⟨w.heap.size, 0, none⟩) (Or.inr (Nat.le_refl _)) a0).set (p := ⟨w.heap.size, 1, none⟩) (Or.inr (Nat.le_refl _)) b0).set (p := ⟨w.heap.size, 2, none⟩) (Or.inr (Nat.le_refl _)) c0, ((HRA.out.oth hne a0).oth hne b0).oth hne c0⟩)
  have hp2 : ¬ (ps : Int) = 0 := by omega
  clear HL hp
  go_enter Tryz.func105, Tryz.ntmps105
  go_wp2_with fail
  refine bodyPost_ret (v := .agg #[.bool false, .string ⟨#[]⟩, .int .i64 0]) (by simp [results, Tryz.results105, go_sem, x0, x1, x2]) rfl ?_
  rw [HP.out, HE2.out.1, HE2.out.2]
  exact ⟨rfl, HF.out _ _ _⟩
end Go.Proofs.YtjakgdaodlgeaaaGreatDoor

namespace Go.Proofs.YtjakgdaodlgeaaaGreatDoor
open Go.RowKit Go.Maps

def fS (k : Int) (n : Bool) (g : ByteArray) (e : Int) (t : ByteArray) : Nat → Value := fun i => [Value.int .i64 k, .bool n, .string g, .int .i64 e, .string t, .slice none 0 0, .slice none 0 0].getD i .nilIface
theorem vi_fS (w : World) (X : Nat → Prop) (k : Int) (n : Bool) (g : ByteArray) (e : Int) (t : ByteArray) (hk : (Lit.int .i64 k).wf = true) (he : (Lit.int .i64 e).wf = true) (hg : g.size ≤ maxLen) (ht : t.size ≤ maxLen) : VI w X (.mk k n g e t [] []) (fS k n g e t) :=
 VI.mk none 0 (fun _ _ => .nilIface) rfl rfl rfl rfl rfl rfl ⟨none, 0, rfl, Nat.le_refl _, by unfold maxLen; omega, fun s hs => by simp at hs, Or.inl rfl⟩ ⟨Nat.le_refl _, by unfold maxLen; omega⟩ ⟨hg, ht⟩ ⟨hk, he⟩ (Or.inl rfl) (fun i hi => absurd hi (by simp))
def simF (m : LM) (t : Lx.Tok) (p : Nat) : Nat → Value :=
 match (simpleS m t p).1 with
 | .mk k n g e x _ _ => fS k n g e x
theorem wf_of {x : Int} (h0 : -9223372036854775808 ≤ x) (h1 : x ≤ 9223372036854775807) : (Lit.int .i64 x).wf = true := by
 simp only [Lit.wf, Bool.and_eq_true, decide_eq_true_eq]
 have e1 : IntKind.min .i64 = -9223372036854775808 := by decide
 have e2 : IntKind.max .i64 = 9223372036854775807 := by decide
 rw [e1, e2]; exact ⟨h0, h1⟩
theorem lim_ex (m : LM) (s : List UInt8) : -1000000 ≤ (limL m s).1.ex ∧ (limL m s).1.ex ≤ 1000000 := by
 unfold limL
 split
 ·decide
 ·split
  ·decide
  ·exact ex_lo s
set_option maxRecDepth 100000 in
set_option maxHeartbeats 1600000 in
theorem simple_any (t : Lx.Tok) (a : Addr) (rb i : Nat) (v ov : Value) (lm : Nat → Int) (dp ps : Nat) (w : World) (hE : Env w a) (hR : Rd w rb (RF v lm i ov dp ps)) (ht : t.text.length ≤ 1048576) (h3 : 0 ≤ lm 2 ∧ lm 2 ≤ 1000000) :
  Calls Tryz.prog 80 #[.pointer (some ⟨rb, 0, none⟩), Lx.tokV t] w fun r w' => r = .returned (va (simF (LMof lm) t ps)) ∧ But (· = rb) w w' ∧ Rd w' rb (RF v lm i ov dp (simpleS (LMof lm) t ps).2) := by
 obtain ⟨P, hP⟩ : ∃ P : Ending → World → Prop, P = fun r w' => r = .returned (va (simF (LMof lm) t ps)) ∧ But (· = rb) w w' ∧ Rd w' rb (RF v lm i ov dp (simpleS (LMof lm) t ps).2) := ⟨_, rfl⟩
 rw [← hP]
 have HP := hid_intro hP
 obtain ⟨kd, tx, fr, te⟩ := t
 obtain ⟨A, hA⟩ : ∃ A, (w.alloc (.cells #[.int .i64 (kd : Int), .string ⟨tx.toArray⟩, .int .i64 (fr : Int), .int .i64 (te : Int)] 50)).alloc (.cells #[.int .i64 0, .bool false, .string ⟨#[]⟩, .int .i64 0, .string ⟨#[]⟩, .slice none 0 0, .slice none 0 0] 31) = A := ⟨_, rfl⟩
 have HBA : Hid (Below w.heap.size w A) := hid_intro (hA ▸ vb_a (vb_a (Below.refl _ _) _) _)
 have HTA : Hid (Bj A w.heap.size #[.int .i64 (kd : Int), .string ⟨tx.toArray⟩, .int .i64 (fr : Int), .int .i64 (te : Int)]) := hid_intro (hA ▸ (Bj.new _ _ _).al _)
 have HVA : Hid (Bj A (w.heap.size + 1) zV7) := hid_intro (hA ▸ Bj.new' _ _ _ _ (by simp))
 have HRA := hid_intro (hR.below HBA.out)
 have hne : w.heap.size + 1 ≠ rb := by have := hR.lt; omega
 have HN := hid_intro (number_any ⟨tx.toArray⟩ a rb i v ov lm dp ps A (hE.below HBA.out) HRA.out (by simpa [ByteArray.size] using ht) h3)
 have HWd := hid_intro (wordKind_any (kd : Int) ⟨tx.toArray⟩ (fr : Int) (te : Int) A)
 have HF : Hid (∀ w' F, But (· = rb) w w' → Rd w' rb F → ∀ x0 x1 x2 x3 x4 x5 x6, But (· = rb) w (set7 w' (w.heap.size + 1) x0 x1 x2 x3 x4 x5 x6) ∧ Rd (set7 w' (w.heap.size + 1) x0 x1 x2 x3 x4 x5 x6) rb F) := hid_intro (fun w' F hb hr x0 x1 x2 x3 x4 x5 x6 => ⟨set7_but hb (Or.inr (Nat.le_succ _)) _ _ _ _ _ _ _, set7_rd hr hne _ _ _ _ _ _ _⟩)
 obtain ⟨t0, t1, t2, t3⟩ := HTA.out.c4
 obtain ⟨y0, y1, y2, y3, y4, y5, y6⟩ := HVA.out.c7
 obtain ⟨z0, z1, z2, z3, z4, z5, z6⟩ := HVA.out.z7
 unfold Lx.tokV
 unfold set7 at HF
 clear hP hR hE ht h3
 by_cases k1 : kd = 1
 ·have HS : Hid (simpleS (LMof lm) ⟨kd, tx, fr, te⟩ ps = (.mk 4 false ⟨#[]⟩ 0 ⟨tx.toArray⟩ [] [], ps)) := hid_intro (by unfold simpleS; rw [if_pos k1])
  have hk1 : ((kd : Int) == 1) = true := by simp; omega
  clear k1
  go_enter Tryz.func80, Tryz.ntmps80
  go_wp2_with fail
  refine bodyPost_ret (v := .agg #[.int .i64 4, .bool false, .string ⟨#[]⟩, .int .i64 0, .string ⟨tx.toArray⟩, .slice none 0 0, .slice none 0 0]) (by simp [results, Tryz.results80, go_sem, y0, y1, y2, y3, y4, y5, y6]) rfl ?_
  rw [HP.out]
  unfold simF
  rw [HS.out]
  exact ⟨rfl, HF.out _ _ (But.ofBelow HBA.out) HRA.out _ _ _ _ _ _ _⟩
 ·have hk1 : ¬ ((kd : Int) = 1) := by omega
  have hk1b : ((kd : Int) == 1) = false := by simpa using hk1
  by_cases k2 : kd = 2
  ·have hk2 : ((kd : Int) == 2) = true := by simp; omega
   have HK2 := hid_intro k2
   clear k1 hk1 k2
   have HS : Hid (∀ d q, (if ps ≠ 0 then zeroD else (limL (LMof lm) tx).1) = d → (if ps ≠ 0 then ps else (limL (LMof lm) tx).2) = q → simpleS (LMof lm) ⟨kd, tx, fr, te⟩ ps = (numJ d, q)) := hid_intro (fun d q h1 h2 => by
    subst h1 h2
    unfold simpleS
    rw [if_neg (by have := HK2.out; simp only; omega), if_pos HK2.out]
    by_cases hp : ps ≠ 0
    ·rw [if_pos hp, if_pos hp, if_pos hp]
    ·rw [if_neg hp, if_neg hp, if_neg hp])
   have e0 : (ByteArray.mk tx.toArray).data.toList = tx := rfl
   rw [e0] at HN
   generalize hd : (if ps ≠ 0 then zeroD else (limL (LMof lm) tx).1) = d at *
   generalize hq : (if ps ≠ 0 then ps else (limL (LMof lm) tx).2) = q at *
   have HS2 := hid_intro (HS.out d q rfl rfl)
   obtain ⟨neg, dg, ex⟩ := d
   have HN2 : Hid (Calls Tryz.prog 105 #[.pointer (some ⟨rb, 0, none⟩), .string ⟨tx.toArray⟩] A fun r w' => r = .returned (.agg #[.bool neg, .string (bs dg), .int .i64 ex]) ∧ But (· = rb) A w' ∧ Rd w' rb (RF v lm i ov dp q)) := HN
   clear hd hq HN HS
   go_enter Tryz.func80, Tryz.ntmps80
   go_wp2_with fail
   refine HN2.out.mono ?_; rintro r w1 ⟨rfl, hb1, hr1⟩
   have HV1 : Hid (Bj w1 (w.heap.size + 1) zV7) := hid_intro (HVA.out.but hb1 hne)
   obtain ⟨u0, u1, u2, u3, u4, u5, u6⟩ := HV1.out.c7
   obtain ⟨s0, s1, s2, s3, s4, s5, s6⟩ := HV1.out.z7
   have HF1 := hid_intro (HF.out w1 _ ((But.ofBelow HBA.out : But (· = rb) w A).trans hb1) hr1)
   clear hb1 hr1 y0 y1 y2 y3 y4 y5 y6 z0 z1 z2 z3 z4 z5 z6 t0 t1 t2 t3
   go_wp2_with fail
   refine bodyPost_ret (v := .agg #[.int .i64 3, .bool neg, .string (bs dg), .int .i64 ex, .string ⟨#[]⟩, .slice none 0 0, .slice none 0 0]) (by simp [results, Tryz.results80, go_sem, u0, u1, u2, u3, u4, u5, u6]) rfl ?_
   rw [HP.out]
   unfold simF
   rw [HS2.out]
   exact ⟨rfl, HF1.out _ _ _ _ _ _ _⟩
  ·have hk2 : ((kd : Int) == 2) = false := by simp; omega
   have HS : Hid (simpleS (LMof lm) ⟨kd, tx, fr, te⟩ ps = (zeroJ (wordL kd ⟨tx.toArray⟩ fr te), ps)) := hid_intro (by unfold simpleS; rw [if_neg k1, if_neg k2])
   unfold tkV at HWd
   generalize wordL kd ⟨tx.toArray⟩ fr te = wk at *
   clear k1 k2 hk1
   go_enter Tryz.func80, Tryz.ntmps80
   go_wp2_with fail
   refine HWd.out.mono ?_; rintro r w1 ⟨rfl, hb1⟩
   have HV1 : Hid (Bj w1 (w.heap.size + 1) zV7) := hid_intro (HVA.out.bel hb1)
   obtain ⟨u0, u1, u2, u3, u4, u5, u6⟩ := HV1.out.c7
   obtain ⟨s0, s1, s2, s3, s4, s5, s6⟩ := HV1.out.z7
   have HF1 := hid_intro (HF.out w1 _ (But.ofBelow (vb_t HBA.out hb1)) (HRA.out.below hb1))
   clear hb1 y0 y1 y2 y3 y4 y5 y6 z0 z1 z2 z3 z4 z5 z6 t0 t1 t2 t3
   go_wp2_with fail
   refine bodyPost_ret (v := .agg #[.int .i64 wk, .bool false, .string ⟨#[]⟩, .int .i64 0, .string ⟨#[]⟩, .slice none 0 0, .slice none 0 0]) (by simp [results, Tryz.results80, go_sem, u0, u1, u2, u3, u4, u5, u6]) rfl ?_
   rw [HP.out]
   unfold simF
   rw [HS.out]
   exact ⟨rfl, HF1.out _ _ _ _ _ _ _⟩
end Go.Proofs.YtjakgdaodlgeaaaGreatDoor

namespace Go.Proofs.YtjakgdaodlgeaaaGreatDoor.Lx
open Go.RowKit
attribute [local go_sem] setCell_drewN alloc_drewN

theorem conv_lit (w : World) (b n : Nat) (C : Array Value) (m : Nat) (hb : w.heap.size = b) (hm : C.size = m) : (convert 22 22 (.slice (some ⟨b, 0, none⟩) n n)).run Tryz.prog (w.alloc (.cells C 5)) = .ok (.slice (some ⟨b, 0, none⟩) n n) (w.alloc (.cells C 5 (m, m + 1))) := by
 subst hb hm
 exact Go.Lib.run_convert_bytes_const w 22 5 C n n Tryz.underlying22 Tryz.underlying5
theorem row_fz (w : World) (l : List UInt8) (ty : TypeId) (fr : Nat × Nat) (hm : l.length ≤ 1000) : Row (w.alloc (.cells (l.map fun c => Value.int .u8 (c.toNat : Nat)).toArray ty fr)) (.slice (some ⟨w.heap.size, 0, none⟩) l.length l.length) l.length (bx l) :=
 .inr ⟨w.heap.size, 0, l.length, rfl, Nat.le_refl _, by unfold maxLen; omega, ⟨fun i hi => by
  have : (w.alloc (.cells (l.map fun c => Value.int .u8 (c.toNat : Nat)).toArray ty fr)).heap[w.heap.size]? = some (.cells (l.map fun c => Value.int .u8 (c.toNat : Nat)).toArray ty fr) := by
   show (w.heap.push _)[w.heap.size]? = _
   simp
  simp only [World.cell?, this]
  simp [bx, hi], bx_lo l, bx_hi l⟩⟩
end Go.Proofs.YtjakgdaodlgeaaaGreatDoor.Lx
