/-
  RxIn's walk. Conditions: at most 2^29 ranges; the table of greatest code points holds its four numbers.
-/
import Derived.Test.YtannjmgnbfbpjaaDoorX17
namespace Go.Proofs.YtannjmgnbfbpjaaDoor
open Go.RowKit
attribute [local go_sem] setCell_drewN alloc_drewN

def inB (p : Int) (l : List (Int × Int)) : Bool := l.any fun r => decide (r.1 ≤ p) && decide (p ≤ r.2)
theorem inB_iff (p : Int) (l : List (Int × Int)) : inB p l = true ↔ mem p l := by
  unfold inB mem
  rw [List.any_eq_true]
  constructor
  · rintro ⟨r, h1, h2⟩
    simp only [Bool.and_eq_true, decide_eq_true_eq] at h2
    exact ⟨r, h1, h2⟩
  · rintro ⟨r, h1, h2⟩
    exact ⟨r, h1, by simp only [Bool.and_eq_true, decide_eq_true_eq]; exact h2⟩
theorem inB_eq {p : Int} {l : List (Int × Int)} {b : Bool} (h : mem p l ↔ b = true) : inB p l = b := by
  rw [Bool.eq_iff_iff, inB_iff]; exact h
set_option maxRecDepth 100000 in
set_option maxHeartbeats 1600000 in
theorem in_any (p : Int) (l : List (Int × Int)) (v : Value) (w : World) (X : Nat → Prop) (h1 : RI w X l v) :
    Calls Tryd.prog 12 #[.int .i64 p, v] w fun r w' => r = .returned (.bool (inB p l)) ∧ Below w.heap.size w w' := by
  obtain ⟨ao1, cap1, rfl, hc1, hm1, hw1, hl1⟩ := h1
  have hlI : (l.length : Int) ≤ 9223372036854775807 := by unfold maxLen at hm1; omega
  obtain ⟨P, hP⟩ : ∃ P : Ending → World → Prop, P = fun r w' => r = .returned (.bool (inB p l)) ∧ Below w.heap.size w w' := ⟨_, rfl⟩
  rw [← hP]
  have HP := hid_intro hP
  clear hP
  go_enter Tryd.func12, Tryd.ntmps12
  go_wp2_with fail
  go_loopg [5] l.length (fun me s5 wr => ∃ k : Nat, k ≤ l.length ∧ me = l.length - k ∧ s5 = .int .i64 (k : Int) ∧ Hid (inB p (l.take k) = false) ∧ Below w.heap.size w wr)
  case atStart => exact ⟨0, Nat.zero_le _, rfl, rfl, by simp [inB, Hid], Below.refl _ _⟩
  case round =>
    obtain ⟨k, hk, rfl, rfl, HA, hb⟩ := hrel
    by_cases hlt : k < l.length
    · rcases hl1 with rfl | ⟨b1, o1, rfl, _, q1⟩
      · simp at hlt
      have hI : (k : Int) < (l.length : Int) := by omega
      have x1 := (q1 k hlt).1
      have x2 := (q1 k hlt).2
      have p1 := (hb.cell (p := ⟨b1, o1 + k * 2, none⟩) (World.block_lt_of_cell? w _ x1)).trans x1
      have p2 := (hb.cell (p := ⟨b1, o1 + k * 2 + 1, none⟩) (World.block_lt_of_cell? w _ x2)).trans x2
      have htk : inB p (l.take (k + 1)) = (inB p (l.take k) || (decide ((ra l k).1 ≤ p) && decide (p ≤ (ra l k).2))) := by
        rw [List.take_succ_eq_append_getElem hlt, ra_get hlt]
        simp only [inB, List.any_append, List.any_cons, List.any_nil, Bool.or_false]
      have hmm := ra_mem hlt
      rw [HA.out, Bool.false_or] at htk
      have hyes : (ra l k).1 ≤ p → p ≤ (ra l k).2 → inB p l = true := fun a b => (inB_iff p l).2 ⟨_, hmm, a, b⟩
      clear x1 x2 q1 hw1 HA hmm
      generalize (ra l k).1 = A1 at *
      generalize (ra l k).2 = A2 at *
      by_cases c1 : A1 ≤ p
      · by_cases c2 : p ≤ A2
        · have HE : Hid (inB p l = true) := hid_intro (hyes c1 c2)
          clear htk hyes
          go_wp2_with fail
          rw [HP.out, HE.out]
          exact ⟨rfl, hb⟩
        · have HA2 : Hid (inB p (l.take (k + 1)) = false) := hid_intro (by rw [htk, decide_eq_false c2]; simp)
          clear htk hyes
          go_wp2_with fail
          go_roundg (l.length - (k + 1))
          case measure => omega
          case rel => exact ⟨k + 1, by omega, rfl, by simp, HA2, hb⟩
      · have HA2 : Hid (inB p (l.take (k + 1)) = false) := hid_intro (by rw [htk, decide_eq_false c1]; simp)
        clear htk hyes
        go_wp2_with fail
        go_roundg (l.length - (k + 1))
        case measure => omega
        case rel => exact ⟨k + 1, by omega, rfl, by simp, HA2, hb⟩
    · have hI : ¬ ((k : Int) < (l.length : Int)) := by omega
      have HE : Hid (inB p l = false) := hid_intro (by have := HA.out; rwa [List.take_of_length_le (by omega)] at this)
      clear HA hlt hk
      go_wp2_with fail
      rw [HP.out, HE.out]
      exact ⟨rfl, hb⟩
set_option maxRecDepth 100000 in
set_option maxHeartbeats 3200000 in
theorem in_walk (l : List (Int × Int)) (v : Value) (p : Int) (w : World) (X : Nat → Prop) (hR : RI w X l v) (hl : l.length ≤ 536870912) (hT : Tab w) (hg0 : 0 < w.heap.size) :
    Calls Tryd.prog 4 #[v, .int .i64 p] w fun r w' => r = .returned (.bool true) ∧ Below w.heap.size w w' := by
  have hmL := merge_len l
  have htL := turn_len l
  have hMr := fun w (h : RI w X l v) => merge_any l v w X h (by omega)
  have hTr := fun w (h : RI w X l v) => turn_any l v w X h (by omega)
  have hin := fun w (h : RI w X l v) => in_any p l v w X h
  have hhd := fun w' (hb : Below w.heap.size w w') => heads_any w' (hT.below hb) (Nat.lt_of_lt_of_le hg0 hb.size)
  obtain ⟨wb, hwb⟩ : ∃ b, (decide (0 ≤ p) && decide (p ≤ 1114111)) = b := ⟨_, rfl⟩
  obtain ⟨lb, hlb⟩ : ∃ b, inB p l = b := ⟨_, rfl⟩
  have hwb' : (0 ≤ p ∧ p ≤ 1114111) ↔ wb = true := by rw [← hwb]; simp
  have e1 : inB p (mergeL l) = (wb && lb) := inB_eq (by rw [mem_merge, hwb', ← inB_iff, hlb]; simp)
  have e2 : inB p (turnL l) = (wb && !lb) := inB_eq (by rw [mem_turn, hwb', ← inB_iff, hlb]; cases lb <;> simp)
  rw [hlb] at hin
  have hshape := hR.shape
  obtain ⟨aov, capv, hv, _⟩ := hshape
  generalize hnv : l.length = nv at hv
  subst hv
  have HR := hid_intro hR
  have HHD := hid_intro hhd
  clear hT hg0 hR hhd
  go_enter Tryd.func4, Tryd.ntmps4
  go_wp2_with fail
  refine (hMr _ HR.out).mono ?_; rintro r w1 ⟨vm, rfl, hom, hb1⟩
  go_wp2_with fail
  refine (hTr _ (HR.out.kept hb1)).mono ?_; rintro r w2 ⟨vt, rfl, hot, hb2⟩
  have him := fun w' (hb : Below w2.heap.size w2 w') => in_any p (mergeL l) vm w' (fun _ => False) (((hom.below hb2).below hb).ri _ (fun _ _ h => h))
  have hit := fun w' (hb : Below w2.heap.size w2 w') => in_any p (turnL l) vt w' (fun _ => False) ((hot.below hb).ri _ (fun _ _ h => h))
  have hTT := fun w' (hb : Below w2.heap.size w2 w') => turn_any (turnL l) vt w' (fun _ => False) ((hot.below hb).ri _ (fun _ _ h => h)) (by omega)
  have hMM := fun w' (hb : Below w2.heap.size w2 w') => merge_any (mergeL l) vm w' (fun _ => False) (((hom.below hb2).below hb).ri _ (fun _ _ h => h)) (by omega)
  rw [e1] at him
  rw [e2] at hit
  rw [turn_turn] at hTT
  rw [merge_merge] at hMM
  obtain ⟨am, cm, hsm⟩ := hom.shape
  obtain ⟨at_, ct, hst⟩ := hot.shape
  have HOM := hid_intro (hom.below hb2)
  have HL2 := hid_intro (vb_t hb1 hb2)
  have HR2 := hid_intro ((HR.out.kept hb1).kept hb2)
  have hinr := fun w' (hb : Below w2.heap.size w2 w') => hin w' (HR2.out.kept hb)
  clear hom hot e1 e2 hMr hTr hlb hmL htL hb1 hb2 hin
  generalize hn1 : (mergeL l).length = nm at hsm
  generalize hn2 : (turnL l).length = nt at hst
  subst hsm hst
  by_cases c0 : 0 ≤ p
  · by_cases c1 : p ≤ 1114111
    · have hwt : wb = true := by rw [← hwb]; simp [c0, c1]
      subst hwt
      clear hwb hwb'
      cases lb
      · simp only [Bool.true_and, Bool.not_false, Bool.and_false] at him hit
        go_wp2_with fail
        refine (him _ (Below.refl _ _)).mono ?_; rintro r w3 ⟨rfl, hb3⟩
        go_wp2_with fail
        refine (hinr _ hb3).mono ?_; rintro r w4 ⟨rfl, hb4⟩
        go_wp2_with fail
        refine (hit _ (vb_t hb3 hb4)).mono ?_; rintro r w5 ⟨rfl, hb5⟩
        go_wp2_with fail
        refine (hinr _ (vb_t (vb_t hb3 hb4) hb5)).mono ?_; rintro r w6 ⟨rfl, hb6⟩
        go_wp2_with fail
        refine (hTT _ (vb_t (vb_t (vb_t hb3 hb4) hb5) hb6)).mono ?_; rintro r wa ⟨va, rfl, hoa, hba⟩
        have hb2a := vb_t (vb_t (vb_t (vb_t hb3 hb4) hb5) hb6) hba
        have hr1 := ranges_any (mergeL l) (mergeL l) va _ wa (fun _ => False) (fun _ => False) (hoa.ri _ (fun _ _ h => h)) ((HOM.out.below hb2a).ri _ (fun _ _ h => h))
        rw [decide_eq_true rfl] at hr1
        go_wp2_with fail
        refine hr1.mono ?_; rintro r wc ⟨rfl, hbc⟩
        have hb2c := vb_t hb2a hbc
        go_wp2_with fail
        refine (hMM _ hb2c).mono ?_; rintro r wd ⟨vd, rfl, hod, hbd⟩
        have hb2d := vb_t hb2c hbd
        have hr2 := ranges_any (mergeL l) (mergeL l) vd _ wd (fun _ => False) (fun _ => False) (hod.ri _ (fun _ _ h => h)) ((HOM.out.below hb2d).ri _ (fun _ _ h => h))
        rw [decide_eq_true rfl] at hr2
        go_wp2_with fail
        refine hr2.mono ?_; rintro r we ⟨rfl, hbe⟩
        have hb2e := vb_t HL2.out (vb_t hb2d hbe)
        go_wp2_with fail
        refine (HHD.out _ hb2e).mono ?_; rintro r wf ⟨rfl, hbf⟩
        go_wp2_with fail
        go_ret
        exact ⟨rfl, vb_t hb2e hbf⟩
      · simp only [Bool.not_true, Bool.and_false, Bool.and_true] at him hit
        go_wp2_with fail
        refine (him _ (Below.refl _ _)).mono ?_; rintro r w3 ⟨rfl, hb3⟩
        go_wp2_with fail
        refine (hinr _ hb3).mono ?_; rintro r w4 ⟨rfl, hb4⟩
        go_wp2_with fail
        refine (hit _ (vb_t hb3 hb4)).mono ?_; rintro r w5 ⟨rfl, hb5⟩
        go_wp2_with fail
        refine (hinr _ (vb_t (vb_t hb3 hb4) hb5)).mono ?_; rintro r w6 ⟨rfl, hb6⟩
        go_wp2_with fail
        refine (hTT _ (vb_t (vb_t (vb_t hb3 hb4) hb5) hb6)).mono ?_; rintro r wa ⟨va, rfl, hoa, hba⟩
        have hb2a := vb_t (vb_t (vb_t (vb_t hb3 hb4) hb5) hb6) hba
        have hr1 := ranges_any (mergeL l) (mergeL l) va _ wa (fun _ => False) (fun _ => False) (hoa.ri _ (fun _ _ h => h)) ((HOM.out.below hb2a).ri _ (fun _ _ h => h))
        rw [decide_eq_true rfl] at hr1
        go_wp2_with fail
        refine hr1.mono ?_; rintro r wc ⟨rfl, hbc⟩
        have hb2c := vb_t hb2a hbc
        go_wp2_with fail
        refine (hMM _ hb2c).mono ?_; rintro r wd ⟨vd, rfl, hod, hbd⟩
        have hb2d := vb_t hb2c hbd
        have hr2 := ranges_any (mergeL l) (mergeL l) vd _ wd (fun _ => False) (fun _ => False) (hod.ri _ (fun _ _ h => h)) ((HOM.out.below hb2d).ri _ (fun _ _ h => h))
        rw [decide_eq_true rfl] at hr2
        go_wp2_with fail
        refine hr2.mono ?_; rintro r we ⟨rfl, hbe⟩
        have hb2e := vb_t HL2.out (vb_t hb2d hbe)
        go_wp2_with fail
        refine (HHD.out _ hb2e).mono ?_; rintro r wf ⟨rfl, hbf⟩
        go_wp2_with fail
        go_ret
        exact ⟨rfl, vb_t hb2e hbf⟩
    · have hwt : wb = false := by rw [← hwb]; simp [c1]
      subst hwt
      clear hwb hwb'
      simp only [Bool.false_and] at him hit
      go_wp2_with fail
      refine (him _ (Below.refl _ _)).mono ?_; rintro r w3 ⟨rfl, hb3⟩
      go_wp2_with fail
      refine (hit _ hb3).mono ?_; rintro r w4 ⟨rfl, hb4⟩
      go_wp2_with fail
      refine (hTT _ (vb_t hb3 hb4)).mono ?_; rintro r wa ⟨va, rfl, hoa, hba⟩
      have hb2a := vb_t (vb_t hb3 hb4) hba
      have hr1 := ranges_any (mergeL l) (mergeL l) va _ wa (fun _ => False) (fun _ => False) (hoa.ri _ (fun _ _ h => h)) ((HOM.out.below hb2a).ri _ (fun _ _ h => h))
      rw [decide_eq_true rfl] at hr1
      go_wp2_with fail
      refine hr1.mono ?_; rintro r wc ⟨rfl, hbc⟩
      have hb2c := vb_t hb2a hbc
      go_wp2_with fail
      refine (hMM _ hb2c).mono ?_; rintro r wd ⟨vd, rfl, hod, hbd⟩
      have hb2d := vb_t hb2c hbd
      have hr2 := ranges_any (mergeL l) (mergeL l) vd _ wd (fun _ => False) (fun _ => False) (hod.ri _ (fun _ _ h => h)) ((HOM.out.below hb2d).ri _ (fun _ _ h => h))
      rw [decide_eq_true rfl] at hr2
      go_wp2_with fail
      refine hr2.mono ?_; rintro r we ⟨rfl, hbe⟩
      have hb2e := vb_t HL2.out (vb_t hb2d hbe)
      go_wp2_with fail
      refine (HHD.out _ hb2e).mono ?_; rintro r wf ⟨rfl, hbf⟩
      go_wp2_with fail
      go_ret
      exact ⟨rfl, vb_t hb2e hbf⟩
  · have hwt : wb = false := by rw [← hwb]; simp [c0]
    subst hwt
    clear hwb hwb'
    simp only [Bool.false_and] at him hit
    go_wp2_with fail
    refine (him _ (Below.refl _ _)).mono ?_; rintro r w3 ⟨rfl, hb3⟩
    go_wp2_with fail
    refine (hit _ hb3).mono ?_; rintro r w4 ⟨rfl, hb4⟩
    go_wp2_with fail
    refine (hTT _ (vb_t hb3 hb4)).mono ?_; rintro r wa ⟨va, rfl, hoa, hba⟩
    have hb2a := vb_t (vb_t hb3 hb4) hba
    have hr1 := ranges_any (mergeL l) (mergeL l) va _ wa (fun _ => False) (fun _ => False) (hoa.ri _ (fun _ _ h => h)) ((HOM.out.below hb2a).ri _ (fun _ _ h => h))
    rw [decide_eq_true rfl] at hr1
    go_wp2_with fail
    refine hr1.mono ?_; rintro r wc ⟨rfl, hbc⟩
    have hb2c := vb_t hb2a hbc
    go_wp2_with fail
    refine (hMM _ hb2c).mono ?_; rintro r wd ⟨vd, rfl, hod, hbd⟩
    have hb2d := vb_t hb2c hbd
    have hr2 := ranges_any (mergeL l) (mergeL l) vd _ wd (fun _ => False) (fun _ => False) (hod.ri _ (fun _ _ h => h)) ((HOM.out.below hb2d).ri _ (fun _ _ h => h))
    rw [decide_eq_true rfl] at hr2
    go_wp2_with fail
    refine hr2.mono ?_; rintro r we ⟨rfl, hbe⟩
    have hb2e := vb_t HL2.out (vb_t hb2d hbe)
    go_wp2_with fail
    refine (HHD.out _ hb2e).mono ?_; rintro r wf ⟨rfl, hbf⟩
    go_wp2_with fail
    go_ret
    exact ⟨rfl, vb_t hb2e hbf⟩
end Go.Proofs.YtannjmgnbfbpjaaDoor
