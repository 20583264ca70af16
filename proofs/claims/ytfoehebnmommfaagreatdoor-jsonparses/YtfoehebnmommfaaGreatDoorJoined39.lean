/-
  (*ref5.P).token. Conditions: a token's text of at most 2^20 bytes; a number's text is one.
-/
import Derived.Test.YtfoehebnmommfaaGreatDoorJoined37
import Derived.Test.YtfoehebnmommfaaGreatDoorJoined38
import Derived.Deep.DeepCutAuto
import Derived.Deep.CutBlock
namespace Go.Proofs.YtfoehebnmommfaaGreatDoor.R5
open Go.RowKit Go.Maps
attribute [local go_sem] setCell_drewN alloc_drewN

def OpI (p : PR) : Prop := p.hs = [] → p.nx = 0 ∨ 6 ≤ p.nx
theorem OpI.put (v : JV) (p : PR) : OpI (putR v p) := fun h => by
 unfold putR at h ⊢
 split at h
 ·rename_i e; rw [if_pos e]; exact Or.inr (Nat.le_refl 6)
 ·simp at h
theorem OpI.begin (k : Int) (p : PR) : OpI (beginR k p) := fun h => by
 unfold beginR at h
 simp at h
theorem OpI.value {rl : List UInt8 → Nat} {rd : List UInt8 → JV} {t : Lx.Tok} {p q : PR} (h : valueR rl rd t p = some q) : OpI q := by
 unfold valueR at h
 repeat' split at h
 all_goals first | (injection h with h; rw [← h]; first | exact OpI.put _ _ | exact OpI.begin _ _) | cases h
theorem OpI.token {rl : List UInt8 → Nat} {rd : List UInt8 → JV} {t : Lx.Tok} {p q : PR} (hp : OpI p) (h : tokenR rl rd t p = .ok q) : OpI q := by
 unfold tokenR at h
 split at h
 ·injection h with h; rw [← h]; exact OpI.put _ _
 ·split at h
  ·rename_i h1 h2
   injection h with h
   rw [← h]
   intro e
   have := hp e
   have h5 := h2.1
   omega
  ·split at h
   ·injection h with h; rw [← h]; exact fun _ => Or.inl rfl
   ·split at h
    ·unfold keyedR at h
     split at h
     ·cases h
     ·injection h with h; rw [← h]; intro e; simp at e
    ·split at h
     ·split at h
      ·rename_i hv
       injection h with h; rw [← h]; exact OpI.value hv
      ·cases h
     ·cases h
def ToR [Ex] (W : World) (lm : Nat → Int) (rb N : Nat) (ov : Value) (hs : List HC) (x : Except Nat PR) (w : World) (r : Ending) (w' : World) : Prop := match x with
 | .error e => r = .returned (.int .i64 (e : Int)) ∧ Below W.heap.size W w'
 | .ok q => r = .returned (.int .i64 0) ∧ ∃ ov' hs' f', JR W lm rb (N + 1) q ov' hs' f' w' ∧ Mv rb ov hs w ov' hs' w'
theorem endsR_nil {t : Lx.Tok} {p : PR} (h : p.hs = []) : ¬ endsR t p := fun e => e.1 h
set_option maxRecDepth 100000 in
set_option maxHeartbeats 3200000 in
theorem token_nil [Ex] {W : World} {lm : Nat → Int} {rb N : Nat} {p : PR} {ov : Value} {f : Nat → Value} {w : World} (hJ : JR W lm rb N p ov [] f w) (hN : N ≤ 1048576) (hO : OpI p) (t : Lx.Tok) (ht : t.text.length ≤ 1048576) (hf : t.fr ≤ 1048576) (hnum : t.kind = 2 → ∃ q, cutL t.text = some q) (h2 : 0 ≤ lm 2 ∧ lm 2 ≤ 1000000) :
  Calls Tryz.prog 23 #[.pointer (some ⟨rb, 0, none⟩), Lx.tokV t] w (ToR W lm rb N ov [] (tokenR (rlR (LMof lm)) rdR t p) w) := by
 obtain ⟨P, hP⟩ : ∃ P, P = ToR W lm rb N ov [] (tokenR (rlR (LMof lm)) rdR t p) w := ⟨_, rfl⟩
 rw [← hP]
 have HP := hid_intro hP
 obtain ⟨ao, cap, e, _, _⟩ := own_shape hJ.st.row
 subst e
 have hnil : p.hs = [] := hJ.noneOpen.2 rfl
 have hOx := hO hnil
 obtain ⟨kd, tx, fr, te⟩ := t
 have hf : fr ≤ 1048576 := hf
 obtain ⟨A, hA⟩ : ∃ A, w.alloc (.cells #[.int .i64 (kd : Int), .string ⟨tx.toArray⟩, .int .i64 (fr : Int), .int .i64 (te : Int)] 50) = A := ⟨_, rfl⟩
 have hBA : Below w.heap.size w A := hA ▸ vb_a (Below.refl _ _) _
 have HBA := hid_intro hBA
 have hTA : Bj A w.heap.size #[.int .i64 (kd : Int), .string ⟨tx.toArray⟩, .int .i64 (fr : Int), .int .i64 (te : Int)] := hA ▸ Bj.new _ _ _
 obtain ⟨t0, t1, t2, t3⟩ := hTA.c4
 have hJA := hJ.belw hBA
 have r5 := hJA.rd.c 5 (by omega) (u := .slice ao 0 cap) rfl
 have r6 := hJA.rd.c 6 (by omega) (u := .int .i64 (p.nx : Int)) rfl
 have HVA : Hid (∀ k s a b, k = (kd : Int) → s = (⟨tx.toArray⟩ : ByteArray) → a = (fr : Int) → b = (te : Int) → Calls Tryz.prog 41 #[.pointer (some ⟨rb, 0, none⟩), .agg #[.int .i64 k, .string s, .int .i64 a, .int .i64 b]] A (VaR W lm rb N (.slice ao 0 cap) [] (valueR (rlR (LMof lm)) rdR ⟨kd, tx, fr, te⟩ p) A)) := hid_intro (fun k s a b h1 h3 h4 h5 => by
  subst h1 h3 h4 h5
  exact value_any hJA hN ⟨kd, tx, fr, te⟩ ht hnum h2)
 have HTA := hid_intro hTA
 have HMA : Hid (Mv rb (.slice ao 0 cap) [] w (.slice ao 0 cap) [] A) := hid_intro (Mv.bel (Mv.refl _ _ _ _) hBA)
 have HWW : Hid (Below W.heap.size W w) := hid_intro hJ.bel
 have hfI : (fr : Int) ≤ 1048576 := by omega
 have hfw : wrap64 ((fr : Int) + 1) = (fr : Int) + 1 := by unfold wrap64; omega
 have HE : Hid (p.nx ≠ 0 → tokenR (rlR (LMof lm)) rdR ⟨kd, tx, fr, te⟩ p = .error (fr + 1)) := hid_intro (fun hn => by
  unfold tokenR
  rw [if_neg (fun h => endsR_nil hnil h.1), if_neg (by omega), if_neg (by omega), if_neg (by omega), if_neg (by omega)])
 have HV0 : Hid (p.nx = 0 → tokenR (rlR (LMof lm)) rdR ⟨kd, tx, fr, te⟩ p = match valueR (rlR (LMof lm)) rdR ⟨kd, tx, fr, te⟩ p with | some q => .ok q | none => .error (fr + 1)) := hid_intro (fun hn => by
  unfold tokenR
  rw [if_neg (fun h => endsR_nil hnil h.1), if_neg (by omega), if_neg (by omega), if_neg (by omega), if_pos (by omega)]
  rfl)
 unfold Lx.tokV
 have b1 : ((p.nx : Int) == 1) = false := by simp; omega
 have b2 : ((p.nx : Int) == 2) = false := by simp; omega
 have b3 : ((p.nx : Int) == 3) = false := by simp; omega
 have b4 : ((p.nx : Int) == 4) = false := by simp; omega
 have b5 : ((p.nx : Int) == 5) = false := by simp; omega
 clear hP hJ hN hO ht hf hnum h2 hBA hTA hJA hnil
 obtain ⟨nx, hnx⟩ : ∃ nx, p.nx = nx := ⟨_, rfl⟩
 rw [hnx] at r6 b1 b2 b3 b4 b5 hOx HE HV0
 clear hnx
 by_cases n0 : nx = 0
 ·have b0 : ((nx : Int) == 0) = true := by simp; omega
  have HT := hid_intro (HV0.out n0)
  clear n0 HV0 HE hOx
  cases hv : valueR (rlR (LMof lm)) rdR ⟨kd, tx, fr, te⟩ p with
  | none =>
   rw [hv] at HT HVA
   clear hv
   by_cases k4 : kd = 4
   ·have hk4 : ((kd : Int) == 4) = true := by simp; omega
    clear k4
    go_enter Tryz.func23, Tryz.ntmps23
    go_wp2_with (go_at_call 41; refine (HVA.out _ _ _ _ rfl rfl rfl rfl).mono ?_; rintro r w1 ⟨rfl, hw1⟩; have s2 := (HTA.out.bel hw1).cell 2; simp only [List.getElem?_toArray, List.getElem?_cons_zero, List.getElem?_cons_succ] at s2)
    rw [HP.out, HT.out]
    exact ⟨by simp, vb_t (vb_t HWW.out HBA.out) hw1⟩
   ·have hk4 : ((kd : Int) == 4) = false := by simp; omega
    clear k4
    go_enter Tryz.func23, Tryz.ntmps23
    go_wp2_with (go_at_call 41; refine (HVA.out _ _ _ _ rfl rfl rfl rfl).mono ?_; rintro r w1 ⟨rfl, hw1⟩; have s2 := (HTA.out.bel hw1).cell 2; simp only [List.getElem?_toArray, List.getElem?_cons_zero, List.getElem?_cons_succ] at s2)
    rw [HP.out, HT.out]
    exact ⟨by simp, vb_t (vb_t HWW.out HBA.out) hw1⟩
  | some q =>
   rw [hv] at HT HVA
   clear hv
   by_cases k4 : kd = 4
   ·have hk4 : ((kd : Int) == 4) = true := by simp; omega
    clear k4
    go_enter Tryz.func23, Tryz.ntmps23
    go_wp2_with (go_at_call 41; refine (HVA.out _ _ _ _ rfl rfl rfl rfl).mono ?_; rintro r w1 ⟨rfl, hw1⟩)
    rw [HP.out, HT.out]
    obtain ⟨ov1, hs1, f1, p1, p2⟩ := hw1
    exact ⟨rfl, ov1, hs1, f1, p1, HMA.out.trans p2⟩
   ·have hk4 : ((kd : Int) == 4) = false := by simp; omega
    clear k4
    go_enter Tryz.func23, Tryz.ntmps23
    go_wp2_with (go_at_call 41; refine (HVA.out _ _ _ _ rfl rfl rfl rfl).mono ?_; rintro r w1 ⟨rfl, hw1⟩)
    rw [HP.out, HT.out]
    obtain ⟨ov1, hs1, f1, p1, p2⟩ := hw1
    exact ⟨rfl, ov1, hs1, f1, p1, HMA.out.trans p2⟩
 ·have b0 : ((nx : Int) == 0) = false := by simp; omega
  have HT := hid_intro (HE.out n0)
  clear n0 HV0 HE hOx HVA
  by_cases k4 : kd = 4
  ·have hk4 : ((kd : Int) == 4) = true := by simp; omega
   clear k4
   go_enter Tryz.func23, Tryz.ntmps23
   go_wp2_with fail
   rw [HP.out, HT.out]
   exact ⟨by simp, vb_t HWW.out HBA.out⟩
  ·have hk4 : ((kd : Int) == 4) = false := by simp; omega
   clear k4
   go_enter Tryz.func23, Tryz.ntmps23
   go_wp2_with fail
   rw [HP.out, HT.out]
   exact ⟨by simp, vb_t HWW.out HBA.out⟩
theorem ends_iff {t : Lx.Tok} {p : PR} {h : HC} (hl : lastP p = (h.k, h.vs.map (·.1), h.ks)) (hne : p.hs ≠ []) {sx : List UInt8} (hsx : sx = if t.kind = 4 then t.text else []) : endsR t p ↔ (sx = [93] ∧ h.k = 5) ∨ (sx = [125] ∧ h.k = 6) := by
 unfold endsR
 rw [hl, hsx]
 by_cases hk : t.kind = 4
 ·simp [hk, hne]
 ·simp [hk]
set_option maxRecDepth 100000 in
set_option maxHeartbeats 6400000 in
theorem token_some [X : Ex] {W : World} {lm : Nat → Int} {rb N : Nat} {p : PR} {ob n cap : Nat} {hs0 : List HC} {h : HC} {f : Nat → Value} {w : World} (hJ : JR W lm rb N p (.slice (some ⟨ob, 0, none⟩) n cap) (hs0 ++ [h]) f w) (hN : N ≤ 1048576) (t : Lx.Tok) (ht : t.text.length ≤ 1048576) (hf : t.fr ≤ 1048576) (hnum : t.kind = 2 → ∃ q, cutL t.text = some q) (h2 : 0 ≤ lm 2 ∧ lm 2 ≤ 1000000) :
  Calls Tryz.prog 23 #[.pointer (some ⟨rb, 0, none⟩), Lx.tokV t] w (ToR W lm rb N (.slice (some ⟨ob, 0, none⟩) n cap) (hs0 ++ [h]) (tokenR (rlR (LMof lm)) rdR t p) w) := by
 obtain ⟨P, hP⟩ : ∃ P, P = ToR W lm rb N (.slice (some ⟨ob, 0, none⟩) n cap) (hs0 ++ [h]) (tokenR (rlR (LMof lm)) rdR t p) w := ⟨_, rfl⟩
 rw [← hP]
 have HP := hid_intro hP
 obtain ⟨ao', cap', e', hc1, hc2⟩ := own_shape hJ.st.row
 injection e' with e1 e2 e3
 subst e1 e3
 rw [List.length_append, List.length_singleton] at e2 hc1
 subst e2
 have hne : p.hs ≠ [] := fun e => by rw [hJ.eq] at e; simp at e
 have hlast := lastP_of hJ
 obtain ⟨sx, hsx⟩ : ∃ sx, sx = if t.kind = 4 then t.text else [] := ⟨_, rfl⟩
 obtain ⟨en, hen⟩ : ∃ en : Bool, en = decide (endsR t p) := ⟨_, rfl⟩
 have HEI := hid_intro (ends_iff (t := t) hlast hne hsx)
 have hnn : hs0.length ≤ 1048576 := by have h1 := hJ.n1; rw [List.length_append] at h1; simp at h1; omega
 obtain ⟨kd, tx, fr, te⟩ := t
 have hf : fr ≤ 1048576 := hf
 have HSX : Hid (sx = if kd = 4 then tx else []) := hid_intro hsx
 obtain ⟨A, hA⟩ : ∃ A, w.alloc (.cells #[.int .i64 (kd : Int), .string ⟨tx.toArray⟩, .int .i64 (fr : Int), .int .i64 (te : Int)] 50) = A := ⟨_, rfl⟩
 have hBA : Below w.heap.size w A := hA ▸ vb_a (Below.refl _ _) _
 have HBA0 := hid_intro hBA
 have hTA : Bj A w.heap.size #[.int .i64 (kd : Int), .string ⟨tx.toArray⟩, .int .i64 (fr : Int), .int .i64 (te : Int)] := hA ▸ Bj.new _ _ _
 have HTA0 := hid_intro hTA
 have HJ := hid_intro hJ
 have HWW : Hid (Below W.heap.size W w) := hid_intro hJ.bel
 have HKD : Hid (h.k = 5 ∨ h.k = 6) := hid_intro (hJ.st.kd h (by simp))
 have HCLO := hid_intro (fun (wc : World) (hb : Below w.heap.size w wc) => close_any (hJ.belw hb) hN)
 have HKEY := hid_intro (fun (wc : World) (hb : Below w.heap.size w wc) => keyed_any (hJ.belw hb) hN (kd : Int) (fr : Int) (te : Int) ⟨tx.toArray⟩ (by simpa [ByteArray.size] using ht))
 have HVAL := hid_intro (fun (wc : World) (hb : Below w.heap.size w wc) => value_any (hJ.belw hb) hN ⟨kd, tx, fr, te⟩ ht hnum h2)
 have HEN := hid_intro hen
 have HLA := hid_intro hlast
 have hfI : (fr : Int) ≤ 1048576 := by omega
 have hfw : wrap64 ((fr : Int) + 1) = (fr : Int) + 1 := by unfold wrap64; omega
 have hnI : (hs0.length : Int) ≤ 1048576 := by omega
 have hw : wrap64 ((hs0.length : Int) + 1 - 1) = (hs0.length : Int) := by unfold wrap64; omega
 have hwd : ((hs0.length : Int) + 1 - 1) = (hs0.length : Int) := by omega
 unfold Lx.tokV
 obtain ⟨t0, t1, t2, t3⟩ := hTA.c4
 clear hP hJ hN ht hf hnum h2 hBA hTA hsx hen hlast hne hnn
 go_enter Tryz.func23, Tryz.ntmps23
 go_upto_if 9 with fail
 go_cut [5] (fun sv wx => sv = .string ⟨sx.toArray⟩ ∧ Hid (Below A.heap.size A wx))
 case first =>
  by_cases k4 : kd = 4
  ·have hk4 : ((kd : Int) == 4) = true := by simp; omega
   have he := HSX.out
   rw [if_pos k4] at he
   clear k4
   go_wp2_with fail
   go_meet
   case rel => exact ⟨by rw [he], hid_intro (Below.refl _ _)⟩
  ·have hk4 : ((kd : Int) == 4) = false := by simp; omega
   have he := HSX.out
   rw [if_neg k4] at he
   clear k4
   go_wp2_with fail
   go_meet
   case rel => exact ⟨by rw [he], hid_intro (Below.refl _ _)⟩
 case rest =>
  obtain ⟨rfl, HW1⟩ := hcut
  have hJ1 := HJ.out.belw (vb_t HBA0.out HW1.out)
  have r5 := hJ1.rd.c 5 (by omega) (u := .slice (some ⟨ob, 0, none⟩) (hs0.length + 1) cap) rfl
  have o0 : wc.cell? ⟨ob, hs0.length * 7, none⟩ = some (.int .i64 h.k) := hcell_at hJ1.st 0 _ rfl
  have hpos : (0 : Int) < (hs0.length : Int) + 1 := by omega
  clear hJ1 t0 t1 t2 t3
  go_upto_if 17 with fail
  go_cut [6] (fun ev wx => ev = .bool en ∧ Hid (Below A.heap.size A wx))
  case first =>
   have x93 := tx_eq sx [93]
   have x125 := tx_eq sx [125]
   by_cases s93 : sx = [93]
   ·rw [decide_eq_true s93] at x93
    have s125 : ¬ sx = [125] := fun e => by rw [e] at s93; cases s93
    rw [decide_eq_false s125] at x125
    rcases HKD.out with hk | hk
    ·have he : en = true := by rw [HEN.out]; exact decide_eq_true (HEI.out.2 (Or.inl ⟨s93, hk⟩))
     have k5 : (h.k == 5) = true := by simp [hk]
     have HE := hid_intro he
     clear s93 s125 hk he
     go_wp2_with fail
     go_quiet (fail)
     go_wp2_with fail
     go_meet
     case rel => exact ⟨by rw [HE.out], hid_intro (bl_n HW1.out _)⟩
    ·have he : en = false := by rw [HEN.out]; exact decide_eq_false (fun e => by rcases HEI.out.1 e with ⟨_, e⟩ | ⟨e, _⟩; (rw [hk] at e; cases e); exact s125 e)
     have k5 : (h.k == 5) = false := by simp [hk]
     have HE := hid_intro he
     clear s93 s125 hk he
     go_wp2_with fail
     go_quiet (fail)
     go_wp2_with fail
     go_meet
     case rel => exact ⟨by rw [HE.out], hid_intro (bl_n HW1.out _)⟩
   ·rw [decide_eq_false s93] at x93
    by_cases s125 : sx = [125]
    ·rw [decide_eq_true s125] at x125
     rcases HKD.out with hk | hk
     ·have he : en = false := by rw [HEN.out]; exact decide_eq_false (fun e => by rcases HEI.out.1 e with ⟨e, _⟩ | ⟨_, e⟩; exact s93 e; (rw [hk] at e; cases e))
      have k6 : (h.k == 6) = false := by simp [hk]
      have HE := hid_intro he
      clear s93 s125 hk he
      go_wp2_with fail
      go_quiet (fail)
      go_wp2_with fail
      go_meet
      case rel => exact ⟨by rw [HE.out], hid_intro (bl_n HW1.out _)⟩
     ·have he : en = true := by rw [HEN.out]; exact decide_eq_true (HEI.out.2 (Or.inr ⟨s125, hk⟩))
      have k6 : (h.k == 6) = true := by simp [hk]
      have HE := hid_intro he
      clear s93 s125 hk he
      go_wp2_with fail
      go_quiet (fail)
      go_wp2_with fail
      go_meet
      case rel => exact ⟨by rw [HE.out], hid_intro (bl_n HW1.out _)⟩
    ·rw [decide_eq_false s125] at x125
     have he : en = false := by rw [HEN.out]; exact decide_eq_false (fun e => by rcases HEI.out.1 e with ⟨e, _⟩ | ⟨e, _⟩; exact s93 e; exact s125 e)
     have HE := hid_intro he
     clear s93 s125 he
     go_wp2_with fail
     go_quiet (fail)
     go_wp2_with fail
     go_meet
     case rel => exact ⟨by rw [HE.out], hid_intro (bl_n HW1.out _)⟩
  case rest =>
   obtain ⟨rfl, HW2⟩ := hcut
   have hbw := vb_t HBA0.out HW2.out
   have HBA := hid_intro hbw
   have hJ2 := HJ.out.belw hbw
   clear r5 o0
   have HTA := hid_intro (HTA0.out.bel HW2.out)
   obtain ⟨s0, s1, s2, s3⟩ := HTA.out.c4
   have r5 := hJ2.rd.c 5 (by omega) (u := .slice (some ⟨ob, 0, none⟩) (hs0.length + 1) cap) rfl
   have r6 := hJ2.rd.c 6 (by omega) (u := .int .i64 (p.nx : Int)) rfl
   have z6 := (hJ2.rd 6 (by omega)).2
   have o0 : wc.cell? ⟨ob, hs0.length * 7, none⟩ = some (.int .i64 h.k) := hcell_at hJ2.st 0 _ rfl
   have hro : rb ≠ ob := fun e => by have := (HJ.out.st.lt ob (mem_mutsO (by simp [Value.ownBlock]))).1; omega
   have HMA : Hid (Mv rb (.slice (some ⟨ob, 0, none⟩) (hs0.length + 1) cap) (hs0 ++ [h]) w (.slice (some ⟨ob, 0, none⟩) (hs0.length + 1) cap) (hs0 ++ [h]) wc) := hid_intro (Mv.bel (Mv.refl _ _ _ _) hbw)
   have HVA : Hid (∀ k s a b, k = (kd : Int) → s = (⟨tx.toArray⟩ : ByteArray) → a = (fr : Int) → b = (te : Int) → Calls Tryz.prog 41 #[.pointer (some ⟨rb, 0, none⟩), .agg #[.int .i64 k, .string s, .int .i64 a, .int .i64 b]] wc (VaR W lm rb N (.slice (some ⟨ob, 0, none⟩) (hs0.length + 1) cap) (hs0 ++ [h]) (valueR (rlR (LMof lm)) rdR ⟨kd, tx, fr, te⟩ p) wc)) := hid_intro (fun k s a b h1 h3 h4 h5 => by
    subst h1 h3 h4 h5
    exact HVAL.out wc hbw)
   have HKE := hid_intro (fun k s a b (h1 : k = (kd : Int)) (h3 : s = (⟨tx.toArray⟩ : ByteArray)) (h4 : a = (fr : Int)) (h5 : b = (te : Int)) => by
    have h6 := HKEY.out wc hbw
    rw [← h1, ← h3, ← h4, ← h5] at h6
    exact h6)
   have HC := hid_intro (HCLO.out wc hbw)
   have HNXS : Hid (∀ a b : Nat, JR W lm rb (N + 1) { p with nx := a } (.slice (some ⟨ob, 0, none⟩) (hs0.length + 1) cap) (hs0 ++ [h]) f (wc.setCell ⟨rb, 6, none⟩ (.int .i64 (a : Int))) ∧ (∀ m : Nat, JR W lm rb (N + 1) { p with nx := a } (.slice (some ⟨ob, 0, none⟩) (hs0.length + 1) cap) (hs0 ++ [h]) f ((wc.setCell ⟨rb, 6, none⟩ (.int .i64 (a : Int))).drewN m) ∧ JR W lm rb (N + 1) { p with nx := b } (.slice (some ⟨ob, 0, none⟩) (hs0.length + 1) cap) (hs0 ++ [h]) f ((((wc.setCell ⟨rb, 6, none⟩ (.int .i64 (a : Int))).setCell ⟨rb, 6, none⟩ (.int .i64 (b : Int)))).drewN m))) := hid_intro (fun a b => by
    have j1 := (hJ2.more (Nat.le_succ N)).nx a
    exact ⟨j1, fun m => ⟨j1.belw (bl_n (Below.refl _ _) m), (j1.nx b).belw (bl_n (Below.refl _ _) m)⟩⟩)
   have HS4 : Hid (∀ c : List UInt8, c ≠ [] → (sx = c ↔ kd = 4 ∧ tx = c)) := hid_intro (fun c hc => by
    rw [HSX.out]
    by_cases k4 : kd = 4
    ·simp [k4]
    ·simp only [k4, if_false, false_and, iff_false]; exact fun e => hc e.symm)
   have HEB : Hid (en = true ↔ endsR ⟨kd, tx, fr, te⟩ p) := hid_intro (by rw [HEN.out]; simp)
   clear hbw hJ2 HEN HEI HCLO HKEY HVAL HW1 HW2 hpos
   have x44 := tx_eq sx [44]
   have x58 := tx_eq sx [58]
   obtain ⟨nx, hnx⟩ : ∃ nx, p.nx = nx := ⟨_, rfl⟩
   rw [hnx] at r6
   have HNX := hid_intro hnx
   clear hnx
   by_cases n1 : nx = 1
   ·have HN0 := hid_intro n1
    have b0 : ((nx : Int) == 0) = false := by simp; omega
    have b1 : ((nx : Int) == 1) = true := by simp; omega
    have b2 : ((nx : Int) == 2) = false := by simp; omega
    have b3 : ((nx : Int) == 3) = false := by simp; omega
    have b4 : ((nx : Int) == 4) = false := by simp; omega
    have b5 : ((nx : Int) == 5) = false := by simp; omega
    cases en with
    | true =>
     have HT : Hid (tokenR (rlR (LMof lm)) rdR ⟨kd, tx, fr, te⟩ p = .ok (closeR p)) := hid_intro (by have hn := HNX.out; have he := HEB.out; unfold tokenR; rw [if_pos ⟨he.1 rfl, by omega⟩])
     clear x44 x58
     go_wp2_with (go_at_call 39; refine HC.out.mono ?_; rintro r w1 ⟨rfl, hw1⟩)
     rw [HP.out, HT.out]
     obtain ⟨ov1, hs1, f1, p1, p2⟩ := hw1
     exact ⟨rfl, ov1, hs1, f1, p1, HMA.out.trans p2⟩
    | false =>
     have HT0 : Hid (tokenR (rlR (LMof lm)) rdR ⟨kd, tx, fr, te⟩ p = match valueR (rlR (LMof lm)) rdR ⟨kd, tx, fr, te⟩ p with | some q => .ok q | none => .error (fr + 1)) := hid_intro (by have hn := HNX.out; have he := HEB.out; unfold tokenR; rw [if_neg (fun h => by have := he.2 h.1; cases this), if_neg (by omega), if_neg (by omega), if_neg (by omega), if_pos (by omega)]; rfl)
     clear x44 x58
     cases hv : valueR (rlR (LMof lm)) rdR ⟨kd, tx, fr, te⟩ p with
     | none =>
      have HT := HT0
      rw [hv] at HT HVA
      clear hv HT0
      go_wp2_with (go_at_call 41; refine (HVA.out _ _ _ _ rfl rfl rfl rfl).mono ?_; rintro r w1 ⟨rfl, hw1⟩; have s2 := (HTA.out.bel hw1).cell 2; simp only [List.getElem?_toArray, List.getElem?_cons_zero, List.getElem?_cons_succ] at s2)
      rw [HP.out, HT.out]
      exact ⟨by simp, vb_t (vb_t HWW.out HBA.out) hw1⟩
     | some q =>
      have HT := HT0
      rw [hv] at HT HVA
      clear hv HT0
      go_wp2_with (go_at_call 41; refine (HVA.out _ _ _ _ rfl rfl rfl rfl).mono ?_; rintro r w1 ⟨rfl, hw1⟩)
      rw [HP.out, HT.out]
      obtain ⟨ov1, hs1, f1, p1, p2⟩ := hw1
      exact ⟨rfl, ov1, hs1, f1, p1, HMA.out.trans p2⟩
   by_cases n3 : nx = 3
   ·have HN0 := hid_intro n3
    have b0 : ((nx : Int) == 0) = false := by simp; omega
    have b1 : ((nx : Int) == 1) = false := by simp; omega
    have b2 : ((nx : Int) == 2) = false := by simp; omega
    have b3 : ((nx : Int) == 3) = true := by simp; omega
    have b4 : ((nx : Int) == 4) = false := by simp; omega
    have b5 : ((nx : Int) == 5) = false := by simp; omega
    cases en with
    | true =>
     have HT : Hid (tokenR (rlR (LMof lm)) rdR ⟨kd, tx, fr, te⟩ p = .ok (closeR p)) := hid_intro (by have hn := HNX.out; have he := HEB.out; unfold tokenR; rw [if_pos ⟨he.1 rfl, by omega⟩])
     clear x44 x58
     go_wp2_with (go_at_call 39; refine HC.out.mono ?_; rintro r w1 ⟨rfl, hw1⟩)
     rw [HP.out, HT.out]
     obtain ⟨ov1, hs1, f1, p1, p2⟩ := hw1
     exact ⟨rfl, ov1, hs1, f1, p1, HMA.out.trans p2⟩
    | false =>
     by_cases k1 : kd = 1
     ·have hk1 : ((kd : Int) == 1) = true := by simp; omega
      have HT : Hid (tokenR (rlR (LMof lm)) rdR ⟨kd, tx, fr, te⟩ p = if inK ⟨tx.toArray⟩ h.ks = true then .error te else .ok { p with hs := p.hs.dropLast ++ [((lastP p).1, (lastP p).2.1, (lastP p).2.2 ++ [⟨tx.toArray⟩])], nx := 4 }) := hid_intro (by have hn := HNX.out; have he := HEB.out; have hl := HLA.out; unfold tokenR; rw [if_neg (fun h => by have := he.2 h.1; cases this), if_neg (by omega), if_neg (by omega), if_pos ⟨by omega, k1⟩]; unfold keyedR; rw [hl])
      clear k1 x44 x58
      go_wp2_with (go_at_call 40; refine (HKE.out _ _ _ _ rfl rfl rfl rfl).mono ?_; rintro r w1 (⟨hi, rfl, hb1⟩ | ⟨hi, rfl, kv1, hj1, hm1⟩))
      ·rw [HP.out, HT.out, if_pos hi]
       exact ⟨rfl, vb_t (vb_t HWW.out HBA.out) hb1⟩
      ·rw [HP.out, HT.out, if_neg (by rw [hi]; decide)]
       exact ⟨rfl, _, _, _, hj1, HMA.out.trans hm1⟩
     ·have hk1 : ((kd : Int) == 1) = false := by simp; omega
      have HT : Hid (tokenR (rlR (LMof lm)) rdR ⟨kd, tx, fr, te⟩ p = .error (fr + 1)) := hid_intro (by have hn := HNX.out; have he := HEB.out; unfold tokenR; rw [if_neg (fun h => by have := he.2 h.1; cases this), if_neg (by omega), if_neg (by omega), if_neg (fun h => k1 h.2), if_neg (by omega)])
      clear k1 x44 x58
      go_wp2_with fail
      rw [HP.out, HT.out]
      exact ⟨by simp, vb_t HWW.out HBA.out⟩
   by_cases n5 : nx = 5
   ·have HN0 := hid_intro n5
    have b0 : ((nx : Int) == 0) = false := by simp; omega
    have b1 : ((nx : Int) == 1) = false := by simp; omega
    have b2 : ((nx : Int) == 2) = false := by simp; omega
    have b3 : ((nx : Int) == 3) = false := by simp; omega
    have b4 : ((nx : Int) == 4) = false := by simp; omega
    have b5 : ((nx : Int) == 5) = true := by simp; omega
    cases en with
    | true =>
     have HT : Hid (tokenR (rlR (LMof lm)) rdR ⟨kd, tx, fr, te⟩ p = .ok (closeR p)) := hid_intro (by have hn := HNX.out; have he := HEB.out; unfold tokenR; rw [if_pos ⟨he.1 rfl, by omega⟩])
     clear x44 x58
     go_wp2_with (go_at_call 39; refine HC.out.mono ?_; rintro r w1 ⟨rfl, hw1⟩)
     rw [HP.out, HT.out]
     obtain ⟨ov1, hs1, f1, p1, p2⟩ := hw1
     exact ⟨rfl, ov1, hs1, f1, p1, HMA.out.trans p2⟩
    | false =>
     by_cases c44 : sx = [44]
     ·rw [decide_eq_true c44] at x44
      rcases HKD.out with hk | hk
      ·have k6 : (h.k == 6) = false := by simp [hk]
       have HT : Hid (tokenR (rlR (LMof lm)) rdR ⟨kd, tx, fr, te⟩ p = .ok { p with nx := 0 }) := hid_intro (by have hn := HNX.out; have he := HEB.out; unfold tokenR; rw [if_neg (fun h => by have := he.2 h.1; cases this), if_pos ⟨by omega, (HS4.out [44] (by decide)).1 c44⟩, HLA.out]; simp [hk])
       clear c44 x58 hk
       go_wp2_with fail
       go_quiet (fail)
       go_wp2_with fail
       rw [HP.out, HT.out]
       exact ⟨rfl, _, _, _, ((HNXS.out 0 0).2 _).1, (HMA.out.trans (Mv.rb ((But.refl _ _).setr _))).bel (bl_n (Below.refl _ _) _)⟩
      ·have k6 : (h.k == 6) = true := by simp [hk]
       have HT : Hid (tokenR (rlR (LMof lm)) rdR ⟨kd, tx, fr, te⟩ p = .ok { p with nx := 2 }) := hid_intro (by have hn := HNX.out; have he := HEB.out; unfold tokenR; rw [if_neg (fun h => by have := he.2 h.1; cases this), if_pos ⟨by omega, (HS4.out [44] (by decide)).1 c44⟩, HLA.out]; simp [hk])
       clear c44 x58 hk
       go_wp2_with fail
       go_quiet (fail)
       go_wp2_with fail
       rw [HP.out, HT.out]
       exact ⟨rfl, _, _, _, ((HNXS.out 0 2).2 _).2, (HMA.out.trans (Mv.rb (((But.refl _ _).setr _).setr _))).bel (bl_n (Below.refl _ _) _)⟩
     ·rw [decide_eq_false c44] at x44
      have HT : Hid (tokenR (rlR (LMof lm)) rdR ⟨kd, tx, fr, te⟩ p = .error (fr + 1)) := hid_intro (by have hn := HNX.out; have he := HEB.out; unfold tokenR; rw [if_neg (fun h => by have := he.2 h.1; cases this), if_neg (fun h => c44 ((HS4.out [44] (by decide)).2 h.2)), if_neg (by omega), if_neg (by omega), if_neg (by omega)])
      clear c44 x58
      go_wp2_with fail
      rw [HP.out, HT.out]
      exact ⟨by simp, vb_t HWW.out HBA.out⟩
   by_cases n0 : nx = 0
   ·have HN0 := hid_intro n0
    have b0 : ((nx : Int) == 0) = true := by simp; omega
    have b1 : ((nx : Int) == 1) = false := by simp; omega
    have b2 : ((nx : Int) == 2) = false := by simp; omega
    have b3 : ((nx : Int) == 3) = false := by simp; omega
    have b4 : ((nx : Int) == 4) = false := by simp; omega
    have b5 : ((nx : Int) == 5) = false := by simp; omega
    cases en with
    | true =>
     have HT0 : Hid (tokenR (rlR (LMof lm)) rdR ⟨kd, tx, fr, te⟩ p = match valueR (rlR (LMof lm)) rdR ⟨kd, tx, fr, te⟩ p with | some q => .ok q | none => .error (fr + 1)) := hid_intro (by have hn := HNX.out; have he := HEB.out; unfold tokenR; rw [if_neg (fun h => by have := h.2; omega), if_neg (by omega), if_neg (by omega), if_neg (by omega), if_pos (by omega)]; rfl)
     clear x44 x58
     cases hv : valueR (rlR (LMof lm)) rdR ⟨kd, tx, fr, te⟩ p with
     | none =>
      have HT := HT0
      rw [hv] at HT HVA
      clear hv HT0
      go_wp2_with (go_at_call 41; refine (HVA.out _ _ _ _ rfl rfl rfl rfl).mono ?_; rintro r w1 ⟨rfl, hw1⟩; have s2 := (HTA.out.bel hw1).cell 2; simp only [List.getElem?_toArray, List.getElem?_cons_zero, List.getElem?_cons_succ] at s2)
      rw [HP.out, HT.out]
      exact ⟨by simp, vb_t (vb_t HWW.out HBA.out) hw1⟩
     | some q =>
      have HT := HT0
      rw [hv] at HT HVA
      clear hv HT0
      go_wp2_with (go_at_call 41; refine (HVA.out _ _ _ _ rfl rfl rfl rfl).mono ?_; rintro r w1 ⟨rfl, hw1⟩)
      rw [HP.out, HT.out]
      obtain ⟨ov1, hs1, f1, p1, p2⟩ := hw1
      exact ⟨rfl, ov1, hs1, f1, p1, HMA.out.trans p2⟩
    | false =>
     have HT0 : Hid (tokenR (rlR (LMof lm)) rdR ⟨kd, tx, fr, te⟩ p = match valueR (rlR (LMof lm)) rdR ⟨kd, tx, fr, te⟩ p with | some q => .ok q | none => .error (fr + 1)) := hid_intro (by have hn := HNX.out; have he := HEB.out; unfold tokenR; rw [if_neg (fun h => by have := he.2 h.1; cases this), if_neg (by omega), if_neg (by omega), if_neg (by omega), if_pos (by omega)]; rfl)
     clear x44 x58
     cases hv : valueR (rlR (LMof lm)) rdR ⟨kd, tx, fr, te⟩ p with
     | none =>
      have HT := HT0
      rw [hv] at HT HVA
      clear hv HT0
      go_wp2_with (go_at_call 41; refine (HVA.out _ _ _ _ rfl rfl rfl rfl).mono ?_; rintro r w1 ⟨rfl, hw1⟩; have s2 := (HTA.out.bel hw1).cell 2; simp only [List.getElem?_toArray, List.getElem?_cons_zero, List.getElem?_cons_succ] at s2)
      rw [HP.out, HT.out]
      exact ⟨by simp, vb_t (vb_t HWW.out HBA.out) hw1⟩
     | some q =>
      have HT := HT0
      rw [hv] at HT HVA
      clear hv HT0
      go_wp2_with (go_at_call 41; refine (HVA.out _ _ _ _ rfl rfl rfl rfl).mono ?_; rintro r w1 ⟨rfl, hw1⟩)
      rw [HP.out, HT.out]
      obtain ⟨ov1, hs1, f1, p1, p2⟩ := hw1
      exact ⟨rfl, ov1, hs1, f1, p1, HMA.out.trans p2⟩
   by_cases n2 : nx = 2
   ·have HN0 := hid_intro n2
    have b0 : ((nx : Int) == 0) = false := by simp; omega
    have b1 : ((nx : Int) == 1) = false := by simp; omega
    have b2 : ((nx : Int) == 2) = true := by simp; omega
    have b3 : ((nx : Int) == 3) = false := by simp; omega
    have b4 : ((nx : Int) == 4) = false := by simp; omega
    have b5 : ((nx : Int) == 5) = false := by simp; omega
    cases en with
    | true =>
     by_cases k1 : kd = 1
     ·have hk1 : ((kd : Int) == 1) = true := by simp; omega
      have HT : Hid (tokenR (rlR (LMof lm)) rdR ⟨kd, tx, fr, te⟩ p = if inK ⟨tx.toArray⟩ h.ks = true then .error te else .ok { p with hs := p.hs.dropLast ++ [((lastP p).1, (lastP p).2.1, (lastP p).2.2 ++ [⟨tx.toArray⟩])], nx := 4 }) := hid_intro (by have hn := HNX.out; have he := HEB.out; have hl := HLA.out; unfold tokenR; rw [if_neg (fun h => by have := h.2; omega), if_neg (by omega), if_neg (by omega), if_pos ⟨by omega, k1⟩]; unfold keyedR; rw [hl])
      clear k1 x44 x58
      go_wp2_with (go_at_call 40; refine (HKE.out _ _ _ _ rfl rfl rfl rfl).mono ?_; rintro r w1 (⟨hi, rfl, hb1⟩ | ⟨hi, rfl, kv1, hj1, hm1⟩))
      ·rw [HP.out, HT.out, if_pos hi]
       exact ⟨rfl, vb_t (vb_t HWW.out HBA.out) hb1⟩
      ·rw [HP.out, HT.out, if_neg (by rw [hi]; decide)]
       exact ⟨rfl, _, _, _, hj1, HMA.out.trans hm1⟩
     ·have hk1 : ((kd : Int) == 1) = false := by simp; omega
      have HT : Hid (tokenR (rlR (LMof lm)) rdR ⟨kd, tx, fr, te⟩ p = .error (fr + 1)) := hid_intro (by have hn := HNX.out; have he := HEB.out; unfold tokenR; rw [if_neg (fun h => by have := h.2; omega), if_neg (by omega), if_neg (by omega), if_neg (fun h => k1 h.2), if_neg (by omega)])
      clear k1 x44 x58
      go_wp2_with fail
      rw [HP.out, HT.out]
      exact ⟨by simp, vb_t HWW.out HBA.out⟩
    | false =>
     by_cases k1 : kd = 1
     ·have hk1 : ((kd : Int) == 1) = true := by simp; omega
      have HT : Hid (tokenR (rlR (LMof lm)) rdR ⟨kd, tx, fr, te⟩ p = if inK ⟨tx.toArray⟩ h.ks = true then .error te else .ok { p with hs := p.hs.dropLast ++ [((lastP p).1, (lastP p).2.1, (lastP p).2.2 ++ [⟨tx.toArray⟩])], nx := 4 }) := hid_intro (by have hn := HNX.out; have he := HEB.out; have hl := HLA.out; unfold tokenR; rw [if_neg (fun h => by have := he.2 h.1; cases this), if_neg (by omega), if_neg (by omega), if_pos ⟨by omega, k1⟩]; unfold keyedR; rw [hl])
      clear k1 x44 x58
      go_wp2_with (go_at_call 40; refine (HKE.out _ _ _ _ rfl rfl rfl rfl).mono ?_; rintro r w1 (⟨hi, rfl, hb1⟩ | ⟨hi, rfl, kv1, hj1, hm1⟩))
      ·rw [HP.out, HT.out, if_pos hi]
       exact ⟨rfl, vb_t (vb_t HWW.out HBA.out) hb1⟩
      ·rw [HP.out, HT.out, if_neg (by rw [hi]; decide)]
       exact ⟨rfl, _, _, _, hj1, HMA.out.trans hm1⟩
     ·have hk1 : ((kd : Int) == 1) = false := by simp; omega
      have HT : Hid (tokenR (rlR (LMof lm)) rdR ⟨kd, tx, fr, te⟩ p = .error (fr + 1)) := hid_intro (by have hn := HNX.out; have he := HEB.out; unfold tokenR; rw [if_neg (fun h => by have := he.2 h.1; cases this), if_neg (by omega), if_neg (by omega), if_neg (fun h => k1 h.2), if_neg (by omega)])
      clear k1 x44 x58
      go_wp2_with fail
      rw [HP.out, HT.out]
      exact ⟨by simp, vb_t HWW.out HBA.out⟩
   by_cases n4 : nx = 4
   ·have HN0 := hid_intro n4
    have b0 : ((nx : Int) == 0) = false := by simp; omega
    have b1 : ((nx : Int) == 1) = false := by simp; omega
    have b2 : ((nx : Int) == 2) = false := by simp; omega
    have b3 : ((nx : Int) == 3) = false := by simp; omega
    have b4 : ((nx : Int) == 4) = true := by simp; omega
    have b5 : ((nx : Int) == 5) = false := by simp; omega
    cases en with
    | true =>
     by_cases c58 : sx = [58]
     ·rw [decide_eq_true c58] at x58
      have HT : Hid (tokenR (rlR (LMof lm)) rdR ⟨kd, tx, fr, te⟩ p = .ok { p with nx := 0 }) := hid_intro (by have hn := HNX.out; have he := HEB.out; unfold tokenR; rw [if_neg (fun h => by have := h.2; omega), if_neg (by omega), if_pos ⟨by omega, (HS4.out [58] (by decide)).1 c58⟩])
      clear c58 x44
      go_wp2_with fail
      rw [HP.out, HT.out]
      exact ⟨rfl, _, _, _, (HNXS.out 0 0).1, HMA.out.trans (Mv.rb ((But.refl _ _).setr _))⟩
     ·rw [decide_eq_false c58] at x58
      have HT : Hid (tokenR (rlR (LMof lm)) rdR ⟨kd, tx, fr, te⟩ p = .error (fr + 1)) := hid_intro (by have hn := HNX.out; have he := HEB.out; unfold tokenR; rw [if_neg (fun h => by have := h.2; omega), if_neg (by omega), if_neg (fun h => c58 ((HS4.out [58] (by decide)).2 h.2)), if_neg (by omega), if_neg (by omega)])
      clear c58 x44
      go_wp2_with fail
      rw [HP.out, HT.out]
      exact ⟨by simp, vb_t HWW.out HBA.out⟩
    | false =>
     by_cases c58 : sx = [58]
     ·rw [decide_eq_true c58] at x58
      have HT : Hid (tokenR (rlR (LMof lm)) rdR ⟨kd, tx, fr, te⟩ p = .ok { p with nx := 0 }) := hid_intro (by have hn := HNX.out; have he := HEB.out; unfold tokenR; rw [if_neg (fun h => by have := he.2 h.1; cases this), if_neg (by omega), if_pos ⟨by omega, (HS4.out [58] (by decide)).1 c58⟩])
      clear c58 x44
      go_wp2_with fail
      rw [HP.out, HT.out]
      exact ⟨rfl, _, _, _, (HNXS.out 0 0).1, HMA.out.trans (Mv.rb ((But.refl _ _).setr _))⟩
     ·rw [decide_eq_false c58] at x58
      have HT : Hid (tokenR (rlR (LMof lm)) rdR ⟨kd, tx, fr, te⟩ p = .error (fr + 1)) := hid_intro (by have hn := HNX.out; have he := HEB.out; unfold tokenR; rw [if_neg (fun h => by have := he.2 h.1; cases this), if_neg (by omega), if_neg (fun h => c58 ((HS4.out [58] (by decide)).2 h.2)), if_neg (by omega), if_neg (by omega)])
      clear c58 x44
      go_wp2_with fail
      rw [HP.out, HT.out]
      exact ⟨by simp, vb_t HWW.out HBA.out⟩
   have b0 : ((nx : Int) == 0) = false := by simp; omega
   have b1 : ((nx : Int) == 1) = false := by simp; omega
   have b2 : ((nx : Int) == 2) = false := by simp; omega
   have b3 : ((nx : Int) == 3) = false := by simp; omega
   have b4 : ((nx : Int) == 4) = false := by simp; omega
   have b5 : ((nx : Int) == 5) = false := by simp; omega
   cases en with
   | true =>
    have HT : Hid (tokenR (rlR (LMof lm)) rdR ⟨kd, tx, fr, te⟩ p = .error (fr + 1)) := hid_intro (by have hn := HNX.out; have he := HEB.out; unfold tokenR; rw [if_neg (fun h => by have := h.2; omega), if_neg (by omega), if_neg (by omega), if_neg (by omega), if_neg (by omega)])
    clear x44 x58
    go_wp2_with fail
    rw [HP.out, HT.out]
    exact ⟨by simp, vb_t HWW.out HBA.out⟩
   | false =>
    have HT : Hid (tokenR (rlR (LMof lm)) rdR ⟨kd, tx, fr, te⟩ p = .error (fr + 1)) := hid_intro (by have hn := HNX.out; have he := HEB.out; unfold tokenR; rw [if_neg (fun h => by have := he.2 h.1; cases this), if_neg (by omega), if_neg (by omega), if_neg (by omega), if_neg (by omega)])
    clear x44 x58
    go_wp2_with fail
    rw [HP.out, HT.out]
    exact ⟨by simp, vb_t HWW.out HBA.out⟩
theorem token_any [Ex] {W : World} {lm : Nat → Int} {rb N : Nat} {p : PR} {ov : Value} {hs : List HC} {f : Nat → Value} {w : World} (hJ : JR W lm rb N p ov hs f w) (hN : N ≤ 1048576) (hO : OpI p) (t : Lx.Tok) (ht : t.text.length ≤ 1048576) (hf : t.fr ≤ 1048576) (hnum : t.kind = 2 → ∃ q, cutL t.text = some q) (h2 : 0 ≤ lm 2 ∧ lm 2 ≤ 1000000) :
  Calls Tryz.prog 23 #[.pointer (some ⟨rb, 0, none⟩), Lx.tokV t] w (ToR W lm rb N ov hs (tokenR (rlR (LMof lm)) rdR t p) w) := by
 rcases List.eq_nil_or_concat hs with rfl | ⟨hs0, h, rfl⟩
 ·exact token_nil hJ hN hO t ht hf hnum h2
 ·rw [List.concat_eq_append] at hJ ⊢
  obtain ⟨ob, cap, rfl⟩ := own_at hJ.st.row (by simp)
  exact token_some hJ hN t ht hf hnum h2
end Go.Proofs.YtfoehebnmommfaaGreatDoor.R5
