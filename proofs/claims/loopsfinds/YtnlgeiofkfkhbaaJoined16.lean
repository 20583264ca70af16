/-
  Going depth first, in memory: one call, whole. Conditions: at most 1000 places.
-/
import Derived.Test.YtnlgeiofkfkhbaaJoined15
namespace Go.Proofs.Ytnlgeiofkfkhbaa
open Go.RowKit Go.Maps Lg
attribute [local go_sem] setCell_drewN alloc_drewN

theorem ent_search : ∀ args w, (callFunc 48 args).run Try.prog w = .ok (.enter 48 args) w := enters_of Try.func48 (by kernel_rfl) rfl
theorem ent_enter : ∀ args w, (callFunc 47 args).run Try.prog w = .ok (.enter 47 args) w := enters_of Try.func47 (by kernel_rfl) rfl
/-- What a call leaves. -/
def SrP (e : SV) (m : Nat) (R : Nat → List Nat) (P F A fin : List Nat) (res : Except (List Nat) (List Nat)) (w : World) (r : Ending) (w' : World) : Prop :=
  r = .returned (.tuple #[]) ∧ BX e w w' ∧ match res with
    | .ok fin' => ∃ D, fin' = fin ++ D ∧ SS w' e m R P F fin' (A ++ D) false
    | .error c => ∃ P' F' fin' A', P.length < P'.length ∧ SS w' e m R P' F' fin' A' true ∧ ∃ cv, Bk w' e.cy #[cv] ∧ II w' (fun b => b < e.B) (il c) cv
/-- Where a call's loop stands. -/
structure LpS (e : SV) (m : Nat) (R : Nat → List Nat) (f : Nat) (P F A fin : List Nat) (v k : Nat) (fin1 A1 : List Nat) (w wr : World) : Prop where
  ss : SS wr e m R (P ++ [v]) (F ++ [k]) fin1 A1 false
  mid : Mid R m e.stop fin fin1 P v ((R v).drop k)
  go : visit R e.stop (f + 1) fin P v = go e.stop (visit R e.stop f) P v ((R v).drop k) fin1
  ap : ∃ D, fin1 = fin ++ D ∧ A1 = A ++ D
  bx : BX e w wr
  le : k ≤ (R v).length
theorem LpS.bel {e : SV} {m : Nat} {R : Nat → List Nat} {f : Nat} {P F A fin : List Nat} {v k : Nat} {fin1 A1 : List Nat} {w wr w2 : World} (h : LpS e m R f P F A fin v k fin1 A1 w wr) (hb : Below wr.heap.size wr w2) : LpS e m R f P F A fin v k fin1 A1 w w2 :=
  ⟨h.ss.bel hb, h.mid, h.go, h.ap, h.bx.below hb, h.le⟩
theorem OwnI.dropped {w : World} {B g n cap : Nat} {l : List Nat} (h : OwnI w B (.slice (some ⟨g, 0, none⟩) n cap) (il l)) (hn : n = l.length) {j : Nat} (X : Nat → Prop) (hX : ¬ X g) : II w X (il (l.drop j)) (.slice (some ⟨g, j, none⟩) (n - j) (cap - j)) := by
  subst hn
  obtain ⟨ao, cap', e, h1, h2, _, _⟩ := h.form
  injection e with e1 e2 e3
  subst e3
  rw [il_len] at h1
  refine ⟨some ⟨g, j, none⟩, cap - j, by rw [il_len, List.length_drop], by rw [il_len, List.length_drop]; omega, by omega, fun x hx => h.2 x ?_, Or.inr ⟨g, j, rfl, hX, fun i hi => ?_⟩⟩
  · unfold il at hx ⊢
    obtain ⟨y, hy, rfl⟩ := List.mem_map.1 hx
    exact List.mem_map.2 ⟨y, List.mem_of_mem_drop hy, rfl⟩
  · rw [il_len, List.length_drop] at hi
    have hc := (h.at (by rw [il_len]) (j := j + i) (by rw [il_len]; omega)).1
    rw [hc, il_at (by omega), il_at (by rw [List.length_drop]; omega), List.getElem_drop]
theorem SS.path {w : World} {e : SV} {m : Nat} {R : Nat → List Nat} {P F fin A : List Nat} {ov : Bool} (h : SS w e m R P F fin A ov) : ∃ ao cap, w.cell? ⟨e.B + 3, 0, none⟩ = some (.slice ao P.length cap) ∧ OwnI w (e.B + 12) (.slice ao P.length cap) (il P) := by
  obtain ⟨c, ⟨vp, vf, va, kp, kf, ka, op, _⟩, _⟩ := h
  obtain ⟨ao, cap, rfl, _⟩ := op.form
  rw [il_len] at kp op
  exact ⟨ao, cap, kp.q1, op⟩
theorem SS.frz {w : World} {e : SV} {m : Nat} {R : Nat → List Nat} {P F fin A : List Nat} {ov : Bool} (h : SS w e m R P F fin A ov) : w.frozen? ⟨e.B + 3, 0, none⟩ = false ∧ w.frozen? ⟨e.B + 4, 0, none⟩ = false := by
  obtain ⟨c, ⟨vp, vf, va, kp, kf, ka, op, _⟩, _⟩ := h
  exact ⟨kp.frz 0, kf.frz 0⟩
/-- The last one on the path is left. -/
theorem SS.out {W2 W3 w3 : World} {e : SV} {m : Nat} {R : Nat → List Nat} {P F fin A : List Nat} {v k pg pc fg fc cnt : Nat} (h : SS W2 e m R (P ++ [v]) (F ++ [k]) fin A false) (o : Op2 W2 e m v k P F pg pc fg fc) (hF : F.length = P.length)
    (hb3 : But (fun b => b = e.B + 3 ∨ b = e.B + 4) W2 W3) (kp' : Bk W3 (e.B + 3) #[.slice (some ⟨pg, 0, none⟩) P.length pc]) (kf' : Bk W3 (e.B + 4) #[.slice (some ⟨fg, 0, none⟩) P.length fc])
    (hm3 : PM w3 (e.B + 5) cnt (fun u => if u = (v : Int) then none else hgt (P ++ [v]) u)) (hg3 : W3.drew.grownBy w3 (some (e.B + 5))) (hcn : cnt ≤ (P ++ [v]).length + fin.length) (hv : v ∉ P) (hvm : v < m) :
    w3.cell? ⟨e.B + 8, 0, none⟩ = some (.slice (some ⟨e.B + 7, 0, none⟩) m m) ∧ w3.cell? ⟨e.B + 7, v, none⟩ = some (.bool (decide (v ∈ fin))) ∧ w3.frozen? ⟨e.B + 7, v, none⟩ = false ∧
    SS (w3.setCell ⟨e.B + 7, v, none⟩ (.bool true)) e m R P F (fin ++ [v]) A false ∧ BX e W2 (w3.setCell ⟨e.B + 7, v, none⟩ (.bool true)) := by
  have hb : But (fun b => b = e.B + 3 ∨ b = e.B + 4 ∨ b = e.B + 5) W2 w3 := ((hb3.more (fun b h => by omega)).drew).grown hg3 (fun b h => Or.inl (by injection h with h; omega))
  have k8 := h.c.kt.but hb (by omega)
  have k7 := h.lf.but hb (by omega)
  have hw : But (fun b => b = e.B + 3 ∨ b = e.B + 4 ∨ b = e.B + 5 ∨ b = e.B + 7) W2 (w3.setCell ⟨e.B + 7, v, none⟩ (.bool true)) := (hb.more (fun b h => by omega)).set (p := ⟨e.B + 7, v, none⟩) (Or.inl (Or.inr (Or.inr (Or.inr rfl)))) _
  have key : ∀ b cs, Bk W3 b cs → b ≠ e.B + 5 → b ≠ e.B + 7 → Bk (w3.setCell ⟨e.B + 7, v, none⟩ (.bool true)) b cs := fun b cs h h5 h7 => (h.dw.gr hg3 (fun h => h5 (by injection h with h; exact h.symm))).away h7
  refine ⟨k8.q1, (k7.cell v).trans (lfs_at fin hvm), k7.frz v, h.pop o hw (key _ _ kp' (by omega) (by omega)) (hF ▸ key _ _ kf' (by omega) (by omega)) ((hm3.ext (fun x hx => hgt_pop hv x hx)).blk (Below.heap_setCell _ _ _ _ (by show e.B + 5 ≠ e.B + 7; omega))) (by simp at hcn; omega) (k7.set v _ (lfs_set m v fin))⟩
/-- What the variables that no step turns hold. -/
structure Vs (w : World) (e : SV) (m : Nat) (ov : Bool) : Prop where
  v1 : w.cell? ⟨e.B + 1, 0, none⟩ = some e.lv
  v2 : w.cell? ⟨e.B + 2, 0, none⟩ = some e.cl
  v6 : w.cell? ⟨e.B + 6, 0, none⟩ = some (.map (some (e.B + 5)))
  v8 : w.cell? ⟨e.B + 8, 0, none⟩ = some (.slice (some ⟨e.B + 7, 0, none⟩) m m)
  v9 : w.cell? ⟨e.B + 9, 0, none⟩ = some (.bool ov) ∧ w.frozen? ⟨e.B + 9, 0, none⟩ = false
  v10 : w.cell? ⟨e.B + 10, 0, none⟩ = some e.en
  v11 : w.cell? ⟨e.B + 11, 0, none⟩ = some e.se
theorem SS.vs {w : World} {e : SV} {m : Nat} {R : Nat → List Nat} {P F fin A : List Nat} {ov : Bool} (h : SS w e m R P F fin A ov) : Vs w e m ov :=
  ⟨h.c.kl.q1, h.c.kc.q1, h.c.kh.q1, h.c.kt.q1, ⟨h.ko.q1, h.ko.frz 0⟩, h.c.ke.q1, h.c.ks.q1⟩
theorem hgt_in {P : List Nat} {t : Nat} (h : t ∈ P) : hgt P (t : Int) = some ((P.idxOf t : Nat) : Int) := by
  unfold hgt
  rw [if_pos (by unfold il; exact List.mem_map.2 ⟨t, h, rfl⟩)]; rfl
theorem hgt_out {P : List Nat} {t : Nat} (h : t ∉ P) : hgt P (t : Int) = none := by
  unfold hgt
  rw [if_neg]
  unfold il
  intro k
  obtain ⟨y, hy, e⟩ := List.mem_map.1 k
  exact h (by have : y = t := by omega
              exact this ▸ hy)

set_option maxRecDepth 100000 in
set_option maxHeartbeats 6400000 in
theorem search_any (e : SV) (m : Nat) (R : Nat → List Nat) (hm : m ≤ 1000) (hR : ∀ v, ∀ t ∈ R v, t < m) (hRl : ∀ v, (R v).length ≤ 1048576) (hK : PutOK e.K) (hent : ∀ args w, (callFunc e.K args).run Try.prog w = .ok (.enter e.K args) w) :
    ∀ (f : Nat) (P : List Nat) (v : Nat) (F fin A : List Nat) (w : World), Pre R m fin P v → F.length = P.length → A.length ≤ fin.length → m + 1 ≤ f + (P ++ [v]).length → SS w e m R (P ++ [v]) (F ++ [0]) fin A false →
    Calls Try.prog 48 #[.int .i64 (P.length : Int), pt (e.B + 3), pt (e.B + 4), pt e.B, pt (e.B + 6), pt (e.B + 2), pt (e.B + 9), pt (e.B + 8), pt (e.B + 10), pt (e.B + 11), pt (e.B + 1)] w (SrP e m R P F A fin (visit R e.stop f fin P v) w) := by
  intro f
  induction f with
  | zero =>
    intro P v F fin A w hP hF hA hf hS
    have := hP.len
    omega
  | succ f ih =>
    intro P v F fin A w hP hF hA hf hS
    obtain ⟨Q0, hQ0⟩ : ∃ P' : Ending → World → Prop, P' = SrP e m R P F A fin (visit R e.stop (f + 1) fin P v) w := ⟨_, rfl⟩
    rw [← hQ0]
    have HQ := hid_intro hQ0
    have HPRE := hid_intro hP
    have HF := hid_intro hF
    have HA := hid_intro hA
    have HIH := hid_intro ih
    have HMM := hid_intro (And.intro hm (And.intro hf hP.len))
    have HRR := hid_intro (And.intro hR hRl)
    have HKK := hid_intro (And.intro hK hent)
    have hlen := hP.len
    have hPI : (P.length : Int) ≤ 1000 := by have := hP.len; simp only [List.length_append] at this; omega
    have hvm : v < m := hP.lt v (by simp)
    have hvI : (v : Int) < (m : Int) := by omega
    have hmI : (m : Int) ≤ 1000 := by omega
    have HSS := hid_intro hS
    have HL0 : Hid (LpS e m R f P F A fin v 0 fin A w w) := hid_intro ⟨hS, by rw [List.drop_zero]; exact Mid.start hP, by rw [List.drop_zero]; rfl, ⟨[], by simp, by simp⟩, BX.refl _ _, Nat.zero_le _⟩
    obtain ⟨pg, pc, fg, fc, ho⟩ := hS.opn
    have c0 := ho.kp
    have c1 := ho.cp
    have hp1 := ho.hp
    obtain ⟨B, ab, cy, K, stop, x0⟩ := e
    dsimp only [pt] at *
    have hpcI : ((P.length : Nat) : Int) + 1 ≤ (pc : Int) := by omega
    clear hQ0 hP hF hA ih hm hf hR hRl hlen hvm hS ho hK hent hp1
    go_enter Try.func48, Try.ntmps48
    go_wp2_with fail
    go_loopg [14, 15, 16] ((R v).length) (fun g s14 s15 s16 wr => ∃ (k : Nat) (fin1 A1 : List Nat), g = (R v).length - k ∧ Hid (LpS ⟨B, ab, cy, K, stop, x0⟩ m R f P F A fin v k fin1 A1 w wr))
    case atStart => exact ⟨0, fin, A, rfl, HL0⟩
    case round =>
      obtain ⟨k, fin1, A1, rfl, HL⟩ := hrel
      obtain ⟨pg', pc', fg, fc, ho⟩ := HL.out.ss.opn
      have hFl := HF.out
      obtain ⟨op1, op2, op3, op4, op5, op6, op7⟩ := ho
      rw [hFl] at op2 op4 op5 op7
      obtain ⟨rg, kr, mx⟩ := HL.out.ss.c.kr
      obtain ⟨rv, hr0, hri⟩ := mx.at (show v < m by have := hvI; omega)
      obtain ⟨ao, rc, rfl, hr1, hr2, _, hr4⟩ := hri
      rw [il_len] at hr0 hr1 hr4
      have kr0 := kr.q1
      have hRlI : (((R v).length : Nat) : Int) ≤ 1048576 := by have := HRR.out.2 v; omega
      dsimp only at op1 op2 op3 op4 op5 kr0
      have hkl := HL.out.le
      have hkI : (k : Int) ≤ ((R v).length : Int) := by omega
      have HOP := hid_intro (And.intro op6 op7)
      have hfcI : ((P.length : Nat) : Int) + 1 ≤ (fc : Int) := by omega
      clear kr mx hr1 hr2 hFl op6 op7 c0 c1
      by_cases hlt : k < (R v).length
      · have hltI : (k : Int) < ((R v).length : Int) := by omega
        have hdec : decide ((k : Int) < ((R v).length : Int)) = true := decide_eq_true hltI
        obtain ⟨rb, off, rfl, _, hcell⟩ := hr4.resolve_left (fun e => by have := congrArg List.length e; rw [il_len] at this; simp at this; rw [this] at hlt; simp at hlt)
        have hc := hcell k hlt
        rw [il_at hlt] at hc
        obtain ⟨t, ht⟩ : ∃ t, (R v)[k] = t := ⟨_, rfl⟩
        have HTM := hid_intro (show t ∈ R v from ht ▸ List.getElem_mem hlt)
        have HDR := hid_intro (show (R v).drop k = t :: (R v).drop (k + 1) from ht ▸ drop_at hlt)
        rw [ht] at hc
        have HLT := hid_intro hlt
        have htI : (t : Int) < (m : Int) := by have := HRR.out.1 v t HTM.out; omega
        clear hcell hr4 hkl ht hlt
        go_wp2_with fail
        go_quiet (fail)
        generalize nq = n1
        go_wp2_with fail
        go_quiet (fail)
        obtain ⟨W2, hW2⟩ : ∃ W2, (wr.drewN n1).drewN nq = W2 := ⟨_, rfl⟩
        have HL2 := hid_intro (HL.out.bel (w2 := W2) (hW2 ▸ vb_n (vb_n (Below.refl _ _) _) _))
        rw [hW2]
        clear op1 op2 op3 op4 op5 hr0 kr0 hc hdec hW2 HL
        obtain ⟨pg2, pc2, fg2, fc2, ho2⟩ := HL2.out.ss.opn
        have HBU := hid_intro (HL2.out.ss.bump ho2 (by have := HLT.out; have := HRR.out.2 v; omega))
        obtain ⟨op1, op2, op3, op4, op5, op6, op7⟩ := ho2
        rw [HF.out] at op2 op4 op5 op7 HBU
        have hfcJ : ((P.length : Nat) : Int) + 1 ≤ (fc2 : Int) := by omega
        obtain ⟨W3, hW3⟩ : ∃ W3, W2.setCell ⟨fg2, P.length, none⟩ (.int .i64 ((k : Int) + 1)) = W3 := ⟨_, rfl⟩
        have hvs := HBU.out.1.vs
        rw [hW3] at hvs HBU
        have hmp := HBU.out.1.mp
        obtain ⟨cnt, hmp, hcnt⟩ := hmp
        have HPM := hid_intro hmp
        have HTI := hid_intro (show I64 (t : Int) from ⟨by omega, by omega⟩)
        have hkw : IntKind.i64.wrap ((k : Int) + 1) = (k : Int) + 1 := by simp [IntKind.wrap, IntKind.bits, IntKind.signed]; omega
        obtain ⟨v1, v2, v6, v8, v9, v10, v11⟩ := hvs
        dsimp only [SV.lv, SV.en, SV.se, pt] at op1 op2 op3 op4 op5 v1 v2 v6 v8 v9 v10 v11
        clear hmp hcnt op6 op7
        by_cases h1 : t ∈ P ++ [v]
        · have HH := hid_intro (hgt_in h1)
          have hlk : (hgt (P ++ [v]) (t : Int)).isSome = true := by rw [HH.out]; rfl
          go_wp2_with (at_lookup; refine wpList_look_pm rfl _ _ rfl (B + 5) cnt _ rfl HPM.out (t : Int) rfl HTI.out ?_; intro z hz; rw [hlk]; have hz := hz _ HH.out; subst hz)
          obtain ⟨pg3, pc3, fg3, fc3, ho3⟩ := HBU.out.1.opn
          have HO3 := hid_intro ho3
          have e3 := ho3.kp
          dsimp only at e3
          have hj : (((P ++ [v]).idxOf t : Nat) : Int) ≤ (P.length : Int) := by
            have := List.idxOf_lt_length_of_mem h1
            simp only [List.length_append, List.length_cons, List.length_nil] at this
            omega
          have hpc3 : ((P.length : Nat) : Int) + 1 ≤ (pc3 : Int) := by have := ho3.hp; omega
          have hj1 : (((P ++ [v]).idxOf t : Nat) : Int) ≤ (P.length : Int) + 1 := by omega
          have hj2 : (((P ++ [v]).idxOf t : Nat) : Int) ≤ (pc3 : Int) := by omega
          have HLO := hid_intro HBU.out.1.c.lo
          have HS : Hid (∀ w', But (fun b => b = B + 9 ∨ b = cy) W3 w' → w'.cell? ⟨B + 2, 0, none⟩ = some (SV.cl ⟨B, ab, cy, K, stop, x0⟩) ∧ w'.cell? ⟨B + 3, 0, none⟩ = some (.slice (some ⟨pg3, 0, none⟩) (P.length + 1) pc3)) := hid_intro (fun w' hb => by
            have hlo := HLO.out
            dsimp only at hlo
            obtain ⟨vp, vf, va, kp, _⟩ := HBU.out.1.ro
            have k1 : Bk w' (B + 2) #[_] := HBU.out.1.c.kc.but hb (by dsimp only; omega)
            have k2 : Bk w' (B + 3) #[vp] := kp.but hb (by dsimp only; omega)
            have hvp : vp = .slice (some ⟨pg3, 0, none⟩) (P.length + 1) pc3 := by
              have := kp.q1
              dsimp only at this
              rw [e3] at this
              injection this with this
              exact this.symm
            exact ⟨k1.q1, hvp ▸ k2.q1⟩)
          generalize hjd : (P ++ [v]).idxOf t = j at *
          have HJD := hid_intro (And.intro hjd h1)
          clear hjd
          clear ho3 e3 v1 v2 v6 v8 v10 v11 op1 op2 op3 op4 op5 HH hlk hW3 hkw
          cases stop with
          | false =>
            dsimp only [SV.cl] at HS
            simp only [Bool.false_eq_true, if_false] at HS
            go_region_held3 (fun w' => w'.cell? ⟨B + 2, 0, none⟩ = some (.func (.func 38) #[] #[]) ∧ w'.cell? ⟨B + 3, 0, none⟩ = some (.slice (some ⟨pg3, 0, none⟩) (P.length + 1) pc3)) (first | (refine HS.out _ ?_; (with_reducible repeat (first | exact But.refl _ _ | refine But.drew ?_ | refine But.set ?_ (Or.inl (by first | exact Or.inl rfl | exact Or.inr rfl)) _)); done) | fail) (first | (go_at_call 38; refine (goOn_any _ _).mono ?_; rintro e w4 ⟨rfl, rfl⟩) | fail)
            have HN : Hid (LpS ⟨B, ab, cy, K, false, x0⟩ m R f P F A fin v (k + 1) fin1 A1 w (W3.setCell ⟨B + 9, 0, none⟩ (.bool false)).drew) := hid_intro (by
              obtain ⟨o1, o2⟩ := HBU.out.1.over false
              have hmid := HL2.out.mid
              have hgo := HL2.out.go
              rw [HDR.out] at hmid hgo
              refine ⟨o1.bel (vb_d (Below.refl _ _)), Mid.onPath hmid HJD.out.2, ?_, HL2.out.ap, ((HL2.out.bx.trans HBU.out.2).trans o2).drew, HLT.out⟩
              rw [hgo, go_path HJD.out.2]
              rfl)
            go_wp2_with fail
            go_roundg ((R v).length - (k + 1))
            case measure => have := HLT.out; omega
            case rel => exact ⟨k + 1, fin1, A1, rfl, HN⟩
          | true =>
            dsimp only [SV.cl, pt] at HS
            simp only [if_true] at HS
            obtain ⟨x, kx, _⟩ := HBU.out.1.kx
            have HKX := hid_intro kx
            have hcy : ¬ cy = B + 9 := by have := HLO.out; dsimp only at this; omega
            have v9b : ∀ u, (W3.setCell ⟨cy, 0, none⟩ u).cell? ⟨B + 9, 0, none⟩ = some (.bool false) ∧ (W3.setCell ⟨cy, 0, none⟩ u).frozen? ⟨B + 9, 0, none⟩ = false := fun u => (HBU.out.1.tell rfl u).1.vs.v9
            clear kx
            go_region_held3 (fun w' => w'.cell? ⟨B + 2, 0, none⟩ = some (.func (.func 36) #[] #[.pointer (some ⟨cy, 0, none⟩)]) ∧ w'.cell? ⟨B + 3, 0, none⟩ = some (.slice (some ⟨pg3, 0, none⟩) (P.length + 1) pc3)) (first | (refine HS.out _ ?_; (with_reducible repeat (first | exact But.refl _ _ | refine But.drew ?_ | refine But.set ?_ (Or.inl (by first | exact Or.inl rfl | exact Or.inr rfl)) _)); done) | fail) (first | (go_at_call 36; refine (met_any cy x _ _ _ _ _ HKX.out.dw rfl).mono ?_; rintro e w4 ⟨rfl, rfl⟩) | fail)
            have HFIN : Hid (SrP ⟨B, ab, cy, K, true, x0⟩ m R P F A fin (visit R true (f + 1) fin P v) w (.returned (.tuple #[])) ((W3.setCell ⟨cy, 0, none⟩ (.slice (some ⟨pg3, j, none⟩) (P.length + 1 - j) (pc3 - j))).setCell ⟨B + 9, 0, none⟩ (.bool true)).drew) := hid_intro (by
              obtain ⟨o1, o2, o3⟩ := HBU.out.1.tell rfl (.slice (some ⟨pg3, j, none⟩) (P.length + 1 - j) (pc3 - j))
              obtain ⟨p1, p2⟩ := o1.over true
              have hgo := HL2.out.go
              rw [HDR.out, go_path HJD.out.2, if_pos rfl, HJD.out.1] at hgo
              refine ⟨rfl, (((HL2.out.bx.trans HBU.out.2).trans o2).trans p2).drew, ?_⟩
              rw [show visit R true (f + 1) fin P v = _ from hgo]
              refine ⟨P ++ [v], F ++ [k + 1], fin1, A1, by simp, p1.bel (vb_d (Below.refl _ _)), _, (o3.away hcy).dw, ?_⟩
              obtain ⟨ao, cap, q1, q2⟩ := HBU.out.1.path
              have q3 := HO3.out.kp
              rw [q1] at q3
              injection q3 with q3
              rw [q3] at q2
              have hlt := (q2.lt rfl).1
              have hlo := HLO.out
              dsimp only at hlt hlo
              refine (q2.dropped (by simp) (fun b => b = cy ∨ b = B + 9 ∨ b < B) (by omega)).carry (fun b hb _ => ⟨?_, fun h => hb (Or.inr (Or.inr h))⟩)
              exact (Below.heap_setCell _ _ _ _ (fun h => hb (Or.inr (Or.inl h)))).trans (Below.heap_setCell _ _ _ _ (fun h => hb (Or.inl h))))
            go_wp2_with fail
            go_end0
            rw [HQ.out]
            exact HFIN.out
        · have HH := hid_intro (hgt_out h1)
          have HN1 := hid_intro h1
          have hlk : (hgt (P ++ [v]) (t : Int)).isSome = false := by rw [HH.out]; rfl
          have l7 := (HBU.out.1.lf.cell t).trans (lfs_at fin1 (by omega))
          dsimp only at l7
          by_cases h2 : t ∈ fin1
          · have HN2 := hid_intro h2
            rw [decide_eq_true h2] at l7
            clear h2 h1 HH
            go_wp2_with (at_lookup; refine wpList_look_pm rfl _ _ rfl (B + 5) cnt _ rfl HPM.out (t : Int) rfl HTI.out ?_; intro z hz; rw [hlk]; clear hz)
            go_roundg ((R v).length - (k + 1))
            case measure => have := HLT.out; omega
            case rel =>
              have hmid := HL2.out.mid
              have hgo := HL2.out.go
              rw [HDR.out] at hmid hgo
              exact ⟨k + 1, fin1, A1, rfl, hid_intro ⟨HBU.out.1, Mid.isLeft hmid HN2.out, by rw [hgo, go_left HN1.out HN2.out], HL2.out.ap, HL2.out.bx.trans HBU.out.2, HLT.out⟩⟩
          · have HN2 := hid_intro h2
            rw [decide_eq_false h2] at l7
            have HM := HL2.out.mid
            rw [HDR.out] at HM
            have hpre : Pre R m fin1 (P ++ [v]) t := Mid.enter HRR.out.1 HM HTM.out h1 h2
            have hlen1 := HL2.out.mid.pre.len
            have HCE := hid_intro (enter_any ⟨B, ab, cy, K, stop, x0⟩ m R (P ++ [v]) (F ++ [k + 1]) fin1 A1 false t W3 (by omega) (by simp [HF.out]) hlen1 (by omega) h1 HBU.out.1)
            have hA1 : A1.length ≤ fin1.length := by
              obtain ⟨D, e1, e2⟩ := HL2.out.ap
              rw [e1, e2, List.length_append, List.length_append]
              have := HA.out; omega
            have HCS := hid_intro (fun w4 hs4 => HIH.out (P ++ [v]) t (F ++ [k + 1]) fin1 A1 w4 hpre (by simp [HF.out]) hA1 (by have := HMM.out.2.1; simp only [List.length_append, List.length_cons, List.length_nil] at this ⊢; omega) hs4)
            rw [show (((P ++ [v]).length : Nat) : Int) = (P.length : Int) + 1 by simp] at HCS
            have hsays := visit_says (stop := stop) HRR.out.1 f fin1 (P ++ [v]) t hpre (by have := HMM.out.2.1; simp only [List.length_append, List.length_cons, List.length_nil] at this ⊢; omega)
            have hgo := HL2.out.go
            rw [HDR.out, go_new h1 h2] at hgo
            dsimp only at hgo
            have hdI : ¬ (P.length : Int) = 1000 := by simp only [List.length_append, List.length_cons, List.length_nil] at hlen1; omega
            obtain ⟨S1, hS1⟩ : ∃ S : Ending → World → Prop, S = fun r w' => r = .returned (.tuple #[]) ∧ SS w' ⟨B, ab, cy, K, stop, x0⟩ m R (P ++ [v] ++ [t]) (F ++ [k + 1] ++ [0]) fin1 A1 false ∧ BX ⟨B, ab, cy, K, stop, x0⟩ W3 w' := ⟨_, rfl⟩
            have HS1 := hid_intro hS1
            rw [← hS1] at HCE
            dsimp only [pt] at HCE
            have HGO := hid_intro hgo
            have HMD := hid_intro HM
            clear hS1 hpre hlen1 hA1 h1 h2 HM hgo
            generalize hvr : visit R stop f fin1 (P ++ [v]) t = res at *
            have HSAY := hid_intro hsays
            clear hsays hvr
            cases res with
            | ok fin2 =>
              go_wp2_with (first | (at_lookup; refine wpList_look_pm rfl _ _ rfl (B + 5) cnt _ rfl HPM.out (t : Int) rfl HTI.out ?_; intro z hz; rw [hlk]; clear hz) | (refine wpList_clo1 rfl _ _ _ rfl _ _ rfl ent_enter _ rfl S1 ?_ ?_ ?_; exact HCE.out; rotate_left; (intro e w' h; rw [HS1.out] at h; exact ⟨_, h.1⟩); intro v4 w4 hs4; rw [HS1.out] at hs4; obtain ⟨hv4, hs4, hb4⟩ := hs4; injection hv4 with hv4; subst hv4; have u11 := hs4.vs.v11; dsimp only [SV.se, pt] at u11; have HB4 := hid_intro hb4; have H5 := hid_intro (HCS.out w4 hs4); clear v1 v2 v6 v8 v9 v10 v11 l7 hs4 hb4) | fail)
              refine H5.out.mono ?_
              rintro e w5 ⟨rfl, hb5, D, hD, hs5⟩
              obtain ⟨pao, pcap, q1, _⟩ := hs5.path
              rw [show (P ++ [v]).length = P.length + 1 by simp] at q1
              have HS5 := hid_intro (And.intro hD (And.intro hb5 hs5))
              dsimp only at q1
              clear u11 hs5 hb5 hD H5 HCE HCS
              go_wp2_with fail
              go_roundg ((R v).length - (k + 1))
              case measure => have := HLT.out; omega
              case rel =>
                refine ⟨k + 1, fin2, A1 ++ D, rfl, hid_intro ⟨HS5.out.2.2, Mid.back HMD.out HTM.out HSAY.out, HGO.out, ?_, ((HL2.out.bx.trans HBU.out.2).trans HB4.out).trans HS5.out.2.1, HLT.out⟩⟩
                obtain ⟨D0, e1, e2⟩ := HL2.out.ap
                exact ⟨D0 ++ D, by rw [HS5.out.1, e1, List.append_assoc], by rw [e2, List.append_assoc]⟩
            | error c =>
              go_wp2_with (first | (at_lookup; refine wpList_look_pm rfl _ _ rfl (B + 5) cnt _ rfl HPM.out (t : Int) rfl HTI.out ?_; intro z hz; rw [hlk]; clear hz) | (refine wpList_clo1 rfl _ _ _ rfl _ _ rfl ent_enter _ rfl S1 ?_ ?_ ?_; exact HCE.out; rotate_left; (intro e w' h; rw [HS1.out] at h; exact ⟨_, h.1⟩); intro v4 w4 hs4; rw [HS1.out] at hs4; obtain ⟨hv4, hs4, hb4⟩ := hs4; injection hv4 with hv4; subst hv4; have u11 := hs4.vs.v11; dsimp only [SV.se, pt] at u11; have HB4 := hid_intro hb4; have H5 := hid_intro (HCS.out w4 hs4); clear v1 v2 v6 v8 v9 v10 v11 l7 hs4 hb4) | fail)
              refine H5.out.mono ?_
              rintro e w5 ⟨rfl, hb5, P5, F5, fin5, A5, hP5, hs5, hcv⟩
              obtain ⟨pao, pcap, q1, _⟩ := hs5.path
              have hP5I : (P.length : Int) + 1 < (P5.length : Int) := by simp only [List.length_append, List.length_cons, List.length_nil] at hP5; omega
              have HS5 := hid_intro (And.intro hP5 (And.intro hb5 (And.intro hs5 hcv)))
              dsimp only at q1
              clear u11 hs5 hb5 hcv hP5 H5 HCE HCS
              go_wp2_with fail
              go_end0
              rw [HQ.out]
              show SrP _ m R P F A fin (visit R stop (f + 1) fin P v) w _ _
              rw [HGO.out]
              exact ⟨rfl, ((HL2.out.bx.trans HBU.out.2).trans HB4.out).trans HS5.out.2.1, P5, F5, fin5, A5, by have := HS5.out.1; simp at this; omega, HS5.out.2.2.1, HS5.out.2.2.2⟩
      · have hkE : k = (R v).length := by omega
        have hltI : ¬ (k : Int) < ((R v).length : Int) := by omega
        have hdec : decide ((k : Int) < ((R v).length : Int)) = false := decide_eq_false hltI
        have HKE := hid_intro hkE
        clear hr4 hkl hlt hkE
        go_wp2_with fail
        go_quiet (fail)
        obtain ⟨W2, hW2⟩ : ∃ W2, wr.drewN nq = W2 := ⟨_, rfl⟩
        have HL2 := hid_intro (HL.out.bel (w2 := W2) (hW2 ▸ vb_n (Below.refl _ _) _))
        rw [hW2]
        clear op1 op2 op3 op4 op5 hr0 kr0 hdec hW2 HL
        obtain ⟨pg2, pc2, fg2, fc2, ho2⟩ := HL2.out.ss.opn
        have HO2 := hid_intro ho2
        obtain ⟨op1, op2, op3, op4, op5, op6, op7⟩ := ho2
        rw [HF.out] at op2 op4 op5 op7
        have hfcJ : ((P.length : Nat) : Int) ≤ (fc2 : Int) := by omega
        have hpcJ : ((P.length : Nat) : Int) ≤ (pc2 : Int) := by omega
        obtain ⟨v1, v2, v6, v8, v9, v10, v11⟩ := HL2.out.ss.vs
        dsimp only [SV.lv, SV.en, SV.se, pt] at op1 op2 op3 op4 op5 v1 v2 v6 v8 v9 v10 v11
        clear op6 op7
        obtain ⟨z3, z4⟩ := HL2.out.ss.frz
        dsimp only at z3 z4
        have f4 : ∀ u, (W2.setCell ⟨B + 3, 0, none⟩ u).cell? ⟨B + 4, 0, none⟩ = some (.slice (some ⟨fg2, 0, none⟩) (P.length + 1) fc2) := fun u => (World.cell?_setCell_far _ _ _ _ (by show B + 3 ≠ B + 4; omega)).trans op2
        have fz4 : ∀ u, (W2.setCell ⟨B + 3, 0, none⟩ u).frozen? ⟨B + 4, 0, none⟩ = false := fun u => (World.frozen?_setCell _ _ _ _).trans z4
        obtain ⟨W3, hW3⟩ : ∃ W3, (W2.setCell ⟨B + 3, 0, none⟩ (.slice (some ⟨pg2, 0, none⟩) P.length pc2)).setCell ⟨B + 4, 0, none⟩ (.slice (some ⟨fg2, 0, none⟩) P.length fc2) = W3 := ⟨_, rfl⟩
        have hb3 : But (fun b => b = B + 3 ∨ b = B + 4) W2 W3 := by
          rw [← hW3]
          exact ((But.refl (fun b => b = B + 3 ∨ b = B + 4) W2).set (p := ⟨B + 3, 0, none⟩) (Or.inl (Or.inl rfl)) _).set (p := ⟨B + 4, 0, none⟩) (Or.inl (Or.inr rfl)) _
        obtain ⟨cnt, hmp, hcnt⟩ := HL2.out.ss.mp
        have k6 : W3.cell? ⟨B + 6, 0, none⟩ = some (.map (some (B + 5))) := ((HL2.out.ss.c.kh).but hb3 (by dsimp only; omega)).q1
        have HPM := hid_intro ((hmp.but hb3 (by dsimp only; omega)).but (But.refl (fun _ => False) W3).drew (fun h => h))
        have HVI := hid_intro (show I64 (v : Int) from ⟨by omega, by omega⟩)
        have HB3 := hid_intro hb3
        have HK3 : Hid (Bk W3 (B + 3) #[.slice (some ⟨pg2, 0, none⟩) P.length pc2] ∧ Bk W3 (B + 4) #[.slice (some ⟨fg2, 0, none⟩) P.length fc2]) := hid_intro (by
          obtain ⟨c, ⟨vp, vf, va, kp, kf, ka, op, _⟩, _⟩ := HL2.out.ss
          rw [← hW3]
          exact ⟨(kp.set 0 _ rfl).away (by show B + 3 ≠ B + 4; omega), (kf.away (by show B + 4 ≠ B + 3; omega)).set 0 _ rfl⟩)
        have HCN := hid_intro hcnt
        clear hmp hcnt hb3 v1 v2 v8 v9 v10 v11
        have HNV := hid_intro (show v ∉ P by
          have := HPRE.out.nd
          rw [List.nodup_append] at this
          exact fun h => this.2.2 v h v (by simp) rfl)
        have hAf : A1.length ≤ 1048576 := by
          obtain ⟨D, e1, e2⟩ := HL2.out.ap
          have h1 := HL2.out.mid.pre.len
          have h2 := HA.out
          rw [e1] at h1
          rw [e2]
          simp only [List.length_append, List.length_cons, List.length_nil] at h1 ⊢
          omega
        have HAF := hid_intro hAf
        have HVM := hid_intro (show v < m by omega)
        clear hAf
        go_wp2_with fail
        go_region_law (fail)
        all_goals
          go_wp2_with (first | (at_delete; refine wpList_del_pm rfl _ _ rfl (B + 5) cnt _ rfl HPM.out (v : Int) rfl HVI.out ?_; intro w3 hm3 hg3; obtain ⟨u8, u7, z7, hs, hb⟩ := SS.out HL2.out.ss HO2.out HF.out HB3.out HK3.out.1 HK3.out.2 hm3 hg3 HCN.out HNV.out HVM.out; dsimp only at u8 u7 z7; have u1 := hs.vs.v1; dsimp only [SV.lv, pt] at u1; have HSO := hid_intro (And.intro hs hb); obtain ⟨vp, vf, va, _, _, ka, _, _, oa, _⟩ := hs.ro; have HKA := hid_intro ka; have HKC := hid_intro (HKK.out.1 ab (B + 12) v A1 va _ (by have := HVM.out; have := HMM.out; omega) HAF.out (by have := hs.c.lo; dsimp only at this; omega) hs.c.sz ka oa); clear hm3 hg3 hs hb ka oa k6) | (refine wpList_clo1 rfl _ _ _ rfl _ _ rfl HKK.out.2 _ rfl _ HKC.out ?_ ?_; rotate_left; (intro e w' h; exact ⟨_, h.1⟩); intro v4 w4 hs4; obtain ⟨hv4, va', r1, r2, r3, r4⟩ := hs4; injection hv4 with hv4; subst hv4; have HFI := hid_intro (SS.put HSO.out.1 HKA.out r3 r1 r2 r4); clear r1 r2 r3 r4) | fail)
          go_end0
          rw [HQ.out]
          show SrP _ m R P F A fin (visit R stop (f + 1) fin P v) w _ _
          have hgo := HL2.out.go
          rw [HKE.out, List.drop_length, go_nil] at hgo
          dsimp only at hgo
          rw [hgo]
          obtain ⟨D, e1, e2⟩ := HL2.out.ap
          exact ⟨rfl, (HL2.out.bx.trans HSO.out.2).trans HFI.out.2, D ++ [v], by rw [e1, List.append_assoc], by rw [← List.append_assoc, ← e2]; exact HFI.out.1⟩
end Go.Proofs.Ytnlgeiofkfkhbaa
