/-
  What rx.Text answers: the text of a tree that may be. Conditions: at most 2^20 nodes and ranges; the library's tables and the table of greatest code points as the program lays them.
  Whether ranges are a set, by the document's answer. Conditions: none.
-/
import Derived.Test.YtppilokmgdpnnaaGreatDoorJoined40
import Derived.Test.YtppilokmgdpnnaaGreatDoorJoined41
import Derived.Test.YtppilokmgdpnnaaGreatDoorJoined26
import Derived.BigQuiet
namespace Go.Proofs.YtppilokmgdpnnaaGreatDoor
open Go.RowKit Go.Sort
attribute [local go_sem] setCell_drewN alloc_drewN

mutual
/-- How much a tree is: its nodes and its ranges. -/
def wtX : RX → Nat
  | .mk _ r _ _ _ s => 1 + r.length + wtL s
def wtL : List RX → Nat
  | [] => 0
  | x :: l => wtX x + wtL l
end
theorem setL_len {l : List (Int × Int)} (hc : Can l) : (setL namedL l).length ≤ 27 + 21 * l.length := by
  have h1 := itmsL_sz l hc.ok
  have h2 := itmsL_sz (turnL l) (turn_can l).ok
  have h3 := turn_len l
  have hcl : (clsTx l).length ≤ 27 + 21 * l.length := by
    have a : (strT l).length = (itmsL l).length + 2 := by simp [strT]
    have b : (othT l).length = (itmsL (turnL l)).length + 3 := by simp [othT]
    unfold clsTx
    split
    · omega
    · split
      · omega
      · omega
  have hf : ∀ n : List (List UInt8 × List (Int × Int)), (∀ x ∈ n, x.1.length ≤ 2) → (findN n l).length ≤ 27 + 21 * l.length := fun n => by
    induction n with
    | nil => intro _; exact hcl
    | cons x n ih =>
      intro hn
      unfold findN
      split
      · have := hn x (by simp); omega
      · exact ih fun y hy => hn y (List.mem_cons_of_mem _ hy)
  unfold setL
  split
  · rename_i h
    have hm := hc.ok _ (ra_mem (show 0 < l.length by omega))
    unfold okR at hm
    have := pointL_sz (ra l 0).1.toNat (by omega) synT
    omega
  · refine hf namedL fun x hx => ?_
    simp only [namedL, List.mem_cons, List.not_mem_nil, or_false] at hx
    rcases hx with rfl | rfl | rfl | rfl | rfl | rfl | rfl <;> simp
theorem flatX_len (s : List RX) (F : RX → List UInt8) (h : ∀ x ∈ s, (F x).length + 1 ≤ 100 * wtX x) : (s.map F).flatten.length ≤ 100 * wtL s ∧ (s.map fun x => 124 :: F x).flatten.length ≤ 100 * wtL s := by
  induction s with
  | nil => simp [wtL]
  | cons x s ih =>
    obtain ⟨h1, h2⟩ := ih fun y hy => h y (List.mem_cons_of_mem _ hy)
    have := h x (by simp)
    simp only [List.map_cons, List.flatten_cons, List.length_append, List.length_cons, wtL]
    omega
theorem tx_len : ∀ (d : Nat) (t : RX) (lv : Nat), rightB d t = true → (tx WB d lv t).length + 1 ≤ 100 * wtX t
  | 0, t, lv, h => by simp [rightB] at h
  | d + 1, .mk k r lo hi z s, lv, h => by
    obtain ⟨ho, hs⟩ := right_own d k r lo hi z s h
    have ih : ∀ x ∈ s, ∀ lv, (tx WB d lv x).length + 1 ≤ 100 * wtX x := fun x hx lv => tx_len d x lv (hs x hx)
    have hw : wtX (.mk k r lo hi z s) = 1 + r.length + wtL s := by rw [wtX]
    have hb : (bodyX WB (tx WB d) k r lo hi z s).length + 3 ≤ 100 * wtX (.mk k r lo hi z s) := by
      rw [hw]
      unfold bodyX
      unfold ownB at ho
      split
      · rename_i k2
        subst k2
        simp at ho
        have := setL_len (ho.1.2 ▸ merge_can r : Can r)
        show (setL namedL r).length + 3 ≤ _
        omega
      · split
        · cases s with
          | nil => simp [barred]; omega
          | cons x s =>
            have h1 := ih x (by simp) 1
            have h2 := (flatX_len s (tx WB d 1) (fun y hy => ih y (List.mem_cons_of_mem _ hy) 1)).2
            have e : barred WB ((x :: s).map (tx WB d 1)) = tx WB d 1 x ++ (s.map fun y => 124 :: tx WB d 1 y).flatten := by simp only [barred, List.map_cons, List.map_map]; rfl
            rw [e, List.length_append, wtL]
            omega
        · split
          · have := (flatX_len s (tx WB d 2) (fun y hy => ih y hy 2)).1; omega
          · split
            · simp; omega
            · split
              · rename_i k5
                subst k5
                simp [hasCnt] at ho
                have h1 := (flatX_len s (tx WB d 3) (fun y hy => ih y hy 3)).1
                have h2 := greedyT_sz lo hi ho.2.1 ho.2.2
                have h3 : (countT lo hi z).length ≤ 61 := by unfold countT; rw [List.length_append]; cases z <;> simp <;> omega
                rw [List.length_append]
                show _ + (countT lo hi z).length + 3 ≤ _
                omega
              · have : (sgn WB k).length ≤ 2 := by unfold sgn; ((repeat' split) <;> simp)
                omega
    unfold tx
    split
    · omega
    · show (40 :: (bodyX WB (tx WB d) k r lo hi z s ++ [41])).length + 1 ≤ _
      rw [List.length_cons, List.length_append]; simp; omega
theorem conv_ws {w : World} {B : Nat} {v : Value} {o : List UInt8} (h : w.ownsRow B 5 1 v o.length (Lib.strCells (bsx o))) : (convert 40 9 v).run Tryz.prog w = .ok (.string (bsx o)) w := by
  have hc : ∀ g, v.ownBlock = some g → ∀ j u, (Lib.strCells (bsx o))[j]? = some u → w.cell? ((⟨g, 0, none⟩ : Addr).add j) = some u := fun g hg => World.ownsRow.cells h hg
  rcases h.2 with ⟨hv, hx⟩ | ⟨g, cap, cur, rfl, _⟩
  · have : o = [] := List.eq_nil_of_length_eq_zero hx
    subst this
    rw [hv]
    exact run_convert_bytes_nil (P := Tryz.prog) w 40 5 Tryz.underlying40 Tryz.underlying5 0 0 9 Tryz.underlying9
  · exact run_convert_bytes_back (P := Tryz.prog) w 40 9 5 ⟨g, 0, none⟩ cap o Tryz.underlying40 Tryz.underlying5 Tryz.underlying9 (fun j hj => hc g rfl j _ (by simp [Lib.strCells, bsx, hj]))
/-- The text of a tree. -/
def textT (t : RX) : List UInt8 := tx WB 1000 0 t
def TextR (t : RX) (w : World) (r : Ending) (w' : World) : Prop :=
  (r = if rightB 1000 t = true then .returned (.tuple #[.string (bsx (textT t)), .int .i64 0]) else .returned (.tuple #[.string ⟨#[]⟩, .int .i64 91])) ∧ Below w.heap.size w w'
set_option maxRecDepth 100000 in
set_option maxHeartbeats 1600000 in
theorem text_no (t : RX) (f : Nat → Value) (w : World) (X : Nat → Prop) (hbd : BdX 1048576 t) (hx : XI w X t f) (h : rightB 1000 t = false) : Calls Tryz.prog 5 #[xa f] w (TextR t w) := by
  obtain ⟨k, a, n, c, lo, hi, z, a', n', c', e0, e1, e2, e3, e4, e5⟩ := hx.six
  have exa : xa f = .agg #[.int .i64 k, .slice a n c, .int .i64 lo, .int .i64 hi, .bool z, .slice a' n' c'] := by unfold xa; rw [e0, e1, e2, e3, e4, e5]
  have hm := check_any t f _ X (hbd.mono (by omega)) (hx.kept (vb_a (Below.refl w.heap.size w) (.cells #[.int .i64 k, .slice a n c, .int .i64 lo, .int .i64 hi, .bool z, .slice a' n' c'] 26)))
  rw [h, exa] at hm
  rw [exa]
  obtain ⟨P, hP⟩ : ∃ P, P = TextR t w := ⟨_, rfl⟩
  rw [← hP]
  have HP := hid_intro hP
  have HH := hid_intro h
  clear hP hx exa e0 e1 e2 e3 e4 e5 hbd h
  go_enter Tryz.func5, Tryz.ntmps5
  go_wp2_with fail
  refine hm.mono ?_; rintro r' w1 ⟨rfl, hb1⟩
  have HB := hid_intro (vb_t (vb_a (Below.refl _ _) _) hb1)
  clear hb1
  go_wp2_with fail
  rw [HP.out]
  exact ⟨by rw [HH.out]; rfl, HB.out⟩
set_option maxRecDepth 100000 in
set_option maxHeartbeats 3200000 in
theorem text_ok (t : RX) (f : Nat → Value) (w : World) (X : Nat → Prop) (hT : TX w) (hbd : BdX 1048576 t) (hwt : wtX t ≤ 1048576) (hx : XI w X t f) (h : rightB 1000 t = true) : Calls Tryz.prog 5 #[xa f] w (TextR t w) := by
  obtain ⟨k, a, n, c, lo, hi, z, a', n', c', e0, e1, e2, e3, e4, e5⟩ := hx.six
  have exa : xa f = .agg #[.int .i64 k, .slice a n c, .int .i64 lo, .int .i64 hi, .bool z, .slice a' n' c'] := by unfold xa; rw [e0, e1, e2, e3, e4, e5]
  obtain ⟨W, hW⟩ : ∃ W, w.alloc (.cells #[.int .i64 k, .slice a n c, .int .i64 lo, .int .i64 hi, .bool z, .slice a' n' c'] 26) = W := ⟨_, rfl⟩
  have HWb : Hid (Below w.heap.size w W) := hid_intro (hW ▸ vb_a (Below.refl _ _) _)
  have HWk : Hid (BX6 W w.heap.size k a n c lo hi z a' n' c') := hid_intro (hW ▸ BX6.new w k a n c lo hi z a' n' c')
  have hm := check_any t f W X (hbd.mono (by omega)) (hx.kept HWb.out)
  rw [h, exa] at hm
  have hlen := tx_len 1000 t 0 h
  have HWr : Hid (∀ w2 nv, Below w.heap.size w w2 → NS w2 namedL nv → Calls Tryz.prog 14 #[.pointer (some ⟨w2.heap.size, 0, none⟩), xa f] (w2.alloc (.cells #[.slice none 0 0, nv] 42)) fun r w' => r = .returned (.tuple #[]) ∧ SW w2.heap.size nv (textT t) (w2.alloc (.cells #[.slice none 0 0, nv] 42)) w') := hid_intro (fun w2 nv hb hn => by
    have := (write_all w2 w2.heap.size nv X ⟨Nat.le_refl _, hT.below hb, hn⟩ 1000 t f h (hbd.mono (by omega)) (hx.kept hb)).p (w2.alloc (.cells #[.slice none 0 0, nv] 42)) [] ⟨.slice none 0 0, Bk.new _ _ _, World.ownsRow_nil _ _ _ _⟩ (vb_a (Below.refl _ _) _) (by simp; omega)
    exact this)
  rw [exa] at HWr ⊢
  obtain ⟨P, hP⟩ : ∃ P, P = TextR t w := ⟨_, rfl⟩
  rw [← hP]
  have HP := hid_intro hP
  have HH := hid_intro h
  have HW := hid_intro hW
  clear hP hx exa e0 e1 e2 e3 e4 e5 hbd h hlen hwt hW hT
  go_enter Tryz.func5, Tryz.ntmps5
  go_wp2_with fail
  rw [HW.out]
  refine hm.mono ?_; rintro r' w1 ⟨rfl, hb1⟩
  have HB := hid_intro (vb_t HWb.out hb1)
  have HK1 := hid_intro (HWk.out.bel hb1)
  clear hb1 hm
  go_wp2_with fail
  refine (named_any w1).mono ?_; rintro r' w2 ⟨nv, rfl, hn, hb2⟩
  have HB2 := hid_intro (vb_t HB.out hb2)
  obtain ⟨nb, noff, ncap, rfl, _⟩ := id hn
  have HN := hid_intro hn
  obtain ⟨W2, hW2⟩ : ∃ W2, w2.alloc (.cells #[.slice none 0 0, .slice (some ⟨nb, noff, none⟩) namedL.length ncap] 42) = W2 := ⟨_, rfl⟩
  have HC := hid_intro (HWr.out w2 _ HB2.out hn)
  rw [hW2] at HC
  have HB3 : Hid (Below w2.heap.size w2 W2) := hid_intro (hW2 ▸ vb_a (Below.refl _ _) _)
  obtain ⟨x0, x1, x2, x3, x4, x5⟩ := ((HK1.out.bel hb2).bel HB3.out).bk.c6
  clear hb2 hn HWr
  go_wp2_with fail
  refine HC.out.mono ?_; rintro r' w3 ⟨rfl, hs3⟩
  obtain ⟨ov, hk3, ho3⟩ := hs3.ws
  have c0 : w3.cell? ⟨w2.heap.size, 0, none⟩ = some ov := hk3.cell 0
  have hcv := conv_ws ho3
  have HB4 : Hid (Below w.heap.size w w3) := hid_intro ((vb_t HB2.out HB3.out).trans (hs3.bel.mono HB2.out.size))
  obtain ⟨oa, on, oc, rfl⟩ : ∃ oa on oc, ov = .slice oa on oc := by
    rcases ho3.2 with ⟨rfl, _⟩ | ⟨g, cap, cur, rfl, _⟩
    · exact ⟨_, _, _, rfl⟩
    · exact ⟨_, _, _, rfl⟩
  clear hs3 hk3 ho3 x0 x1 x2 x3 x4 x5
  generalize hTT : textT t = T at *
  have HTT := hid_intro hTT
  clear hTT
  go_wp2_with fail
  rw [HP.out]
  refine ⟨?_, HB4.out⟩
  rw [HH.out, HTT.out]
  rfl
theorem text_any (t : RX) (f : Nat → Value) (w : World) (X : Nat → Prop) (hT : TX w) (hbd : BdX 1048576 t) (hwt : wtX t ≤ 1048576) (hx : XI w X t f) : Calls Tryz.prog 5 #[xa f] w (TextR t w) := by
  cases h : rightB 1000 t
  · exact text_no t f w X hbd hx h
  · exact text_ok t f w X hT hbd hwt hx h
end Go.Proofs.YtppilokmgdpnnaaGreatDoor

namespace Go.Proofs.YtppilokmgdpnnaaGreatDoor
open Go.RowKit
attribute [local go_sem] setCell_drewN alloc_drewN

set_option maxRecDepth 100000 in
set_option maxHeartbeats 3200000 in
theorem refRngs_any (l : List (Int × Int)) (v : Value) (w : World) (X : Nat → Prop) (hR : RI w X l v) :
    Calls Tryz.prog 24 #[v] w fun r w' => r = .returned (.bool (rgB l)) ∧ Below w.heap.size w w' := by
  obtain ⟨ao, cap, rfl, hc, hcm, hwf, hlie⟩ := hR
  have hlI : (l.length : Int) ≤ 9223372036854775807 := by unfold maxLen at hcm; omega
  obtain ⟨P, hP⟩ : ∃ P : Ending → World → Prop, P = fun r w' => r = .returned (.bool (rgB l)) ∧ Below w.heap.size w w' := ⟨_, rfl⟩
  rw [← hP]
  have HP := hid_intro hP
  clear hP
  go_enter Tryz.func24, Tryz.ntmps24
  go_wp2_with fail
  go_loopg [3] l.length (fun m s3 wr => ∃ i : Nat, i ≤ l.length ∧ m = l.length - i ∧ s3 = .int .i64 (i : Int) ∧ Hid (∀ j, j < i → rgAt l j) ∧ Below w.heap.size w wr)
  case atStart => exact ⟨0, Nat.zero_le _, rfl, rfl, fun j hj => by omega, Below.refl _ _⟩
  case round =>
    obtain ⟨i, hi, rfl, rfl, HA, hb⟩ := hrel
    by_cases hlt : i < l.length
    · rcases hlie with hlie | ⟨b, off, rfl, _, hcell⟩
      · subst hlie; simp at hlt
      have q0 := (hb.cell (p := ⟨b, off + i * 2, none⟩) (World.block_lt_of_cell? w _ (hcell i hlt).1)).trans (hcell i hlt).1
      have q1 := (hb.cell (p := ⟨b, off + i * 2 + 1, none⟩) (World.block_lt_of_cell? w _ (hcell i hlt).2)).trans (hcell i hlt).2
      have hI : (i : Int) < (l.length : Int) := by omega
      have hno : ¬ rgAt l i → rgB l = false := fun h => by unfold rgB; exact decide_eq_false (fun hh => h (hh i hlt))
      have hyes : rgAt l i → Hid (∀ j, j < i + 1 → rgAt l j) := fun h => hid_intro (fun j hj => by
        by_cases e : j = i
        · rw [e]; exact h
        · exact HA.out j (by omega))
      unfold rgAt at hno hyes
      have HB := hid_intro hb
      cases i with
      | zero =>
        clear hcell hwf
        generalize ra l 0 = rr at *
        obtain ⟨x, y⟩ := rr
        simp only [Nat.zero_mul, Nat.add_zero] at hno hyes q0 q1
        have hI0 : (0 : Int) < (l.length : Int) := by omega
        by_cases c1 : x < 0
        · have hc1a : decide (x < 0) = true := decide_eq_true (by omega)
          have HE := hid_intro (hno (by omega))
          clear hno hyes HA hb
          go_wp2_with fail
          go_quiet (fail)
          all_goals
            go_wp2_with fail
            rw [HP.out, HE.out]
            exact ⟨rfl, by with_reducible repeat (first | exact HB.out | refine vb_d ?_ | refine vb_n ?_ _)⟩
        · by_cases c2 : x > y
          · have hc1a : decide (x < 0) = false := decide_eq_false (by omega)
            have hc2a : decide (x > y) = true := decide_eq_true (by omega)
            have hc2b : decide (y < x) = true := decide_eq_true (by omega)
            have HE := hid_intro (hno (by omega))
            clear hno hyes HA hb
            go_wp2_with fail
            go_quiet (fail)
            all_goals
              go_wp2_with fail
              rw [HP.out, HE.out]
              exact ⟨rfl, by with_reducible repeat (first | exact HB.out | refine vb_d ?_ | refine vb_n ?_ _)⟩
          · by_cases c3 : y > 1114111
            · have hc1a : decide (x < 0) = false := decide_eq_false (by omega)
              have hc2a : decide (x > y) = false := decide_eq_false (by omega)
              have hc2b : decide (y < x) = false := decide_eq_false (by omega)
              have hc3a : decide (y > 1114111) = true := decide_eq_true (by omega)
              have hc3b : decide (1114111 < y) = true := decide_eq_true (by omega)
              have HE := hid_intro (hno (by omega))
              clear hno hyes HA hb
              go_wp2_with fail
              go_quiet (fail)
              all_goals
                go_wp2_with fail
                rw [HP.out, HE.out]
                exact ⟨rfl, by with_reducible repeat (first | exact HB.out | refine vb_d ?_ | refine vb_n ?_ _)⟩
            · have hc1a : decide (x < 0) = false := decide_eq_false (by omega)
              have hc2a : decide (x > y) = false := decide_eq_false (by omega)
              have hc2b : decide (y < x) = false := decide_eq_false (by omega)
              have hc3a : decide (y > 1114111) = false := decide_eq_false (by omega)
              have hc3b : decide (1114111 < y) = false := decide_eq_false (by omega)
              have HA2 := hyes (by refine ⟨by omega, ?_⟩; first | exact Or.inl rfl | trivial | simp)
              clear hno hyes HA hb
              go_wp2_with fail
              go_quiet (fail)
              all_goals
                go_wp2_with fail
                go_roundg (l.length - (0 + 1))
                case measure => omega
                case rel => exact ⟨0 + 1, by omega, rfl, by simp, HA2, by with_reducible repeat (first | exact HB.out | refine vb_d ?_ | refine vb_n ?_ _)⟩
      | succ j =>
        have hj : j < l.length := by omega
        have q2 := (hb.cell (p := ⟨b, off + j * 2 + 1, none⟩) (World.block_lt_of_cell? w _ (hcell j hj).2)).trans (hcell j hj).2
        have hokp := (HA.out j (by omega)).1
        have hI2 : (j : Int) < (l.length : Int) := by omega
        have hI3 : (j : Int) + 1 < (l.length : Int) := by omega
        have hj0 : (0 : Int) ≤ (j : Int) := by omega
        rw [Nat.add_sub_cancel] at hno hyes
        clear hcell hwf
        generalize ra l (j + 1) = rr at *
        generalize ra l j = pp at *
        obtain ⟨x, y⟩ := rr
        obtain ⟨p0, p1⟩ := pp
        simp only at hno hyes q0 q1 q2 hokp
        by_cases c1 : x < 0
        · have hc1a : decide (x < 0) = true := decide_eq_true (by omega)
          have HE := hid_intro (hno (by omega))
          clear hno hyes HA hb
          go_wp2_with fail
          go_quiet (fail)
          all_goals
            go_wp2_with fail
            rw [HP.out, HE.out]
            exact ⟨rfl, by with_reducible repeat (first | exact HB.out | refine vb_d ?_ | refine vb_n ?_ _)⟩
        · by_cases c2 : x > y
          · have hc1a : decide (x < 0) = false := decide_eq_false (by omega)
            have hc2a : decide (x > y) = true := decide_eq_true (by omega)
            have hc2b : decide (y < x) = true := decide_eq_true (by omega)
            have HE := hid_intro (hno (by omega))
            clear hno hyes HA hb
            go_wp2_with fail
            go_quiet (fail)
            all_goals
              go_wp2_with fail
              rw [HP.out, HE.out]
              exact ⟨rfl, by with_reducible repeat (first | exact HB.out | refine vb_d ?_ | refine vb_n ?_ _)⟩
          · by_cases c3 : y > 1114111
            · have hc1a : decide (x < 0) = false := decide_eq_false (by omega)
              have hc2a : decide (x > y) = false := decide_eq_false (by omega)
              have hc2b : decide (y < x) = false := decide_eq_false (by omega)
              have hc3a : decide (y > 1114111) = true := decide_eq_true (by omega)
              have hc3b : decide (1114111 < y) = true := decide_eq_true (by omega)
              have HE := hid_intro (hno (by omega))
              clear hno hyes HA hb
              go_wp2_with fail
              go_quiet (fail)
              all_goals
                go_wp2_with fail
                rw [HP.out, HE.out]
                exact ⟨rfl, by with_reducible repeat (first | exact HB.out | refine vb_d ?_ | refine vb_n ?_ _)⟩
            · by_cases c4 : p1 + 1 ≥ x
              · have hc1a : decide (x < 0) = false := decide_eq_false (by omega)
                have hc2a : decide (x > y) = false := decide_eq_false (by omega)
                have hc2b : decide (y < x) = false := decide_eq_false (by omega)
                have hc3a : decide (y > 1114111) = false := decide_eq_false (by omega)
                have hc3b : decide (1114111 < y) = false := decide_eq_false (by omega)
                have hc4a : decide (p1 + 1 ≥ x) = true := decide_eq_true (by omega)
                have hc4b : decide (x ≤ p1 + 1) = true := decide_eq_true (by omega)
                have HE := hid_intro (hno (by omega))
                clear hno hyes HA hb
                go_wp2_with fail
                go_quiet (fail)
                all_goals
                  go_wp2_with fail
                  rw [HP.out, HE.out]
                  exact ⟨rfl, by with_reducible repeat (first | exact HB.out | refine vb_d ?_ | refine vb_n ?_ _)⟩
              · have hc1a : decide (x < 0) = false := decide_eq_false (by omega)
                have hc2a : decide (x > y) = false := decide_eq_false (by omega)
                have hc2b : decide (y < x) = false := decide_eq_false (by omega)
                have hc3a : decide (y > 1114111) = false := decide_eq_false (by omega)
                have hc3b : decide (1114111 < y) = false := decide_eq_false (by omega)
                have hc4a : decide (p1 + 1 ≥ x) = false := decide_eq_false (by omega)
                have hc4b : decide (x ≤ p1 + 1) = false := decide_eq_false (by omega)
                have HA2 := hyes (by omega)
                clear hno hyes HA hb
                go_wp2_with fail
                go_quiet (fail)
                all_goals
                  go_wp2_with fail
                  go_roundg (l.length - (j + 1 + 1))
                  case measure => omega
                  case rel => exact ⟨j + 1 + 1, by omega, rfl, by simp, HA2, by with_reducible repeat (first | exact HB.out | refine vb_d ?_ | refine vb_n ?_ _)⟩
    · have hI : ¬ ((i : Int) < (l.length : Int)) := by omega
      have HE : Hid (rgB l = true) := hid_intro (by unfold rgB; exact decide_eq_true (fun j hj => HA.out j (by omega)))
      clear HA hlt hi
      go_wp2_with fail
      rw [HP.out, HE.out]
      exact ⟨rfl, hb⟩
end Go.Proofs.YtppilokmgdpnnaaGreatDoor
