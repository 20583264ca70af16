/-
  What ref.div answers: quotient and rest, each limb by halving what may be. Conditions: the numbers have at most 400 limbs, and the divisor is not nought.
-/
import Derived.Test.YtmhplblmabiekaaR3
namespace Go.Proofs.Ytmhplblmabiekaa
open Go.RowKit

theorem one_pw9 : pw 1000 > 1000000000 := by
  have h1 := pw_mono (show 2 ≤ 1000 by omega)
  have h2 : pw 2 = 1000000000000000000 := by decide
  omega
theorem rsub_n (v0 v1 : Value) (A B : Int) (w : World) (h0 : Num w v0 A) (h1 : Num w v1 B) (hA : A < pw 1000) (hle : B ≤ A) :
    Calls Try.prog 31 #[v0, v1] w fun e w' => ∃ r, e = .returned r ∧ (Num w' r (A - B) ∧ From w.heap.size r) ∧ Below w.heap.size w w' := by
  obtain ⟨n, f, r0, c0, e0⟩ := h0
  obtain ⟨m, g, r1, c1, e1⟩ := h1
  have := can_le c0 (k := 1000) (by rw [e0]; exact hA)
  exact rsub_num v0 v1 A B n m f g w r0 r1 c0 c1 e0 e1 (by omega) hle
theorem rcompare_num (v0 v1 : Value) (A B : Int) (w : World) (h0 : Num w v0 A) (h1 : Num w v1 B) :
    Calls Try.prog 27 #[v0, v1] w fun e w' => e = .returned (.int .i64 (cmpI A B)) ∧ ∃ q, w' = w.drewN q := by
  obtain ⟨n, f, r0, c0, e0⟩ := h0
  obtain ⟨m, g, r1, c1, e1⟩ := h1
  have := rcompare_any v0 v1 n m f g w r0 r1 c0 c1
  rw [e0, e1] at this
  exact this
theorem Own.below {w w' : World} {B g N B' : Nat} {f : Nat → Int} (h : Own w B g N f) (hb : Below B' w w') (hg : g < B') : Own w' B g N f := by
  refine ⟨h.1, ?_⟩
  rcases h.2 with hn | ⟨g', cap, cur, e, hB, hh, rest⟩
  · exact .inl hn
  · refine .inr ⟨g', cap, cur, e, hB, ?_, rest⟩
    obtain rfl : g = g' := by simp at e; exact e.1
    rw [hb.block g hg]; exact hh
/-- One limb, cut. -/
theorem trim_limb (w : World) (x : Int) (x0 : 0 ≤ x) (x1 : x < 1000000000) :
    Calls Try.prog 29 #[.slice (some ⟨w.heap.size, 0, none⟩) 1 1] (w.alloc (.cells #[.int .u32 x] 46)) fun e w' => ∃ r, e = .returned r ∧ Num w' r x ∧ Below w.heap.size w w' := by
  refine (rtrim_any _ 1 _ _ (num_one w x x0 x1) (by omega)).mono ?_
  rintro e w' ⟨r, rfl, hr, _, hb⟩
  exact ⟨r, rfl, rnum_of_trim (fun _ _ => ⟨x0, x1⟩) hr (val_one x), below_from_alloc hb⟩
theorem cmpI_le (a b : Int) : decide (cmpI a b ≤ 0) = decide (a ≤ b) := by
  unfold cmpI
  by_cases h : a < b
  · simp [h, show a ≤ b by omega]
  · by_cases e : a = b
    · simp [e]
    · simp [h, e, show ¬ a ≤ b by omega]
/-- A limb ahead of a number. -/
def cons9 (x : Int) (f : Nat → Int) : Nat → Int := fun i => if i = 0 then x else f (i - 1)
theorem vals_cons (x : Int) (n : Nat) (f : Nat → Int) : [Value.int .u32 x] ++ vals n f = vals (1 + n) (cons9 x f) := by
  apply List.ext_getElem?
  intro i
  by_cases h0 : i = 0
  · subst h0
    rw [vals_get _ _ _ (by omega)]; simp [cons9]
  · obtain ⟨j, rfl⟩ : ∃ j, i = j + 1 := ⟨i - 1, by omega⟩
    by_cases h : j < n
    · rw [vals_get _ _ _ (by omega)]
      simp only [List.singleton_append, List.getElem?_cons_succ, vals_get n f j h]
      simp [cons9]
    · rw [List.getElem?_eq_none (by simp [vals_length]; omega), List.getElem?_eq_none (by rw [vals_length]; omega)]
theorem val_cons (x : Int) (n : Nat) (f : Nat → Int) : val (cons9 x f) (1 + n) = x + 1000000000 * val f n := by
  have h := val_sh_succ (cons9 x f) 0 n
  have e0 : sh (cons9 x f) 0 = cons9 x f := by funext i; show cons9 x f (0 + i) = cons9 x f i; rw [Nat.zero_add]
  have e1 : sh (cons9 x f) (0 + 1) = f := by funext i; show cons9 x f (1 + i) = f i; simp [cons9]
  rw [e0, e1] at h
  rw [Nat.add_comm, h]
  simp [cons9]
/-- What stands at the head of each round. -/
def RdRel (w wr : World) (gq n j : Nat) (f : Nat → Int) (V : Int) (rv : Value) : Prop :=
  ∃ qf r, Own wr w.heap.size gq n qf ∧ All9 qf ∧ (∀ i, i < j → qf i = 0) ∧ (Num wr rv r ∧ From (w.heap.size + 1) rv) ∧ 0 ≤ r ∧ r < V ∧ val f n = val f j + val qf n * V + pw j * r ∧ Below w.heap.size w wr
/-- .. and in the middle of the halving. -/
def RdIn (w wr : World) (gq n : Nat) (qf : Nat → Int) (rv vb : Value) (R V lo hi : Int) : Prop :=
  Own wr w.heap.size gq n qf ∧ (Num wr rv R ∧ From (w.heap.size + 1) rv) ∧ Num wr vb V ∧ lo * V ≤ R ∧ R < (hi + 1) * V ∧ Below w.heap.size w wr
theorem RdIn.below {w wr w' : World} {gq n : Nat} {qf : Nat → Int} {rv vb : Value} {R V lo hi : Int} (h : RdIn w wr gq n qf rv vb R V lo hi) (hb : Below wr.heap.size wr w') : RdIn w w' gq n qf rv vb R V lo hi := by
  obtain ⟨a, b, c, d, e, k⟩ := h
  exact ⟨a.below hb a.block.2, ⟨b.1.below hb, b.2⟩, c.below hb, d, e, k.trans (hb.mono k.size)⟩
theorem rd_next (w wr : World) (gq n t : Nat) (f qf : Nat → Int) (V r Q R : Int) (rv : Value) (h9 : All9 qf) (ht : t < n) (hz : ∀ i, i < t + 1 → qf i = 0) (he : val f n = val f (t + 1) + val qf n * V + pw (t + 1) * r) (Q0 : 0 ≤ Q) (Q1 : Q < 1000000000)
    (hR : R = f t + 1000000000 * r) (hQ : Q * V ≤ R) (hQ2 : R < (Q + 1) * V) (hn : Num wr rv (R - V * Q)) (hfr : From (w.heap.size + 1) rv) (hb : Below w.heap.size w wr) (hq : Own wr w.heap.size gq n (upd qf t Q)) : RdRel w wr gq n t f V rv := by
  refine ⟨upd qf t Q, R - V * Q, hq, upd_all h9 t Q Q0 Q1, fun i hi => ?_, ⟨hn, hfr⟩, by rw [Int.mul_comm V]; omega, ?_, ?_, hb⟩
  · rw [show upd qf t Q i = qf i by simp [upd, show ¬ i = t by omega]]; exact hz i (by omega)
  · rw [Int.add_mul] at hQ2; rw [Int.mul_comm V]; omega
  · rw [val_upd qf n t Q ht (hz t (by omega))]
    rw [val_succ, pw_succ] at he
    have := div_step (pw t) (f t) V r Q (R - V * Q) (val qf n) (val f n - val f t) (by rw [Int.mul_comm V]; omega) (by rw [he]; omega)
    omega

set_option maxRecDepth 100000 in
set_option maxHeartbeats 1600000 in
theorem rdiv_any (v0 v1 : Value) (n : Nat) (f : Nat → Int) (V : Int) (w : World) (h0 : Row w v0 n f) (h1 : Num w v1 V) (hf : Limbs n f) (hn : n ≤ 900) (V0 : 0 < V) (V1 : V < pw 400) :
    Calls Try.prog 35 #[v0, v1] w fun e w' => ∃ rq, ∃ rr, e = .returned (.tuple #[rq, rr]) ∧ Divides w' rq rr (val f n) V ∧ Below w.heap.size w w' := by
  have hmk := make_row w n (by omega)
  have HS : Hid (RdRel w (w.alloc (.cells (madeCells #[.int .u32 0] n) 46)) w.heap.size n n f V (.slice none 0 0)) := ⟨_, 0, make_own w w.heap.size n (Nat.le_refl _) (by unfold maxLen; omega), fun _ => (by decide : (0 : Int) ≤ 0 ∧ (0 : Int) < 1000000000), fun _ _ => rfl, ⟨num_nil _, from_nil _⟩, by omega, V0, by rw [val_null]; simp, one_below w _⟩
  obtain ⟨a, cap, e0, _⟩ := h0.shape
  have e1 : ∃ a' m cap', v1 = .slice a' m cap' := by
    obtain ⟨m, g, r1, _⟩ := h1
    obtain ⟨a', cap', e, _⟩ := r1.shape
    exact ⟨a', m, cap', e⟩
  obtain ⟨a', m, cap', e1⟩ := e1
  have H0 : Hid (Row w v0 n f) := h0
  have H1 : Hid (Num w v1 V) := h1
  have HF : Hid (Limbs n f) := hf
  clear h0 h1 hf
  subst e0 e1
  go_enter Try.func35, Try.ntmps35
  go_wp2
  clear hmk
  go_loopw [7, 8] (fun rv i wr => ∃ j : Nat, j ≤ n ∧ i = .int .i64 ((j : Int) - 1) ∧ Hid (RdRel w wr w.heap.size n j f V rv)) (fun _ i _ => (intOf i + 1).toNat)
  case atStart => exact ⟨n, Nat.le_refl _, rfl, HS.out⟩
  case round =>
    obtain ⟨j, hj, rfl, HD⟩ := hrel
    obtain ⟨qf, r, o, q9, hqz, hr, r0, r1, hev, hb⟩ := HD.out
    by_cases hlt : 0 < j
    · obtain ⟨t, rfl⟩ : ∃ t, j = t + 1 := ⟨j - 1, by omega⟩
      obtain ⟨b, off, cp, eS, _, _, hL⟩ := (H0.out.below hb).lies (by omega)
      obtain ⟨rfl, rfl⟩ : a = some ⟨b, off, none⟩ ∧ cap = cp := by simpa using eS
      have cx := hL.cell t (by omega)
      have bx := HF.out t (by omega)
      obtain ⟨⟨rn, rf, hrr, hrc, hrv⟩, _⟩ := hr
      obtain ⟨rf', hrr', he', lo', up'⟩ := hrr.bounded
      have hrc' : Limbs rn rf' := fun i hi => by rw [he' i hi]; exact hrc.1 i hi
      have hrl : rn ≤ 400 := can_le hrc (by rw [hrv]; omega)
      obtain ⟨R, hR⟩ : ∃ R, f t + 1000000000 * r = R := ⟨_, rfl⟩
      have hRv : val (cons9 (f t) rf') (1 + rn) = R := by rw [val_cons, val_congr he', hrv, hR]
      have R0 : 0 ≤ R := by omega
      have R1 : R < 1000000000 * V := by omega
      have lR : R < pw 1000 := by
        have h1 := pw_mono (show 401 ≤ 1000 by omega)
        have h2 : pw 401 = pw 400 * 1000000000 := pw_succ 400
        omega
      have hok : (wr.alloc (.cells #[.int .u32 (f t)] 46)).ownsRow w.heap.size 46 1 (.slice (some ⟨wr.heap.size, 0, none⟩) 1 1) 1 [.int .u32 (f t)] := World.ownsRow_lit wr #[.int .u32 (f t)] 1 hb.size (by simp [maxLen]) rfl
      have hA : Row (wr.alloc (.cells #[.int .u32 (f t)] 46)) u7 rn rf' := hrr'.alloc _
      have hbl := one_below wr (.cells #[.int .u32 (f t)] 46)
      have HC9 : Hid (Limbs (1 + rn) (cons9 (f t) rf')) := fun i hi => by
        unfold cons9
        split
        · exact bx
        · exact hrc' (i - 1) (by omega)
      have HLU : Hid ((∀ i, 0 ≤ cons9 (f t) rf' i) ∧ (∀ i, cons9 (f t) rf' i < 4294967296)) := by
        constructor
        · intro i; unfold cons9; split
          · omega
          · exact lo' _
        · intro i; unfold cons9; split
          · omega
          · exact up' _
      have HRV : Hid (val (cons9 (f t) rf') (1 + rn) = R) := hRv
      have HRE : Hid (R = f t + 1000000000 * r) := hR.symm
      have HO : Hid (Own wr w.heap.size w.heap.size n qf) := o
      have HQ9 : Hid (All9 qf ∧ (∀ i, i < t + 1 → qf i = 0) ∧ val f n = val f (t + 1) + val qf n * V + pw (t + 1) * r) := ⟨q9, hqz, hev⟩
      have HB : Hid (Below w.heap.size w wr) := hb
      have hzw := hb.size
      have i0 : ((t + 1 : Nat) : Int) - 1 = (t : Int) := by omega
      have i1 : (t : Int) < (n : Int) := by omega
      obtain ⟨x, hx⟩ : ∃ x, f t = x := ⟨_, rfl⟩
      rw [hx] at cx hok hA hbl HC9 HLU HRV
      clear HD o q9 hqz hrr hrc hrv hev hb hrr' he' lo' up' hrc' hL hRv hR hx bx
      rw [i0]
      obtain ⟨ra, rcap, er, _⟩ := hA.shape
      go_wp2_with (at_builtin; refine wpList_append_row rfl (.tmp 26) (.tmp 27) rfl w.heap.size _ _ _ rfl hok _ rn rf' rfl hA (by omega) (by simp; omega) ?_)
      intro v' w2 hown2 hgrow2
      rw [show Value.int .u32 x :: vals rn rf' = [Value.int .u32 x] ++ vals rn rf' from rfl, vals_cons] at hown2
      have b2 : Below wr.heap.size wr w2 := hbl.grown hgrow2 (by simp) (fun k hk => by simp [Value.ownBlock] at hk; omega)
      have ht := rtrim_any v' (1 + rn) _ w2 (row_own HLU.out.1 HLU.out.2 hown2) (by omega)
      clear hok hA hbl hown2 hgrow2
      go_wp2_with fail
      refine ht.mono ?_
      rintro e w3 ⟨rv, rfl, hrv3, frv, b3⟩
      clear ht
      have b23 : Below wr.heap.size wr w3 := b2.trans (b3.mono b2.size)
      have bw3 : Below w.heap.size w w3 := HB.out.trans (b23.mono hzw)
      have HI : Hid (RdIn w w3 w.heap.size n qf rv (.slice a' m cap') R V 0 999999999) := ⟨HO.out.below b23 (HO.out.block.2), ⟨rnum_of_trim HC9.out hrv3 HRV.out, fun a n c e => by have h1 := frv a n c e; have h2 := HO.out.block.2; have h3 := b2.size; omega⟩, H1.out.below bw3, by omega, by omega, bw3⟩
      clear b2 b3 b23 bw3 hrv3 HO HB HC9 HLU HRV
      go_wp2
      go_loopw [9, 10] (fun l h wrI => ∃ lo hi : Int, l = .int .u32 lo ∧ h = .int .u32 hi ∧ 0 ≤ lo ∧ lo ≤ hi ∧ hi ≤ 999999999 ∧ Hid (RdIn w wrI w.heap.size n qf rv (.slice a' m cap') R V lo hi)) (fun l h _ => (intOf h - intOf l).toNat)
      case atStart => exact ⟨0, 999999999, rfl, rfl, by omega, by omega, by omega, HI.out⟩
      case round =>
        obtain ⟨lo, hi, rfl, rfl, lo0, lohi, hi9, HJ⟩ := hrel
        by_cases hlh : lo < hi
        · obtain ⟨mid, hmid⟩ : ∃ mid, lo + (hi - lo + 1) / 2 = mid := ⟨_, rfl⟩
          have md0 : lo < mid := by omega
          have md1 : mid ≤ hi := by omega
          have h1 := trim_limb wr mid (by omega) (by omega)
          clear HI
          go_wp2_with fail
          refine h1.mono ?_
          rintro e w5 ⟨rm, rfl, hrm, b5⟩
          clear h1
          have HJ5 := HJ.out.below b5
          have h2 := rmul_num (.slice a' m cap') rm V mid w5 HJ5.2.2.1 hrm (lt_pw V1 (by omega)) (by have := one_pw9; omega)
          clear hrm
          go_wp2_with fail
          refine h2.mono ?_
          rintro e w6 ⟨rp, rfl, hrp, b6⟩
          clear h2
          have HJ6 := HJ5.below b6
          have h3 := rcompare_num rp rv (V * mid) R w6 hrp HJ6.2.1.1
          have HJ7 : Hid (∀ q, RdIn w (w6.drewN q) w.heap.size n qf rv (.slice a' m cap') R V lo hi) := fun q => HJ6.below (below_drewN (Below.refl _ _) q)
          clear hrp HJ HJ5 HJ6 b5 b6
          by_cases hle : V * mid ≤ R
          · have hcl : decide (cmpI (V * mid) R ≤ 0) = true := by rw [cmpI_le]; exact decide_eq_true hle
            have HK : Hid (∀ q, RdIn w (w6.drewN q) w.heap.size n qf rv (.slice a' m cap') R V mid hi) := fun q => by
              obtain ⟨k1, k2, k3, k4, k5, k6⟩ := HJ7.out q
              exact ⟨k1, k2, k3, by rw [Int.mul_comm]; exact hle, k5, k6⟩
            clear HJ7 hle
            generalize cmpI (V * mid) R = C at *
            go_wp2_with fail
            refine h3.mono ?_
            rintro e w7 ⟨rfl, q, rfl⟩
            clear h3
            go_wp2
            go_roundw
            case rel => exact ⟨mid, hi, rfl, rfl, by omega, by omega, by omega, HK.out q⟩
            case measure => simp [intOf]; omega
          · have hcl : decide (cmpI (V * mid) R ≤ 0) = false := by rw [cmpI_le]; exact decide_eq_false hle
            have HK : Hid (∀ q, RdIn w (w6.drewN q) w.heap.size n qf rv (.slice a' m cap') R V lo (mid - 1)) := fun q => by
              obtain ⟨k1, k2, k3, k4, k5, k6⟩ := HJ7.out q
              exact ⟨k1, k2, k3, k4, by rw [show mid - 1 + 1 = mid by omega, Int.mul_comm]; omega, k6⟩
            clear HJ7 hle
            generalize cmpI (V * mid) R = C at *
            go_wp2_with fail
            refine h3.mono ?_
            rintro e w7 ⟨rfl, q, rfl⟩
            clear h3
            go_wp2
            go_roundw
            case rel => exact ⟨lo, mid - 1, rfl, rfl, by omega, by omega, by omega, HK.out q⟩
            case measure => simp [intOf]; omega
        · have e : lo = hi := by omega
          subst e
          obtain ⟨k1, k2, k3, k4, k5, k6⟩ := HJ.out
          have cq := k1.cell t (by omega)
          have fq := k1.free t
          have o4 : Own (wr.setCell ⟨w.heap.size, t, none⟩ (.int .u32 lo)) w.heap.size w.heap.size n (upd qf t lo) := k1.stored t lo
          have bs : Below w.heap.size w (wr.setCell ⟨w.heap.size, t, none⟩ (.int .u32 lo)) := k6.setCell (Nat.le_refl _) _
          have k2s := k2.1.set k2.2 ⟨w.heap.size, t, none⟩ (Nat.lt_succ_self _) (.int .u32 lo)
          have k3s := H1.out.below bs
          have h1 := trim_limb (wr.setCell ⟨w.heap.size, t, none⟩ (.int .u32 lo)) lo lo0 (by omega)
          have HRN : Hid (∀ w9 rv9, Own w9 w.heap.size w.heap.size n (upd qf t lo) → Num w9 rv9 (R - V * lo) → From (w.heap.size + 1) rv9 → Below w.heap.size w w9 → RdRel w w9 w.heap.size n t f V rv9) := fun w9 rv9 o9 n9 f9 b9 =>
            rd_next w w9 w.heap.size n t f qf V r lo R rv9 HQ9.out.1 (by omega) HQ9.out.2.1 HQ9.out.2.2 lo0 (by omega) HRE.out k4 k5 n9 f9 b9 o9
          have hws : (wr.setCell ⟨w.heap.size, t, none⟩ (.int .u32 lo)).heap.size = wr.heap.size := by simp [World.setCell]
          have gq1 := k1.block.2
          have hlV : V * lo ≤ R := by rw [Int.mul_comm]; exact k4
          clear k1 k2 k3 k4 k5 k6 HJ HQ9 HRE HI
          obtain ⟨ws, hwse⟩ : ∃ ws, ws = wr.setCell ⟨w.heap.size, t, none⟩ (.int .u32 lo) := ⟨_, rfl⟩
          rw [← hwse] at o4 bs k2s k3s h1 hws
          rw [hws] at h1
          have HWS : Hid (ws = wr.setCell ⟨w.heap.size, t, none⟩ (.int .u32 lo)) := hwse
          go_wp2_with fail
          rw [← hwse]
          clear hwse
          refine h1.mono ?_
          rintro e w5 ⟨rm, rfl, hrm, b5⟩
          rw [← hws] at b5
          clear h1
          have h2 := rmul_num (.slice a' m cap') rm V lo w5 (k3s.below b5) hrm (lt_pw V1 (by omega)) (by have := one_pw9; omega)
          have k25 := k2s.below b5
          have o5 := o4.below b5 (by rw [hws]; exact gq1)
          have bs5 : Below w.heap.size w w5 := bs.trans (b5.mono bs.size)
          have z5 := b5.size
          clear hrm k2s o4 bs b5
          go_wp2_with fail
          refine h2.mono ?_
          rintro e w6 ⟨rp, rfl, hrp, b6⟩
          clear h2
          have h3 := rsub_n rv rp R (V * lo) w6 (k25.below b6) hrp lR hlV
          have o6 := o5.below b6 (by omega)
          have bs6 : Below w.heap.size w w6 := bs5.trans (b6.mono bs5.size)
          have z6 := b6.size
          clear hrp k25 o5 bs5 b6
          go_wp2_with fail
          refine h3.mono ?_
          rintro e w7 ⟨rs, rfl, ⟨hrs, frs⟩, b7⟩
          clear h3
          have HR : Hid (RdRel w w7 w.heap.size n t f V rs) := HRN.out w7 rs (o6.below b7 (by omega)) hrs (fun a n c e => by have := frs a n c e; omega) (bs6.trans (b7.mono bs6.size))
          clear HRN o6 bs6 b7 hrs frs
          go_wp2
          go_roundw
          case rel => exact ⟨t, by omega, by go_num, HR.out⟩
          case measure => simp [intOf]
    · have e : j = 0 := by omega
      subst e
      have ht := rtrim_any _ n qf wr (o.row (fun i => (q9 i).1) (fun i => by have := (q9 i).2; omega) (by unfold maxLen; omega)) (by omega)
      have HE : Hid (∀ rq w2, Below wr.heap.size wr w2 → (∃ m' f', Row w2 rq m' f' ∧ (∀ i, i < m' → f' i = qf i) ∧ Trims n qf m') → Divides w2 rq u7 (val f n) V) := fun rq w2 hb2 k =>
        ⟨val qf n, r, rnum_of_trim (fun i _ => q9 i) k rfl, hr.1.below hb2, by rw [val_zero, pw_zero] at hev; omega, r0, r1⟩
      have e7 : ∃ ra rn rc, u7 = .slice ra rn rc := by
        obtain ⟨⟨rn, rf, hrr, _⟩, _⟩ := hr
        obtain ⟨ra, rc, e, _⟩ := hrr.shape
        exact ⟨ra, rn, rc, e⟩
      obtain ⟨ra, rn, rc, e7⟩ := e7
      subst e7
      clear HD o q9 hqz hr hev
      go_wp2_with fail
      refine ht.mono ?_
      rintro e w4 ⟨rq, rfl, hrq, _, b4⟩
      clear ht
      go_wp2
      go_ret2
      exact ⟨_, _, rfl, HE.out _ _ b4 hrq, hb.trans (b4.mono hb.size)⟩
theorem rdiv_num (v0 v1 : Value) (A V : Int) (w : World) (h0 : Num w v0 A) (h1 : Num w v1 V) (hA : A < pw 900) (V0 : 0 < V) (V1 : V < pw 400) :
    Calls Try.prog 35 #[v0, v1] w fun e w' => ∃ rq, ∃ rr, e = .returned (.tuple #[rq, rr]) ∧ Divides w' rq rr A V ∧ Below w.heap.size w w' := by
  obtain ⟨n, f, r0, c0, e0⟩ := h0
  have := can_le c0 (k := 900) (by rw [e0]; exact hA)
  have := rdiv_any v0 v1 n f V w r0 h1 c0.1 (by omega) V0 V1
  rw [e0] at this
  exact this
end Go.Proofs.Ytmhplblmabiekaa
