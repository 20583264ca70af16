/-
  The reference's atom. Conditions: what is read within a group is given.
-/
import Derived.Test.YthbbkcdlcpbepaaGreatDoorJoined28
import Derived.Test.YthbbkcdlcpbepaaGreatDoorJoined32
namespace Go.Proofs.YthbbkcdlcpbepaaGreatDoor
open Go.RowKit
attribute [local go_sem] setCell_drewN alloc_drewN

/-- What a tree is read as, with the place behind it, or it failed. -/
def TreeQ (y : Option (RX × List Int)) (S : List Int) (pb : Nat) (g : Int) (w : World) (r : Ending) (w' : World) : Prop :=
  But (· = pb) w w' ∧ match y with
    | none => ∃ t f a' g', r = .returned (xa f) ∧ XI w' (· < w.heap.size) t f ∧ RP w' pb S a' g' true ∧ g ≤ g'
    | some (t, l') => ∃ f a', r = .returned (xa f) ∧ XI w' (· < w.heap.size) t f ∧ RP w' pb S a' g false ∧ a' ≤ S.length ∧ l' = S.drop a'
def PatQ (pat : List Int → Option (RX × List Int)) (S : List Int) (pb : Nat) (g : Int) : Prop :=
  ∀ w a, a ≤ S.length → RP w pb S a g false → Calls Tryz.prog 17 #[.pointer (some ⟨pb, 0, none⟩)] w (TreeQ (pat (S.drop a)) S pb g w)
theorem merge_one {p : Int} (h0 : 0 ≤ p) (h1 : p ≤ 1114111) : mergeL [(p, p)] = [(p, p)] := by
  have e : cutR (p, p) = (p, p) := by
    unfold cutR
    simp only [Prod.mk.injEq]
    omega
  unfold mergeL mergeS
  simp only [List.foldl, e]
  rw [if_neg (Int.lt_irrefl _)]
  rfl
theorem merge_mark {l r : List Int} {m : Mark} (hm : ∀ c ∈ l, 0 ≤ c ∧ c ≤ 1114111) (h : escapeL l = some (m, r)) : mergeL m.ranges = m.ranges := by
  unfold escapeL at h
  cases l with
  | nil => simp at h
  | cons c l =>
    simp only at h
    cases hn : namedBy c with
    | some s =>
      rw [hn] at h
      simp only [Option.some.injEq, Prod.mk.injEq] at h
      obtain ⟨rfl, _⟩ := h
      simp only [Mark.ranges]
      unfold namedBy at hn
      repeat' (split at hn)
      all_goals first
        | (simp at hn; done)
        | (simp only [Option.some.injEq] at hn; subst hn; first | exact merge_set (turn_can _) | decide +kernel)
    | none =>
      rw [hn] at h
      simp only at h
      cases he : escapedL c l with
      | none => rw [he] at h; simp at h
      | some y =>
        obtain ⟨p, r'⟩ := y
        rw [he] at h
        simp only [Option.some.injEq, Prod.mk.injEq] at h
        obtain ⟨rfl, _⟩ := h
        have := escapedL_bd c l (p, r') (hm c (by simp)) he
        simp only [Mark.ranges]
        exact merge_one this.1 this.2
theorem atom_40 {pat : List Int → Option (RX × List Int)} {S : List Int} {a b : Nat} (hq : pk S a = 40) (hb : b = if pk S (a + 1) = 63 ∧ pk S (a + 2) = 58 then a + 3 else a + 1) : atomP pat (S.drop a) = match pat (S.drop b) with
    | none => none
    | some (x, l1) => if startsW [41] l1 = true then some (x, l1.drop 1) else none := by
  have hk := pk_lt (S := S) (a := a) (by omega)
  rw [drop_at hk]
  simp only [atomP]
  rw [if_pos hq]
  unfold groupP
  rw [sw2 (by omega) (by omega)]
  subst hb
  by_cases h1 : pk S (a + 1) = 63
  · by_cases h2 : pk S (a + 2) = 58
    · rw [decide_eq_true h1, decide_eq_true h2, if_pos (show (true && true) = true from rfl), if_pos (And.intro h1 h2), List.drop_drop]
      cases pat (S.drop (a + 3)) with
      | none => rfl
      | some y => rfl
    · rw [decide_eq_true h1, decide_eq_false h2, if_neg (show ¬ (true && false) = true by simp), if_neg (fun h => h2 (And.right h))]
      cases pat (S.drop (a + 1)) with
      | none => rfl
      | some y => rfl
  · rw [decide_eq_false h1, if_neg (show ¬ (false && _) = true by simp), if_neg (fun h => h1 (And.left h))]
    cases pat (S.drop (a + 1)) with
    | none => rfl
    | some y => rfl
theorem atom_at {pat : List Int → Option (RX × List Int)} {S : List Int} {a : Nat} (h0 : 0 ≤ pk S a) (hq : pk S a ≠ 40) : atomP pat (S.drop a) = if pk S a = 91 then classL (S.drop (a + 1)) else if pk S a = 46 then some (setX inLines, S.drop (a + 1))
    else if pk S a = 92 then (match escapeL (S.drop (a + 1)) with
      | none => none
      | some (m, r') => some (setX m.ranges, r'))
    else if synB (pk S a) = true then none else some (setX [(pk S a, pk S a)], S.drop (a + 1)) := by
  rw [drop_at (pk_lt h0)]
  simp only [atomP]
  rw [if_neg hq]
  cases escapeL (S.drop (a + 1)) with
  | none => rfl
  | some y => rfl
theorem RP.two {w : World} {pb a : Nat} {S : List Int} {g : Int} {bad : Bool} (h : RP w pb S a g bad) : w.cell? ⟨pb, 2, none⟩ = some (.int .i64 g) ∧ w.frozen? ⟨pb, 2, none⟩ = false := by
  obtain ⟨ao, cap, c0, c1, c2, c3, fr, h1, h2, h3, h4, h5, h6⟩ := h
  exact ⟨c2, fr 2⟩
theorem RP.one {w : World} {pb a : Nat} {S : List Int} {g : Int} {bad : Bool} (h : RP w pb S a g bad) : w.cell? ⟨pb, 1, none⟩ = some (.int .i64 (a : Int)) ∧ w.frozen? ⟨pb, 1, none⟩ = false := by
  obtain ⟨ao, cap, c0, c1, c2, c3, fr, h1, h2, h3, h4, h5, h6⟩ := h
  exact ⟨c1, fr 1⟩
theorem xi_zero (w : World) (X : Nat → Prop) : XI w X (.mk 0 [] 0 0 false []) (fun i => [Value.int .i64 0, .slice none 0 0, .int .i64 0, .int .i64 0, .bool false, .slice none 0 0].getD i .nilIface) :=
  XI.mk none 0 (fun _ _ => .nilIface) rfl (RI.nil _ _) rfl rfl rfl rfl ⟨Nat.le_refl _, by unfold maxLen; omega⟩ ⟨I64_of (by omega) (by omega), I64_of (by omega) (by omega), I64_of (by omega) (by omega)⟩ (Or.inl rfl) (fun i hi => by simp at hi)

set_option maxRecDepth 100000 in
set_option maxHeartbeats 6400000 in
theorem ratom_40 (pat : List Int → Option (RX × List Int)) (w : World) (pb a : Nat) (S : List Int) (g : Int) (ha : a ≤ S.length) (hpat : g + 1 ≤ 200 → PatQ pat S pb (g + 1)) (hnone : ¬ g + 1 ≤ 200 → ∀ l, pat l = none) (h63 : ∀ b, pk S b = 63 → pat (S.drop b) = none) (hq : pk S a = 40) (hg200 : g ≤ 200) (h : RP w pb S a g false) :
    Calls Tryz.prog 61 #[.pointer (some ⟨pb, 0, none⟩)] w (TreeQ (atomP pat (S.drop a)) S pb g w) := by
  obtain ⟨P, hP⟩ : ∃ P, P = TreeQ (atomP pat (S.drop a)) S pb g w := ⟨_, rfl⟩
  rw [← hP]
  have HP := hid_intro hP
  have HPL := hid_intro h.lt
  have HLN := hid_intro h.len
  have HMEM := hid_intro h.mem
  have HGB := hid_intro h.grps
  have hrl := h.lt
  have HA := hid_intro ha
  obtain ⟨W, hW⟩ : ∃ W, w.alloc (.cells #[.int .i64 0, .slice none 0 0, .int .i64 0, .int .i64 0, .bool false, .slice none 0 0] 26) = W := ⟨_, rfl⟩
  have HK0 : Hid (Bk W w.heap.size #[.int .i64 0, .slice none 0 0, .int .i64 0, .int .i64 0, .bool false, .slice none 0 0]) := hid_intro (hW ▸ Bk.new _ _ _)
  have HR0 : Hid (RP W pb S a g false) := hid_intro (h.below (hW ▸ vb_a (Below.refl _ _) _))
  have HB0 : Hid (But (· = pb) w W) := hid_intro (But.ofBelow (hW ▸ vb_a (Below.refl _ _) _))
  have HM0 : Hid (w.heap.size + 1 ≤ W.heap.size) := hid_intro (by rw [← hW]; simp)
  have hnp : ¬ w.heap.size = pb := by have := h.lt; omega
  have hT := fun (c : Int) (hc : c ≠ -1) (a : Nat) (g : Int) (bad : Bool) w' (h : RP w' pb S a g bad) => rtake_any w' pb a S g c bad hc h
  obtain ⟨b, hb⟩ : ∃ b, b = if pk S (a + 1) = 63 ∧ pk S (a + 2) = 58 then a + 3 else a + 1 := ⟨_, rfl⟩
  have HE0 := hid_intro (atom_40 (pat := pat) hq hb)
  have HK40 := hid_intro (pk_lt (S := S) (a := a) (by omega))
  have HG2 := hid_intro hg200
  have HPAT := hid_intro hpat
  have HNONE := hid_intro hnone
  have H63 := hid_intro h63
  have HBE := hid_intro hb
  clear hpat hnone h63 hb
  clear hP h ha
  go_enter Tryz.func61, Tryz.ntmps61
  go_wp2_with fail
  refine (rpeek_any _ _ _ _ _ _ HR0.out).mono ?_; rintro r w1 ⟨rfl, hb1⟩
  have HR1 := hid_intro (HR0.out.below hb1)
  have HB1 := hid_intro (HB0.out.below hb1)
  have HK1 := hid_intro (HK0.out.bel hb1)
  have HM1 := hid_intro (Nat.le_trans HM0.out hb1.size)
  clear hb1
  go_wp2_with fail
  have ht2 := hT 40 (by omega) (a) (g) false _ HR1.out
  rw [decide_eq_true hq, show tk S (a) 40 = a + 1 by unfold tk; rw [if_pos hq]] at ht2
  refine ht2.mono ?_; rintro r w2 ⟨rfl, hb2, hr2⟩
  have HR2 := hid_intro hr2
  have HB2 := hid_intro (HB1.out.trans hb2)
  have HK2 := hid_intro (HK1.out.but hb2 hnp)
  have HM2 := hid_intro (Nat.le_trans HM1.out hb2.size)
  clear hb2 hr2 ht2
  go_wp2_with fail
  by_cases h1 : pk S (a + 1) = 63
  · have ht3 := hT 63 (by omega) (a + 1) (g) false _ HR2.out
    rw [decide_eq_true h1, show tk S (a + 1) 63 = a + 1 + 1 by unfold tk; rw [if_pos h1]] at ht3
    refine ht3.mono ?_; rintro r w3 ⟨rfl, hb3, hr3⟩
    have HR3 := hid_intro hr3
    have HB3 := hid_intro (HB2.out.trans hb3)
    have HK3 := hid_intro (HK2.out.but hb3 hnp)
    have HM3 := hid_intro (Nat.le_trans HM2.out hb3.size)
    clear hb3 hr3 ht3
    go_wp2_with fail
    by_cases h2 : pk S (a + 2) = 58
    · have hbb : b = a + 3 := by rw [HBE.out, if_pos ⟨h1, h2⟩]
      subst hbb
      have HBL : Hid (a + 3 ≤ S.length) := hid_intro (pk_lt (S := S) (a := a + 2) (by omega))
      have ht4 := hT 58 (by omega) (a + 1 + 1) (g) false _ HR3.out
      rw [decide_eq_true h2, show tk S (a + 1 + 1) 58 = a + 1 + 1 + 1 by unfold tk; rw [if_pos h2]] at ht4
      refine ht4.mono ?_; rintro r w4 ⟨rfl, hb4, hr4⟩
      have HR4 := hid_intro hr4
      have HB4 := hid_intro (HB3.out.trans hb4)
      have HK4 := hid_intro (HK3.out.but hb4 hnp)
      have HM4 := hid_intro (Nat.le_trans HM3.out hb4.size)
      clear hb4 hr4 ht4
      have hRg : RP (w4.setCell ⟨pb, 2, none⟩ (.int .i64 (g + 1))) pb S (a + 1 + 1 + 1) (g + 1) false := HR4.out.grp (g + 1) (by have := HGB.out; have := HG2.out; omega)
      have hb5 : But (· = pb) w4 (w4.setCell ⟨pb, 2, none⟩ (.int .i64 (g + 1))) := But.setr (But.refl _ _) _
      obtain ⟨w5, hw5⟩ : ∃ w5, w4.setCell ⟨pb, 2, none⟩ (.int .i64 (g + 1)) = w5 := ⟨_, rfl⟩
      rw [hw5] at hRg hb5
      have hr5 := hRg
      clear hRg
      have HR5 := hid_intro hr5
      have HB5 := hid_intro (HB4.out.trans hb5)
      have HK5 := hid_intro (HK4.out.but hb5 hnp)
      have HM5 := hid_intro (Nat.le_trans HM4.out hb5.size)
      clear hb5 hr5
      obtain ⟨e2, f2⟩ := HR4.out.two
      obtain ⟨e3, f3⟩ := HR5.out.two
      have hwg : wrap64 (g + 1) = g + 1 := w64 (by have := HGB.out; omega) (by have := HGB.out; omega)
      by_cases hgd : g + 1 ≤ 200
      · have hgd2 : ¬ 200 < g + 1 := by omega
        have hal := HPAT.out hgd _ _ HBL.out HR5.out
        go_wp2_with fail
        obtain ⟨U, hU⟩ : ∃ U, pat (S.drop (a + 1 + 1 + 1)) = U := ⟨_, rfl⟩
        rw [hU] at hal HE0
        refine hal.mono ?_; rintro r w6 ⟨hb6, hcs⟩
        cases U with
        | none =>
          obtain ⟨t, f, a6, g6, rfl, hx6, hr6, hg6⟩ := hcs
          have HR6 := hid_intro hr6
          have HB6 := hid_intro (HB5.out.trans hb6)
          have HK6 := hid_intro (HK5.out.but hb6 hnp)
          have HM6 := hid_intro (Nat.le_trans HM5.out hb6.size)
          have HX6 := hid_intro hx6
          have HG6 := hid_intro hg6
          clear hb6 hr6 hx6 hg6 hal
          obtain ⟨k_, i1, n1, q1, lo, hi, z, i2, n2, q2, ef⟩ := HX6.out.lit
          have HEF := hid_intro ef
          rw [ef]
          clear ef
          have hxw : XI (w6.alloc (.cells #[.int .i64 k_, .slice i1 n1 q1, .int .i64 lo, .int .i64 hi, .bool z, .slice i2 n2 q2] 26)) (· < w5.heap.size) t f := HX6.out.kept (vb_a (Below.refl _ _) _)
          have HQ7 : Hid (Bk ((w6.alloc (.cells #[.int .i64 k_, .slice i1 n1 q1, .int .i64 lo, .int .i64 hi, .bool z, .slice i2 n2 q2] 26)).setCell ⟨pb, 2, none⟩ (.int .i64 (g6 - 1))) w6.heap.size #[.int .i64 k_, .slice i1 n1 q1, .int .i64 lo, .int .i64 hi, .bool z, .slice i2 n2 q2]) := hid_intro ((Bk.new _ _ _).away (by show w6.heap.size ≠ pb; have := HPL.out; have := HM6.out; omega))
          have hb7 : But (· = pb) w6 ((w6.alloc (.cells #[.int .i64 k_, .slice i1 n1 q1, .int .i64 lo, .int .i64 hi, .bool z, .slice i2 n2 q2] 26)).setCell ⟨pb, 2, none⟩ (.int .i64 (g6 - 1))) := But.setr ((But.refl _ _).alloc _) _
          have hr7 : RP ((w6.alloc (.cells #[.int .i64 k_, .slice i1 n1 q1, .int .i64 lo, .int .i64 hi, .bool z, .slice i2 n2 q2] 26)).setCell ⟨pb, 2, none⟩ (.int .i64 (g6 - 1))) pb S a6 (g6 - 1) true := (HR6.out.al _).grp _ (by have h1 := HGB.out; have h2 := HR6.out.grps; have h3 := HG6.out; omega)
          have HXN : Hid (XI ((w6.alloc (.cells #[.int .i64 k_, .slice i1 n1 q1, .int .i64 lo, .int .i64 hi, .bool z, .slice i2 n2 q2] 26)).setCell ⟨pb, 2, none⟩ (.int .i64 (g6 - 1))) (fun j => j < w.heap.size + 1) t f) := hid_intro ((hxw.set (a := ⟨pb, 2, none⟩) (by show pb < _; have := HPL.out; have := HM5.out; omega) _).weak (fun j hj => by have h1 : j < w.heap.size + 1 := hj; have := HM5.out; show j < _; omega))
          have e4 : (w6.alloc (.cells #[.int .i64 k_, .slice i1 n1 q1, .int .i64 lo, .int .i64 hi, .bool z, .slice i2 n2 q2] 26)).cell? ⟨pb, 2, none⟩ = some (.int .i64 (g6)) := (HR6.out.al _).two.1
          have f4 : (w6.alloc (.cells #[.int .i64 k_, .slice i1 n1 q1, .int .i64 lo, .int .i64 hi, .bool z, .slice i2 n2 q2] 26)).frozen? ⟨pb, 2, none⟩ = false := (HR6.out.al _).two.2
          have HR7 := hid_intro hr7
          have HB7 := hid_intro (HB6.out.trans hb7)
          have HK7 := hid_intro (HK6.out.but hb7 hnp)
          have HM7 := hid_intro (Nat.le_trans HM6.out hb7.size)
          have hwm : wrap64 (g6 - 1) = g6 - 1 := by exact w64 (by have := HR6.out.grps; omega) (by have := HR6.out.grps; omega)
          clear hb7 hr7 hxw e2 f2 e3 f3
          go_wp2_with fail
          generalize (w6.alloc (.cells #[.int .i64 k_, .slice i1 n1 q1, .int .i64 lo, .int .i64 hi, .bool z, .slice i2 n2 q2] 26)).setCell ⟨pb, 2, none⟩ (.int .i64 (g6 - 1)) = w7 at *
          clear e4 f4 hwm hwg
          by_cases hcl : pk S a6 = 41
          · have HE : Hid (atomP pat (S.drop a) = none) := HE0
            have ht8 := hT 41 (by omega) (a6) (g6 - 1) true _ HR7.out
            rw [decide_eq_true hcl, show tk S (a6) 41 = a6 + 1 by unfold tk; rw [if_pos hcl]] at ht8
            refine ht8.mono ?_; rintro r w8 ⟨rfl, hb8, hr8⟩
            have HR8 := hid_intro hr8
            have HB8 := hid_intro (HB7.out.trans hb8)
            have HK8 := hid_intro (HK7.out.but hb8 hnp)
            have HM8 := hid_intro (Nat.le_trans HM7.out hb8.size)
            have HBB := hid_intro hb8
            clear hb8 hr8 ht8
            have HXF : Hid (XI w8 (fun j => j < w.heap.size + 1) t f) := hid_intro (HXN.out.but (HBB.out) (fun j e => by have h1 : j = pb := e; have := HPL.out; show j < _; omega))
            obtain ⟨p0, p1, p2, p3, p4, p5⟩ := (HQ7.out.but HBB.out (show ¬ w6.heap.size = pb by have := HPL.out; have := HM6.out; omega)).c6
            obtain ⟨c0, c1, c2, c3, c4, c5⟩ := HK8.out.c6
            obtain ⟨z0, z1, z2, z3, z4, z5⟩ := HK8.out.z6
            go_wp2_with fail
            refine bodyPost_ret (v := .agg #[.int .i64 k_, .slice i1 n1 q1, .int .i64 lo, .int .i64 hi, .bool z, .slice i2 n2 q2]) (by simp [results, Tryz.results61, go_sem, c0, c1, c2, c3, c4, c5]) rfl ?_
            rw [HP.out, HE.out]
            have hbf : But (· = pb) w ((((((w8.setCell ⟨w.heap.size, 0, none⟩ (.int .i64 k_)).setCell ⟨w.heap.size, 1, none⟩ (.slice i1 n1 q1)).setCell ⟨w.heap.size, 2, none⟩ (.int .i64 lo)).setCell ⟨w.heap.size, 3, none⟩ (.int .i64 hi)).setCell ⟨w.heap.size, 4, none⟩ (.bool z)).setCell ⟨w.heap.size, 5, none⟩ (.slice i2 n2 q2)) := by with_reducible (repeat (first | exact HB8.out | refine But.set ?_ (Or.inr (Nat.le_refl _)) _))
            have hrf : RP ((((((w8.setCell ⟨w.heap.size, 0, none⟩ (.int .i64 k_)).setCell ⟨w.heap.size, 1, none⟩ (.slice i1 n1 q1)).setCell ⟨w.heap.size, 2, none⟩ (.int .i64 lo)).setCell ⟨w.heap.size, 3, none⟩ (.int .i64 hi)).setCell ⟨w.heap.size, 4, none⟩ (.bool z)).setCell ⟨w.heap.size, 5, none⟩ (.slice i2 n2 q2)) pb S (a6 + 1) (g6 - 1) true := by with_reducible (repeat (first | exact HR8.out | refine RP.away ?_ hrl _))
            have hxf : XI ((((((w8.setCell ⟨w.heap.size, 0, none⟩ (.int .i64 k_)).setCell ⟨w.heap.size, 1, none⟩ (.slice i1 n1 q1)).setCell ⟨w.heap.size, 2, none⟩ (.int .i64 lo)).setCell ⟨w.heap.size, 3, none⟩ (.int .i64 hi)).setCell ⟨w.heap.size, 4, none⟩ (.bool z)).setCell ⟨w.heap.size, 5, none⟩ (.slice i2 n2 q2)) (· < w.heap.size) t f := XI.weak (X := fun b => b < w.heap.size + 1) (by with_reducible (repeat (first | exact HXF.out | refine XI.set ?_ (Nat.lt_succ_self _) _))) (fun b hb => Nat.lt_succ_of_lt hb)
            exact ⟨hbf, _, _, _, g6 - 1, by rw [HEF.out], hxf, hrf, by have := HG6.out; omega⟩
          · have HE : Hid (atomP pat (S.drop a) = none) := HE0
            have ht8 := hT 41 (by omega) (a6) (g6 - 1) true _ HR7.out
            rw [decide_eq_false hcl, show tk S (a6) 41 = a6 by unfold tk; rw [if_neg hcl]] at ht8
            refine ht8.mono ?_; rintro r w8 ⟨rfl, hb8, hr8⟩
            have HR8 := hid_intro hr8
            have HB8 := hid_intro (HB7.out.trans hb8)
            have HK8 := hid_intro (HK7.out.but hb8 hnp)
            have HM8 := hid_intro (Nat.le_trans HM7.out hb8.size)
            have HBC := hid_intro hb8
            clear hb8 hr8 ht8
            go_wp2_with fail
            refine (rfail_any _ _ _ _ _ _ HR8.out).mono ?_; rintro r w9 ⟨rfl, hb9, hr9⟩
            have HR9 := hid_intro hr9
            have HB9 := hid_intro (HB8.out.trans hb9)
            have HK9 := hid_intro (HK8.out.but hb9 hnp)
            have HM9 := hid_intro (Nat.le_trans HM8.out hb9.size)
            have HBB := hid_intro (HBC.out.trans hb9)
            clear hb9 hr9
            have HXF : Hid (XI w9 (fun j => j < w.heap.size + 1) t f) := hid_intro (HXN.out.but (HBB.out) (fun j e => by have h1 : j = pb := e; have := HPL.out; show j < _; omega))
            obtain ⟨p0, p1, p2, p3, p4, p5⟩ := (HQ7.out.but HBB.out (show ¬ w6.heap.size = pb by have := HPL.out; have := HM6.out; omega)).c6
            obtain ⟨c0, c1, c2, c3, c4, c5⟩ := HK9.out.c6
            obtain ⟨z0, z1, z2, z3, z4, z5⟩ := HK9.out.z6
            go_wp2_with fail
            refine bodyPost_ret (v := .agg #[.int .i64 k_, .slice i1 n1 q1, .int .i64 lo, .int .i64 hi, .bool z, .slice i2 n2 q2]) (by simp [results, Tryz.results61, go_sem, c0, c1, c2, c3, c4, c5]) rfl ?_
            rw [HP.out, HE.out]
            have hbf : But (· = pb) w ((((((w9.setCell ⟨w.heap.size, 0, none⟩ (.int .i64 k_)).setCell ⟨w.heap.size, 1, none⟩ (.slice i1 n1 q1)).setCell ⟨w.heap.size, 2, none⟩ (.int .i64 lo)).setCell ⟨w.heap.size, 3, none⟩ (.int .i64 hi)).setCell ⟨w.heap.size, 4, none⟩ (.bool z)).setCell ⟨w.heap.size, 5, none⟩ (.slice i2 n2 q2)) := by with_reducible (repeat (first | exact HB9.out | refine But.set ?_ (Or.inr (Nat.le_refl _)) _))
            have hrf : RP ((((((w9.setCell ⟨w.heap.size, 0, none⟩ (.int .i64 k_)).setCell ⟨w.heap.size, 1, none⟩ (.slice i1 n1 q1)).setCell ⟨w.heap.size, 2, none⟩ (.int .i64 lo)).setCell ⟨w.heap.size, 3, none⟩ (.int .i64 hi)).setCell ⟨w.heap.size, 4, none⟩ (.bool z)).setCell ⟨w.heap.size, 5, none⟩ (.slice i2 n2 q2)) pb S (a6) (g6 - 1) true := by with_reducible (repeat (first | exact HR9.out | refine RP.away ?_ hrl _))
            have hxf : XI ((((((w9.setCell ⟨w.heap.size, 0, none⟩ (.int .i64 k_)).setCell ⟨w.heap.size, 1, none⟩ (.slice i1 n1 q1)).setCell ⟨w.heap.size, 2, none⟩ (.int .i64 lo)).setCell ⟨w.heap.size, 3, none⟩ (.int .i64 hi)).setCell ⟨w.heap.size, 4, none⟩ (.bool z)).setCell ⟨w.heap.size, 5, none⟩ (.slice i2 n2 q2)) (· < w.heap.size) t f := XI.weak (X := fun b => b < w.heap.size + 1) (by with_reducible (repeat (first | exact HXF.out | refine XI.set ?_ (Nat.lt_succ_self _) _))) (fun b hb => Nat.lt_succ_of_lt hb)
            exact ⟨hbf, _, _, _, g6 - 1, by rw [HEF.out], hxf, hrf, by have := HG6.out; omega⟩
        | some y =>
          obtain ⟨t, l1⟩ := y
          obtain ⟨f, a6, rfl, hx6, hr6, hle6, hl1⟩ := hcs
          have HR6 := hid_intro hr6
          have HB6 := hid_intro (HB5.out.trans hb6)
          have HK6 := hid_intro (HK5.out.but hb6 hnp)
          have HM6 := hid_intro (Nat.le_trans HM5.out hb6.size)
          have HX6 := hid_intro hx6
          have HL6 := hid_intro hle6
          simp only [hl1] at HE0
          rw [sw1 (by omega), List.drop_drop] at HE0
          clear hb6 hr6 hx6 hal hle6 hl1
          obtain ⟨k_, i1, n1, q1, lo, hi, z, i2, n2, q2, ef⟩ := HX6.out.lit
          have HEF := hid_intro ef
          rw [ef]
          clear ef
          have hxw : XI (w6.alloc (.cells #[.int .i64 k_, .slice i1 n1 q1, .int .i64 lo, .int .i64 hi, .bool z, .slice i2 n2 q2] 26)) (· < w5.heap.size) t f := HX6.out.kept (vb_a (Below.refl _ _) _)
          have HQ7 : Hid (Bk ((w6.alloc (.cells #[.int .i64 k_, .slice i1 n1 q1, .int .i64 lo, .int .i64 hi, .bool z, .slice i2 n2 q2] 26)).setCell ⟨pb, 2, none⟩ (.int .i64 (g))) w6.heap.size #[.int .i64 k_, .slice i1 n1 q1, .int .i64 lo, .int .i64 hi, .bool z, .slice i2 n2 q2]) := hid_intro ((Bk.new _ _ _).away (by show w6.heap.size ≠ pb; have := HPL.out; have := HM6.out; omega))
          have hb7 : But (· = pb) w6 ((w6.alloc (.cells #[.int .i64 k_, .slice i1 n1 q1, .int .i64 lo, .int .i64 hi, .bool z, .slice i2 n2 q2] 26)).setCell ⟨pb, 2, none⟩ (.int .i64 (g))) := But.setr ((But.refl _ _).alloc _) _
          have hr7 : RP ((w6.alloc (.cells #[.int .i64 k_, .slice i1 n1 q1, .int .i64 lo, .int .i64 hi, .bool z, .slice i2 n2 q2] 26)).setCell ⟨pb, 2, none⟩ (.int .i64 (g))) pb S a6 (g) false := (HR6.out.al _).grp _ (by have h1 := HGB.out; have h2 := HR6.out.grps; omega)
          have HXN : Hid (XI ((w6.alloc (.cells #[.int .i64 k_, .slice i1 n1 q1, .int .i64 lo, .int .i64 hi, .bool z, .slice i2 n2 q2] 26)).setCell ⟨pb, 2, none⟩ (.int .i64 (g))) (fun j => j < w.heap.size + 1) t f) := hid_intro ((hxw.set (a := ⟨pb, 2, none⟩) (by show pb < _; have := HPL.out; have := HM5.out; omega) _).weak (fun j hj => by have h1 : j < w.heap.size + 1 := hj; have := HM5.out; show j < _; omega))
          have e4 : (w6.alloc (.cells #[.int .i64 k_, .slice i1 n1 q1, .int .i64 lo, .int .i64 hi, .bool z, .slice i2 n2 q2] 26)).cell? ⟨pb, 2, none⟩ = some (.int .i64 (g + 1)) := (HR6.out.al _).two.1
          have f4 : (w6.alloc (.cells #[.int .i64 k_, .slice i1 n1 q1, .int .i64 lo, .int .i64 hi, .bool z, .slice i2 n2 q2] 26)).frozen? ⟨pb, 2, none⟩ = false := (HR6.out.al _).two.2
          have HR7 := hid_intro hr7
          have HB7 := hid_intro (HB6.out.trans hb7)
          have HK7 := hid_intro (HK6.out.but hb7 hnp)
          have HM7 := hid_intro (Nat.le_trans HM6.out hb7.size)
          have hwm : wrap64 (g) = g := by exact w64 (by have := HGB.out; omega) (by have := HGB.out; omega)
          clear hb7 hr7 hxw e2 f2 e3 f3
          go_wp2_with fail
          generalize (w6.alloc (.cells #[.int .i64 k_, .slice i1 n1 q1, .int .i64 lo, .int .i64 hi, .bool z, .slice i2 n2 q2] 26)).setCell ⟨pb, 2, none⟩ (.int .i64 (g)) = w7 at *
          clear e4 f4 hwm hwg
          by_cases hcl : pk S a6 = 41
          · have HE : Hid (atomP pat (S.drop a) = some (t, S.drop (a6 + 1))) := hid_intro (by rw [HE0.out, decide_eq_true hcl, if_pos rfl])
            have ht8 := hT 41 (by omega) (a6) (g) false _ HR7.out
            rw [decide_eq_true hcl, show tk S (a6) 41 = a6 + 1 by unfold tk; rw [if_pos hcl]] at ht8
            refine ht8.mono ?_; rintro r w8 ⟨rfl, hb8, hr8⟩
            have HR8 := hid_intro hr8
            have HB8 := hid_intro (HB7.out.trans hb8)
            have HK8 := hid_intro (HK7.out.but hb8 hnp)
            have HM8 := hid_intro (Nat.le_trans HM7.out hb8.size)
            have HBB := hid_intro hb8
            clear hb8 hr8 ht8
            have HXF : Hid (XI w8 (fun j => j < w.heap.size + 1) t f) := hid_intro (HXN.out.but (HBB.out) (fun j e => by have h1 : j = pb := e; have := HPL.out; show j < _; omega))
            obtain ⟨p0, p1, p2, p3, p4, p5⟩ := (HQ7.out.but HBB.out (show ¬ w6.heap.size = pb by have := HPL.out; have := HM6.out; omega)).c6
            obtain ⟨c0, c1, c2, c3, c4, c5⟩ := HK8.out.c6
            obtain ⟨z0, z1, z2, z3, z4, z5⟩ := HK8.out.z6
            go_wp2_with fail
            refine bodyPost_ret (v := .agg #[.int .i64 k_, .slice i1 n1 q1, .int .i64 lo, .int .i64 hi, .bool z, .slice i2 n2 q2]) (by simp [results, Tryz.results61, go_sem, c0, c1, c2, c3, c4, c5]) rfl ?_
            rw [HP.out, HE.out]
            have hbf : But (· = pb) w ((((((w8.setCell ⟨w.heap.size, 0, none⟩ (.int .i64 k_)).setCell ⟨w.heap.size, 1, none⟩ (.slice i1 n1 q1)).setCell ⟨w.heap.size, 2, none⟩ (.int .i64 lo)).setCell ⟨w.heap.size, 3, none⟩ (.int .i64 hi)).setCell ⟨w.heap.size, 4, none⟩ (.bool z)).setCell ⟨w.heap.size, 5, none⟩ (.slice i2 n2 q2)) := by with_reducible (repeat (first | exact HB8.out | refine But.set ?_ (Or.inr (Nat.le_refl _)) _))
            have hrf : RP ((((((w8.setCell ⟨w.heap.size, 0, none⟩ (.int .i64 k_)).setCell ⟨w.heap.size, 1, none⟩ (.slice i1 n1 q1)).setCell ⟨w.heap.size, 2, none⟩ (.int .i64 lo)).setCell ⟨w.heap.size, 3, none⟩ (.int .i64 hi)).setCell ⟨w.heap.size, 4, none⟩ (.bool z)).setCell ⟨w.heap.size, 5, none⟩ (.slice i2 n2 q2)) pb S (a6 + 1) (g) false := by with_reducible (repeat (first | exact HR8.out | refine RP.away ?_ hrl _))
            have hxf : XI ((((((w8.setCell ⟨w.heap.size, 0, none⟩ (.int .i64 k_)).setCell ⟨w.heap.size, 1, none⟩ (.slice i1 n1 q1)).setCell ⟨w.heap.size, 2, none⟩ (.int .i64 lo)).setCell ⟨w.heap.size, 3, none⟩ (.int .i64 hi)).setCell ⟨w.heap.size, 4, none⟩ (.bool z)).setCell ⟨w.heap.size, 5, none⟩ (.slice i2 n2 q2)) (· < w.heap.size) t f := XI.weak (X := fun b => b < w.heap.size + 1) (by with_reducible (repeat (first | exact HXF.out | refine XI.set ?_ (Nat.lt_succ_self _) _))) (fun b hb => Nat.lt_succ_of_lt hb)
            exact ⟨hbf, _, a6 + 1, by rw [HEF.out], hxf, hrf, pk_lt (by omega), rfl⟩
          · have HE : Hid (atomP pat (S.drop a) = none) := hid_intro (by rw [HE0.out, decide_eq_false hcl, if_neg (by simp)])
            have ht8 := hT 41 (by omega) (a6) (g) false _ HR7.out
            rw [decide_eq_false hcl, show tk S (a6) 41 = a6 by unfold tk; rw [if_neg hcl]] at ht8
            refine ht8.mono ?_; rintro r w8 ⟨rfl, hb8, hr8⟩
            have HR8 := hid_intro hr8
            have HB8 := hid_intro (HB7.out.trans hb8)
            have HK8 := hid_intro (HK7.out.but hb8 hnp)
            have HM8 := hid_intro (Nat.le_trans HM7.out hb8.size)
            have HBC := hid_intro hb8
            clear hb8 hr8 ht8
            go_wp2_with fail
            refine (rfail_any _ _ _ _ _ _ HR8.out).mono ?_; rintro r w9 ⟨rfl, hb9, hr9⟩
            have HR9 := hid_intro hr9
            have HB9 := hid_intro (HB8.out.trans hb9)
            have HK9 := hid_intro (HK8.out.but hb9 hnp)
            have HM9 := hid_intro (Nat.le_trans HM8.out hb9.size)
            have HBB := hid_intro (HBC.out.trans hb9)
            clear hb9 hr9
            have HXF : Hid (XI w9 (fun j => j < w.heap.size + 1) t f) := hid_intro (HXN.out.but (HBB.out) (fun j e => by have h1 : j = pb := e; have := HPL.out; show j < _; omega))
            obtain ⟨p0, p1, p2, p3, p4, p5⟩ := (HQ7.out.but HBB.out (show ¬ w6.heap.size = pb by have := HPL.out; have := HM6.out; omega)).c6
            obtain ⟨c0, c1, c2, c3, c4, c5⟩ := HK9.out.c6
            obtain ⟨z0, z1, z2, z3, z4, z5⟩ := HK9.out.z6
            go_wp2_with fail
            refine bodyPost_ret (v := .agg #[.int .i64 k_, .slice i1 n1 q1, .int .i64 lo, .int .i64 hi, .bool z, .slice i2 n2 q2]) (by simp [results, Tryz.results61, go_sem, c0, c1, c2, c3, c4, c5]) rfl ?_
            rw [HP.out, HE.out]
            have hbf : But (· = pb) w ((((((w9.setCell ⟨w.heap.size, 0, none⟩ (.int .i64 k_)).setCell ⟨w.heap.size, 1, none⟩ (.slice i1 n1 q1)).setCell ⟨w.heap.size, 2, none⟩ (.int .i64 lo)).setCell ⟨w.heap.size, 3, none⟩ (.int .i64 hi)).setCell ⟨w.heap.size, 4, none⟩ (.bool z)).setCell ⟨w.heap.size, 5, none⟩ (.slice i2 n2 q2)) := by with_reducible (repeat (first | exact HB9.out | refine But.set ?_ (Or.inr (Nat.le_refl _)) _))
            have hrf : RP ((((((w9.setCell ⟨w.heap.size, 0, none⟩ (.int .i64 k_)).setCell ⟨w.heap.size, 1, none⟩ (.slice i1 n1 q1)).setCell ⟨w.heap.size, 2, none⟩ (.int .i64 lo)).setCell ⟨w.heap.size, 3, none⟩ (.int .i64 hi)).setCell ⟨w.heap.size, 4, none⟩ (.bool z)).setCell ⟨w.heap.size, 5, none⟩ (.slice i2 n2 q2)) pb S (a6) (g) true := by with_reducible (repeat (first | exact HR9.out | refine RP.away ?_ hrl _))
            have hxf : XI ((((((w9.setCell ⟨w.heap.size, 0, none⟩ (.int .i64 k_)).setCell ⟨w.heap.size, 1, none⟩ (.slice i1 n1 q1)).setCell ⟨w.heap.size, 2, none⟩ (.int .i64 lo)).setCell ⟨w.heap.size, 3, none⟩ (.int .i64 hi)).setCell ⟨w.heap.size, 4, none⟩ (.bool z)).setCell ⟨w.heap.size, 5, none⟩ (.slice i2 n2 q2)) (· < w.heap.size) t f := XI.weak (X := fun b => b < w.heap.size + 1) (by with_reducible (repeat (first | exact HXF.out | refine XI.set ?_ (Nat.lt_succ_self _) _))) (fun b hb => Nat.lt_succ_of_lt hb)
            exact ⟨hbf, _, _, _, g, by rw [HEF.out], hxf, hrf, Int.le_refl _⟩
      · have hgd2 : 200 < g + 1 := by omega
        rw [HNONE.out (by omega)] at HE0
        have HE : Hid (atomP pat (S.drop a) = none) := HE0
        go_wp2_with fail
        refine (rfail_any _ _ _ _ _ _ HR5.out).mono ?_; rintro r w6 ⟨rfl, hb6, hr6⟩
        have HR6 := hid_intro hr6
        have HB6 := hid_intro (HB5.out.trans hb6)
        have HK6 := hid_intro (HK5.out.but hb6 hnp)
        have HM6 := hid_intro (Nat.le_trans HM5.out hb6.size)
        clear hb6 hr6
        obtain ⟨c0, c1, c2, c3, c4, c5⟩ := HK6.out.c6
        obtain ⟨z0, z1, z2, z3, z4, z5⟩ := HK6.out.z6
        go_wp2_with fail
        refine bodyPost_ret (v := .agg #[.int .i64 0, .slice none 0 0, .int .i64 0, .int .i64 0, .bool false, .slice none 0 0]) (by simp [results, Tryz.results61, go_sem, c0, c1, c2, c3, c4, c5]) rfl ?_
        rw [HP.out, HE.out]
        have hbf : But (· = pb) w ((((((w6.setCell ⟨w.heap.size, 0, none⟩ (.int .i64 0)).setCell ⟨w.heap.size, 1, none⟩ (.slice none 0 0)).setCell ⟨w.heap.size, 2, none⟩ (.int .i64 0)).setCell ⟨w.heap.size, 3, none⟩ (.int .i64 0)).setCell ⟨w.heap.size, 4, none⟩ (.bool false)).setCell ⟨w.heap.size, 5, none⟩ (.slice none 0 0)) := by with_reducible (repeat (first | exact HB6.out | refine But.set ?_ (Or.inr (Nat.le_refl _)) _))
        have hrf : RP ((((((w6.setCell ⟨w.heap.size, 0, none⟩ (.int .i64 0)).setCell ⟨w.heap.size, 1, none⟩ (.slice none 0 0)).setCell ⟨w.heap.size, 2, none⟩ (.int .i64 0)).setCell ⟨w.heap.size, 3, none⟩ (.int .i64 0)).setCell ⟨w.heap.size, 4, none⟩ (.bool false)).setCell ⟨w.heap.size, 5, none⟩ (.slice none 0 0)) pb S (a + 1 + 1 + 1) (g + 1) true := by with_reducible (repeat (first | exact HR6.out | refine RP.away ?_ hrl _))
        have hxf := xi_zero ((((((w6.setCell ⟨w.heap.size, 0, none⟩ (.int .i64 0)).setCell ⟨w.heap.size, 1, none⟩ (.slice none 0 0)).setCell ⟨w.heap.size, 2, none⟩ (.int .i64 0)).setCell ⟨w.heap.size, 3, none⟩ (.int .i64 0)).setCell ⟨w.heap.size, 4, none⟩ (.bool false)).setCell ⟨w.heap.size, 5, none⟩ (.slice none 0 0)) (· < w.heap.size)
        exact ⟨hbf, _, _, _, g + 1, rfl, hxf, hrf, by omega⟩
    · have HE : Hid (atomP pat (S.drop a) = none) := hid_intro (by rw [HE0.out, HBE.out, if_neg (fun h => h2 h.2), H63.out _ h1])
      have ht4 := hT 58 (by omega) (a + 1 + 1) (g) false _ HR3.out
      rw [decide_eq_false h2, show tk S (a + 1 + 1) 58 = a + 1 + 1 by unfold tk; rw [if_neg h2]] at ht4
      refine ht4.mono ?_; rintro r w4 ⟨rfl, hb4, hr4⟩
      have HR4 := hid_intro hr4
      have HB4 := hid_intro (HB3.out.trans hb4)
      have HK4 := hid_intro (HK3.out.but hb4 hnp)
      have HM4 := hid_intro (Nat.le_trans HM3.out hb4.size)
      clear hb4 hr4 ht4
      go_wp2_with fail
      refine (rfail_any _ _ _ _ _ _ HR4.out).mono ?_; rintro r w5 ⟨rfl, hb5, hr5⟩
      have HR5 := hid_intro hr5
      have HB5 := hid_intro (HB4.out.trans hb5)
      have HK5 := hid_intro (HK4.out.but hb5 hnp)
      have HM5 := hid_intro (Nat.le_trans HM4.out hb5.size)
      clear hb5 hr5
      obtain ⟨c0, c1, c2, c3, c4, c5⟩ := HK5.out.c6
      obtain ⟨z0, z1, z2, z3, z4, z5⟩ := HK5.out.z6
      go_wp2_with fail
      refine bodyPost_ret (v := .agg #[.int .i64 0, .slice none 0 0, .int .i64 0, .int .i64 0, .bool false, .slice none 0 0]) (by simp [results, Tryz.results61, go_sem, c0, c1, c2, c3, c4, c5]) rfl ?_
      rw [HP.out, HE.out]
      have hbf : But (· = pb) w ((((((w5.setCell ⟨w.heap.size, 0, none⟩ (.int .i64 0)).setCell ⟨w.heap.size, 1, none⟩ (.slice none 0 0)).setCell ⟨w.heap.size, 2, none⟩ (.int .i64 0)).setCell ⟨w.heap.size, 3, none⟩ (.int .i64 0)).setCell ⟨w.heap.size, 4, none⟩ (.bool false)).setCell ⟨w.heap.size, 5, none⟩ (.slice none 0 0)) := by with_reducible (repeat (first | exact HB5.out | refine But.set ?_ (Or.inr (Nat.le_refl _)) _))
      have hrf : RP ((((((w5.setCell ⟨w.heap.size, 0, none⟩ (.int .i64 0)).setCell ⟨w.heap.size, 1, none⟩ (.slice none 0 0)).setCell ⟨w.heap.size, 2, none⟩ (.int .i64 0)).setCell ⟨w.heap.size, 3, none⟩ (.int .i64 0)).setCell ⟨w.heap.size, 4, none⟩ (.bool false)).setCell ⟨w.heap.size, 5, none⟩ (.slice none 0 0)) pb S (a + 1 + 1) (g) true := by with_reducible (repeat (first | exact HR5.out | refine RP.away ?_ hrl _))
      have hxf := xi_zero ((((((w5.setCell ⟨w.heap.size, 0, none⟩ (.int .i64 0)).setCell ⟨w.heap.size, 1, none⟩ (.slice none 0 0)).setCell ⟨w.heap.size, 2, none⟩ (.int .i64 0)).setCell ⟨w.heap.size, 3, none⟩ (.int .i64 0)).setCell ⟨w.heap.size, 4, none⟩ (.bool false)).setCell ⟨w.heap.size, 5, none⟩ (.slice none 0 0)) (· < w.heap.size)
      exact ⟨hbf, _, _, _, g, rfl, hxf, hrf, Int.le_refl _⟩
  · have hbb : b = a + 1 := by rw [HBE.out, if_neg (fun h => h1 h.1)]
    subst hbb
    have HBL : Hid (a + 1 ≤ S.length) := HK40
    have ht3 := hT 63 (by omega) (a + 1) (g) false _ HR2.out
    rw [decide_eq_false h1, show tk S (a + 1) 63 = a + 1 by unfold tk; rw [if_neg h1]] at ht3
    refine ht3.mono ?_; rintro r w3 ⟨rfl, hb3, hr3⟩
    have HR3 := hid_intro hr3
    have HB3 := hid_intro (HB2.out.trans hb3)
    have HK3 := hid_intro (HK2.out.but hb3 hnp)
    have HM3 := hid_intro (Nat.le_trans HM2.out hb3.size)
    clear hb3 hr3 ht3
    have hRg : RP (w3.setCell ⟨pb, 2, none⟩ (.int .i64 (g + 1))) pb S (a + 1) (g + 1) false := HR3.out.grp (g + 1) (by have := HGB.out; have := HG2.out; omega)
    have hb4 : But (· = pb) w3 (w3.setCell ⟨pb, 2, none⟩ (.int .i64 (g + 1))) := But.setr (But.refl _ _) _
    obtain ⟨w4, hw4⟩ : ∃ w4, w3.setCell ⟨pb, 2, none⟩ (.int .i64 (g + 1)) = w4 := ⟨_, rfl⟩
    rw [hw4] at hRg hb4
    have hr4 := hRg
    clear hRg
    have HR4 := hid_intro hr4
    have HB4 := hid_intro (HB3.out.trans hb4)
    have HK4 := hid_intro (HK3.out.but hb4 hnp)
    have HM4 := hid_intro (Nat.le_trans HM3.out hb4.size)
    clear hb4 hr4
    obtain ⟨e2, f2⟩ := HR3.out.two
    obtain ⟨e3, f3⟩ := HR4.out.two
    have hwg : wrap64 (g + 1) = g + 1 := w64 (by have := HGB.out; omega) (by have := HGB.out; omega)
    by_cases hgd : g + 1 ≤ 200
    · have hgd2 : ¬ 200 < g + 1 := by omega
      have hal := HPAT.out hgd _ _ HBL.out HR4.out
      go_wp2_with fail
      obtain ⟨U, hU⟩ : ∃ U, pat (S.drop (a + 1)) = U := ⟨_, rfl⟩
      rw [hU] at hal HE0
      refine hal.mono ?_; rintro r w5 ⟨hb5, hcs⟩
      cases U with
      | none =>
        obtain ⟨t, f, a5, g5, rfl, hx5, hr5, hg5⟩ := hcs
        have HR5 := hid_intro hr5
        have HB5 := hid_intro (HB4.out.trans hb5)
        have HK5 := hid_intro (HK4.out.but hb5 hnp)
        have HM5 := hid_intro (Nat.le_trans HM4.out hb5.size)
        have HX5 := hid_intro hx5
        have HG5 := hid_intro hg5
        clear hb5 hr5 hx5 hg5 hal
        obtain ⟨k_, i1, n1, q1, lo, hi, z, i2, n2, q2, ef⟩ := HX5.out.lit
        have HEF := hid_intro ef
        rw [ef]
        clear ef
        have hxw : XI (w5.alloc (.cells #[.int .i64 k_, .slice i1 n1 q1, .int .i64 lo, .int .i64 hi, .bool z, .slice i2 n2 q2] 26)) (· < w4.heap.size) t f := HX5.out.kept (vb_a (Below.refl _ _) _)
        have HQ6 : Hid (Bk ((w5.alloc (.cells #[.int .i64 k_, .slice i1 n1 q1, .int .i64 lo, .int .i64 hi, .bool z, .slice i2 n2 q2] 26)).setCell ⟨pb, 2, none⟩ (.int .i64 (g5 - 1))) w5.heap.size #[.int .i64 k_, .slice i1 n1 q1, .int .i64 lo, .int .i64 hi, .bool z, .slice i2 n2 q2]) := hid_intro ((Bk.new _ _ _).away (by show w5.heap.size ≠ pb; have := HPL.out; have := HM5.out; omega))
        have hb6 : But (· = pb) w5 ((w5.alloc (.cells #[.int .i64 k_, .slice i1 n1 q1, .int .i64 lo, .int .i64 hi, .bool z, .slice i2 n2 q2] 26)).setCell ⟨pb, 2, none⟩ (.int .i64 (g5 - 1))) := But.setr ((But.refl _ _).alloc _) _
        have hr6 : RP ((w5.alloc (.cells #[.int .i64 k_, .slice i1 n1 q1, .int .i64 lo, .int .i64 hi, .bool z, .slice i2 n2 q2] 26)).setCell ⟨pb, 2, none⟩ (.int .i64 (g5 - 1))) pb S a5 (g5 - 1) true := (HR5.out.al _).grp _ (by have h1 := HGB.out; have h2 := HR5.out.grps; have h3 := HG5.out; omega)
        have HXN : Hid (XI ((w5.alloc (.cells #[.int .i64 k_, .slice i1 n1 q1, .int .i64 lo, .int .i64 hi, .bool z, .slice i2 n2 q2] 26)).setCell ⟨pb, 2, none⟩ (.int .i64 (g5 - 1))) (fun j => j < w.heap.size + 1) t f) := hid_intro ((hxw.set (a := ⟨pb, 2, none⟩) (by show pb < _; have := HPL.out; have := HM4.out; omega) _).weak (fun j hj => by have h1 : j < w.heap.size + 1 := hj; have := HM4.out; show j < _; omega))
        have e4 : (w5.alloc (.cells #[.int .i64 k_, .slice i1 n1 q1, .int .i64 lo, .int .i64 hi, .bool z, .slice i2 n2 q2] 26)).cell? ⟨pb, 2, none⟩ = some (.int .i64 (g5)) := (HR5.out.al _).two.1
        have f4 : (w5.alloc (.cells #[.int .i64 k_, .slice i1 n1 q1, .int .i64 lo, .int .i64 hi, .bool z, .slice i2 n2 q2] 26)).frozen? ⟨pb, 2, none⟩ = false := (HR5.out.al _).two.2
        have HR6 := hid_intro hr6
        have HB6 := hid_intro (HB5.out.trans hb6)
        have HK6 := hid_intro (HK5.out.but hb6 hnp)
        have HM6 := hid_intro (Nat.le_trans HM5.out hb6.size)
        have hwm : wrap64 (g5 - 1) = g5 - 1 := by exact w64 (by have := HR5.out.grps; omega) (by have := HR5.out.grps; omega)
        clear hb6 hr6 hxw e2 f2 e3 f3
        go_wp2_with fail
        generalize (w5.alloc (.cells #[.int .i64 k_, .slice i1 n1 q1, .int .i64 lo, .int .i64 hi, .bool z, .slice i2 n2 q2] 26)).setCell ⟨pb, 2, none⟩ (.int .i64 (g5 - 1)) = w6 at *
        clear e4 f4 hwm hwg
        by_cases hcl : pk S a5 = 41
        · have HE : Hid (atomP pat (S.drop a) = none) := HE0
          have ht7 := hT 41 (by omega) (a5) (g5 - 1) true _ HR6.out
          rw [decide_eq_true hcl, show tk S (a5) 41 = a5 + 1 by unfold tk; rw [if_pos hcl]] at ht7
          refine ht7.mono ?_; rintro r w7 ⟨rfl, hb7, hr7⟩
          have HR7 := hid_intro hr7
          have HB7 := hid_intro (HB6.out.trans hb7)
          have HK7 := hid_intro (HK6.out.but hb7 hnp)
          have HM7 := hid_intro (Nat.le_trans HM6.out hb7.size)
          have HBB := hid_intro hb7
          clear hb7 hr7 ht7
          have HXF : Hid (XI w7 (fun j => j < w.heap.size + 1) t f) := hid_intro (HXN.out.but (HBB.out) (fun j e => by have h1 : j = pb := e; have := HPL.out; show j < _; omega))
          obtain ⟨p0, p1, p2, p3, p4, p5⟩ := (HQ6.out.but HBB.out (show ¬ w5.heap.size = pb by have := HPL.out; have := HM5.out; omega)).c6
          obtain ⟨c0, c1, c2, c3, c4, c5⟩ := HK7.out.c6
          obtain ⟨z0, z1, z2, z3, z4, z5⟩ := HK7.out.z6
          go_wp2_with fail
          refine bodyPost_ret (v := .agg #[.int .i64 k_, .slice i1 n1 q1, .int .i64 lo, .int .i64 hi, .bool z, .slice i2 n2 q2]) (by simp [results, Tryz.results61, go_sem, c0, c1, c2, c3, c4, c5]) rfl ?_
          rw [HP.out, HE.out]
          have hbf : But (· = pb) w ((((((w7.setCell ⟨w.heap.size, 0, none⟩ (.int .i64 k_)).setCell ⟨w.heap.size, 1, none⟩ (.slice i1 n1 q1)).setCell ⟨w.heap.size, 2, none⟩ (.int .i64 lo)).setCell ⟨w.heap.size, 3, none⟩ (.int .i64 hi)).setCell ⟨w.heap.size, 4, none⟩ (.bool z)).setCell ⟨w.heap.size, 5, none⟩ (.slice i2 n2 q2)) := by with_reducible (repeat (first | exact HB7.out | refine But.set ?_ (Or.inr (Nat.le_refl _)) _))
          have hrf : RP ((((((w7.setCell ⟨w.heap.size, 0, none⟩ (.int .i64 k_)).setCell ⟨w.heap.size, 1, none⟩ (.slice i1 n1 q1)).setCell ⟨w.heap.size, 2, none⟩ (.int .i64 lo)).setCell ⟨w.heap.size, 3, none⟩ (.int .i64 hi)).setCell ⟨w.heap.size, 4, none⟩ (.bool z)).setCell ⟨w.heap.size, 5, none⟩ (.slice i2 n2 q2)) pb S (a5 + 1) (g5 - 1) true := by with_reducible (repeat (first | exact HR7.out | refine RP.away ?_ hrl _))
          have hxf : XI ((((((w7.setCell ⟨w.heap.size, 0, none⟩ (.int .i64 k_)).setCell ⟨w.heap.size, 1, none⟩ (.slice i1 n1 q1)).setCell ⟨w.heap.size, 2, none⟩ (.int .i64 lo)).setCell ⟨w.heap.size, 3, none⟩ (.int .i64 hi)).setCell ⟨w.heap.size, 4, none⟩ (.bool z)).setCell ⟨w.heap.size, 5, none⟩ (.slice i2 n2 q2)) (· < w.heap.size) t f := XI.weak (X := fun b => b < w.heap.size + 1) (by with_reducible (repeat (first | exact HXF.out | refine XI.set ?_ (Nat.lt_succ_self _) _))) (fun b hb => Nat.lt_succ_of_lt hb)
          exact ⟨hbf, _, _, _, g5 - 1, by rw [HEF.out], hxf, hrf, by have := HG5.out; omega⟩
        · have HE : Hid (atomP pat (S.drop a) = none) := HE0
          have ht7 := hT 41 (by omega) (a5) (g5 - 1) true _ HR6.out
          rw [decide_eq_false hcl, show tk S (a5) 41 = a5 by unfold tk; rw [if_neg hcl]] at ht7
          refine ht7.mono ?_; rintro r w7 ⟨rfl, hb7, hr7⟩
          have HR7 := hid_intro hr7
          have HB7 := hid_intro (HB6.out.trans hb7)
          have HK7 := hid_intro (HK6.out.but hb7 hnp)
          have HM7 := hid_intro (Nat.le_trans HM6.out hb7.size)
          have HBC := hid_intro hb7
          clear hb7 hr7 ht7
          go_wp2_with fail
          refine (rfail_any _ _ _ _ _ _ HR7.out).mono ?_; rintro r w8 ⟨rfl, hb8, hr8⟩
          have HR8 := hid_intro hr8
          have HB8 := hid_intro (HB7.out.trans hb8)
          have HK8 := hid_intro (HK7.out.but hb8 hnp)
          have HM8 := hid_intro (Nat.le_trans HM7.out hb8.size)
          have HBB := hid_intro (HBC.out.trans hb8)
          clear hb8 hr8
          have HXF : Hid (XI w8 (fun j => j < w.heap.size + 1) t f) := hid_intro (HXN.out.but (HBB.out) (fun j e => by have h1 : j = pb := e; have := HPL.out; show j < _; omega))
          obtain ⟨p0, p1, p2, p3, p4, p5⟩ := (HQ6.out.but HBB.out (show ¬ w5.heap.size = pb by have := HPL.out; have := HM5.out; omega)).c6
          obtain ⟨c0, c1, c2, c3, c4, c5⟩ := HK8.out.c6
          obtain ⟨z0, z1, z2, z3, z4, z5⟩ := HK8.out.z6
          go_wp2_with fail
          refine bodyPost_ret (v := .agg #[.int .i64 k_, .slice i1 n1 q1, .int .i64 lo, .int .i64 hi, .bool z, .slice i2 n2 q2]) (by simp [results, Tryz.results61, go_sem, c0, c1, c2, c3, c4, c5]) rfl ?_
          rw [HP.out, HE.out]
          have hbf : But (· = pb) w ((((((w8.setCell ⟨w.heap.size, 0, none⟩ (.int .i64 k_)).setCell ⟨w.heap.size, 1, none⟩ (.slice i1 n1 q1)).setCell ⟨w.heap.size, 2, none⟩ (.int .i64 lo)).setCell ⟨w.heap.size, 3, none⟩ (.int .i64 hi)).setCell ⟨w.heap.size, 4, none⟩ (.bool z)).setCell ⟨w.heap.size, 5, none⟩ (.slice i2 n2 q2)) := by with_reducible (repeat (first | exact HB8.out | refine But.set ?_ (Or.inr (Nat.le_refl _)) _))
          have hrf : RP ((((((w8.setCell ⟨w.heap.size, 0, none⟩ (.int .i64 k_)).setCell ⟨w.heap.size, 1, none⟩ (.slice i1 n1 q1)).setCell ⟨w.heap.size, 2, none⟩ (.int .i64 lo)).setCell ⟨w.heap.size, 3, none⟩ (.int .i64 hi)).setCell ⟨w.heap.size, 4, none⟩ (.bool z)).setCell ⟨w.heap.size, 5, none⟩ (.slice i2 n2 q2)) pb S (a5) (g5 - 1) true := by with_reducible (repeat (first | exact HR8.out | refine RP.away ?_ hrl _))
          have hxf : XI ((((((w8.setCell ⟨w.heap.size, 0, none⟩ (.int .i64 k_)).setCell ⟨w.heap.size, 1, none⟩ (.slice i1 n1 q1)).setCell ⟨w.heap.size, 2, none⟩ (.int .i64 lo)).setCell ⟨w.heap.size, 3, none⟩ (.int .i64 hi)).setCell ⟨w.heap.size, 4, none⟩ (.bool z)).setCell ⟨w.heap.size, 5, none⟩ (.slice i2 n2 q2)) (· < w.heap.size) t f := XI.weak (X := fun b => b < w.heap.size + 1) (by with_reducible (repeat (first | exact HXF.out | refine XI.set ?_ (Nat.lt_succ_self _) _))) (fun b hb => Nat.lt_succ_of_lt hb)
          exact ⟨hbf, _, _, _, g5 - 1, by rw [HEF.out], hxf, hrf, by have := HG5.out; omega⟩
      | some y =>
        obtain ⟨t, l1⟩ := y
        obtain ⟨f, a5, rfl, hx5, hr5, hle5, hl1⟩ := hcs
        have HR5 := hid_intro hr5
        have HB5 := hid_intro (HB4.out.trans hb5)
        have HK5 := hid_intro (HK4.out.but hb5 hnp)
        have HM5 := hid_intro (Nat.le_trans HM4.out hb5.size)
        have HX5 := hid_intro hx5
        have HL5 := hid_intro hle5
        simp only [hl1] at HE0
        rw [sw1 (by omega), List.drop_drop] at HE0
        clear hb5 hr5 hx5 hal hle5 hl1
        obtain ⟨k_, i1, n1, q1, lo, hi, z, i2, n2, q2, ef⟩ := HX5.out.lit
        have HEF := hid_intro ef
        rw [ef]
        clear ef
        have hxw : XI (w5.alloc (.cells #[.int .i64 k_, .slice i1 n1 q1, .int .i64 lo, .int .i64 hi, .bool z, .slice i2 n2 q2] 26)) (· < w4.heap.size) t f := HX5.out.kept (vb_a (Below.refl _ _) _)
        have HQ6 : Hid (Bk ((w5.alloc (.cells #[.int .i64 k_, .slice i1 n1 q1, .int .i64 lo, .int .i64 hi, .bool z, .slice i2 n2 q2] 26)).setCell ⟨pb, 2, none⟩ (.int .i64 (g))) w5.heap.size #[.int .i64 k_, .slice i1 n1 q1, .int .i64 lo, .int .i64 hi, .bool z, .slice i2 n2 q2]) := hid_intro ((Bk.new _ _ _).away (by show w5.heap.size ≠ pb; have := HPL.out; have := HM5.out; omega))
        have hb6 : But (· = pb) w5 ((w5.alloc (.cells #[.int .i64 k_, .slice i1 n1 q1, .int .i64 lo, .int .i64 hi, .bool z, .slice i2 n2 q2] 26)).setCell ⟨pb, 2, none⟩ (.int .i64 (g))) := But.setr ((But.refl _ _).alloc _) _
        have hr6 : RP ((w5.alloc (.cells #[.int .i64 k_, .slice i1 n1 q1, .int .i64 lo, .int .i64 hi, .bool z, .slice i2 n2 q2] 26)).setCell ⟨pb, 2, none⟩ (.int .i64 (g))) pb S a5 (g) false := (HR5.out.al _).grp _ (by have h1 := HGB.out; have h2 := HR5.out.grps; omega)
        have HXN : Hid (XI ((w5.alloc (.cells #[.int .i64 k_, .slice i1 n1 q1, .int .i64 lo, .int .i64 hi, .bool z, .slice i2 n2 q2] 26)).setCell ⟨pb, 2, none⟩ (.int .i64 (g))) (fun j => j < w.heap.size + 1) t f) := hid_intro ((hxw.set (a := ⟨pb, 2, none⟩) (by show pb < _; have := HPL.out; have := HM4.out; omega) _).weak (fun j hj => by have h1 : j < w.heap.size + 1 := hj; have := HM4.out; show j < _; omega))
        have e4 : (w5.alloc (.cells #[.int .i64 k_, .slice i1 n1 q1, .int .i64 lo, .int .i64 hi, .bool z, .slice i2 n2 q2] 26)).cell? ⟨pb, 2, none⟩ = some (.int .i64 (g + 1)) := (HR5.out.al _).two.1
        have f4 : (w5.alloc (.cells #[.int .i64 k_, .slice i1 n1 q1, .int .i64 lo, .int .i64 hi, .bool z, .slice i2 n2 q2] 26)).frozen? ⟨pb, 2, none⟩ = false := (HR5.out.al _).two.2
        have HR6 := hid_intro hr6
        have HB6 := hid_intro (HB5.out.trans hb6)
        have HK6 := hid_intro (HK5.out.but hb6 hnp)
        have HM6 := hid_intro (Nat.le_trans HM5.out hb6.size)
        have hwm : wrap64 (g) = g := by exact w64 (by have := HGB.out; omega) (by have := HGB.out; omega)
        clear hb6 hr6 hxw e2 f2 e3 f3
        go_wp2_with fail
        generalize (w5.alloc (.cells #[.int .i64 k_, .slice i1 n1 q1, .int .i64 lo, .int .i64 hi, .bool z, .slice i2 n2 q2] 26)).setCell ⟨pb, 2, none⟩ (.int .i64 (g)) = w6 at *
        clear e4 f4 hwm hwg
        by_cases hcl : pk S a5 = 41
        · have HE : Hid (atomP pat (S.drop a) = some (t, S.drop (a5 + 1))) := hid_intro (by rw [HE0.out, decide_eq_true hcl, if_pos rfl])
          have ht7 := hT 41 (by omega) (a5) (g) false _ HR6.out
          rw [decide_eq_true hcl, show tk S (a5) 41 = a5 + 1 by unfold tk; rw [if_pos hcl]] at ht7
          refine ht7.mono ?_; rintro r w7 ⟨rfl, hb7, hr7⟩
          have HR7 := hid_intro hr7
          have HB7 := hid_intro (HB6.out.trans hb7)
          have HK7 := hid_intro (HK6.out.but hb7 hnp)
          have HM7 := hid_intro (Nat.le_trans HM6.out hb7.size)
          have HBB := hid_intro hb7
          clear hb7 hr7 ht7
          have HXF : Hid (XI w7 (fun j => j < w.heap.size + 1) t f) := hid_intro (HXN.out.but (HBB.out) (fun j e => by have h1 : j = pb := e; have := HPL.out; show j < _; omega))
          obtain ⟨p0, p1, p2, p3, p4, p5⟩ := (HQ6.out.but HBB.out (show ¬ w5.heap.size = pb by have := HPL.out; have := HM5.out; omega)).c6
          obtain ⟨c0, c1, c2, c3, c4, c5⟩ := HK7.out.c6
          obtain ⟨z0, z1, z2, z3, z4, z5⟩ := HK7.out.z6
          go_wp2_with fail
          refine bodyPost_ret (v := .agg #[.int .i64 k_, .slice i1 n1 q1, .int .i64 lo, .int .i64 hi, .bool z, .slice i2 n2 q2]) (by simp [results, Tryz.results61, go_sem, c0, c1, c2, c3, c4, c5]) rfl ?_
          rw [HP.out, HE.out]
          have hbf : But (· = pb) w ((((((w7.setCell ⟨w.heap.size, 0, none⟩ (.int .i64 k_)).setCell ⟨w.heap.size, 1, none⟩ (.slice i1 n1 q1)).setCell ⟨w.heap.size, 2, none⟩ (.int .i64 lo)).setCell ⟨w.heap.size, 3, none⟩ (.int .i64 hi)).setCell ⟨w.heap.size, 4, none⟩ (.bool z)).setCell ⟨w.heap.size, 5, none⟩ (.slice i2 n2 q2)) := by with_reducible (repeat (first | exact HB7.out | refine But.set ?_ (Or.inr (Nat.le_refl _)) _))
          have hrf : RP ((((((w7.setCell ⟨w.heap.size, 0, none⟩ (.int .i64 k_)).setCell ⟨w.heap.size, 1, none⟩ (.slice i1 n1 q1)).setCell ⟨w.heap.size, 2, none⟩ (.int .i64 lo)).setCell ⟨w.heap.size, 3, none⟩ (.int .i64 hi)).setCell ⟨w.heap.size, 4, none⟩ (.bool z)).setCell ⟨w.heap.size, 5, none⟩ (.slice i2 n2 q2)) pb S (a5 + 1) (g) false := by with_reducible (repeat (first | exact HR7.out | refine RP.away ?_ hrl _))
          have hxf : XI ((((((w7.setCell ⟨w.heap.size, 0, none⟩ (.int .i64 k_)).setCell ⟨w.heap.size, 1, none⟩ (.slice i1 n1 q1)).setCell ⟨w.heap.size, 2, none⟩ (.int .i64 lo)).setCell ⟨w.heap.size, 3, none⟩ (.int .i64 hi)).setCell ⟨w.heap.size, 4, none⟩ (.bool z)).setCell ⟨w.heap.size, 5, none⟩ (.slice i2 n2 q2)) (· < w.heap.size) t f := XI.weak (X := fun b => b < w.heap.size + 1) (by with_reducible (repeat (first | exact HXF.out | refine XI.set ?_ (Nat.lt_succ_self _) _))) (fun b hb => Nat.lt_succ_of_lt hb)
          exact ⟨hbf, _, a5 + 1, by rw [HEF.out], hxf, hrf, pk_lt (by omega), rfl⟩
        · have HE : Hid (atomP pat (S.drop a) = none) := hid_intro (by rw [HE0.out, decide_eq_false hcl, if_neg (by simp)])
          have ht7 := hT 41 (by omega) (a5) (g) false _ HR6.out
          rw [decide_eq_false hcl, show tk S (a5) 41 = a5 by unfold tk; rw [if_neg hcl]] at ht7
          refine ht7.mono ?_; rintro r w7 ⟨rfl, hb7, hr7⟩
          have HR7 := hid_intro hr7
          have HB7 := hid_intro (HB6.out.trans hb7)
          have HK7 := hid_intro (HK6.out.but hb7 hnp)
          have HM7 := hid_intro (Nat.le_trans HM6.out hb7.size)
          have HBC := hid_intro hb7
          clear hb7 hr7 ht7
          go_wp2_with fail
          refine (rfail_any _ _ _ _ _ _ HR7.out).mono ?_; rintro r w8 ⟨rfl, hb8, hr8⟩
          have HR8 := hid_intro hr8
          have HB8 := hid_intro (HB7.out.trans hb8)
          have HK8 := hid_intro (HK7.out.but hb8 hnp)
          have HM8 := hid_intro (Nat.le_trans HM7.out hb8.size)
          have HBB := hid_intro (HBC.out.trans hb8)
          clear hb8 hr8
          have HXF : Hid (XI w8 (fun j => j < w.heap.size + 1) t f) := hid_intro (HXN.out.but (HBB.out) (fun j e => by have h1 : j = pb := e; have := HPL.out; show j < _; omega))
          obtain ⟨p0, p1, p2, p3, p4, p5⟩ := (HQ6.out.but HBB.out (show ¬ w5.heap.size = pb by have := HPL.out; have := HM5.out; omega)).c6
          obtain ⟨c0, c1, c2, c3, c4, c5⟩ := HK8.out.c6
          obtain ⟨z0, z1, z2, z3, z4, z5⟩ := HK8.out.z6
          go_wp2_with fail
          refine bodyPost_ret (v := .agg #[.int .i64 k_, .slice i1 n1 q1, .int .i64 lo, .int .i64 hi, .bool z, .slice i2 n2 q2]) (by simp [results, Tryz.results61, go_sem, c0, c1, c2, c3, c4, c5]) rfl ?_
          rw [HP.out, HE.out]
          have hbf : But (· = pb) w ((((((w8.setCell ⟨w.heap.size, 0, none⟩ (.int .i64 k_)).setCell ⟨w.heap.size, 1, none⟩ (.slice i1 n1 q1)).setCell ⟨w.heap.size, 2, none⟩ (.int .i64 lo)).setCell ⟨w.heap.size, 3, none⟩ (.int .i64 hi)).setCell ⟨w.heap.size, 4, none⟩ (.bool z)).setCell ⟨w.heap.size, 5, none⟩ (.slice i2 n2 q2)) := by with_reducible (repeat (first | exact HB8.out | refine But.set ?_ (Or.inr (Nat.le_refl _)) _))
          have hrf : RP ((((((w8.setCell ⟨w.heap.size, 0, none⟩ (.int .i64 k_)).setCell ⟨w.heap.size, 1, none⟩ (.slice i1 n1 q1)).setCell ⟨w.heap.size, 2, none⟩ (.int .i64 lo)).setCell ⟨w.heap.size, 3, none⟩ (.int .i64 hi)).setCell ⟨w.heap.size, 4, none⟩ (.bool z)).setCell ⟨w.heap.size, 5, none⟩ (.slice i2 n2 q2)) pb S (a5) (g) true := by with_reducible (repeat (first | exact HR8.out | refine RP.away ?_ hrl _))
          have hxf : XI ((((((w8.setCell ⟨w.heap.size, 0, none⟩ (.int .i64 k_)).setCell ⟨w.heap.size, 1, none⟩ (.slice i1 n1 q1)).setCell ⟨w.heap.size, 2, none⟩ (.int .i64 lo)).setCell ⟨w.heap.size, 3, none⟩ (.int .i64 hi)).setCell ⟨w.heap.size, 4, none⟩ (.bool z)).setCell ⟨w.heap.size, 5, none⟩ (.slice i2 n2 q2)) (· < w.heap.size) t f := XI.weak (X := fun b => b < w.heap.size + 1) (by with_reducible (repeat (first | exact HXF.out | refine XI.set ?_ (Nat.lt_succ_self _) _))) (fun b hb => Nat.lt_succ_of_lt hb)
          exact ⟨hbf, _, _, _, g, by rw [HEF.out], hxf, hrf, Int.le_refl _⟩
    · have hgd2 : 200 < g + 1 := by omega
      rw [HNONE.out (by omega)] at HE0
      have HE : Hid (atomP pat (S.drop a) = none) := HE0
      go_wp2_with fail
      refine (rfail_any _ _ _ _ _ _ HR4.out).mono ?_; rintro r w5 ⟨rfl, hb5, hr5⟩
      have HR5 := hid_intro hr5
      have HB5 := hid_intro (HB4.out.trans hb5)
      have HK5 := hid_intro (HK4.out.but hb5 hnp)
      have HM5 := hid_intro (Nat.le_trans HM4.out hb5.size)
      clear hb5 hr5
      obtain ⟨c0, c1, c2, c3, c4, c5⟩ := HK5.out.c6
      obtain ⟨z0, z1, z2, z3, z4, z5⟩ := HK5.out.z6
      go_wp2_with fail
      refine bodyPost_ret (v := .agg #[.int .i64 0, .slice none 0 0, .int .i64 0, .int .i64 0, .bool false, .slice none 0 0]) (by simp [results, Tryz.results61, go_sem, c0, c1, c2, c3, c4, c5]) rfl ?_
      rw [HP.out, HE.out]
      have hbf : But (· = pb) w ((((((w5.setCell ⟨w.heap.size, 0, none⟩ (.int .i64 0)).setCell ⟨w.heap.size, 1, none⟩ (.slice none 0 0)).setCell ⟨w.heap.size, 2, none⟩ (.int .i64 0)).setCell ⟨w.heap.size, 3, none⟩ (.int .i64 0)).setCell ⟨w.heap.size, 4, none⟩ (.bool false)).setCell ⟨w.heap.size, 5, none⟩ (.slice none 0 0)) := by with_reducible (repeat (first | exact HB5.out | refine But.set ?_ (Or.inr (Nat.le_refl _)) _))
      have hrf : RP ((((((w5.setCell ⟨w.heap.size, 0, none⟩ (.int .i64 0)).setCell ⟨w.heap.size, 1, none⟩ (.slice none 0 0)).setCell ⟨w.heap.size, 2, none⟩ (.int .i64 0)).setCell ⟨w.heap.size, 3, none⟩ (.int .i64 0)).setCell ⟨w.heap.size, 4, none⟩ (.bool false)).setCell ⟨w.heap.size, 5, none⟩ (.slice none 0 0)) pb S (a + 1) (g + 1) true := by with_reducible (repeat (first | exact HR5.out | refine RP.away ?_ hrl _))
      have hxf := xi_zero ((((((w5.setCell ⟨w.heap.size, 0, none⟩ (.int .i64 0)).setCell ⟨w.heap.size, 1, none⟩ (.slice none 0 0)).setCell ⟨w.heap.size, 2, none⟩ (.int .i64 0)).setCell ⟨w.heap.size, 3, none⟩ (.int .i64 0)).setCell ⟨w.heap.size, 4, none⟩ (.bool false)).setCell ⟨w.heap.size, 5, none⟩ (.slice none 0 0)) (· < w.heap.size)
      exact ⟨hbf, _, _, _, g + 1, rfl, hxf, hrf, by omega⟩
end Go.Proofs.YthbbkcdlcpbepaaGreatDoor
