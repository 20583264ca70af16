/-
  What ref8.Cut answers: a text cut at its marks. Conditions: at most 2^60 bytes.
-/
import Derived.Test.YtgmigdfkdioalaaUR2
namespace Go.Proofs.Ytgmigdfkdioalaa
open Go.RowKit
attribute [local go_sem] setCell_drewN alloc_drewN

theorem cutL_hit {c : UInt8} {l : List UInt8} (h : ix l c < l.length) : cutL c l = (l.take (ix l c), l.drop (ix l c + 1), true) := by unfold cutL; rw [decide_eq_true h]
theorem cutL_miss {c : UInt8} {l : List UInt8} (h : ¬ ix l c < l.length) : cutL c l = (l, [], false) := by
  unfold cutL
  rw [decide_eq_false h, List.take_of_length_le (by omega), List.drop_of_length_le (by omega)]
theorem ri (l : List UInt8) (c : UInt8) (x : Int) (w : World) (hx : (c.toNat : Int) = x) (hs : l.length ≤ 4611686018427387904) :
    Calls Try.prog 29 #[.string (bs l), .int .u8 x] w fun e w' => e = .returned (.int .i64 (ix l c : Nat)) ∧ w' = w := by
  subst hx
  have := rindex_u8 (bs l) c w (by rw [bs_size]; exact hs)
  rw [bs_list] at this
  exact this
theorem ex_t (l : List UInt8) (k : Nat) : (bs l).extract 0 k = bs (l.take k) := by rw [piece_bs, List.drop_zero, Nat.sub_zero, bs_list]
theorem ex_d (l : List UInt8) (k : Nat) : (bs l).extract k l.length = bs (l.drop k) := by
  rw [piece_bs, bs_list, List.take_of_length_le]
  rw [List.length_drop]; omega

theorem pre_two (l : List UInt8) : (decide ((2 : Int) ≤ (l.length : Int)) && ((bs (l.take 2)).toList == [47, 47])) = Lib.hasPrefix l [47, 47] := by
  rw [bs_toList]
  rcases l with _ | ⟨a, _ | ⟨b, l⟩⟩
  · rfl
  · show (decide ((2 : Int) ≤ ((1 : Nat) : Int)) && _) = ((47 == a) && false)
    rw [decide_eq_false (by decide), Bool.false_and, Bool.and_false]
  · have h : decide ((2 : Int) ≤ (((a :: b :: l).length : Nat) : Int)) = true := by rw [decide_eq_true_eq]; simp only [List.length_cons]; omega
    rw [h, Bool.true_and]
    show ([a, b] == [47, 47]) = ((47 == a) && ((47 == b) && true))
    rw [Bool.eq_iff_iff]
    simp only [beq_iff_eq, Bool.and_eq_true, List.cons.injEq, and_true]
    exact ⟨fun ⟨x, y⟩ => ⟨x.symm, y.symm⟩, fun ⟨x, y⟩ => ⟨x.symm, y.symm⟩⟩
set_option maxRecDepth 100000 in
set_option maxHeartbeats 6400000 in
theorem rcut_any (l : List UInt8) (w : World) (hs : l.length ≤ 1152921504606846976) :
    Calls Try.prog 26 #[.string (bs l)] w fun e w' => e = .returned (uV (partL l)) ∧ Below w.heap.size w w' := by
  have HP : Hid (partL l = (fun (c1 : List UInt8 × List UInt8 × Bool) => (fun (c2 : List UInt8 × List UInt8 × Bool) => (fun (s : List UInt8 × List UInt8) => (fun (a : List UInt8 × List UInt8 × Bool) => (⟨s.1, a.1, a.2.1, c2.2.1, c1.2.1, a.2.2, c2.2.2, c1.2.2⟩ : Ur)) (authL s.2)) (schL c2.1)) (cutL 63 c1.1)) (cutL 35 l)) := rfl
  have i1 := fun w' => ri l 35 35 w' rfl (by omega)
  have z0 := bs_size l
  by_cases q1 : ix l 35 < l.length
  · rw [cutL_hit q1] at HP
    have m1 : (ix l 35 : Int) < (l.length : Int) := by omega
    have m1' : (ix l 35 : Int) ≤ (l.length : Int) := by omega
    have m2 : (0 : Int) ≤ (ix l 35 : Int) := by omega
    have m3 : (ix l 35 : Int) + 1 ≤ (l.length : Int) := by omega
    have m4 : (0 : Int) ≤ (ix l 35 : Int) + 1 := by omega
    have w1 : IntKind.i64.wrap ((ix l 35 : Int) + 1) = (ix l 35 : Int) + 1 := by rw [IntKind.wrap_i64]; omega
    have e1 := ex_t l (ix l 35)
    have e2 := ex_d l (ix l 35 + 1)
    have hl1 : (l.take (ix l 35)).length ≤ l.length := by rw [List.length_take]; omega
    generalize l.take (ix l 35) = a1 at *
    generalize l.drop (ix l 35 + 1) = a2 at *
    generalize ix l 35 = k1 at *
    clear q1
    have i2 := fun w' => ri a1 63 63 w' rfl (by omega)
    have z1 := bs_size a1
    by_cases q2 : ix a1 63 < a1.length
    · simp only [cutL_hit q2] at HP
      have o1 : (ix a1 63 : Int) < (a1.length : Int) := by omega
      have o1' : (ix a1 63 : Int) ≤ (a1.length : Int) := by omega
      have o2 : (0 : Int) ≤ (ix a1 63 : Int) := by omega
      have o3 : (ix a1 63 : Int) + 1 ≤ (a1.length : Int) := by omega
      have o4 : (0 : Int) ≤ (ix a1 63 : Int) + 1 := by omega
      have w2 : IntKind.i64.wrap ((ix a1 63 : Int) + 1) = (ix a1 63 : Int) + 1 := by rw [IntKind.wrap_i64]; omega
      have e3 := ex_t a1 (ix a1 63)
      have e4 := ex_d a1 (ix a1 63 + 1)
      have hl2 : (a1.take (ix a1 63)).length ≤ a1.length := by rw [List.length_take]; omega
      generalize a1.take (ix a1 63) = b1 at *
      generalize a1.drop (ix a1 63 + 1) = b2 at *
      generalize ix a1 63 = k2 at *
      clear q2
      have i3 := fun w' => ri b1 58 58 w' rfl (by omega)
      have i4 := fun w' => ri b1 47 47 w' rfl (by omega)
      have z2 := bs_size b1
      have hx58 := ix_le b1 58
      by_cases q3 : 0 < ix b1 58 ∧ ix b1 58 < b1.length ∧ ix b1 58 < ix b1 47
      · have hsc : schL b1 = (b1.take (ix b1 58), b1.drop (ix b1 58 + 1)) := by unfold schL; rw [if_pos q3]
        simp only [hsc] at HP
        obtain ⟨q3a, q3b, q3c⟩ := q3
        have r1 : (0 : Int) < (ix b1 58 : Int) := by omega
        have r2 : (ix b1 58 : Int) < (b1.length : Int) := by omega
        have r2' : (ix b1 58 : Int) ≤ (b1.length : Int) := by omega
        have r3 : (ix b1 58 : Int) < (ix b1 47 : Int) := by omega
        have r4 : (0 : Int) ≤ (ix b1 58 : Int) := by omega
        have r5 : (ix b1 58 : Int) + 1 ≤ (b1.length : Int) := by omega
        have r6 : (0 : Int) ≤ (ix b1 58 : Int) + 1 := by omega
        have w3 : IntKind.i64.wrap ((ix b1 58 : Int) + 1) = (ix b1 58 : Int) + 1 := by rw [IntKind.wrap_i64]; omega
        have e5 := ex_t b1 (ix b1 58)
        have e6 := ex_d b1 (ix b1 58 + 1)
        have hl3 : (b1.drop (ix b1 58 + 1)).length ≤ b1.length := by rw [List.length_drop]; omega
        generalize b1.take (ix b1 58) = c1 at *
        generalize b1.drop (ix b1 58 + 1) = c2 at *
        generalize ix b1 58 = k3 at *
        generalize ix b1 47 = k4 at *
        clear hsc q3a q3b q3c hx58
        have z3 := bs_size c2
        have dl : ((c2.drop 2).length) ≤ c2.length := by rw [List.length_drop]; omega
        have i5 := fun w' => ri (c2.drop 2) 47 47 w' rfl (by omega)
        have ht := pre_two c2
        have e2z := ex_t c2 2
        have e2d := ex_d c2 2
        cases q4 : Lib.hasPrefix c2 [47, 47]
        · have hau : authL c2 = ([], c2, false) := by unfold authL; rw [q4]; rfl
          simp only [hau] at HP
          rw [q4] at ht
          clear hau q4 i5
          cases hlen : decide ((2 : Int) ≤ (c2.length : Int))
          · have s1 : ¬ (2 : Int) ≤ (c2.length : Int) := of_decide_eq_false hlen
            clear hlen ht
            first
              | (exfalso; omega)
              | (go_enter Try.func26, Try.ntmps26
                 go_wp2_with (go_at_call 29; (first | (with_reducible refine (i1 _).mono ?_) | (with_reducible refine (i2 _).mono ?_) | (with_reducible refine (i3 _).mono ?_) | (with_reducible refine (i4 _).mono ?_)); rintro e w' ⟨rfl, rfl⟩)
                 go_returns
                 exact ⟨by rw [HP.out]; rfl, bl_a (bl_a (Below.refl _ _) _) _⟩)
          · have s1 : (2 : Int) ≤ (c2.length : Int) := of_decide_eq_true hlen
            rw [hlen, Bool.true_and] at ht
            clear hlen
            go_enter Try.func26, Try.ntmps26
            go_wp2_with (go_at_call 29; (first | (with_reducible refine (i1 _).mono ?_) | (with_reducible refine (i2 _).mono ?_) | (with_reducible refine (i3 _).mono ?_) | (with_reducible refine (i4 _).mono ?_)); rintro e w' ⟨rfl, rfl⟩)
            go_returns
            exact ⟨by rw [HP.out]; rfl, bl_a (bl_a (Below.refl _ _) _) _⟩
        · have hau : authL c2 = ((c2.drop 2).take (ix (c2.drop 2) 47), (c2.drop 2).drop (ix (c2.drop 2) 47), true) := by unfold authL; rw [q4]; rfl
          simp only [hau] at HP
          rw [q4] at ht
          have s1 : (2 : Int) ≤ (c2.length : Int) := by
            cases hlen : decide ((2 : Int) ≤ (c2.length : Int))
            · rw [hlen] at ht; cases ht
            · exact of_decide_eq_true hlen
          rw [decide_eq_true s1, Bool.true_and] at ht
          have s2 := ix_le (c2.drop 2) 47
          have s3 : (0 : Int) ≤ (ix (c2.drop 2) 47 : Int) := by omega
          have s4 : (ix (c2.drop 2) 47 : Int) ≤ ((c2.drop 2).length : Int) := by omega
          have e7 := ex_t (c2.drop 2) (ix (c2.drop 2) 47)
          have e8 := ex_d (c2.drop 2) (ix (c2.drop 2) 47)
          have z4 := bs_size (c2.drop 2)
          generalize (c2.drop 2).take (ix (c2.drop 2) 47) = d1 at *
          generalize (c2.drop 2).drop (ix (c2.drop 2) 47) = d2 at *
          generalize ix (c2.drop 2) 47 = k5 at *
          generalize c2.drop 2 = rr at *
          clear hau q4 s2
          go_enter Try.func26, Try.ntmps26
          go_wp2_with (go_at_call 29; (first | (with_reducible refine (i1 _).mono ?_) | (with_reducible refine (i2 _).mono ?_) | (with_reducible refine (i3 _).mono ?_) | (with_reducible refine (i4 _).mono ?_) | (with_reducible refine (i5 _).mono ?_)); rintro e w' ⟨rfl, rfl⟩)
          go_returns
          exact ⟨by rw [HP.out]; rfl, bl_a (bl_a (Below.refl _ _) _) _⟩
      · have hsc : schL b1 = ([], b1) := by unfold schL; rw [if_neg q3]
        simp only [hsc] at HP
        have key : (¬ (0 : Int) < (ix b1 58 : Int)) ∨ ((0 : Int) < (ix b1 58 : Int) ∧ ¬ (ix b1 58 : Int) < (b1.length : Int)) ∨ ((0 : Int) < (ix b1 58 : Int) ∧ (ix b1 58 : Int) < (b1.length : Int) ∧ ¬ (ix b1 58 : Int) < (ix b1 47 : Int)) := by omega
        generalize ix b1 58 = k3 at *
        generalize ix b1 47 = k4 at *
        clear hsc q3 hx58
        rcases key with r1 | ⟨r1, r2⟩ | ⟨r1, r2, r3⟩
        all_goals
          have dl : ((b1.drop 2).length) ≤ b1.length := by rw [List.length_drop]; omega
          have i5 := fun w' => ri (b1.drop 2) 47 47 w' rfl (by omega)
          have ht := pre_two b1
          have e2z := ex_t b1 2
          have e2d := ex_d b1 2
          cases q4 : Lib.hasPrefix b1 [47, 47]
          · have hau : authL b1 = ([], b1, false) := by unfold authL; rw [q4]; rfl
            simp only [hau] at HP
            rw [q4] at ht
            clear hau q4 i5
            cases hlen : decide ((2 : Int) ≤ (b1.length : Int))
            · have s1 : ¬ (2 : Int) ≤ (b1.length : Int) := of_decide_eq_false hlen
              clear hlen ht
              first
                | (exfalso; omega)
                | (go_enter Try.func26, Try.ntmps26
                   go_wp2_with (go_at_call 29; (first | (with_reducible refine (i1 _).mono ?_) | (with_reducible refine (i2 _).mono ?_) | (with_reducible refine (i3 _).mono ?_) | (with_reducible refine (i4 _).mono ?_)); rintro e w' ⟨rfl, rfl⟩)
                   go_returns
                   exact ⟨by rw [HP.out]; rfl, bl_a (bl_a (Below.refl _ _) _) _⟩)
            · have s1 : (2 : Int) ≤ (b1.length : Int) := of_decide_eq_true hlen
              rw [hlen, Bool.true_and] at ht
              clear hlen
              go_enter Try.func26, Try.ntmps26
              go_wp2_with (go_at_call 29; (first | (with_reducible refine (i1 _).mono ?_) | (with_reducible refine (i2 _).mono ?_) | (with_reducible refine (i3 _).mono ?_) | (with_reducible refine (i4 _).mono ?_)); rintro e w' ⟨rfl, rfl⟩)
              go_returns
              exact ⟨by rw [HP.out]; rfl, bl_a (bl_a (Below.refl _ _) _) _⟩
          · have hau : authL b1 = ((b1.drop 2).take (ix (b1.drop 2) 47), (b1.drop 2).drop (ix (b1.drop 2) 47), true) := by unfold authL; rw [q4]; rfl
            simp only [hau] at HP
            rw [q4] at ht
            have s1 : (2 : Int) ≤ (b1.length : Int) := by
              cases hlen : decide ((2 : Int) ≤ (b1.length : Int))
              · rw [hlen] at ht; cases ht
              · exact of_decide_eq_true hlen
            rw [decide_eq_true s1, Bool.true_and] at ht
            have s2 := ix_le (b1.drop 2) 47
            have s3 : (0 : Int) ≤ (ix (b1.drop 2) 47 : Int) := by omega
            have s4 : (ix (b1.drop 2) 47 : Int) ≤ ((b1.drop 2).length : Int) := by omega
            have e7 := ex_t (b1.drop 2) (ix (b1.drop 2) 47)
            have e8 := ex_d (b1.drop 2) (ix (b1.drop 2) 47)
            have z4 := bs_size (b1.drop 2)
            generalize (b1.drop 2).take (ix (b1.drop 2) 47) = d1 at *
            generalize (b1.drop 2).drop (ix (b1.drop 2) 47) = d2 at *
            generalize ix (b1.drop 2) 47 = k5 at *
            generalize b1.drop 2 = rr at *
            clear hau q4 s2
            go_enter Try.func26, Try.ntmps26
            go_wp2_with (go_at_call 29; (first | (with_reducible refine (i1 _).mono ?_) | (with_reducible refine (i2 _).mono ?_) | (with_reducible refine (i3 _).mono ?_) | (with_reducible refine (i4 _).mono ?_) | (with_reducible refine (i5 _).mono ?_)); rintro e w' ⟨rfl, rfl⟩)
            go_returns
            exact ⟨by rw [HP.out]; rfl, bl_a (bl_a (Below.refl _ _) _) _⟩
    · simp only [cutL_miss q2] at HP
      have o1 : ¬ (ix a1 63 : Int) < (a1.length : Int) := by omega
      generalize ix a1 63 = k2 at *
      clear q2
      have i3 := fun w' => ri a1 58 58 w' rfl (by omega)
      have i4 := fun w' => ri a1 47 47 w' rfl (by omega)
      have hx58 := ix_le a1 58
      by_cases q3 : 0 < ix a1 58 ∧ ix a1 58 < a1.length ∧ ix a1 58 < ix a1 47
      · have hsc : schL a1 = (a1.take (ix a1 58), a1.drop (ix a1 58 + 1)) := by unfold schL; rw [if_pos q3]
        simp only [hsc] at HP
        obtain ⟨q3a, q3b, q3c⟩ := q3
        have r1 : (0 : Int) < (ix a1 58 : Int) := by omega
        have r2 : (ix a1 58 : Int) < (a1.length : Int) := by omega
        have r2' : (ix a1 58 : Int) ≤ (a1.length : Int) := by omega
        have r3 : (ix a1 58 : Int) < (ix a1 47 : Int) := by omega
        have r4 : (0 : Int) ≤ (ix a1 58 : Int) := by omega
        have r5 : (ix a1 58 : Int) + 1 ≤ (a1.length : Int) := by omega
        have r6 : (0 : Int) ≤ (ix a1 58 : Int) + 1 := by omega
        have w3 : IntKind.i64.wrap ((ix a1 58 : Int) + 1) = (ix a1 58 : Int) + 1 := by rw [IntKind.wrap_i64]; omega
        have e5 := ex_t a1 (ix a1 58)
        have e6 := ex_d a1 (ix a1 58 + 1)
        have hl3 : (a1.drop (ix a1 58 + 1)).length ≤ a1.length := by rw [List.length_drop]; omega
        generalize a1.take (ix a1 58) = c1 at *
        generalize a1.drop (ix a1 58 + 1) = c2 at *
        generalize ix a1 58 = k3 at *
        generalize ix a1 47 = k4 at *
        clear hsc q3a q3b q3c hx58
        have z3 := bs_size c2
        have dl : ((c2.drop 2).length) ≤ c2.length := by rw [List.length_drop]; omega
        have i5 := fun w' => ri (c2.drop 2) 47 47 w' rfl (by omega)
        have ht := pre_two c2
        have e2z := ex_t c2 2
        have e2d := ex_d c2 2
        cases q4 : Lib.hasPrefix c2 [47, 47]
        · have hau : authL c2 = ([], c2, false) := by unfold authL; rw [q4]; rfl
          simp only [hau] at HP
          rw [q4] at ht
          clear hau q4 i5
          cases hlen : decide ((2 : Int) ≤ (c2.length : Int))
          · have s1 : ¬ (2 : Int) ≤ (c2.length : Int) := of_decide_eq_false hlen
            clear hlen ht
            first
              | (exfalso; omega)
              | (go_enter Try.func26, Try.ntmps26
                 go_wp2_with (go_at_call 29; (first | (with_reducible refine (i1 _).mono ?_) | (with_reducible refine (i2 _).mono ?_) | (with_reducible refine (i3 _).mono ?_) | (with_reducible refine (i4 _).mono ?_)); rintro e w' ⟨rfl, rfl⟩)
                 go_returns
                 exact ⟨by rw [HP.out]; rfl, bl_a (bl_a (Below.refl _ _) _) _⟩)
          · have s1 : (2 : Int) ≤ (c2.length : Int) := of_decide_eq_true hlen
            rw [hlen, Bool.true_and] at ht
            clear hlen
            go_enter Try.func26, Try.ntmps26
            go_wp2_with (go_at_call 29; (first | (with_reducible refine (i1 _).mono ?_) | (with_reducible refine (i2 _).mono ?_) | (with_reducible refine (i3 _).mono ?_) | (with_reducible refine (i4 _).mono ?_)); rintro e w' ⟨rfl, rfl⟩)
            go_returns
            exact ⟨by rw [HP.out]; rfl, bl_a (bl_a (Below.refl _ _) _) _⟩
        · have hau : authL c2 = ((c2.drop 2).take (ix (c2.drop 2) 47), (c2.drop 2).drop (ix (c2.drop 2) 47), true) := by unfold authL; rw [q4]; rfl
          simp only [hau] at HP
          rw [q4] at ht
          have s1 : (2 : Int) ≤ (c2.length : Int) := by
            cases hlen : decide ((2 : Int) ≤ (c2.length : Int))
            · rw [hlen] at ht; cases ht
            · exact of_decide_eq_true hlen
          rw [decide_eq_true s1, Bool.true_and] at ht
          have s2 := ix_le (c2.drop 2) 47
          have s3 : (0 : Int) ≤ (ix (c2.drop 2) 47 : Int) := by omega
          have s4 : (ix (c2.drop 2) 47 : Int) ≤ ((c2.drop 2).length : Int) := by omega
          have e7 := ex_t (c2.drop 2) (ix (c2.drop 2) 47)
          have e8 := ex_d (c2.drop 2) (ix (c2.drop 2) 47)
          have z4 := bs_size (c2.drop 2)
          generalize (c2.drop 2).take (ix (c2.drop 2) 47) = d1 at *
          generalize (c2.drop 2).drop (ix (c2.drop 2) 47) = d2 at *
          generalize ix (c2.drop 2) 47 = k5 at *
          generalize c2.drop 2 = rr at *
          clear hau q4 s2
          go_enter Try.func26, Try.ntmps26
          go_wp2_with (go_at_call 29; (first | (with_reducible refine (i1 _).mono ?_) | (with_reducible refine (i2 _).mono ?_) | (with_reducible refine (i3 _).mono ?_) | (with_reducible refine (i4 _).mono ?_) | (with_reducible refine (i5 _).mono ?_)); rintro e w' ⟨rfl, rfl⟩)
          go_returns
          exact ⟨by rw [HP.out]; rfl, bl_a (bl_a (Below.refl _ _) _) _⟩
      · have hsc : schL a1 = ([], a1) := by unfold schL; rw [if_neg q3]
        simp only [hsc] at HP
        have key : (¬ (0 : Int) < (ix a1 58 : Int)) ∨ ((0 : Int) < (ix a1 58 : Int) ∧ ¬ (ix a1 58 : Int) < (a1.length : Int)) ∨ ((0 : Int) < (ix a1 58 : Int) ∧ (ix a1 58 : Int) < (a1.length : Int) ∧ ¬ (ix a1 58 : Int) < (ix a1 47 : Int)) := by omega
        generalize ix a1 58 = k3 at *
        generalize ix a1 47 = k4 at *
        clear hsc q3 hx58
        rcases key with r1 | ⟨r1, r2⟩ | ⟨r1, r2, r3⟩
        all_goals
          have dl : ((a1.drop 2).length) ≤ a1.length := by rw [List.length_drop]; omega
          have i5 := fun w' => ri (a1.drop 2) 47 47 w' rfl (by omega)
          have ht := pre_two a1
          have e2z := ex_t a1 2
          have e2d := ex_d a1 2
          cases q4 : Lib.hasPrefix a1 [47, 47]
          · have hau : authL a1 = ([], a1, false) := by unfold authL; rw [q4]; rfl
            simp only [hau] at HP
            rw [q4] at ht
            clear hau q4 i5
            cases hlen : decide ((2 : Int) ≤ (a1.length : Int))
            · have s1 : ¬ (2 : Int) ≤ (a1.length : Int) := of_decide_eq_false hlen
              clear hlen ht
              first
                | (exfalso; omega)
                | (go_enter Try.func26, Try.ntmps26
                   go_wp2_with (go_at_call 29; (first | (with_reducible refine (i1 _).mono ?_) | (with_reducible refine (i2 _).mono ?_) | (with_reducible refine (i3 _).mono ?_) | (with_reducible refine (i4 _).mono ?_)); rintro e w' ⟨rfl, rfl⟩)
                   go_returns
                   exact ⟨by rw [HP.out]; rfl, bl_a (bl_a (Below.refl _ _) _) _⟩)
            · have s1 : (2 : Int) ≤ (a1.length : Int) := of_decide_eq_true hlen
              rw [hlen, Bool.true_and] at ht
              clear hlen
              go_enter Try.func26, Try.ntmps26
              go_wp2_with (go_at_call 29; (first | (with_reducible refine (i1 _).mono ?_) | (with_reducible refine (i2 _).mono ?_) | (with_reducible refine (i3 _).mono ?_) | (with_reducible refine (i4 _).mono ?_)); rintro e w' ⟨rfl, rfl⟩)
              go_returns
              exact ⟨by rw [HP.out]; rfl, bl_a (bl_a (Below.refl _ _) _) _⟩
          · have hau : authL a1 = ((a1.drop 2).take (ix (a1.drop 2) 47), (a1.drop 2).drop (ix (a1.drop 2) 47), true) := by unfold authL; rw [q4]; rfl
            simp only [hau] at HP
            rw [q4] at ht
            have s1 : (2 : Int) ≤ (a1.length : Int) := by
              cases hlen : decide ((2 : Int) ≤ (a1.length : Int))
              · rw [hlen] at ht; cases ht
              · exact of_decide_eq_true hlen
            rw [decide_eq_true s1, Bool.true_and] at ht
            have s2 := ix_le (a1.drop 2) 47
            have s3 : (0 : Int) ≤ (ix (a1.drop 2) 47 : Int) := by omega
            have s4 : (ix (a1.drop 2) 47 : Int) ≤ ((a1.drop 2).length : Int) := by omega
            have e7 := ex_t (a1.drop 2) (ix (a1.drop 2) 47)
            have e8 := ex_d (a1.drop 2) (ix (a1.drop 2) 47)
            have z4 := bs_size (a1.drop 2)
            generalize (a1.drop 2).take (ix (a1.drop 2) 47) = d1 at *
            generalize (a1.drop 2).drop (ix (a1.drop 2) 47) = d2 at *
            generalize ix (a1.drop 2) 47 = k5 at *
            generalize a1.drop 2 = rr at *
            clear hau q4 s2
            go_enter Try.func26, Try.ntmps26
            go_wp2_with (go_at_call 29; (first | (with_reducible refine (i1 _).mono ?_) | (with_reducible refine (i2 _).mono ?_) | (with_reducible refine (i3 _).mono ?_) | (with_reducible refine (i4 _).mono ?_) | (with_reducible refine (i5 _).mono ?_)); rintro e w' ⟨rfl, rfl⟩)
            go_returns
            exact ⟨by rw [HP.out]; rfl, bl_a (bl_a (Below.refl _ _) _) _⟩
  · rw [cutL_miss q1] at HP
    have m1 : ¬ (ix l 35 : Int) < (l.length : Int) := by omega
    generalize ix l 35 = k1 at *
    clear q1
    have i2 := fun w' => ri l 63 63 w' rfl (by omega)
    by_cases q2 : ix l 63 < l.length
    · simp only [cutL_hit q2] at HP
      have o1 : (ix l 63 : Int) < (l.length : Int) := by omega
      have o1' : (ix l 63 : Int) ≤ (l.length : Int) := by omega
      have o2 : (0 : Int) ≤ (ix l 63 : Int) := by omega
      have o3 : (ix l 63 : Int) + 1 ≤ (l.length : Int) := by omega
      have o4 : (0 : Int) ≤ (ix l 63 : Int) + 1 := by omega
      have w2 : IntKind.i64.wrap ((ix l 63 : Int) + 1) = (ix l 63 : Int) + 1 := by rw [IntKind.wrap_i64]; omega
      have e3 := ex_t l (ix l 63)
      have e4 := ex_d l (ix l 63 + 1)
      have hl2 : (l.take (ix l 63)).length ≤ l.length := by rw [List.length_take]; omega
      generalize l.take (ix l 63) = b1 at *
      generalize l.drop (ix l 63 + 1) = b2 at *
      generalize ix l 63 = k2 at *
      clear q2
      have i3 := fun w' => ri b1 58 58 w' rfl (by omega)
      have i4 := fun w' => ri b1 47 47 w' rfl (by omega)
      have z2 := bs_size b1
      have hx58 := ix_le b1 58
      by_cases q3 : 0 < ix b1 58 ∧ ix b1 58 < b1.length ∧ ix b1 58 < ix b1 47
      · have hsc : schL b1 = (b1.take (ix b1 58), b1.drop (ix b1 58 + 1)) := by unfold schL; rw [if_pos q3]
        simp only [hsc] at HP
        obtain ⟨q3a, q3b, q3c⟩ := q3
        have r1 : (0 : Int) < (ix b1 58 : Int) := by omega
        have r2 : (ix b1 58 : Int) < (b1.length : Int) := by omega
        have r2' : (ix b1 58 : Int) ≤ (b1.length : Int) := by omega
        have r3 : (ix b1 58 : Int) < (ix b1 47 : Int) := by omega
        have r4 : (0 : Int) ≤ (ix b1 58 : Int) := by omega
        have r5 : (ix b1 58 : Int) + 1 ≤ (b1.length : Int) := by omega
        have r6 : (0 : Int) ≤ (ix b1 58 : Int) + 1 := by omega
        have w3 : IntKind.i64.wrap ((ix b1 58 : Int) + 1) = (ix b1 58 : Int) + 1 := by rw [IntKind.wrap_i64]; omega
        have e5 := ex_t b1 (ix b1 58)
        have e6 := ex_d b1 (ix b1 58 + 1)
        have hl3 : (b1.drop (ix b1 58 + 1)).length ≤ b1.length := by rw [List.length_drop]; omega
        generalize b1.take (ix b1 58) = c1 at *
        generalize b1.drop (ix b1 58 + 1) = c2 at *
        generalize ix b1 58 = k3 at *
        generalize ix b1 47 = k4 at *
        clear hsc q3a q3b q3c hx58
        have z3 := bs_size c2
        have dl : ((c2.drop 2).length) ≤ c2.length := by rw [List.length_drop]; omega
        have i5 := fun w' => ri (c2.drop 2) 47 47 w' rfl (by omega)
        have ht := pre_two c2
        have e2z := ex_t c2 2
        have e2d := ex_d c2 2
        cases q4 : Lib.hasPrefix c2 [47, 47]
        · have hau : authL c2 = ([], c2, false) := by unfold authL; rw [q4]; rfl
          simp only [hau] at HP
          rw [q4] at ht
          clear hau q4 i5
          cases hlen : decide ((2 : Int) ≤ (c2.length : Int))
          · have s1 : ¬ (2 : Int) ≤ (c2.length : Int) := of_decide_eq_false hlen
            clear hlen ht
            first
              | (exfalso; omega)
              | (go_enter Try.func26, Try.ntmps26
                 go_wp2_with (go_at_call 29; (first | (with_reducible refine (i1 _).mono ?_) | (with_reducible refine (i2 _).mono ?_) | (with_reducible refine (i3 _).mono ?_) | (with_reducible refine (i4 _).mono ?_)); rintro e w' ⟨rfl, rfl⟩)
                 go_returns
                 exact ⟨by rw [HP.out]; rfl, bl_a (bl_a (Below.refl _ _) _) _⟩)
          · have s1 : (2 : Int) ≤ (c2.length : Int) := of_decide_eq_true hlen
            rw [hlen, Bool.true_and] at ht
            clear hlen
            go_enter Try.func26, Try.ntmps26
            go_wp2_with (go_at_call 29; (first | (with_reducible refine (i1 _).mono ?_) | (with_reducible refine (i2 _).mono ?_) | (with_reducible refine (i3 _).mono ?_) | (with_reducible refine (i4 _).mono ?_)); rintro e w' ⟨rfl, rfl⟩)
            go_returns
            exact ⟨by rw [HP.out]; rfl, bl_a (bl_a (Below.refl _ _) _) _⟩
        · have hau : authL c2 = ((c2.drop 2).take (ix (c2.drop 2) 47), (c2.drop 2).drop (ix (c2.drop 2) 47), true) := by unfold authL; rw [q4]; rfl
          simp only [hau] at HP
          rw [q4] at ht
          have s1 : (2 : Int) ≤ (c2.length : Int) := by
            cases hlen : decide ((2 : Int) ≤ (c2.length : Int))
            · rw [hlen] at ht; cases ht
            · exact of_decide_eq_true hlen
          rw [decide_eq_true s1, Bool.true_and] at ht
          have s2 := ix_le (c2.drop 2) 47
          have s3 : (0 : Int) ≤ (ix (c2.drop 2) 47 : Int) := by omega
          have s4 : (ix (c2.drop 2) 47 : Int) ≤ ((c2.drop 2).length : Int) := by omega
          have e7 := ex_t (c2.drop 2) (ix (c2.drop 2) 47)
          have e8 := ex_d (c2.drop 2) (ix (c2.drop 2) 47)
          have z4 := bs_size (c2.drop 2)
          generalize (c2.drop 2).take (ix (c2.drop 2) 47) = d1 at *
          generalize (c2.drop 2).drop (ix (c2.drop 2) 47) = d2 at *
          generalize ix (c2.drop 2) 47 = k5 at *
          generalize c2.drop 2 = rr at *
          clear hau q4 s2
          go_enter Try.func26, Try.ntmps26
          go_wp2_with (go_at_call 29; (first | (with_reducible refine (i1 _).mono ?_) | (with_reducible refine (i2 _).mono ?_) | (with_reducible refine (i3 _).mono ?_) | (with_reducible refine (i4 _).mono ?_) | (with_reducible refine (i5 _).mono ?_)); rintro e w' ⟨rfl, rfl⟩)
          go_returns
          exact ⟨by rw [HP.out]; rfl, bl_a (bl_a (Below.refl _ _) _) _⟩
      · have hsc : schL b1 = ([], b1) := by unfold schL; rw [if_neg q3]
        simp only [hsc] at HP
        have key : (¬ (0 : Int) < (ix b1 58 : Int)) ∨ ((0 : Int) < (ix b1 58 : Int) ∧ ¬ (ix b1 58 : Int) < (b1.length : Int)) ∨ ((0 : Int) < (ix b1 58 : Int) ∧ (ix b1 58 : Int) < (b1.length : Int) ∧ ¬ (ix b1 58 : Int) < (ix b1 47 : Int)) := by omega
        generalize ix b1 58 = k3 at *
        generalize ix b1 47 = k4 at *
        clear hsc q3 hx58
        rcases key with r1 | ⟨r1, r2⟩ | ⟨r1, r2, r3⟩
        all_goals
          have dl : ((b1.drop 2).length) ≤ b1.length := by rw [List.length_drop]; omega
          have i5 := fun w' => ri (b1.drop 2) 47 47 w' rfl (by omega)
          have ht := pre_two b1
          have e2z := ex_t b1 2
          have e2d := ex_d b1 2
          cases q4 : Lib.hasPrefix b1 [47, 47]
          · have hau : authL b1 = ([], b1, false) := by unfold authL; rw [q4]; rfl
            simp only [hau] at HP
            rw [q4] at ht
            clear hau q4 i5
            cases hlen : decide ((2 : Int) ≤ (b1.length : Int))
            · have s1 : ¬ (2 : Int) ≤ (b1.length : Int) := of_decide_eq_false hlen
              clear hlen ht
              first
                | (exfalso; omega)
                | (go_enter Try.func26, Try.ntmps26
                   go_wp2_with (go_at_call 29; (first | (with_reducible refine (i1 _).mono ?_) | (with_reducible refine (i2 _).mono ?_) | (with_reducible refine (i3 _).mono ?_) | (with_reducible refine (i4 _).mono ?_)); rintro e w' ⟨rfl, rfl⟩)
                   go_returns
                   exact ⟨by rw [HP.out]; rfl, bl_a (bl_a (Below.refl _ _) _) _⟩)
            · have s1 : (2 : Int) ≤ (b1.length : Int) := of_decide_eq_true hlen
              rw [hlen, Bool.true_and] at ht
              clear hlen
              go_enter Try.func26, Try.ntmps26
              go_wp2_with (go_at_call 29; (first | (with_reducible refine (i1 _).mono ?_) | (with_reducible refine (i2 _).mono ?_) | (with_reducible refine (i3 _).mono ?_) | (with_reducible refine (i4 _).mono ?_)); rintro e w' ⟨rfl, rfl⟩)
              go_returns
              exact ⟨by rw [HP.out]; rfl, bl_a (bl_a (Below.refl _ _) _) _⟩
          · have hau : authL b1 = ((b1.drop 2).take (ix (b1.drop 2) 47), (b1.drop 2).drop (ix (b1.drop 2) 47), true) := by unfold authL; rw [q4]; rfl
            simp only [hau] at HP
            rw [q4] at ht
            have s1 : (2 : Int) ≤ (b1.length : Int) := by
              cases hlen : decide ((2 : Int) ≤ (b1.length : Int))
              · rw [hlen] at ht; cases ht
              · exact of_decide_eq_true hlen
            rw [decide_eq_true s1, Bool.true_and] at ht
            have s2 := ix_le (b1.drop 2) 47
            have s3 : (0 : Int) ≤ (ix (b1.drop 2) 47 : Int) := by omega
            have s4 : (ix (b1.drop 2) 47 : Int) ≤ ((b1.drop 2).length : Int) := by omega
            have e7 := ex_t (b1.drop 2) (ix (b1.drop 2) 47)
            have e8 := ex_d (b1.drop 2) (ix (b1.drop 2) 47)
            have z4 := bs_size (b1.drop 2)
            generalize (b1.drop 2).take (ix (b1.drop 2) 47) = d1 at *
            generalize (b1.drop 2).drop (ix (b1.drop 2) 47) = d2 at *
            generalize ix (b1.drop 2) 47 = k5 at *
            generalize b1.drop 2 = rr at *
            clear hau q4 s2
            go_enter Try.func26, Try.ntmps26
            go_wp2_with (go_at_call 29; (first | (with_reducible refine (i1 _).mono ?_) | (with_reducible refine (i2 _).mono ?_) | (with_reducible refine (i3 _).mono ?_) | (with_reducible refine (i4 _).mono ?_) | (with_reducible refine (i5 _).mono ?_)); rintro e w' ⟨rfl, rfl⟩)
            go_returns
            exact ⟨by rw [HP.out]; rfl, bl_a (bl_a (Below.refl _ _) _) _⟩
    · simp only [cutL_miss q2] at HP
      have o1 : ¬ (ix l 63 : Int) < (l.length : Int) := by omega
      generalize ix l 63 = k2 at *
      clear q2
      have i3 := fun w' => ri l 58 58 w' rfl (by omega)
      have i4 := fun w' => ri l 47 47 w' rfl (by omega)
      have hx58 := ix_le l 58
      by_cases q3 : 0 < ix l 58 ∧ ix l 58 < l.length ∧ ix l 58 < ix l 47
      · have hsc : schL l = (l.take (ix l 58), l.drop (ix l 58 + 1)) := by unfold schL; rw [if_pos q3]
        simp only [hsc] at HP
        obtain ⟨q3a, q3b, q3c⟩ := q3
        have r1 : (0 : Int) < (ix l 58 : Int) := by omega
        have r2 : (ix l 58 : Int) < (l.length : Int) := by omega
        have r2' : (ix l 58 : Int) ≤ (l.length : Int) := by omega
        have r3 : (ix l 58 : Int) < (ix l 47 : Int) := by omega
        have r4 : (0 : Int) ≤ (ix l 58 : Int) := by omega
        have r5 : (ix l 58 : Int) + 1 ≤ (l.length : Int) := by omega
        have r6 : (0 : Int) ≤ (ix l 58 : Int) + 1 := by omega
        have w3 : IntKind.i64.wrap ((ix l 58 : Int) + 1) = (ix l 58 : Int) + 1 := by rw [IntKind.wrap_i64]; omega
        have e5 := ex_t l (ix l 58)
        have e6 := ex_d l (ix l 58 + 1)
        have hl3 : (l.drop (ix l 58 + 1)).length ≤ l.length := by rw [List.length_drop]; omega
        generalize l.take (ix l 58) = c1 at *
        generalize l.drop (ix l 58 + 1) = c2 at *
        generalize ix l 58 = k3 at *
        generalize ix l 47 = k4 at *
        clear hsc q3a q3b q3c hx58
        have z3 := bs_size c2
        have dl : ((c2.drop 2).length) ≤ c2.length := by rw [List.length_drop]; omega
        have i5 := fun w' => ri (c2.drop 2) 47 47 w' rfl (by omega)
        have ht := pre_two c2
        have e2z := ex_t c2 2
        have e2d := ex_d c2 2
        cases q4 : Lib.hasPrefix c2 [47, 47]
        · have hau : authL c2 = ([], c2, false) := by unfold authL; rw [q4]; rfl
          simp only [hau] at HP
          rw [q4] at ht
          clear hau q4 i5
          cases hlen : decide ((2 : Int) ≤ (c2.length : Int))
          · have s1 : ¬ (2 : Int) ≤ (c2.length : Int) := of_decide_eq_false hlen
            clear hlen ht
            first
              | (exfalso; omega)
              | (go_enter Try.func26, Try.ntmps26
                 go_wp2_with (go_at_call 29; (first | (with_reducible refine (i1 _).mono ?_) | (with_reducible refine (i2 _).mono ?_) | (with_reducible refine (i3 _).mono ?_) | (with_reducible refine (i4 _).mono ?_)); rintro e w' ⟨rfl, rfl⟩)
                 go_returns
                 exact ⟨by rw [HP.out]; rfl, bl_a (bl_a (Below.refl _ _) _) _⟩)
          · have s1 : (2 : Int) ≤ (c2.length : Int) := of_decide_eq_true hlen
            rw [hlen, Bool.true_and] at ht
            clear hlen
            go_enter Try.func26, Try.ntmps26
            go_wp2_with (go_at_call 29; (first | (with_reducible refine (i1 _).mono ?_) | (with_reducible refine (i2 _).mono ?_) | (with_reducible refine (i3 _).mono ?_) | (with_reducible refine (i4 _).mono ?_)); rintro e w' ⟨rfl, rfl⟩)
            go_returns
            exact ⟨by rw [HP.out]; rfl, bl_a (bl_a (Below.refl _ _) _) _⟩
        · have hau : authL c2 = ((c2.drop 2).take (ix (c2.drop 2) 47), (c2.drop 2).drop (ix (c2.drop 2) 47), true) := by unfold authL; rw [q4]; rfl
          simp only [hau] at HP
          rw [q4] at ht
          have s1 : (2 : Int) ≤ (c2.length : Int) := by
            cases hlen : decide ((2 : Int) ≤ (c2.length : Int))
            · rw [hlen] at ht; cases ht
            · exact of_decide_eq_true hlen
          rw [decide_eq_true s1, Bool.true_and] at ht
          have s2 := ix_le (c2.drop 2) 47
          have s3 : (0 : Int) ≤ (ix (c2.drop 2) 47 : Int) := by omega
          have s4 : (ix (c2.drop 2) 47 : Int) ≤ ((c2.drop 2).length : Int) := by omega
          have e7 := ex_t (c2.drop 2) (ix (c2.drop 2) 47)
          have e8 := ex_d (c2.drop 2) (ix (c2.drop 2) 47)
          have z4 := bs_size (c2.drop 2)
          generalize (c2.drop 2).take (ix (c2.drop 2) 47) = d1 at *
          generalize (c2.drop 2).drop (ix (c2.drop 2) 47) = d2 at *
          generalize ix (c2.drop 2) 47 = k5 at *
          generalize c2.drop 2 = rr at *
          clear hau q4 s2
          go_enter Try.func26, Try.ntmps26
          go_wp2_with (go_at_call 29; (first | (with_reducible refine (i1 _).mono ?_) | (with_reducible refine (i2 _).mono ?_) | (with_reducible refine (i3 _).mono ?_) | (with_reducible refine (i4 _).mono ?_) | (with_reducible refine (i5 _).mono ?_)); rintro e w' ⟨rfl, rfl⟩)
          go_returns
          exact ⟨by rw [HP.out]; rfl, bl_a (bl_a (Below.refl _ _) _) _⟩
      · have hsc : schL l = ([], l) := by unfold schL; rw [if_neg q3]
        simp only [hsc] at HP
        have key : (¬ (0 : Int) < (ix l 58 : Int)) ∨ ((0 : Int) < (ix l 58 : Int) ∧ ¬ (ix l 58 : Int) < (l.length : Int)) ∨ ((0 : Int) < (ix l 58 : Int) ∧ (ix l 58 : Int) < (l.length : Int) ∧ ¬ (ix l 58 : Int) < (ix l 47 : Int)) := by omega
        generalize ix l 58 = k3 at *
        generalize ix l 47 = k4 at *
        clear hsc q3 hx58
        rcases key with r1 | ⟨r1, r2⟩ | ⟨r1, r2, r3⟩
        all_goals
          have dl : ((l.drop 2).length) ≤ l.length := by rw [List.length_drop]; omega
          have i5 := fun w' => ri (l.drop 2) 47 47 w' rfl (by omega)
          have ht := pre_two l
          have e2z := ex_t l 2
          have e2d := ex_d l 2
          cases q4 : Lib.hasPrefix l [47, 47]
          · have hau : authL l = ([], l, false) := by unfold authL; rw [q4]; rfl
            simp only [hau] at HP
            rw [q4] at ht
            clear hau q4 i5
            cases hlen : decide ((2 : Int) ≤ (l.length : Int))
            · have s1 : ¬ (2 : Int) ≤ (l.length : Int) := of_decide_eq_false hlen
              clear hlen ht
              first
                | (exfalso; omega)
                | (go_enter Try.func26, Try.ntmps26
                   go_wp2_with (go_at_call 29; (first | (with_reducible refine (i1 _).mono ?_) | (with_reducible refine (i2 _).mono ?_) | (with_reducible refine (i3 _).mono ?_) | (with_reducible refine (i4 _).mono ?_)); rintro e w' ⟨rfl, rfl⟩)
                   go_returns
                   exact ⟨by rw [HP.out]; rfl, bl_a (bl_a (Below.refl _ _) _) _⟩)
            · have s1 : (2 : Int) ≤ (l.length : Int) := of_decide_eq_true hlen
              rw [hlen, Bool.true_and] at ht
              clear hlen
              go_enter Try.func26, Try.ntmps26
              go_wp2_with (go_at_call 29; (first | (with_reducible refine (i1 _).mono ?_) | (with_reducible refine (i2 _).mono ?_) | (with_reducible refine (i3 _).mono ?_) | (with_reducible refine (i4 _).mono ?_)); rintro e w' ⟨rfl, rfl⟩)
              go_returns
              exact ⟨by rw [HP.out]; rfl, bl_a (bl_a (Below.refl _ _) _) _⟩
          · have hau : authL l = ((l.drop 2).take (ix (l.drop 2) 47), (l.drop 2).drop (ix (l.drop 2) 47), true) := by unfold authL; rw [q4]; rfl
            simp only [hau] at HP
            rw [q4] at ht
            have s1 : (2 : Int) ≤ (l.length : Int) := by
              cases hlen : decide ((2 : Int) ≤ (l.length : Int))
              · rw [hlen] at ht; cases ht
              · exact of_decide_eq_true hlen
            rw [decide_eq_true s1, Bool.true_and] at ht
            have s2 := ix_le (l.drop 2) 47
            have s3 : (0 : Int) ≤ (ix (l.drop 2) 47 : Int) := by omega
            have s4 : (ix (l.drop 2) 47 : Int) ≤ ((l.drop 2).length : Int) := by omega
            have e7 := ex_t (l.drop 2) (ix (l.drop 2) 47)
            have e8 := ex_d (l.drop 2) (ix (l.drop 2) 47)
            have z4 := bs_size (l.drop 2)
            generalize (l.drop 2).take (ix (l.drop 2) 47) = d1 at *
            generalize (l.drop 2).drop (ix (l.drop 2) 47) = d2 at *
            generalize ix (l.drop 2) 47 = k5 at *
            generalize l.drop 2 = rr at *
            clear hau q4 s2
            go_enter Try.func26, Try.ntmps26
            go_wp2_with (go_at_call 29; (first | (with_reducible refine (i1 _).mono ?_) | (with_reducible refine (i2 _).mono ?_) | (with_reducible refine (i3 _).mono ?_) | (with_reducible refine (i4 _).mono ?_) | (with_reducible refine (i5 _).mono ?_)); rintro e w' ⟨rfl, rfl⟩)
            go_returns
            exact ⟨by rw [HP.out]; rfl, bl_a (bl_a (Below.refl _ _) _) _⟩
end Go.Proofs.Ytgmigdfkdioalaa
