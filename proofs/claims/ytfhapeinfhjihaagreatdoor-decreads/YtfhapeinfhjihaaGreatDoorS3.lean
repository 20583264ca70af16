/-
  What ref3.Check answers. No condition.
-/
import Derived.Test.YtfhapeinfhjihaaGreatDoorS2
namespace Go.Proofs.YtfhapeinfhjihaaGreatDoor
open Go.RowKit

theorem good_empty {n : Bool} {s : ByteArray} {e : Int} (h : s.size = 0) : goodB n s e = decide (n = false ∧ e = 0) := by
  unfold goodB
  have h0 := (nil_size s).2 h
  by_cases c : n = false ∧ e = 0
  · rw [decide_eq_true c, decide_eq_true]; exact .inl ⟨h0, c⟩
  · rw [decide_eq_false c, decide_eq_false]
    rintro (g | g)
    · exact c g.2
    · exact g.1.1 h0
theorem good_some {n : Bool} {s : ByteArray} {e : Int} (h : s.size ≠ 0) : goodB n s e = (digB s && decide (-1000000 ≤ e ∧ e ≤ 1000000)) := by
  apply good_not
  apply decide_eq_false
  rintro ⟨_, g, _⟩
  rw [g] at h
  exact h rfl
theorem digB_iff (s : ByteArray) (h : s.size ≠ 0) : digB s = true ↔ (s.size ≤ 65536 ∧ (∀ j, j < s.size → 48 ≤ cx s j ∧ cx s j ≤ 57) ∧ cx s 0 ≠ 48 ∧ cx s (s.size - 1) ≠ 48) := by
  unfold digB
  rw [decide_eq_true_iff]
  unfold DigOK
  rw [len_of, Ne, nil_size, Ne, head_cx s (by omega), Ne, last_cx s (by omega), List.all_eq_true]
  constructor
  · rintro ⟨_, h1, h2, h3, h4⟩
    refine ⟨h1, fun j hj => ?_, h3, h4⟩
    obtain ⟨b, hb, hc⟩ := cx_get s j hj
    have := (isD_iff b).1 (h2 b (List.mem_of_getElem? hb))
    omega
  · rintro ⟨h1, h2, h3, h4⟩
    refine ⟨h, h1, fun x hx => ?_, h3, h4⟩
    obtain ⟨j, hj, rfl⟩ := List.getElem_of_mem hx
    rw [len_of] at hj
    obtain ⟨b, hb, hc⟩ := cx_get s j hj
    have := h2 j hj
    rw [List.getElem?_eq_getElem (by rw [len_of]; exact hj)] at hb
    rw [Option.some.inj hb, isD_iff]
    omega

set_option maxHeartbeats 1600000 in
theorem rcheck_any (n : Bool) (s : ByteArray) (e : Int) (w : World) (hs : s.size ≤ maxLen) :
    Calls Tryz.prog 13 #[.agg #[.bool n, .string s, .int .i64 e]] w fun r w' => r = .returned (.int .i64 (errB (goodB n s e))) ∧ Below w.heap.size w w' := by
  unfold maxLen at hs
  by_cases h0 : s.size = 0
  · have n0 : ((s.size : Int) == 0) = true := by rw [h0]; rfl
    have hg := good_empty (n := n) (e := e) h0
    cases n
    · by_cases z : e = 0
      · have HG : Hid (errB (goodB false s e) = 0) := by rw [hg, decide_eq_true ⟨rfl, z⟩]; rfl
        subst z
        clear hg h0
        go_enter Tryz.func13, Tryz.ntmps13
        go_wp2
        go_ret
        exact ⟨r3_int HG.out.symm, bl_a (Below.refl _ _) _⟩
      · have HG : Hid (errB (goodB false s e) = 2) := by rw [hg, decide_eq_false (fun g => z g.2)]; rfl
        have z' : (e == 0) = false := beq_eq_false_iff_ne.2 z
        have z2 : (e != 0) = true := by simp only [bne, z']; rfl
        clear hg h0 z
        go_enter Tryz.func13, Tryz.ntmps13
        go_wp2
        go_ret
        exact ⟨r3_int HG.out.symm, bl_a (Below.refl _ _) _⟩
    · have HG : Hid (errB (goodB true s e) = 2) := by rw [hg, decide_eq_false (fun g => by cases g.1)]; rfl
      clear hg h0
      go_enter Tryz.func13, Tryz.ntmps13
      go_wp2
      go_ret
      exact ⟨r3_int HG.out.symm, bl_a (Below.refl _ _) _⟩
  · have n0 : ((s.size : Int) == 0) = false := beq_eq_false_iff_ne.2 (by omega)
    have hg := good_some (n := n) (e := e) h0
    have hdi := digB_iff s h0
    have HG0 : Hid (digB s = false → errB (goodB n s e) = 2) := fun hd => by rw [hg, hd]; rfl
    have HG1 : Hid (¬ (-1000000 ≤ e ∧ e ≤ 1000000) → errB (goodB n s e) = 2) := fun hd => by rw [hg, decide_eq_false hd, Bool.and_false]; rfl
    have HG2 : Hid (digB s = true → -1000000 ≤ e ∧ e ≤ 1000000 → errB (goodB n s e) = 0) := fun hd he => by rw [hg, hd, decide_eq_true he]; rfl
    have HDI : Hid (digB s = true ↔ (s.size ≤ 65536 ∧ (∀ j, j < s.size → 48 ≤ cx s j ∧ cx s j ≤ 57) ∧ cx s 0 ≠ 48 ∧ cx s (s.size - 1) ≠ 48)) := hdi
    clear hg hdi
    have hp : 0 < s.size := by omega
    have hp1 : s.size - 1 < s.size := by omega
    clear h0
    go_enter Tryz.func13, Tryz.ntmps13
    go_wp2
    go_loop [4] (fun i => ∃ k : Nat, k ≤ s.size ∧ i = .int .i64 k ∧ Hid (∀ j, j < k → 48 ≤ cx s j ∧ cx s j ≤ 57)) (fun i => s.size - (intOf i).toNat)
    case atStart => exact ⟨0, Nat.zero_le _, rfl, fun j hj => absurd hj (by omega)⟩
    case round =>
      obtain ⟨k, hk, rfl, HK⟩ := hrel
      by_cases hlt : k < s.size
      · have hI : (k : Int) < (s.size : Int) := by omega
        have hx := cx_at s k hlt
        have hb := cx_bd s k
        have hd := fun w => digit_any (cx s k) w hb.1 hb.2
        by_cases h1 : 48 ≤ cx s k ∧ cx s k ≤ 57
        · have HK2 : Hid (∀ j, j < k + 1 → 48 ≤ cx s j ∧ cx s j ≤ 57) := fun j hj => by
            by_cases e : j = k
            · rw [e]; exact h1
            · exact HK.out j (by omega)
          have d1 : isDI (cx s k) = true := decide_eq_true h1
          rw [d1] at hd
          clear HK h1 d1
          generalize cx s k = x at *
          go_wp2_with (go_at_call 34; refine (hd _).mono ?_; rintro r w' ⟨rfl, rfl⟩)
          go_round
          case rel => exact ⟨k + 1, by omega, by go_num, HK2⟩
          case measure => simp [intOf]; omega
        · have HE : Hid (digB s = false) := Bool.eq_false_iff.2 (fun g => h1 ((HDI.out.1 g).2.1 k hlt))
          have d1 : isDI (cx s k) = false := decide_eq_false h1
          rw [d1] at hd
          clear HK h1 d1
          generalize cx s k = x at *
          go_wp2_with (go_at_call 34; refine (hd _).mono ?_; rintro r w' ⟨rfl, rfl⟩)
          go_ret
          exact ⟨r3_int (HG0.out HE.out).symm, bl_a (Below.refl _ _) _⟩
      · have ek : k = s.size := by omega
        subst ek
        clear hlt hk
        have hI : ¬ (s.size : Int) < (s.size : Int) := by omega
        have i0 : (0 : Int) < (s.size : Int) := by omega
        by_cases h1 : (65536 : Int) < (s.size : Int)
        · have HE : Hid (digB s = false) := Bool.eq_false_iff.2 (fun g => by have := (HDI.out.1 g).1; omega)
          clear HK
          go_wp2
          go_ret
          exact ⟨r3_int (HG0.out HE.out).symm, bl_a (Below.refl _ _) _⟩
        · have hx0 := cx_at s 0 hp
          have hx1 := cx_at s (s.size - 1) hp1
          have ez : ((s.size : Int) - 1).toNat = s.size - 1 := by omega
          by_cases h2 : cx s 0 = 48
          · have HE : Hid (digB s = false) := Bool.eq_false_iff.2 (fun g => (HDI.out.1 g).2.2.1 h2)
            rw [h2] at hx0
            clear HK h2
            generalize cx s (s.size - 1) = x1 at *
            go_wp2
            go_ret
            exact ⟨r3_int (HG0.out HE.out).symm, bl_a (Below.refl _ _) _⟩
          · have H2 : Hid (¬ cx s 0 = 48) := h2
            have c0 : (cx s 0 == 48) = false := beq_eq_false_iff_ne.2 h2
            by_cases h3 : cx s (s.size - 1) = 48
            · have HE : Hid (digB s = false) := Bool.eq_false_iff.2 (fun g => (HDI.out.1 g).2.2.2 h3)
              rw [h3] at hx1
              clear HK h2 h3 H2
              generalize cx s 0 = x0 at *
              go_wp2
              go_ret
              exact ⟨r3_int (HG0.out HE.out).symm, bl_a (Below.refl _ _) _⟩
            · have HE : Hid (digB s = true) := HDI.out.2 ⟨by omega, HK.out, H2.out, h3⟩
              have c1 : (cx s (s.size - 1) == 48) = false := beq_eq_false_iff_ne.2 h3
              clear HK h2 h3 H2 HDI
              generalize cx s 0 = x0 at *
              generalize cx s (s.size - 1) = x1 at *
              by_cases e1 : e < -1000000
              · have HF : Hid (errB (goodB n s e) = 2) := HG1.out (by omega)
                clear HG0 HG1 HG2 HE
                go_wp2
                go_ret
                exact ⟨r3_int HF.out.symm, bl_a (Below.refl _ _) _⟩
              · by_cases e2 : 1000000 < e
                · have HF : Hid (errB (goodB n s e) = 2) := HG1.out (by omega)
                  clear HG0 HG1 HG2 HE
                  go_wp2
                  go_ret
                  exact ⟨r3_int HF.out.symm, bl_a (Below.refl _ _) _⟩
                · have HF : Hid (errB (goodB n s e) = 0) := HG2.out HE.out (by omega)
                  clear HG0 HG1 HG2 HE
                  go_wp2
                  go_ret
                  exact ⟨r3_int HF.out.symm, bl_a (Below.refl _ _) _⟩
end Go.Proofs.YtfhapeinfhjihaaGreatDoor
