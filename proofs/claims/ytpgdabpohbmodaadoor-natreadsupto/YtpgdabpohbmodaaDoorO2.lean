/-
  What ref.Of answers: the same numbers, and the same refusals. No condition.
-/
import Derived.Test.YtpgdabpohbmodaaDoorO1
import Derived.Test.YtpgdabpohbmodaaDoorR1d
namespace Go.Proofs.YtpgdabpohbmodaaDoor
open Go.RowKit

set_option maxRecDepth 100000 in
set_option maxHeartbeats 800000 in
theorem rof_bad (s : ByteArray) (w : World) (hL : s.size ≤ 4611686018427387904) (h : ¬ (1 ≤ s.size ∧ s.size ≤ 1048576 ∧ Digits s)) :
    Calls Tryd.prog 6 #[.string s] w fun e w' => e = .returned (.tuple #[.slice none 0 0, .int .i64 2]) ∧ w = w' := by
  by_cases h0 : (s.size : Int) < 1
  · clear h
    go_enter Tryd.func6, Tryd.ntmps6
    go_wp2
    go_ret2
    exact ⟨rfl, rfl⟩
  · by_cases h1 : (1048576 : Int) < (s.size : Int)
    · clear h
      go_enter Tryd.func6, Tryd.ntmps6
      go_wp2
      go_ret2
      exact ⟨rfl, rfl⟩
    · have HD : Hid (¬ Digits s) := fun k => h ⟨by omega, by omega, k⟩
      clear h
      go_enter Tryd.func6, Tryd.ntmps6
      go_wp2
      go_loop [4] (fun i => ∃ k : Nat, k ≤ s.size ∧ i = .int .i64 k ∧ Hid (∀ j, j < k → 48 ≤ chr s j ∧ chr s j ≤ 57)) (fun i => s.size - (intOf i).toNat)
      case atStart => exact ⟨0, Nat.zero_le _, rfl, fun j hj => absurd hj (by omega)⟩
      case round =>
        obtain ⟨k, hk, rfl, HK⟩ := hrel
        by_cases hlt : k < s.size
        · have hI : (k : Int) < (s.size : Int) := by omega
          have hx := chr_at s k hlt
          by_cases h3 : chr s k < 48
          · generalize chr s k = x at *
            clear HK
            go_wp2
            go_ret2
            exact ⟨rfl, rfl⟩
          · by_cases h4 : 57 < chr s k
            · generalize chr s k = x at *
              clear HK
              go_wp2
              go_ret2
              exact ⟨rfl, rfl⟩
            · have HK2 : Hid (∀ j, j < k + 1 → 48 ≤ chr s j ∧ chr s j ≤ 57) := fun j hj => by
                by_cases e : j = k
                · rw [e]; omega
                · exact HK.out j (by omega)
              clear HK
              obtain ⟨x, hxx⟩ : ∃ x, chr s k = x := ⟨_, rfl⟩
              rw [hxx] at hx h3 h4
              clear hxx
              go_wp2
              go_round
              case rel => exact ⟨k + 1, by omega, by go_num, HK2⟩
              case measure => simp [intOf]; omega
        · have e : k = s.size := by omega
          subst e
          exact absurd (fun i hi => HK.out i hi) HD.out

set_option maxRecDepth 100000 in
set_option maxHeartbeats 1600000 in
theorem rof_ok (s : ByteArray) (w : World) (h1 : 1 ≤ s.size) (h2 : s.size ≤ 1048576) (hd : Digits s) :
    Calls Tryd.prog 6 #[.string s] w fun e w' => ∃ r, e = .returned (.tuple #[r, .int .i64 0]) ∧ Num w' r (dec (dig s) s.size) ∧ Below w.heap.size w w' := by
  obtain ⟨i0, hi, hz0, hz1, hz2⟩ := info_parts info46
  have HS : Hid (OfRel s w (.slice none 0 0) (.int .i64 s.size) w) :=
    ⟨0, s.size, s.size, fun _ => 0, rfl, Nat.le_refl _, .inl ⟨rfl, by omega⟩, by omega, fun _ => (by decide : (0 : Int) ≤ 0 ∧ (0 : Int) < 1000000000), World.ownsRow_nil _ _ _ _, by rw [pw_zero, val_zero]; omega, Below.refl _ _⟩
  have HD : Hid (Digits s) := hd
  have g0 : ¬ (s.size : Int) < 1 := by omega
  clear hd
  go_enter Tryd.func6, Tryd.ntmps6
  go_wp2
  go_loop [4] (fun i => ∃ k : Nat, k ≤ s.size ∧ i = .int .i64 k) (fun i => s.size - (intOf i).toNat)
  case atStart => exact ⟨0, Nat.zero_le _, rfl⟩
  case round =>
    obtain ⟨k0, hk0, rfl⟩ := hrel
    by_cases hlt0 : k0 < s.size
    · have hI : (k0 : Int) < (s.size : Int) := by omega
      have hx := chr_at s k0 hlt0
      have hb := HD.out k0 hlt0
      generalize chr s k0 = x at *
      go_wp2
      go_round
      case rel => exact ⟨k0 + 1, by omega, by go_num⟩
      case measure => simp [intOf]; omega
    · have e0 : k0 = s.size := by omega
      subst e0
      clear hlt0 hk0
      go_wp2
      go_loopw [5, 6] (fun v t wr => OfRel s w v t wr) (fun _ t _ => (intOf t).toNat)
      case atStart => exact HS.out
      case round =>
        obtain ⟨k, e, E, g, rfl, he, hE, hke, h9, hown, hv, hb⟩ := hrel
        by_cases hlt : 0 < e
        · obtain rfl : E = e := by omega
          have hz := hb.size
          have hIe : (0 : Int) < (e : Int) := by omega
          have HN := fun v' w3 o h1 h2 => OfRel_next s w u5 v' wr w3 o k e g HD.out he hlt hke h9 hown hv hb h1 h2
          obtain ⟨lo, hlo⟩ : ∃ lo, e - 9 = lo := ⟨_, rfl⟩
          rw [hlo] at HN
          by_cases h9e : (0 : Int) < (e : Int) - 9
          · have hlo2 : (e : Int) - 9 = (lo : Int) := by omega
            have hle9 : e ≤ lo + 9 := by omega
            clear hlo hv
            go_wp2
            go_loopw [7, 8] (fun x i wrI => ∃ j : Nat, lo + j ≤ e ∧ i = .int .i64 ((lo : Int) + (j : Int)) ∧ x = .int .u32 (dec (fun t => dig s (lo + t)) j) ∧ wrI = wr) (fun _ i _ => e - (intOf i).toNat)
            case atStart => exact ⟨0, by omega, by (simp only [Value.int.injEq, true_and]; omega), rfl, rfl⟩
            case round =>
              obtain ⟨j, hj, rfl, rfl, rfl⟩ := hrel
              have hbs2 := dec_bd9 (fun t => dig s (lo + t)) j (by omega) (fun i hi => by have := HD.out (lo + i) (by omega); unfold dig; omega)
              by_cases hje : lo + j < e
              · have hI : (lo : Int) + (j : Int) < (e : Int) := by omega
                have hsz : lo + j < s.size := by omega
                have hIs : (lo : Int) + (j : Int) < (s.size : Int) := by omega
                have ez : ((lo : Int) + (j : Int)).toNat = lo + j := by omega
                have hx := chr_at s (lo + j) hsz
                have hb := HD.out (lo + j) hsz
                have hb3 := dec_bd9 (fun t => dig s (lo + t)) (j + 1) (by omega) (fun i hi => by have := HD.out (lo + i) (by omega); unfold dig; omega)
                have HE : Hid (dec (fun t => dig s (lo + t)) (j + 1) = dec (fun t => dig s (lo + t)) j * 10 + (chr s (lo + j) - 48)) := rfl
                rw [HE.out] at hb3
                generalize chr s (lo + j) = x at *
                generalize dec (fun t => dig s (lo + t)) j = y at *
                go_wp2
                go_roundw
                case rel => exact ⟨j + 1, by omega, by (simp only [Value.int.injEq, true_and]; omega), by (rw [HE.out]; simp only [Value.int.injEq, true_and]; omega), by first | rfl | trivial⟩
                case measure => simp [intOf]; omega
              · have ej : j = e - lo := by omega
                subst ej
                have hI : ¬ (lo : Int) + ((e - lo : Nat) : Int) < (e : Int) := by omega
                generalize dec (fun t => dig s (lo + t)) (e - lo) = D at *
                go_wp2_with (at_builtin; refine wpList_append_own _ rfl _ _ 22 rfl w.heap.size 39 i0 (.int .u32 0) 1 4 Tryd.underlying22 hi hz0 hz1 hz2 rfl (by decide) _ _ _ rfl (hown.alloc _) ⟨wr.heap.size, 0, none⟩ 1 1 [.int .u32 D] rfl rfl (cell_one_new _ _) (by intro u hu; simp at hu; subst hu; rfl) (by unfold maxLen; omega) (by omega) (by simp; omega) ?_)
                intro v' w3 hown3 hgrow3 _
                have HR : Hid (OfRel s w v' (.int .i64 ((e : Int) - 9)) w3) := HN v' w3 _ hown3 hgrow3
                clear HN hown3 hgrow3 hown
                go_wp2
                go_roundw
                case rel => first | exact HR.out | (rw [← hlo2]; exact HR.out)
                case measure => simp [intOf]; omega
          · have HLO : Hid (lo = 0) := (by omega : lo = 0)
            have hlo9 : lo + 9 ≤ e + 9 := by omega
            have hle9 : e ≤ lo + 9 := by omega
            clear hlo hv
            go_wp2
            go_loopw [7, 8] (fun x i wrI => ∃ j : Nat, lo + j ≤ e ∧ i = .int .i64 ((lo : Int) + (j : Int)) ∧ x = .int .u32 (dec (fun t => dig s (lo + t)) j) ∧ wrI = wr) (fun _ i _ => e - (intOf i).toNat)
            case atStart => exact ⟨0, by omega, by (have := HLO.out; simp only [Value.int.injEq, true_and]; omega), rfl, rfl⟩
            case round =>
              obtain ⟨j, hj, rfl, rfl, rfl⟩ := hrel
              have hbs2 := dec_bd9 (fun t => dig s (lo + t)) j (by omega) (fun i hi => by have := HD.out (lo + i) (by omega); unfold dig; omega)
              by_cases hje : lo + j < e
              · have hI : (lo : Int) + (j : Int) < (e : Int) := by omega
                have hsz : lo + j < s.size := by omega
                have hIs : (lo : Int) + (j : Int) < (s.size : Int) := by omega
                have ez : ((lo : Int) + (j : Int)).toNat = lo + j := by omega
                have hx := chr_at s (lo + j) hsz
                have hb := HD.out (lo + j) hsz
                have hb3 := dec_bd9 (fun t => dig s (lo + t)) (j + 1) (by omega) (fun i hi => by have := HD.out (lo + i) (by omega); unfold dig; omega)
                have HE : Hid (dec (fun t => dig s (lo + t)) (j + 1) = dec (fun t => dig s (lo + t)) j * 10 + (chr s (lo + j) - 48)) := rfl
                rw [HE.out] at hb3
                generalize chr s (lo + j) = x at *
                generalize dec (fun t => dig s (lo + t)) j = y at *
                go_wp2
                go_roundw
                case rel => exact ⟨j + 1, by omega, by (simp only [Value.int.injEq, true_and]; omega), by (rw [HE.out]; simp only [Value.int.injEq, true_and]; omega), by first | rfl | trivial⟩
                case measure => simp [intOf]; omega
              · have ej : j = e - lo := by omega
                subst ej
                have hI : ¬ (lo : Int) + ((e - lo : Nat) : Int) < (e : Int) := by omega
                generalize dec (fun t => dig s (lo + t)) (e - lo) = D at *
                go_wp2_with (at_builtin; refine wpList_append_own _ rfl _ _ 22 rfl w.heap.size 39 i0 (.int .u32 0) 1 4 Tryd.underlying22 hi hz0 hz1 hz2 rfl (by decide) _ _ _ rfl (hown.alloc _) ⟨wr.heap.size, 0, none⟩ 1 1 [.int .u32 D] rfl rfl (cell_one_new _ _) (by intro u hu; simp at hu; subst hu; rfl) (by unfold maxLen; omega) (by omega) (by simp; omega) ?_)
                intro v' w3 hown3 hgrow3 _
                have HR : Hid (OfRel s w v' (.int .i64 ((e : Int) - 9)) w3) := HN v' w3 _ hown3 hgrow3
                clear HN hown3 hgrow3 hown
                go_wp2
                go_roundw
                case rel => exact HR.out
                case measure => simp [intOf]; omega
        · have e0 : e = 0 := by omega
          subst e0
          have hE2 : E ≤ 0 := by omega
          have ht := rtrim_any u5 k g wr (row_of_owns hown h9) (by omega)
          have HV : Hid (val g k = dec (dig s) s.size) := by show val g k = _; rw [hv]; simp [dec]
          have H9 : Hid (Limbs k g) := fun i _ => h9 i
          clear hown hv h9
          go_wp2_with fail
          refine ht.mono ?_
          rintro e w4 ⟨r, rfl, hr, _, b4⟩
          clear ht
          go_wp2
          go_ret2
          exact ⟨_, rfl, rnum_of_trim H9.out hr HV.out, hb.trans (b4.mono hb.size)⟩
end Go.Proofs.YtpgdabpohbmodaaDoor
