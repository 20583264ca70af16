/-
  What ref3.sign and ref3.size answer. Conditions: bounds that numbers which may be keep.
-/
import Derived.Test.YtpeoepcfiejpmabGreatDoorS20
import Derived.Test.YtpeoepcfiejpmabGreatDoorA9
namespace Go.Proofs.YtpeoepcfiejpmabGreatDoor
open Go.RowKit
attribute [local go_sem] setCell_drewN alloc_drewN

theorem rsign_any (n : Bool) (s : ByteArray) (e : Int) (w : World) :
    Calls Tryz.prog 36 #[.agg #[.bool n, .string s, .int .i64 e]] w fun r w' => r = .returned (.int .i64 (sgnD n s)) ∧ w' = w.alloc (.cells #[.bool n, .string s, .int .i64 e] 23) := by
  by_cases h0 : s.size = 0
  · have hn : s.toList = [] := by rw [ByteArray.toList_eq]; exact (nil_size s).2 h0
    have HS : Hid (sgnD n s = 0) := if_pos h0
    clear h0
    go_enter Tryz.func36, Tryz.ntmps36
    go_wp2
    go_ret
    exact ⟨r3_int HS.out.symm, rfl⟩
  · have hn := toList_ne (s := s) (by omega)
    have HS : Hid (sgnD n s = if n = true then -1 else 1) := if_neg h0
    clear h0
    cases n
    · go_enter Tryz.func36, Tryz.ntmps36
      go_wp2
      go_ret
      exact ⟨r3_int HS.out.symm, rfl⟩
    · go_enter Tryz.func36, Tryz.ntmps36
      go_wp2
      go_ret
      exact ⟨r3_int HS.out.symm, rfl⟩

/-- Digits with noughts behind them. -/
def pad (s : ByteArray) (i : Nat) : Int := if i < s.size then cx s i - 48 else 0
theorem decP_congr {f g : Nat → Int} {k : Nat} (h : ∀ i, i < k → f i = g i) : dec f k = dec g k := by
  induction k with
  | zero => rfl
  | succ k ih => simp only [dec]; rw [ih (fun i hi => h i (by omega)), h k (by omega)]
theorem dec_less {f g : Nat → Int} (m k : Nat) (hk : k < m) (hf : ∀ i, 0 ≤ f i ∧ f i ≤ 9) (hg : ∀ i, 0 ≤ g i ∧ g i ≤ 9) (he : ∀ i, i < k → f i = g i) (hl : f k < g k) : dec f m < dec g m := by
  induction m with
  | zero => omega
  | succ m ih =>
    simp only [dec]
    by_cases e : k = m
    · subst e
      rw [decP_congr he]; omega
    · have := ih (by omega)
      have := hf m
      have := hg m
      omega
theorem dec_num (s : ByteArray) (k : Nat) (hk : k ≤ s.size) : dec (pad s) k = num (s.data.toList.take k) := by
  induction k with
  | zero => rfl
  | succ k ih =>
    obtain ⟨c, e, hx, _⟩ := take_cx s k (by omega)
    simp only [dec]
    rw [ih (by omega), e, num_snoc, pad, if_pos (by omega), ← hx]
theorem dec_pad (s : ByteArray) (j : Nat) : dec (pad s) (s.size + j) = num s.data.toList * 10 ^ j := by
  induction j with
  | zero =>
    have := dec_num s s.size (Nat.le_refl _)
    rw [← len_of, List.take_length, len_of] at this
    simpa using this
  | succ j ih =>
    show dec (pad s) (s.size + j) * 10 + pad s (s.size + j) = _
    rw [ih, pad, if_neg (by omega), Int.pow_succ, Int.mul_assoc]; omega
theorem pad_bd {s : ByteArray} (hd : ∀ j, j < s.size → 48 ≤ cx s j ∧ cx s j ≤ 57) (i : Nat) : 0 ≤ pad s i ∧ pad s i ≤ 9 := by
  unfold pad
  split
  · rename_i h; have := hd i h; omega
  · omega
theorem pad_sg (s t : ByteArray) (m : Nat) (hs : s.size ≤ m) (ht : t.size ≤ m) : sg (dec (pad s) m) (dec (pad t) m) = sg (num s.data.toList * 10 ^ (m - s.size)) (num t.data.toList * 10 ^ (m - t.size)) := by
  have a := dec_pad s (m - s.size)
  have b := dec_pad t (m - t.size)
  rw [show s.size + (m - s.size) = m by omega] at a
  rw [show t.size + (m - t.size) = m by omega] at b
  rw [a, b]

set_option maxRecDepth 100000 in
set_option maxHeartbeats 3200000 in
theorem size_near (n m : Bool) (s t : ByteArray) (e f x : Int) (w : World) (hs : s.size ≤ 65536) (ht : t.size ≤ 65536) (e0 : -1000000 ≤ e) (e1 : e ≤ 1000000) (hx : (s.size : Int) + e = x) (hy : (t.size : Int) + f = x)
    (sd : ∀ j, j < s.size → 48 ≤ cx s j ∧ cx s j ≤ 57) (td : ∀ j, j < t.size → 48 ≤ cx t j ∧ cx t j ≤ 57) :
    Calls Tryz.prog 37 #[.agg #[.bool n, .string s, .int .i64 e], .agg #[.bool m, .string t, .int .i64 f]] w fun r w' => r = .returned (.int .i64 (sg (dec (pad s) (max s.size t.size)) (dec (pad t) (max s.size t.size)))) ∧ Below w.heap.size w w' := by
  obtain ⟨M, hM⟩ : ∃ M, max s.size t.size = M := ⟨_, rfl⟩
  rw [hM]
  have hMs : s.size ≤ M := by omega
  have hMt : t.size ≤ M := by omega
  have HM : Hid (M = s.size ∨ M = t.size) := by show _ ∨ _; omega
  have HS : Hid (∀ j, j < s.size → 48 ≤ cx s j ∧ cx s j ≤ 57) := sd
  have HT : Hid (∀ j, j < t.size → 48 ≤ cx t j ∧ cx t j ≤ 57) := td
  have HLT : Hid (∀ k, k < M → (∀ j, j < k → pad s j = pad t j) → pad s k < pad t k → sg (dec (pad s) M) (dec (pad t) M) = -1) := fun k hk he hl => by
    have := dec_less M k hk (pad_bd sd) (pad_bd td) he hl
    simp [sg, this]
  have HGT : Hid (∀ k, k < M → (∀ j, j < k → pad s j = pad t j) → pad t k < pad s k → sg (dec (pad s) M) (dec (pad t) M) = 1) := fun k hk he hl => by
    have := dec_less M k hk (pad_bd td) (pad_bd sd) (fun i hi => (he i hi).symm) hl
    simp [sg, this, show ¬ dec (pad s) M < dec (pad t) M by omega]
  have HEQ : Hid ((∀ j, j < M → pad s j = pad t j) → sg (dec (pad s) M) (dec (pad t) M) = 0) := fun he => by
    rw [decP_congr he]; simp [sg]
  generalize sg (dec (pad s) M) (dec (pad t) M) = res at *
  have hs' : (s.size : Int) ≤ 65536 := by omega
  have ht' : (t.size : Int) ≤ 65536 := by omega
  clear sd td hM
  go_enter Tryz.func37, Tryz.ntmps37
  go_wp2_with fail
  go_quiet (fail)
  clear hx hy
  go_wp2
  go_loop [7] (fun i => ∃ k : Nat, k ≤ M ∧ i = .int .i64 k ∧ Hid (∀ j, j < k → pad s j = pad t j)) (fun i => M - (intOf i).toNat)
  case atStart => exact ⟨0, Nat.zero_le _, rfl, fun j hj => absurd hj (by omega)⟩
  case round =>
    obtain ⟨k, hk, rfl, HK⟩ := hrel
    by_cases hlt : k < M
    · have hkM : (k : Int) ≤ 65536 := by have := HM.out; omega
      have P1 : Hid (k < s.size → pad s k = cx s k - 48) := fun h => if_pos h
      have P2 : Hid (¬ k < s.size → pad s k = 0) := fun h => if_neg h
      have P3 : Hid (k < t.size → pad t k = cx t k - 48) := fun h => if_pos h
      have P4 : Hid (¬ k < t.size → pad t k = 0) := fun h => if_neg h
      by_cases a : k < s.size
      · by_cases b : k < t.size
        · have hx := cx_at s k a
          have hI1 : (k : Int) < (s.size : Int) := by omega
          have pa := P1.out a
          have hb1 := HS.out k a
          have hy := cx_at t k b
          have hI2 : (k : Int) < (t.size : Int) := by omega
          have pb := P3.out b
          have hb2 := HT.out k b
          by_cases l1 : cx s k < cx t k
          · have HR : Hid (res = -1) := HLT.out k hlt HK.out (by rw [pa, pb]; omega)
            have ne : (cx s k == cx t k) = false := beq_eq_false_iff_ne.2 (by omega)
            have ne2 : (cx s k != cx t k) = true := by simp only [bne, ne]; rfl
            clear HK HLT HGT HEQ HM P1 P2 P3 P4 HS HT pa pb
            generalize cx s k = y at *
            generalize cx t k = z at *
            go_wp2
            go_ret
            exact ⟨r3_int HR.out.symm, (by with_reducible repeat (first | exact Below.refl _ _ | refine bl_d ?_ | refine bl_n ?_ _ | refine bl_a ?_ _ | refine bl_s ?_ (by omega) _))⟩
          · by_cases l2 : cx t k < cx s k
            · have HR : Hid (res = 1) := HGT.out k hlt HK.out (by rw [pa, pb]; omega)
              have ne : (cx s k == cx t k) = false := beq_eq_false_iff_ne.2 (by omega)
              have ne2 : (cx s k != cx t k) = true := by simp only [bne, ne]; rfl
              have l1d : decide (cx s k < cx t k) = false := decide_eq_false l1
              clear HK HLT HGT HEQ HM P1 P2 P3 P4 HS HT pa pb
              generalize cx s k = y at *
              generalize cx t k = z at *
              go_wp2
              go_ret
              exact ⟨r3_int HR.out.symm, (by with_reducible repeat (first | exact Below.refl _ _ | refine bl_d ?_ | refine bl_n ?_ _ | refine bl_a ?_ _ | refine bl_s ?_ (by omega) _))⟩
            · have HK2 : Hid (∀ j, j < k + 1 → pad s j = pad t j) := fun j hj => by
                by_cases ej : j = k
                · rw [ej, pa, pb]; omega
                · exact HK.out j (by omega)
              have eq1 : cx s k = cx t k := by omega
              rw [eq1] at hx
              clear HK HLT HGT HEQ HM P1 P2 P3 P4 HS HT pa pb eq1 l1 l2 hb1
              generalize cx t k = z at *
              go_wp2
              go_round
              case rel => exact ⟨k + 1, by omega, by go_num, HK2⟩
              case measure => simp [intOf]; omega
        · have hx := cx_at s k a
          have hI1 : (k : Int) < (s.size : Int) := by omega
          have pa := P1.out a
          have hb1 := HS.out k a
          have hI2 : ¬ (k : Int) < (t.size : Int) := by omega
          have pb := P4.out b
          by_cases l1 : cx s k < (48 : Int)
          · omega
          · by_cases l2 : (48 : Int) < cx s k
            · have HR : Hid (res = 1) := HGT.out k hlt HK.out (by rw [pa, pb]; omega)
              have ne : (cx s k == (48 : Int)) = false := beq_eq_false_iff_ne.2 (by omega)
              have ne2 : (cx s k != (48 : Int)) = true := by simp only [bne, ne]; rfl
              have l1d : decide (cx s k < (48 : Int)) = false := decide_eq_false l1
              clear HK HLT HGT HEQ HM P1 P2 P3 P4 HS HT pa pb
              generalize cx s k = y at *
              go_wp2
              go_ret
              exact ⟨r3_int HR.out.symm, (by with_reducible repeat (first | exact Below.refl _ _ | refine bl_d ?_ | refine bl_n ?_ _ | refine bl_a ?_ _ | refine bl_s ?_ (by omega) _))⟩
            · have HK2 : Hid (∀ j, j < k + 1 → pad s j = pad t j) := fun j hj => by
                by_cases ej : j = k
                · rw [ej, pa, pb]; omega
                · exact HK.out j (by omega)
              have eq1 : cx s k = (48 : Int) := by omega
              rw [eq1] at hx
              clear HK HLT HGT HEQ HM P1 P2 P3 P4 HS HT pa pb eq1 l1 l2 hb1
              go_wp2
              go_round
              case rel => exact ⟨k + 1, by omega, by go_num, HK2⟩
              case measure => simp [intOf]; omega
      · by_cases b : k < t.size
        · have hI1 : ¬ (k : Int) < (s.size : Int) := by omega
          have pa := P2.out a
          have hy := cx_at t k b
          have hI2 : (k : Int) < (t.size : Int) := by omega
          have pb := P3.out b
          have hb2 := HT.out k b
          by_cases l1 : (48 : Int) < cx t k
          · have HR : Hid (res = -1) := HLT.out k hlt HK.out (by rw [pa, pb]; omega)
            have ne : ((48 : Int) == cx t k) = false := beq_eq_false_iff_ne.2 (by omega)
            have ne2 : ((48 : Int) != cx t k) = true := by simp only [bne, ne]; rfl
            clear HK HLT HGT HEQ HM P1 P2 P3 P4 HS HT pa pb
            generalize cx t k = z at *
            go_wp2
            go_ret
            exact ⟨r3_int HR.out.symm, (by with_reducible repeat (first | exact Below.refl _ _ | refine bl_d ?_ | refine bl_n ?_ _ | refine bl_a ?_ _ | refine bl_s ?_ (by omega) _))⟩
          · by_cases l2 : cx t k < (48 : Int)
            · omega
            · have HK2 : Hid (∀ j, j < k + 1 → pad s j = pad t j) := fun j hj => by
                by_cases ej : j = k
                · rw [ej, pa, pb]; omega
                · exact HK.out j (by omega)
              have eq1 : (48 : Int) = cx t k := by omega
              rw [← eq1] at hy
              clear HK HLT HGT HEQ HM P1 P2 P3 P4 HS HT pa pb eq1 l1 l2 hb2
              go_wp2
              go_round
              case rel => exact ⟨k + 1, by omega, by go_num, HK2⟩
              case measure => simp [intOf]; omega
        · have := HM.out; omega
    · have ek : k = M := by omega
      subst ek
      have HR : Hid (res = 0) := HEQ.out HK.out
      have hI1 : ¬ (k : Int) < (s.size : Int) := by omega
      have hI2 : ¬ (k : Int) < (t.size : Int) := by omega
      clear HK HLT HGT HEQ HM
      go_wp2
      go_ret
      exact ⟨r3_int HR.out.symm, (by with_reducible repeat (first | exact Below.refl _ _ | refine bl_d ?_ | refine bl_n ?_ _ | refine bl_a ?_ _ | refine bl_s ?_ (by omega) _))⟩
end Go.Proofs.YtpeoepcfiejpmabGreatDoor
