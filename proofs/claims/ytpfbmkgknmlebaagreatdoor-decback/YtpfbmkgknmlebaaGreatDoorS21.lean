/-
  DecBack answers true for every number and text, and leaves memory that was there as it was. Conditions: the package's sentinel, and the library's variables, as the program lays them.
-/
import Derived.Test.YtpfbmkgknmlebaaGreatDoorS18
import Derived.Test.YtpfbmkgknmlebaaGreatDoorS20
namespace Go.Proofs.YtpfbmkgknmlebaaGreatDoor
open Go.RowKit
attribute [local go_sem] setCell_drewN alloc_drewN

theorem keep {w w' : World} {c : Array Value} {t : TypeId} (h : Below (w.alloc (.cells c t)).heap.size (w.alloc (.cells c t)) w') : (∀ o, w'.cell? ⟨w.heap.size, o, none⟩ = c[o]?) ∧ w.heap.size < w'.heap.size := by
  refine ⟨fun o => ?_, ?_⟩
  · rw [h.cell (p := ⟨w.heap.size, o, none⟩) (by simp)]
    rw [World.cell?_alloc_at _ _ _ _ rfl]
  · have := h.size
    simp at this
    omega
theorem text_len {d : D3} (h : Good d) : (textL d).length ≤ 70000 := by
  unfold textL sufL
  rcases h with ⟨h1, h2, h3⟩ | ⟨h1, h2, h3⟩
  · rw [if_pos h1]; decide
  · rw [if_neg h1.1]
    have l1 := h1.2.1
    have l2 := itoa_len d.ex h2 h3
    split <;> split <;> simp <;> omega
theorem eq_self (n : Bool) (s : ByteArray) (e : Int) : eqD n s e n s e = true := decide_eq_true ⟨rfl, rfl, rfl⟩
/-- Compared as nought just where they are the same. -/
theorem zero_iff {n m : Bool} {s t : ByteArray} {e f : Int} (gA : goodB n s e = true) (gB : goodB m t f = true) : (sg (V ⟨n, s.data.toList, e⟩) (V ⟨m, t.data.toList, f⟩) == 0) = eqD n s e m t f := by
  have key : sg (V ⟨n, s.data.toList, e⟩) (V ⟨m, t.data.toList, f⟩) = 0 ↔ (n = m ∧ s = t ∧ e = f) := by
    constructor
    · intro h
      have hv : V ⟨n, s.data.toList, e⟩ = V ⟨m, t.data.toList, f⟩ := by
        unfold sg at h
        split at h
        · cases h
        · split at h
          · cases h
          · omega
      have := V_inj (of_decide_eq_true gA) (of_decide_eq_true gB) hv
      simp only [D3.mk.injEq] at this
      exact ⟨this.1, by rw [← bs_self s, ← bs_self t, this.2.1], this.2.2⟩
    · rintro ⟨rfl, rfl, rfl⟩
      simp [sg]
  rw [Bool.eq_iff_iff]
  unfold eqD
  rw [decide_eq_true_iff, beq_iff_eq, key]

set_option maxRecDepth 100000 in
set_option maxHeartbeats 3200000 in
theorem back_00 (n : Bool) (s z : ByteArray) (e : Int) (a : Addr) (w : World) (hE : Env w a) (hs : s.size ≤ maxLen) (hz : z.size ≤ maxLen) (hg : goodB n s e = false) (hp : (parseL z.data.toList).1 ≠ 0) :
    Calls Tryz.prog 6 #[.agg #[.bool n, .string s, .int .i64 e], .string z] w fun r w' => r = .returned (.bool true) ∧ Below w.heap.size w w' := by
  have h1 := fun w => check_any n s e w hs
  rw [hg] at h1
  simp only [errB, Bool.false_eq_true, if_false] at h1
  have h4 := fun w hE => parse_any z a w hE hz
  have h7 := fun w hE => heads3_any a w hE
  obtain ⟨g, hgE⟩ : ∃ g, (parseL z.data.toList).1 = g := ⟨_, rfl⟩
  rw [parse_bad hp] at h4
  rw [hgE] at h4 hp
  simp only [d3, zeroD] at h4
  rw [show bs [] = ⟨#[]⟩ from rfl] at h4
  have hpn : (g == 0) = false := beq_eq_false_iff_ne.2 hp
  have hpn2 : (g != 0) = true := by simp only [bne, hpn]; rfl
  have q2 := eqIn_dec false ⟨#[]⟩ 0 false ⟨#[]⟩ 0
  rw [eq_self] at q2
  clear hp hgE hs hz hg
  go_enter Tryz.func6, Tryz.ntmps6
  go_wp2_with fail
  refine (h1 _).mono ?_
  rintro r w1 ⟨rfl, hb1⟩
  have hA1 := hb1
  have hE1 := (hE.alloc _).below hb1
  obtain ⟨k1, z1⟩ := keep hA1
  go_wp2_with fail
  refine (h4 _ hE1).mono ?_
  rintro r w4 ⟨rfl, hb4⟩
  have hA4 := bl_t hA1 hb4
  have hE4 := (hE1.below hb4).alloc (.cells #[.bool false, .string ⟨#[]⟩, .int .i64 0] 23)
  obtain ⟨k4, z4⟩ := keep hA4
  clear k1
  go_wp2_with fail
  refine (h7 _ hE4).mono ?_
  rintro r w5 ⟨rfl, hb5⟩
  go_wp2
  go_ret
  exact ⟨rfl, bl_t (bl_a (Below.refl _ _) _) (bl_t (bl_a hA4 _) hb5)⟩

set_option maxRecDepth 100000 in
set_option maxHeartbeats 3200000 in
theorem back_01 (n : Bool) (s z : ByteArray) (e : Int) (a : Addr) (w : World) (hE : Env w a) (hs : s.size ≤ maxLen) (hz : z.size ≤ maxLen) (hg : goodB n s e = false) (hp : (parseL z.data.toList).1 = 0) :
    Calls Tryz.prog 6 #[.agg #[.bool n, .string s, .int .i64 e], .string z] w fun r w' => r = .returned (.bool true) ∧ Below w.heap.size w w' := by
  have h1 := fun w => check_any n s e w hs
  rw [hg] at h1
  simp only [errB, Bool.false_eq_true, if_false] at h1
  have h4 := fun w hE => parse_any z a w hE hz
  have h7 := fun w hE => heads3_any a w hE
  have hX : Good (parseL z.data.toList).2 := parse_good hp
  rw [hp] at h4
  obtain ⟨⟨xn, xl, xe⟩, hx⟩ : ∃ d, (parseL z.data.toList).2 = d := ⟨_, rfl⟩
  rw [hx] at h4 hX
  simp only [d3] at h4
  have hgx : goodB xn (bs xl) xe = true := decide_eq_true hX
  have hxs : (bs xl).size ≤ maxLen := by
    rw [bs_size]
    rcases hX with ⟨g, _⟩ | ⟨g, _⟩
    · have g : xl = [] := g
      rw [g]; decide
    · exact Nat.le_trans g.2.1 (by decide)
  have h5 := fun w => compare_any xn n (bs xl) s xe e w hxs hs
  rw [hgx, hg] at h5
  have h6 := fun w => check_any xn (bs xl) xe w hxs
  rw [hgx] at h6
  have q2 := eqIn_dec xn (bs xl) xe n s e
  simp only [errB, Bool.and_false, Bool.false_eq_true, if_false, if_true] at h5 h6
  clear hp hx hX hgx hxs hs hz hg
  generalize bs xl = xs at *
  generalize eqD xn xs xe n s e = eq at *
  go_enter Tryz.func6, Tryz.ntmps6
  go_wp2_with fail
  refine (h1 _).mono ?_
  rintro r w1 ⟨rfl, hb1⟩
  have hA1 := hb1
  have hE1 := (hE.alloc _).below hb1
  obtain ⟨k1, z1⟩ := keep hA1
  go_wp2_with fail
  refine (h4 _ hE1).mono ?_
  rintro r w4 ⟨rfl, hb4⟩
  have hA4 := bl_t hA1 hb4
  have hE4 := (hE1.below hb4).alloc (.cells #[.bool xn, .string xs, .int .i64 xe] 23)
  obtain ⟨k4, z4⟩ := keep hA4
  clear k1
  go_wp2_with fail
  refine (h5 _).mono ?_
  rintro r w5 ⟨rfl, hb5⟩
  have hA5 := bl_t (bl_a hA4 (.cells #[.bool xn, .string xs, .int .i64 xe] 23)) hb5
  have hE5 := hE4.below hb5
  obtain ⟨k5, z5⟩ := keep hA5
  obtain ⟨x5, y5⟩ := keep hb5
  clear k4
  go_wp2_with fail
  refine (h6 _).mono ?_
  rintro r w6 ⟨rfl, hb6⟩
  have hA6 := bl_t hA5 hb6
  have hE6 := hE5.below hb6
  obtain ⟨k6, z6⟩ := keep hA6
  obtain ⟨x6, y6⟩ := keep (bl_t hb5 hb6)
  clear k5 x5
  go_wp2_with fail
  refine (h7 _ hE6).mono ?_
  rintro r w7 ⟨rfl, hb7⟩
  go_wp2
  go_ret
  exact ⟨rfl, bl_t (bl_a (Below.refl _ _) _) (bl_t hA6 hb7)⟩

set_option maxRecDepth 100000 in
set_option maxHeartbeats 3200000 in
theorem back_10 (n : Bool) (s z : ByteArray) (e : Int) (a : Addr) (w : World) (hE : Env w a) (hs : s.size ≤ maxLen) (hz : z.size ≤ maxLen) (hg : goodB n s e = true) (hp : (parseL z.data.toList).1 ≠ 0) :
    Calls Tryz.prog 6 #[.agg #[.bool n, .string s, .int .i64 e], .string z] w fun r w' => r = .returned (.bool true) ∧ Below w.heap.size w w' := by
  have h1 := fun w => check_any n s e w hs
  rw [hg] at h1
  simp only [errB, if_true] at h1
  have h4 := fun w hE => parse_any z a w hE hz
  have h7 := fun w hE => heads3_any a w hE
  have h2 := fun w ht => text_any n s e w hs ht
  rw [hg] at h2
  simp only [errB, if_true] at h2
  have hG : Good ⟨n, s.data.toList, e⟩ := of_decide_eq_true hg
  have h3 := fun w hE => parse_list (textL ⟨n, s.data.toList, e⟩) a w hE (Nat.le_trans (text_len hG) (by decide))
  rw [parse_text _ hG] at h3
  simp only [d3, bs_self] at h3
  have q1 := eqIn_dec n s e n s e
  rw [eq_self] at q1
  obtain ⟨g, hgE⟩ : ∃ g, (parseL z.data.toList).1 = g := ⟨_, rfl⟩
  rw [parse_bad hp] at h4
  rw [hgE] at h4 hp
  simp only [d3, zeroD] at h4
  rw [show bs [] = ⟨#[]⟩ from rfl] at h4
  have hpn : (g == 0) = false := beq_eq_false_iff_ne.2 hp
  have hpn2 : (g != 0) = true := by simp only [bne, hpn]; rfl
  have q2 := eqIn_dec false ⟨#[]⟩ 0 false ⟨#[]⟩ 0
  rw [eq_self] at q2
  clear hp hgE hs hz hg hG
  generalize textL ⟨n, s.data.toList, e⟩ = tx at *
  go_enter Tryz.func6, Tryz.ntmps6
  go_wp2_with fail
  refine (h1 _).mono ?_
  rintro r w1 ⟨rfl, hb1⟩
  have hA1 := hb1
  have hE1 := (hE.alloc _).below hb1
  obtain ⟨k1, z1⟩ := keep hA1
  go_wp2_with fail
  refine (h2 _ hE1.tab).mono ?_
  rintro r w2 ⟨rfl, hb2⟩
  have hA2 := bl_t hA1 hb2
  have hE2 := hE1.below hb2
  obtain ⟨k2, z2⟩ := keep hA2
  clear k1
  go_wp2_with fail
  refine (h3 _ hE2).mono ?_
  rintro r w3 ⟨rfl, hb3⟩
  have hA3 := bl_a (bl_t hA2 hb3) (.cells #[.bool n, .string s, .int .i64 e] 23)
  have hE3 := (hE2.below hb3).alloc (.cells #[.bool n, .string s, .int .i64 e] 23)
  obtain ⟨k3, z3⟩ := keep (bl_t hA2 hb3)
  clear k2
  go_wp2_with fail
  refine (h4 _ hE3).mono ?_
  rintro r w4 ⟨rfl, hb4⟩
  have hA4 := bl_t hA3 hb4
  have hE4 := (hE3.below hb4).alloc (.cells #[.bool false, .string ⟨#[]⟩, .int .i64 0] 23)
  obtain ⟨k4, z4⟩ := keep hA4
  clear k3
  go_wp2_with fail
  refine (h7 _ hE4).mono ?_
  rintro r w5 ⟨rfl, hb5⟩
  go_wp2
  go_ret
  exact ⟨rfl, bl_t (bl_a (Below.refl _ _) _) (bl_t (bl_a hA4 _) hb5)⟩

set_option maxRecDepth 100000 in
set_option maxHeartbeats 3200000 in
theorem back_11 (n : Bool) (s z : ByteArray) (e : Int) (a : Addr) (w : World) (hE : Env w a) (hs : s.size ≤ maxLen) (hz : z.size ≤ maxLen) (hg : goodB n s e = true) (hp : (parseL z.data.toList).1 = 0) :
    Calls Tryz.prog 6 #[.agg #[.bool n, .string s, .int .i64 e], .string z] w fun r w' => r = .returned (.bool true) ∧ Below w.heap.size w w' := by
  have h1 := fun w => check_any n s e w hs
  rw [hg] at h1
  simp only [errB, if_true] at h1
  have h4 := fun w hE => parse_any z a w hE hz
  have h7 := fun w hE => heads3_any a w hE
  have h2 := fun w ht => text_any n s e w hs ht
  rw [hg] at h2
  simp only [errB, if_true] at h2
  have hG : Good ⟨n, s.data.toList, e⟩ := of_decide_eq_true hg
  have h3 := fun w hE => parse_list (textL ⟨n, s.data.toList, e⟩) a w hE (Nat.le_trans (text_len hG) (by decide))
  rw [parse_text _ hG] at h3
  simp only [d3, bs_self] at h3
  have q1 := eqIn_dec n s e n s e
  rw [eq_self] at q1
  have hX : Good (parseL z.data.toList).2 := parse_good hp
  rw [hp] at h4
  obtain ⟨⟨xn, xl, xe⟩, hx⟩ : ∃ d, (parseL z.data.toList).2 = d := ⟨_, rfl⟩
  rw [hx] at h4 hX
  simp only [d3] at h4
  have hgx : goodB xn (bs xl) xe = true := decide_eq_true hX
  have hxs : (bs xl).size ≤ maxLen := by
    rw [bs_size]
    rcases hX with ⟨g, _⟩ | ⟨g, _⟩
    · have g : xl = [] := g
      rw [g]; decide
    · exact Nat.le_trans g.2.1 (by decide)
  have h5 := fun w => compare_any xn n (bs xl) s xe e w hxs hs
  rw [hgx, hg] at h5
  have h6 := fun w => check_any xn (bs xl) xe w hxs
  rw [hgx] at h6
  have q2 := eqIn_dec xn (bs xl) xe n s e
  have HZ := zero_iff hgx hg
  simp only [errB, Bool.and_self, if_true] at h5 h6
  generalize sg (V ⟨xn, (bs xl).data.toList, xe⟩) (V ⟨n, s.data.toList, e⟩) = c at *
  clear hG
  clear hp hx hX hgx hxs hs hz hg
  generalize bs xl = xs at *
  generalize eqD xn xs xe n s e = eq at *
  generalize textL ⟨n, s.data.toList, e⟩ = tx at *
  go_enter Tryz.func6, Tryz.ntmps6
  go_wp2_with fail
  refine (h1 _).mono ?_
  rintro r w1 ⟨rfl, hb1⟩
  have hA1 := hb1
  have hE1 := (hE.alloc _).below hb1
  obtain ⟨k1, z1⟩ := keep hA1
  go_wp2_with fail
  refine (h2 _ hE1.tab).mono ?_
  rintro r w2 ⟨rfl, hb2⟩
  have hA2 := bl_t hA1 hb2
  have hE2 := hE1.below hb2
  obtain ⟨k2, z2⟩ := keep hA2
  clear k1
  go_wp2_with fail
  refine (h3 _ hE2).mono ?_
  rintro r w3 ⟨rfl, hb3⟩
  have hA3 := bl_a (bl_t hA2 hb3) (.cells #[.bool n, .string s, .int .i64 e] 23)
  have hE3 := (hE2.below hb3).alloc (.cells #[.bool n, .string s, .int .i64 e] 23)
  obtain ⟨k3, z3⟩ := keep (bl_t hA2 hb3)
  clear k2
  go_wp2_with fail
  refine (h4 _ hE3).mono ?_
  rintro r w4 ⟨rfl, hb4⟩
  have hA4 := bl_t hA3 hb4
  have hE4 := (hE3.below hb4).alloc (.cells #[.bool xn, .string xs, .int .i64 xe] 23)
  obtain ⟨k4, z4⟩ := keep hA4
  clear k3
  go_wp2_with fail
  refine (h5 _).mono ?_
  rintro r w5 ⟨rfl, hb5⟩
  have hA5 := bl_t (bl_a hA4 (.cells #[.bool xn, .string xs, .int .i64 xe] 23)) hb5
  have hE5 := hE4.below hb5
  obtain ⟨k5, z5⟩ := keep hA5
  obtain ⟨x5, y5⟩ := keep hb5
  clear k4
  go_wp2_with fail
  refine (h6 _).mono ?_
  rintro r w6 ⟨rfl, hb6⟩
  have hA6 := bl_t hA5 hb6
  have hE6 := hE5.below hb6
  obtain ⟨k6, z6⟩ := keep hA6
  obtain ⟨x6, y6⟩ := keep (bl_t hb5 hb6)
  clear k5 x5
  go_wp2_with fail
  refine (h7 _ hE6).mono ?_
  rintro r w7 ⟨rfl, hb7⟩
  go_wp2
  go_ret
  exact ⟨rfl, bl_t (bl_a (Below.refl _ _) _) (bl_t hA6 hb7)⟩

theorem back_walk (n : Bool) (s z : ByteArray) (e : Int) (a : Addr) (w : World) (hE : Env w a) (hs : s.size ≤ maxLen) (hz : z.size ≤ maxLen) :
    Calls Tryz.prog 6 #[.agg #[.bool n, .string s, .int .i64 e], .string z] w fun r w' => r = .returned (.bool true) ∧ Below w.heap.size w w' := by
  by_cases hp : (parseL z.data.toList).1 = 0
  · cases hg : goodB n s e
    · exact back_01 n s z e a w hE hs hz hg hp
    · exact back_11 n s z e a w hE hs hz hg hp
  · cases hg : goodB n s e
    · exact back_00 n s z e a w hE hs hz hg hp
    · exact back_10 n s z e a w hE hs hz hg hp
end Go.Proofs.YtpfbmkgknmlebaaGreatDoor
