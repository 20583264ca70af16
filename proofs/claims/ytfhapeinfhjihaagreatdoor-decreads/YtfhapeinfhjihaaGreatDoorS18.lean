/-
  The heads of layer 3's statements: what must come at any rate comes. Conditions: the package's sentinel, and the library's variables, as the program lays them.
-/
import Derived.Test.YtfhapeinfhjihaaGreatDoorS13
import Derived.Test.YtfhapeinfhjihaaGreatDoorS17
namespace Go.Proofs.YtfhapeinfhjihaaGreatDoor
open Go.RowKit
attribute [local go_sem] setCell_drewN alloc_drewN

theorem pr1 : parseL [49, 46, 53, 48, 101, 50] = (0, ⟨false, [49, 53], 1⟩) := by rfl
theorem pr2 : parseL [45, 48, 46, 48, 101, 57] = (0, ⟨false, [], 0⟩) := by rfl
theorem pr3 : parseL [49, 101, 49, 48, 48, 48, 48, 48, 49] = (31, ⟨false, [], 0⟩) := by rfl
theorem pr4 : parseL [48, 49] = (30, ⟨false, [], 0⟩) := by rfl
theorem tx1 : textL ⟨false, [49, 53], 1⟩ = [49, 53, 101, 49] := by
  simp [textL, sufL, Lib.itoa, Lib.decDigits]
theorem gd1 : goodB false ⟨#[49, 53]⟩ 1 = true := by decide +kernel
theorem gd2 : goodB false ⟨#[51]⟩ (-1) = true := by decide +kernel
theorem gd3 : goodB false ⟨#[49]⟩ (-1) = true := by decide +kernel
theorem gd4 : goodB false ⟨#[51, 53]⟩ (-2) = true := by decide +kernel
theorem mult_yes (w : World) : Calls Tryz.prog 17 #[.agg #[.bool false, .string ⟨#[51]⟩, .int .i64 (-1)], .agg #[.bool false, .string ⟨#[49]⟩, .int .i64 (-1)]] w fun r w' => r = .returned (.tuple #[.bool true, .int .i64 0]) ∧ Below w.heap.size w w' := by
  refine multiple_by false false _ _ _ _ true w (by decide +kernel) (by decide +kernel) gd2 gd3 (by decide +kernel) (fun w => ?_)
  have h := divides_plain false false ⟨#[49]⟩ ⟨#[51]⟩ (-1) (-1) w (by decide +kernel) (by decide) (by decide) (by decide) (by decide) (by decide) (by decide) (by decide) (fun i hi => by
      have : i = 0 := by have : i < 1 := hi; omega
      subst this; decide +kernel) (by decide) (by decide) (fun i hi => by
      have : i = 0 := by have : i < 1 := hi; omega
      subst this; decide +kernel) (.inl (by decide +kernel)) (by
      have := pw_mono (show 1 ≤ 1000 by decide)
      have e : dec (dig ⟨#[51]⟩) (ByteArray.size ⟨#[51]⟩) = 3 := by decide +kernel
      rw [e]; rw [show pw 1 = 1000000000 from rfl] at this; omega) (by decide +kernel)
  have e : decide (dec (dig ⟨#[51]⟩) (ByteArray.size ⟨#[51]⟩) % dec (dig ⟨#[49]⟩) (ByteArray.size ⟨#[49]⟩) = 0) = true := by decide +kernel
  rw [e] at h
  exact h
theorem mult_no (w : World) : Calls Tryz.prog 17 #[.agg #[.bool false, .string ⟨#[51, 53]⟩, .int .i64 (-2)], .agg #[.bool false, .string ⟨#[49]⟩, .int .i64 (-1)]] w fun r w' => r = .returned (.tuple #[.bool false, .int .i64 0]) ∧ Below w.heap.size w w' :=
  multiple_by false false _ _ _ _ false w (by decide +kernel) (by decide +kernel) gd4 gd3 (by decide +kernel) (fun w => divides_lower false false _ _ _ _ w (by decide +kernel) (by decide) (by decide) (by decide) (by decide) (by decide))

set_option maxRecDepth 100000 in
set_option maxHeartbeats 1600000 in
theorem heads3_any (a : Addr) (w : World) (hE : Env w a) :
    Calls Tryz.prog 16 #[] w fun r w' => r = .returned (.bool true) ∧ Below w.heap.size w w' := by
  have p1 := fun w hE => parse_any ⟨#[49, 46, 53, 48, 101, 50]⟩ a w hE (by decide +kernel)
  have p2 := fun w hE => parse_any ⟨#[45, 48, 46, 48, 101, 57]⟩ a w hE (by decide +kernel)
  have p3 := fun w hE => parse_any ⟨#[49, 101, 49, 48, 48, 48, 48, 48, 49]⟩ a w hE (by decide +kernel)
  have p4 := fun w hE => parse_any ⟨#[48, 49]⟩ a w hE (by decide +kernel)
  have p5 := fun w ht => text_any false ⟨#[49, 53]⟩ 1 w (by decide +kernel) ht
  simp only [pr1, d3] at p1
  simp only [pr2, d3] at p2
  simp only [pr3, d3] at p3
  simp only [pr4, d3] at p4
  rw [gd1] at p5
  simp only [if_true, tx1, errB] at p5
  have b1 : bs [49, 53] = ⟨#[49, 53]⟩ := rfl
  have b2 : bs [] = ⟨#[]⟩ := rfl
  rw [b1] at p1
  rw [b2] at p2 p3 p4
  have q1 := eqIn_dec false ⟨#[49, 53]⟩ 1 false ⟨#[49, 53]⟩ 1
  have q2 := eqIn_dec false ⟨#[]⟩ 0 false ⟨#[]⟩ 0
  rw [show eqD false ⟨#[49, 53]⟩ 1 false ⟨#[49, 53]⟩ 1 = true by decide +kernel] at q1
  rw [show eqD false ⟨#[]⟩ 0 false ⟨#[]⟩ 0 = true by decide +kernel] at q2
  have t1 : (bs [49, 53, 101, 49]).toList = [49, 53, 101, 49] := toList_bs _
  go_enter Tryz.func16, Tryz.ntmps16
  go_wp2_with fail
  refine (p1 _ hE).mono ?_
  rintro r w1 ⟨rfl, hb1⟩
  have hE1 := (hE.below hb1).alloc (.cells #[.bool false, .string ⟨#[49, 53]⟩, .int .i64 1] 23)
  go_wp2_with fail
  refine (p2 _ hE1).mono ?_
  rintro r w2 ⟨rfl, hb2⟩
  have hE2 := (hE1.below hb2).alloc (.cells #[.bool false, .string ⟨#[]⟩, .int .i64 0] 23)
  have z2 : w1.heap.size < w2.heap.size := by have := hb2.size; simp at this; omega
  go_wp2_with fail
  refine (p3 _ hE2).mono ?_
  rintro r w3 ⟨rfl, hb3⟩
  have hE3 := (hE2.below hb3).alloc (.cells #[.bool false, .string ⟨#[]⟩, .int .i64 0] 23)
  have z3 : w2.heap.size < w3.heap.size := by have := hb3.size; simp at this; omega
  go_wp2_with fail
  refine (p4 _ hE3).mono ?_
  rintro r w4 ⟨rfl, hb4⟩
  have hE4 := (hE3.below hb4).alloc (.cells #[.bool false, .string ⟨#[]⟩, .int .i64 0] 23)
  have z4 : w3.heap.size < w4.heap.size := by have := hb4.size; simp at this; omega
  obtain ⟨X1, hX1⟩ : ∃ X, X = w1.alloc (.cells #[.bool false, .string ⟨#[49, 53]⟩, .int .i64 1] 23) := ⟨_, rfl⟩
  obtain ⟨X2, hX2⟩ : ∃ X, X = w2.alloc (.cells #[.bool false, .string ⟨#[]⟩, .int .i64 0] 23) := ⟨_, rfl⟩
  have B1 : Below X1.heap.size X1 w4 := by subst hX1; exact (by with_reducible repeat (first | exact Below.refl _ _ | refine bl_t ?_ hb4 | refine bl_t ?_ hb3 | refine bl_t ?_ hb2 |  refine bl_d ?_ | refine bl_n ?_ _ | refine bl_a ?_ _ | refine bl_s ?_ (by omega) _))
  have B2 : Below X2.heap.size X2 w4 := by subst hX2; exact (by with_reducible repeat (first | exact Below.refl _ _ | refine bl_t ?_ hb4 | refine bl_t ?_ hb3 |  refine bl_d ?_ | refine bl_n ?_ _ | refine bl_a ?_ _ | refine bl_s ?_ (by omega) _))
  have k1 : ∀ o, w4.cell? ⟨w1.heap.size, o, none⟩ = #[Value.bool false, .string ⟨#[49, 53]⟩, .int .i64 1][o]? := fun o => by rw [B1.cell (p := ⟨w1.heap.size, o, none⟩) (by rw [hX1]; simp), hX1]; simp [go_sem]
  have k2 : ∀ o, w4.cell? ⟨w2.heap.size, o, none⟩ = #[Value.bool false, .string ⟨#[]⟩, .int .i64 0][o]? := fun o => by rw [B2.cell (p := ⟨w2.heap.size, o, none⟩) (by rw [hX2]; simp), hX2]; simp [go_sem]
  have z14 : w1.heap.size < w4.heap.size := by omega
  have z24 : w2.heap.size < w4.heap.size := by omega
  have hb0 : Below w.heap.size w w4 := (by with_reducible repeat (first | exact Below.refl _ _ | refine bl_t ?_ hb4 | refine bl_t ?_ hb3 | refine bl_t ?_ hb2 | refine bl_t ?_ hb1 |  refine bl_d ?_ | refine bl_n ?_ _ | refine bl_a ?_ _ | refine bl_s ?_ (by omega) _))
  clear hX1 hX2 B1 B2 hE hE1 hE2 hE3 p1 p2 p3 p4
  go_wp2_with fail
  refine (p5 _ hE4.tab).mono ?_
  rintro r w5 ⟨rfl, hb5⟩
  have k15 : ∀ o, w5.cell? ⟨w1.heap.size, o, none⟩ = #[Value.bool false, .string ⟨#[49, 53]⟩, .int .i64 1][o]? := fun o => by rw [hb5.cell (p := ⟨w1.heap.size, o, none⟩) (by simp only [World.size_alloc]; omega), World.cell?_alloc_lt _ _ ⟨w1.heap.size, o, none⟩ z14]; exact k1 o
  have k25 : ∀ o, w5.cell? ⟨w2.heap.size, o, none⟩ = #[Value.bool false, .string ⟨#[]⟩, .int .i64 0][o]? := fun o => by rw [hb5.cell (p := ⟨w2.heap.size, o, none⟩) (by simp only [World.size_alloc]; omega), World.cell?_alloc_lt _ _ ⟨w2.heap.size, o, none⟩ z24]; exact k2 o
  have z15 : w1.heap.size < w5.heap.size := by have := hb5.size; simp at this; omega
  have z25 : w2.heap.size < w5.heap.size := by have := hb5.size; simp at this; omega
  clear k1 k2 hE4
  go_wp2_with fail
  refine (mult_yes _).mono ?_
  rintro r w6 ⟨rfl, hb6⟩
  have k16 : ∀ o, w6.cell? ⟨w1.heap.size, o, none⟩ = #[Value.bool false, .string ⟨#[49, 53]⟩, .int .i64 1][o]? := fun o => by rw [hb6.cell (p := ⟨w1.heap.size, o, none⟩) z15]; exact k15 o
  have k26 : ∀ o, w6.cell? ⟨w2.heap.size, o, none⟩ = #[Value.bool false, .string ⟨#[]⟩, .int .i64 0][o]? := fun o => by rw [hb6.cell (p := ⟨w2.heap.size, o, none⟩) z25]; exact k25 o
  have z16 : w1.heap.size < w6.heap.size := Nat.lt_of_lt_of_le z15 hb6.size
  have z26 : w2.heap.size < w6.heap.size := Nat.lt_of_lt_of_le z25 hb6.size
  clear k15 k25
  go_wp2_with fail
  refine (mult_no _).mono ?_
  rintro r w7 ⟨rfl, hb7⟩
  have k17 : ∀ o, w7.cell? ⟨w1.heap.size, o, none⟩ = #[Value.bool false, .string ⟨#[49, 53]⟩, .int .i64 1][o]? := fun o => by rw [hb7.cell (p := ⟨w1.heap.size, o, none⟩) z16]; exact k16 o
  have k27 : ∀ o, w7.cell? ⟨w2.heap.size, o, none⟩ = #[Value.bool false, .string ⟨#[]⟩, .int .i64 0][o]? := fun o => by rw [hb7.cell (p := ⟨w2.heap.size, o, none⟩) z26]; exact k26 o
  clear k16 k26
  go_wp2
  go_ret
  exact ⟨rfl, bl_t (bl_t (bl_t (bl_t hb0 (bl_a (Below.refl _ _) _)) hb5) hb6) hb7⟩
end Go.Proofs.YtfhapeinfhjihaaGreatDoor
