/-
  DecReads answers true for every text and number, and leaves memory that was there as it was. Conditions: at most 2^47 bytes; the package's sentinel, and the library's variables, as the program lays them.
-/
import Derived.Test.YtfhapeinfhjihaaGreatDoorH7
import Derived.Test.YtfhapeinfhjihaaGreatDoorH6
import Derived.Test.YtfhapeinfhjihaaGreatDoorS18
import Derived.Deep.RegionHeld3
namespace Go.Proofs.YtfhapeinfhjihaaGreatDoor
open Go.RowKit
attribute [local go_sem] setCell_drewN alloc_drewN

theorem eq_same (n : Bool) (s : ByteArray) (e : Int) : eqD n s e n s e = true := decide_eq_true ⟨rfl, rfl, rfl⟩

set_option maxRecDepth 100000 in
set_option maxHeartbeats 3200000 in
theorem dreads_walk (t : ByteArray) (n : Bool) (s : ByteArray) (e : Int) (a : Addr) (w : World) (hE : Env w a) (ht : t.size ≤ 140737488355328) (hs : s.size ≤ maxLen) :
    Calls Tryz.prog 3 #[.string t, .agg #[.bool n, .string s, .int .i64 e]] w fun r w' => r = .returned (.bool true) ∧ Below w.heap.size w w' := by
  have htm : t.size ≤ maxLen := by unfold maxLen; omega
  have c1 := fun w hE => parse_any t a w hE htm
  have c2 := fun w => rparse_any t w ht
  have c3 := fun w hT => text_any n s e w hs hT
  have c4 := fun w hT => rtext3_any n s e w hs hT
  have c5 := fun w => Small_any n s e w hs
  have c6 := fun w => rSmall_any n s e w hs
  have c7 := fun w => check_any n s e w hs
  have c8 := fun w => rcheck_any n s e w hs
  have c9 := fun w => whole_any n s e w hs
  have c0 := fun w => rwhole_any n s e w hs
  have ch := fun w hE => heads3_any a w hE
  have hq := fun w => eqIn_dec (parseL t.data.toList).2.neg (bs (parseL t.data.toList).2.dg) (parseL t.data.toList).2.ex (parseL t.data.toList).2.neg (bs (parseL t.data.toList).2.dg) (parseL t.data.toList).2.ex w
  rw [eq_same] at hq
  unfold d3 at c1 c2
  generalize (parseL t.data.toList).2.neg = pn at *
  generalize bs (parseL t.data.toList).2.dg = pd at *
  generalize (parseL t.data.toList).2.ex = pe at *
  generalize (parseL t.data.toList).1 = pk at *
  generalize bs (if goodB n s e = true then textL ⟨n, s.data.toList, e⟩ else []) = TT at *
  generalize errB (goodB n s e) = EE at *
  generalize (smallR n s e).1 = S1 at *
  generalize (smallR n s e).2 = S2 at *
  generalize wholeB n s e = WB at *
  clear hs ht htm
  obtain ⟨X0, hX0⟩ : ∃ X, X = w.alloc (.cells #[.bool n, .string s, .int .i64 e] 23) := ⟨_, rfl⟩
  have hE0 : Env X0 a := by rw [hX0]; exact hE.alloc _
  have hB0 : Below w.heap.size w X0 := by rw [hX0]; exact bl_a (Below.refl _ _) _
  have kd : ∀ w', Below X0.heap.size X0 w' → (∀ o, w'.cell? ⟨w.heap.size, o, none⟩ = #[Value.bool n, .string s, .int .i64 e][o]?) ∧ w.heap.size < w'.heap.size := fun w' hb => by
    rw [hX0] at hb
    exact keep1w hb
  have HX0 : Hid (X0 = w.alloc (.cells #[.bool n, .string s, .int .i64 e] 23)) := hX0
  clear hE
  go_enter Tryz.func3, Tryz.ntmps3
  go_wp2_with fail
  rw [← HX0.out]
  clear hX0
  refine (c1 _ hE0).mono ?_
  rintro r w1 ⟨rfl, hb1⟩
  obtain ⟨k1, z1⟩ := kd _ hb1
  go_wp2_with fail
  refine (c2 _).mono ?_
  rintro r w2 ⟨rfl, hb2⟩
  obtain ⟨ka2, za2⟩ := keep1w hb2
  have B2 : Below X0.heap.size X0 w2 := bl_t (bl_a hb1 _) hb2
  obtain ⟨k2, z2⟩ := kd _ B2
  have B2b : Below X0.heap.size X0 (w2.alloc (.cells #[.bool pn, .string pd, .int .i64 pe] 23)) := bl_a B2 _
  clear k1 z1
  go_wp2_with fail
  refine (c3 _ (hE0.below B2b).tab).mono ?_
  rintro r w3 ⟨rfl, hb3⟩
  have B3 : Below X0.heap.size X0 w3 := bl_t B2b hb3
  obtain ⟨k3, z3⟩ := kd _ B3
  clear k2 z2
  go_wp2_with fail
  refine (c4 _ (hE0.below B3).tab).mono ?_
  rintro r w4 ⟨rfl, hb4⟩
  have B4 : Below X0.heap.size X0 w4 := bl_t B3 hb4
  obtain ⟨k4, z4⟩ := kd _ B4
  clear k3 z3
  go_wp2_with fail
  refine (c5 _).mono ?_
  rintro r w5 ⟨rfl, hb5⟩
  have B5 : Below X0.heap.size X0 w5 := bl_t B4 hb5
  obtain ⟨k5, z5⟩ := kd _ B5
  clear k4 z4
  go_wp2_with fail
  refine (c6 _).mono ?_
  rintro r w6 ⟨rfl, hb6⟩
  have B6 : Below X0.heap.size X0 w6 := bl_t B5 hb6
  obtain ⟨k6, z6⟩ := kd _ B6
  clear k5 z5
  have b36 := bl_t (bl_t (bl_t hb3 hb4) hb5) hb6
  obtain ⟨kb6, zb6⟩ := keep1w b36
  obtain ⟨ka6, za6⟩ := keep1w (bl_t (bl_a hb2 _) b36)
  clear b36 ka2 za2
  have hS : ∀ w', Below w6.heap.size w6 w' → (∀ o, w'.cell? ⟨w.heap.size, o, none⟩ = #[Value.bool n, .string s, .int .i64 e][o]?) ∧ (∀ o, w'.cell? ⟨w1.heap.size, o, none⟩ = #[Value.bool pn, .string pd, .int .i64 pe][o]?) ∧ (∀ o, w'.cell? ⟨w2.heap.size, o, none⟩ = #[Value.bool pn, .string pd, .int .i64 pe][o]?) := fun w' hb =>
    ⟨fun o => by rw [hb.cell (p := ⟨w.heap.size, o, none⟩) z6]; exact k6 o, fun o => by rw [hb.cell (p := ⟨w1.heap.size, o, none⟩) za6]; exact ka6 o, fun o => by rw [hb.cell (p := ⟨w2.heap.size, o, none⟩) zb6]; exact kb6 o⟩
  have hE6 : Env w6 a := hE0.below B6
  have HB6 : Hid (Below X0.heap.size X0 w6) := B6
  clear c1 c2 c3 c4 c5 c6 hb1 hb2 hb3 hb4 hb5 hb6 B2 B2b B3 B4 B5 kd hE0 B6
  go_wp2_with fail
  go_region_held3 (fun w' => (∀ o, w'.cell? ⟨w.heap.size, o, none⟩ = #[Value.bool n, .string s, .int .i64 e][o]?) ∧ (∀ o, w'.cell? ⟨w1.heap.size, o, none⟩ = #[Value.bool pn, .string pd, .int .i64 pe][o]?) ∧ (∀ o, w'.cell? ⟨w2.heap.size, o, none⟩ = #[Value.bool pn, .string pd, .int .i64 pe][o]?)) (first | (refine hS _ ?_; with_reducible repeat (first | exact Below.refl _ _ | refine bl_t ?_ hc5 | refine bl_t ?_ hc4 | refine bl_t ?_ hc3 | refine bl_t ?_ hc2 | refine bl_t ?_ hc1 | refine bl_d ?_ | refine bl_n ?_ _ | refine bl_a ?_ _)) | fail) (first | (go_at_call 12; refine (c7 _).mono ?_; rintro r w7 ⟨rfl, hc1⟩) | (go_at_call 13; refine (c8 _).mono ?_; rintro r w8 ⟨rfl, hc2⟩) | (go_at_call 14; refine (c9 _).mono ?_; rintro r w9 ⟨rfl, hc3⟩) | (go_at_call 15; refine (c0 _).mono ?_; rintro r w10 ⟨rfl, hc4⟩) | (go_at_call 16; refine (ch _ (hE6.below (by with_reducible repeat (first | exact Below.refl _ _ | refine bl_t ?_ hc5 | refine bl_t ?_ hc4 | refine bl_t ?_ hc3 | refine bl_t ?_ hc2 | refine bl_t ?_ hc1 | refine bl_d ?_ | refine bl_n ?_ _ | refine bl_a ?_ _)))).mono ?_; rintro r w11 ⟨rfl, hc5⟩) | fail)
  all_goals
    go_wp2
    go_ret
    exact ⟨rfl, bl_t hB0 (bl_t HB6.out (by with_reducible repeat (first | exact Below.refl _ _ | refine bl_t ?_ hc5 | refine bl_t ?_ hc4 | refine bl_t ?_ hc3 | refine bl_t ?_ hc2 | refine bl_t ?_ hc1 | refine bl_d ?_ | refine bl_n ?_ _ | refine bl_a ?_ _)))⟩
end Go.Proofs.YtfhapeinfhjihaaGreatDoor
