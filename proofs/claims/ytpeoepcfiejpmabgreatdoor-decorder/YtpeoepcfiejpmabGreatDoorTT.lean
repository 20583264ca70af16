/-
  DecOrder's walk where no digits are missing. Conditions: what dec.Check and dec.Compare answer.
  DecOrder's walk where digits are missing. Conditions: what dec.Check and dec.Compare answer.
  DecOrder's walk where digits are missing. Conditions: what dec.Check and dec.Compare answer.
  DecOrder's walk where digits are missing. Conditions: what dec.Check and dec.Compare answer.
-/
import Derived.Test.YtpeoepcfiejpmabGreatDoorT2a
namespace Go.Proofs.YtpeoepcfiejpmabGreatDoor
open Go.RowKit
attribute [local go_sem] setCell_drewN alloc_drewN

set_option maxRecDepth 100000 in
set_option maxHeartbeats 3200000 in
theorem ord_main00 (n1 n2 n3 m1 m2 : Bool) (s1 s2 s3 : ByteArray) (e1 e2 e3 x z u : Int) (a : Addr) (w : World) (hE : Env w a) (q1 : s1.toList.isEmpty = false) (q2 : s2.toList.isEmpty = false) (hm1 : m1 = !n1) (hm2 : m2 = !n2)
    (f1 : x ≤ 0 → z ≤ 0 → ¬ 0 < u) (f2 : x < 0 → z < 0 → ¬ 0 ≤ u) (f3 : -1 ≤ x ∧ x ≤ 1)
    (h1 : ∀ w, Calls Tryz.prog 13 #[.agg #[.bool n1, .string s1, .int .i64 e1]] w fun r w' => r = .returned (.int .i64 0) ∧ Below w.heap.size w w')
    (h2 : ∀ w, Calls Tryz.prog 13 #[.agg #[.bool n2, .string s2, .int .i64 e2]] w fun r w' => r = .returned (.int .i64 0) ∧ Below w.heap.size w w')
    (h3 : ∀ w, Calls Tryz.prog 13 #[.agg #[.bool n3, .string s3, .int .i64 e3]] w fun r w' => r = .returned (.int .i64 0) ∧ Below w.heap.size w w')
    (c1 : ∀ w, Calls Tryz.prog 18 #[.agg #[.bool n1, .string s1, .int .i64 e1], .agg #[.bool n2, .string s2, .int .i64 e2]] w fun r w' => r = .returned (.tuple #[.int .i64 x, .int .i64 0]) ∧ Below w.heap.size w w')
    (c2 : ∀ w, Calls Tryz.prog 18 #[.agg #[.bool n2, .string s2, .int .i64 e2], .agg #[.bool n1, .string s1, .int .i64 e1]] w fun r w' => r = .returned (.tuple #[.int .i64 (-x), .int .i64 0]) ∧ Below w.heap.size w w')
    (c3 : ∀ w, Calls Tryz.prog 18 #[.agg #[.bool n2, .string s2, .int .i64 e2], .agg #[.bool n3, .string s3, .int .i64 e3]] w fun r w' => r = .returned (.tuple #[.int .i64 z, .int .i64 0]) ∧ Below w.heap.size w w')
    (c4 : ∀ w, Calls Tryz.prog 18 #[.agg #[.bool n1, .string s1, .int .i64 e1], .agg #[.bool n3, .string s3, .int .i64 e3]] w fun r w' => r = .returned (.tuple #[.int .i64 u, .int .i64 0]) ∧ Below w.heap.size w w')
    (c5 : ∀ w, Calls Tryz.prog 18 #[.agg #[.bool m1, .string s1, .int .i64 e1], .agg #[.bool m2, .string s2, .int .i64 e2]] w fun r w' => r = .returned (.tuple #[.int .i64 (-x), .int .i64 0]) ∧ Below w.heap.size w w') :
    Calls Tryz.prog 6 #[.agg #[.bool n1, .string s1, .int .i64 e1], .agg #[.bool n2, .string s2, .int .i64 e2], .agg #[.bool n3, .string s3, .int .i64 e3]] w fun r w' => r = .returned (.bool true) ∧ Below w.heap.size w w' := by
  have h7 := fun w hE => heads3_any a w hE
  subst hm1
  subst hm2
  have F1 : Hid (x ≤ 0 → z ≤ 0 → ¬ 0 < u) := f1
  have F2 : Hid (x < 0 → z < 0 → ¬ 0 ≤ u) := f2
  clear f1 f2
  go_enter Tryz.func6, Tryz.ntmps6
  go_wp2_with fail
  refine (h1 _).mono ?_
  rintro r w1 ⟨rfl, hb1⟩
  have hA1 : Below (((w.alloc (.cells #[.bool n1, .string s1, .int .i64 e1] 23)).alloc (.cells #[.bool n2, .string s2, .int .i64 e2] 23)).alloc (.cells #[.bool n3, .string s3, .int .i64 e3] 23)).heap.size (((w.alloc (.cells #[.bool n1, .string s1, .int .i64 e1] 23)).alloc (.cells #[.bool n2, .string s2, .int .i64 e2] 23)).alloc (.cells #[.bool n3, .string s3, .int .i64 e3] 23)) w1 := bl_t (Below.refl _ _) hb1
  obtain ⟨ka1, kb1, kc1, za1, zb1⟩ := keep3 hA1
  go_wp2_with fail
  refine (h2 _).mono ?_
  rintro r w2 ⟨rfl, hb2⟩
  have hA2 : Below (((w.alloc (.cells #[.bool n1, .string s1, .int .i64 e1] 23)).alloc (.cells #[.bool n2, .string s2, .int .i64 e2] 23)).alloc (.cells #[.bool n3, .string s3, .int .i64 e3] 23)).heap.size (((w.alloc (.cells #[.bool n1, .string s1, .int .i64 e1] 23)).alloc (.cells #[.bool n2, .string s2, .int .i64 e2] 23)).alloc (.cells #[.bool n3, .string s3, .int .i64 e3] 23)) w2 := bl_t hA1 hb2
  obtain ⟨ka2, kb2, kc2, za2, zb2⟩ := keep3 hA2
  clear ka1 kb1 kc1 za1 zb1
  go_wp2_with fail
  refine (h3 _).mono ?_
  rintro r w3 ⟨rfl, hb3⟩
  have hA3 : Below (((w.alloc (.cells #[.bool n1, .string s1, .int .i64 e1] 23)).alloc (.cells #[.bool n2, .string s2, .int .i64 e2] 23)).alloc (.cells #[.bool n3, .string s3, .int .i64 e3] 23)).heap.size (((w.alloc (.cells #[.bool n1, .string s1, .int .i64 e1] 23)).alloc (.cells #[.bool n2, .string s2, .int .i64 e2] 23)).alloc (.cells #[.bool n3, .string s3, .int .i64 e3] 23)) w3 := bl_t hA2 hb3
  obtain ⟨ka3, kb3, kc3, za3, zb3⟩ := keep3 hA3
  clear ka2 kb2 kc2 za2 zb2
  go_wp2_with fail
  refine (c1 _).mono ?_
  rintro r w4 ⟨rfl, hb4⟩
  have hA4 : Below (((w.alloc (.cells #[.bool n1, .string s1, .int .i64 e1] 23)).alloc (.cells #[.bool n2, .string s2, .int .i64 e2] 23)).alloc (.cells #[.bool n3, .string s3, .int .i64 e3] 23)).heap.size (((w.alloc (.cells #[.bool n1, .string s1, .int .i64 e1] 23)).alloc (.cells #[.bool n2, .string s2, .int .i64 e2] 23)).alloc (.cells #[.bool n3, .string s3, .int .i64 e3] 23)) w4 := bl_t hA3 hb4
  obtain ⟨ka4, kb4, kc4, za4, zb4⟩ := keep3 hA4
  clear ka3 kb3 kc3 za3 zb3
  go_wp2_with fail
  refine (c2 _).mono ?_
  rintro r w5 ⟨rfl, hb5⟩
  have hA5 : Below (((w.alloc (.cells #[.bool n1, .string s1, .int .i64 e1] 23)).alloc (.cells #[.bool n2, .string s2, .int .i64 e2] 23)).alloc (.cells #[.bool n3, .string s3, .int .i64 e3] 23)).heap.size (((w.alloc (.cells #[.bool n1, .string s1, .int .i64 e1] 23)).alloc (.cells #[.bool n2, .string s2, .int .i64 e2] 23)).alloc (.cells #[.bool n3, .string s3, .int .i64 e3] 23)) w5 := bl_t hA4 hb5
  obtain ⟨ka5, kb5, kc5, za5, zb5⟩ := keep3 hA5
  clear ka4 kb4 kc4 za4 zb4
  go_wp2_with fail
  refine (c3 _).mono ?_
  rintro r w6 ⟨rfl, hb6⟩
  have hA6 : Below (((w.alloc (.cells #[.bool n1, .string s1, .int .i64 e1] 23)).alloc (.cells #[.bool n2, .string s2, .int .i64 e2] 23)).alloc (.cells #[.bool n3, .string s3, .int .i64 e3] 23)).heap.size (((w.alloc (.cells #[.bool n1, .string s1, .int .i64 e1] 23)).alloc (.cells #[.bool n2, .string s2, .int .i64 e2] 23)).alloc (.cells #[.bool n3, .string s3, .int .i64 e3] 23)) w6 := bl_t hA5 hb6
  obtain ⟨ka6, kb6, kc6, za6, zb6⟩ := keep3 hA6
  clear ka5 kb5 kc5 za5 zb5
  go_wp2_with fail
  refine (c4 _).mono ?_
  rintro r w7 ⟨rfl, hb7⟩
  have hA7 : Below (((w.alloc (.cells #[.bool n1, .string s1, .int .i64 e1] 23)).alloc (.cells #[.bool n2, .string s2, .int .i64 e2] 23)).alloc (.cells #[.bool n3, .string s3, .int .i64 e3] 23)).heap.size (((w.alloc (.cells #[.bool n1, .string s1, .int .i64 e1] 23)).alloc (.cells #[.bool n2, .string s2, .int .i64 e2] 23)).alloc (.cells #[.bool n3, .string s3, .int .i64 e3] 23)) w7 := bl_t hA6 hb7
  obtain ⟨ka7, kb7, kc7, za7, zb7⟩ := keep3 hA7
  clear ka6 kb6 kc6 za6 zb6
  go_upto_region 7 with fail
  go_cut [78] (fun s78 wx => s78 = .bool false ∧ wx = w7)
  case first =>
    go_wp2_with fail
    all_goals go_meet
    all_goals (refine ⟨?_, ?_⟩)
    all_goals first | rfl | skip
    all_goals (have fa := F1.out; have fb := F2.out)
    all_goals first
      | (exfalso; omega)
      | (rw [decide_eq_false (show ¬ 0 < u by omega), decide_eq_false (show ¬ 0 ≤ u by omega)]; rfl)
      | (rw [decide_eq_false (show ¬ 0 < u by omega)])
  case rest =>
    obtain ⟨rfl, rfl⟩ := hcut
    clear F1 F2
    go_wp2_with fail
    refine (c5 _).mono ?_
    rintro r w8 ⟨rfl, hb8⟩
    have hA8 := bl_t (bl_a (bl_a hA7 _) _) hb8
    go_wp2_with fail
    refine (h7 _ ((((hE.alloc _).alloc _).alloc _).below hA8)).mono ?_
    rintro r w9 ⟨rfl, hb9⟩
    go_wp2
    go_ret
    exact ⟨rfl, bl_t (bl_a (bl_a (bl_a (Below.refl _ _) _) _) _) (bl_t hA8 hb9)⟩

end Go.Proofs.YtpeoepcfiejpmabGreatDoor

namespace Go.Proofs.YtpeoepcfiejpmabGreatDoor
open Go.RowKit
attribute [local go_sem] setCell_drewN alloc_drewN

set_option maxRecDepth 100000 in
set_option maxHeartbeats 3200000 in
theorem ord_main01 (n1 n2 n3 : Bool) (s1 s2 s3 : ByteArray) (e1 e2 e3 x z u : Int) (a : Addr) (w : World) (hE : Env w a) (q1 : s1.toList.isEmpty = false) (q2 : s2.toList.isEmpty = true)
    (f1 : x ≤ 0 → z ≤ 0 → ¬ 0 < u) (f2 : x < 0 → z < 0 → ¬ 0 ≤ u) (f3 : -1 ≤ x ∧ x ≤ 1)
    (h1 : ∀ w, Calls Tryz.prog 13 #[.agg #[.bool n1, .string s1, .int .i64 e1]] w fun r w' => r = .returned (.int .i64 0) ∧ Below w.heap.size w w')
    (h2 : ∀ w, Calls Tryz.prog 13 #[.agg #[.bool n2, .string s2, .int .i64 e2]] w fun r w' => r = .returned (.int .i64 0) ∧ Below w.heap.size w w')
    (h3 : ∀ w, Calls Tryz.prog 13 #[.agg #[.bool n3, .string s3, .int .i64 e3]] w fun r w' => r = .returned (.int .i64 0) ∧ Below w.heap.size w w')
    (c1 : ∀ w, Calls Tryz.prog 18 #[.agg #[.bool n1, .string s1, .int .i64 e1], .agg #[.bool n2, .string s2, .int .i64 e2]] w fun r w' => r = .returned (.tuple #[.int .i64 x, .int .i64 0]) ∧ Below w.heap.size w w')
    (c2 : ∀ w, Calls Tryz.prog 18 #[.agg #[.bool n2, .string s2, .int .i64 e2], .agg #[.bool n1, .string s1, .int .i64 e1]] w fun r w' => r = .returned (.tuple #[.int .i64 (-x), .int .i64 0]) ∧ Below w.heap.size w w')
    (c3 : ∀ w, Calls Tryz.prog 18 #[.agg #[.bool n2, .string s2, .int .i64 e2], .agg #[.bool n3, .string s3, .int .i64 e3]] w fun r w' => r = .returned (.tuple #[.int .i64 z, .int .i64 0]) ∧ Below w.heap.size w w')
    (c4 : ∀ w, Calls Tryz.prog 18 #[.agg #[.bool n1, .string s1, .int .i64 e1], .agg #[.bool n3, .string s3, .int .i64 e3]] w fun r w' => r = .returned (.tuple #[.int .i64 u, .int .i64 0]) ∧ Below w.heap.size w w')
    (c5 : ∀ w, Calls Tryz.prog 18 #[.agg #[.bool (!n1), .string s1, .int .i64 e1], .agg #[.bool n2, .string s2, .int .i64 e2]] w fun r w' => r = .returned (.tuple #[.int .i64 (-x), .int .i64 0]) ∧ Below w.heap.size w w') :
    Calls Tryz.prog 6 #[.agg #[.bool n1, .string s1, .int .i64 e1], .agg #[.bool n2, .string s2, .int .i64 e2], .agg #[.bool n3, .string s3, .int .i64 e3]] w fun r w' => r = .returned (.bool true) ∧ Below w.heap.size w w' := by
  have h7 := fun w hE => heads3_any a w hE
  have F1 : Hid (x ≤ 0 → z ≤ 0 → ¬ 0 < u) := f1
  have F2 : Hid (x < 0 → z < 0 → ¬ 0 ≤ u) := f2
  clear f1 f2
  go_enter Tryz.func6, Tryz.ntmps6
  go_wp2_with fail
  refine (h1 _).mono ?_
  rintro r w1 ⟨rfl, hb1⟩
  have hA1 : Below (((w.alloc (.cells #[.bool n1, .string s1, .int .i64 e1] 23)).alloc (.cells #[.bool n2, .string s2, .int .i64 e2] 23)).alloc (.cells #[.bool n3, .string s3, .int .i64 e3] 23)).heap.size (((w.alloc (.cells #[.bool n1, .string s1, .int .i64 e1] 23)).alloc (.cells #[.bool n2, .string s2, .int .i64 e2] 23)).alloc (.cells #[.bool n3, .string s3, .int .i64 e3] 23)) w1 := bl_t (Below.refl _ _) hb1
  obtain ⟨ka1, kb1, kc1, za1, zb1⟩ := keep3 hA1
  go_wp2_with fail
  refine (h2 _).mono ?_
  rintro r w2 ⟨rfl, hb2⟩
  have hA2 : Below (((w.alloc (.cells #[.bool n1, .string s1, .int .i64 e1] 23)).alloc (.cells #[.bool n2, .string s2, .int .i64 e2] 23)).alloc (.cells #[.bool n3, .string s3, .int .i64 e3] 23)).heap.size (((w.alloc (.cells #[.bool n1, .string s1, .int .i64 e1] 23)).alloc (.cells #[.bool n2, .string s2, .int .i64 e2] 23)).alloc (.cells #[.bool n3, .string s3, .int .i64 e3] 23)) w2 := bl_t hA1 hb2
  obtain ⟨ka2, kb2, kc2, za2, zb2⟩ := keep3 hA2
  clear ka1 kb1 kc1 za1 zb1
  go_wp2_with fail
  refine (h3 _).mono ?_
  rintro r w3 ⟨rfl, hb3⟩
  have hA3 : Below (((w.alloc (.cells #[.bool n1, .string s1, .int .i64 e1] 23)).alloc (.cells #[.bool n2, .string s2, .int .i64 e2] 23)).alloc (.cells #[.bool n3, .string s3, .int .i64 e3] 23)).heap.size (((w.alloc (.cells #[.bool n1, .string s1, .int .i64 e1] 23)).alloc (.cells #[.bool n2, .string s2, .int .i64 e2] 23)).alloc (.cells #[.bool n3, .string s3, .int .i64 e3] 23)) w3 := bl_t hA2 hb3
  obtain ⟨ka3, kb3, kc3, za3, zb3⟩ := keep3 hA3
  clear ka2 kb2 kc2 za2 zb2
  go_wp2_with fail
  refine (c1 _).mono ?_
  rintro r w4 ⟨rfl, hb4⟩
  have hA4 : Below (((w.alloc (.cells #[.bool n1, .string s1, .int .i64 e1] 23)).alloc (.cells #[.bool n2, .string s2, .int .i64 e2] 23)).alloc (.cells #[.bool n3, .string s3, .int .i64 e3] 23)).heap.size (((w.alloc (.cells #[.bool n1, .string s1, .int .i64 e1] 23)).alloc (.cells #[.bool n2, .string s2, .int .i64 e2] 23)).alloc (.cells #[.bool n3, .string s3, .int .i64 e3] 23)) w4 := bl_t hA3 hb4
  obtain ⟨ka4, kb4, kc4, za4, zb4⟩ := keep3 hA4
  clear ka3 kb3 kc3 za3 zb3
  go_wp2_with fail
  refine (c2 _).mono ?_
  rintro r w5 ⟨rfl, hb5⟩
  have hA5 : Below (((w.alloc (.cells #[.bool n1, .string s1, .int .i64 e1] 23)).alloc (.cells #[.bool n2, .string s2, .int .i64 e2] 23)).alloc (.cells #[.bool n3, .string s3, .int .i64 e3] 23)).heap.size (((w.alloc (.cells #[.bool n1, .string s1, .int .i64 e1] 23)).alloc (.cells #[.bool n2, .string s2, .int .i64 e2] 23)).alloc (.cells #[.bool n3, .string s3, .int .i64 e3] 23)) w5 := bl_t hA4 hb5
  obtain ⟨ka5, kb5, kc5, za5, zb5⟩ := keep3 hA5
  clear ka4 kb4 kc4 za4 zb4
  go_wp2_with fail
  refine (c3 _).mono ?_
  rintro r w6 ⟨rfl, hb6⟩
  have hA6 : Below (((w.alloc (.cells #[.bool n1, .string s1, .int .i64 e1] 23)).alloc (.cells #[.bool n2, .string s2, .int .i64 e2] 23)).alloc (.cells #[.bool n3, .string s3, .int .i64 e3] 23)).heap.size (((w.alloc (.cells #[.bool n1, .string s1, .int .i64 e1] 23)).alloc (.cells #[.bool n2, .string s2, .int .i64 e2] 23)).alloc (.cells #[.bool n3, .string s3, .int .i64 e3] 23)) w6 := bl_t hA5 hb6
  obtain ⟨ka6, kb6, kc6, za6, zb6⟩ := keep3 hA6
  clear ka5 kb5 kc5 za5 zb5
  go_wp2_with fail
  refine (c4 _).mono ?_
  rintro r w7 ⟨rfl, hb7⟩
  have hA7 : Below (((w.alloc (.cells #[.bool n1, .string s1, .int .i64 e1] 23)).alloc (.cells #[.bool n2, .string s2, .int .i64 e2] 23)).alloc (.cells #[.bool n3, .string s3, .int .i64 e3] 23)).heap.size (((w.alloc (.cells #[.bool n1, .string s1, .int .i64 e1] 23)).alloc (.cells #[.bool n2, .string s2, .int .i64 e2] 23)).alloc (.cells #[.bool n3, .string s3, .int .i64 e3] 23)) w7 := bl_t hA6 hb7
  obtain ⟨ka7, kb7, kc7, za7, zb7⟩ := keep3 hA7
  clear ka6 kb6 kc6 za6 zb6
  go_upto_region 7 with fail
  go_cut [78] (fun s78 wx => s78 = .bool false ∧ wx = w7)
  case first =>
    go_wp2_with fail
    all_goals go_meet
    all_goals (refine ⟨?_, ?_⟩)
    all_goals first | rfl | skip
    all_goals (have fa := F1.out; have fb := F2.out)
    all_goals first
      | (exfalso; omega)
      | (rw [decide_eq_false (show ¬ 0 < u by omega), decide_eq_false (show ¬ 0 ≤ u by omega)]; rfl)
      | (rw [decide_eq_false (show ¬ 0 < u by omega)])
  case rest =>
    obtain ⟨rfl, rfl⟩ := hcut
    clear F1 F2
    go_wp2_with fail
    refine (c5 _).mono ?_
    rintro r w8 ⟨rfl, hb8⟩
    have hA8 := bl_t (bl_a (bl_a hA7 _) _) hb8
    go_wp2_with fail
    refine (h7 _ ((((hE.alloc _).alloc _).alloc _).below hA8)).mono ?_
    rintro r w9 ⟨rfl, hb9⟩
    go_wp2
    go_ret
    exact ⟨rfl, bl_t (bl_a (bl_a (bl_a (Below.refl _ _) _) _) _) (bl_t hA8 hb9)⟩

end Go.Proofs.YtpeoepcfiejpmabGreatDoor

namespace Go.Proofs.YtpeoepcfiejpmabGreatDoor
open Go.RowKit
attribute [local go_sem] setCell_drewN alloc_drewN

set_option maxRecDepth 100000 in
set_option maxHeartbeats 3200000 in
theorem ord_main10 (n1 n2 n3 : Bool) (s1 s2 s3 : ByteArray) (e1 e2 e3 x z u : Int) (a : Addr) (w : World) (hE : Env w a) (q1 : s1.toList.isEmpty = true) (q2 : s2.toList.isEmpty = false)
    (f1 : x ≤ 0 → z ≤ 0 → ¬ 0 < u) (f2 : x < 0 → z < 0 → ¬ 0 ≤ u) (f3 : -1 ≤ x ∧ x ≤ 1)
    (h1 : ∀ w, Calls Tryz.prog 13 #[.agg #[.bool n1, .string s1, .int .i64 e1]] w fun r w' => r = .returned (.int .i64 0) ∧ Below w.heap.size w w')
    (h2 : ∀ w, Calls Tryz.prog 13 #[.agg #[.bool n2, .string s2, .int .i64 e2]] w fun r w' => r = .returned (.int .i64 0) ∧ Below w.heap.size w w')
    (h3 : ∀ w, Calls Tryz.prog 13 #[.agg #[.bool n3, .string s3, .int .i64 e3]] w fun r w' => r = .returned (.int .i64 0) ∧ Below w.heap.size w w')
    (c1 : ∀ w, Calls Tryz.prog 18 #[.agg #[.bool n1, .string s1, .int .i64 e1], .agg #[.bool n2, .string s2, .int .i64 e2]] w fun r w' => r = .returned (.tuple #[.int .i64 x, .int .i64 0]) ∧ Below w.heap.size w w')
    (c2 : ∀ w, Calls Tryz.prog 18 #[.agg #[.bool n2, .string s2, .int .i64 e2], .agg #[.bool n1, .string s1, .int .i64 e1]] w fun r w' => r = .returned (.tuple #[.int .i64 (-x), .int .i64 0]) ∧ Below w.heap.size w w')
    (c3 : ∀ w, Calls Tryz.prog 18 #[.agg #[.bool n2, .string s2, .int .i64 e2], .agg #[.bool n3, .string s3, .int .i64 e3]] w fun r w' => r = .returned (.tuple #[.int .i64 z, .int .i64 0]) ∧ Below w.heap.size w w')
    (c4 : ∀ w, Calls Tryz.prog 18 #[.agg #[.bool n1, .string s1, .int .i64 e1], .agg #[.bool n3, .string s3, .int .i64 e3]] w fun r w' => r = .returned (.tuple #[.int .i64 u, .int .i64 0]) ∧ Below w.heap.size w w')
    (c5 : ∀ w, Calls Tryz.prog 18 #[.agg #[.bool n1, .string s1, .int .i64 e1], .agg #[.bool (!n2), .string s2, .int .i64 e2]] w fun r w' => r = .returned (.tuple #[.int .i64 (-x), .int .i64 0]) ∧ Below w.heap.size w w') :
    Calls Tryz.prog 6 #[.agg #[.bool n1, .string s1, .int .i64 e1], .agg #[.bool n2, .string s2, .int .i64 e2], .agg #[.bool n3, .string s3, .int .i64 e3]] w fun r w' => r = .returned (.bool true) ∧ Below w.heap.size w w' := by
  have h7 := fun w hE => heads3_any a w hE
  have F1 : Hid (x ≤ 0 → z ≤ 0 → ¬ 0 < u) := f1
  have F2 : Hid (x < 0 → z < 0 → ¬ 0 ≤ u) := f2
  clear f1 f2
  go_enter Tryz.func6, Tryz.ntmps6
  go_wp2_with fail
  refine (h1 _).mono ?_
  rintro r w1 ⟨rfl, hb1⟩
  have hA1 : Below (((w.alloc (.cells #[.bool n1, .string s1, .int .i64 e1] 23)).alloc (.cells #[.bool n2, .string s2, .int .i64 e2] 23)).alloc (.cells #[.bool n3, .string s3, .int .i64 e3] 23)).heap.size (((w.alloc (.cells #[.bool n1, .string s1, .int .i64 e1] 23)).alloc (.cells #[.bool n2, .string s2, .int .i64 e2] 23)).alloc (.cells #[.bool n3, .string s3, .int .i64 e3] 23)) w1 := bl_t (Below.refl _ _) hb1
  obtain ⟨ka1, kb1, kc1, za1, zb1⟩ := keep3 hA1
  go_wp2_with fail
  refine (h2 _).mono ?_
  rintro r w2 ⟨rfl, hb2⟩
  have hA2 : Below (((w.alloc (.cells #[.bool n1, .string s1, .int .i64 e1] 23)).alloc (.cells #[.bool n2, .string s2, .int .i64 e2] 23)).alloc (.cells #[.bool n3, .string s3, .int .i64 e3] 23)).heap.size (((w.alloc (.cells #[.bool n1, .string s1, .int .i64 e1] 23)).alloc (.cells #[.bool n2, .string s2, .int .i64 e2] 23)).alloc (.cells #[.bool n3, .string s3, .int .i64 e3] 23)) w2 := bl_t hA1 hb2
  obtain ⟨ka2, kb2, kc2, za2, zb2⟩ := keep3 hA2
  clear ka1 kb1 kc1 za1 zb1
  go_wp2_with fail
  refine (h3 _).mono ?_
  rintro r w3 ⟨rfl, hb3⟩
  have hA3 : Below (((w.alloc (.cells #[.bool n1, .string s1, .int .i64 e1] 23)).alloc (.cells #[.bool n2, .string s2, .int .i64 e2] 23)).alloc (.cells #[.bool n3, .string s3, .int .i64 e3] 23)).heap.size (((w.alloc (.cells #[.bool n1, .string s1, .int .i64 e1] 23)).alloc (.cells #[.bool n2, .string s2, .int .i64 e2] 23)).alloc (.cells #[.bool n3, .string s3, .int .i64 e3] 23)) w3 := bl_t hA2 hb3
  obtain ⟨ka3, kb3, kc3, za3, zb3⟩ := keep3 hA3
  clear ka2 kb2 kc2 za2 zb2
  go_wp2_with fail
  refine (c1 _).mono ?_
  rintro r w4 ⟨rfl, hb4⟩
  have hA4 : Below (((w.alloc (.cells #[.bool n1, .string s1, .int .i64 e1] 23)).alloc (.cells #[.bool n2, .string s2, .int .i64 e2] 23)).alloc (.cells #[.bool n3, .string s3, .int .i64 e3] 23)).heap.size (((w.alloc (.cells #[.bool n1, .string s1, .int .i64 e1] 23)).alloc (.cells #[.bool n2, .string s2, .int .i64 e2] 23)).alloc (.cells #[.bool n3, .string s3, .int .i64 e3] 23)) w4 := bl_t hA3 hb4
  obtain ⟨ka4, kb4, kc4, za4, zb4⟩ := keep3 hA4
  clear ka3 kb3 kc3 za3 zb3
  go_wp2_with fail
  refine (c2 _).mono ?_
  rintro r w5 ⟨rfl, hb5⟩
  have hA5 : Below (((w.alloc (.cells #[.bool n1, .string s1, .int .i64 e1] 23)).alloc (.cells #[.bool n2, .string s2, .int .i64 e2] 23)).alloc (.cells #[.bool n3, .string s3, .int .i64 e3] 23)).heap.size (((w.alloc (.cells #[.bool n1, .string s1, .int .i64 e1] 23)).alloc (.cells #[.bool n2, .string s2, .int .i64 e2] 23)).alloc (.cells #[.bool n3, .string s3, .int .i64 e3] 23)) w5 := bl_t hA4 hb5
  obtain ⟨ka5, kb5, kc5, za5, zb5⟩ := keep3 hA5
  clear ka4 kb4 kc4 za4 zb4
  go_wp2_with fail
  refine (c3 _).mono ?_
  rintro r w6 ⟨rfl, hb6⟩
  have hA6 : Below (((w.alloc (.cells #[.bool n1, .string s1, .int .i64 e1] 23)).alloc (.cells #[.bool n2, .string s2, .int .i64 e2] 23)).alloc (.cells #[.bool n3, .string s3, .int .i64 e3] 23)).heap.size (((w.alloc (.cells #[.bool n1, .string s1, .int .i64 e1] 23)).alloc (.cells #[.bool n2, .string s2, .int .i64 e2] 23)).alloc (.cells #[.bool n3, .string s3, .int .i64 e3] 23)) w6 := bl_t hA5 hb6
  obtain ⟨ka6, kb6, kc6, za6, zb6⟩ := keep3 hA6
  clear ka5 kb5 kc5 za5 zb5
  go_wp2_with fail
  refine (c4 _).mono ?_
  rintro r w7 ⟨rfl, hb7⟩
  have hA7 : Below (((w.alloc (.cells #[.bool n1, .string s1, .int .i64 e1] 23)).alloc (.cells #[.bool n2, .string s2, .int .i64 e2] 23)).alloc (.cells #[.bool n3, .string s3, .int .i64 e3] 23)).heap.size (((w.alloc (.cells #[.bool n1, .string s1, .int .i64 e1] 23)).alloc (.cells #[.bool n2, .string s2, .int .i64 e2] 23)).alloc (.cells #[.bool n3, .string s3, .int .i64 e3] 23)) w7 := bl_t hA6 hb7
  obtain ⟨ka7, kb7, kc7, za7, zb7⟩ := keep3 hA7
  clear ka6 kb6 kc6 za6 zb6
  go_upto_region 7 with fail
  go_cut [78] (fun s78 wx => s78 = .bool false ∧ wx = w7)
  case first =>
    go_wp2_with fail
    all_goals go_meet
    all_goals (refine ⟨?_, ?_⟩)
    all_goals first | rfl | skip
    all_goals (have fa := F1.out; have fb := F2.out)
    all_goals first
      | (exfalso; omega)
      | (rw [decide_eq_false (show ¬ 0 < u by omega), decide_eq_false (show ¬ 0 ≤ u by omega)]; rfl)
      | (rw [decide_eq_false (show ¬ 0 < u by omega)])
  case rest =>
    obtain ⟨rfl, rfl⟩ := hcut
    clear F1 F2
    go_wp2_with fail
    refine (c5 _).mono ?_
    rintro r w8 ⟨rfl, hb8⟩
    have hA8 := bl_t (bl_a (bl_a hA7 _) _) hb8
    go_wp2_with fail
    refine (h7 _ ((((hE.alloc _).alloc _).alloc _).below hA8)).mono ?_
    rintro r w9 ⟨rfl, hb9⟩
    go_wp2
    go_ret
    exact ⟨rfl, bl_t (bl_a (bl_a (bl_a (Below.refl _ _) _) _) _) (bl_t hA8 hb9)⟩

end Go.Proofs.YtpeoepcfiejpmabGreatDoor

namespace Go.Proofs.YtpeoepcfiejpmabGreatDoor
open Go.RowKit
attribute [local go_sem] setCell_drewN alloc_drewN

set_option maxRecDepth 100000 in
set_option maxHeartbeats 3200000 in
theorem ord_main11 (n1 n2 n3 : Bool) (s1 s2 s3 : ByteArray) (e1 e2 e3 x z u : Int) (a : Addr) (w : World) (hE : Env w a) (q1 : s1.toList.isEmpty = true) (q2 : s2.toList.isEmpty = true)
    (f1 : x ≤ 0 → z ≤ 0 → ¬ 0 < u) (f2 : x < 0 → z < 0 → ¬ 0 ≤ u) (f3 : -1 ≤ x ∧ x ≤ 1)
    (h1 : ∀ w, Calls Tryz.prog 13 #[.agg #[.bool n1, .string s1, .int .i64 e1]] w fun r w' => r = .returned (.int .i64 0) ∧ Below w.heap.size w w')
    (h2 : ∀ w, Calls Tryz.prog 13 #[.agg #[.bool n2, .string s2, .int .i64 e2]] w fun r w' => r = .returned (.int .i64 0) ∧ Below w.heap.size w w')
    (h3 : ∀ w, Calls Tryz.prog 13 #[.agg #[.bool n3, .string s3, .int .i64 e3]] w fun r w' => r = .returned (.int .i64 0) ∧ Below w.heap.size w w')
    (c1 : ∀ w, Calls Tryz.prog 18 #[.agg #[.bool n1, .string s1, .int .i64 e1], .agg #[.bool n2, .string s2, .int .i64 e2]] w fun r w' => r = .returned (.tuple #[.int .i64 x, .int .i64 0]) ∧ Below w.heap.size w w')
    (c2 : ∀ w, Calls Tryz.prog 18 #[.agg #[.bool n2, .string s2, .int .i64 e2], .agg #[.bool n1, .string s1, .int .i64 e1]] w fun r w' => r = .returned (.tuple #[.int .i64 (-x), .int .i64 0]) ∧ Below w.heap.size w w')
    (c3 : ∀ w, Calls Tryz.prog 18 #[.agg #[.bool n2, .string s2, .int .i64 e2], .agg #[.bool n3, .string s3, .int .i64 e3]] w fun r w' => r = .returned (.tuple #[.int .i64 z, .int .i64 0]) ∧ Below w.heap.size w w')
    (c4 : ∀ w, Calls Tryz.prog 18 #[.agg #[.bool n1, .string s1, .int .i64 e1], .agg #[.bool n3, .string s3, .int .i64 e3]] w fun r w' => r = .returned (.tuple #[.int .i64 u, .int .i64 0]) ∧ Below w.heap.size w w')
    (c5 : ∀ w, Calls Tryz.prog 18 #[.agg #[.bool n1, .string s1, .int .i64 e1], .agg #[.bool n2, .string s2, .int .i64 e2]] w fun r w' => r = .returned (.tuple #[.int .i64 (-x), .int .i64 0]) ∧ Below w.heap.size w w') :
    Calls Tryz.prog 6 #[.agg #[.bool n1, .string s1, .int .i64 e1], .agg #[.bool n2, .string s2, .int .i64 e2], .agg #[.bool n3, .string s3, .int .i64 e3]] w fun r w' => r = .returned (.bool true) ∧ Below w.heap.size w w' := by
  have h7 := fun w hE => heads3_any a w hE
  have F1 : Hid (x ≤ 0 → z ≤ 0 → ¬ 0 < u) := f1
  have F2 : Hid (x < 0 → z < 0 → ¬ 0 ≤ u) := f2
  clear f1 f2
  go_enter Tryz.func6, Tryz.ntmps6
  go_wp2_with fail
  refine (h1 _).mono ?_
  rintro r w1 ⟨rfl, hb1⟩
  have hA1 : Below (((w.alloc (.cells #[.bool n1, .string s1, .int .i64 e1] 23)).alloc (.cells #[.bool n2, .string s2, .int .i64 e2] 23)).alloc (.cells #[.bool n3, .string s3, .int .i64 e3] 23)).heap.size (((w.alloc (.cells #[.bool n1, .string s1, .int .i64 e1] 23)).alloc (.cells #[.bool n2, .string s2, .int .i64 e2] 23)).alloc (.cells #[.bool n3, .string s3, .int .i64 e3] 23)) w1 := bl_t (Below.refl _ _) hb1
  obtain ⟨ka1, kb1, kc1, za1, zb1⟩ := keep3 hA1
  go_wp2_with fail
  refine (h2 _).mono ?_
  rintro r w2 ⟨rfl, hb2⟩
  have hA2 : Below (((w.alloc (.cells #[.bool n1, .string s1, .int .i64 e1] 23)).alloc (.cells #[.bool n2, .string s2, .int .i64 e2] 23)).alloc (.cells #[.bool n3, .string s3, .int .i64 e3] 23)).heap.size (((w.alloc (.cells #[.bool n1, .string s1, .int .i64 e1] 23)).alloc (.cells #[.bool n2, .string s2, .int .i64 e2] 23)).alloc (.cells #[.bool n3, .string s3, .int .i64 e3] 23)) w2 := bl_t hA1 hb2
  obtain ⟨ka2, kb2, kc2, za2, zb2⟩ := keep3 hA2
  clear ka1 kb1 kc1 za1 zb1
  go_wp2_with fail
  refine (h3 _).mono ?_
  rintro r w3 ⟨rfl, hb3⟩
  have hA3 : Below (((w.alloc (.cells #[.bool n1, .string s1, .int .i64 e1] 23)).alloc (.cells #[.bool n2, .string s2, .int .i64 e2] 23)).alloc (.cells #[.bool n3, .string s3, .int .i64 e3] 23)).heap.size (((w.alloc (.cells #[.bool n1, .string s1, .int .i64 e1] 23)).alloc (.cells #[.bool n2, .string s2, .int .i64 e2] 23)).alloc (.cells #[.bool n3, .string s3, .int .i64 e3] 23)) w3 := bl_t hA2 hb3
  obtain ⟨ka3, kb3, kc3, za3, zb3⟩ := keep3 hA3
  clear ka2 kb2 kc2 za2 zb2
  go_wp2_with fail
  refine (c1 _).mono ?_
  rintro r w4 ⟨rfl, hb4⟩
  have hA4 : Below (((w.alloc (.cells #[.bool n1, .string s1, .int .i64 e1] 23)).alloc (.cells #[.bool n2, .string s2, .int .i64 e2] 23)).alloc (.cells #[.bool n3, .string s3, .int .i64 e3] 23)).heap.size (((w.alloc (.cells #[.bool n1, .string s1, .int .i64 e1] 23)).alloc (.cells #[.bool n2, .string s2, .int .i64 e2] 23)).alloc (.cells #[.bool n3, .string s3, .int .i64 e3] 23)) w4 := bl_t hA3 hb4
  obtain ⟨ka4, kb4, kc4, za4, zb4⟩ := keep3 hA4
  clear ka3 kb3 kc3 za3 zb3
  go_wp2_with fail
  refine (c2 _).mono ?_
  rintro r w5 ⟨rfl, hb5⟩
  have hA5 : Below (((w.alloc (.cells #[.bool n1, .string s1, .int .i64 e1] 23)).alloc (.cells #[.bool n2, .string s2, .int .i64 e2] 23)).alloc (.cells #[.bool n3, .string s3, .int .i64 e3] 23)).heap.size (((w.alloc (.cells #[.bool n1, .string s1, .int .i64 e1] 23)).alloc (.cells #[.bool n2, .string s2, .int .i64 e2] 23)).alloc (.cells #[.bool n3, .string s3, .int .i64 e3] 23)) w5 := bl_t hA4 hb5
  obtain ⟨ka5, kb5, kc5, za5, zb5⟩ := keep3 hA5
  clear ka4 kb4 kc4 za4 zb4
  go_wp2_with fail
  refine (c3 _).mono ?_
  rintro r w6 ⟨rfl, hb6⟩
  have hA6 : Below (((w.alloc (.cells #[.bool n1, .string s1, .int .i64 e1] 23)).alloc (.cells #[.bool n2, .string s2, .int .i64 e2] 23)).alloc (.cells #[.bool n3, .string s3, .int .i64 e3] 23)).heap.size (((w.alloc (.cells #[.bool n1, .string s1, .int .i64 e1] 23)).alloc (.cells #[.bool n2, .string s2, .int .i64 e2] 23)).alloc (.cells #[.bool n3, .string s3, .int .i64 e3] 23)) w6 := bl_t hA5 hb6
  obtain ⟨ka6, kb6, kc6, za6, zb6⟩ := keep3 hA6
  clear ka5 kb5 kc5 za5 zb5
  go_wp2_with fail
  refine (c4 _).mono ?_
  rintro r w7 ⟨rfl, hb7⟩
  have hA7 : Below (((w.alloc (.cells #[.bool n1, .string s1, .int .i64 e1] 23)).alloc (.cells #[.bool n2, .string s2, .int .i64 e2] 23)).alloc (.cells #[.bool n3, .string s3, .int .i64 e3] 23)).heap.size (((w.alloc (.cells #[.bool n1, .string s1, .int .i64 e1] 23)).alloc (.cells #[.bool n2, .string s2, .int .i64 e2] 23)).alloc (.cells #[.bool n3, .string s3, .int .i64 e3] 23)) w7 := bl_t hA6 hb7
  obtain ⟨ka7, kb7, kc7, za7, zb7⟩ := keep3 hA7
  clear ka6 kb6 kc6 za6 zb6
  go_upto_region 7 with fail
  go_cut [78] (fun s78 wx => s78 = .bool false ∧ wx = w7)
  case first =>
    go_wp2_with fail
    all_goals go_meet
    all_goals (refine ⟨?_, ?_⟩)
    all_goals first | rfl | skip
    all_goals (have fa := F1.out; have fb := F2.out)
    all_goals first
      | (exfalso; omega)
      | (rw [decide_eq_false (show ¬ 0 < u by omega), decide_eq_false (show ¬ 0 ≤ u by omega)]; rfl)
      | (rw [decide_eq_false (show ¬ 0 < u by omega)])
  case rest =>
    obtain ⟨rfl, rfl⟩ := hcut
    clear F1 F2
    go_wp2_with fail
    refine (c5 _).mono ?_
    rintro r w8 ⟨rfl, hb8⟩
    have hA8 := bl_t (bl_a (bl_a hA7 _) _) hb8
    go_wp2_with fail
    refine (h7 _ ((((hE.alloc _).alloc _).alloc _).below hA8)).mono ?_
    rintro r w9 ⟨rfl, hb9⟩
    go_wp2
    go_ret
    exact ⟨rfl, bl_t (bl_a (bl_a (bl_a (Below.refl _ _) _) _) _) (bl_t hA8 hb9)⟩

end Go.Proofs.YtpeoepcfiejpmabGreatDoor
