/-
  UriParts: which parts a reference has, and how parts are put together. Conditions: at most 2^30 bytes.
-/
import Derived.Test.YtgmigdfkdioalaaUR8
namespace Go.Proofs.Ytgmigdfkdioalaa
open Go.RowKit
attribute [local go_sem] setCell_drewN alloc_drewN

set_option maxRecDepth 100000 in
set_option maxHeartbeats 6400000 in
theorem parts_walk (s : ByteArray) (u : Ur) (w : World) (hs : s.size ≤ 1073741824) (hu : usum u ≤ 1073741824) :
    Calls Try.prog 3 #[.string s, uV u] w fun e w' => e = .returned (.bool true) ∧ Below w.heap.size w w' := by
  have hl := len_of s
  have f1 := fun w' => parse_any s w' (by omega)
  have f2 := fun w' => rparse_any s.data.toList w' (by omega)
  have f3 := fun w' => bare_any s w' (by omega)
  have f4 := fun w' => rbare_any s.data.toList w' (by omega)
  have c1 := fun w' => text_any u w' (by omega)
  have c2 := fun w' => rtext_any u w' (by omega)
  have c3 := fun w' => absoluteB_any s w' (by omega)
  have c4 := fun w' => rabsolute_any s.data.toList w' (by omega)
  have c5 := heads_any
  simp only [bs_self] at f2 f4 c4
  generalize (absL s.data.toList).isSome = ab at *
  generalize textL u = tx at *
  generalize (cutL 35 s.data.toList).1 = ba at *
  generalize (cutL 35 s.data.toList).2.1 = bf at *
  obtain ⟨⟨bsch, bauth, bpath, bq, bfrag, bhA, bhQ, bhF⟩, n, hpv, _⟩ := parV_form (parseL s.data.toList)
  simp only [hpv] at f1 f2
  obtain ⟨sch, auth, path, q, frag, hA, hQ, hF⟩ := u
  simp only [uV, uc] at *
  clear hpv hs hu hl
  go_enter Try.func3, Try.ntmps3
  go_wp2_with fail
  refine (f1 _).mono ?_
  rintro e w1 ⟨rfl, hb1⟩
  obtain ⟨W1, hW1⟩ : ∃ W, w1.alloc (.cells #[.string (bs bsch), .string (bs bauth), .string (bs bpath), .string (bs bq), .string (bs bfrag), .bool bhA, .bool bhQ, .bool bhF] 23) = W := ⟨_, rfl⟩
  have ku1 : Bk W1 w.heap.size #[.string (bs sch), .string (bs auth), .string (bs path), .string (bs q), .string (bs frag), .bool hA, .bool hQ, .bool hF] := hW1 ▸ (Bk.bel (Bk.new _ _ _) hb1).al _
  have ka1 : Bk W1 w1.heap.size #[.string (bs bsch), .string (bs bauth), .string (bs bpath), .string (bs bq), .string (bs bfrag), .bool bhA, .bool bhQ, .bool bhF] := hW1 ▸ Bk.new _ _ _
  have hbel1 : Below w.heap.size w W1 := hW1 ▸ bl_a (bl_t (bl_a (Below.refl _ _) _) hb1) _
  clear hb1 f1
  go_wp2_with fail
  refine (f2 _).mono ?_
  rintro e w2 ⟨rfl, hb2⟩
  obtain ⟨W2, hW2⟩ : ∃ W, w2.alloc (.cells #[.string (bs bsch), .string (bs bauth), .string (bs bpath), .string (bs bq), .string (bs bfrag), .bool bhA, .bool bhQ, .bool bhF] 23) = W := ⟨_, rfl⟩
  have ku2 : Bk W2 w.heap.size #[.string (bs sch), .string (bs auth), .string (bs path), .string (bs q), .string (bs frag), .bool hA, .bool hQ, .bool hF] := hW2 ▸ (ku1.bel hb2).al _
  have ka2 : Bk W2 w1.heap.size #[.string (bs bsch), .string (bs bauth), .string (bs bpath), .string (bs bq), .string (bs bfrag), .bool bhA, .bool bhQ, .bool bhF] := hW2 ▸ (ka1.bel hb2).al _
  have kb2 : Bk W2 w2.heap.size #[.string (bs bsch), .string (bs bauth), .string (bs bpath), .string (bs bq), .string (bs bfrag), .bool bhA, .bool bhQ, .bool bhF] := hW2 ▸ Bk.new _ _ _
  have hbel2 : Below w.heap.size w W2 := hW2 ▸ bl_a (bl_t hbel1 hb2) _
  clear hb2 f2 hW1 ku1 ka1 hbel1
  go_wp2_with fail
  refine (f3 _).mono ?_
  rintro e w3 ⟨rfl, hb3⟩
  have ku3 := ku2.bel hb3
  have ka3 := ka2.bel hb3
  have kb3 := kb2.bel hb3
  have hbel3 := bl_t hbel2 hb3
  clear hb3 f3 hW2 ku2 ka2 kb2 hbel2
  go_wp2_with fail
  refine (f4 _).mono ?_
  rintro e w4 ⟨rfl, hb4⟩
  have ku4 := ku3.bel hb4
  have ka4 := ka3.bel hb4
  have kb4 := kb3.bel hb4
  have HB : Hid (Below w.heap.size w w4) := bl_t hbel3 hb4
  clear hb4 f4 ku3 ka3 kb3 hbel3
  have hS : ∀ w', Below w4.heap.size w4 w' → (∀ o, w'.cell? ⟨w.heap.size, o, none⟩ = #[.string (bs sch), .string (bs auth), .string (bs path), .string (bs q), .string (bs frag), .bool hA, .bool hQ, .bool hF][o]?) ∧ (∀ o, w'.cell? ⟨w1.heap.size, o, none⟩ = #[.string (bs bsch), .string (bs bauth), .string (bs bpath), .string (bs bq), .string (bs bfrag), .bool bhA, .bool bhQ, .bool bhF][o]?) ∧ (∀ o, w'.cell? ⟨w2.heap.size, o, none⟩ = #[.string (bs bsch), .string (bs bauth), .string (bs bpath), .string (bs bq), .string (bs bfrag), .bool bhA, .bool bhQ, .bool bhF][o]?) := fun w' hb =>
    ⟨fun o => (ku4.bel hb).cell o, fun o => (ka4.bel hb).cell o, fun o => (kb4.bel hb).cell o⟩
  clear ku4 ka4 kb4
  go_wp2_with fail
  go_region_held3 (fun w' => (∀ o, w'.cell? ⟨w.heap.size, o, none⟩ = #[.string (bs sch), .string (bs auth), .string (bs path), .string (bs q), .string (bs frag), .bool hA, .bool hQ, .bool hF][o]?) ∧ (∀ o, w'.cell? ⟨w1.heap.size, o, none⟩ = #[.string (bs bsch), .string (bs bauth), .string (bs bpath), .string (bs bq), .string (bs bfrag), .bool bhA, .bool bhQ, .bool bhF][o]?) ∧ (∀ o, w'.cell? ⟨w2.heap.size, o, none⟩ = #[.string (bs bsch), .string (bs bauth), .string (bs bpath), .string (bs bq), .string (bs bfrag), .bool bhA, .bool bhQ, .bool bhF][o]?)) (first | (refine hS _ ?_; with_reducible repeat (first | exact Below.refl _ _ | refine bl_t ?_ hc5 | refine bl_t ?_ hc4 | refine bl_t ?_ hc3 | refine bl_t ?_ hc2 | refine bl_t ?_ hc1 | refine bl_d ?_ | refine bl_n ?_ _ | refine bl_a ?_ _)) | fail) (first | (go_at_call 13; refine (c1 _).mono ?_; rintro r w7 ⟨rfl, hc1⟩) | (go_at_call 14; refine (c2 _).mono ?_; rintro r w8 ⟨rfl, hc2⟩) | (go_at_call 15; refine (c3 _).mono ?_; rintro r w9 ⟨rfl, hc3⟩) | (go_at_call 16; refine (c4 _).mono ?_; rintro r w10 ⟨rfl, hc4⟩) | (go_at_call 17; refine (c5 _).mono ?_; rintro r w11 ⟨rfl, hc5⟩) | fail)
  all_goals
    go_wp2
    go_ret
    exact ⟨rfl, bl_t HB.out (by with_reducible repeat (first | exact Below.refl _ _ | refine bl_t ?_ hc5 | refine bl_t ?_ hc4 | refine bl_t ?_ hc3 | refine bl_t ?_ hc2 | refine bl_t ?_ hc1 | refine bl_d ?_ | refine bl_n ?_ _ | refine bl_a ?_ _))⟩
end Go.Proofs.Ytgmigdfkdioalaa
