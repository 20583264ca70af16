/-
  The heads of layer 7's statements: what must come at any rate comes. Conditions: the library's table of powers of ten and the table of greatest code points as they are laid.
-/
import Derived.Test.YtkbkedknoahhgaaDoorJoined16
namespace Go.Proofs.YtkbkedknoahhgaaDoor
open Go.RowKit
attribute [local go_sem] setCell_drewN alloc_drewN

/-- What is laid. -/
structure Env (w : World) : Prop where
  tab : Tab w
  pow : Lib.TabIs Tryd.prog w "internal/strconv.uint64pow10" .u64 Lib.pow10Tab
theorem Env.below {w w' : World} (h : Env w) (hb : Below w.heap.size w w') : Env w' := ⟨h.tab.below hb, tab_below h.pow hb⟩
theorem C7.al {w : World} {b : Nat} {x0 x1 x2 x3 x4 x5 x6 : Value} (h : C7 w b x0 x1 x2 x3 x4 x5 x6) (o : Obj) : C7 (w.alloc o) b x0 x1 x2 x3 x4 x5 x6 := h.below (bl_a (Below.refl _ _) _) h.lt
theorem texts_h (v1 : Value) (w : World) (hv : SRow w v1 [[97, 47, 98], [126, 49]]) : Calls Tryd.prog 11 #[v1, .slice (some ⟨w.heap.size, 0, none⟩) 2 2] (w.alloc (.cells #[.string ⟨#[97, 47, 98]⟩, .string ⟨#[126, 49]⟩] 9)) fun r w' => r = .returned (.bool true) ∧ Below w.heap.size w w' := by
  refine (texts_any v1 _ [[97, 47, 98], [126, 49]] [[97, 47, 98], [126, 49]] _ (hv.below (bl_a (Below.refl _ _) _)) (.inr ⟨w.heap.size, 0, 2, rfl, fun i hi => ?_⟩) (by decide)).mono ?_
  · have : i = 0 ∨ i = 1 := by simp at hi; omega
    rcases this with rfl | rfl <;> (rw [World.cell?_alloc_at _ _ _ _ (by simp)]; rfl)
  · rintro r w' ⟨rfl, hb⟩
    exact ⟨by rw [decide_eq_true rfl], bl_t (bl_a (Below.refl _ _) _) hb⟩
theorem pl_h1 : parseL [47, 97, 126, 49, 98, 47, 126, 48, 49] = some [[97, 47, 98], [126, 49]] := by
  have d1 : decL 126 1 mT [97, 126, 49, 98] = some [97, 47, 98] := by
    rw [decL_ne _ _ _ (by decide), decL_mark _ _ (by decide), show mT ([49, 98].take 1) = some 47 from rfl, Option.bind_some, show [49, 98].drop 1 = [(98 : UInt8)] from rfl, decL_ne _ _ _ (by decide), decL_nil]; rfl
  have d2 : decL 126 1 mT [126, 48, 49] = some [126, 49] := by
    rw [decL_mark _ _ (by decide), show mT ([48, 49].take 1) = some 126 from rfl, Option.bind_some, show [48, 49].drop 1 = [(49 : UInt8)] from rfl, decL_ne _ _ _ (by decide), decL_nil]; rfl
  rw [parseL, if_pos (.inr rfl), partsL_cons, show List.takeWhile (· != 47) [97, 126, 49, 98, 47, 126, 48, (49 : UInt8)] = [97, 126, 49, 98] by decide, d1, Option.bind_some, show List.dropWhile (· != 47) [97, 126, 49, 98, 47, 126, 48, (49 : UInt8)] = [47, 126, 48, 49] by decide,
    partsL_cons, show List.takeWhile (· != 47) [126, 48, (49 : UInt8)] = [126, 48, 49] by decide, d2, Option.bind_some, show List.dropWhile (· != 47) [126, 48, (49 : UInt8)] = [] by decide, partsL_nil]
  rfl
theorem pl_h2 : parseL [97] = none := by rw [parseL, if_neg (by decide)]
theorem ue_h : unescL [97, 37, 67, 51, 37, 65, 57] = some [97, 195, 169] := by
  have d : decL 37 2 mP [97, 37, 67, 51, 37, 65, 57] = some [97, 195, 169] := by
    rw [decL_ne _ _ _ (by decide), decL_mark _ _ (by decide), show mP ([67, 51, 37, 65, 57].take 2) = some 195 by decide +kernel, Option.bind_some, show [67, 51, 37, 65, 57].drop 2 = [37, 65, (57 : UInt8)] from rfl,
      decL_mark _ _ (by decide), show mP ([65, 57].take 2) = some 169 by decide +kernel, Option.bind_some, show [65, 57].drop 2 = ([] : List UInt8) from rfl, decL_nil]
    rfl
  rw [unescL, d, Option.bind_some, show gdL [97, 195, 169] = true by decide +kernel]
  rfl

set_option maxRecDepth 100000 in
set_option maxHeartbeats 1600000 in
theorem heads_any (w : World) (hE : Env w) : Calls Tryd.prog 7 #[] w fun r w' => r = .returned (.bool true) ∧ Below w.heap.size w w' := by
  have p1 : ∀ w', Calls Tryd.prog 16 #[.string ⟨#[47, 97, 126, 49, 98, 47, 126, 48, 49]⟩] w' fun r w2 => ∃ v, r = .returned (.tuple #[v, .int .i64 0]) ∧ SRow w2 v [[97, 47, 98], [126, 49]] ∧ Below w'.heap.size w' w2 := fun w' => by
    have := parse_any (bs [47, 97, 126, 49, 98, 47, 126, 48, 49]) w' (by decide)
    rw [bs_list, pl_h1] at this
    exact this
  have p2 : ∀ w', Calls Tryd.prog 16 #[.string ⟨#[97]⟩] w' fun r w2 => ∃ v, r = .returned (.tuple #[v, .int .i64 70]) ∧ Below w'.heap.size w' w2 := fun w' => by
    have := parse_any (bs [97]) w' (by decide)
    rw [bs_list, pl_h2] at this
    exact this.mono fun r w2 ⟨v, h1, _, h3⟩ => ⟨v, h1, h3⟩
  have p3 : ∀ w', Below w.heap.size w w' → Calls Tryd.prog 17 #[.string ⟨#[97, 37, 67, 51, 37, 65, 57]⟩] w' fun r w2 => r = .returned (.tuple #[.string ⟨#[97, 195, 169]⟩, .int .i64 0]) ∧ Below w'.heap.size w' w2 := fun w' hb => by
    have := unescape_any (bs [97, 37, 67, 51, 37, 65, 57]) w' (hE.tab.below hb) (by decide)
    rw [bs_list, ue_h] at this
    exact this
  have f0 := find_0
  have f1 := find_00
  have al := fun (b : Nat) (w' : World) (hb : Below w.heap.size w w') (hL : LA w' b) => all_fv b w' hL (tab_below hE.pow hb)
  unfold fvV at f0 f1 al
  unfold lfV at f0
  unfold zeroV at f1
  go_enter Tryd.func7, Tryd.ntmps7
  go_wp2_with fail
  refine (p1 _).mono ?_
  rintro r w1 ⟨v1, rfl, hv1, hb1⟩
  clear p1
  go_wp2_with fail
  refine (f0 _ _ ?_).mono ?_
  · constructor <;> simp [go_sem]
  rintro r w2 ⟨rfl, hb2⟩
  have hA2 : C7 w2 (w1.heap.size + 1) (.int .i64 5) (.bool false) (.string ⟨#[]⟩) (.int .i64 0) (.string ⟨#[]⟩) (.slice (some ⟨w1.heap.size, 0, none⟩) 1 1) (.slice none 0 0) := C7.below (by constructor <;> simp [go_sem]) hb2 (by simp)
  have hL2 : LA w2 w1.heap.size := LA.below (fun o => by simp [go_sem]) hb2
  have hb12 : Below w1.heap.size w1 w2 := bl_t (by with_reducible repeat (first | exact Below.refl _ _ | refine bl_s ?_ (by simp) _ | refine bl_a ?_ _)) hb2
  have hv2 := hv1.below hb12
  have hbel2 := bl_t hb1 hb12
  have hs2 : w1.heap.size + 1 < w2.heap.size := hA2.lt
  have hA2' := hA2
  clear hb2 hv1 hb1 hb12 f0
  obtain ⟨a0, a1, a2, a3, a4, a5, a6, q0, q1, q2, q3, q4, q5, q6⟩ := hA2'
  go_wp2_with fail
  refine (f1 _ _).mono ?_
  rintro r w3 ⟨rfl, hb3⟩
  have hA3 := C7.below (b := w1.heap.size + 1) (x0 := .int .i64 5) (x1 := .bool false) (x2 := .string ⟨#[]⟩) (x3 := .int .i64 0) (x4 := .string ⟨#[]⟩) (x5 := .slice (some ⟨w1.heap.size, 0, none⟩) 1 1) (x6 := .slice none 0 0) (by with_reducible repeat (first | exact hA2 | refine C7.set ?_ (by simp only; omega) | refine C7.al ?_ _)) hb3 (by simp; omega)
  have hR3 : C7 w3 w2.heap.size (.int .i64 2) (.bool false) (.string ⟨#[]⟩) (.int .i64 0) (.string ⟨#[]⟩) (.slice none 0 0) (.slice none 0 0) := C7.below (by constructor <;> simp [go_sem]) hb3 (by simp)
  have hb23 : Below w2.heap.size w2 w3 := bl_t (by with_reducible repeat (first | exact Below.refl _ _ | refine bl_s ?_ (by simp) _ | refine bl_a ?_ _)) hb3
  have hL3 := hL2.below hb23
  have hv3 := hv2.below hb23
  have hbel3 := bl_t hbel2 hb23
  clear hb3 hv2 hL2 hb23 hA2 hbel2 f1 a0 a1 a2 a3 a4 a5 a6 q0 q1 q2 q3 q4 q5 q6
  go_wp2_with fail
  refine (p2 _).mono ?_
  rintro r w4 ⟨v4, rfl, hb4⟩
  have hb34 : Below w3.heap.size w3 w4 := bl_t (by with_reducible repeat (first | exact Below.refl _ _ | refine bl_s ?_ (by simp) _ | refine bl_a ?_ _)) hb4
  have hA4 := hA3.below hb34 hA3.lt
  have hR4 := hR3.below hb34 hR3.lt
  have hL4 := hL3.below hb34
  have hv4 := hv3.below hb34
  have hbel4 := bl_t hbel3 hb34
  clear hb4 hv3 hL3 hb34 hA3 hR3 hbel3 p2
  go_wp2_with fail
  refine (p3 _ hbel4).mono ?_
  rintro r w5 ⟨rfl, hb5⟩
  have hA5 := hA4.below hb5 hA4.lt
  have hR5 := hR4.below hb5 hR4.lt
  have hL5 := hL4.below hb5
  have hv5 := hv4.below hb5
  have hbel5 := bl_t hbel4 hb5
  clear hb5 hv4 hL4 hA4 hR4 hbel4 p3
  go_wp2_with fail
  refine (texts_h _ _ hv5).mono ?_
  rintro r w6 ⟨rfl, hb6⟩
  have hA6 := hA5.below hb6 hA5.lt
  have hR6 := hR5.below hb6 hR5.lt
  have hL6 := hL5.below hb6
  have hbel6 := bl_t hbel5 hb6
  clear hb6 hv5 hL5 hA5 hR5 hbel5
  obtain ⟨a0, a1, a2, a3, a4, a5, a6, q0, q1, q2, q3, q4, q5, q6⟩ := hA6
  obtain ⟨d0, d1, d2, d3, d4, d5, d6, s0, s1, s2, s3, s4, s5, s6⟩ := hR6
  go_wp2_with fail
  refine (al _ _ hbel6 hL6).mono ?_
  rintro r w7 ⟨aa, cc, rfl, hb7⟩
  clear a0 a1 a2 a3 a4 a5 a6 q0 q1 q2 q3 q4 q5 q6 d0 d1 d2 d3 d4 d5 d6 s0 s1 s2 s3 s4 s5 s6 al
  go_wp2
  go_ret
  exact ⟨rfl, bl_t hbel6 hb7⟩
end Go.Proofs.YtkbkedknoahhgaaDoor
