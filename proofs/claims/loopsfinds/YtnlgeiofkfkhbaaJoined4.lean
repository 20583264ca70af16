/-
  Ints: are two rows of numbers the same? upTo: the numbers below one. Conditions: upTo of at most 2^40.
-/
import Derived.Test.YtnlgeiofkfkhbaaJoined3
namespace Go.Proofs.Ytnlgeiofkfkhbaa
open Go.RowKit Go.Maps
attribute [local go_sem] setCell_drewN alloc_drewN

theorem II.shape {w : World} {t : List Int} {v : Value} (h : II w (fun _ => False) t v) : ∃ ao cap, v = .slice ao t.length cap ∧ (t.length : Int) ≤ 9223372036854775807 ∧
  (t = [] ∨ ∃ b off, ao = some ⟨b, off, none⟩ ∧ ∀ w', Below w.heap.size w w' → ∀ i, i < t.length → w'.cell? ⟨b, off + i, none⟩ = some (.int .i64 (ia t i))) := by
 obtain ⟨ao, cap, e, h1, h2, h3, h4⟩ := h
 refine ⟨ao, cap, e, by unfold maxLen at h2; omega, ?_⟩
 rcases h4 with h4 | ⟨b, off, h5, h6, h7⟩
 ·exact Or.inl h4
 ·by_cases hk : t = []
  ·exact Or.inl hk
  have hb : b < w.heap.size := World.block_lt_of_cell? w _ (h7 0 (List.length_pos_iff.2 hk))
  exact Or.inr ⟨b, off, h5, fun w' hw i hi => (hw.cell (p := ⟨b, off + i, none⟩) hb).trans (h7 i hi)⟩
theorem ia_ext {a b : List Int} (hl : a.length = b.length) (h : ∀ i, i < a.length → ia a i = ia b i) : a = b := by
 apply List.ext_getElem hl
 intro i h1 h2
 have := h i h1
 unfold ia at this
 rw [List.getD_eq_getElem?_getD, List.getD_eq_getElem?_getD, List.getElem?_eq_getElem h1, List.getElem?_eq_getElem h2] at this
 exact this

set_option maxRecDepth 100000 in
set_option maxHeartbeats 3200000 in
theorem ints_any (x y : List Int) (xv yv : Value) (w : World) (hx : II w (fun _ => False) x xv) (hy : II w (fun _ => False) y yv) :
  Calls Try.prog 16 #[xv, yv] w fun r w' => r = .returned (.bool (decide (x = y))) ∧ Below w.heap.size w w' := by
 obtain ⟨P, hP⟩ : ∃ P : Ending → World → Prop, P = fun r w' => r = .returned (.bool (decide (x = y))) ∧ Below w.heap.size w w' := ⟨_, rfl⟩
 rw [← hP]
 have HP := hid_intro hP
 obtain ⟨xo, xc, rfl, hx1, hx2⟩ := hx.shape
 obtain ⟨yo, yc, rfl, hy1, hy2⟩ := hy.shape
 have HX := hid_intro hx2
 have HY := hid_intro hy2
 clear hP hx hy hx2 hy2
 by_cases hl : x.length = y.length
 ·have hlI : (x.length : Int) = (y.length : Int) := by omega
  rw [← hl] at HY hy1 ⊢
  go_enter Try.func16, Try.ntmps16
  go_wp2_with fail
  go_loopg [5] (x.length) (fun g s5 wr => ∃ i : Nat, g = x.length - i ∧ s5 = .int .i64 (i : Int) ∧ Hid (Below w.heap.size w wr ∧ i ≤ x.length ∧ ∀ j, j < i → ia x j = ia y j))
  case atStart => exact ⟨0, rfl, rfl, hid_intro ⟨Below.refl _ _, Nat.zero_le _, fun j h => by omega⟩⟩
  case round =>
   obtain ⟨i, rfl, rfl, HI⟩ := hrel
   by_cases hlt : i < x.length
   ·have hI : (i : Int) < (x.length : Int) := by omega
    have HLT := hid_intro hlt
    obtain ⟨b, off, rfl, hcx⟩ := HX.out.resolve_left (fun e => by rw [e] at hlt; simp at hlt)
    obtain ⟨b2, off2, rfl, hcy⟩ := HY.out.resolve_left (fun e => by rw [e] at hl; simp at hl; rw [hl] at hlt; simp at hlt)
    have HS : Hid (∀ w', Below w.heap.size w w' → w'.cell? ⟨b, off + i, none⟩ = some (.int .i64 (ia x i)) ∧ w'.cell? ⟨b2, off2 + i, none⟩ = some (.int .i64 (ia y i))) := hid_intro (fun w' hb => ⟨hcx w' hb i hlt, hcy w' hb i (by omega)⟩)
    have hc := HI.out.1
    clear hcx hcy hl hlI hlt
    by_cases he : ia x i = ia y i
    ·have HE := hid_intro he
     have hn : (decide (ia x i ≠ ia y i)) = false := by simp [he]
     clear he
     go_wp2_with fail
     go_region_held3 (fun w' => w'.cell? ⟨b, off + i, none⟩ = some (.int .i64 (ia x i)) ∧ w'.cell? ⟨b2, off2 + i, none⟩ = some (.int .i64 (ia y i))) (first | (refine HS.out _ ?_; (with_reducible repeat (first | exact hc | refine vb_d ?_)); done) | fail) (first | fail)
     all_goals
      have he := HE.out
      go_wp2_with fail
      go_roundg (x.length - (i + 1))
      case measure => have := HLT.out; omega
      case rel => exact ⟨i + 1, rfl, by go_num, hid_intro ⟨by with_reducible repeat (first | exact hc | refine vb_d ?_), HLT.out, fun j hj => by
       by_cases e : j = i
       ·subst e; exact HE.out
       ·exact HI.out.2.2 j (by omega)⟩⟩
    ·have HE := hid_intro he
     clear he
     go_wp2_with fail
     go_region_held3 (fun w' => w'.cell? ⟨b, off + i, none⟩ = some (.int .i64 (ia x i)) ∧ w'.cell? ⟨b2, off2 + i, none⟩ = some (.int .i64 (ia y i))) (first | (refine HS.out _ ?_; (with_reducible repeat (first | exact hc | refine vb_d ?_)); done) | fail) (first | fail)
     all_goals
      have he := HE.out
      go_wp2_with fail
      rw [HP.out]
      exact ⟨by rw [decide_eq_false (fun e => he (by rw [e]))]; rfl, by with_reducible repeat (first | exact hc | refine vb_d ?_)⟩
   ·have hI : ¬ (i : Int) < (x.length : Int) := by omega
    have HR := hid_intro (ia_ext hl (fun j hj => HI.out.2.2 j (by have := HI.out.2.1; omega)))
    clear hl hlI
    go_wp2_with fail
    rw [HP.out]
    exact ⟨by rw [decide_eq_true HR.out], HI.out.1⟩
 ·have hlI : ¬ (x.length : Int) = (y.length : Int) := by omega
  have HL := hid_intro hl
  go_enter Try.func16, Try.ntmps16
  go_wp2_with fail
  rw [HP.out]
  exact ⟨by rw [decide_eq_false (fun e => HL.out (by rw [e]))]; rfl, Below.refl _ _⟩
end Go.Proofs.Ytnlgeiofkfkhbaa
