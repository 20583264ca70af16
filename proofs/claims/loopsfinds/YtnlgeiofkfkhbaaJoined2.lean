/-
  Whether there is an edge. Conditions: none.
-/
import Derived.Test.YtnlgeiofkfkhbaaJoined1
namespace Go.Proofs.Ytnlgeiofkfkhbaa
open Go.RowKit Go.Maps
attribute [local go_sem] setCell_drewN alloc_drewN

/-- Is it this edge? -/
def mt (n a b : Int) (e : Ed) : Bool := cnt n e && (decide (e.f = a) && decide (e.t = b))
def hasE (n : Int) (E : List Ed) (a b : Int) : Bool := E.any (mt n a b)
theorem hasE_no {n a b : Int} {E : List Ed} (h : ∀ j (hj : j < E.length), mt n a b E[j] = false) : hasE n E a b = false := by
 unfold hasE
 rw [List.any_eq_false]
 intro e he
 obtain ⟨j, hj, rfl⟩ := List.getElem_of_mem he
 rw [h j hj]; simp
theorem hasE_yes {n a b : Int} {E : List Ed} {i : Nat} (hi : i < E.length) (h : mt n a b E[i] = true) : hasE n E a b = true := by
 unfold hasE
 rw [List.any_eq_true]
 exact ⟨_, List.getElem_mem hi, h⟩
theorem no_more {n a b : Int} {E : List Ed} {i : Nat} (h : ∀ j (hj : j < E.length), j < i → mt n a b E[j] = false) (hi : i < E.length) (hm : mt n a b E[i] = false) : ∀ j (hj : j < E.length), j < i + 1 → mt n a b E[j] = false := fun j hj hlt => by
 by_cases e : j = i
 ·subst e; exact hm
 ·exact h j hj (by omega)

set_option maxRecDepth 100000 in
set_option maxHeartbeats 3200000 in
theorem edge_any (n : Int) (E : List Ed) (v : Value) (a b : Int) (w : World) (hE : EdI w v E) :
  Calls Try.prog 24 #[.int .i64 n, v, .int .i64 a, .int .i64 b] w fun r w' => r = .returned (.bool (hasE n E a b)) ∧ Below w.heap.size w w' := by
 obtain ⟨P, hP⟩ : ∃ P : Ending → World → Prop, P = fun r w' => r = .returned (.bool (hasE n E a b)) ∧ Below w.heap.size w w' := ⟨_, rfl⟩
 rw [← hP]
 have HP := hid_intro hP
 have HE := hid_intro hE
 obtain ⟨ao, cap, rfl, hc1, hc2, hrow⟩ := hE
 have HROW := hid_intro hrow
 have HC : Hid (∀ (e : Ed) (w' : World), Calls Try.prog 25 #[.int .i64 n, .agg #[.int .i64 e.f, .int .i64 e.t, .string e.wd, .bool e.s, .string e.dy]] w' fun r w2 => r = .returned (.bool (cnt n e)) ∧ Below w'.heap.size w' w2) := hid_intro (fun e w' => counts_any n e w')
 have hcI : (E.length : Int) ≤ 9223372036854775807 := by unfold maxLen at hc2; omega
 clear hP hrow hc1 hc2
 go_enter Try.func24, Try.ntmps24
 go_wp2_with fail
 go_loopg [9] (E.length) (fun g s9 wr => ∃ i : Nat, g = E.length - i ∧ s9 = .int .i64 (i : Int) ∧ Hid (Below w.heap.size w wr ∧ i ≤ E.length ∧ ∀ j (h : j < E.length), j < i → mt n a b E[j] = false))
 case atStart => exact ⟨0, rfl, rfl, hid_intro ⟨Below.refl _ _, Nat.zero_le _, fun j _ h => by omega⟩⟩
 case round =>
  obtain ⟨i, rfl, rfl, HI⟩ := hrel
  by_cases hlt : i < E.length
  ·have hI : (i : Int) < (E.length : Int) := by omega
   obtain ⟨bb, off, rfl, hbl, hcell⟩ := HROW.out.resolve_left (fun e => by rw [e] at hlt; exact absurd hlt (by simp))
   have HK : Hid (∀ w', Below w.heap.size w w' → w'.cell? ⟨bb, off + i * 5, none⟩ = some (.int .i64 E[i].f) ∧ w'.cell? ⟨bb, off + i * 5 + 1, none⟩ = some (.int .i64 E[i].t) ∧ w'.cell? ⟨bb, off + i * 5 + 2, none⟩ = some (.string E[i].wd) ∧ w'.cell? ⟨bb, off + i * 5 + 3, none⟩ = some (.bool E[i].s) ∧ w'.cell? ⟨bb, off + i * 5 + 4, none⟩ = some (.string E[i].dy)) := hid_intro (fun w' hb => by
    obtain ⟨k0, k1, k2, k3, k4⟩ := hcell i hlt
    exact ⟨(hb.cell (p := ⟨bb, off + i * 5, none⟩) hbl).trans k0, (hb.cell (p := ⟨bb, off + i * 5 + 1, none⟩) hbl).trans k1, (hb.cell (p := ⟨bb, off + i * 5 + 2, none⟩) hbl).trans k2, (hb.cell (p := ⟨bb, off + i * 5 + 3, none⟩) hbl).trans k3, (hb.cell (p := ⟨bb, off + i * 5 + 4, none⟩) hbl).trans k4⟩)
   have HM : Hid (∀ j (h : j < E.length), j < i → mt n a b E[j] = false) := hid_intro HI.out.2.2
   have HCC := hid_intro (fun w' => HC.out E[i] w')
   have HLT := hid_intro hlt
   obtain ⟨k0, k1, k2, k3, k4⟩ := HK.out wr HI.out.1
   have HMX : Hid (mt n a b E[i] = (cnt n E[i] && (decide (E[i].f = a) && decide (E[i].t = b)))) := hid_intro rfl
   have HNX : Hid (mt n a b E[i] = false → ∀ j (h : j < E.length), j < i + 1 → mt n a b E[j] = false) := hid_intro (fun h => no_more HM.out HLT.out h)
   have HYS : Hid (mt n a b E[i] = true → hasE n E a b = true) := hid_intro (fun h => hasE_yes HLT.out h)
   clear hcell HM HC HE HROW
   generalize E[i] = ed at *
   cases hc : cnt n ed with
   | false =>
    rw [hc] at HCC
    go_wp2_with fail
    refine (HCC.out wr).mono ?_
    rintro r2 w2 ⟨rfl, hb2⟩
    go_wp2_with fail
    have HQ := hid_intro (And.intro (vb_t HI.out.1 hb2) (HNX.out (by rw [HMX.out, hc]; rfl)))
    clear hb2
    go_roundg (E.length - (i + 1))
    case measure => omega
    case rel => exact ⟨i + 1, rfl, by go_num, hid_intro ⟨HQ.out.1, by omega, HQ.out.2⟩⟩
   | true =>
    rw [hc] at HCC
    go_wp2_with fail
    refine (HCC.out wr).mono ?_
    rintro r2 w2 ⟨rfl, hb2⟩
    obtain ⟨k0, k1, k2, k3, k4⟩ := HK.out w2 (vb_t HI.out.1 hb2)
    have HB2 := hid_intro (vb_t HI.out.1 hb2)
    clear hb2
    by_cases hf : ed.f = a
    ·by_cases ht : ed.t = b
     ·have HY := hid_intro (HYS.out (by rw [HMX.out, hc]; simp [hf, ht]))
      go_wp2_with fail
      rw [HP.out]
      exact ⟨by rw [HY.out]; rfl, HB2.out⟩
     ·have HQ := hid_intro (HNX.out (by rw [HMX.out, hc]; simp [ht]))
      go_wp2_with fail
      go_roundg (E.length - (i + 1))
      case measure => omega
      case rel => exact ⟨i + 1, rfl, by go_num, hid_intro ⟨HB2.out, by omega, HQ.out⟩⟩
    ·have HQ := hid_intro (HNX.out (by rw [HMX.out, hc]; simp [hf]))
     go_wp2_with fail
     go_roundg (E.length - (i + 1))
     case measure => omega
     case rel => exact ⟨i + 1, rfl, by go_num, hid_intro ⟨HB2.out, by omega, HQ.out⟩⟩
  ·have hI : ¬ (i : Int) < (E.length : Int) := by omega
   go_wp2_with fail
   rw [HP.out]
   exact ⟨by rw [hasE_no (fun j hj => HI.out.2.2 j hj (by have := HI.out.2.1; omega))], HI.out.1⟩
end Go.Proofs.Ytnlgeiofkfkhbaa
