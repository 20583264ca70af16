/-
  LoopsRanks, walked. No condition.
-/
import Derived.Test.YtnlgeiofkfkhbaaJoined50
namespace Go.Proofs.Ytnlgeiofkfkhbaa
open Go.RowKit Go.Maps Lg
attribute [local go_sem] setCell_drewN alloc_drewN

theorem rka_cy {n : Int} {E : List Ed} {B : Nat} {r : Ending} {w' : World} (h : RkA n E B r w') (hc : Cy (prs n E)) : r = .returned (.tuple #[.slice none 0 0, .bool false]) := by
 have e := (raised_iff (m := n.toNat) (.inl hc) prs_lt).2 hc
 unfold RkA at h
 rw [e] at h
 exact h
theorem rka_rank {n : Int} {E : List Ed} {B : Nat} {r : Ending} {w' : World} {M : Nat → Nat} (h : RkA n E B r w') (hM : Rank (rowOf (prs n E)) M) : ∃ v, r = .returned (.tuple #[v, .bool true]) ∧ OwnI w' B v (outL M n.toNat) := by
 have e := raised_topo (m := n.toNat) prs_lt hM
 unfold RkA at h
 rw [e] at h
 exact h
theorem ii_nil (w : World) : II w (fun _ => False) [] (.slice none 0 0) := (OwnI.nil w 0).ii _ (fun _ _ h => h)

set_option maxRecDepth 100000 in
set_option maxHeartbeats 3200000 in
theorem loopsRanks_walk (n : Int) (hn2 : I64 n) (E : List Ed) (v : Value) (w : World) (hE : EdI w v E) : Calls Try.prog 4 #[.int .i64 n, v] w fun r w' => r = .returned (.bool true) ∧ Below w.heap.size w w' := by
 obtain ⟨Q0, hQ0⟩ : ∃ P' : Ending → World → Prop, P' = fun r w' => r = .returned (.bool true) ∧ Below w.heap.size w w' := ⟨_, rfl⟩
 rw [← hQ0]
 have HQ := hid_intro hQ0
 have HE := hid_intro hE
 have HN2 := hid_intro hn2
 obtain ⟨eo, ec, rfl, hel, hec, -⟩ := hE
 have hEI : (E.length : Int) ≤ 9223372036854775807 := by unfold maxLen at hec; omega
 clear hQ0 hn2 hel hec
 go_enter Try.func4, Try.ntmps4
 by_cases hn : (300 : Int) < n
 ·go_wp2_with fail
  refine (heads_any w).mono ?_
  rintro r w1 ⟨rfl, hb1⟩
  have HB1 := hid_intro hb1
  clear hb1
  go_wp2_with fail
  rw [HQ.out]
  exact ⟨rfl, HB1.out⟩
 ·by_cases hl : (300 : Int) < (E.length : Int)
  ·go_wp2_with fail
   refine (heads_any w).mono ?_
   rintro r w1 ⟨rfl, hb1⟩
   have HB1 := hid_intro hb1
   clear hb1
   go_wp2_with fail
   rw [HQ.out]
   exact ⟨rfl, HB1.out⟩
  ·have HR := hid_intro (ranks_any n (by omega) HN2.out E (by omega) _ w HE.out)
   have HRR := hid_intro (fun w1 hb => rranks_all n (by omega) E (by omega) _ w1 (HE.out.below (w' := w1) hb))
   go_wp2_with fail
   refine HR.out.mono ?_
   rintro r w1 ⟨hb1, h1⟩
   have HB1 := hid_intro hb1
   have HR2 := hid_intro (HRR.out w1 hb1)
   clear hb1
   rcases h1 with ⟨hcy, rfl⟩ | ⟨hcy, M, v1, hM, rfl, ho1⟩
   ·have HC := hid_intro hcy
    clear hcy
    go_wp2_with fail
    refine HR2.out.mono ?_
    rintro r w2 ⟨hr2, hb2⟩
    obtain rfl := rka_cy hr2 HC.out
    have HB2 := hid_intro (vb_t HB1.out hb2)
    clear hr2 hb2
    go_wp2_with fail
    refine (ints_any [] [] _ _ w2 (ii_nil w2) (ii_nil w2)).mono ?_
    rintro r w3 ⟨rfl, hb3⟩
    have HB3 := hid_intro (vb_t HB2.out hb3)
    clear hb3
    rw [show decide (([] : List Int) = []) = true from rfl]
    go_wp2_with fail
    refine (heads_any w3).mono ?_
    rintro r w4 ⟨rfl, hb4⟩
    have HB4 := hid_intro (vb_t HB3.out hb4)
    clear hb4
    go_wp2_with fail
    rw [HQ.out]
    exact ⟨rfl, HB4.out⟩
   ·have HM := hid_intro hM
    have HO1 := hid_intro (ho1.ii (fun _ => False) (fun _ _ h => h))
    clear hcy hM ho1
    go_wp2_with fail
    refine HR2.out.mono ?_
    rintro r w2 ⟨hr2, hb2⟩
    obtain ⟨v2, rfl, ho2⟩ := rka_rank hr2 HM.out
    have HO2 := hid_intro (ho2.ii (fun _ => False) (fun _ _ h => h))
    have HO12 := hid_intro (HO1.out.kept hb2)
    have HB2 := hid_intro (vb_t HB1.out hb2)
    clear hr2 hb2 ho2
    go_wp2_with fail
    refine (ints_any _ _ _ _ w2 HO12.out HO2.out).mono ?_
    rintro r w3 ⟨rfl, hb3⟩
    have HB3 := hid_intro (vb_t HB2.out hb3)
    clear hb3
    rw [show decide (outL M n.toNat = outL M n.toNat) = true from decide_eq_true rfl]
    go_wp2_with fail
    refine (heads_any w3).mono ?_
    rintro r w4 ⟨rfl, hb4⟩
    have HB4 := hid_intro (vb_t HB3.out hb4)
    clear hb4
    go_wp2_with fail
    rw [HQ.out]
    exact ⟨rfl, HB4.out⟩
end Go.Proofs.Ytnlgeiofkfkhbaa
