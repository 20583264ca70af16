/-
  LoopsTwo's two loops, as they say it. No condition.
  LoopsTwo, walked. No condition.
-/
import Derived.Test.YtnlgeiofkfkhbaaJoined50
import Derived.Deep.QuietTactic
import Derived.BigQuiet
namespace Go.Proofs.Ytnlgeiofkfkhbaa
open Go.RowKit Go.Maps Lg

/-- Some number ahead has another one's part. -/
def someB (P : Nat → Nat) (i : Nat) : Bool := (List.range i).any fun j => decide (P j ≠ j)
theorem someB_succ (P : Nat → Nat) (i : Nat) : someB P (i + 1) = (someB P i || decide (P i ≠ i)) := by
 unfold someB
 rw [List.range_succ, List.any_append]
 simp
/-- An edge that counts, to itself. -/
def slf (n : Int) (e : Ed) : Bool := e.s && decide (e.f = e.t) && decide (0 ≤ e.f) && decide (e.f < n)
def selfB (n : Int) (E : List Ed) : Bool := E.any (slf n)
theorem selfB_snoc {n : Int} {E : List Ed} {i : Nat} (h : i < E.length) : selfB n (E.take (i + 1)) = (selfB n (E.take i) || slf n E[i]) := by
 unfold selfB
 rw [List.take_succ_eq_append_getElem h, List.any_append]
 simp
theorem selfB_iff {n : Int} {E : List Ed} : selfB n E = true ↔ ∃ v, (v, v) ∈ prs n E := by
 unfold selfB
 rw [List.any_eq_true]
 constructor
 ·rintro ⟨e, he, h⟩
  unfold slf at h
  simp only [Bool.and_eq_true, decide_eq_true_eq] at h
  refine ⟨e.f.toNat, ?_⟩
  unfold prs
  refine List.mem_map.2 ⟨e, List.mem_filter.2 ⟨he, ?_⟩, by rw [← h.1.1.2]⟩
  unfold cnt
  simp only [Bool.and_eq_true, decide_eq_true_eq]
  obtain ⟨⟨⟨h1, h2⟩, h3⟩, h4⟩ := h
  exact ⟨⟨h1, h3, h4⟩, by omega, by omega⟩
 ·rintro ⟨v, hv⟩
  unfold prs at hv
  obtain ⟨e, he, h2⟩ := List.mem_map.1 hv
  obtain ⟨he1, he2⟩ := List.mem_filter.1 he
  have hc := cnt_in he2
  injection h2 with h3 h4
  refine ⟨e, he1, ?_⟩
  unfold slf
  unfold cnt at he2
  simp only [Bool.and_eq_true, decide_eq_true_eq] at he2 ⊢
  exact ⟨⟨⟨he2.1.1, by omega⟩, by omega⟩, by omega⟩
theorem part_out {n : Int} {E : List Ed} {P : Nat → Nat} (h : IsPart (rowOf (prs n E)) P) {v : Nat} (hv : P v ≠ v) : v < n.toNat := by
 have hr := (h v).1.2
 generalize P v = p at hr hv
 cases hr with
 | refl => exact absurd rfl hv
 | step hb _ => exact (prs_lt _ (mem_rowOf.1 hb)).1
theorem someB_iff {n : Int} {E : List Ed} {P : Nat → Nat} (h : IsPart (rowOf (prs n E)) P) : someB P n.toNat = true ↔ ∃ v, P v ≠ v := by
 unfold someB
 rw [List.any_eq_true]
 constructor
 ·rintro ⟨v, _, hv⟩
  exact ⟨v, by simpa using hv⟩
 ·rintro ⟨v, hv⟩
  exact ⟨v, List.mem_range.2 (part_out h hv), by simpa using hv⟩
theorem two_says {n : Int} {E : List Ed} {P : Nat → Nat} {c : List Nat} (h : IsPart (rowOf (prs n E)) P) (hc : c ≠ [] ↔ Cy (prs n E)) : (!c.isEmpty) = (someB P n.toNat || selfB n E) := by
 have h1 : (!c.isEmpty) = true ↔ c ≠ [] := by cases c <;> simp
 have h2 : (someB P n.toNat || selfB n E) = true ↔ Cy (prs n E) := by
  rw [Bool.or_eq_true, someB_iff h, selfB_iff, h.two]
 exact Bool.eq_iff_iff.2 (h1.trans (hc.trans h2.symm))
theorem outL_get (L : Nat → Nat) {N j : Nat} (h : j < (outL L N).length) : (outL L N)[j] = (L j : Int) := by simp [outL]
end Go.Proofs.Ytnlgeiofkfkhbaa

namespace Go.Proofs.Ytnlgeiofkfkhbaa
open Go.RowKit Go.Maps Lg
attribute [local go_sem] setCell_drewN alloc_drewN

set_option maxRecDepth 100000 in
set_option maxHeartbeats 3200000 in
theorem loopsTwo_walk (n : Int) (hn2 : I64 n) (E : List Ed) (v : Value) (w : World) (hE : EdI w v E) : Calls Try.prog 6 #[.int .i64 n, v] w fun r w' => r = .returned (.bool true) ∧ Below w.heap.size w w' := by
 obtain ⟨Q0, hQ0⟩ : ∃ P' : Ending → World → Prop, P' = fun r w' => r = .returned (.bool true) ∧ Below w.heap.size w w' := ⟨_, rfl⟩
 rw [← hQ0]
 have HQ := hid_intro hQ0
 have HE := hid_intro hE
 have HN2 := hid_intro hn2
 obtain ⟨eo, ec, rfl, hel, hec, hrow⟩ := hE
 have HROW := hid_intro hrow
 have hEI : (E.length : Int) ≤ 9223372036854775807 := by unfold maxLen at hec; omega
 clear hQ0 hn2 hel hec hrow
 go_enter Try.func6, Try.ntmps6
 by_cases hn : (200 : Int) < n
 ·go_wp2_with fail
  refine (heads_any w).mono ?_
  rintro r w1 ⟨rfl, hb1⟩
  have HB1 := hid_intro hb1
  clear hb1
  go_wp2_with fail
  rw [HQ.out]
  exact ⟨rfl, HB1.out⟩
 ·by_cases hl : (300 : Int) < (E.length : Int)
  ·go_wp2_with fail
   refine (heads_any w).mono ?_
   rintro r w1 ⟨rfl, hb1⟩
   have HB1 := hid_intro hb1
   clear hb1
   go_wp2_with fail
   rw [HQ.out]
   exact ⟨rfl, HB1.out⟩
  ·have HCY := hid_intro (cycle_any n (by omega) HN2.out E (by omega) _ w HE.out)
   have HPA := hid_intro (fun w1 hb => parts_any n (by omega) HN2.out E (by omega) _ w1 (HE.out.below (w' := w1) hb))
   obtain ⟨N, hN⟩ : ∃ N, n.toNat = N := ⟨_, rfl⟩
   have hN2 : (N : Int) ≤ 200 := by omega
   have hmax : max n 0 = (N : Int) := by omega
   have HNN := hid_intro hN
   clear hN
   go_wp2_with fail
   refine HCY.out.mono ?_
   rintro r w1 ⟨hb1, v1, c, rfl, -, hc, -⟩
   have HP1 := hid_intro (HPA.out w1 hb1)
   have HB1 := hid_intro hb1
   have HC := hid_intro hc
   obtain ⟨ok, hok⟩ : ∃ ok, (!c.isEmpty) = ok := ⟨_, rfl⟩
   have HOK := hid_intro hok
   rw [hok]
   clear hb1 hc hok
   go_wp2_with fail
   refine HP1.out.mono ?_
   rintro r w2 ⟨hb2, P, pv, hP, rfl, ho2⟩
   have HB2 := hid_intro (vb_t HB1.out hb2)
   have HPP := hid_intro hP
   have HTW := hid_intro (two_says hP HC.out)
   obtain ⟨po, pc, rfl, -, hpp⟩ := (ho2.ii (fun _ => False) (fun _ _ h => h)).shape
   have HCE := hid_intro hpp
   rw [HNN.out, HOK.out] at HTW
   rw [outL_len, HNN.out]
   rw [HNN.out] at HCE
   clear hb2 hP ho2 hpp
   go_wp2_with fail
   go_loopg [8, 9] (N) (fun g s8 s9 wr => ∃ i : Nat, g = N - i ∧ s8 = .bool (someB P i) ∧ s9 = .int .i64 (i : Int) ∧ Hid (i ≤ N ∧ Below w2.heap.size w2 wr))
   case atStart => exact ⟨0, rfl, rfl, rfl, hid_intro ⟨Nat.zero_le _, Below.refl _ _⟩⟩
   case round =>
    obtain ⟨i, rfl, rfl, rfl, HI⟩ := hrel
    by_cases hi : i < N
    ·have hiI : (i : Int) < (N : Int) := by omega
     have hpi : P i ≤ i := HPP.out.le i
     have hid := HPP.out.idem i
     obtain ⟨pb, poff, rfl, hcell⟩ := HCE.out.resolve_left (fun e => by have := congrArg List.length e; rw [outL_len] at this; rw [this] at hi; simp at hi)
     have c1 := hcell wr HI.out.2 i (by rw [outL_len]; exact hi)
     rw [outL_at P hi] at c1
     have c2 := hcell wr HI.out.2 (P i) (by rw [outL_len]; omega)
     rw [outL_at P (by omega : P i < N), hid] at c2
     have HSB := hid_intro (someB_succ P i)
     obtain ⟨sb, hsb⟩ : ∃ sb, someB P i = sb := ⟨_, rfl⟩
     rw [hsb] at HSB ⊢
     obtain ⟨p, hp⟩ : ∃ p, P i = p := ⟨_, rfl⟩
     rw [hp] at HSB c1 c2 hpi
     have hp0 : ¬ (p : Int) < 0 := by omega
     have hpiI : ¬ (i : Int) < (p : Int) := by omega
     have hpN : (p : Int) < (N : Int) := by omega
     have HLT := hid_intro hi
     have hd0 : decide ((p : Int) < 0) = false := decide_eq_false hp0
     have hd1 : decide ((i : Int) < (p : Int)) = false := decide_eq_false hpiI
     have hd2 : decide (i < p) = false := decide_eq_false (by omega)
     clear hid hcell hsb hp hi hpi
     go_wp2_with fail
     go_quiet (fail)
     have HB3 := hid_intro (vb_n HI.out.2 nq)
     have c3 : (wr.drewN nq).cell? ⟨pb, poff + i, none⟩ = some (.int .i64 (p : Int)) := c1
     clear c1 c2
     generalize wr.drewN nq = wq at *
     cases sb with
     | true =>
      have HSC : Hid (someB P (i + 1) = true) := hid_intro (by rw [HSB.out]; rfl)
      go_wp2_with fail
      go_roundg (N - (i + 1))
      case measure => have := HLT.out; omega
      case rel => exact ⟨i + 1, rfl, by rw [HSC.out], by go_num, hid_intro ⟨HLT.out, HB3.out⟩⟩
     | false =>
      by_cases hpe : (p : Int) = (i : Int)
      ·have HSC : Hid (someB P (i + 1) = false) := hid_intro (by rw [HSB.out]; simp; omega)
       obtain rfl : p = i := by omega
       go_wp2_with fail
       go_roundg (N - (p + 1))
       case measure => have := HLT.out; omega
       case rel => exact ⟨p + 1, rfl, by rw [HSC.out], by go_num, hid_intro ⟨HLT.out, HB3.out⟩⟩
      ·have HSC : Hid (someB P (i + 1) = true) := hid_intro (by rw [HSB.out]; simp; omega)
       have HPE : Hid (((p : Int) != (i : Int)) = true) := hid_intro (bne_iff_ne.2 hpe)
       go_wp2_with fail
       go_roundg (N - (i + 1))
       case measure => have := HLT.out; omega
       case rel => exact ⟨i + 1, rfl, by rw [HSC.out, HPE.out], by go_num, hid_intro ⟨HLT.out, HB3.out⟩⟩
    ·have hiI : ¬ (i : Int) < (N : Int) := by omega
     obtain rfl : i = N := by have := HI.out.1; omega
     have HB4 := hid_intro (vb_t HB2.out HI.out.2)
     obtain ⟨sb, hsb⟩ : ∃ sb, someB P i = sb := ⟨_, rfl⟩
     have HTW2 := hid_intro HTW.out
     rw [hsb] at HTW2 ⊢
     clear hsb hi
     go_wp2_with fail
     have hol : ((E.length : Nat) : Int) ≤ 300 := by omega
     go_loopg [8, 10, 11] (E.length) (fun g s8 s10 s11 wq => ∃ j : Nat, g = E.length - j ∧ s8 = .bool (sb || selfB n (E.take j)) ∧ s10 = .int .i64 (j : Int) ∧ Hid (j ≤ E.length ∧ Below w.heap.size w wq))
     case atStart => exact ⟨0, rfl, by rw [List.take_zero]; show _ = Value.bool (sb || false); rw [Bool.or_false], rfl, hid_intro ⟨Nat.zero_le _, HB4.out⟩⟩
     case round =>
      obtain ⟨j, rfl, rfl, rfl, HJ⟩ := hrel
      by_cases hj : j < E.length
      ·have hjI : (j : Int) < (E.length : Int) := by omega
       obtain ⟨bb, off, rfl, hbl, hcell⟩ := HROW.out.resolve_left (fun e => by rw [e] at hj; exact absurd hj (by simp))
       obtain ⟨k0, k1, k2, k3, k4⟩ := hcell j hj
       replace k0 := (HJ.out.2.cell (p := ⟨bb, off + j * 5, none⟩) hbl).trans k0
       replace k1 := (HJ.out.2.cell (p := ⟨bb, off + j * 5 + 1, none⟩) hbl).trans k1
       replace k2 := (HJ.out.2.cell (p := ⟨bb, off + j * 5 + 2, none⟩) hbl).trans k2
       replace k3 := (HJ.out.2.cell (p := ⟨bb, off + j * 5 + 3, none⟩) hbl).trans k3
       replace k4 := (HJ.out.2.cell (p := ⟨bb, off + j * 5 + 4, none⟩) hbl).trans k4
       have HSN := hid_intro (selfB_snoc (n := n) hj)
       have HLJ := hid_intro hj
       have HBJ := hid_intro HJ.out.2
       obtain ⟨s0, hs0⟩ : ∃ s0, (sb || selfB n (E.take j)) = s0 := ⟨_, rfl⟩
       have HSS : Hid ((sb || selfB n (E.take (j + 1))) = (s0 || slf n E[j])) := hid_intro (by rw [HSN.out, ← Bool.or_assoc, hs0]; rfl)
       rw [hs0]
       generalize E[j] = ed at *
       obtain ⟨ef, et, wd, sv, dy⟩ := ed
       dsimp only at k0 k1 k2 k3 k4
       clear hcell hj hs0 HSN hbl
       unfold slf at HSS
       dsimp only at HSS
       have fin : ∀ b : Bool, (s0 || (sv && decide (ef = et) && decide (0 ≤ ef) && decide (ef < n))) = b → (sb || selfB n (E.take (j + 1))) = b := fun b h => HSS.out.trans h
       have HFI := hid_intro fin
       clear fin
       cases s0 with
       | true =>
        have HSC := hid_intro (HFI.out true (by rfl))
        clear HFI
        go_wp2_with fail
        go_roundg (E.length - (j + 1))
        case measure => have := HLJ.out; omega
        case rel => exact ⟨j + 1, rfl, by rw [HSC.out], by go_num, hid_intro ⟨HLJ.out, vb_t HBJ.out (vb_a (Below.refl _ _) _)⟩⟩
       | false =>
        cases sv with
        | false =>
         have HSC := hid_intro (HFI.out false (by rfl))
         clear HFI
         go_wp2_with fail
         go_roundg (E.length - (j + 1))
         case measure => have := HLJ.out; omega
         case rel => exact ⟨j + 1, rfl, by rw [HSC.out], by go_num, hid_intro ⟨HLJ.out, vb_t HBJ.out (vb_a (Below.refl _ _) _)⟩⟩
        | true =>
         by_cases h1 : ef = et
         ·subst h1
          by_cases h2 : (0 : Int) ≤ ef
          ·by_cases h3 : ef < n
           ·have HSC := hid_intro (HFI.out true (by rw [decide_eq_true h2, decide_eq_true h3]; simp))
            clear HFI
            go_wp2_with fail
            go_roundg (E.length - (j + 1))
            case measure => have := HLJ.out; omega
            case rel => exact ⟨j + 1, rfl, by rw [HSC.out], by go_num, hid_intro ⟨HLJ.out, vb_t HBJ.out (vb_a (Below.refl _ _) _)⟩⟩
           ·have HSC := hid_intro (HFI.out false (by simp; omega))
            clear HFI
            go_wp2_with fail
            go_roundg (E.length - (j + 1))
            case measure => have := HLJ.out; omega
            case rel => exact ⟨j + 1, rfl, by rw [HSC.out], by go_num, hid_intro ⟨HLJ.out, vb_t HBJ.out (vb_a (Below.refl _ _) _)⟩⟩
          ·have HSC := hid_intro (HFI.out false (by simp; omega))
           clear HFI
           go_wp2_with fail
           go_roundg (E.length - (j + 1))
           case measure => have := HLJ.out; omega
           case rel => exact ⟨j + 1, rfl, by rw [HSC.out], by go_num, hid_intro ⟨HLJ.out, vb_t HBJ.out (vb_a (Below.refl _ _) _)⟩⟩
         ·have HSC := hid_intro (HFI.out false (by simp [h1]))
          clear HFI
          go_wp2_with fail
          go_roundg (E.length - (j + 1))
          case measure => have := HLJ.out; omega
          case rel => exact ⟨j + 1, rfl, by rw [HSC.out], by go_num, hid_intro ⟨HLJ.out, vb_t HBJ.out (vb_a (Below.refl _ _) _)⟩⟩
      ·have hjI : ¬ (j : Int) < (E.length : Int) := by omega
       have hje : j = E.length := by have := HJ.out.1; omega
       have HTF : Hid (ok = (sb || selfB n (E.take j))) := hid_intro (by rw [hje, List.take_length]; exact HTW2.out)
       have HBJ := hid_intro HJ.out.2
       rw [← HTF.out]
       clear hje hj HTF
       go_wp2_with fail
       refine (heads_any wr).mono ?_
       rintro r w4 ⟨rfl, hb4⟩
       have HB5 := hid_intro (vb_t HBJ.out hb4)
       clear hb4
       go_wp2_with fail
       rw [HQ.out]
       exact ⟨rfl, HB5.out⟩
end Go.Proofs.Ytnlgeiofkfkhbaa
