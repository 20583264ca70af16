/-
  turned: the rows of the edges turned round. Conditions: at most 1000 places, rows of at most 2^20.
-/
import Derived.Test.YtnlgeiofkfkhbaaJoined29
namespace Go.Proofs.Ytnlgeiofkfkhbaa
open Go.RowKit Go.Maps Lg
attribute [local go_sem] setCell_drewN alloc_drewN

/-- The edges turned round, from the first places. -/
def trn (R : Nat → List Nat) (i : Nat) : List (Nat × Nat) := (List.range i).flatMap fun f => (R f).map fun t => (t, f)
theorem trn_succ (R : Nat → List Nat) (i : Nat) : trn R (i + 1) = trn R i ++ (R i).map fun t => (t, i) := by
 unfold trn
 rw [List.range_succ, List.flatMap_append]
 simp
theorem trn_len (R : Nat → List Nat) (hR : ∀ v, (R v).length ≤ 1048576) : ∀ i, (trn R i).length ≤ i * 1048576
 | 0 => by simp [trn]
 | i + 1 => by
  rw [trn_succ, List.length_append, List.length_map]
  have := trn_len R hR i
  have := hR i
  omega
theorem mem_trn {R : Nat → List Nat} {i a b : Nat} : b ∈ rowOf (trn R i) a ↔ b < i ∧ a ∈ R b := by
 rw [mem_rowOf]
 unfold trn
 simp only [List.mem_flatMap, List.mem_range, List.mem_map, Prod.mk.injEq]
 constructor
 ·rintro ⟨f, hf, t, ht, rfl, rfl⟩
  exact ⟨hf, ht⟩
 ·rintro ⟨h1, h2⟩
  exact ⟨b, h1, a, h2, rfl, rfl⟩
/-- Where its loops stand. -/
structure TnI (R : Nat → List Nat) (m g i j : Nat) (W0 wr : World) : Prop where
 bel : Below W0.heap.size W0 wr
 om : OM wr (g + 1) g m (rowOf (trn R i ++ ((R i).take j).map fun t => (t, i)))
 sz : g + 1 ≤ wr.heap.size
theorem OM.but {w w' : World} {B g m : Nat} {R : Nat → List Nat} {X : Nat → Prop} (h : OM w B g m R) (hb : But X w w') (hg : ¬ X g) (hX : ∀ b, B ≤ b → ¬ X b) : OM w' B g m R := by
 obtain ⟨vs, h1, h2, h3, h4, h5⟩ := h
 exact ⟨vs, h1, h2.but hb hg, h3, fun i hi => (h4 i hi).but hb (fun b hb => hX b ((h4 i hi).lt hb).1), h5⟩
theorem OM.mxb {w : World} {B g m N : Nat} {R : Nat → List Nat} (h : OM w B g m R) (hg : N ≤ g) : MX w (fun b => b < N) g m R := by
 obtain ⟨vs, h1, h2, h3, h4, h5⟩ := h
 exact ⟨vs, h1, h2, by omega, fun i hi => (h4 i hi).ii _ (fun b hb => by have := ((h4 i hi).lt hb).1; omega)⟩

set_option maxRecDepth 100000 in
set_option maxHeartbeats 3200000 in
theorem turned_any (R : Nat → List Nat) (m g0 : Nat) (hm : m ≤ 1000) (hR : ∀ v, ∀ t ∈ R v, t < m) (hRl : ∀ v, (R v).length ≤ 1048576) (nv : Value) (hnv : ∃ ao n c, nv = .slice ao n c) (w : World) (hM : MX w (fun _ => False) g0 m R) :
  Calls Try.prog 40 #[.agg #[nv, .slice (some ⟨g0, 0, none⟩) m m]] w fun r w' => ∃ g, r = .returned (.slice (some ⟨g, 0, none⟩) m m) ∧ Below w.heap.size w w' ∧ MX w' (fun b => b < w.heap.size) g m (rowOf (trn R m)) := by
 obtain ⟨Q0, hQ0⟩ : ∃ P' : Ending → World → Prop, P' = fun r w' => ∃ g, r = .returned (.slice (some ⟨g, 0, none⟩) m m) ∧ Below w.heap.size w w' ∧ MX w' (fun b => b < w.heap.size) g m (rowOf (trn R m)) := ⟨_, rfl⟩
 rw [← hQ0]
 have HQ := hid_intro hQ0
 obtain ⟨no, nn, nc, rfl⟩ := hnv
 have hmI : (m : Int) ≤ 1000 := by omega
 have HRR := hid_intro (And.intro hR (And.intro hRl hm))
 have hb0 : Below w.heap.size w (w.alloc (.cells #[.slice no nn nc, .slice (some ⟨g0, 0, none⟩) m m] 36)) := vb_a (Below.refl _ _) _
 have kB := Bk.new w #[.slice no nn nc, .slice (some ⟨g0, 0, none⟩) m m] 36
 obtain ⟨W0, hW0⟩ : ∃ W0, w.alloc (.cells #[.slice no nn nc, .slice (some ⟨g0, 0, none⟩) m m] 36) = W0 := ⟨_, rfl⟩
 rw [hW0] at hb0 kB
 have HB0 := hid_intro (And.intro hb0 kB)
 have HM0 := hid_intro (hM.but (But.ofBelow hb0))
 obtain ⟨c0, c1⟩ := kB.c2b
 have hl1 : ∀ o, (W0.alloc o).cell? ⟨w.heap.size, 1, none⟩ = some (.slice (some ⟨g0, 0, none⟩) m m) := fun o => (kB.al o).c2b.2
 clear hQ0 hm hR hRl hM hb0 kB
 go_enter Try.func40, Try.ntmps40
 go_wp2_with (at_make; refine wpList_make_r rfl _ _ rfl m rfl rfl (by have := HRR.out; omega) ?_)
 obtain ⟨W1, hW1⟩ : ∃ W1, W0.alloc (.cells (nils m).toArray 23) = W1 := ⟨_, rfl⟩
 obtain ⟨g, hg⟩ : ∃ g, W0.heap.size = g := ⟨_, rfl⟩
 have HI0 : Hid (TnI R m g 0 0 W0 W1) := hid_intro ⟨by rw [← hW1]; exact vb_a (Below.refl _ _) _, by
  have := OM.made W0 m
  rw [hW1, hg] at this
  have e : rowOf (trn R 0 ++ ((R 0).take 0).map fun t => (t, 0)) = fun _ => [] := by funext x; simp [trn, rowOf]
  rw [e]; exact this, by rw [← hW1, ← hg]; simp⟩
 rw [hW1, hg]
 clear hl1
 clear hW1 hW0 c0 c1
 go_loopg [4, 5, 7, 15, 22] (m) (fun g2 s4 s5 s7 s15 s22 wr => ∃ i : Nat, g2 = m - i ∧ s15 = .int .i64 (i : Int) ∧ i ≤ m ∧ Hid (TnI R m g i 0 W0 wr))
 case atStart => exact ⟨0, rfl, rfl, Nat.zero_le _, HI0⟩
 case round =>
  obtain ⟨i, rfl, rfl, him, HI⟩ := hrel
  by_cases hi : i < m
  ·have hiI : (i : Int) < (m : Int) := by omega
   have HLI := hid_intro hi
   obtain ⟨rv, q3, hrv⟩ := HM0.out.at hi
   obtain ⟨rao, rrc, rfl, -, hrc⟩ := hrv.shape
   rw [il_len] at q3
   replace q3 := (HI.out.bel.cell (p := ⟨g0, i, none⟩) (World.block_lt_of_cell? W0 _ q3)).trans q3
   have HRC := hid_intro hrc
   have hrlI : (((R i).length : Nat) : Int) ≤ 1048576 := by have := HRR.out.2.1 i; omega
   clear hrc hi him
   go_wp2_with fail
   go_loopg [7, 22] ((R i).length) (fun g2 s7 s22 wr => ∃ j : Nat, g2 = (R i).length - j ∧ s22 = .int .i64 (j : Int) ∧ j ≤ (R i).length ∧ Hid (TnI R m g i j W0 wr))
   case atStart => exact ⟨0, rfl, rfl, Nat.zero_le _, HI⟩
   case round =>
    obtain ⟨j, rfl, rfl, hjm, HJ⟩ := hrel
    by_cases hj : j < (R i).length
    ·have hjI : (j : Int) < (((R i).length : Nat) : Int) := by omega
     obtain ⟨rob, roff, rfl, hrx⟩ := HRC.out.resolve_left (fun e => by have := congrArg List.length e; rw [il_len] at this; rw [this] at hj; simp at hj)
     have c1 := hrx wr HJ.out.bel j (by rw [il_len]; exact hj)
     rw [il_at hj] at c1
     obtain ⟨tt, htt⟩ : ∃ tt, (R i)[j] = tt := ⟨_, rfl⟩
     rw [htt] at c1
     have htl : tt < m := HRR.out.1 i tt (htt ▸ List.getElem_mem hj)
     have htlI : (tt : Int) < (m : Int) := by omega
     obtain ⟨es, hes⟩ : ∃ es, trn R i ++ ((R i).take j).map (fun t => (t, i)) = es := ⟨_, rfl⟩
     have hom := HJ.out.om
     rw [hes] at hom
     obtain ⟨v, ⟨vo, vn, vc, rfl⟩, d0, d1, how, hvg, hap⟩ := hom.app (t := i) htl
     have HRW := hid_intro (show updR (rowOf es) tt i = rowOf (trn R i ++ ((R i).take (j + 1)).map fun t => (t, i)) by
      rw [List.take_succ_eq_append_getElem hj, List.map_append, ← List.append_assoc, htt, hes]
      exact row_snoc.symm)
     have hlen : (il (rowOf es tt)).length ≤ 1099511627776 := by
      rw [il_len]
      refine Nat.le_trans (rowOf_len _ _) ?_
      rw [← hes, List.length_append, List.length_map]
      have h1 := trn_len R HRR.out.2.1 i
      have h2 := List.length_take_le j (R i)
      have h3 := HRR.out.2.1 i
      have h4 := HRR.out.2.2
      have h5 := HLI.out
      have h6 : i * 1048576 ≤ 1000 * 1048576 := Nat.mul_le_mul_right _ (by omega)
      omega
     have HL := hid_intro hlen
     have HOW := hid_intro how
     have HAP := hid_intro hap
     have HSZ := hid_intro HJ.out.sz
     have HCE : Hid (∀ w5, (wr.alloc (.cells #[.int .i64 (i : Int)] 3)).grownBy w5 (Value.slice vo vn vc).ownBlock → w5.cell? ⟨g, tt, none⟩ = some (.slice vo vn vc) ∧ w5.frozen? ⟨g, tt, none⟩ = false) := hid_intro (fun w5 h5 => by
      have hlt : g < wr.heap.size := HJ.out.sz
      have e : w5.heap[g]? = wr.heap[g]? := (h5.block g (by simp; omega) (fun h => hvg h.symm)).trans ((vb_a (Below.refl _ wr) _).block g hlt)
      exact ⟨(World.cell?_of_block (w := wr) (w' := w5) (a := ⟨g, tt, none⟩) e).trans d0, (World.frozen?_of_block (w := wr) (w' := w5) (a := ⟨g, tt, none⟩) e).trans d1⟩)
     have HII := hid_intro (show I64 (i : Int) from ⟨by omega, by omega⟩)
     have d2 : ∀ o, (wr.alloc o).cell? ⟨g, tt, none⟩ = some (.slice vo vn vc) := fun o => ((vb_a (Below.refl _ wr) o).cell (p := ⟨g, tt, none⟩) HJ.out.sz).trans d0
     have HLJ := hid_intro hj
     clear hrx htl how hvg hap hlen htt hj hjm hom hes
     go_wp2_with (at_builtin; refine wpList_append_i rfl _ _ rfl (g + 1) (.slice vo vn vc) (il (rowOf es tt)) rfl HOW.out HSZ.out HL.out (i : Int) HII.out _ rfl rfl ?_; intro g5 c5 w5 ho5 hg5 hl5; obtain ⟨e0, e1⟩ := HCE.out w5 hg5; have HF := hid_intro (HAP.out g5 c5 _ w5 (vb_a (Below.refl _ _) _) ho5 hg5 (hl5.imp id Nat.le_of_lt)); clear ho5 hg5 hl5)
     go_roundg ((R i).length - (j + 1))
     case measure => have := HLJ.out; omega
     case rel =>
      refine ⟨j + 1, rfl, by go_num, HLJ.out, hid_intro ⟨HJ.out.bel.trans (HF.out.2.toBelow (fun b hb => by omega) HJ.out.bel.size), HRW.out ▸ HF.out.1, Nat.le_trans HSZ.out HF.out.2.size⟩⟩
    ·have hjI : ¬ (j : Int) < (((R i).length : Nat) : Int) := by omega
     have HJE := hid_intro (show j = (R i).length by omega)
     clear hj hjm
     go_wp2_with fail
     go_roundg (m - (i + 1))
     case measure => have := HLI.out; omega
     case rel =>
      refine ⟨i + 1, rfl, by go_num, HLI.out, hid_intro ⟨HJ.out.bel, ?_, HJ.out.sz⟩⟩
      have h := HJ.out.om
      rw [HJE.out, List.take_length] at h
      have e : trn R (i + 1) ++ ((R (i + 1)).take 0).map (fun t => (t, i + 1)) = trn R i ++ (R i).map fun t => (t, i) := by rw [trn_succ]; simp
      rw [e]; exact h
  ·have hiI : ¬ (i : Int) < (m : Int) := by omega
   have hie : i = m := by omega
   go_wp2_with fail
   rw [HQ.out]
   have h := HI.out.om
   rw [hie] at h
   refine ⟨g, rfl, HB0.out.1.trans (HI.out.bel.mono HB0.out.1.size), ?_⟩
   have e : trn R m ++ ((R m).take 0).map (fun t => (t, m)) = trn R m := by simp
   rw [e] at h
   exact h.mxb (by have := HB0.out.1.size; omega)
end Go.Proofs.Ytnlgeiofkfkhbaa
