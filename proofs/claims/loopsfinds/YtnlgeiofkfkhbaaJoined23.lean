/-
  The net's rows, edge by edge. Conditions: at most 2^20 numbers, rows of at most 2^20.
-/
import Derived.Test.YtnlgeiofkfkhbaaJoined22
namespace Go.Proofs.Ytnlgeiofkfkhbaa
open Go.RowKit Go.Maps Lg
attribute [local go_sem] setCell_drewN alloc_drewN

theorem ent_net1 : ∀ args w, (callFunc 32 args).run Try.prog w = .ok (.enter 32 args) w := enters_of Try.func32 (by kernel_rfl) rfl
theorem Bk.c2b {w : World} {b : Nat} {x0 x1 : Value} (h : Bk w b #[x0, x1]) : w.cell? ⟨b, 0, none⟩ = some x0 ∧ w.cell? ⟨b, 1, none⟩ = some x1 := ⟨h.cell 0, h.cell 1⟩

set_option maxRecDepth 100000 in
set_option maxHeartbeats 3200000 in
theorem net1_any (nums : List Nat) (hr : Rise nums) (hl : nums.length ≤ 1048576) (nv : Value) (wb g m : Nat) (hm : nums.length = m) (hwb : wb < g) (f t : Nat) (hf : f ∈ nums) (ht : t ∈ nums) (R : Nat → List Nat) (hRl : ∀ p, (R p).length ≤ 1048576) (w : World)
  (hN : II w (fun b => b = g ∨ g + 1 ≤ b) (il nums) nv) (kw : Bk w wb #[nv, .slice (some ⟨g, 0, none⟩) m m]) (hom : OM w (g + 1) g m R) :
  Calls Try.prog 32 #[.int .i64 (f : Int), .int .i64 (t : Int), pt wb] w fun r w' => r = .returned (.tuple #[]) ∧ But (fun b => b = g ∨ g + 1 ≤ b) w w' ∧ OM w' (g + 1) g m (updR R (nums.idxOf f) (nums.idxOf t)) := by
 obtain ⟨Q0, hQ0⟩ : ∃ P' : Ending → World → Prop, P' = fun r w' => r = .returned (.tuple #[]) ∧ But (fun b => b = g ∨ g + 1 ≤ b) w w' ∧ OM w' (g + 1) g m (updR R (nums.idxOf f) (nums.idxOf t)) := ⟨_, rfl⟩
 rw [← hQ0]
 have HQ := hid_intro hQ0
 have hpm : nums.idxOf f < m := hm ▸ List.idxOf_lt_length_of_mem hf
 have htm : nums.idxOf t < m := hm ▸ List.idxOf_lt_length_of_mem ht
 have HPL := hid_intro (fun (x : Nat) (hx : x ∈ nums) w' (hb : Below w.heap.size w w') => place_any nums hr hl x hx nv (.slice (some ⟨g, 0, none⟩) m m) _ w' (hN.kept hb) ⟨_, _, _, rfl⟩)
 have HPF := hid_intro (fun w' hb => HPL.out f hf w' hb)
 have HPT := hid_intro (fun w' hb => HPL.out t ht w' hb)
 clear HPL
 obtain ⟨no, nc, rfl, -⟩ := id hN
 have HTI := hid_intro (show I64 ((nums.idxOf t : Nat) : Int) from ⟨by omega, by omega⟩)
 have HRL := hid_intro (show (il (R (nums.idxOf f))).length ≤ 1099511627776 by rw [il_len]; have := hRl (nums.idxOf f); omega)
 have HOM := hid_intro hom
 have HKW := hid_intro kw
 have HPM := hid_intro hpm
 have hpI : ((nums.idxOf f : Nat) : Int) < (m : Int) := by omega
 have hmI : (m : Int) ≤ 1048576 := by omega
 obtain ⟨c0, c1⟩ := kw.c2b
 have HWB := hid_intro hwb
 have hSZ := (show g + 1 ≤ w.heap.size from by obtain ⟨vs, _, k, _⟩ := hom; exact k.lt)
 have HSZ := hid_intro hSZ
 dsimp only [pt]
 generalize nums.idxOf f = p at *
 generalize nums.idxOf t = q at *
 clear hQ0 hr hl hm hwb hf ht hRl hN kw hom htm hSZ
 go_enter Try.func32, Try.ntmps32
 go_wp2_with fail
 refine (HPF.out _ (Below.refl _ _)).mono ?_
 rintro r w1 ⟨rfl, hb1⟩
 have HOM1 := hid_intro (HOM.out.bel hb1)
 have HB1 := hid_intro hb1
 obtain ⟨v, ⟨vo, vn, vc, rfl⟩, d0, d1, how, hvg, hap⟩ := HOM1.out.app (t := q) hpm
 have HOW := hid_intro how
 have HVG := hid_intro hvg
 have HAP := hid_intro hap
 have hkw1 := HKW.out.bel hb1
 have HKW1 := hid_intro hkw1
 have HS : Hid (∀ w', But (fun b => b = g ∨ (Value.slice vo vn vc).ownBlock = some b) w1 w' → w'.cell? ⟨wb, 0, none⟩ = some (.slice no (il nums).length nc) ∧ w'.cell? ⟨wb, 1, none⟩ = some (.slice (some ⟨g, 0, none⟩) m m)) := hid_intro (fun w' hb => (HKW1.out.but hb (fun h => by
  have := HWB.out
  rcases h with h | h
  ·omega
  ·have := (HOW.out.lt h).1; omega)).c2b)
 have HSZ1 : Hid (g + 1 ≤ w1.heap.size) := hid_intro (Nat.le_trans HSZ.out hb1.size)
 have HGB : Hid (∀ w', Below w1.heap.size w1 w' → w'.cell? ⟨g, p, none⟩ = some (.slice vo vn vc) ∧ w'.frozen? ⟨g, p, none⟩ = false) := hid_intro (fun w' hb => by
  have hlt : g < w1.heap.size := HSZ1.out
  exact ⟨(hb.cell (p := ⟨g, p, none⟩) hlt).trans d0, (World.frozen?_of_block (hb.block g hlt)).trans d1⟩)
 have HG5 : Hid (∀ w', But (fun b => (Value.slice vo vn vc).ownBlock = some b) w1 w' → w'.cell? ⟨g, p, none⟩ = some (.slice vo vn vc) ∧ w'.frozen? ⟨g, p, none⟩ = false) := hid_intro (fun w' hb => by
  have hlt : g < w1.heap.size := HSZ1.out
  have e := hb.block g hlt HVG.out
  exact ⟨(World.cell?_of_block (w := w1) (w' := w') (a := ⟨g, p, none⟩) e).trans d0, (World.frozen?_of_block (w := w1) (w' := w') (a := ⟨g, p, none⟩) e).trans d1⟩)
 have HQT : Hid (∀ w', Below w1.heap.size w1 w' → Calls Try.prog 33 #[.agg #[.slice no (il nums).length nc, .slice (some ⟨g, 0, none⟩) m m], .int .i64 (t : Int)] w' fun r w2 => r = .returned (.int .i64 (q : Int)) ∧ Below w'.heap.size w' w2) := hid_intro (fun w' hb => HPT.out w' (HB1.out.trans (hb.mono HB1.out.size)))
 clear how hvg hap hkw1 hb1 c0 c1 hpm
 go_wp2_with fail
 obtain ⟨c0, c1⟩ := HS.out w1 (But.refl _ _)
 go_region_law (first | (go_simp; go_at_call 33; refine (HQT.out _ (by with_reducible repeat (first | exact Below.refl _ _ | refine vb_d ?_ | refine vb_a ?_ _ | refine vb_t ?_ HB4.out))).mono ?_; rintro e w4 ⟨rfl, hb4⟩; have HB4 := hid_intro hb4; obtain ⟨d4, z4⟩ := HGB.out w4 (by with_reducible repeat (first | exact Below.refl _ _ | refine vb_d ?_ | refine vb_a ?_ _ | refine vb_t ?_ HB4.out)); have d5 : ∀ o, (w4.alloc o).cell? ⟨g, p, none⟩ = some (.slice vo vn vc) := fun o => (HGB.out _ (by with_reducible repeat (first | exact Below.refl _ _ | refine vb_d ?_ | refine vb_a ?_ _ | refine vb_t ?_ HB4.out))).1; obtain ⟨e4, f4⟩ := HS.out w4 (But.ofBelow (by with_reducible repeat (first | exact Below.refl _ _ | refine vb_d ?_ | refine vb_a ?_ _ | refine vb_t ?_ HB4.out))); have e5 : ∀ o, (w4.alloc o).cell? ⟨wb, 1, none⟩ = some (.slice (some ⟨g, 0, none⟩) m m) := fun o => (HS.out _ (But.ofBelow (by with_reducible repeat (first | exact Below.refl _ _ | refine vb_d ?_ | refine vb_a ?_ _ | refine vb_t ?_ HB4.out)))).2; clear hb4) | (refine step_app_i (by rfl) _ _ (by rfl) (g + 1) (.slice vo vn vc) (il (R p)) (by rfl) (q : Int) _ (by rfl) HTI.out HRL.out ?_ ?_ ?_ ?_; (focus (refine Nat.le_trans HSZ1.out (Below.size (B := w1.heap.size) ?_); with_reducible repeat (first | exact Below.refl _ _ | refine vb_d ?_ | refine vb_a ?_ _ | refine vb_t ?_ HB4.out))); (focus (refine OwnI.bel HOW.out ?_; with_reducible repeat (first | exact Below.refl _ _ | refine vb_d ?_ | refine vb_a ?_ _ | refine vb_t ?_ HB4.out))); (focus (refine Bk.q1 ?_; with_reducible repeat (first | exact Bk.new _ _ _ | refine Bk.dw ?_ | refine Bk.al ?_ _))); intro g5 c5 w5 ho5 hg5 hl5; have HB5 : Hid (But (fun b => (Value.slice vo vn vc).ownBlock = some b) w1 w5) := hid_intro ((But.ofBelow (by with_reducible repeat (first | exact Below.refl _ _ | refine vb_d ?_ | refine vb_a ?_ _ | refine vb_t ?_ HB4.out))).grown hg5 (fun b h => Or.inl h)); have HFI := hid_intro (HAP.out g5 c5 _ w5 (by with_reducible repeat (first | exact Below.refl _ _ | refine vb_d ?_ | refine vb_a ?_ _ | refine vb_t ?_ HB4.out)) ho5 hg5 (hl5.imp id (fun h => Nat.le_trans (Below.size (B := w1.heap.size) (by with_reducible repeat (first | exact Below.refl _ _ | refine vb_d ?_ | refine vb_a ?_ _ | refine vb_t ?_ HB4.out))) h))); obtain ⟨k5, y5⟩ := HG5.out w5 HB5.out; obtain ⟨e6, f6⟩ := HS.out w5 (HB5.out.more (fun b h => Or.inr h)); clear ho5 hg5 hl5) | fail)
 all_goals
  go_wp2_with fail
  go_end0
  rw [HQ.out]
  exact ⟨rfl, (But.ofBelow HB1.out).trans HFI.out.2, HFI.out.1⟩
end Go.Proofs.Ytnlgeiofkfkhbaa
