/-
  namesOf: the numbers at some places. Conditions: at most 2^20 places.
-/
import Derived.Test.YtnlgeiofkfkhbaaJoined19
namespace Go.Proofs.Ytnlgeiofkfkhbaa
open Go.RowKit Go.Maps Lg
attribute [local go_sem] setCell_drewN alloc_drewN

def fI (f : Nat → Nat) (N i : Nat) : List Int := (List.range N).map fun (k : Nat) => if k < i then ((f k : Nat) : Int) else 0
theorem fI_len (f : Nat → Nat) (N i : Nat) : (fI f N i).length = N := by simp [fI]
theorem fI_0 (f : Nat → Nat) (N : Nat) : fI f N 0 = List.replicate N 0 := by
 apply List.ext_getElem (by simp [fI])
 intro i h1 h2
 simp [fI]
theorem fI_all (f : Nat → Nat) (N : Nat) : fI f N N = il ((List.range N).map f) := by
 unfold fI il
 rw [List.map_map]
 exact List.map_congr_left fun k hk => by rw [if_pos (List.mem_range.1 hk)]; rfl
theorem fI_set (f : Nat → Nat) (N i : Nat) : (fI f N i).set i (f i : Int) = fI f N (i + 1) := by
 apply List.ext_getElem (by simp [fI])
 intro j h1 h2
 rw [List.getElem_set]
 simp only [fI, List.getElem_map, List.getElem_range]
 by_cases e : i = j
 ·subst e; simp
 ·rw [if_neg e]
  by_cases k : j < i
  ·rw [if_pos k, if_pos (by omega)]
  ·rw [if_neg k, if_neg (by omega)]
/-- The numbers at places. -/
def nms (nums c : List Nat) : List Nat := c.map fun p => nums.getD p 0
theorem nms_f (nums c : List Nat) : (List.range c.length).map (fun k => nums.getD (c.getD k 0) 0) = nms nums c := by
 unfold nms
 apply List.ext_getElem (by simp)
 intro i h1 h2
 have : i < c.length := by simpa using h1
 simp [this]

set_option maxRecDepth 100000 in
set_option maxHeartbeats 3200000 in
theorem namesOf_any (nums c : List Nat) (hc : ∀ p ∈ c, p < nums.length) (hnb : ∀ x ∈ nums, x ≤ 1048576) (hcl : c.length ≤ 1048576) (nv rv cv : Value) (w : World) (hN : II w (fun _ => False) (il nums) nv) (hrv : ∃ ao n c, rv = .slice ao n c) (hC : II w (fun _ => False) (il c) cv) :
  Calls Try.prog 21 #[.agg #[nv, rv], cv] w fun r w' => ∃ v, r = .returned v ∧ OwnI w' w.heap.size v (il (nms nums c)) ∧ Below w.heap.size w w' := by
 obtain ⟨Q0, hQ0⟩ : ∃ P' : Ending → World → Prop, P' = fun r w' => ∃ v, r = .returned v ∧ OwnI w' w.heap.size v (il (nms nums c)) ∧ Below w.heap.size w w' := ⟨_, rfl⟩
 rw [← hQ0]
 have HQ := hid_intro hQ0
 obtain ⟨no, nc, rfl, hn1, hn2⟩ := hN.shape
 obtain ⟨co, cc, rfl, hc1, hc2⟩ := hC.shape
 obtain ⟨ro, rn, rc, rfl⟩ := hrv
 rw [il_len] at hn1 hc1 ⊢
 rw [il_len]
 have HNB := hid_intro (And.intro hc hnb)
 have HN := hid_intro hn2
 have HC := hid_intro hc2
 have HCL := hid_intro hcl
 have hclI : (c.length : Int) ≤ 1048576 := by omega
 have hb0 : Below w.heap.size w (w.alloc (.cells #[.slice no nums.length nc, .slice ro rn rc] 36)) := vb_a (Below.refl _ _) _
 obtain ⟨W0, hW0⟩ : ∃ W0, w.alloc (.cells #[.slice no nums.length nc, .slice ro rn rc] 36) = W0 := ⟨_, rfl⟩
 have kW : Bk W0 w.heap.size #[.slice no nums.length nc, .slice ro rn rc] := by rw [← hW0]; exact Bk.new _ _ _
 have HB0 : Hid (Below w.heap.size w W0 ∧ Bk W0 w.heap.size #[.slice no nums.length nc, .slice ro rn rc] ∧ W0.heap.size = w.heap.size + 1) := hid_intro ⟨hW0 ▸ hb0, kW, by rw [← hW0]; simp⟩
 clear hQ0 hN hC hn2 hc2 hc hnb hcl hb0 kW
 go_enter Try.func21, Try.ntmps21
 go_wp2_with (at_make; refine wpList_make_i rfl _ _ rfl W0.heap.size c.length rfl rfl (by have := HCL.out; omega) (by first | exact Nat.le_refl _ | (rw [hW0]; exact Nat.le_refl _)) ?_; intro w1 ho1 hg1 _; have HO1 := hid_intro ho1; have HB1 : Hid (Below W0.heap.size W0 w1) := hid_intro ((Below.refl _ _).grown hg1 (Nat.le_refl _) (fun b e => by cases e)); clear ho1 hg1)
 go_loopg [6, 7, 13] (c.length) (fun g s6 s7 s13 wr => ∃ i : Nat, g = c.length - i ∧ s13 = .int .i64 (i : Int) ∧ Hid (Below W0.heap.size W0 wr ∧ i ≤ c.length ∧ OwnI wr W0.heap.size (.slice (some ⟨W0.heap.size, 0, none⟩) c.length c.length) (fI (fun k => nums.getD (c.getD k 0) 0) c.length i)))
 case atStart => exact ⟨0, rfl, rfl, hid_intro ⟨HB1.out, Nat.zero_le _, by rw [fI_0]; exact HO1.out⟩⟩
 case round =>
  obtain ⟨i, rfl, rfl, HI⟩ := hrel
  by_cases hlt : i < c.length
  ·have hI : (i : Int) < (c.length : Int) := by omega
   have hpm : c[i] ∈ c := List.getElem_mem hlt
   have hp := HNB.out.1 _ hpm
   have hbw : Below w.heap.size w wr := HB0.out.1.trans (HI.out.1.mono HB0.out.1.size)
   obtain ⟨cb, coff, rfl, hcx⟩ := HC.out.resolve_left (fun e => by have := congrArg List.length e; rw [il_len] at this; rw [this] at hlt; simp at hlt)
   obtain ⟨nb, noff, rfl, hnx⟩ := HN.out.resolve_left (fun e => by have := congrArg List.length e; rw [il_len] at this; rw [this] at hp; simp at hp)
   have c1 := hcx wr hbw i (by rw [il_len]; exact hlt)
   rw [il_at hlt] at c1
   have c2 := hnx wr hbw c[i] (by rw [il_len]; exact hp)
   rw [il_at hp] at c2
   obtain ⟨k0, _⟩ := ((HB0.out.2.1.bel HI.out.1)).c2
   obtain ⟨c3, z3⟩ := HI.out.2.2.at (fI_len _ _ i).symm (by rw [fI_len]; exact hlt)
   have he : nums.getD (c.getD i 0) 0 = nums[c[i]] := by simp [hlt, hp]
   have hxb := HNB.out.2 _ (List.getElem_mem hp)
   have HQ2 := hid_intro (HI.out.2.2.put (fI_len _ _ i).symm i ((nums[c[i]] : Nat) : Int) (by unfold I64; omega))
   have HFS : Hid ((fI (fun k => nums.getD (c.getD k 0) 0) c.length i).set i ((nums[c[i]] : Nat) : Int) = fI (fun k => nums.getD (c.getD k 0) 0) c.length (i + 1)) := hid_intro (by have := fI_set (fun k => nums.getD (c.getD k 0) 0) c.length i; rw [he] at this; exact this)
   have hpI : ((c[i] : Nat) : Int) < (nums.length : Int) := by omega
   have HLT := hid_intro hlt
   have HBB := hid_intro (HI.out.1.grown HQ2.out.2 HI.out.1.size (fun b e => by injection e with e; omega))
   clear hcx hnx hpm hbw he hxb
   generalize nums[c[i]] = y at *
   clear hp
   generalize c[i] = p at *
   clear hlt
   go_wp2_with fail
   go_roundg (c.length - (i + 1))
   case measure => have := HLT.out; omega
   case rel => exact ⟨i + 1, rfl, by go_num, hid_intro ⟨HBB.out, HLT.out, by rw [← HFS.out]; exact HQ2.out.1⟩⟩
  ·have hI : ¬ (i : Int) < (c.length : Int) := by omega
   have he : i = c.length := by have := HI.out.2.1; omega
   go_wp2_with fail
   rw [HQ.out]
   refine ⟨_, rfl, ?_, HB0.out.1.trans (HI.out.1.mono HB0.out.1.size)⟩
   have ho := HI.out.2.2
   rw [he, fI_all, nms_f] at ho
   exact ho.low (by have := HB0.out.2.2; omega)
end Go.Proofs.Ytnlgeiofkfkhbaa
