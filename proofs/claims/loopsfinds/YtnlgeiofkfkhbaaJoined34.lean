/-
  What Parts does with a part: the least of its numbers is put at each of them. Conditions: at most 2^20 numbers.
-/
import Derived.Test.YtnlgeiofkfkhbaaJoined32
import Derived.Test.YtnlgeiofkfkhbaaJoined33
namespace Go.Proofs.Ytnlgeiofkfkhbaa
open Go.RowKit Go.Maps Lg
attribute [local go_sem] setCell_drewN alloc_drewN

theorem foldl_min : ∀ (l : List Int) (r : Int), l.foldl min r ≤ r ∧ (∀ x ∈ l, l.foldl min r ≤ x) ∧ (l.foldl min r = r ∨ l.foldl min r ∈ l)
 | [], r => ⟨Int.le_refl _, fun x hx => by simp at hx, .inl rfl⟩
 | y :: l, r => by
  obtain ⟨h1, h2, h3⟩ := foldl_min l (min r y)
  refine ⟨by show l.foldl min (min r y) ≤ r; omega, fun x hx => ?_, ?_⟩
  ·rcases List.mem_cons.1 hx with rfl | hx
   ·show l.foldl min (min r x) ≤ x; omega
   ·exact h2 x hx
  ·show l.foldl min (min r y) = r ∨ l.foldl min (min r y) ∈ y :: l
   rcases h3 with h | h
   ·by_cases k : r ≤ y
    ·exact .inl (by rw [h]; omega)
    ·exact .inr (by rw [h, show min r y = y by omega]; simp)
   ·exact .inr (by simp [h])
/-- The least of some numbers. -/
theorem min_of {l : List Nat} (hl : l ≠ []) : ∃ x ∈ l, Lib.minOf (il l) = (x : Int) ∧ ∀ y ∈ l, x ≤ y := by
 obtain ⟨h1, h2, h3⟩ := foldl_min (il l) ((il l).headD 0)
 have hmem : Lib.minOf (il l) ∈ il l := by
  rcases h3 with h | h
  ·show (il l).foldl min ((il l).headD 0) ∈ _
   rw [h]
   cases l with
   | nil => exact absurd rfl hl
   | cons a l => simp [il]
  ·exact h
 have hm := hmem
 unfold il at hm
 obtain ⟨x, hx, e⟩ := List.mem_map.1 hm
 refine ⟨x, hx, e.symm, fun y hy => ?_⟩
 have := h2 (y : Int) (by unfold il; exact List.mem_map.2 ⟨y, hy, rfl⟩)
 have e2 : (il l).foldl min ((il l).headD 0) = (x : Int) := e.symm
 omega
/-- A part's numbers get one of them. -/
def setP (ns : List Nat) (P : Nat → Nat) (a : Nat) : Nat → Nat := fun x => if x ∈ ns then a else P x
theorem setP_snoc (ns : List Nat) (P : Nat → Nat) (a y : Nat) : upd1 (setP ns P a) y a = setP (ns ++ [y]) P a := by
 funext x
 unfold upd1 setP
 by_cases h : x = y
 ·subst h; simp
 ·rw [if_neg h]; simp [h]
/-- Where its loop stands. -/
structure PpI (N : Nat) (B pb : Nat) (ns : List Nat) (P : Nat → Nat) (a : Nat) (w wr : World) : Prop where
 bt : But (fun b => b = pb) w wr
 ow : OwnI wr B (.slice (some ⟨pb, 0, none⟩) N N) (outL (setP ns P a) N)
theorem ent_parts1 : ∀ args w, (callFunc 28 args).run Try.prog w = .ok (.enter 28 args) w := enters_of Try.func28 (by kernel_rfl) rfl

set_option maxRecDepth 100000 in
set_option maxHeartbeats 3200000 in
theorem parts1_any (nums part : List Nat) (hne : part ≠ []) (hp : ∀ p ∈ part, p < nums.length) (hpl : part.length ≤ 1048576) (N : Nat) (hnb : ∀ x ∈ nums, x < N) (hN : N ≤ 1000) (nv rv cv : Value) (wb vb pb B : Nat) (P : Nat → Nat) (w : World) (hB : wb ≠ pb ∧ vb ≠ pb)
  (hn : II w (fun b => b = pb) (il nums) nv) (hc : II w (fun b => b = pb) (il part) cv) (kw : Bk w wb #[nv, rv]) (kv : Bk w vb #[.slice (some ⟨pb, 0, none⟩) N N]) (ho : OwnI w B (.slice (some ⟨pb, 0, none⟩) N N) (outL P N)) :
  Calls Try.prog 28 #[cv, pt wb, pt vb] w fun r w' => r = .returned (.tuple #[]) ∧ But (fun b => b = pb) w w' ∧ ∃ q ∈ part, (∀ y ∈ part, q ≤ y) ∧ OwnI w' B (.slice (some ⟨pb, 0, none⟩) N N) (outL (setP (nms nums part) P (nums.getD q 0)) N) := by
 obtain ⟨Q0, hQ0⟩ : ∃ P' : Ending → World → Prop, P' = fun r w' => r = .returned (.tuple #[]) ∧ But (fun b => b = pb) w w' ∧ ∃ q ∈ part, (∀ y ∈ part, q ≤ y) ∧ OwnI w' B (.slice (some ⟨pb, 0, none⟩) N N) (outL (setP (nms nums part) P (nums.getD q 0)) N) := ⟨_, rfl⟩
 rw [← hQ0]
 have HQ := hid_intro hQ0
 obtain ⟨q, hq, hqm, hql⟩ := min_of hne
 have hqn := hp q hq
 obtain ⟨a, ha⟩ : ∃ a, nums[q]'hqn = a := ⟨_, rfl⟩
 have hgd : nums.getD q 0 = a := by rw [List.getD_eq_getElem?_getD, List.getElem?_eq_getElem hqn]; exact ha
 obtain ⟨no, nc, rfl, -, -, -, hn4⟩ := id hn
 obtain ⟨co, cc, rfl, -, -, -, hc4⟩ := id hc
 rw [il_len] at *
 obtain ⟨nb, noff, rfl, hnb1, hnc⟩ := hn4.resolve_left (fun e => by have := congrArg List.length e; rw [il_len] at this; rw [this] at hqn; simp at hqn)
 obtain ⟨cb, coff, rfl, hcb1, hcc⟩ := hc4.resolve_left (fun e => by have := congrArg List.length e; rw [il_len] at this; exact hne (List.eq_nil_of_length_eq_zero this))
 have HMN := hid_intro (Try.slices_Min_int cb coff part.length cc (il part) w.drew (List.length_pos_iff.2 hne) (by rw [il_len]; exact Nat.le_refl _) (by omega) (fun j hj => hcc j (by rw [il_len] at *; exact hj)))
 rw [List.take_of_length_le (by rw [il_len]; exact Nat.le_refl _), hqm] at HMN
 have HNC : Hid (∀ wr, But (fun b => b = pb) w wr → ∀ j (h : j < nums.length), wr.cell? ⟨nb, noff + j, none⟩ = some (.int .i64 ((nums[j]'h : Nat) : Int))) := hid_intro (fun wr hb j hj => by
  have hc := hnc j hj
  rw [il_at hj] at hc
  exact (World.cell?_of_block (w := w) (w' := wr) (a := ⟨nb, noff + j, none⟩) (hb.block nb (World.block_lt_of_cell? w _ hc) hnb1)).trans hc)
 have HCC : Hid (∀ wr, But (fun b => b = pb) w wr → ∀ j (h : j < part.length), wr.cell? ⟨cb, coff + j, none⟩ = some (.int .i64 ((part[j]'h : Nat) : Int))) := hid_intro (fun wr hb j hj => by
  have hc := hcc j hj
  rw [il_at hj] at hc
  exact (World.cell?_of_block (w := w) (w' := wr) (a := ⟨cb, coff + j, none⟩) (hb.block cb (World.block_lt_of_cell? w _ hc) hcb1)).trans hc)
 have hpbB : B ≤ pb := (ho.lt rfl).1
 have HKV : Hid (∀ wr, But (fun b => b = pb) w wr → wr.cell? ⟨wb, 0, none⟩ = some (.slice (some ⟨nb, noff, none⟩) nums.length nc) ∧ wr.cell? ⟨vb, 0, none⟩ = some (.slice (some ⟨pb, 0, none⟩) N N)) := hid_intro (fun wr hb => ⟨(kw.but hb (by omega)).c2b.1, (kv.but hb (by omega)).q1⟩)
 have q0 := HNC.out w (But.refl _ _) q hqn
 rw [ha] at q0
 have haN : a < N := ha ▸ hnb _ (List.getElem_mem hqn)
 have hqI : (q : Int) < (nums.length : Int) := by omega
 have HPB := hid_intro (And.intro hp (And.intro hnb (And.intro hN haN)))
 have HQQ := hid_intro (And.intro hq (And.intro hql hgd))
 have hplI : (part.length : Int) ≤ 1048576 := by omega
 obtain ⟨k0, k1⟩ := HKV.out w (But.refl _ _)
 have HI0 : Hid (PpI N B pb (nms nums (part.take 0)) P a w w) := hid_intro ⟨But.refl _ _, by
  have e : setP (nms nums (part.take 0)) P a = P := by funext x; simp [setP, nms]
  rw [e]; exact ho⟩
 dsimp only [pt]
 clear hQ0 hne hp hpl hnb hN hB hn hc kw kv ho hq hqm hql hqn ha hgd hn4 hc4 hnb1 hnc hcb1 hcc hpbB haN
 go_enter Try.func28, Try.ntmps28
 go_wp2_with fail
 go_region_law (first | (go_simp; go_at_call 29; refine HMN.out.mono ?_; rintro e w4 ⟨rfl, rfl⟩) | fail)
 all_goals
  have HI1 : Hid (PpI N B pb (nms nums (part.take 0)) P a w w.drew) := hid_intro ⟨HI0.out.bt.drew, HI0.out.ow.bel (vb_d (Below.refl _ _))⟩
  go_wp2_with fail
  go_loopg [6, 15] (part.length) (fun g s6 s15 wr => ∃ i : Nat, g = part.length - i ∧ s15 = .int .i64 (i : Int) ∧ i ≤ part.length ∧ Hid (PpI N B pb (nms nums (part.take i)) P a w wr))
  case atStart => exact ⟨0, rfl, rfl, Nat.zero_le _, HI1⟩
  case round =>
   obtain ⟨i, rfl, rfl, him, HI⟩ := hrel
   by_cases hi : i < part.length
   ·have hiI : (i : Int) < (part.length : Int) := by omega
    have c1 := HCC.out wr HI.out.bt i hi
    obtain ⟨p, hpd⟩ : ∃ p, part[i]'hi = p := ⟨_, rfl⟩
    rw [hpd] at c1
    have hpn : p < nums.length := HPB.out.1 p (hpd ▸ List.getElem_mem hi)
    have c2 := HNC.out wr HI.out.bt p hpn
    obtain ⟨y, hyd⟩ : ∃ y, nums[p]'hpn = y := ⟨_, rfl⟩
    rw [hyd] at c2
    have hyN : y < N := hyd ▸ HPB.out.2.1 _ (List.getElem_mem hpn)
    obtain ⟨c3, c4⟩ := HKV.out wr HI.out.bt
    obtain ⟨c5, c6⟩ := outL_cell HI.out.ow hyN
    have hpnI : (p : Int) < (nums.length : Int) := by omega
    have hyNI : (y : Int) < (N : Int) := by omega
    have HPU := hid_intro (HI.out.ow.put (outL_len _ N).symm y (a : Int) (by have := HPB.out.2.2; unfold I64; omega))
    rw [outL_set, setP_snoc] at HPU
    have HNM : Hid (nms nums (part.take (i + 1)) = nms nums (part.take i) ++ [y]) := hid_intro (by
     rw [List.take_succ_eq_append_getElem hi, hpd]
     unfold nms
     rw [List.map_append, List.map_cons, List.map_nil, List.getD_eq_getElem?_getD, List.getElem?_eq_getElem hpn]
     show _ ++ [nums[p]'hpn] = _
     rw [hyd])
    have HBB := hid_intro (HI.out.bt.set (p := ⟨pb, y, none⟩) (Or.inl rfl) (.int .i64 (a : Int)))
    have HLT := hid_intro hi
    clear hpd hpn hyd hyN him hi k0 k1 q0
    go_wp2_with fail
    go_region_law (fail)
    all_goals
     go_wp2_with fail
     go_roundg (part.length - (i + 1))
     case measure => have := HLT.out; omega
     case rel => exact ⟨i + 1, rfl, by go_num, HLT.out, hid_intro ⟨HBB.out.drew, by rw [HNM.out]; exact HPU.out.1.bel (vb_d (Below.refl _ _))⟩⟩
   ·have hiI : ¬ (i : Int) < (part.length : Int) := by omega
    have hie : i = part.length := by omega
    go_wp2_with fail
    go_end0
    rw [HQ.out]
    have h := HI.out
    rw [hie, List.take_length] at h
    rw [← HQQ.out.2.2] at h
    exact ⟨rfl, h.bt, q, HQQ.out.1, HQQ.out.2.1, h.ow⟩
end Go.Proofs.Ytnlgeiofkfkhbaa
