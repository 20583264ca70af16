/-
  What value.firstUnlike answers. Conditions: at most 2^40 elements.
  What value.compareArrays answers, where value.Compare answers for the elements. Conditions: at most 2^40 elements.
  What value.compareObjects' two functions answer. Conditions: there is room.
  What value.compareArrays answers, where value.Compare answers for the elements. Conditions: at most 2^40 elements.
  What value.compareObjects answers, where value.Compare answers for the values. Conditions: at most 2^40 members.
-/
import Derived.Test.YtjdboekanmfgpaaGreatDoorJoined18
namespace Go.Proofs.YtjdboekanmfgpaaGreatDoor
open Go.RowKit Go.Lib Go.Sort
attribute [local go_sem] setCell_drewN alloc_drewN

/-- The first that is not 0. -/
def fu (c : Nat → Int) : Nat → Nat → Int
 | _, 0 => 0
 | i, m + 1 => if c i ≠ 0 then c i else fu c (i + 1) m
/-- A function of a place, in whatever world that has what was there. -/
def OneAt (w0 : World) (g : FuncId) (cb : Array Value) (n : Nat) (c : Nat → Int) : Prop :=
 (∀ args w, (callFunc g args).run Tryz.prog w = .ok (.enter g args) w) ∧ ∀ w', Below w0.heap.size w0 w' → ∀ i : Nat, i < n →
  Calls Tryz.prog g (#[.int .i64 (i : Int)] ++ cb) w' fun r w'' => r = .returned (.int .i64 (c i)) ∧ Below w'.heap.size w' w''

set_option maxRecDepth 100000 in
set_option maxHeartbeats 3200000 in
theorem fu_any (n : Nat) (hn : n ≤ 1099511627776) (g : FuncId) (cb : Array Value) (c : Nat → Int) (w : World) (hc : OneAt w g cb n c) :
  Calls Tryz.prog 74 #[.int .i64 (n : Int), .func (.func g) #[] cb] w fun r w' => r = .returned (.int .i64 (fu c 0 n)) ∧ Below w.heap.size w w' := by
 obtain ⟨P, hP⟩ : ∃ P : Ending → World → Prop, P = fun r w' => r = .returned (.int .i64 (fu c 0 n)) ∧ Below w.heap.size w w' := ⟨_, rfl⟩
 rw [← hP]
 have HP := hid_intro hP
 have HC := hid_intro hc.2
 have eg := hc.1
 have hNI : (n : Int) ≤ 1099511627776 := by omega
 clear hP hc hn
 go_enter Tryz.func74, Tryz.ntmps74
 go_wp2_with fail
 go_loopg [8] (n) (fun m s8 wr => ∃ i : Nat, m = n - i ∧ s8 = .int .i64 (i : Int) ∧ Hid (i ≤ n ∧ Below w.heap.size w wr ∧ fu c i (n - i) = fu c 0 n))
 case atStart => exact ⟨0, rfl, rfl, hid_intro ⟨Nat.zero_le _, Below.refl _ _, rfl⟩⟩
 case round =>
  obtain ⟨i, rfl, rfl, HI⟩ := hrel
  by_cases hlt : i < n
  ·have hI : (i : Int) < (n : Int) := by omega
   have hcx := HC.out wr HI.out.2.1 i hlt
   have HLT := hid_intro hlt
   generalize hcv : c i = x at *
   have HV := hid_intro hcv
   clear hcv hlt
   cases hz : x == 0 with
   | true =>
    have hz' : (x != 0) = false := by rw [bne, hz]; rfl
    go_wp2_with (first | (go_at_fn g; refine hcx.mono ?_; rintro r w1 ⟨rfl, hb1⟩; have HB1 := hid_intro hb1; clear hb1))
    go_roundg (n - (i + 1))
    case measure => have := HLT.out; omega
    case rel => exact ⟨i + 1, rfl, by go_num, hid_intro ⟨HLT.out, vb_t HI.out.2.1 HB1.out, by
     rw [← HI.out.2.2, show n - i = (n - (i + 1)) + 1 by have := HLT.out; omega, fu, HV.out, if_neg (by rw [eq_of_beq hz]; simp)]⟩⟩
   | false =>
    have hz' : (x != 0) = true := by rw [bne, hz]; rfl
    go_wp2_with (first | (go_at_fn g; refine hcx.mono ?_; rintro r w1 ⟨rfl, hb1⟩; have HB1 := hid_intro hb1; clear hb1))
    rw [HP.out]
    refine ⟨?_, vb_t HI.out.2.1 HB1.out⟩
    rw [← HI.out.2.2, show n - i = (n - (i + 1)) + 1 by have := HLT.out; omega, fu, HV.out, if_pos (by intro e; rw [e] at hz; cases hz)]
    rfl
  ·have hI : ¬ (i : Int) < (n : Int) := by omega
   have HLT := hid_intro hlt
   clear hlt
   go_wp2_with fail
   rw [HP.out]
   refine ⟨?_, HI.out.2.1⟩
   rw [← HI.out.2.2, show n - i = 0 by have := HLT.out; omega, fu]
end Go.Proofs.YtjdboekanmfgpaaGreatDoor

namespace Go.Proofs.YtjdboekanmfgpaaGreatDoor
open Go.RowKit Go.Lib Go.Sort
attribute [local go_sem] setCell_drewN alloc_drewN

/-- A list of values in a world. -/
def LI (w : World) (X : Nat → Prop) (l : List JV) (lv : Value) (G : Nat → Nat → Value) : Prop :=
 ∃ ao cap, lv = .slice ao l.length cap ∧ l.length ≤ maxLen ∧ (∀ i (h : i < l.length), VI w X l[i] (G i)) ∧ (l = [] ∨ ∃ b off, ao = some ⟨b, off, none⟩ ∧ ¬ X b ∧ b < w.heap.size ∧ ∀ i, i < l.length → ∀ j, j < 7 → w.cell? ⟨b, off + i * 7 + j, none⟩ = some (G i j))
theorem LI.kept {w w' : World} {X : Nat → Prop} {l : List JV} {lv : Value} {G : Nat → Nat → Value} (h : LI w X l lv G) (hb : Below w.heap.size w w') : LI w' X l lv G := by
 obtain ⟨ao, cap, e, h1, h2, h3⟩ := h
 refine ⟨ao, cap, e, h1, fun i hi => (h2 i hi).kept hb, ?_⟩
 rcases h3 with h3 | ⟨b, off, e2, hx, hlt, hc⟩
 ·exact Or.inl h3
 ·exact Or.inr ⟨b, off, e2, hx, Nat.lt_of_lt_of_le hlt hb.size, fun i hi j hj => (hb.cell (p := ⟨b, _, none⟩) hlt).trans (hc i hi j hj)⟩
/-- Seven cells of an element. -/
theorem LI.at {w : World} {X : Nat → Prop} {l : List JV} {lv : Value} {G : Nat → Nat → Value} (h : LI w X l lv G) {i : Nat} (hi : i < l.length) : ∃ b off cap, lv = .slice (some ⟨b, off, none⟩) l.length cap ∧ b < w.heap.size ∧ ∀ j, j < 7 → w.cell? ⟨b, off + i * 7 + j, none⟩ = some (G i j) := by
 obtain ⟨ao, cap, e, h1, h2, h3⟩ := h
 obtain ⟨b, off, rfl, _, hlt, hc⟩ := h3.resolve_left (fun e => by rw [e] at hi; exact absurd hi (by simp))
 exact ⟨b, off, cap, e, hlt, hc i hi⟩

set_option maxRecDepth 100000 in
set_option maxHeartbeats 3200000 in
/-- Two elements of arrays. -/
theorem elems_any (w : World) (A B : Nat) (la lb : List JV) (va' vb' : Value) (G G' : Nat → Nat → Value) (hA : w.cell? ⟨A, 5, none⟩ = some va') (hB : w.cell? ⟨B, 5, none⟩ = some vb') (hla : LI w (fun _ => False) la va' G) (hlb : LI w (fun _ => False) lb vb' G')
  (i : Nat) (hi : i < la.length) (hj : i < lb.length) (c : Int) (hc : ∀ w', Below w.heap.size w w' → Calls Tryz.prog 16 #[va (G i), va (G' i)] w' fun r w'' => r = .returned (.int .i64 c) ∧ Below w'.heap.size w' w'') :
  Calls Tryz.prog 75 #[.int .i64 (i : Int), .pointer (some ⟨A, 0, none⟩), .pointer (some ⟨B, 0, none⟩)] w fun r w' => r = .returned (.int .i64 c) ∧ Below w.heap.size w w' := by
 have hm1 : la.length ≤ maxLen := hla.choose_spec.choose_spec.2.1
 have hm2 : lb.length ≤ maxLen := hlb.choose_spec.choose_spec.2.1
 obtain ⟨b, off, cap, rfl, hlt, ha⟩ := hla.at hi
 obtain ⟨b', off', cap', rfl, hlt', hb⟩ := hlb.at hj
 have hiI : (i : Int) < (la.length : Int) := by omega
 have hjI : (i : Int) < (lb.length : Int) := by omega
 have hI0 : (0 : Int) ≤ (i : Int) := by omega
 have hm1' : (la.length : Int) ≤ 9223372036854775807 := by unfold maxLen at hm1; omega
 have hm2' : (lb.length : Int) ≤ 9223372036854775807 := by unfold maxLen at hm2; omega
 have mixed : Tryz.prog.follows .mixedOrders = true := by kernel_rfl
 have cA := fun q os => cell_grown (w := w) (a := ⟨A, 5, none⟩) (World.block_lt_of_cell? w _ hA) hA q os
 have cB := fun q os => cell_grown (w := w) (a := ⟨B, 5, none⟩) (World.block_lt_of_cell? w _ hB) hB q os
 have a0 := fun q os => cell_grown (w := w) (a := ⟨b, off + i * 7, none⟩) hlt (ha 0 (by omega)) q os
 have a1 := fun q os => cell_grown (w := w) (a := ⟨b, off + i * 7 + 1, none⟩) hlt (ha 1 (by omega)) q os
 have a2 := fun q os => cell_grown (w := w) (a := ⟨b, off + i * 7 + 2, none⟩) hlt (ha 2 (by omega)) q os
 have a3 := fun q os => cell_grown (w := w) (a := ⟨b, off + i * 7 + 3, none⟩) hlt (ha 3 (by omega)) q os
 have a4 := fun q os => cell_grown (w := w) (a := ⟨b, off + i * 7 + 4, none⟩) hlt (ha 4 (by omega)) q os
 have a5 := fun q os => cell_grown (w := w) (a := ⟨b, off + i * 7 + 5, none⟩) hlt (ha 5 (by omega)) q os
 have a6 := fun q os => cell_grown (w := w) (a := ⟨b, off + i * 7 + 6, none⟩) hlt (ha 6 (by omega)) q os
 have b0 := fun q os => cell_grown (w := w) (a := ⟨b', off' + i * 7, none⟩) hlt' (hb 0 (by omega)) q os
 have b1 := fun q os => cell_grown (w := w) (a := ⟨b', off' + i * 7 + 1, none⟩) hlt' (hb 1 (by omega)) q os
 have b2 := fun q os => cell_grown (w := w) (a := ⟨b', off' + i * 7 + 2, none⟩) hlt' (hb 2 (by omega)) q os
 have b3 := fun q os => cell_grown (w := w) (a := ⟨b', off' + i * 7 + 3, none⟩) hlt' (hb 3 (by omega)) q os
 have b4 := fun q os => cell_grown (w := w) (a := ⟨b', off' + i * 7 + 4, none⟩) hlt' (hb 4 (by omega)) q os
 have b5 := fun q os => cell_grown (w := w) (a := ⟨b', off' + i * 7 + 5, none⟩) hlt' (hb 5 (by omega)) q os
 have b6 := fun q os => cell_grown (w := w) (a := ⟨b', off' + i * 7 + 6, none⟩) hlt' (hb 6 (by omega)) q os
 have hcx := fun q os => Up.calls_grow (hc (grow (w.drewN q) os) (vb_grow (Below.refl _ _) (Nat.le_refl _) q os))
 have HBR := hid_intro (fun q os => vb_grow (Below.refl w.heap.size w) (Nat.le_refl _) q os)
 unfold va at hcx
 clear hc ha hb hla hlb hA hB hlt hlt' hm1 hm2 hi hj
 go_enter Tryz.func75, Tryz.ntmps75
 go_wp2_with fail
 go_quiet_grown (first | (go_at_call 16; refine Calls.grown_of (hcx _ _)))
 go_wp2_with fail
 go_ret
 exact ⟨rfl, HBR.out _ _⟩
theorem enters_elems : ∀ args w, (callFunc 75 args).run Tryz.prog w = .ok (.enter 75 args) w := enters_of Tryz.func75 (by kernel_rfl) rfl
end Go.Proofs.YtjdboekanmfgpaaGreatDoor

namespace Go.Proofs.YtjdboekanmfgpaaGreatDoor
open Go.RowKit Go.Lib Go.Sort
attribute [local go_sem] setCell_drewN alloc_drewN

/-- A row of places in a world. -/
theorem places_at {w : World} {X : Nat → Prop} {ps : List Nat} {v : Value} (h : II w X (pI ps) v) {i : Nat} (hi : i < ps.length) : ∃ b off cap, v = .slice (some ⟨b, off, none⟩) ps.length cap ∧ ps.length ≤ maxLen ∧ b < w.heap.size ∧ w.cell? ⟨b, off + i, none⟩ = some (.int .i64 ((ps.getD i 0 : Nat) : Int)) := by
 obtain ⟨ao, cap, rfl, h1, h2, h3, h4⟩ := h
 obtain ⟨b, off, rfl, _, hc⟩ := h4.resolve_left (fun e => by have := congrArg List.length e; rw [pI_len] at this; simp at this; rw [this] at hi; exact absurd hi (by simp))
 have := hc i (by rw [pI_len]; exact hi)
 rw [pI_at hi] at this
 have e := pI_len ps
 exact ⟨b, off, cap, by rw [e], by omega, World.block_lt_of_cell? w _ this, this⟩
theorem keys_at {w : World} {X : Nat → Prop} {ks : List ByteArray} {v : Value} (h : SI w X ks v) {i : Nat} (hi : i < ks.length) : ∃ b off cap, v = .slice (some ⟨b, off, none⟩) ks.length cap ∧ ks.length ≤ maxLen ∧ b < w.heap.size ∧ w.cell? ⟨b, off + i, none⟩ = some (.string (ks.getD i ByteArray.empty)) := by
 obtain ⟨ao, cap, rfl, h1, h2, h3, h4⟩ := h
 obtain ⟨b, off, rfl, _, hc⟩ := h4.resolve_left (fun e => by rw [e] at hi; exact absurd hi (by simp))
 have := hc i hi
 exact ⟨b, off, cap, rfl, by omega, World.block_lt_of_cell? w _ this, by rw [this]; simp [hi]⟩

set_option maxRecDepth 100000 in
set_option maxHeartbeats 3200000 in
/-- Two keys of objects. -/
theorem keyPair_any (w : World) (A B PA PB : Nat) (ps qs : List Nat) (pv qv va' vb' : Value) (hPA : w.cell? ⟨PA, 0, none⟩ = some pv) (hPB : w.cell? ⟨PB, 0, none⟩ = some qv) (X : Nat → Prop) (hps : II w X (pI ps) pv) (hqs : II w X (pI qs) qv)
  (i : Nat) (hi : i < ps.length) (hj : i < qs.length) (la lb : List ByteArray) (hA : w.cell? ⟨A, 6, none⟩ = some va') (hB : w.cell? ⟨B, 6, none⟩ = some vb') (hla : SI w (fun _ => False) la va') (hlb : SI w (fun _ => False) lb vb')
  (hx : ps.getD i 0 < la.length) (hy : qs.getD i 0 < lb.length) :
  Calls Tryz.prog 76 #[.int .i64 (i : Int), .pointer (some ⟨A, 0, none⟩), .pointer (some ⟨PA, 0, none⟩), .pointer (some ⟨B, 0, none⟩), .pointer (some ⟨PB, 0, none⟩)] w fun r w' => r = .returned (.int .i64 (kc (la.getD (ps.getD i 0) ByteArray.empty) (lb.getD (qs.getD i 0) ByteArray.empty))) ∧ Below w.heap.size w w' := by
 obtain ⟨b, off, cap, rfl, hm1, hlt, ha⟩ := keys_at hla hx
 obtain ⟨b', off', cap', rfl, hm2, hlt', hb⟩ := keys_at hlb hy
 obtain ⟨pb, po, pc, rfl, hm3, hlt3, hp⟩ := places_at hps hi
 obtain ⟨qb, qo, qc, rfl, hm4, hlt4, hq⟩ := places_at hqs hj
 have hiI : (i : Int) < (ps.length : Int) := by omega
 have hjI : (i : Int) < (qs.length : Int) := by omega
 have hI0 : (0 : Int) ≤ (i : Int) := by omega
 have hm1' : (la.length : Int) ≤ 9223372036854775807 := by unfold maxLen at hm1; omega
 have hm2' : (lb.length : Int) ≤ 9223372036854775807 := by unfold maxLen at hm2; omega
 have hm3' : (ps.length : Int) ≤ 9223372036854775807 := by unfold maxLen at hm3; omega
 have hm4' : (qs.length : Int) ≤ 9223372036854775807 := by unfold maxLen at hm4; omega
 have mixed : Tryz.prog.follows .mixedOrders = true := by kernel_rfl
 have cA := fun q os => cell_grown (w := w) (a := ⟨A, 6, none⟩) (World.block_lt_of_cell? w _ hA) hA q os
 have cB := fun q os => cell_grown (w := w) (a := ⟨B, 6, none⟩) (World.block_lt_of_cell? w _ hB) hB q os
 have cP := fun q os => cell_grown (w := w) (a := ⟨PA, 0, none⟩) (World.block_lt_of_cell? w _ hPA) hPA q os
 have cQ := fun q os => cell_grown (w := w) (a := ⟨PB, 0, none⟩) (World.block_lt_of_cell? w _ hPB) hPB q os
 have p0 := fun q os => cell_grown (w := w) (a := ⟨pb, po + i, none⟩) hlt3 hp q os
 have q0 := fun q os => cell_grown (w := w) (a := ⟨qb, qo + i, none⟩) hlt4 hq q os
 generalize ps.getD i 0 = x at *
 generalize qs.getD i 0 = y at *
 have a0 := fun q os => cell_grown (w := w) (a := ⟨b, off + x, none⟩) hlt ha q os
 have b0 := fun q os => cell_grown (w := w) (a := ⟨b', off' + y, none⟩) hlt' hb q os
 generalize la.getD x ByteArray.empty = s at *
 generalize lb.getD y ByteArray.empty = t at *
 have hxI : (x : Int) < (la.length : Int) := by omega
 have hyI : (y : Int) < (lb.length : Int) := by omega
 have hcx := fun q os => Up.calls_grow ((ucmp_any s t (grow (w.drewN q) os)).mono (fun r w' (h : _ ∧ _) => ⟨h.1, h.2 ▸ Below.refl _ _⟩))
 have HBR := hid_intro (fun q os => vb_grow (Below.refl w.heap.size w) (Nat.le_refl _) q os)
 generalize kc s t = c at *
 clear ha hb hla hlb hA hB hlt hlt' hm1 hm2 hm3 hm4 hi hj hp hq hlt3 hlt4 hps hqs hPA hPB hx hy
 go_enter Tryz.func76, Tryz.ntmps76
 go_wp2_with fail
 go_quiet_grown (first | (go_at_call 40; refine Calls.grown_of (hcx _ _)))
 go_wp2_with fail
 go_ret
 exact ⟨rfl, HBR.out _ _⟩

set_option maxRecDepth 100000 in
set_option maxHeartbeats 3200000 in
/-- Two values of objects. -/
theorem valPair_any (w : World) (A B PA PB : Nat) (ps qs : List Nat) (pv qv va' vb' : Value) (hPA : w.cell? ⟨PA, 0, none⟩ = some pv) (hPB : w.cell? ⟨PB, 0, none⟩ = some qv) (X : Nat → Prop) (hps : II w X (pI ps) pv) (hqs : II w X (pI qs) qv)
  (i : Nat) (hi : i < ps.length) (hj : i < qs.length) (la lb : List JV) (G G' : Nat → Nat → Value) (hA : w.cell? ⟨A, 5, none⟩ = some va') (hB : w.cell? ⟨B, 5, none⟩ = some vb') (hla : LI w (fun _ => False) la va' G) (hlb : LI w (fun _ => False) lb vb' G')
  (hx : ps.getD i 0 < la.length) (hy : qs.getD i 0 < lb.length) (c : Int) (hc : ∀ w', Below w.heap.size w w' → Calls Tryz.prog 16 #[va (G (ps.getD i 0)), va (G' (qs.getD i 0))] w' fun r w'' => r = .returned (.int .i64 c) ∧ Below w'.heap.size w' w'') :
  Calls Tryz.prog 77 #[.int .i64 (i : Int), .pointer (some ⟨A, 0, none⟩), .pointer (some ⟨PA, 0, none⟩), .pointer (some ⟨B, 0, none⟩), .pointer (some ⟨PB, 0, none⟩)] w fun r w' => r = .returned (.int .i64 c) ∧ Below w.heap.size w w' := by
 have hm1 : la.length ≤ maxLen := hla.choose_spec.choose_spec.2.1
 have hm2 : lb.length ≤ maxLen := hlb.choose_spec.choose_spec.2.1
 obtain ⟨b, off, cap, rfl, hlt, ha⟩ := hla.at hx
 obtain ⟨b', off', cap', rfl, hlt', hb⟩ := hlb.at hy
 obtain ⟨pb, po, pc, rfl, hm3, hlt3, hp⟩ := places_at hps hi
 obtain ⟨qb, qo, qc, rfl, hm4, hlt4, hq⟩ := places_at hqs hj
 have hiI : (i : Int) < (ps.length : Int) := by omega
 have hjI : (i : Int) < (qs.length : Int) := by omega
 have hI0 : (0 : Int) ≤ (i : Int) := by omega
 have hm1' : (la.length : Int) ≤ 9223372036854775807 := by unfold maxLen at hm1; omega
 have hm2' : (lb.length : Int) ≤ 9223372036854775807 := by unfold maxLen at hm2; omega
 have hm3' : (ps.length : Int) ≤ 9223372036854775807 := by unfold maxLen at hm3; omega
 have hm4' : (qs.length : Int) ≤ 9223372036854775807 := by unfold maxLen at hm4; omega
 have mixed : Tryz.prog.follows .mixedOrders = true := by kernel_rfl
 have cA := fun q os => cell_grown (w := w) (a := ⟨A, 5, none⟩) (World.block_lt_of_cell? w _ hA) hA q os
 have cB := fun q os => cell_grown (w := w) (a := ⟨B, 5, none⟩) (World.block_lt_of_cell? w _ hB) hB q os
 have cP := fun q os => cell_grown (w := w) (a := ⟨PA, 0, none⟩) (World.block_lt_of_cell? w _ hPA) hPA q os
 have cQ := fun q os => cell_grown (w := w) (a := ⟨PB, 0, none⟩) (World.block_lt_of_cell? w _ hPB) hPB q os
 have p0 := fun q os => cell_grown (w := w) (a := ⟨pb, po + i, none⟩) hlt3 hp q os
 have q0 := fun q os => cell_grown (w := w) (a := ⟨qb, qo + i, none⟩) hlt4 hq q os
 generalize ps.getD i 0 = x at *
 generalize qs.getD i 0 = y at *
 have a0 := fun q os => cell_grown (w := w) (a := ⟨b, off + x * 7, none⟩) hlt (ha 0 (by omega)) q os
 have b0 := fun q os => cell_grown (w := w) (a := ⟨b', off' + y * 7, none⟩) hlt' (hb 0 (by omega)) q os
 have a1 := fun q os => cell_grown (w := w) (a := ⟨b, off + x * 7 + 1, none⟩) hlt (ha 1 (by omega)) q os
 have b1 := fun q os => cell_grown (w := w) (a := ⟨b', off' + y * 7 + 1, none⟩) hlt' (hb 1 (by omega)) q os
 have a2 := fun q os => cell_grown (w := w) (a := ⟨b, off + x * 7 + 2, none⟩) hlt (ha 2 (by omega)) q os
 have b2 := fun q os => cell_grown (w := w) (a := ⟨b', off' + y * 7 + 2, none⟩) hlt' (hb 2 (by omega)) q os
 have a3 := fun q os => cell_grown (w := w) (a := ⟨b, off + x * 7 + 3, none⟩) hlt (ha 3 (by omega)) q os
 have b3 := fun q os => cell_grown (w := w) (a := ⟨b', off' + y * 7 + 3, none⟩) hlt' (hb 3 (by omega)) q os
 have a4 := fun q os => cell_grown (w := w) (a := ⟨b, off + x * 7 + 4, none⟩) hlt (ha 4 (by omega)) q os
 have b4 := fun q os => cell_grown (w := w) (a := ⟨b', off' + y * 7 + 4, none⟩) hlt' (hb 4 (by omega)) q os
 have a5 := fun q os => cell_grown (w := w) (a := ⟨b, off + x * 7 + 5, none⟩) hlt (ha 5 (by omega)) q os
 have b5 := fun q os => cell_grown (w := w) (a := ⟨b', off' + y * 7 + 5, none⟩) hlt' (hb 5 (by omega)) q os
 have a6 := fun q os => cell_grown (w := w) (a := ⟨b, off + x * 7 + 6, none⟩) hlt (ha 6 (by omega)) q os
 have b6 := fun q os => cell_grown (w := w) (a := ⟨b', off' + y * 7 + 6, none⟩) hlt' (hb 6 (by omega)) q os
 have hxI : (x : Int) < (la.length : Int) := by omega
 have hyI : (y : Int) < (lb.length : Int) := by omega
 have hcx := fun q os => Up.calls_grow (hc (grow (w.drewN q) os) (vb_grow (Below.refl _ _) (Nat.le_refl _) q os))
 have HBR := hid_intro (fun q os => vb_grow (Below.refl w.heap.size w) (Nat.le_refl _) q os)
 unfold va at hcx
 clear hc ha hb hla hlb hA hB hlt hlt' hm1 hm2 hm3 hm4 hi hj hp hq hlt3 hlt4 hps hqs hPA hPB hx hy
 go_enter Tryz.func77, Tryz.ntmps77
 go_wp2_with fail
 go_quiet_grown (first | (go_at_call 16; refine Calls.grown_of (hcx _ _)))
 go_wp2_with fail
 go_ret
 exact ⟨rfl, HBR.out _ _⟩
theorem enters_keyPair : ∀ args w, (callFunc 76 args).run Tryz.prog w = .ok (.enter 76 args) w := enters_of Tryz.func76 (by kernel_rfl) rfl
theorem enters_valPair : ∀ args w, (callFunc 77 args).run Tryz.prog w = .ok (.enter 77 args) w := enters_of Tryz.func77 (by kernel_rfl) rfl
end Go.Proofs.YtjdboekanmfgpaaGreatDoor

namespace Go.Proofs.YtjdboekanmfgpaaGreatDoor
open Go.RowKit Go.Lib Go.Sort
attribute [local go_sem] setCell_drewN alloc_drewN

theorem si_ci (x y : Int) : Lib.compareInt x y = si x y := by unfold Lib.compareInt si; rfl
theorem si_len (a b : Nat) : si (a : Int) (b : Int) = 0 ↔ a = b := by rw [si_zero]; omega

set_option maxRecDepth 100000 in
set_option maxHeartbeats 600000 in
theorem arrays_any (k k' : Int) (n n' : Bool) (g g' : ByteArray) (e e' : Int) (t t' : ByteArray) (lv lv' kv kv' : Value) (la lb : List JV) (G G' : Nat → Nat → Value) (hs : la.length ≤ 1099511627776) (w : World)
  (hla : LI w (fun _ => False) la lv G) (hlb : LI w (fun _ => False) lb lv' G') (c : Nat → Int)
  (hc : ∀ w', Below w.heap.size w w' → ∀ i, i < la.length → i < lb.length → Calls Tryz.prog 16 #[va (G i), va (G' i)] w' fun r w'' => r = .returned (.int .i64 (c i)) ∧ Below w'.heap.size w' w'') :
  Calls Tryz.prog 41 #[.agg #[.int .i64 k, .bool n, .string g, .int .i64 e, .string t, lv, kv], .agg #[.int .i64 k', .bool n', .string g', .int .i64 e', .string t', lv', kv']] w
   fun r w' => r = .returned (.int .i64 (th (si la.length lb.length) (fu c 0 la.length))) ∧ Below w.heap.size w w' := by
 obtain ⟨P, hP⟩ : ∃ P : Ending → World → Prop, P = fun r w' => r = .returned (.int .i64 (th (si la.length lb.length) (fu c 0 la.length))) ∧ Below w.heap.size w w' := ⟨_, rfl⟩
 rw [← hP]
 have HP := hid_intro hP
 have hmf : ∀ (fn : Fn) (first cap : Array Value) (w : World), (Instr.makeFunc fn first cap).run Tryz.prog w = .ok (.func fn first cap) w := fun _ _ _ _ => rfl
 have hb1 : Below w.heap.size w (vbox w k n g e t lv kv) := vb_a (Below.refl _ _) _
 have hb2 : Below w.heap.size w (vbox (vbox w k n g e t lv kv) k' n' g' e' t' lv' kv') := vb_a hb1 _
 have cA : (vbox (vbox w k n g e t lv kv) k' n' g' e' t' lv' kv').cell? ⟨w.heap.size, 5, none⟩ = some lv := by unfold vbox; simp
 have cB : (vbox (vbox w k n g e t lv kv) k' n' g' e' t' lv' kv').cell? ⟨w.heap.size + 1, 5, none⟩ = some lv' := by unfold vbox; simp
 have hone : la.length = lb.length → OneAt (vbox (vbox w k n g e t lv kv) k' n' g' e' t' lv' kv') 75 #[.pointer (some ⟨w.heap.size, 0, none⟩), .pointer (some ⟨w.heap.size + 1, 0, none⟩)] la.length c := fun hl =>
  ⟨enters_elems, fun w' hb i hi => elems_any w' w.heap.size (w.heap.size + 1) la lb lv lv' G G' ((hb.cell (World.block_lt_of_cell? _ _ cA)).trans cA) ((hb.cell (World.block_lt_of_cell? _ _ cB)).trans cB) (hla.kept (vb_t hb2 hb)) (hlb.kept (vb_t hb2 hb)) i hi (hl ▸ hi) (c i)
   (fun w'' hb' => hc w'' (vb_t (vb_t hb2 hb) hb') i hi (hl ▸ hi))⟩
 obtain ⟨ao, cap, rfl, hm1, -, -⟩ := hla
 obtain ⟨ao', cap', rfl, hm2, -, -⟩ := hlb
 have hm1' : (la.length : Int) ≤ 9223372036854775807 := by unfold maxLen at hm1; omega
 have hm2' : (lb.length : Int) ≤ 9223372036854775807 := by unfold maxLen at hm2; omega
 have hci : ∀ w', Calls Tryz.prog 73 #[.int .i64 (la.length : Int), .int .i64 (lb.length : Int)] w' fun r w'' => r = .returned (.int .i64 (si la.length lb.length)) ∧ w'' = w' := fun w' => by
  rw [← si_ci]
  exact vcmp_int _ _ w'
 by_cases hl : la.length = lb.length
 ·have h0 : si (la.length : Int) (lb.length : Int) = 0 := (si_len _ _).2 hl
  have hth : Hid (th (si (la.length : Int) (lb.length : Int)) (fu c 0 la.length) = fu c 0 la.length) := hid_intro (by rw [h0]; unfold th; rw [if_pos rfl])
  rw [h0] at hci
  have hfu := fu_any la.length hs 75 _ c _ (hone hl)
  have HB2 := hid_intro hb2
  unfold vbox at hfu
  clear hone hc hP hb1 hb2 cA cB h0 hl
  go_enter Tryz.func41, Tryz.ntmps41
  go_wp2_with (first | (go_at_call 73; refine (hci _).mono ?_; rintro r w1 ⟨rfl, rfl⟩) | (go_at_call 74; refine hfu.mono ?_; rintro r w1 ⟨rfl, hb3⟩))
  rw [HP.out]
  exact ⟨by rw [hth.out]; rfl, vb_t HB2.out hb3⟩
 ·have h0 : si (la.length : Int) (lb.length : Int) ≠ 0 := fun h => hl ((si_len _ _).1 h)
  have hth : Hid (th (si (la.length : Int) (lb.length : Int)) (fu c 0 la.length) = si (la.length : Int) (lb.length : Int)) := hid_intro (by unfold th; rw [if_neg h0])
  have HB2 := hid_intro hb2
  generalize si (la.length : Int) (lb.length : Int) = x at *
  have hz : (x != 0) = true := by simpa using h0
  clear hone hc hP hb1 hb2 cA cB hl
  go_enter Tryz.func41, Tryz.ntmps41
  go_wp2_with (first | (go_at_call 73; refine (hci _).mono ?_; rintro r w1 ⟨rfl, rfl⟩))
  rw [HP.out]
  exact ⟨by rw [hth.out]; rfl, HB2.out⟩
end Go.Proofs.YtjdboekanmfgpaaGreatDoor

namespace Go.Proofs.YtjdboekanmfgpaaGreatDoor
open Go.RowKit Go.Lib Go.Sort
attribute [local go_sem] setCell_drewN alloc_drewN

/-- The seven cells of a box. -/
def B7 (w : World) (B : Nat) (cs : Array Value) : Prop := ∀ o, w.cell? ⟨B, o, none⟩ = cs[o]?
set_option maxRecDepth 100000 in
set_option maxHeartbeats 800000 in
theorem objects_unlike (n n' : Bool) (g g' : ByteArray) (e e' : Int) (t t' : ByteArray) (ao ao' ko ko' : Option Addr) (lc lc' kc' kc'' : Nat) (ll ll' kl kl' : Nat) (k k' : Int) (w : World) (hne : min kl ll ≠ min kl' ll') :
  Calls Tryz.prog 42 #[.agg #[.int .i64 k, .bool n, .string g, .int .i64 e, .string t, .slice ao ll lc, .slice ko kl kc'], .agg #[.int .i64 k', .bool n', .string g', .int .i64 e', .string t', .slice ao' ll' lc', .slice ko' kl' kc'']] w
   fun r w' => r = .returned (.int .i64 (si (min kl ll : Nat) (min kl' ll' : Nat))) ∧ Below w.heap.size w w' := by
 obtain ⟨P, hP⟩ : ∃ P : Ending → World → Prop, P = fun r w' => r = .returned (.int .i64 (si (min kl ll : Nat) (min kl' ll' : Nat))) ∧ Below w.heap.size w w' := ⟨_, rfl⟩
 rw [← hP]
 have HP := hid_intro hP
 have h0 : si ((min kl ll : Nat) : Int) ((min kl' ll' : Nat) : Int) ≠ 0 := fun h => hne ((si_len _ _).1 h)
 obtain ⟨W, hW⟩ : ∃ W, vbox (vbox w k n g e t (.slice ao ll lc) (.slice ko kl kc')) k' n' g' e' t' (.slice ao' ll' lc') (.slice ko' kl' kc'') = W := ⟨_, rfl⟩
 have hbW : Below w.heap.size w W := hW ▸ vb_a (vb_a (Below.refl _ _) _) _
 have hs1 : w.heap.size < W.heap.size := by rw [← hW]; simp [vbox]; omega
 have hs2 : w.heap.size + 1 < W.heap.size := by rw [← hW]; simp [vbox]
 have cA : ∀ o, W.cell? ⟨w.heap.size, o, none⟩ = (#[.int .i64 k, .bool n, .string g, .int .i64 e, .string t, .slice ao ll lc, .slice ko kl kc'] : Array Value)[o]? := fun o => by rw [← hW]; unfold vbox; simp
 have cB : ∀ o, W.cell? ⟨w.heap.size + 1, o, none⟩ = (#[.int .i64 k', .bool n', .string g', .int .i64 e', .string t', .slice ao' ll' lc', .slice ko' kl' kc''] : Array Value)[o]? := fun o => by rw [← hW]; unfold vbox; simp
 have HS : Hid (∀ w', Below W.heap.size W w' → (∀ o, w'.cell? ⟨w.heap.size, o, none⟩ = (#[.int .i64 k, .bool n, .string g, .int .i64 e, .string t, .slice ao ll lc, .slice ko kl kc'] : Array Value)[o]?) ∧ (∀ o, w'.cell? ⟨w.heap.size + 1, o, none⟩ = (#[.int .i64 k', .bool n', .string g', .int .i64 e', .string t', .slice ao' ll' lc', .slice ko' kl' kc''] : Array Value)[o]?)) :=
  hid_intro (fun w' hb => ⟨fun o => (hb.cell (p := ⟨w.heap.size, o, none⟩) hs1).trans (cA o), fun o => (hb.cell (p := ⟨w.heap.size + 1, o, none⟩) hs2).trans (cB o)⟩)
 have HM : Hid (∀ w', Below W.heap.size W w' → Calls Tryz.prog 49 #[.agg #[.int .i64 k, .bool n, .string g, .int .i64 e, .string t, .slice ao ll lc, .slice ko kl kc']] w' fun r w'' => r = .returned (.int .i64 ((min kl ll : Nat) : Int)) ∧ Below W.heap.size W w'') := hid_intro (fun w' hb => (members_any k n g e t ao ko ll lc kl kc' w').mono fun r w'' ⟨h1, h2⟩ => ⟨h1, vb_t hb h2⟩)
 have HM2 : Hid (∀ w', Below W.heap.size W w' → Calls Tryz.prog 49 #[.agg #[.int .i64 k', .bool n', .string g', .int .i64 e', .string t', .slice ao' ll' lc', .slice ko' kl' kc'']] w' fun r w'' => r = .returned (.int .i64 ((min kl' ll' : Nat) : Int)) ∧ Below W.heap.size W w'') := hid_intro (fun w' hb => (members_any k' n' g' e' t' ao' ko' ll' lc' kl' kc'' w').mono fun r w'' ⟨h1, h2⟩ => ⟨h1, vb_t hb h2⟩)
 have HCI : Hid (∀ w', Below W.heap.size W w' → Calls Tryz.prog 73 #[.int .i64 ((min kl ll : Nat) : Int), .int .i64 ((min kl' ll' : Nat) : Int)] w' fun r w'' => r = .returned (.int .i64 (si ((min kl ll : Nat) : Int) ((min kl' ll' : Nat) : Int))) ∧ Below W.heap.size W w'') := hid_intro (fun w' hb => by
  rw [← si_ci]
  exact (vcmp_int _ _ w').mono fun r w'' ⟨h1, h2⟩ => ⟨h1, by rw [h2]; exact hb⟩)
 have HBW := hid_intro hbW
 generalize hN : min kl ll = N at *
 generalize hN2 : min kl' ll' = N2 at *
 generalize hx : si (N : Int) (N2 : Int) = x at *
 have hz : (x != 0) = true := by simpa using h0
 unfold vbox at hW
 clear hP hne h0 hbW cA cB hN hN2 hx
 go_enter Tryz.func42, Tryz.ntmps42
 go_wp2_with fail
 go_region_held3 (fun w' => (∀ o, w'.cell? ⟨w.heap.size, o, none⟩ = (#[.int .i64 k, .bool n, .string g, .int .i64 e, .string t, .slice ao ll lc, .slice ko kl kc'] : Array Value)[o]?) ∧ (∀ o, w'.cell? ⟨w.heap.size + 1, o, none⟩ = (#[.int .i64 k', .bool n', .string g', .int .i64 e', .string t', .slice ao' ll' lc', .slice ko' kl' kc''] : Array Value)[o]?)) (first | (refine HS.out _ ?_; with_reducible repeat (first | exact Below.refl _ _ | exact hc | refine vb_d ?_)) | fail) (first | (go_at_call 49; with_reducible refine (HM.out _ ?_).mono ?_; (with_reducible repeat (first | exact Below.refl _ _ | exact hc | refine vb_d ?_)); rintro r w3 ⟨rfl, hc⟩) | (go_at_call 49; with_reducible refine (HM2.out _ ?_).mono ?_; (with_reducible repeat (first | exact Below.refl _ _ | exact hc | refine vb_d ?_)); rintro r w4 ⟨rfl, hc⟩) | (go_at_call 73; refine (HCI.out _ ?_).mono ?_; (with_reducible repeat (first | exact hc | refine vb_d ?_)); rintro r w5 ⟨rfl, hc⟩) | fail)
 all_goals
  go_wp2_with fail
  rw [HP.out]
  exact ⟨rfl, vb_t HBW.out hc⟩
end Go.Proofs.YtjdboekanmfgpaaGreatDoor
