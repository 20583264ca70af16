/-
  named: the numbers that a net is made of, rising. Conditions: n at most 2^40, at most 2^20 edges.
-/
import Derived.Test.YtnlgeiofkfkhbaaJoined24
import Derived.Test.YtnlgeiofkfkhbaaJoined25
import Derived.Test.YtnlgeiofkfkhbaaJoined26
import Derived.Test.YtnlgeiofkfkhbaaJoined27
namespace Go.Proofs.Ytnlgeiofkfkhbaa
open Go.RowKit Go.Maps Lg Go.Sort
attribute [local go_sem] setCell_drewN alloc_drewN

theorem but_sort {α : Type} [Inhabited α] (enc : α → Value) (w : World) (g off n : Nat) (d : Array α) (os : Array Obj) : But (fun b => b = g) w (grow (putRow enc (Sort.ahead w n) g off d) os) := by
 have hs : (putRow enc (Sort.ahead w n) g off d).heap.size = w.heap.size := size_putRow _ _ _ _ _
 refine ⟨rfl, rfl, rfl, ?_, fun k hk hx => ?_⟩
 ·show w.heap.size ≤ ((putRow enc (Sort.ahead w n) g off d).heap ++ os).size
  rw [Array.size_append, hs]; omega
 ·rw [heap_grow_old _ _ (by rw [hs]; exact hk)]
  show ((Sort.ahead w n).heap.modify g _)[k]? = _
  rw [Array.getElem?_modify, if_neg (fun h => hx h.symm)]
  rfl
theorem holds_sort (w : World) (g n : Nat) (d0 d : Array Int) (os : Array Obj) (h0 : Holds (Value.int .i64) w g 0 d0) (hs : d.size = d0.size) (hg : g < w.heap.size) : Holds (Value.int .i64) (grow (putRow (Value.int .i64) (Sort.ahead w n) g 0 d) os) g 0 d := by
 have h1 := holds_putRow (Value.int .i64) (Sort.ahead w n) g 0 d0 d (fun j hj => h0 j hj) hs
 have hs2 : (putRow (Value.int .i64) (Sort.ahead w n) g 0 d).heap.size = w.heap.size := size_putRow _ _ _ _ _
 have e : (grow (putRow (Value.int .i64) (Sort.ahead w n) g 0 d) os).heap[g]? = (putRow (Value.int .i64) (Sort.ahead w n) g 0 d).heap[g]? := heap_grow_old _ _ (by rw [hs2]; exact hg)
 exact fun j hj => ⟨(World.cell?_of_block (a := ⟨g, 0 + j, none⟩) e).trans (h1 j hj).1, (World.frozen?_of_block (a := ⟨g, 0 + j, none⟩) e).trans (h1 j hj).2⟩
theorem OwnI.holds {w : World} {B g n cap : Nat} {l : List Int} (h : OwnI w B (.slice (some ⟨g, 0, none⟩) n cap) l) (hn : n = l.length) : Holds (Value.int .i64) w g 0 l.toArray := by
 intro j hj
 have hj' : j < l.length := by simpa using hj
 obtain ⟨c, z⟩ := h.at hn hj'
 rw [Nat.zero_add]
 refine ⟨?_, z⟩
 rw [c]
 unfold ia
 simp [hj']
theorem wrap_half {n : Int} (h : I64 n) : wrap64 (n.tdiv 2) = n.tdiv 2 := by
 have h1 : (n.tdiv 2).natAbs = n.natAbs / 2 := Int.natAbs_tdiv n 2
 unfold I64 at h
 unfold wrap64
 omega
/-- The numbers that edges name. -/
def nam (es : List (Nat × Nat)) : List Nat := es.flatMap fun e => [e.1, e.2]
theorem nam_len (es : List (Nat × Nat)) : (nam es).length = 2 * es.length := by
 induction es with
 | nil => rfl
 | cons e es ih => show ([e.1, e.2] ++ nam es).length = _; rw [List.length_append, ih]; simp; omega
/-- Where its loop stands. -/
structure NmI (n : Int) (E : List Ed) (i : Nat) (v : Value) (w wr : World) : Prop where
 bel : Below w.heap.size w wr
 ed : EdI wr v E
 sz : w.heap.size + 1 ≤ wr.heap.size
 ro : ∃ va, Bk wr w.heap.size #[va] ∧ OwnI wr (w.heap.size + 1) va (il (nam (prs n (E.take i))))
/-- What named answers. -/
def NmP (n : Int) (E : List Ed) (w : World) (r : Ending) (w' : World) : Prop := Below w.heap.size w w' ∧ ∃ nums nv, r = .returned nv ∧ II w' (fun b => b < w.heap.size) (il nums) nv ∧ Net (prs n E) nums ∧ Rise nums ∧ (∀ x ∈ nums, x < n.toNat)
theorem mem_nam {es : List (Nat × Nat)} {x : Nat} : x ∈ nam es ↔ ∃ e ∈ es, x = e.1 ∨ x = e.2 := by
 unfold nam
 simp [List.mem_flatMap]

set_option maxRecDepth 100000 in
set_option maxHeartbeats 3200000 in
theorem named_few (n : Int) (hn : n ≤ 1099511627776) (hn2 : I64 n) (E : List Ed) (v : Value) (w : World) (hE : EdI w v E) (hq : n.tdiv 2 ≤ (E.length : Int)) :
  Calls Try.prog 31 #[.int .i64 n, v] w (NmP n E w) := by
 obtain ⟨Q0, hQ0⟩ : ∃ P' : Ending → World → Prop, P' = NmP n E w := ⟨_, rfl⟩
 rw [← hQ0]
 have HQ := hid_intro hQ0
 have HU := hid_intro (upTo_any n hn w)
 obtain ⟨eo, ec, rfl, -⟩ := hE
 have hw : wrap64 (n.tdiv 2) = n.tdiv 2 := wrap_half hn2
 clear hQ0 hn hn2
 go_enter Try.func31, Try.ntmps31
 go_wp2_with fail
 refine HU.out.mono ?_
 rintro r w1 ⟨nv, rfl, ho, hb⟩
 obtain ⟨no, nc, rfl, -⟩ := ho.form
 have HO := hid_intro ho
 have HB := hid_intro hb
 clear ho hb HU
 go_wp2_with fail
 rw [HQ.out]
 have e : upL n.toNat = il (List.range n.toNat) := rfl
 have ho := HO.out
 rw [e] at ho
 exact ⟨HB.out, List.range n.toNat, _, rfl, ho.ii _ (fun b hb h => by have := (ho.lt hb).1; omega), ⟨List.nodup_range, fun d hd => by have := prs_lt d hd; exact ⟨List.mem_range.2 this.1, List.mem_range.2 this.2⟩⟩, rise_of List.pairwise_lt_range, fun x hx => List.mem_range.1 hx⟩
def srt (A : List Nat) : List Int := (il A).mergeSort fun x y => decide (x ≤ y)
def cpt (A : List Nat) : List Int := Lib.compact (srt A) ++ List.replicate ((il A).length - (Lib.compact (srt A)).length) 0
/-- Behind the sorting. -/
def SrtP (w2 : World) (g ac : Nat) (A : List Nat) (w4 : World) : Prop := Holds (Value.int .i64) w4 g 0 (srt A).toArray ∧ But (fun b => b = g) w2 w4 ∧
 Calls Try.prog 45 #[.slice (some ⟨g, 0, none⟩) (il A).length ac] w4 fun e w' => e = .returned (.slice (some ⟨g, 0, none⟩) (Lib.compact (srt A)).length ac) ∧ ∃ q, w' = putRow (Value.int .i64) (Sort.ahead w4 q) g 0 (cpt A).toArray
theorem compact_le (zs : List Int) : (Lib.compact zs).length ≤ zs.length := by
 unfold Lib.compact Lib.compactUpTo
 rw [List.length_map]
 refine Nat.le_trans (List.length_filter_le _ _) (by simp)
theorem srt_len (A : List Nat) : (srt A).length = (il A).length := List.length_mergeSort _
theorem srt_p {w2 : World} {g ac : Nat} {A : List Nat} (hH : Holds (Value.int .i64) w2 g 0 (il A).toArray) (hg : g < w2.heap.size) (hA : A.length ≤ 2097152) (hc : A.length ≤ ac) (n : Nat) (os : Array Obj) : SrtP w2 g ac A (grow (putRow (Value.int .i64) (Sort.ahead w2 n) g 0 (srt A).toArray) os) := by
 have hH4 := holds_sort w2 g n (il A).toArray (srt A).toArray os hH (by simp [srt_len]) hg
 have hcal := Try.slices_Compact_int g 0 ac (srt A) _ hH4 (by rw [srt_len, il_len]; omega) (by rw [srt_len, il_len]; exact hc)
 rw [srt_len] at hcal
 exact ⟨hH4, but_sort _ _ _ _ _ _ _, hcal⟩

set_option maxRecDepth 100000 in
set_option maxHeartbeats 3200000 in
theorem named_many (n : Int) (hn : n ≤ 1099511627776) (hn2 : I64 n) (E : List Ed) (hEl : E.length ≤ 1048576) (v : Value) (w : World) (hE : EdI w v E) (hq : ¬ n.tdiv 2 ≤ (E.length : Int)) :
  Calls Try.prog 31 #[.int .i64 n, v] w (NmP n E w) := by
 obtain ⟨Q0, hQ0⟩ : ∃ P' : Ending → World → Prop, P' = NmP n E w := ⟨_, rfl⟩
 rw [← hQ0]
 have HQ := hid_intro hQ0
 obtain ⟨W1, hW1⟩ : ∃ W1, w.alloc (.cells #[.slice none 0 0] 23) = W1 := ⟨_, rfl⟩
 have hb1 : Below w.heap.size w W1 := hW1 ▸ vb_a (Below.refl _ _) _
 have HI0 : NmI n E 0 v w W1 := ⟨hb1, hE.below hb1, by rw [← hW1]; simp, .slice none 0 0, by rw [← hW1]; exact Bk.new _ _ _, by rw [List.take_zero]; exact OwnI.nil _ _⟩
 have HEA := hid_intro (each_any n E hEl v 43 [pt w.heap.size] ent_named1 (fun i w' => NmI n E i v w w')
  (fun i w1 w2 h hb => ⟨h.bel.trans (hb.mono h.bel.size), h.ed.below hb, Nat.le_trans h.sz hb.size, by
   obtain ⟨va, k, o⟩ := h.ro
   exact ⟨va, k.bel hb, o.bel hb⟩⟩)
  (fun i w1 h => h.ed)
  (fun i hi w1 hc h => ⟨h.bel, h.ed, h.sz, by rw [prs_snoc hi, hc]; simpa using h.ro⟩)
  (fun i hi w1 hc h => by
   obtain ⟨va, k, o⟩ := h.ro
   have hin := cnt_in hc
   have hlen := prs_len n (E.take i)
   have ht := List.length_take_le i E
   have hcall := named1_any w.heap.size (w.heap.size + 1) E[i].f.toNat E[i].t.toNat (nam (prs n (E.take i))) va w1 (by omega) (by omega) (by rw [nam_len]; omega) (by omega) h.sz k o
   rw [show ((E[i].f.toNat : Nat) : Int) = E[i].f by omega, show ((E[i].t.toNat : Nat) : Int) = E[i].t by omega] at hcall
   refine hcall.mono ?_
   rintro r w2 ⟨rfl, va', k', o', hb⟩
   have hB := hb.toBelow (B := w.heap.size) (fun b h => by omega) h.bel.size
   refine ⟨rfl, h.bel.trans hB, hE.below (h.bel.trans hB), Nat.le_trans h.sz hb.size, va', k', ?_⟩
   rw [prs_snoc hi, if_pos hc]
   unfold nam at o' ⊢
   rw [List.flatMap_append]
   simpa using o') W1 HI0)
 obtain ⟨eo, ec, rfl, -⟩ := hE
 have hw : wrap64 (n.tdiv 2) = n.tdiv 2 := wrap_half hn2
 have hlen := prs_len n E
 have HN := hid_intro hn
 have HLN := hid_intro (show (nam (prs n E)).length ≤ 2097152 by rw [nam_len]; omega)
 obtain ⟨nums, hcs, hpw, hmm⟩ := compact_sort (nam (prs n E))
 have HNUM := hid_intro (And.intro hcs (And.intro hpw hmm))
 clear hQ0 hn hn2 hEl HI0 hb1 hlen hcs hpw hmm
 go_enter Try.func31, Try.ntmps31
 go_wp2_with fail
 refine HEA.out.mono ?_
 rintro r w2 ⟨rfl, hi2⟩
 have hro := hi2.ro
 rw [List.take_length] at hro
 obtain ⟨va, ka, oa⟩ := hro
 have HB2 := hid_intro (And.intro hi2.bel hi2.sz)
 have HKA := hid_intro ka
 have HOA := hid_intro oa
 have c0 := ka.q1
 clear hi2 ka oa HEA hW1
 by_cases hA : nam (prs n E) = []
 ·rw [hA] at HOA HNUM
  obtain ⟨ao, ac, rfl, -⟩ := HOA.out.form
  have c1 : w2.cell? ⟨w.heap.size, 0, none⟩ = some (.slice ao 0 ac) := c0
  clear c0
  have HS1 := hid_intro (Try.slices_Sort_int_none ao ac w2)
  have HS2 := hid_intro (Try.slices_Compact_int_empty ao ac w2)
  go_wp2_with (first | (go_at_call 44; refine HS1.out.mono ?_; rintro e w4 ⟨rfl, rfl⟩) | (go_at_call 45; refine HS2.out.mono ?_; rintro e w4 ⟨rfl, rfl⟩))
  rw [HQ.out]
  refine ⟨HB2.out.1, [], _, rfl, ⟨ao, ac, rfl, Nat.zero_le _, ?_, fun x hx => by simp [il] at hx, Or.inl rfl⟩, ⟨List.nodup_nil, fun d hd => ?_⟩, fun i j hi => by simp at hi, fun x hx => by simp at hx⟩
  ·obtain ⟨_, _, e, _, h2, _⟩ := HOA.out.form
   injection e with _ _ e
   rw [e]; exact h2
  ·have : d.1 ∈ nam (prs n E) := mem_nam.2 ⟨d, hd, .inl rfl⟩
   rw [hA] at this; simp at this
 ·have hpos : 0 < (il (nam (prs n E))).length := by rw [il_len]; exact List.length_pos_iff.2 hA
  have hltN := (fun x (hx : x ∈ nam (prs n E)) => by
   obtain ⟨e, he, h⟩ := mem_nam.1 hx
   have := prs_lt e he
   rcases h with h | h <;> omega : ∀ x ∈ nam (prs n E), x < n.toNat)
  have HLT := hid_intro hltN
  have hall := (fun d hd => ⟨(HNUM.out.2.2 d.1).2 (mem_nam.2 ⟨d, hd, .inl rfl⟩), (HNUM.out.2.2 d.2).2 (mem_nam.2 ⟨d, hd, .inr rfl⟩)⟩ : ∀ d ∈ prs n E, d.1 ∈ nums ∧ d.2 ∈ nums)
  have HALL := hid_intro hall
  generalize nam (prs n E) = A at *
  obtain ⟨ao, ac, rfl, hc1, hc2, hg, -⟩ := HOA.out.form
  obtain ⟨g, rfl⟩ := hg hpos
  have hglt : w.heap.size + 1 ≤ g ∧ g < w2.heap.size := HOA.out.lt rfl
  have hH := HOA.out.holds rfl
  have hll := HLN.out
  rw [il_len] at hc1
  have HS1 := hid_intro (Try.slices_Sort_int g 0 ac (il A) w2 hH hglt.2 (by rw [il_len]; omega))
  have HS2 := hid_intro (fun (w4 : World) (h4 : ∃ n os, w4 = grow (putRow (Value.int .i64) (Sort.ahead w2 n) g 0 (srt A).toArray) os) => (show SrtP w2 g ac A w4 from by
   obtain ⟨q, os, rfl⟩ := h4
   exact srt_p hH hglt.2 hll hc1 q os))
  have HC3 := hid_intro (fun (w4 : World) (hb : But (fun b => b = g) w2 w4) => (HKA.out.but hb (show ¬ w.heap.size = g by omega)).q1)
  have HG := hid_intro (And.intro hglt (And.intro hc1 hc2))
  clear hH hglt hpos hc1 hc2 hg hltN hall hll hA
  go_wp2_with (first | (go_at_call 44; refine HS1.out.mono ?_; rintro e w4 ⟨rfl, h4⟩; obtain ⟨hH4, hb4, hcal⟩ := HS2.out w4 h4; have k4 := HC3.out w4 hb4; have HCA := hid_intro hcal; have HB4 := hid_intro (And.intro hH4 hb4); clear hH4 hb4 hcal h4 c0) | (go_at_call 45; refine HCA.out.mono ?_; rintro e w5 ⟨rfl, h5⟩; have H5 := hid_intro h5; clear h5))
  rw [HQ.out]
  obtain ⟨q, h5⟩ := H5.out
  have hcs : Lib.compact (srt A) = il nums := HNUM.out.1
  have hb5 : But (fun b => b = g) w4 w5 := by
   have := but_sort (Value.int .i64) w4 g 0 q (cpt A).toArray #[]
   rw [grow_empty, ← h5] at this
   exact this
  have hle : (Lib.compact (srt A)).length ≤ (srt A).length := compact_le _
  have hH5 : Holds (Value.int .i64) w5 g 0 (cpt A).toArray := by
   have := holds_putRow (Value.int .i64) (Sort.ahead w4 q) g 0 (srt A).toArray (cpt A).toArray (fun j hj => HB4.out.1 j hj) (by unfold cpt; rw [srt_len] at hle; simp only [List.size_toArray, List.length_append, List.length_replicate, srt_len]; omega)
   rw [← h5] at this
   exact this
  have hbb : Below w.heap.size w w5 := HB2.out.1.trans (((HB4.out.2.trans hb5)).toBelow (fun b h => by have := HG.out.1; omega) HB2.out.1.size)
  rw [hcs]
  refine ⟨hbb, nums, _, rfl, ⟨_, ac, rfl, ?_, HG.out.2.2, fun x hx => ?_, Or.inr ⟨g, 0, rfl, by have := HG.out.1; omega, fun i hi => ?_⟩⟩, ⟨(rise_nodup (rise_of HNUM.out.2.1)), HALL.out⟩, rise_of HNUM.out.2.1, fun x hx => HLT.out x ((HNUM.out.2.2 x).1 hx)⟩
  ·rw [hcs, srt_len] at hle
   simp only [il_len] at hle ⊢
   exact Nat.le_trans hle HG.out.2.1
  ·unfold il at hx
   obtain ⟨y, hy, rfl⟩ := List.mem_map.1 hx
   have := HLT.out y ((HNUM.out.2.2 y).1 hy)
   have := HN.out
   exact ⟨by omega, by omega⟩
  ·have hlt : i < (cpt A).toArray.size := by unfold cpt; rw [hcs]; simp only [List.size_toArray, List.length_append]; omega
   rw [(hH5 i hlt).1]
   have e : (cpt A).toArray[i]! = ia (il nums) i := by
    rw [getElem!_pos (cpt A).toArray i hlt]
    unfold cpt ia
    simp only [hcs, List.getElem_toArray]
    rw [List.getElem_append_left hi, List.getD_eq_getElem?_getD, List.getElem?_eq_getElem hi]; rfl
   rw [e]
theorem named_any (n : Int) (hn : n ≤ 1099511627776) (hn2 : I64 n) (E : List Ed) (hEl : E.length ≤ 1048576) (v : Value) (w : World) (hE : EdI w v E) : Calls Try.prog 31 #[.int .i64 n, v] w (NmP n E w) := by
 by_cases hq : n.tdiv 2 ≤ (E.length : Int)
 ·exact named_few n hn hn2 E v w hE hq
 ·exact named_many n hn hn2 E hEl v w hE hq
end Go.Proofs.Ytnlgeiofkfkhbaa
