/-
  What slices.SortFunc leaves of a row of ranges, by their beginnings. Conditions: at most 2^40 ranges.
-/
import Derived.Test.YtcgohdfpmfpfiaaXR2
import Derived.Test.YtcgohdfpmfpfiaaShelf
namespace Go.Proofs.Ytcgohdfpmfpfiaa
open Go.RowKit Go.Shelf Go.Lib Go.Sort
attribute [local go_sem] setCell_drewN alloc_drewN

def encR (x : Int × Int) : List Value := [.int .i64 x.1, .int .i64 x.2]
set_option maxHeartbeats 1000000 in
theorem closureR (x y : Int × Int) (W : World) : Calls Try.prog 65 #[.agg #[.int .i64 x.1, .int .i64 x.2], .agg #[.int .i64 y.1, .int .i64 y.2]] W fun e w' => e = .returned (.int .i64 (Lib.compareInt x.1 y.1)) ∧ ∃ q os', w' = grow (W.drewN q) os' := by
  have hcon := fun W' => Try.cmp_Compare_int x.1 y.1 W'
  generalize Lib.compareInt x.1 y.1 = r at hcon ⊢
  go_enter Try.func65, Try.ntmps65
  go_wp2_with (go_at_call 66; refine (hcon _).mono ?_; rintro e w' ⟨rfl, rfl⟩)
  go_ret
  exact ⟨rfl, 0, _, by rw [alloc_eq_grow, alloc_eq_grow, grow_grow]; rfl⟩
theorem cmpLaysR (blk off size : Nat) (w : World) : CmpLays Try.prog 65 #[] encR 2 (fun x y => Lib.compareInt x.1 y.1) blk off size w := fun _ _ _ _ x y => closureR x y _
theorem ltR (x y : Int × Int) : ltOf (fun x y : Int × Int => Lib.compareInt x.1 y.1) x y = decide (x.1 < y.1) := by
  unfold ltOf Lib.compareInt
  by_cases h1 : x.1 < y.1
  · simp [h1]
  · by_cases h2 : y.1 < x.1 <;> simp [h1, h2]
theorem swoR : SWO (ltOf fun x y : Int × Int => Lib.compareInt x.1 y.1) where
  irrefl x := by rw [ltR]; simp
  trans x y z h1 h2 := by rw [ltR] at *; simp at *; omega
  ntrans x y z h1 h2 := by rw [ltR] at *; simp at *; omega
theorem aggR : ∀ w, (isAgg 57).run Try.prog w = .ok true w := Try.isAgg57
theorem sizeR : ∀ w, (Go.sizeOf 57).run Try.prog w = .ok 2 w := Try.sizeOf57
theorem d_at (l : List (Int × Int)) (i : Nat) (h : i < l.length) : l.toArray[i]! = ra l i := by
  rw [ra_get h, getElem!_pos l.toArray i (by simpa using h)]; simp

set_option maxHeartbeats 1000000 in
theorem sort_any (w : World) (B : Nat) (v : Value) (l : List (Int × Int)) (hown : OwnR w B v l) (hl : l.length ≤ 1099511627776) :
    Calls Try.prog 64 #[v, .func (.func 65) #[] #[]] w fun r w' => r = .returned (.tuple #[]) ∧ ∃ s, s.Perm l ∧ Rise s ∧ RI w' (· < B) s v ∧ Below B w w' := by
  by_cases hz : l = []
  · subst hz
    obtain ⟨ao, cap, rfl, _⟩ := (hown.ri (· < B) (fun b hb => by omega)).shape
    have h := AnyF.slices_SortFunc_none { Try.sortR with } ao cap (.func (.func 65) #[] #[]) w
    refine Calls.mono h ?_
    rintro e w' ⟨rfl, rfl⟩
    exact ⟨rfl, [], List.Perm.refl _, List.Pairwise.nil, hown.ri _ (fun b hb => by omega), Below.refl _ _⟩
  · have hw := hown.2
    have hlt := hown.lt
    obtain ⟨ao, cap, e, h1, h2, h3, h4⟩ := hown.ri (· < B) (fun b hb => by omega)
    have ho := hown.1
    rcases ho.2 with ⟨hn, hn2⟩ | ⟨g, cap', cur, hv, hb, hg, hc, hm, hs, ht⟩
    · exact absurd (List.eq_nil_of_length_eq_zero hn2) hz
    subst hv
    have hH : HoldsK encR 2 w g 0 l.toArray := by
      intro j hj
      have hj' : j < l.length * 2 := by simpa using hj
      rw [get_flatK _ _ _ j (by simpa using hj'), d_at l (j / 2) (by omega)]
      refine ⟨?_, ho.frozenAt _⟩
      rw [Nat.zero_add, ho.cellAt j hj']
      have hf := flat_at l (j / 2) (by omega)
      rcases (by omega : j = j / 2 * 2 ∨ j = j / 2 * 2 + 1) with hj2 | hj2
      · have hm : j % 2 = 0 := by omega
        rw [hm]; conv => lhs; rw [hj2]
        exact hf.1
      · have hm : j % 2 = 1 := by omega
        rw [hm]; conv => lhs; rw [hj2]
        exact hf.2
    have hgl := (hlt g rfl).2
    have eg : ∀ args w, (callFunc 65 args).run Try.prog w = .ok (.enter 65 args) w := enters_of Try.func65 (by kernel_rfl) rfl
    have hcon := AnyQ.slices_SortFunc Try.sortR 2 aggR sizeR encR (fun _ => rfl) (fun x v hv => by simp [encR] at hv; rcases hv with rfl | rfl <;> rfl) (fun x y => Lib.compareInt x.1 y.1) swoR 65 #[] g 0 cap' l.toArray w eg (cmpLaysR g 0 l.toArray.size w) hH hgl (by simp; omega)
    refine Calls.mono hcon ?_
    rintro e2 w' ⟨rfl, d', n, os, hp, hso, rfl⟩
    have hds : d'.size = l.length := by simpa using hp.1
    have hperm : d'.toList.Perm l := by
      have := hp.2.2
      rw [show l.toArray.size = l.length by simp] at this
      rw [← hds] at this
      have e2 : List.take d'.size l = l := by rw [hds]; exact List.take_length
      simp at this
      rwa [e2] at this
    have hH2 := holdsK_sortWorldK_c encR 2 w g 0 l.toArray d' n os hH hgl (by simpa using hds)
    have hi64 : ∀ r ∈ d'.toList, I64 r.1 ∧ I64 r.2 := fun r hr => hw r (hperm.mem_iff.1 hr)
    have hra : ∀ i, i < d'.size → d'[i]! = ra d'.toList i := fun i hi => by rw [ra_get (by simpa using hi), getElem!_pos d' i hi]; simp
    refine ⟨rfl, d'.toList, hperm, ?_, ⟨some ⟨g, 0, none⟩, cap', by simp [hds], by simpa [hds] using hc, hm, hi64, Or.inr ⟨g, 0, rfl, by omega, fun i hi => ?_⟩⟩, ?_⟩
    · unfold Rise
      rw [List.pairwise_iff_getElem]
      intro i j hi hj hij
      have := hso i j (Nat.zero_le _) hij (by simp [← hds]; simpa using hj)
      rw [ltR, hra i (by simpa using hi), hra j (by simpa using hj), ra_get hi, ra_get hj] at this
      have := of_decide_eq_false this
      omega
    · have hi' : i < d'.size := by simpa using hi
      have c0 := HoldsK.cell hH2 hi' (show 0 < 2 by omega)
      have c1 := HoldsK.cell hH2 hi' (show 1 < 2 by omega)
      rw [hra i hi'] at c0 c1
      exact ⟨c0.1, c1.1⟩
    · refine ⟨rfl, rfl, rfl, size_sortWorldK_c encR 2 w g 0 n d' os, fun k hk => ?_⟩
      have hk2 : k < w.heap.size := by omega
      show (grow (putRowK encR 2 (Sort.ahead w n) g 0 d') os).heap[k]? = _
      rw [heap_grow_old _ _ (by show k < (putRow id (Sort.ahead w n) g 0 _).heap.size; rw [size_putRow]; exact hk2)]
      show ((Sort.ahead w n).heap.modify g _)[k]? = _
      rw [Array.getElem?_modify, if_neg (by omega)]
      rfl
end Go.Proofs.Ytcgohdfpmfpfiaa
