/-
  What functions of the library answer at this program, laid by program out of the library. Conditions: each states its own.
  What slices.SortFunc leaves of a row of ranges, by their beginnings. Conditions: at most 2^40 ranges.
-/
import Derived.Shelf.Small.Bits
import Derived.Shelf.Small.Wraps
import Derived.Shelf.Strconv.Itoa0
import Derived.Shelf.SlGeneric
import Derived.Shelf.SlSortCmp.NoneTotal
import Derived.Test.YtcgohdfpmfpfiaaProg
import Derived.Test.YtcgohdfpmfpfiaaXR2
namespace Go.Proofs
open Go.Shelf
def Try.lays122_ren : Go.Shelf.Ren := ⟨fun | 122 => 66 | 215 => 70 | n => n, fun | 3 => 3 | 4 => 4 | n => n, fun | n => n⟩
theorem Try.lays122 : Go.Proofs.Lays.n122 Try.prog Try.lays122_ren := {
  mixed := by kernel_rfl
  f122 := Try.func66.trans (congrArg some (by kernel_rfl))
  f215 := Try.func70.trans (congrArg some (by kernel_rfl))
  t3 := Try.underlying3
  a3 := Try.isAgg3
  z3 := Try.sizeOf3
  v3 := Try.zeroValue3
  t4 := Try.underlying4
  a4 := Try.isAgg4
  z4 := Try.sizeOf4
  v4 := Try.zeroValue4 }
open Go.RowKit in
/-- cmp.Compare at int: "Compare returns -1 if x is less than y, 0 if x equals y, +1 if x is greater than y.": IT RETURNS 'Lib.compareInt x y'; the world is as it was. (LAID: no walk: one application.) -/
theorem Try.cmp_Compare_int (x y : Int) (w : World) :
    Calls Try.prog 66 #[.int .i64 x, .int .i64 y] w fun e w' => e = .returned (.int .i64 (Lib.compareInt x y)) ∧ w' = w := Any.cmp_Compare_int Try.lays122 x y w
def Try.sortR_ren : Go.Shelf.Ren := ⟨fun | 6 => 64 | 15 => 69 | 14 => 68 | 28 => 79 | 29 => 80 | 20 => 71 | 21 => 72 | 22 => 73 | 23 => 74 | 24 => 75 | 25 => 76 | 26 => 77 | 27 => 78 | 46 => 81 | 47 => 82 | 48 => 83 | 49 => 84 | 50 => 85 | 57 => 86 | n => n, fun | 22 => 29 | 24 => 57 | 25 => 77 | 3 => 3 | 39 => 81 | 0 => 0 | 53 => 91 | 55 => 93 | 4 => 4 | 46 => 84 | 45 => 83 | 50 => 88 | 5 => 5 | 9 => 9 | 66 => 94 | 70 => 98 | 76 => 100 | 77 => 101 | n => n, fun | n => n⟩
theorem Try.sortR : Go.Proofs.SlLaysF0.n6 Try.prog Try.sortR_ren := {
  mixed := by kernel_rfl
  f6 := ⟨Try.f64.name, by decide, Try.func64.trans (congrArg some (by kernel_rfl))⟩
  f14 := ⟨Try.f68.name, by decide, Try.func68.trans (congrArg some (by kernel_rfl))⟩
  f15 := Try.func69.trans (congrArg some (by kernel_rfl))
  f20 := ⟨Try.f71.name, by decide, Try.func71.trans (congrArg some (by kernel_rfl))⟩
  f21 := ⟨Try.f72.name, by decide, Try.func72.trans (congrArg some (by kernel_rfl))⟩
  f22 := ⟨Try.f73.name, by decide, Try.func73.trans (congrArg some (by kernel_rfl))⟩
  f23 := ⟨Try.f74.name, by decide, Try.func74.trans (congrArg some (by kernel_rfl))⟩
  f24 := ⟨Try.f75.name, by decide, Try.func75.trans (congrArg some (by kernel_rfl))⟩
  f25 := ⟨Try.f76.name, by decide, Try.func76.trans (congrArg some (by kernel_rfl))⟩
  f26 := ⟨Try.f77.name, by decide, Try.func77.trans (congrArg some (by kernel_rfl))⟩
  f27 := ⟨Try.f78.name, by decide, Try.func78.trans (congrArg some (by kernel_rfl))⟩
  f28 := Try.func79.trans (congrArg some (by kernel_rfl))
  f29 := Try.func80.trans (congrArg some (by kernel_rfl))
  f46 := ⟨Try.f81.name, by decide, Try.func81.trans (congrArg some (by kernel_rfl))⟩
  f47 := Try.func82.trans (congrArg some (by kernel_rfl))
  f48 := Try.func83.trans (congrArg some (by kernel_rfl))
  f49 := ⟨Try.f84.name, by decide, Try.func84.trans (congrArg some (by kernel_rfl))⟩
  f50 := ⟨Try.f85.name, by decide, Try.func85.trans (congrArg some (by kernel_rfl))⟩
  f57 := ⟨Try.f86.name, by decide, Try.func86.trans (congrArg some (by kernel_rfl))⟩
  t0 := Try.underlying0
  a0 := Try.isAgg0
  z0 := Try.sizeOf0
  v0 := Try.zeroValue0
  t3 := Try.underlying3
  a3 := Try.isAgg3
  z3 := Try.sizeOf3
  v3 := Try.zeroValue3
  t4 := Try.underlying4
  a4 := Try.isAgg4
  z4 := Try.sizeOf4
  v4 := Try.zeroValue4
  t5 := Try.underlying5
  a5 := Try.isAgg5
  z5 := Try.sizeOf5
  v5 := Try.zeroValue5
  t9 := Try.underlying9
  a9 := Try.isAgg9
  z9 := Try.sizeOf9
  v9 := Try.zeroValue9
  t22 := Try.underlying29
  a22 := Try.isAgg29
  z22 := Try.sizeOf29
  v22 := Try.zeroValue29
  t25 := Try.underlying77
  a25 := Try.isAgg77
  z25 := Try.sizeOf77
  v25 := Try.zeroValue77
  t39 := Try.underlying81
  a39 := Try.isAgg81
  z39 := Try.sizeOf81
  v39 := Try.zeroValue81
  t45 := Try.underlying83
  a45 := Try.isAgg83
  z45 := Try.sizeOf83
  v45 := Try.zeroValue83
  t46 := Try.underlying84
  a46 := Try.isAgg84
  z46 := Try.sizeOf84
  v46 := Try.zeroValue84
  t50 := Try.underlying88
  a50 := Try.isAgg88
  z50 := Try.sizeOf88
  v50 := Try.zeroValue88
  t53 := Try.underlying91
  a53 := Try.isAgg91
  z53 := Try.sizeOf91
  v53 := Try.zeroValue91
  t55 := Try.underlying93
  a55 := Try.isAgg93
  z55 := Try.sizeOf93
  v55 := Try.zeroValue93
  t66 := Try.underlying94
  a66 := Try.isAgg94
  z66 := Try.sizeOf94
  v66 := Try.zeroValue94
  t70 := Try.underlying98
  a70 := Try.isAgg98
  z70 := Try.sizeOf98
  v70 := Try.zeroValue98
  t76 := Try.underlying100
  a76 := Try.isAgg100
  z76 := Try.sizeOf100
  v76 := Try.zeroValue100
  t77 := Try.underlying101
  a77 := Try.isAgg101
  z77 := Try.sizeOf101
  v77 := Try.zeroValue101 }
end Go.Proofs

namespace Go.Proofs.Ytcgohdfpmfpfiaa
open Go.RowKit Go.Shelf Go.Lib Go.Sort
attribute [local go_sem] setCell_drewN alloc_drewN

def encR (x : Int × Int) : List Value := [.int .i64 x.1, .int .i64 x.2]
set_option maxHeartbeats 1000000 in
theorem closureR (x y : Int × Int) (W : World) : Calls Try.prog 65 #[.agg #[.int .i64 x.1, .int .i64 x.2], .agg #[.int .i64 y.1, .int .i64 y.2]] W fun e w' => e = .returned (.int .i64 (Lib.compareInt x.1 y.1)) ∧ ∃ q os', w' = grow (W.drewN q) os' := by
  have hcon := fun W' => Try.cmp_Compare_int x.1 y.1 W'
  generalize Lib.compareInt x.1 y.1 = r at hcon ⊢
  go_enter Try.func65, Try.ntmps65
  go_wp2_with (go_at_call 66; refine (hcon _).mono ?_; rintro e w' ⟨rfl, rfl⟩)
  go_ret
  exact ⟨rfl, 0, _, by rw [alloc_eq_grow, alloc_eq_grow, grow_grow]; rfl⟩
theorem cmpLaysR (blk off size : Nat) (w : World) : CmpLays Try.prog 65 #[] encR 2 (fun x y => Lib.compareInt x.1 y.1) blk off size w := fun _ _ _ _ x y => closureR x y _
theorem ltR (x y : Int × Int) : ltOf (fun x y : Int × Int => Lib.compareInt x.1 y.1) x y = decide (x.1 < y.1) := by
  unfold ltOf Lib.compareInt
  by_cases h1 : x.1 < y.1
  · simp [h1]
  · by_cases h2 : y.1 < x.1 <;> simp [h1, h2]
theorem swoR : SWO (ltOf fun x y : Int × Int => Lib.compareInt x.1 y.1) where
  irrefl x := by rw [ltR]; simp
  trans x y z h1 h2 := by rw [ltR] at *; simp at *; omega
  ntrans x y z h1 h2 := by rw [ltR] at *; simp at *; omega
theorem aggR : ∀ w, (isAgg 57).run Try.prog w = .ok true w := Try.isAgg57
theorem sizeR : ∀ w, (Go.sizeOf 57).run Try.prog w = .ok 2 w := Try.sizeOf57
theorem d_at (l : List (Int × Int)) (i : Nat) (h : i < l.length) : l.toArray[i]! = ra l i := by
  rw [ra_get h, getElem!_pos l.toArray i (by simpa using h)]; simp

set_option maxHeartbeats 1000000 in
theorem sort_any (w : World) (B : Nat) (v : Value) (l : List (Int × Int)) (hown : OwnR w B v l) (hl : l.length ≤ 1099511627776) :
    Calls Try.prog 64 #[v, .func (.func 65) #[] #[]] w fun r w' => r = .returned (.tuple #[]) ∧ ∃ s, s.Perm l ∧ Rise s ∧ RI w' (· < B) s v ∧ Below B w w' := by
  by_cases hz : l = []
  · subst hz
    obtain ⟨ao, cap, rfl, _⟩ := (hown.ri (· < B) (fun b hb => by omega)).shape
    have h := AnyF.slices_SortFunc_none { Try.sortR with } ao cap (.func (.func 65) #[] #[]) w
    refine Calls.mono h ?_
    rintro e w' ⟨rfl, rfl⟩
    exact ⟨rfl, [], List.Perm.refl _, List.Pairwise.nil, hown.ri _ (fun b hb => by omega), Below.refl _ _⟩
  · have hw := hown.2
    have hlt := hown.lt
    obtain ⟨ao, cap, e, h1, h2, h3, h4⟩ := hown.ri (· < B) (fun b hb => by omega)
    have ho := hown.1
    rcases ho.2 with ⟨hn, hn2⟩ | ⟨g, cap', cur, hv, hb, hg, hc, hm, hs, ht⟩
    · exact absurd (List.eq_nil_of_length_eq_zero hn2) hz
    subst hv
    have hH : HoldsK encR 2 w g 0 l.toArray := by
      intro j hj
      have hj' : j < l.length * 2 := by simpa using hj
      rw [get_flatK _ _ _ j (by simpa using hj'), d_at l (j / 2) (by omega)]
      refine ⟨?_, ho.frozenAt _⟩
      rw [Nat.zero_add, ho.cellAt j hj']
      have hf := flat_at l (j / 2) (by omega)
      rcases (by omega : j = j / 2 * 2 ∨ j = j / 2 * 2 + 1) with hj2 | hj2
      · have hm : j % 2 = 0 := by omega
        rw [hm]; conv => lhs; rw [hj2]
        exact hf.1
      · have hm : j % 2 = 1 := by omega
        rw [hm]; conv => lhs; rw [hj2]
        exact hf.2
    have hgl := (hlt g rfl).2
    have eg : ∀ args w, (callFunc 65 args).run Try.prog w = .ok (.enter 65 args) w := enters_of Try.func65 (by kernel_rfl) rfl
    have hcon := AnyQ.slices_SortFunc Try.sortR 2 aggR sizeR encR (fun _ => rfl) (fun x v hv => by simp [encR] at hv; rcases hv with rfl | rfl <;> rfl) (fun x y => Lib.compareInt x.1 y.1) swoR 65 #[] g 0 cap' l.toArray w eg (cmpLaysR g 0 l.toArray.size w) hH hgl (by simp; omega)
    refine Calls.mono hcon ?_
    rintro e2 w' ⟨rfl, d', n, os, hp, hso, rfl⟩
    have hds : d'.size = l.length := by simpa using hp.1
    have hperm : d'.toList.Perm l := by
      have := hp.2.2
      rw [show l.toArray.size = l.length by simp] at this
      rw [← hds] at this
      have e2 : List.take d'.size l = l := by rw [hds]; exact List.take_length
      simp at this
      rwa [e2] at this
    have hH2 := holdsK_sortWorldK_c encR 2 w g 0 l.toArray d' n os hH hgl (by simpa using hds)
    have hi64 : ∀ r ∈ d'.toList, I64 r.1 ∧ I64 r.2 := fun r hr => hw r (hperm.mem_iff.1 hr)
    have hra : ∀ i, i < d'.size → d'[i]! = ra d'.toList i := fun i hi => by rw [ra_get (by simpa using hi), getElem!_pos d' i hi]; simp
    refine ⟨rfl, d'.toList, hperm, ?_, ⟨some ⟨g, 0, none⟩, cap', by simp [hds], by simpa [hds] using hc, hm, hi64, Or.inr ⟨g, 0, rfl, by omega, fun i hi => ?_⟩⟩, ?_⟩
    · unfold Rise
      rw [List.pairwise_iff_getElem]
      intro i j hi hj hij
      have := hso i j (Nat.zero_le _) hij (by simp [← hds]; simpa using hj)
      rw [ltR, hra i (by simpa using hi), hra j (by simpa using hj), ra_get hi, ra_get hj] at this
      have := of_decide_eq_false this
      omega
    · have hi' : i < d'.size := by simpa using hi
      have c0 := HoldsK.cell hH2 hi' (show 0 < 2 by omega)
      have c1 := HoldsK.cell hH2 hi' (show 1 < 2 by omega)
      rw [hra i hi'] at c0 c1
      exact ⟨c0.1, c1.1⟩
    · refine ⟨rfl, rfl, rfl, size_sortWorldK_c encR 2 w g 0 n d' os, fun k hk => ?_⟩
      have hk2 : k < w.heap.size := by omega
      show (grow (putRowK encR 2 (Sort.ahead w n) g 0 d') os).heap[k]? = _
      rw [heap_grow_old _ _ (by show k < (putRow id (Sort.ahead w n) g 0 _).heap.size; rw [size_putRow]; exact hk2)]
      show ((Sort.ahead w n).heap.modify g _)[k]? = _
      rw [Array.getElem?_modify, if_neg (by omega)]
      rfl
end Go.Proofs.Ytcgohdfpmfpfiaa
