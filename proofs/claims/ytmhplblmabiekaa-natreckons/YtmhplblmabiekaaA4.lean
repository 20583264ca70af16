/-
  What nat.upward makes of two numbers' limbs by the function that adds, and by the one that takes off. Conditions: the limbs are below 10^9; the carry lies in a block of its own.
-/
import Derived.Test.YtmhplblmabiekaaA3
namespace Go.Proofs.Ytmhplblmabiekaa
open Go.RowKit

theorem info46 : (Try.prog.info? 46).map (fun i => (i.zero, i.size, i.bytes)) = some (some (.int .u32 0), 1, 4) := by kernel_rfl
/-- Limbs as values. -/
def vals (n : Nat) (f : Nat → Int) : List Value := (List.range n).map fun i => .int .u32 (f i)
theorem vals_length (n : Nat) (f : Nat → Int) : (vals n f).length = n := by simp [vals]
theorem vals_get (n : Nat) (f : Nat → Int) (i : Nat) (h : i < n) : (vals n f)[i]? = some (.int .u32 (f i)) := by simp [vals, h]
theorem vals_congr {n : Nat} {f g : Nat → Int} (h : ∀ i, i < n → f i = g i) : vals n f = vals n g := by
  apply List.ext_getElem?
  intro j
  by_cases hj : j < n
  · rw [vals_get n f j hj, vals_get n g j hj, h j hj]
  · rw [List.getElem?_eq_none (by rw [vals_length]; omega), List.getElem?_eq_none (by rw [vals_length]; omega)]
def upd (f : Nat → Int) (k : Nat) (x : Int) : Nat → Int := fun i => if i = k then x else f i
theorem vals_set (n : Nat) (f : Nat → Int) (k : Nat) (x : Int) : (vals n f).set k (.int .u32 x) = vals n (upd f k x) := by
  apply List.ext_getElem?
  intro j
  rw [List.getElem?_set]
  by_cases hj : j < n
  · rw [vals_get n (upd f k x) j hj]
    by_cases e : k = j
    · subst e; simp [upd, vals_length, hj]
    · rw [if_neg e, vals_get n f j hj]; simp [upd, show ¬ j = k by omega]
  · rw [List.getElem?_eq_none (l := vals n (upd f k x)) (by rw [vals_length]; omega)]
    split
    · simp [vals_length]; omega
    · exact List.getElem?_eq_none (by rw [vals_length]; omega)
/-- A row of limbs of the call's own, at the head of its block. -/
def Own (w : World) (B g n : Nat) (f : Nat → Int) : Prop := w.ownsRow B 46 1 (.slice (some ⟨g, 0, none⟩) n n) n (vals n f)
theorem Own.cell {w : World} {B g n : Nat} {f : Nat → Int} (h : Own w B g n f) (i : Nat) (hi : i < n) : w.cell? ⟨g, i, none⟩ = some (.int .u32 (f i)) := by
  rw [World.ownsRow.cellAt h i (by omega), vals_get n f i hi]
theorem Own.free {w : World} {B g n : Nat} {f : Nat → Int} (h : Own w B g n f) (i : Nat) : w.frozen? ⟨g, i, none⟩ = false := World.ownsRow.frozenAt h i
theorem Own.stored {w : World} {B g n : Nat} {f : Nat → Int} (h : Own w B g n f) (k : Nat) (x : Int) : Own (w.setCell ⟨g, k, none⟩ (.int .u32 x)) B g n (upd f k x) := by
  have := (World.ownsRow.stored h k (.int .u32 x)).1
  rw [vals_set] at this
  exact this
theorem Own.block {w : World} {B g n : Nat} {f : Nat → Int} (h : Own w B g n f) : B ≤ g ∧ g < w.heap.size := World.ownsRow.lt h g rfl
theorem Own.heap {w : World} {B g n : Nat} {f : Nat → Int} (h : Own w B g n f) : ∃ cur, w.heap[g]? = some (.cells cur 46 (0, 0)) := by
  rcases h.2 with ⟨h', _⟩ | ⟨g', cap', cur, h', _, hg, _⟩
  · simp at h'
  · simp only [Value.slice.injEq, Option.some.injEq, Addr.mk.injEq, and_true, true_and] at h'
    obtain ⟨rfl, rfl⟩ := h'
    exact ⟨cur, hg⟩
theorem Own.row {w : World} {B g n : Nat} {f : Nat → Int} (h : Own w B g n f) (lo : ∀ i, 0 ≤ f i) (hi : ∀ i, f i < 4294967296) (hm : n ≤ maxLen) : Row w (.slice (some ⟨g, 0, none⟩) n n) n f :=
  .inr ⟨g, 0, n, rfl, Nat.le_refl _, hm, ⟨fun i hi => by rw [Nat.zero_add]; exact h.cell i hi, lo, hi⟩⟩
theorem make_row (w : World) (n : Nat) (h : 4 * n ≤ 281474976710656) : (Instr.makeSlice 22 (.int .i64 (n : Int)) (.int .i64 (n : Int))).run Try.prog w = .ok (.slice (some ⟨w.heap.size, 0, none⟩) n n) (w.alloc (.cells (madeCells #[.int .u32 0] n) 46)) := by
  obtain ⟨i0, hi, hz0, hz1, hz2⟩ := info_parts info46
  have := run_make (P := Try.prog) w 22 46 i0 (.int .u32 0) Try.underlying22 hi hz0 .i64 .i64 (n : Int) (n : Int) (by omega) (by omega) (by rw [hz2]; omega) (by omega)
  rw [hz1] at this
  simpa [Value.cells] using this
theorem make_own (w : World) (B n : Nat) (hB : B ≤ w.heap.size) (h : n ≤ maxLen) : Own (w.alloc (.cells (madeCells #[.int .u32 0] n) 46)) B w.heap.size n (fun _ => 0) := by
  have := World.ownsRow_lit (base := B) (e := 46) (size := 1) w (madeCells #[.int .u32 0] n) n hB h (by have := size_madeCells #[Value.int .u32 0] (n * 1); simpa using this)
  rw [toList_madeCells_one] at this
  have e : List.replicate n (Value.int .u32 0) = vals n (fun _ => 0) := by
    apply List.ext_getElem?
    intro j
    by_cases hj : j < n
    · rw [vals_get n _ j hj]; simp [hj]
    · rw [List.getElem?_eq_none (by simp; omega), List.getElem?_eq_none (by rw [vals_length]; omega)]
  rw [e] at this
  exact this

/-- The limbs that come out, one behind the other, with what is carried. -/
def carr (nx : Int → Int → Int → Int) (f g : Nat → Int) : Nat → Int
  | 0 => 0
  | i + 1 => nx (f i) (g i) (carr nx f g i)
def outs (d nx : Int → Int → Int → Int) (f g : Nat → Int) (k : Nat) : Nat → Int := fun i => if i < k then d (f i) (g i) (carr nx f g i) else 0
theorem outs_succ (d nx : Int → Int → Int → Int) (f g : Nat → Int) (k : Nat) : upd (outs d nx f g k) k (d (f k) (g k) (carr nx f g k)) = outs d nx f g (k + 1) := by
  funext i
  unfold upd outs
  by_cases e : i = k
  · subst e; simp
  · by_cases h : i < k
    · simp [e, h, show i < k + 1 by omega]
    · simp [e, h, show ¬ i < k + 1 by omega]
def dS (x y s : Int) : Int := (x + y + s) % 1000000000
def nS (x y s : Int) : Int := (x + y + s) / 1000000000
def dD (x y s : Int) : Int := (1000000000 + x - y - s) % 1000000000
def nD (x y s : Int) : Int := 1 - (1000000000 + x - y - s) / 1000000000
/-- What such a function must keep to. -/
structure Steps (d nx : Int → Int → Int → Int) : Prop where
  dlo : ∀ x y s, 0 ≤ x → x < 1000000000 → 0 ≤ y → y < 1000000000 → 0 ≤ s → s ≤ 1 → 0 ≤ d x y s
  dhi : ∀ x y s, 0 ≤ x → x < 1000000000 → 0 ≤ y → y < 1000000000 → 0 ≤ s → s ≤ 1 → d x y s < 1000000000
  nlo : ∀ x y s, 0 ≤ x → x < 1000000000 → 0 ≤ y → y < 1000000000 → 0 ≤ s → s ≤ 1 → 0 ≤ nx x y s
  nhi : ∀ x y s, 0 ≤ x → x < 1000000000 → 0 ≤ y → y < 1000000000 → 0 ≤ s → s ≤ 1 → nx x y s ≤ 1
theorem stepsS : Steps dS nS := ⟨fun x y s _ _ _ _ _ _ => by unfold dS; omega, fun x y s _ _ _ _ _ _ => by unfold dS; omega, fun x y s _ _ _ _ _ _ => by unfold nS; omega, fun x y s _ _ _ _ _ _ => by unfold nS; omega⟩
theorem stepsD : Steps dD nD := ⟨fun x y s _ _ _ _ _ _ => by unfold dD; omega, fun x y s _ _ _ _ _ _ => by unfold dD; omega, fun x y s _ _ _ _ _ _ => by unfold nD; omega, fun x y s _ _ _ _ _ _ => by unfold nD; omega⟩
def All9 (f : Nat → Int) : Prop := ∀ i, 0 ≤ f i ∧ f i < 1000000000
theorem carr_bd {d nx : Int → Int → Int → Int} (hS : Steps d nx) {f g : Nat → Int} (hf : All9 f) (hg : All9 g) (k : Nat) : 0 ≤ carr nx f g k ∧ carr nx f g k ≤ 1 := by
  induction k with
  | zero => simp [carr]
  | succ k ih => exact ⟨hS.nlo _ _ _ (hf k).1 (hf k).2 (hg k).1 (hg k).2 ih.1 ih.2, hS.nhi _ _ _ (hf k).1 (hf k).2 (hg k).1 (hg k).2 ih.1 ih.2⟩
theorem outs_bd {d nx : Int → Int → Int → Int} (hS : Steps d nx) {f g : Nat → Int} (hf : All9 f) (hg : All9 g) (k : Nat) : All9 (outs d nx f g k) := by
  intro i
  have := carr_bd hS hf hg i
  unfold outs
  split
  · exact ⟨hS.dlo _ _ _ (hf i).1 (hf i).2 (hg i).1 (hg i).2 this.1 this.2, hS.dhi _ _ _ (hf i).1 (hf i).2 (hg i).1 (hg i).2 this.1 this.2⟩
  · omega
theorem limb_all {n : Nat} {f : Nat → Int} (h : Limbs n f) : All9 (limb n f) := by
  intro i
  unfold limb
  split
  · exact h i (by assumption)
  · omega

set_option maxHeartbeats 400000 in
theorem joinS_any (x y s : Int) (c : Nat) (w : World) (hc : w.heap[c]? = some (.cells #[.int .u64 s] 51 (0, 0))) (x0 : 0 ≤ x) (x1 : x < 1000000000) (y0 : 0 ≤ y) (y1 : y < 1000000000) (s0 : 0 ≤ s) (s1 : s ≤ 1) :
    Calls Try.prog 43 #[.int .u64 x, .int .u64 y, .pointer (some ⟨c, 0, none⟩)] w fun e w' => e = .returned (.int .u64 (dS x y s)) ∧ w' = w.setCell ⟨c, 0, none⟩ (.int .u64 (nS x y s)) := by
  have cc := cell_of_one hc
  have cf := free_of_one hc
  unfold dS nS
  clear hc
  go_enter Try.func43, Try.ntmps43
  go_wp2
  go_ret
  exact ⟨rfl, rfl⟩

set_option maxHeartbeats 800000 in
theorem upwardS_any (v0 v1 : Value) (n m N c : Nat) (f g : Nat → Int) (w0 w : World) (hB : Below w0.heap.size w0 w) (h0 : Row w0 v0 n f) (h1 : Row w0 v1 m g) (hf : Limbs n f) (hg : Limbs m g)
    (hc : w.heap[c]? = some (.cells #[.int .u64 0] 51 (0, 0))) (hcB : w0.heap.size ≤ c) (hN : 4 * N ≤ 281474976710656) :
    Calls Try.prog 42 #[.int .i64 N, v0, v1, .func (.func 43) #[] #[.pointer (some ⟨c, 0, none⟩)]] w fun e w' => ∃ r, e = .returned r ∧
      (∃ m', Row w' r m' (outs dS nS (limb n f) (limb m g) N) ∧ Trims N (outs dS nS (limb n f) (limb m g) N) m') ∧ Below w0.heap.size w0 w' := by
  have F9 := limb_all hf
  have G9 := limb_all hg
  have hmk := make_row w N hN
  have hown := make_own w w.heap.size N (Nat.le_refl _) (by unfold maxLen; omega)
  have hne : c < w.heap.size := lt_of_block hc
  have hc1 : (w.alloc (.cells (madeCells #[.int .u32 0] N) 46)).heap[c]? = some (.cells #[.int .u64 0] 51 (0, 0)) := by rw [Below.heap_alloc _ _ _ hne]; exact hc
  have hb1 : Below w0.heap.size w0 (w.alloc (.cells (madeCells #[.int .u32 0] N) 46)) := hB.alloc hB.size _
  have HO : Hid (Own (w.alloc (.cells (madeCells #[.int .u32 0] N) 46)) w.heap.size w.heap.size N (fun _ => 0)) := hown
  have HC : Hid ((w.alloc (.cells (madeCells #[.int .u32 0] N) 46)).heap[c]? = some (.cells #[.int .u64 0] 51 (0, 0))) := hc1
  have HB : Hid (Below w0.heap.size w0 (w.alloc (.cells (madeCells #[.int .u32 0] N) 46))) := hb1
  have hz := hB.size
  clear hown hc1 hb1 hc
  go_enter Try.func42, Try.ntmps42
  go_wp2
  clear hmk
  go_loopw [15] (fun i wr => ∃ k : Nat, k ≤ N ∧ i = .int .i64 k ∧ Hid (Own wr w.heap.size w.heap.size N (outs dS nS (limb n f) (limb m g) k)) ∧ Hid (wr.heap[c]? = some (.cells #[.int .u64 (carr nS (limb n f) (limb m g) k)] 51 (0, 0))) ∧ Hid (Below w0.heap.size w0 wr)) (fun i _ => N - (intOf i).toNat)
  case atStart => exact ⟨0, Nat.zero_le _, rfl, HO.out, HC.out, HB.out⟩
  case round =>
    obtain ⟨k, hk, rfl, HO2, HC2, HB2⟩ := hrel
    by_cases hlt : k < N
    · have hI : (k : Int) < (N : Int) := by omega
      have a1 := limbAt_any v0 n f k wr (h0.below HB2.out) (by unfold maxLen; omega)
      have a2 := limbAt_any v1 m g k wr (h1.below HB2.out) (by unfold maxLen; omega)
      have bd := carr_bd stepsS F9 G9 k
      have a3 := joinS_any (limb n f k) (limb m g k) (carr nS (limb n f) (limb m g) k) c wr HC2.out (F9 k).1 (F9 k).2 (G9 k).1 (G9 k).2 bd.1 bd.2
      have b1 := stepsS.dlo _ _ _ (F9 k).1 (F9 k).2 (G9 k).1 (G9 k).2 bd.1 bd.2
      have b2 := stepsS.dhi _ _ _ (F9 k).1 (F9 k).2 (G9 k).1 (G9 k).2 bd.1 bd.2
      have gb := HO2.out.block
      have HO3 : Hid (Own (wr.setCell ⟨c, 0, none⟩ (.int .u64 (nS (limb n f k) (limb m g k) (carr nS (limb n f) (limb m g) k)))) w.heap.size w.heap.size N (outs dS nS (limb n f) (limb m g) k)) := ownsRow_setCell_below HO2.out (by simpa using hne) _
      have HC3 : Hid ((wr.setCell ⟨c, 0, none⟩ (.int .u64 (nS (limb n f k) (limb m g k) (carr nS (limb n f) (limb m g) k)))).heap[c]? = some (.cells #[.int .u64 (carr nS (limb n f) (limb m g) (k + 1))] 51 (0, 0))) := one_setCell HC2.out
      have HB3 : Hid (Below w0.heap.size w0 (wr.setCell ⟨c, 0, none⟩ (.int .u64 (nS (limb n f k) (limb m g k) (carr nS (limb n f) (limb m g) k))))) := HB2.out.setCell (by simpa using hcB) _
      obtain ⟨w3, hw3⟩ : ∃ w3, w3 = wr.setCell ⟨c, 0, none⟩ (.int .u64 (nS (limb n f k) (limb m g k) (carr nS (limb n f) (limb m g) k))) := ⟨_, rfl⟩
      rw [← hw3] at HO3 HC3 HB3 a3
      have HD : Hid (upd (outs dS nS (limb n f) (limb m g) k) k (dS (limb n f k) (limb m g k) (carr nS (limb n f) (limb m g) k)) = outs dS nS (limb n f) (limb m g) (k + 1)) := outs_succ _ _ _ _ _
      generalize dS (limb n f k) (limb m g k) (carr nS (limb n f) (limb m g) k) = x at *
      have c3 := HO3.out.cell k hlt
      have f3 := HO3.out.free k
      have HO4 : Hid (Own (w3.setCell ⟨w.heap.size, k, none⟩ (.int .u32 x)) w.heap.size w.heap.size N (outs dS nS (limb n f) (limb m g) (k + 1))) := by
        have := HO3.out.stored k x
        rw [HD.out] at this
        exact this
      have HC4 : Hid ((w3.setCell ⟨w.heap.size, k, none⟩ (.int .u32 x)).heap[c]? = some (.cells #[.int .u64 (carr nS (limb n f) (limb m g) (k + 1))] 51 (0, 0))) := by
        show (w3.setCell ⟨w.heap.size, k, none⟩ (.int .u32 x)).heap[c]? = _
        rw [Below.heap_setCell _ _ _ _ (by simp; omega)]; exact HC3.out
      have HB4 : Hid (Below w0.heap.size w0 (w3.setCell ⟨w.heap.size, k, none⟩ (.int .u32 x))) := HB3.out.setCell (by simpa using hz) _
      clear hw3 HO2 HC2 HB2 HO3 HC3 HB3 HD bd F9 G9
      generalize outs dS nS (limb n f) (limb m g) k k = z at *
      generalize limb n f k = x1 at *
      generalize limb m g k = x2 at *
      go_wp2_with fail
      refine a1.mono ?_
      rintro e w' ⟨rfl, rfl⟩
      go_wp2_with fail
      refine a2.mono ?_
      rintro e w' ⟨rfl, rfl⟩
      go_wp2_with fail
      refine a3.mono ?_
      rintro e w' ⟨rfl, rfl⟩
      clear a1 a2 a3
      go_wp2
      go_roundw
      case rel => exact ⟨k + 1, by omega, by go_num, HO4, HC4, HB4⟩
      case measure => simp [intOf]; omega
    · have e : k = N := by omega
      subst e
      have bds := outs_bd stepsS F9 G9 k
      have ht := trimmed_any _ k _ wr (HO2.out.row (fun i => (bds i).1) (fun i => by have := (bds i).2; omega) (by unfold maxLen; omega))
      clear bds
      go_wp2_with fail
      refine ht.mono ?_
      rintro e w' ⟨r, rfl, hr, rfl⟩
      clear ht
      go_wp2
      go_ret
      exact ⟨_, rfl, hr, HB2.out⟩

set_option maxHeartbeats 400000 in
theorem joinD_any (x y s : Int) (c : Nat) (w : World) (hc : w.heap[c]? = some (.cells #[.int .u64 s] 51 (0, 0))) (x0 : 0 ≤ x) (x1 : x < 1000000000) (y0 : 0 ≤ y) (y1 : y < 1000000000) (s0 : 0 ≤ s) (s1 : s ≤ 1) :
    Calls Try.prog 44 #[.int .u64 x, .int .u64 y, .pointer (some ⟨c, 0, none⟩)] w fun e w' => e = .returned (.int .u64 (dD x y s)) ∧ w' = w.setCell ⟨c, 0, none⟩ (.int .u64 (nD x y s)) := by
  have cc := cell_of_one hc
  have cf := free_of_one hc
  unfold dD nD
  clear hc
  go_enter Try.func44, Try.ntmps44
  go_wp2
  go_ret
  exact ⟨rfl, rfl⟩

set_option maxHeartbeats 800000 in
theorem upwardD_any (v0 v1 : Value) (n m N c : Nat) (f g : Nat → Int) (w0 w : World) (hB : Below w0.heap.size w0 w) (h0 : Row w0 v0 n f) (h1 : Row w0 v1 m g) (hf : Limbs n f) (hg : Limbs m g)
    (hc : w.heap[c]? = some (.cells #[.int .u64 0] 51 (0, 0))) (hcB : w0.heap.size ≤ c) (hN : 4 * N ≤ 281474976710656) :
    Calls Try.prog 42 #[.int .i64 N, v0, v1, .func (.func 44) #[] #[.pointer (some ⟨c, 0, none⟩)]] w fun e w' => ∃ r, e = .returned r ∧
      (∃ m', Row w' r m' (outs dD nD (limb n f) (limb m g) N) ∧ Trims N (outs dD nD (limb n f) (limb m g) N) m') ∧ Below w0.heap.size w0 w' := by
  have F9 := limb_all hf
  have G9 := limb_all hg
  have hmk := make_row w N hN
  have hown := make_own w w.heap.size N (Nat.le_refl _) (by unfold maxLen; omega)
  have hne : c < w.heap.size := lt_of_block hc
  have hc1 : (w.alloc (.cells (madeCells #[.int .u32 0] N) 46)).heap[c]? = some (.cells #[.int .u64 0] 51 (0, 0)) := by rw [Below.heap_alloc _ _ _ hne]; exact hc
  have hb1 : Below w0.heap.size w0 (w.alloc (.cells (madeCells #[.int .u32 0] N) 46)) := hB.alloc hB.size _
  have HO : Hid (Own (w.alloc (.cells (madeCells #[.int .u32 0] N) 46)) w.heap.size w.heap.size N (fun _ => 0)) := hown
  have HC : Hid ((w.alloc (.cells (madeCells #[.int .u32 0] N) 46)).heap[c]? = some (.cells #[.int .u64 0] 51 (0, 0))) := hc1
  have HB : Hid (Below w0.heap.size w0 (w.alloc (.cells (madeCells #[.int .u32 0] N) 46))) := hb1
  have hz := hB.size
  clear hown hc1 hb1 hc
  go_enter Try.func42, Try.ntmps42
  go_wp2
  clear hmk
  go_loopw [15] (fun i wr => ∃ k : Nat, k ≤ N ∧ i = .int .i64 k ∧ Hid (Own wr w.heap.size w.heap.size N (outs dD nD (limb n f) (limb m g) k)) ∧ Hid (wr.heap[c]? = some (.cells #[.int .u64 (carr nD (limb n f) (limb m g) k)] 51 (0, 0))) ∧ Hid (Below w0.heap.size w0 wr)) (fun i _ => N - (intOf i).toNat)
  case atStart => exact ⟨0, Nat.zero_le _, rfl, HO.out, HC.out, HB.out⟩
  case round =>
    obtain ⟨k, hk, rfl, HO2, HC2, HB2⟩ := hrel
    by_cases hlt : k < N
    · have hI : (k : Int) < (N : Int) := by omega
      have a1 := limbAt_any v0 n f k wr (h0.below HB2.out) (by unfold maxLen; omega)
      have a2 := limbAt_any v1 m g k wr (h1.below HB2.out) (by unfold maxLen; omega)
      have bd := carr_bd stepsD F9 G9 k
      have a3 := joinD_any (limb n f k) (limb m g k) (carr nD (limb n f) (limb m g) k) c wr HC2.out (F9 k).1 (F9 k).2 (G9 k).1 (G9 k).2 bd.1 bd.2
      have b1 := stepsD.dlo _ _ _ (F9 k).1 (F9 k).2 (G9 k).1 (G9 k).2 bd.1 bd.2
      have b2 := stepsD.dhi _ _ _ (F9 k).1 (F9 k).2 (G9 k).1 (G9 k).2 bd.1 bd.2
      have gb := HO2.out.block
      have HO3 : Hid (Own (wr.setCell ⟨c, 0, none⟩ (.int .u64 (nD (limb n f k) (limb m g k) (carr nD (limb n f) (limb m g) k)))) w.heap.size w.heap.size N (outs dD nD (limb n f) (limb m g) k)) := ownsRow_setCell_below HO2.out (by simpa using hne) _
      have HC3 : Hid ((wr.setCell ⟨c, 0, none⟩ (.int .u64 (nD (limb n f k) (limb m g k) (carr nD (limb n f) (limb m g) k)))).heap[c]? = some (.cells #[.int .u64 (carr nD (limb n f) (limb m g) (k + 1))] 51 (0, 0))) := one_setCell HC2.out
      have HB3 : Hid (Below w0.heap.size w0 (wr.setCell ⟨c, 0, none⟩ (.int .u64 (nD (limb n f k) (limb m g k) (carr nD (limb n f) (limb m g) k))))) := HB2.out.setCell (by simpa using hcB) _
      obtain ⟨w3, hw3⟩ : ∃ w3, w3 = wr.setCell ⟨c, 0, none⟩ (.int .u64 (nD (limb n f k) (limb m g k) (carr nD (limb n f) (limb m g) k))) := ⟨_, rfl⟩
      rw [← hw3] at HO3 HC3 HB3 a3
      have HD : Hid (upd (outs dD nD (limb n f) (limb m g) k) k (dD (limb n f k) (limb m g k) (carr nD (limb n f) (limb m g) k)) = outs dD nD (limb n f) (limb m g) (k + 1)) := outs_succ _ _ _ _ _
      generalize dD (limb n f k) (limb m g k) (carr nD (limb n f) (limb m g) k) = x at *
      have c3 := HO3.out.cell k hlt
      have f3 := HO3.out.free k
      have HO4 : Hid (Own (w3.setCell ⟨w.heap.size, k, none⟩ (.int .u32 x)) w.heap.size w.heap.size N (outs dD nD (limb n f) (limb m g) (k + 1))) := by
        have := HO3.out.stored k x
        rw [HD.out] at this
        exact this
      have HC4 : Hid ((w3.setCell ⟨w.heap.size, k, none⟩ (.int .u32 x)).heap[c]? = some (.cells #[.int .u64 (carr nD (limb n f) (limb m g) (k + 1))] 51 (0, 0))) := by
        show (w3.setCell ⟨w.heap.size, k, none⟩ (.int .u32 x)).heap[c]? = _
        rw [Below.heap_setCell _ _ _ _ (by simp; omega)]; exact HC3.out
      have HB4 : Hid (Below w0.heap.size w0 (w3.setCell ⟨w.heap.size, k, none⟩ (.int .u32 x))) := HB3.out.setCell (by simpa using hz) _
      clear hw3 HO2 HC2 HB2 HO3 HC3 HB3 HD bd F9 G9
      generalize outs dD nD (limb n f) (limb m g) k k = z at *
      generalize limb n f k = x1 at *
      generalize limb m g k = x2 at *
      go_wp2_with fail
      refine a1.mono ?_
      rintro e w' ⟨rfl, rfl⟩
      go_wp2_with fail
      refine a2.mono ?_
      rintro e w' ⟨rfl, rfl⟩
      go_wp2_with fail
      refine a3.mono ?_
      rintro e w' ⟨rfl, rfl⟩
      clear a1 a2 a3
      go_wp2
      go_roundw
      case rel => exact ⟨k + 1, by omega, by go_num, HO4, HC4, HB4⟩
      case measure => simp [intOf]; omega
    · have e : k = N := by omega
      subst e
      have bds := outs_bd stepsD F9 G9 k
      have ht := trimmed_any _ k _ wr (HO2.out.row (fun i => (bds i).1) (fun i => by have := (bds i).2; omega) (by unfold maxLen; omega))
      clear bds
      go_wp2_with fail
      refine ht.mono ?_
      rintro e w' ⟨r, rfl, hr, rfl⟩
      clear ht
      go_wp2
      go_ret
      exact ⟨_, rfl, hr, HB2.out⟩
end Go.Proofs.Ytmhplblmabiekaa
