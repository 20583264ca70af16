/-
  What nat.dividedByLimb answers. Conditions: the divisor is a limb that is not nought.
-/
import Derived.Test.YtfhapeinfhjihaaGreatDoorA7
namespace Go.Proofs.YtfhapeinfhjihaaGreatDoor
open Go.RowKit

set_option maxHeartbeats 400000 in
theorem joinL_any (x r y : Int) (c cb : Nat) (w : World) (hc : w.heap[c]? = some (.cells #[.int .u64 r] 121 (0, 0))) (hcb : w.heap[cb]? = some (.cells #[.int .u64 y] 121 (0, 0))) (hne : cb ≠ c) (x0 : 0 ≤ x) (x1 : x < 1000000000) (y0 : 0 < y) (y1 : y < 1000000000) (r0 : 0 ≤ r) (r1 : r < y) :
    Calls Tryz.prog 125 #[.int .u64 x, .pointer (some ⟨c, 0, none⟩), .pointer (some ⟨cb, 0, none⟩)] w fun e w' => e = .returned (.int .u64 ((r * 1000000000 + x) / y)) ∧ w' = w.setCell ⟨c, 0, none⟩ (.int .u64 ((r * 1000000000 + x) % y)) := by
  have cc := cell_of_one hc
  have cf := free_of_one hc
  have bb := cell_of_one hcb
  have yz : (y == 0) = false := by simp; omega
  have ez : (w.setCell ⟨c, 0, none⟩ (.int .u64 ((r * 1000000000 + x) % y))).cell? ⟨cb, 0, none⟩ = some (.int .u64 y) := by
    rw [cell_of_one (t := 121)]
    rw [Below.heap_setCell _ _ _ _ (by simpa using hne)]; exact hcb
  have em : (r * 1000000000 + x).tmod y = (r * 1000000000 + x) % y := Int.tmod_eq_emod_of_nonneg (by omega)
  have ed : (r * 1000000000 + x).tdiv y = (r * 1000000000 + x) / y := Int.tdiv_eq_ediv_of_nonneg (by omega)
  have m0 := Int.emod_nonneg (r * 1000000000 + x) (show y ≠ 0 by omega)
  have m1 := Int.emod_lt_of_pos (r * 1000000000 + x) y0
  have d0 : 0 ≤ (r * 1000000000 + x) / y := Int.ediv_nonneg (by omega) (by omega)
  have d1 : (r * 1000000000 + x) / y ≤ r * 1000000000 + x := Int.ediv_le_self _ (by omega)
  clear hc hcb
  go_enter Tryz.func125, Tryz.ntmps125
  go_wp2
  go_ret
  exact ⟨rfl, rfl⟩

theorem val_upd (g : Nat → Int) (n t : Nat) (q : Int) (ht : t < n) (h0 : g t = 0) : val (upd g t q) n = val g n + q * pw t := by
  induction n with
  | zero => omega
  | succ n ih =>
    rw [val_succ, val_succ]
    by_cases e : t = n
    · subst e
      rw [val_congr (f := upd g t q) (g := g) (fun i hi => by simp [upd, show ¬ i = t by omega])]
      simp [upd, h0]
    · rw [ih (by omega)]
      simp only [upd, show ¬ n = t by omega, if_false]
      omega
theorem div_step (p x y r q r' V W : Int) (h : r * 1000000000 + x = q * y + r') (hV : W = x * p + V * y + p * 1000000000 * r) : W = (V + q * p) * y + p * r' := by
  have h1 : p * (r * 1000000000 + x) = p * (q * y + r') := by rw [h]
  rw [hV]
  simp only [Int.mul_add, Int.mul_comm, Int.mul_left_comm] at h1 ⊢
  omega
theorem upd_all {g : Nat → Int} (h : All9 g) (t : Nat) (q : Int) (q0 : 0 ≤ q) (q1 : q < 1000000000) : All9 (upd g t q) := by
  intro i
  unfold upd
  split
  · exact ⟨q0, q1⟩
  · exact h i

set_option maxHeartbeats 800000 in
theorem downward_any (v0 : Value) (n c cb : Nat) (f : Nat → Int) (y : Int) (w0 w : World) (hB : Below w0.heap.size w0 w) (h0 : Row w0 v0 n f) (hf : Limbs n f) (y0 : 0 < y) (y1 : y < 1000000000)
    (hc : w.heap[c]? = some (.cells #[.int .u64 0] 121 (0, 0))) (hcb : w.heap[cb]? = some (.cells #[.int .u64 y] 121 (0, 0))) (hne : cb ≠ c) (hcB : w0.heap.size ≤ c) (hn : 4 * n ≤ 281474976710656) :
    Calls Tryz.prog 124 #[v0, .func (.func 125) #[] #[.pointer (some ⟨c, 0, none⟩), .pointer (some ⟨cb, 0, none⟩)]] w fun e w' => ∃ r, e = .returned r ∧
      (∃ Q R, Num w' r Q ∧ w'.heap[c]? = some (.cells #[.int .u64 R] 121 (0, 0)) ∧ val f n = Q * y + R ∧ 0 ≤ R ∧ R < y) ∧ Below w0.heap.size w0 w' := by
  have hmk := make_row w n hn
  have lc : c < w.heap.size := lt_of_block hc
  have lcb : cb < w.heap.size := lt_of_block hcb
  have HO : Hid (Own (w.alloc (.cells (madeCells #[.int .u32 0] n) 76)) w.heap.size w.heap.size n (fun _ => 0)) := make_own w w.heap.size n (Nat.le_refl _) (by unfold maxLen; omega)
  have HC : Hid ((w.alloc (.cells (madeCells #[.int .u32 0] n) 76)).heap[c]? = some (.cells #[.int .u64 0] 121 (0, 0))) := by
    show (w.alloc _).heap[c]? = _
    rw [Below.heap_alloc _ _ _ lc]; exact hc
  have HCB : Hid ((w.alloc (.cells (madeCells #[.int .u32 0] n) 76)).heap[cb]? = some (.cells #[.int .u64 y] 121 (0, 0))) := by
    show (w.alloc _).heap[cb]? = _
    rw [Below.heap_alloc _ _ _ lcb]; exact hcb
  have HB : Hid (Below w0.heap.size w0 (w.alloc (.cells (madeCells #[.int .u32 0] n) 76))) := hB.alloc hB.size _
  have hz := hB.size
  have hm : n ≤ maxLen := by unfold maxLen; omega
  obtain ⟨a, cap, e0, _⟩ := h0.shape
  have H0 : Hid (Row w0 v0 n f) := h0
  have HF : Hid (Limbs n f) := hf
  clear hc hcb h0 hf
  subst e0
  go_enter Tryz.func124, Tryz.ntmps124
  go_wp2
  clear hmk
  go_loopw [6] (fun i wr => ∃ j : Nat, j ≤ n ∧ i = .int .i64 ((j : Int) - 1) ∧ Hid (∃ g r, Own wr w.heap.size w.heap.size n g ∧ All9 g ∧ (∀ i, i < j → g i = 0) ∧ wr.heap[c]? = some (.cells #[.int .u64 r] 121 (0, 0)) ∧ 0 ≤ r ∧ r < y ∧ val f n = val f j + val g n * y + pw j * r) ∧ Hid (wr.heap[cb]? = some (.cells #[.int .u64 y] 121 (0, 0))) ∧ Hid (Below w0.heap.size w0 wr)) (fun i _ => (intOf i + 1).toNat)
  case atStart => exact ⟨n, Nat.le_refl _, rfl, ⟨_, 0, HO.out, fun _ => by (show (0 : Int) ≤ 0 ∧ (0 : Int) < _; omega), fun _ _ => rfl, HC.out, by omega, y0, by rw [val_null]; simp⟩, HCB.out, HB.out⟩
  case round =>
    obtain ⟨j, hj, rfl, HI, HCB2, HB2⟩ := hrel
    obtain ⟨g, r, o2, a9, gz, c2, r0, r1, ev⟩ := HI.out
    by_cases hlt : 0 < j
    · obtain ⟨t, rfl⟩ : ∃ t, j = t + 1 := ⟨j - 1, by omega⟩
      obtain ⟨b, off, cap', eS, _, _, hL⟩ := (H0.out.below HB2.out).lies (by omega)
      obtain ⟨rfl, rfl⟩ : a = some ⟨b, off, none⟩ ∧ cap = cap' := by simpa using eS
      have c1 := hL.cell t (by omega)
      have bx := HF.out t (by omega)
      have hd := joinL_any (f t) r y c cb wr c2 HCB2.out hne bx.1 bx.2 y0 y1 r0 r1
      have ediv := Int.mul_ediv_add_emod (r * 1000000000 + f t) y
      have m0 := Int.emod_nonneg (r * 1000000000 + f t) (show y ≠ 0 by omega)
      have m1 := Int.emod_lt_of_pos (r * 1000000000 + f t) y0
      have d0 : 0 ≤ (r * 1000000000 + f t) / y := Int.ediv_nonneg (by omega) (by omega)
      have d1 : (r * 1000000000 + f t) / y < 1000000000 := Int.ediv_lt_of_lt_mul y0 (by omega)
      rw [val_succ, pw_succ] at ev
      generalize (r * 1000000000 + f t) / y = q at *
      generalize (r * 1000000000 + f t) % y = r' at *
      have o3 : Own (wr.setCell ⟨c, 0, none⟩ (.int .u64 r')) w.heap.size w.heap.size n g := ownsRow_setCell_below o2 (by simpa using lc) _
      have c3 : (wr.setCell ⟨c, 0, none⟩ (.int .u64 r')).heap[c]? = some (.cells #[.int .u64 r'] 121 (0, 0)) := one_setCell c2
      have cb3 : (wr.setCell ⟨c, 0, none⟩ (.int .u64 r')).heap[cb]? = some (.cells #[.int .u64 y] 121 (0, 0)) := by rw [Below.heap_setCell _ _ _ _ (by simpa using hne)]; exact HCB2.out
      have b3 : Below w0.heap.size w0 (wr.setCell ⟨c, 0, none⟩ (.int .u64 r')) := HB2.out.setCell (by simpa using hcB) _
      obtain ⟨w3, hw3⟩ : ∃ w3, w3 = wr.setCell ⟨c, 0, none⟩ (.int .u64 r') := ⟨_, rfl⟩
      rw [← hw3] at o3 c3 cb3 b3 hd
      have k3 := o3.cell t (by omega)
      have f3 := o3.free t
      have HI2 : Hid (∃ g r, Own (w3.setCell ⟨w.heap.size, t, none⟩ (.int .u32 q)) w.heap.size w.heap.size n g ∧ All9 g ∧ (∀ i, i < t → g i = 0) ∧ (w3.setCell ⟨w.heap.size, t, none⟩ (.int .u32 q)).heap[c]? = some (.cells #[.int .u64 r] 121 (0, 0)) ∧ 0 ≤ r ∧ r < y ∧ val f n = val f t + val g n * y + pw t * r) := by
        refine ⟨upd g t q, r', o3.stored t q, upd_all a9 t q d0 d1, fun i hi => ?_, ?_, m0, m1, ?_⟩
        · rw [show upd g t q i = g i by simp [upd, show ¬ i = t by omega]]; exact gz i (by omega)
        · rw [Below.heap_setCell _ _ _ _ (by simp; omega)]; exact c3
        · rw [val_upd g n t q (by omega) (gz t (by omega))]
          have := div_step (pw t) (f t) y r q r' (val g n) (val f n - val f t) (by rw [← ediv, Int.mul_comm y q]) (by rw [ev]; omega)
          omega
      have HCB4 : Hid ((w3.setCell ⟨w.heap.size, t, none⟩ (.int .u32 q)).heap[cb]? = some (.cells #[.int .u64 y] 121 (0, 0))) := by
        show (w3.setCell ⟨w.heap.size, t, none⟩ (.int .u32 q)).heap[cb]? = _
        rw [Below.heap_setCell _ _ _ _ (by simp; omega)]; exact cb3
      have HB4 : Hid (Below w0.heap.size w0 (w3.setCell ⟨w.heap.size, t, none⟩ (.int .u32 q))) := b3.setCell (by simpa using hz) _
      have i0 : ((t + 1 : Nat) : Int) - 1 = (t : Int) := by omega
      have i1 : (t : Int) < (n : Int) := by omega
      clear hw3 HI HCB2 HB2 o2 a9 gz c2 ev o3 c3 cb3 b3 ediv
      generalize f t = x at *
      generalize g t = z at *
      rw [i0]
      go_wp2_with fail
      refine hd.mono ?_
      rintro e w' ⟨rfl, rfl⟩
      clear hd
      go_wp2
      go_roundw
      case rel => exact ⟨t, by omega, by go_num, HI2, HCB4, HB4⟩
      case measure => simp [intOf]
    · have e : j = 0 := by omega
      subst e
      have hrow := o2.row (fun i => (a9 i).1) (fun i => by have := (a9 i).2; omega) hm
      have ht := trimmed_any _ n _ wr hrow
      have HE : Hid (∀ rv, (∃ m', Row wr rv m' g ∧ Trims n g m') → (∃ Q R, Num wr rv Q ∧ wr.heap[c]? = some (.cells #[.int .u64 R] 121 (0, 0)) ∧ val f n = Q * y + R ∧ 0 ≤ R ∧ R < y)) := by
        intro rv h
        refine ⟨val g n, r, num_of_trim a9 h rfl, c2, ?_, r0, r1⟩
        rw [val_zero, pw_zero] at ev; omega
      clear HI o2 a9 gz c2 ev hrow
      go_wp2_with fail
      refine ht.mono ?_
      rintro e w' ⟨rv, rfl, hr, rfl⟩
      clear ht
      go_wp2
      go_ret
      exact ⟨_, rfl, HE.out _ hr, HB2.out⟩

/-- One limb as a number. -/
theorem num_one (w : World) (x : Int) (x0 : 0 ≤ x) (x1 : x < 1000000000) : Row (w.alloc (.cells #[.int .u32 x] 76)) (.slice (some ⟨w.heap.size, 0, none⟩) 1 1) 1 (fun _ => x) :=
  .inr ⟨_, 0, 1, rfl, Nat.le_refl _, by simp [maxLen], ⟨fun i hi => by
    match i, hi with
    | 0, _ => simp, fun _ => x0, fun _ => by omega⟩⟩

set_option maxHeartbeats 800000 in
theorem byLimb_any (v0 : Value) (n : Nat) (f : Nat → Int) (y : Int) (w : World) (h0 : Row w v0 n f) (hf : Limbs n f) (y0 : 0 < y) (y1 : y < 1000000000) (hn : 4 * n ≤ 281474976710656) :
    Calls Tryz.prog 109 #[v0, .int .u64 y] w fun e w' => ∃ rq, ∃ rr, e = .returned (.tuple #[rq, rr]) ∧ (∃ Q R, Num w' rq Q ∧ Num w' rr R ∧ val f n = Q * y + R ∧ 0 ≤ R ∧ R < y) ∧ Below w.heap.size w w' := by
  have b1 : Below w.heap.size w (w.alloc (.cells #[.int .u64 y] 121)) := one_below w _
  have b2 : Below w.heap.size w ((w.alloc (.cells #[.int .u64 y] 121)).alloc (.cells #[.int .u64 0] 121)) := b1.alloc b1.size _
  have k2 := heap_alloc_new (w.alloc (.cells #[.int .u64 y] 121)) (.cells #[.int .u64 0] 121)
  have k1 : ((w.alloc (.cells #[.int .u64 y] 121)).alloc (.cells #[.int .u64 0] 121)).heap[w.heap.size]? = some (.cells #[.int .u64 y] 121 (0, 0)) := by
    rw [Below.heap_alloc _ _ _ (by simp)]; exact heap_alloc_new w _
  have hs : (w.alloc (.cells #[.int .u64 y] 121)).heap.size = w.heap.size + 1 := by simp
  rw [hs] at k2
  have hd := downward_any v0 n (w.heap.size + 1) w.heap.size f y w _ b2 h0 hf y0 y1 k2 k1 (by omega) (by omega) hn
  obtain ⟨a, cap, rfl, _⟩ := h0.shape
  clear b1 b2 k1 k2 h0 hf hs
  go_enter Tryz.func109, Tryz.ntmps109
  go_wp2_with fail
  refine hd.mono ?_
  rintro e w3 ⟨rq, rfl, ⟨Q, R, hq, hc, hv, R0, R1⟩, hb3⟩
  have cc := cell_of_one hc
  have ht := trimmed_any _ 1 _ (w3.alloc (.cells #[.int .u32 R] 76)) (num_one w3 R R0 (by omega))
  have HQ : Hid (Num w3 rq Q) := hq
  have HV : Hid (val f n = Q * y + R) := hv
  clear hd hc hq hv
  go_wp2_with fail
  refine ht.mono ?_
  rintro e w4 ⟨rr, rfl, hr, rfl⟩
  go_wp2
  go_ret2
  refine ⟨_, _, rfl, ⟨Q, R, HQ.out.below (one_below w3 _), num_of_trim (g := fun _ => R) (N := 1) (fun _ => ⟨R0, show R < 1000000000 by omega⟩) hr (by simp [val, pw_zero]), HV.out, R0, R1⟩, hb3.alloc hb3.size _⟩
end Go.Proofs.YtfhapeinfhjihaaGreatDoor
