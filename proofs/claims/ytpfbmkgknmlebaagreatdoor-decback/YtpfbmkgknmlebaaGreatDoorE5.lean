/-
  What nat.dividedByRow answers: quotient and rest by several limbs. Conditions: the divisor has at least two limbs, and the number is not less.
-/
import Derived.Test.YtpfbmkgknmlebaaGreatDoorE4
import Derived.Laws.CopyOwn
namespace Go.Proofs.YtpfbmkgknmlebaaGreatDoor
open Go.RowKit

theorem own_of_heap {w : World} {B g N : Nat} {f : Nat → Int} {cur : Array Value} (h : w.heap[g]? = some (.cells cur 76 (0, 0))) (hB : B ≤ g) (hm : N ≤ maxLen) (hc : cur.toList = vals N f) : Own w B g N f := by
  have hs : cur.size = N := by rw [← Array.length_toList, hc, vals_length]
  exact ⟨by rw [vals_length]; omega, .inr ⟨g, N, cur, rfl, hB, h, Nat.le_refl _, hm, by omega, by rw [hc, List.take_of_length_le (by rw [vals_length]; omega)]⟩⟩
theorem Own.keep {w w' : World} {B g N r : Nat} {f : Nat → Int} (h : Own w B g N f) (hg : w.grownBy w' (some r)) (hne : g ≠ r) : Own w' B g N f :=
  World.ownsRow.kept h hg (.inr (by simpa [Value.ownBlock] using hne))
theorem vals_over (n : Nat) (f : Nat → Int) : vals n f ++ [.int .u32 0] = vals (n + 1) (limb n f) := by
  rw [vals_snoc]
  exact vals_congr (fun i hi => by
    unfold upd limb
    by_cases e : i = n
    · subst e; simp
    · simp [e, show i < n by omega])
theorem val_sh_succ (f : Nat → Int) (a k : Nat) : val (sh f a) (k + 1) = f a + 1000000000 * val (sh f (a + 1)) k := by
  have := val_split (sh f a) 1 k
  rw [Nat.add_comm 1 k] at this
  rw [this]
  have e : sh (sh f a) 1 = sh f (a + 1) := by funext i; show f (a + (1 + i)) = f (a + 1 + i); congr 1; omega
  rw [e]
  have p1 : pw 1 = 1000000000 := by decide
  rw [p1]
  simp [val, pw_zero, sh]
/-- What stands at the head of each round. -/
def DvRel (w0 wr : World) (B g gq n m j : Nat) (A V : Int) : Prop :=
  ∃ f' q, Own wr B g (n + 1) f' ∧ All9 f' ∧ Own wr B gq (n - m + 1) q ∧ All9 q ∧ (∀ i, j + m ≤ i → f' i = 0) ∧ val (sh f' j) m < V ∧ (∀ i, i < j → q i = 0) ∧ A = val f' (j + m) + val q (n - m + 1) * V ∧ Below w0.heap.size w0 wr
theorem dv_start (n m : Nat) (f : Nat → Int) (V : Int) (hf : Limbs n f) (h1 : 1 ≤ m) (hmn : m ≤ n) (hV : pw (m - 1) ≤ V) : (∀ i, n - m + 1 + m ≤ i → limb n f i = 0) ∧ val (sh (limb n f) (n - m + 1)) m < V ∧ val f n = val (limb n f) (n - m + 1 + m) := by
  refine ⟨fun i hi => limb_z n f i (by omega), ?_, ?_⟩
  · obtain ⟨k, rfl⟩ : ∃ k, m = k + 1 := ⟨m - 1, by omega⟩
    have e : val (sh (limb n f) (n - (k + 1) + 1)) (k + 1) = val (sh (limb n f) (n - (k + 1) + 1)) k := val_trim (by omega) (fun i h1 h2 => limb_z n f _ (by omega))
    rw [e]
    have := val_lt (sh_limbs (limb_all hf) (n - (k + 1) + 1) k)
    simp only [Nat.add_sub_cancel] at hV
    omega
  · rw [limb_val (by omega)]
theorem dv_round (w0 wr w2 : World) (B g gq n m t : Nat) (A V Q R : Int) (f' q : Nat → Int) (hV : V < pw m) (ht : t + 1 ≤ n - m + 1) (hne : gq ≠ g) (hB : w0.heap.size ≤ B)
    (o : Own wr B g (n + 1) f') (oq : Own wr B gq (n - m + 1) q) (aq : All9 q) (hz : ∀ i, t + 1 + m ≤ i → f' i = 0) (hq : ∀ i, i < t + 1 → q i = 0) (hA : A = val f' (t + 1 + m) + val q (n - m + 1) * V) (hb : Below w0.heap.size w0 wr)
    (Q0 : 0 ≤ Q) (Q1 : Q < 1000000000) (eR : val (sh f' t) (m + 1) = R) (hT : TakenAll wr w2 B g (n + 1) t m f' R V Q) : DvRel w0 (w2.setCell ⟨gq, t, none⟩ (.int .u32 Q)) B g gq n m t A V := by
  obtain ⟨f2, o2, a2, u2, v2, l2, g2⟩ := hT
  have oq2 : Own w2 B gq (n - m + 1) q := oq.keep g2 hne
  have gB := o.block.1
  have gqB := oq.block.1
  have hb2 : Below w0.heap.size w0 w2 := hb.grown g2 hb.size (fun j hj => by simp at hj; omega)
  have R0 : 0 ≤ val (sh f2 t) (m + 1) := val_nonneg (sh_limbs a2 t _)
  have top : f2 (t + m) = 0 := by
    have h1 : val (sh f2 t) (m + 1) = val (sh f2 t) m + f2 (t + m) * pw m := rfl
    have h2 := val_nonneg (sh_limbs a2 t m)
    have h3 := (a2 (t + m)).1
    by_cases c : f2 (t + m) = 0
    · exact c
    · have : 1 * pw m ≤ f2 (t + m) * pw m := Int.mul_le_mul_of_nonneg_right (by omega) (by have := pw_pos m; omega)
      omega
  have e2 : val (sh f2 t) m = R - Q * V := by
    have h1 : val (sh f2 t) (m + 1) = val (sh f2 t) m + f2 (t + m) * pw m := rfl
    rw [top] at h1; omega
  have low : val f2 t = val f' t := val_congr (fun i hi => u2 i (.inl hi))
  refine ⟨f2, upd q t Q, ?_, a2, oq2.stored t Q, upd_all aq t Q Q0 Q1, fun i hi => ?_, by rw [e2]; exact l2, fun i hi => ?_, ?_, hb2.setCell (by show w0.heap.size ≤ gq; omega) _⟩
  · exact ownsRow_setCell_other o2 (by simp [Value.ownBlock]; omega) _
  · by_cases e : i = t + m
    · rw [e]; exact top
    · rw [u2 i (.inr (by omega))]; exact hz i (by omega)
  · rw [show upd q t Q i = q i by simp [upd, show ¬ i = t by omega]]; exact hq i (by omega)
  · rw [val_upd q (n - m + 1) t Q (by omega) (hq t (by omega)), val_split f2 t m, low, e2, hA, show t + 1 + m = t + (m + 1) by omega, val_split f' t (m + 1), eR, Int.mul_sub, Int.add_mul, Int.mul_right_comm Q (pw t) V, Int.mul_comm (Q * V) (pw t)]
    omega

set_option maxRecDepth 100000 in
set_option maxHeartbeats 1600000 in
theorem byRow_any (v0 v1 : Value) (n m : Nat) (f g : Nat → Int) (w : World) (h0 : Row w v0 n f) (h1 : Row w v1 m g) (hf : Can n f) (hg : Can m g) (h2 : 2 ≤ m) (hn : n ≤ 1000000) (hle : val g m ≤ val f n) :
    Calls Tryz.prog 109 #[v0, v1] w fun e w' => ∃ rq, ∃ rr, e = .returned (.tuple #[rq, rr]) ∧ Divides w' rq rr (val f n) (val g m) ∧ Below w.heap.size w w' := by
  have hmn : m ≤ n := by
    by_cases z : m ≤ n
    · exact z
    · have := can_less hf.1 hg (by omega); omega
  obtain ⟨A, hA⟩ : ∃ A, val f n = A := ⟨_, rfl⟩
  obtain ⟨V, hV⟩ : ∃ V, val g m = V := ⟨_, rfl⟩
  have V1 : pw (m - 1) ≤ V := by rw [← hV]; exact can_ge hg (by omega)
  have V2 : V < pw m := by rw [← hV]; exact val_lt hg.1
  obtain ⟨s1, s2, s3⟩ := dv_start n m f V hf.1 (by omega) hmn V1
  have f9 := limb_all hf.1
  rw [hA] at s3
  rw [hA, hV] at hle
  rw [hA, hV]
  obtain ⟨b, off, cap, e0, _, _, hL⟩ := h0.lies (by omega)
  obtain ⟨b', off', cap', e1, _, _, hL'⟩ := h1.lies (by omega)
  have hmk1 := make_row w (n + 1) (by omega)
  rw [show ((n + 1 : Nat) : Int) = (n : Int) + 1 from by omega] at hmk1
  have hhp : (w.alloc (.cells (madeCells #[.int .u32 0] (n + 1)) 76)).heap[w.heap.size]? = some (.cells (madeCells #[.int .u32 0] (n + 1)) 76 (0, 0)) := heap_alloc_new w _
  have hb1 : Below w.heap.size w (w.alloc (.cells (madeCells #[.int .u32 0] (n + 1)) 76)) := one_below w _
  have hL1 : Lies (w.alloc (.cells (madeCells #[.int .u32 0] (n + 1)) 76)) b off n f := hL.below hb1 (fun _ => hL.lt (by omega))
  have hsz46 : (Tryz.prog.info? 76).map (·.size) = some 1 := by kernel_rfl
  have hsrc : ∀ j v, (vals n f)[j]? = some v → (w.alloc (.cells (madeCells #[.int .u32 0] (n + 1)) 76)).cell? ((⟨b, off, none⟩ : Addr).add j) = some v := by
    intro j v hj
    have hlt : j < n := by have := (List.getElem?_eq_some_iff.1 hj).1; rwa [vals_length] at this
    rw [vals_get _ _ _ hlt] at hj
    rw [add_at, hL1.cell j hlt, hj]
  have hone : ∀ v ∈ vals n f, v.oneCell' = true := by
    intro v hv
    simp only [vals, List.mem_map] at hv
    obtain ⟨i, _, rfl⟩ := hv
    rfl
  have hsize : (madeCells #[Value.int .u32 0] (n + 1)).size = n + 1 := by have := size_madeCells #[Value.int .u32 0] (n + 1); simpa using this
  have hmin : (vals n f).length = Nat.min n (n + 1) := by
    rw [vals_length]
    show n = min n (n + 1)
    omega
  have hfit : 0 + (vals n f).length ≤ (madeCells #[Value.int .u32 0] (n + 1)).size := by rw [vals_length, hsize]; omega
  have hcp := run_copy_row (P := Tryz.prog) (w.alloc (.cells (madeCells #[.int .u32 0] (n + 1)) 76)) 72 72 3 76 w.heap.size 0 (n + 1) (n + 1) ⟨b, off, none⟩ n cap _ 76 (vals n f) Tryz.underlying72 hsz46 hhp hmin hsrc hfit hone
  obtain ⟨w1, hw1⟩ : ∃ w1, w1 = (w.alloc (.cells (madeCells #[.int .u32 0] (n + 1)) 76)).setRow w.heap.size ((madeCells #[.int .u32 0] (n + 1)).toList.take 0 ++ vals n f ++ (madeCells #[.int .u32 0] (n + 1)).toList.drop (0 + (vals n f).length)).toArray := ⟨_, rfl⟩
  rw [← hw1] at hcp
  have o1 : Own w1 w.heap.size w.heap.size (n + 1) (limb n f) := by
    refine own_of_heap (cur := ((madeCells #[.int .u32 0] (n + 1)).toList.take 0 ++ vals n f ++ (madeCells #[.int .u32 0] (n + 1)).toList.drop (0 + (vals n f).length)).toArray) ?_ (Nat.le_refl _) (by unfold maxLen; omega) ?_
    · rw [hw1]; exact setRow_heap _ _ _ _ _ _ hhp
    · rw [toList_madeCells_one, vals_length, ← vals_over]
      simp
  have b1 : Below w.heap.size w w1 := by rw [hw1]; exact below_setRow hb1 (Nat.le_refl _) _
  rw [vals_length] at hcp
  have hmk2 := make_row w1 (n - m + 1) (by omega)
  rw [show ((n - m + 1 : Nat) : Int) = (n : Int) - (m : Int) + 1 from by omega] at hmk2
  have z1 := b1.size
  have o2 : Own (w1.alloc (.cells (madeCells #[.int .u32 0] (n - m + 1)) 76)) w.heap.size w.heap.size (n + 1) (limb n f) := World.ownsRow.alloc o1 _
  have oq := make_own w1 w.heap.size (n - m + 1) z1 (by unfold maxLen; omega)
  have b2 : Below w.heap.size w (w1.alloc (.cells (madeCells #[.int .u32 0] (n - m + 1)) 76)) := b1.alloc z1 _
  have gne : w1.heap.size ≠ w.heap.size := by have := o1.block.2; omega
  have HS : Hid (DvRel w (w1.alloc (.cells (madeCells #[.int .u32 0] (n - m + 1)) 76)) w.heap.size w.heap.size w1.heap.size n m (n - m + 1) A V) :=
    ⟨_, _, o2, f9, oq, fun _ => (by decide : (0 : Int) ≤ 0 ∧ (0 : Int) < 1000000000), s1, s2, fun _ _ => rfl, by rw [val_null, s3]; omega, b2⟩
  clear hw1 o1 b1 o2 oq b2 hsrc hone hfit hmin hhp hsize hb1 f9 s1 s2 s3
  have HR1 : Hid (Row w v1 m g) := h1
  have HC1 : Hid (Can m g) := hg
  have HVV : Hid (val g m = V) := hV
  clear h0 h1 hf hg hA hV hL hL' hL1
  subst e0 e1
  go_enter Tryz.func109, Tryz.ntmps109
  go_wp2
  clear hmk1 hmk2 hcp
  go_loopw [8] (fun i wr => ∃ j : Nat, j ≤ n - m + 1 ∧ i = .int .i64 ((j : Int) - 1) ∧ Hid (DvRel w wr w.heap.size w.heap.size w1.heap.size n m j A V)) (fun i _ => (intOf i + 1).toNat)
  case atStart => exact ⟨n - m + 1, Nat.le_refl _, by simp only [Value.int.injEq, true_and]; omega, HS.out⟩
  case round =>
    obtain ⟨j, hj, rfl, HD⟩ := hrel
    obtain ⟨f', q, o, a9, oq, aq, hz, hs, hq, hA, hb⟩ := HD.out
    by_cases hlt : 0 < j
    · obtain ⟨t, rfl⟩ : ∃ t, j = t + 1 := ⟨j - 1, by omega⟩
      have eR := val_sh_succ f' t m
      have hft := a9 t
      have hta := takeAll_any _ w.heap.size w.heap.size (n + 1) t m f' g (val (sh f' t) (m + 1)) V w wr hb (Nat.le_refl _) HR1.out HC1.out h2 (by omega) o a9 (by omega) (by omega) rfl HVV.out (by rw [eR]; omega)
      have HN := fun Q w2 Q0 Q1 hT => dv_round w wr w2 w.heap.size w.heap.size w1.heap.size n m t A V Q _ f' q V2 hj gne (Nat.le_refl _) o oq aq hz hq hA hb Q0 Q1 rfl hT
      have HOQ := fun w2 (h : wr.grownBy w2 (some w.heap.size)) => Own.keep oq h gne
      generalize val (sh f' t) (m + 1) = R at *
      clear HD o oq a9 aq hz hs hq hA eR hft
      have i0 : ((t + 1 : Nat) : Int) - 1 = (t : Int) := by omega
      have i1 : 0 ≤ (t : Int) := by omega
      have i2 : (t : Int) < (n : Int) - (m : Int) + 1 := by omega
      have i3 : (t : Int) + (m : Int) + 1 ≤ (n : Int) + 1 := by omega
      have i4 : (n : Int) ≤ 1000000 := by omega
      have i5 : ((t : Int) + (m : Int) + 1).toNat = t + m + 1 := by omega
      have i6 : t + m + 1 - t = m + 1 := by omega
      have i7 : (t : Int) < ((n - m + 1 : Nat) : Int) := by omega
      rw [i0]
      go_wp2_with fail
      refine hta.mono ?_
      rintro e w2 ⟨Q, rfl, Q0, Q1, hT⟩
      have oq2 := HOQ w2 (by obtain ⟨_, _, _, _, _, _, hgr⟩ := hT; exact hgr)
      have cq := oq2.cell t (by omega)
      have fq := oq2.free t
      have HR : Hid (DvRel w (w2.setCell ⟨w1.heap.size, t, none⟩ (.int .u32 Q)) w.heap.size w.heap.size w1.heap.size n m t A V) := HN Q w2 Q0 Q1 hT
      clear hta HN HOQ hT oq2
      generalize q t = z at *
      go_wp2
      go_roundw
      case rel => exact ⟨t, by omega, by go_num, HR⟩
      case measure => simp [intOf]
    · have e : j = 0 := by omega
      subst e
      have hmL : n + 1 ≤ maxLen := by unfold maxLen; omega
      have t1 := trimmed_any _ (n - m + 1) _ wr (oq.row (fun i => (aq i).1) (fun i => by have := (aq i).2; omega) (by unfold maxLen; omega))
      have t2 := trimmed_any _ (n + 1) _ wr (o.row (fun i => (a9 i).1) (fun i => by have := (a9 i).2; omega) hmL)
      have HE : Hid (∀ rq rr, (∃ m', Row wr rq m' q ∧ Trims (n - m + 1) q m') → (∃ m', Row wr rr m' f' ∧ Trims (n + 1) f' m') → Divides wr rq rr A V) := by
        intro rq rr k1 k2
        have e0 : sh f' 0 = f' := by funext i; show f' (0 + i) = f' i; rw [Nat.zero_add]
        rw [e0] at hs
        rw [Nat.zero_add] at hA
        refine ⟨val q (n - m + 1), val f' m, num_of_trim aq k1 rfl, num_of_trim a9 k2 (val_trim (by omega) (fun i h1 h2 => hz i (by omega))), by omega, val_nonneg (fun i _ => a9 i), hs⟩
      clear HD o oq a9 aq hz hs hq hA
      go_wp2_with fail
      refine t1.mono ?_
      rintro e w' ⟨rq, rfl, hrq, rfl⟩
      clear t1
      go_wp2_with fail
      refine t2.mono ?_
      rintro e w' ⟨rr, rfl, hrr, rfl⟩
      clear t2
      go_wp2
      go_ret2
      exact ⟨_, _, rfl, HE.out _ _ hrq hrr, hb⟩

set_option maxHeartbeats 400000 in
theorem divided_row (v0 v1 : Value) (n m : Nat) (f g : Nat → Int) (w : World) (h0 : Row w v0 n f) (h1 : Row w v1 m g) (hf : Can n f) (hg : Can m g) (h2 : 2 ≤ m) (hn : n ≤ 1000000) (hle : val g m ≤ val f n) :
    Calls Tryz.prog 86 #[v0, v1] w fun e w' => ∃ rq, ∃ rr, e = .returned (.tuple #[rq, rr]) ∧ Divides w' rq rr (val f n) (val g m) ∧ Below w.heap.size w w' := by
  have hc := compared_any v0 v1 n m f g w h0 h1 hf hg
  have hl : decide (cmpI (val f n) (val g m) < 0) = false := by rw [cmpI_lt]; exact decide_eq_false (by omega)
  have hd := fun q => byRow_any v0 v1 n m f g (w.drewN q) (h0.drewN q) (h1.drewN q) hf hg h2 hn hle
  obtain ⟨a, cap, rfl, _⟩ := h0.shape
  obtain ⟨a', cap', rfl, _⟩ := h1.shape
  have hm1 : ((m : Int) == 1) = false := beq_eq_false_iff_ne.2 (by omega)
  clear h0 h1 hf hg hle
  generalize val g m = B at *
  generalize val f n = A at *
  generalize cmpI A B = C at *
  go_enter Tryz.func86, Tryz.ntmps86
  go_wp2_with fail
  refine hc.mono ?_
  rintro e w' ⟨rfl, q, rfl⟩
  have hd := hd q
  go_wp2_with fail
  refine hd.mono ?_
  rintro e w' ⟨rq, rr, rfl, hr, hb⟩
  clear hd hc
  go_wp2
  go_ret2
  exact ⟨_, _, rfl, hr, (below_drewN (Below.refl _ _) q).trans hb⟩
/-- nat.divided answers quotient and rest of every number by every one that is not nought. -/
theorem divided_any (v0 v1 : Value) (n m : Nat) (f g : Nat → Int) (w : World) (h0 : Row w v0 n f) (h1 : Row w v1 m g) (hf : Can n f) (hg : Can m g) (hm : 0 < m) (hn : n ≤ 1000000) :
    Calls Tryz.prog 86 #[v0, v1] w fun e w' => ∃ rq, ∃ rr, e = .returned (.tuple #[rq, rr]) ∧ Divides w' rq rr (val f n) (val g m) ∧ Below w.heap.size w w' := by
  by_cases hlt : val f n < val g m
  · exact divided_less v0 v1 n m f g w h0 h1 hf hg (by omega) hlt
  · by_cases h : m = 1
    · subst h
      exact divided_limb v0 v1 n f g w h0 h1 hf hg (by omega) (by omega)
    · exact divided_row v0 v1 n m f g w h0 h1 hf hg (by omega) hn (by omega)
end Go.Proofs.YtpfbmkgknmlebaaGreatDoor
