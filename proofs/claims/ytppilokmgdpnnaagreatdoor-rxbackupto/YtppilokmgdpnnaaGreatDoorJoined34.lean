/-
  (*reader).counted. No condition.
-/
import Derived.Test.YtppilokmgdpnnaaGreatDoorJoined33
namespace Go.Proofs.YtppilokmgdpnnaaGreatDoor
open Go.RowKit
attribute [local go_sem] setCell_drewN alloc_drewN

/-- A tree outside of some blocks and what is left, or the panic. -/
def TreeX (X : Nat → Prop) (x : Option (RX × List Int)) (rb : Nat) (g : Int) (w : World) (r : Ending) (w' : World) : Prop :=
  But (· = rb) w w' ∧ match x with
    | none => r = stopX
    | some y => ∃ f, r = .returned (xa f) ∧ XI w' X y.1 f ∧ RD w' rb y.2 g
theorem countG_bd : ∀ (l : List Int) (n : Int) (y : Int × List Int), countG n l = some y → 0 ≤ n → n ≤ 1000 → 0 ≤ y.1 ∧ y.1 ≤ 1000
  | [], n, y, h, h0, h1 => by simp only [countG, Option.some.injEq] at h; subst h; exact ⟨h0, h1⟩
  | c :: l, n, y, h, h0, h1 => by
    simp only [countG] at h
    split at h
    · rename_i hd
      simp only [isDig, Bool.and_eq_true, decide_eq_true_eq] at hd
      split at h
      · simp at h
      · exact countG_bd l _ y h (by omega) (by omega)
    · simp only [Option.some.injEq] at h; subst h; exact ⟨h0, h1⟩
theorem countL_bd (l : List Int) (y : Int × List Int) (h : countL l = some y) : 0 ≤ y.1 ∧ y.1 ≤ 1000 := by
  unfold countL at h
  split at h
  · simp at h
  · split at h
    · rename_i hd
      simp only [isDig, Bool.and_eq_true, decide_eq_true_eq] at hd
      exact countG_bd _ _ _ h (by omega) (by omega)
    · simp at h
theorem countsL_bd (l : List Int) (y : (Int × Int) × List Int) (h : countsL l = some y) : (0 ≤ y.1.1 ∧ y.1.1 ≤ 1000) ∧ -1 ≤ y.1.2 ∧ y.1.2 ≤ 1000 := by
  unfold countsL at h
  split at h
  · simp at h
  · rename_i e
    have h1 := countL_bd _ _ e
    simp only at h1
    split at h
    · simp only [Option.some.injEq] at h; subst h; simp only; omega
    split at h
    · simp only [Option.some.injEq] at h; subst h; simp only; omega
    split at h
    · split at h
      · simp at h
      · rename_i e2
        have h2 := countL_bd _ _ e2
        simp only at h2
        split at h
        · split at h
          · simp at h
          · simp only [Option.some.injEq] at h; subst h; simp only; omega
        · simp at h
    · simp at h
/-- The repeat's tree, as it lies at last. -/
theorem counted_fin {w wf : World} {rb : Nat} {X : Nat → Prop} {x : RX} {f : Nat → Value} {k_ lo hi : Int} {z : Bool} {a1 a2 : Option Addr} {n1 q1 n2 q2 nb : Nat} (hb : But (· = rb) w wf) (kS : Bk wf nb #[.int .i64 k_, .slice a1 n1 q1, .int .i64 lo, .int .i64 hi, .bool z, .slice a2 n2 q2]) (hx : XI w X x f) (hnb : ¬ X nb) (hXr : X rb)
    (ef : xa f = .agg #[.int .i64 k_, .slice a1 n1 q1, .int .i64 lo, .int .i64 hi, .bool z, .slice a2 n2 q2]) (a b : Int) (hab : I64 a ∧ I64 b) (zb : Bool) : XI wf X (.mk 5 [] a b zb [x]) (fun i => [Value.int .i64 5, .slice none 0 0, .int .i64 a, .int .i64 b, .bool zb, .slice (some ⟨nb, 0, none⟩) 1 1].getD i .nilIface) := by
  unfold xa at ef
  injection ef with ef
  simp only [Array.mk.injEq, List.cons.injEq, and_true] at ef
  obtain ⟨g0, g1, g2, g3, g4, g5⟩ := ef
  refine XI.mk (some ⟨nb, 0, none⟩) 1 (fun _ => f) rfl (RI.nil _ _) rfl rfl rfl rfl ⟨Nat.le_refl _, by unfold maxLen; omega⟩ ⟨I64_of (by omega) (by omega), hab.1, hab.2⟩ (Or.inr ⟨nb, 0, rfl, hnb, fun i hi j hj => ?_⟩) (fun i hi => ?_)
  · obtain rfl : i = 0 := by simp at hi; omega
    simp only [Nat.zero_add, Nat.zero_mul]
    rw [kS.cell j]
    match j, hj with
    | 0, _ => rw [g0]; rfl
    | 1, _ => rw [g1]; rfl
    | 2, _ => rw [g2]; rfl
    | 3, _ => rw [g3]; rfl
    | 4, _ => rw [g4]; rfl
    | 5, _ => rw [g5]; rfl
  · have e : [x][i] = x := by
      have : i = 0 := by simp at hi; omega
      subst this; rfl
    rw [e]
    exact hx.but hb (fun b hb => by rw [hb]; exact hXr)
set_option maxRecDepth 100000 in
set_option maxHeartbeats 3200000 in
theorem counted_any (w : World) (rb : Nat) (l : List Int) (g : Int) (X : Nat → Prop) (hX : ∀ b, X b → b < w.heap.size) (hXr : X rb) (x : RX) (f : Nat → Value) (hx : XI w X x f) (h : RD w rb l g) :
    Calls Tryz.prog 59 #[.pointer (some ⟨rb, 0, none⟩), xa f] w (TreeX X (countedL x l) rb g w) := by
  obtain ⟨P, hP⟩ : ∃ P, P = TreeX X (countedL x l) rb g w := ⟨_, rfl⟩
  rw [← hP]
  have HP := hid_intro hP
  have hrl := h.lt
  obtain ⟨k_, a1, n1, q1, lo, hi, z, a2, n2, q2, ef⟩ := hx.lit
  have HEF := hid_intro ef
  have HX := hid_intro hx
  rw [ef]
  obtain ⟨W, hW⟩ : ∃ W, (((w.alloc (.cells #[.int .i64 k_, .slice a1 n1 q1, .int .i64 lo, .int .i64 hi, .bool z, .slice a2 n2 q2] 26)).alloc (.cells #[.int .i64 0, .slice none 0 0, .int .i64 0, .int .i64 0, .bool false, .slice none 0 0] 26)).alloc (.cells #[.int .i64 k_, .slice a1 n1 q1, .int .i64 lo, .int .i64 hi, .bool z, .slice a2 n2 q2] 26)).alloc (.cells #[.int .i64 5, .slice none 0 0, .int .i64 0, .int .i64 0, .bool false, .slice (some ⟨w.heap.size + 1 + 1, 0, none⟩) 1 1] 26) = W := ⟨_, rfl⟩
  have hWb : Below w.heap.size w W := hW ▸ vb_a (vb_a (vb_a (vb_a (Below.refl _ _) _) _) _) _
  have kA : Bk W w.heap.size #[.int .i64 k_, .slice a1 n1 q1, .int .i64 lo, .int .i64 hi, .bool z, .slice a2 n2 q2] := hW ▸ (((Bk.new _ _ _).al _).al _).al _
  have kZ : Bk W (w.heap.size + 1) #[.int .i64 0, .slice none 0 0, .int .i64 0, .int .i64 0, .bool false, .slice none 0 0] := hW ▸ ((Bk.new' _ _ _ _ (by simp)).al _).al _
  have kS : Bk W (w.heap.size + 1 + 1) #[.int .i64 k_, .slice a1 n1 q1, .int .i64 lo, .int .i64 hi, .bool z, .slice a2 n2 q2] := hW ▸ (Bk.new' _ _ _ _ (by simp)).al _
  have kR : Bk W (w.heap.size + 1 + 1 + 1) #[.int .i64 5, .slice none 0 0, .int .i64 0, .int .i64 0, .bool false, .slice (some ⟨w.heap.size + 1 + 1, 0, none⟩) 1 1] := hW ▸ Bk.new' _ _ _ _ (by simp)
  have hR0 : RD W rb l g := h.below hWb
  have hBW : But (· = rb) w W := But.ofBelow hWb
  have hnX : ¬ X (w.heap.size + 1 + 1) := fun h => by have := hX _ h; omega
  have m0 : ¬ w.heap.size = rb := by omega
  have m1 : ¬ w.heap.size + 1 = rb := by omega
  have m2 : ¬ w.heap.size + 1 + 1 = rb := by omega
  have m3 : ¬ w.heap.size + 1 + 1 + 1 = rb := by omega
  have l1 : rb < w.heap.size + 1 := by omega
  have l3 : rb < w.heap.size + 1 + 1 + 1 := by omega
  have HKA := hid_intro kA
  have HKZ := hid_intro kZ
  have HKS := hid_intro kS
  have HKR := hid_intro kR
  clear hP h hx ef kA kZ kS kR hWb hX
  have ht1 := take_any W rb l g ⟨#[42]⟩ (by decide) hR0
  have ht2 := fun w (h : RD w rb l g) => take_any w rb l g ⟨#[43]⟩ (by decide) h
  have ht3 := fun w (h : RD w rb l g) => take_any w rb l g ⟨#[63]⟩ (by decide) h
  have ht4 := fun w (h : RD w rb l g) => take_any w rb l g ⟨#[123]⟩ (by decide) h
  have i42 : ints ⟨#[42]⟩ = [42] := rfl
  have i43 : ints ⟨#[43]⟩ = [43] := rfl
  have i63 : ints ⟨#[63]⟩ = [63] := rfl
  have i123 : ints ⟨#[123]⟩ = [123] := rfl
  rw [i42] at ht1
  rw [i43] at ht2
  rw [i63] at ht3
  rw [i123] at ht4
  clear i42 i43 i123
  cases s1 : startsW [42] l
  rotate_left
  · have r1 : rest [42] l = l.drop 1 := by unfold rest; rw [s1]; rfl
    rw [s1, r1] at ht1
    have HE : Hid (countedL x l = some (lazyX x 0 (-1) (l.drop 1))) := hid_intro (by unfold countedL; simp only [s1, reduceIte])
    have hi64 : I64 0 ∧ I64 (-1) := ⟨I64_of (by omega) (by omega), I64_of (by omega) (by omega)⟩
    clear s1 r1
    go_enter Tryz.func59, Tryz.ntmps59
    go_wp2_with fail
    refine ht1.mono ?_; rintro r w1 ⟨rfl, hb1, hr1⟩
    have kR1 := (HKR.out.but hb1 m3)
    have kZ1 := (HKZ.out.but hb1 m1)
    have kS1 := (HKS.out.but hb1 m2)
    have hbL := (hBW.trans hb1)
    have kR2 : Bk ((w1.setCell ⟨w.heap.size + 1 + 1 + 1, 2, none⟩ (.int .i64 0)).setCell ⟨w.heap.size + 1 + 1 + 1, 3, none⟩ (.int .i64 (-1))) (w.heap.size + 1 + 1 + 1) #[.int .i64 5, .slice none 0 0, .int .i64 0, .int .i64 (-1), .bool false, .slice (some ⟨w.heap.size + 1 + 1, 0, none⟩) 1 1] := (kR1.set 2 _ rfl).set 3 _ rfl
    have kZ2 : Bk ((w1.setCell ⟨w.heap.size + 1 + 1 + 1, 2, none⟩ (.int .i64 0)).setCell ⟨w.heap.size + 1 + 1 + 1, 3, none⟩ (.int .i64 (-1))) (w.heap.size + 1) #[.int .i64 0, .slice none 0 0, .int .i64 0, .int .i64 0, .bool false, .slice none 0 0] := (kZ1.away (by show w.heap.size + 1 ≠ w.heap.size + 1 + 1 + 1; omega)).away (by show w.heap.size + 1 ≠ w.heap.size + 1 + 1 + 1; omega)
    have kS2 : Bk ((w1.setCell ⟨w.heap.size + 1 + 1 + 1, 2, none⟩ (.int .i64 0)).setCell ⟨w.heap.size + 1 + 1 + 1, 3, none⟩ (.int .i64 (-1))) (w.heap.size + 1 + 1) #[.int .i64 k_, .slice a1 n1 q1, .int .i64 lo, .int .i64 hi, .bool z, .slice a2 n2 q2] := (kS1.away (by show w.heap.size + 1 + 1 ≠ w.heap.size + 1 + 1 + 1; omega)).away (by show w.heap.size + 1 + 1 ≠ w.heap.size + 1 + 1 + 1; omega)
    have hbV : But (· = rb) w ((w1.setCell ⟨w.heap.size + 1 + 1 + 1, 2, none⟩ (.int .i64 0)).setCell ⟨w.heap.size + 1 + 1 + 1, 3, none⟩ (.int .i64 (-1))) := (hbL.set (Or.inr (by show w.heap.size ≤ w.heap.size + 1 + 1 + 1; omega)) _).set (Or.inr (by show w.heap.size ≤ w.heap.size + 1 + 1 + 1; omega)) _
    have hRV : RD ((w1.setCell ⟨w.heap.size + 1 + 1 + 1, 2, none⟩ (.int .i64 0)).setCell ⟨w.heap.size + 1 + 1 + 1, 3, none⟩ (.int .i64 (-1))) rb (l.drop 1) g := (hr1.away l3 _).away l3 _
    obtain ⟨c0, c1, c2, c3, c4, c5⟩ := kR1.c6
    obtain ⟨z0, z1, z2, z3, z4, z5⟩ := kR1.z6
    have htq := take_any _ rb (l.drop 1) g ⟨#[63]⟩ (by decide) hRV
    rw [i63] at htq
    obtain ⟨zb, hzb⟩ : ∃ zb, startsW [63] (l.drop 1) = zb := ⟨_, rfl⟩
    obtain ⟨lq, hlq⟩ : ∃ lq, rest [63] (l.drop 1) = lq := ⟨_, rfl⟩
    rw [hzb, hlq] at htq
    have HFI : Hid (countedL x l = some (.mk 5 [] 0 (-1) zb [x], lq)) := hid_intro (by rw [HE.out, ← hzb, ← hlq]; rfl)
    have HXS := hid_intro (And.intro hbV (And.intro kS2 (And.intro kZ2 kR2)))
    clear kR1 kZ1 kS1 kR2 kZ2 kS2 hbV hRV hbL hzb hlq HE
    go_wp2_with fail
    refine htq.mono ?_; rintro r wq ⟨rfl, hbq, hrq⟩
    obtain ⟨hbV, kS2, kZ2, kR2⟩ := HXS.out
    have kR3 := kR2.but hbq m3
    have kZ3 := kZ2.but hbq m1
    have HKS3 := hid_intro (kS2.but hbq m2)
    have HBQ := hid_intro (hbV.trans hbq)
    have HRQ := hid_intro hrq
    obtain ⟨d0, d1, d2, d3, d4, d5⟩ := kR3.c6
    obtain ⟨e0, e1, e2, e3, e4, e5⟩ := kR3.z6
    obtain ⟨x0, x1, x2, x3, x4, x5⟩ := kZ3.c6
    obtain ⟨y0, y1, y2, y3, y4, y5⟩ := kZ3.z6
    have hne : w.heap.size + 1 ≠ w.heap.size + 1 + 1 + 1 := by omega
    clear hbV kS2 kZ2 kR2 kR3 kZ3 hbq hrq c0 c1 c2 c3 c4 c5 z0 z1 z2 z3 z4 z5
    go_wp2_with fail
    refine bodyPost_ret (v := .agg #[.int .i64 5, .slice none 0 0, .int .i64 0, .int .i64 (-1), .bool zb, .slice (some ⟨w.heap.size + 1 + 1, 0, none⟩) 1 1]) (by simp [results, Tryz.results59, go_sem, x0, x1, x2, x3, x4, x5]) rfl ?_
    rw [HP.out, HFI.out]
    have hw1 : w.heap.size ≤ w.heap.size + 1 := by omega
    have hw3 : w.heap.size ≤ w.heap.size + 1 + 1 + 1 := by omega
    have s1 : w.heap.size + 1 + 1 ≠ w.heap.size + 1 := by omega
    have s3 : w.heap.size + 1 + 1 ≠ w.heap.size + 1 + 1 + 1 := by omega
    refine ⟨?_, _, rfl, counted_fin ?_ ?_ HX.out hnX hXr HEF.out _ _ hi64 _, ?_⟩
    · with_reducible repeat (first | exact HBQ.out | refine But.set ?_ (Or.inr hw1) _ | refine But.set ?_ (Or.inr hw3) _)
    · with_reducible repeat (first | exact HBQ.out | refine But.set ?_ (Or.inr hw1) _ | refine But.set ?_ (Or.inr hw3) _)
    · with_reducible repeat (first | exact HKS3.out | refine Bk.away ?_ s1 | refine Bk.away ?_ s3)
    · with_reducible repeat (first | exact HRQ.out | refine RD.away ?_ l1 _ | refine RD.away ?_ l3 _)
  have r1 : rest [42] l = l := by unfold rest; rw [s1]; rfl
  rw [s1, r1] at ht1
  cases s2 : startsW [43] l
  rotate_left
  · have r2 : rest [43] l = l.drop 1 := by unfold rest; rw [s2]; rfl
    rw [s2, r2] at ht2
    have HE : Hid (countedL x l = some (lazyX x 1 (-1) (l.drop 1))) := hid_intro (by unfold countedL; simp only [s1, s2, Bool.false_eq_true, reduceIte])
    have hi64 : I64 1 ∧ I64 (-1) := ⟨I64_of (by omega) (by omega), I64_of (by omega) (by omega)⟩
    clear s1 r1 s2 r2
    go_enter Tryz.func59, Tryz.ntmps59
    go_wp2_with fail
    refine ht1.mono ?_; rintro r w1 ⟨rfl, hb1, hr1⟩
    go_wp2_with fail
    refine (ht2 _ hr1).mono ?_; rintro r w2 ⟨rfl, hb2, hr2⟩
    have kR1 := ((HKR.out.but hb1 m3).but hb2 m3)
    have kZ1 := ((HKZ.out.but hb1 m1).but hb2 m1)
    have kS1 := ((HKS.out.but hb1 m2).but hb2 m2)
    have hbL := ((hBW.trans hb1).trans hb2)
    have kR2 : Bk ((w2.setCell ⟨w.heap.size + 1 + 1 + 1, 2, none⟩ (.int .i64 1)).setCell ⟨w.heap.size + 1 + 1 + 1, 3, none⟩ (.int .i64 (-1))) (w.heap.size + 1 + 1 + 1) #[.int .i64 5, .slice none 0 0, .int .i64 1, .int .i64 (-1), .bool false, .slice (some ⟨w.heap.size + 1 + 1, 0, none⟩) 1 1] := (kR1.set 2 _ rfl).set 3 _ rfl
    have kZ2 : Bk ((w2.setCell ⟨w.heap.size + 1 + 1 + 1, 2, none⟩ (.int .i64 1)).setCell ⟨w.heap.size + 1 + 1 + 1, 3, none⟩ (.int .i64 (-1))) (w.heap.size + 1) #[.int .i64 0, .slice none 0 0, .int .i64 0, .int .i64 0, .bool false, .slice none 0 0] := (kZ1.away (by show w.heap.size + 1 ≠ w.heap.size + 1 + 1 + 1; omega)).away (by show w.heap.size + 1 ≠ w.heap.size + 1 + 1 + 1; omega)
    have kS2 : Bk ((w2.setCell ⟨w.heap.size + 1 + 1 + 1, 2, none⟩ (.int .i64 1)).setCell ⟨w.heap.size + 1 + 1 + 1, 3, none⟩ (.int .i64 (-1))) (w.heap.size + 1 + 1) #[.int .i64 k_, .slice a1 n1 q1, .int .i64 lo, .int .i64 hi, .bool z, .slice a2 n2 q2] := (kS1.away (by show w.heap.size + 1 + 1 ≠ w.heap.size + 1 + 1 + 1; omega)).away (by show w.heap.size + 1 + 1 ≠ w.heap.size + 1 + 1 + 1; omega)
    have hbV : But (· = rb) w ((w2.setCell ⟨w.heap.size + 1 + 1 + 1, 2, none⟩ (.int .i64 1)).setCell ⟨w.heap.size + 1 + 1 + 1, 3, none⟩ (.int .i64 (-1))) := (hbL.set (Or.inr (by show w.heap.size ≤ w.heap.size + 1 + 1 + 1; omega)) _).set (Or.inr (by show w.heap.size ≤ w.heap.size + 1 + 1 + 1; omega)) _
    have hRV : RD ((w2.setCell ⟨w.heap.size + 1 + 1 + 1, 2, none⟩ (.int .i64 1)).setCell ⟨w.heap.size + 1 + 1 + 1, 3, none⟩ (.int .i64 (-1))) rb (l.drop 1) g := (hr2.away l3 _).away l3 _
    obtain ⟨c0, c1, c2, c3, c4, c5⟩ := kR1.c6
    obtain ⟨z0, z1, z2, z3, z4, z5⟩ := kR1.z6
    have htq := take_any _ rb (l.drop 1) g ⟨#[63]⟩ (by decide) hRV
    rw [i63] at htq
    obtain ⟨zb, hzb⟩ : ∃ zb, startsW [63] (l.drop 1) = zb := ⟨_, rfl⟩
    obtain ⟨lq, hlq⟩ : ∃ lq, rest [63] (l.drop 1) = lq := ⟨_, rfl⟩
    rw [hzb, hlq] at htq
    have HFI : Hid (countedL x l = some (.mk 5 [] 1 (-1) zb [x], lq)) := hid_intro (by rw [HE.out, ← hzb, ← hlq]; rfl)
    have HXS := hid_intro (And.intro hbV (And.intro kS2 (And.intro kZ2 kR2)))
    clear kR1 kZ1 kS1 kR2 kZ2 kS2 hbV hRV hbL hzb hlq HE
    go_wp2_with fail
    refine htq.mono ?_; rintro r wq ⟨rfl, hbq, hrq⟩
    obtain ⟨hbV, kS2, kZ2, kR2⟩ := HXS.out
    have kR3 := kR2.but hbq m3
    have kZ3 := kZ2.but hbq m1
    have HKS3 := hid_intro (kS2.but hbq m2)
    have HBQ := hid_intro (hbV.trans hbq)
    have HRQ := hid_intro hrq
    obtain ⟨d0, d1, d2, d3, d4, d5⟩ := kR3.c6
    obtain ⟨e0, e1, e2, e3, e4, e5⟩ := kR3.z6
    obtain ⟨x0, x1, x2, x3, x4, x5⟩ := kZ3.c6
    obtain ⟨y0, y1, y2, y3, y4, y5⟩ := kZ3.z6
    have hne : w.heap.size + 1 ≠ w.heap.size + 1 + 1 + 1 := by omega
    clear hbV kS2 kZ2 kR2 kR3 kZ3 hbq hrq c0 c1 c2 c3 c4 c5 z0 z1 z2 z3 z4 z5
    go_wp2_with fail
    refine bodyPost_ret (v := .agg #[.int .i64 5, .slice none 0 0, .int .i64 1, .int .i64 (-1), .bool zb, .slice (some ⟨w.heap.size + 1 + 1, 0, none⟩) 1 1]) (by simp [results, Tryz.results59, go_sem, x0, x1, x2, x3, x4, x5]) rfl ?_
    rw [HP.out, HFI.out]
    have hw1 : w.heap.size ≤ w.heap.size + 1 := by omega
    have hw3 : w.heap.size ≤ w.heap.size + 1 + 1 + 1 := by omega
    have s1 : w.heap.size + 1 + 1 ≠ w.heap.size + 1 := by omega
    have s3 : w.heap.size + 1 + 1 ≠ w.heap.size + 1 + 1 + 1 := by omega
    refine ⟨?_, _, rfl, counted_fin ?_ ?_ HX.out hnX hXr HEF.out _ _ hi64 _, ?_⟩
    · with_reducible repeat (first | exact HBQ.out | refine But.set ?_ (Or.inr hw1) _ | refine But.set ?_ (Or.inr hw3) _)
    · with_reducible repeat (first | exact HBQ.out | refine But.set ?_ (Or.inr hw1) _ | refine But.set ?_ (Or.inr hw3) _)
    · with_reducible repeat (first | exact HKS3.out | refine Bk.away ?_ s1 | refine Bk.away ?_ s3)
    · with_reducible repeat (first | exact HRQ.out | refine RD.away ?_ l1 _ | refine RD.away ?_ l3 _)
  have r2 : rest [43] l = l := by unfold rest; rw [s2]; rfl
  rw [s2, r2] at ht2
  cases s3 : startsW [63] l
  rotate_left
  · have r3 : rest [63] l = l.drop 1 := by unfold rest; rw [s3]; rfl
    rw [s3, r3] at ht3
    have HE : Hid (countedL x l = some (lazyX x 0 1 (l.drop 1))) := hid_intro (by unfold countedL; simp only [s1, s2, s3, Bool.false_eq_true, reduceIte])
    have hi64 : I64 0 ∧ I64 1 := ⟨I64_of (by omega) (by omega), I64_of (by omega) (by omega)⟩
    clear s1 r1 s2 r2 s3 r3
    go_enter Tryz.func59, Tryz.ntmps59
    go_wp2_with fail
    refine ht1.mono ?_; rintro r w1 ⟨rfl, hb1, hr1⟩
    go_wp2_with fail
    refine (ht2 _ hr1).mono ?_; rintro r w2 ⟨rfl, hb2, hr2⟩
    go_wp2_with fail
    refine (ht3 _ hr2).mono ?_; rintro r w3 ⟨rfl, hb3, hr3⟩
    have kR1 := (((HKR.out.but hb1 m3).but hb2 m3).but hb3 m3)
    have kZ1 := (((HKZ.out.but hb1 m1).but hb2 m1).but hb3 m1)
    have kS1 := (((HKS.out.but hb1 m2).but hb2 m2).but hb3 m2)
    have hbL := (((hBW.trans hb1).trans hb2).trans hb3)
    have kR2 : Bk ((w3.setCell ⟨w.heap.size + 1 + 1 + 1, 2, none⟩ (.int .i64 0)).setCell ⟨w.heap.size + 1 + 1 + 1, 3, none⟩ (.int .i64 1)) (w.heap.size + 1 + 1 + 1) #[.int .i64 5, .slice none 0 0, .int .i64 0, .int .i64 1, .bool false, .slice (some ⟨w.heap.size + 1 + 1, 0, none⟩) 1 1] := (kR1.set 2 _ rfl).set 3 _ rfl
    have kZ2 : Bk ((w3.setCell ⟨w.heap.size + 1 + 1 + 1, 2, none⟩ (.int .i64 0)).setCell ⟨w.heap.size + 1 + 1 + 1, 3, none⟩ (.int .i64 1)) (w.heap.size + 1) #[.int .i64 0, .slice none 0 0, .int .i64 0, .int .i64 0, .bool false, .slice none 0 0] := (kZ1.away (by show w.heap.size + 1 ≠ w.heap.size + 1 + 1 + 1; omega)).away (by show w.heap.size + 1 ≠ w.heap.size + 1 + 1 + 1; omega)
    have kS2 : Bk ((w3.setCell ⟨w.heap.size + 1 + 1 + 1, 2, none⟩ (.int .i64 0)).setCell ⟨w.heap.size + 1 + 1 + 1, 3, none⟩ (.int .i64 1)) (w.heap.size + 1 + 1) #[.int .i64 k_, .slice a1 n1 q1, .int .i64 lo, .int .i64 hi, .bool z, .slice a2 n2 q2] := (kS1.away (by show w.heap.size + 1 + 1 ≠ w.heap.size + 1 + 1 + 1; omega)).away (by show w.heap.size + 1 + 1 ≠ w.heap.size + 1 + 1 + 1; omega)
    have hbV : But (· = rb) w ((w3.setCell ⟨w.heap.size + 1 + 1 + 1, 2, none⟩ (.int .i64 0)).setCell ⟨w.heap.size + 1 + 1 + 1, 3, none⟩ (.int .i64 1)) := (hbL.set (Or.inr (by show w.heap.size ≤ w.heap.size + 1 + 1 + 1; omega)) _).set (Or.inr (by show w.heap.size ≤ w.heap.size + 1 + 1 + 1; omega)) _
    have hRV : RD ((w3.setCell ⟨w.heap.size + 1 + 1 + 1, 2, none⟩ (.int .i64 0)).setCell ⟨w.heap.size + 1 + 1 + 1, 3, none⟩ (.int .i64 1)) rb (l.drop 1) g := (hr3.away l3 _).away l3 _
    obtain ⟨c0, c1, c2, c3, c4, c5⟩ := kR1.c6
    obtain ⟨z0, z1, z2, z3, z4, z5⟩ := kR1.z6
    have htq := take_any _ rb (l.drop 1) g ⟨#[63]⟩ (by decide) hRV
    rw [i63] at htq
    obtain ⟨zb, hzb⟩ : ∃ zb, startsW [63] (l.drop 1) = zb := ⟨_, rfl⟩
    obtain ⟨lq, hlq⟩ : ∃ lq, rest [63] (l.drop 1) = lq := ⟨_, rfl⟩
    rw [hzb, hlq] at htq
    have HFI : Hid (countedL x l = some (.mk 5 [] 0 1 zb [x], lq)) := hid_intro (by rw [HE.out, ← hzb, ← hlq]; rfl)
    have HXS := hid_intro (And.intro hbV (And.intro kS2 (And.intro kZ2 kR2)))
    clear kR1 kZ1 kS1 kR2 kZ2 kS2 hbV hRV hbL hzb hlq HE
    go_wp2_with fail
    refine htq.mono ?_; rintro r wq ⟨rfl, hbq, hrq⟩
    obtain ⟨hbV, kS2, kZ2, kR2⟩ := HXS.out
    have kR3 := kR2.but hbq m3
    have kZ3 := kZ2.but hbq m1
    have HKS3 := hid_intro (kS2.but hbq m2)
    have HBQ := hid_intro (hbV.trans hbq)
    have HRQ := hid_intro hrq
    obtain ⟨d0, d1, d2, d3, d4, d5⟩ := kR3.c6
    obtain ⟨e0, e1, e2, e3, e4, e5⟩ := kR3.z6
    obtain ⟨x0, x1, x2, x3, x4, x5⟩ := kZ3.c6
    obtain ⟨y0, y1, y2, y3, y4, y5⟩ := kZ3.z6
    have hne : w.heap.size + 1 ≠ w.heap.size + 1 + 1 + 1 := by omega
    clear hbV kS2 kZ2 kR2 kR3 kZ3 hbq hrq c0 c1 c2 c3 c4 c5 z0 z1 z2 z3 z4 z5
    go_wp2_with fail
    refine bodyPost_ret (v := .agg #[.int .i64 5, .slice none 0 0, .int .i64 0, .int .i64 1, .bool zb, .slice (some ⟨w.heap.size + 1 + 1, 0, none⟩) 1 1]) (by simp [results, Tryz.results59, go_sem, x0, x1, x2, x3, x4, x5]) rfl ?_
    rw [HP.out, HFI.out]
    have hw1 : w.heap.size ≤ w.heap.size + 1 := by omega
    have hw3 : w.heap.size ≤ w.heap.size + 1 + 1 + 1 := by omega
    have s1 : w.heap.size + 1 + 1 ≠ w.heap.size + 1 := by omega
    have s3 : w.heap.size + 1 + 1 ≠ w.heap.size + 1 + 1 + 1 := by omega
    refine ⟨?_, _, rfl, counted_fin ?_ ?_ HX.out hnX hXr HEF.out _ _ hi64 _, ?_⟩
    · with_reducible repeat (first | exact HBQ.out | refine But.set ?_ (Or.inr hw1) _ | refine But.set ?_ (Or.inr hw3) _)
    · with_reducible repeat (first | exact HBQ.out | refine But.set ?_ (Or.inr hw1) _ | refine But.set ?_ (Or.inr hw3) _)
    · with_reducible repeat (first | exact HKS3.out | refine Bk.away ?_ s1 | refine Bk.away ?_ s3)
    · with_reducible repeat (first | exact HRQ.out | refine RD.away ?_ l1 _ | refine RD.away ?_ l3 _)
  have r3 : rest [63] l = l := by unfold rest; rw [s3]; rfl
  rw [s3, r3] at ht3
  cases s4 : startsW [123] l
  rotate_left
  · have r4 : rest [123] l = l.drop 1 := by unfold rest; rw [s4]; rfl
    rw [s4, r4] at ht4
    have hcs := fun w (h : RD w rb (l.drop 1) g) => counts_any w rb (l.drop 1) g h
    cases e5 : countsL (l.drop 1) with
    | none =>
      rw [e5] at hcs
      have HE : Hid (countedL x l = none) := hid_intro (by unfold countedL; simp only [s1, s2, s3, s4, e5, Bool.false_eq_true, reduceIte])
      clear s1 r1 s2 r2 s3 r3 s4 r4 e5
      go_enter Tryz.func59, Tryz.ntmps59
      go_wp2_with fail
      refine ht1.mono ?_; rintro r w1 ⟨rfl, hb1, hr1⟩
      go_wp2_with fail
      refine (ht2 _ hr1).mono ?_; rintro r w2 ⟨rfl, hb2, hr2⟩
      go_wp2_with fail
      refine (ht3 _ hr2).mono ?_; rintro r w3 ⟨rfl, hb3, hr3⟩
      go_wp2_with fail
      refine (ht4 _ hr3).mono ?_; rintro r w4 ⟨rfl, hb4, hr4⟩
      go_wp2_with fail
      refine (hcs _ hr4).mono ?_; rintro r w5 ⟨hb5, rfl⟩
      go_wp2_with fail
      refine ⟨rfl, ?_⟩
      rw [HP.out, HE.out]
      exact ⟨((((hBW.trans hb1).trans hb2).trans hb3).trans hb4).trans hb5, rfl⟩
    | some y =>
      obtain ⟨⟨a, b⟩, l5⟩ := y
      rw [e5] at hcs
      have hbd := countsL_bd _ _ e5
      simp only at hbd
      have HE : Hid (countedL x l = some (lazyX x a b l5)) := hid_intro (by unfold countedL; simp only [s1, s2, s3, s4, e5, Bool.false_eq_true, reduceIte])
      have hi64 : I64 a ∧ I64 b := ⟨I64_of (by omega) (by omega), I64_of (by omega) (by omega)⟩
      clear s1 r1 s2 r2 s3 r3 s4 r4 e5 hbd
      go_enter Tryz.func59, Tryz.ntmps59
      go_wp2_with fail
      refine ht1.mono ?_; rintro r w1 ⟨rfl, hb1, hr1⟩
      go_wp2_with fail
      refine (ht2 _ hr1).mono ?_; rintro r w2 ⟨rfl, hb2, hr2⟩
      go_wp2_with fail
      refine (ht3 _ hr2).mono ?_; rintro r w3 ⟨rfl, hb3, hr3⟩
      go_wp2_with fail
      refine (ht4 _ hr3).mono ?_; rintro r w4 ⟨rfl, hb4, hr4⟩
      go_wp2_with fail
      refine (hcs _ hr4).mono ?_; rintro r w5 ⟨hb5, rfl, hr5⟩
      simp only at hr5 ⊢
      have kR1 := (((((HKR.out.but hb1 m3).but hb2 m3).but hb3 m3).but hb4 m3).but hb5 m3)
      have kZ1 := (((((HKZ.out.but hb1 m1).but hb2 m1).but hb3 m1).but hb4 m1).but hb5 m1)
      have kS1 := (((((HKS.out.but hb1 m2).but hb2 m2).but hb3 m2).but hb4 m2).but hb5 m2)
      have hbL := (((((hBW.trans hb1).trans hb2).trans hb3).trans hb4).trans hb5)
      have kR2 : Bk ((w5.setCell ⟨w.heap.size + 1 + 1 + 1, 2, none⟩ (.int .i64 a)).setCell ⟨w.heap.size + 1 + 1 + 1, 3, none⟩ (.int .i64 b)) (w.heap.size + 1 + 1 + 1) #[.int .i64 5, .slice none 0 0, .int .i64 a, .int .i64 b, .bool false, .slice (some ⟨w.heap.size + 1 + 1, 0, none⟩) 1 1] := (kR1.set 2 _ rfl).set 3 _ rfl
      have kZ2 : Bk ((w5.setCell ⟨w.heap.size + 1 + 1 + 1, 2, none⟩ (.int .i64 a)).setCell ⟨w.heap.size + 1 + 1 + 1, 3, none⟩ (.int .i64 b)) (w.heap.size + 1) #[.int .i64 0, .slice none 0 0, .int .i64 0, .int .i64 0, .bool false, .slice none 0 0] := (kZ1.away (by show w.heap.size + 1 ≠ w.heap.size + 1 + 1 + 1; omega)).away (by show w.heap.size + 1 ≠ w.heap.size + 1 + 1 + 1; omega)
      have kS2 : Bk ((w5.setCell ⟨w.heap.size + 1 + 1 + 1, 2, none⟩ (.int .i64 a)).setCell ⟨w.heap.size + 1 + 1 + 1, 3, none⟩ (.int .i64 b)) (w.heap.size + 1 + 1) #[.int .i64 k_, .slice a1 n1 q1, .int .i64 lo, .int .i64 hi, .bool z, .slice a2 n2 q2] := (kS1.away (by show w.heap.size + 1 + 1 ≠ w.heap.size + 1 + 1 + 1; omega)).away (by show w.heap.size + 1 + 1 ≠ w.heap.size + 1 + 1 + 1; omega)
      have hbV : But (· = rb) w ((w5.setCell ⟨w.heap.size + 1 + 1 + 1, 2, none⟩ (.int .i64 a)).setCell ⟨w.heap.size + 1 + 1 + 1, 3, none⟩ (.int .i64 b)) := (hbL.set (Or.inr (by show w.heap.size ≤ w.heap.size + 1 + 1 + 1; omega)) _).set (Or.inr (by show w.heap.size ≤ w.heap.size + 1 + 1 + 1; omega)) _
      have hRV : RD ((w5.setCell ⟨w.heap.size + 1 + 1 + 1, 2, none⟩ (.int .i64 a)).setCell ⟨w.heap.size + 1 + 1 + 1, 3, none⟩ (.int .i64 b)) rb (l5) g := (hr5.away l3 _).away l3 _
      obtain ⟨c0, c1, c2, c3, c4, c5⟩ := kR1.c6
      obtain ⟨z0, z1, z2, z3, z4, z5⟩ := kR1.z6
      have htq := take_any _ rb (l5) g ⟨#[63]⟩ (by decide) hRV
      rw [i63] at htq
      obtain ⟨zb, hzb⟩ : ∃ zb, startsW [63] (l5) = zb := ⟨_, rfl⟩
      obtain ⟨lq, hlq⟩ : ∃ lq, rest [63] (l5) = lq := ⟨_, rfl⟩
      rw [hzb, hlq] at htq
      have HFI : Hid (countedL x l = some (.mk 5 [] a b zb [x], lq)) := hid_intro (by rw [HE.out, ← hzb, ← hlq]; rfl)
      have HXS := hid_intro (And.intro hbV (And.intro kS2 (And.intro kZ2 kR2)))
      clear kR1 kZ1 kS1 kR2 kZ2 kS2 hbV hRV hbL hzb hlq HE
      go_wp2_with fail
      refine htq.mono ?_; rintro r wq ⟨rfl, hbq, hrq⟩
      obtain ⟨hbV, kS2, kZ2, kR2⟩ := HXS.out
      have kR3 := kR2.but hbq m3
      have kZ3 := kZ2.but hbq m1
      have HKS3 := hid_intro (kS2.but hbq m2)
      have HBQ := hid_intro (hbV.trans hbq)
      have HRQ := hid_intro hrq
      obtain ⟨d0, d1, d2, d3, d4, d5⟩ := kR3.c6
      obtain ⟨e0, e1, e2, e3, e4, e5⟩ := kR3.z6
      obtain ⟨x0, x1, x2, x3, x4, x5⟩ := kZ3.c6
      obtain ⟨y0, y1, y2, y3, y4, y5⟩ := kZ3.z6
      have hne : w.heap.size + 1 ≠ w.heap.size + 1 + 1 + 1 := by omega
      clear hbV kS2 kZ2 kR2 kR3 kZ3 hbq hrq c0 c1 c2 c3 c4 c5 z0 z1 z2 z3 z4 z5
      go_wp2_with fail
      refine bodyPost_ret (v := .agg #[.int .i64 5, .slice none 0 0, .int .i64 a, .int .i64 b, .bool zb, .slice (some ⟨w.heap.size + 1 + 1, 0, none⟩) 1 1]) (by simp [results, Tryz.results59, go_sem, x0, x1, x2, x3, x4, x5]) rfl ?_
      rw [HP.out, HFI.out]
      have hw1 : w.heap.size ≤ w.heap.size + 1 := by omega
      have hw3 : w.heap.size ≤ w.heap.size + 1 + 1 + 1 := by omega
      have s1 : w.heap.size + 1 + 1 ≠ w.heap.size + 1 := by omega
      have s3 : w.heap.size + 1 + 1 ≠ w.heap.size + 1 + 1 + 1 := by omega
      refine ⟨?_, _, rfl, counted_fin ?_ ?_ HX.out hnX hXr HEF.out _ _ hi64 _, ?_⟩
      · with_reducible repeat (first | exact HBQ.out | refine But.set ?_ (Or.inr hw1) _ | refine But.set ?_ (Or.inr hw3) _)
      · with_reducible repeat (first | exact HBQ.out | refine But.set ?_ (Or.inr hw1) _ | refine But.set ?_ (Or.inr hw3) _)
      · with_reducible repeat (first | exact HKS3.out | refine Bk.away ?_ s1 | refine Bk.away ?_ s3)
      · with_reducible repeat (first | exact HRQ.out | refine RD.away ?_ l1 _ | refine RD.away ?_ l3 _)
  have r4 : rest [123] l = l := by unfold rest; rw [s4]; rfl
  rw [s4, r4] at ht4
  have HE : Hid (countedL x l = some (x, l)) := hid_intro (by unfold countedL; simp only [s1, s2, s3, s4, Bool.false_eq_true, reduceIte])
  clear s1 s2 s3 s4 r1 r2 r3 r4
  go_enter Tryz.func59, Tryz.ntmps59
  go_wp2_with fail
  refine ht1.mono ?_; rintro r w1 ⟨rfl, hb1, hr1⟩
  go_wp2_with fail
  refine (ht2 _ hr1).mono ?_; rintro r w2 ⟨rfl, hb2, hr2⟩
  go_wp2_with fail
  refine (ht3 _ hr2).mono ?_; rintro r w3 ⟨rfl, hb3, hr3⟩
  go_wp2_with fail
  refine (ht4 _ hr3).mono ?_; rintro r w4 ⟨rfl, hb4, hr4⟩
  have kA1 := (((HKA.out.but hb1 m0).but hb2 m0).but hb3 m0).but hb4 m0
  have kZ1 := (((HKZ.out.but hb1 m1).but hb2 m1).but hb3 m1).but hb4 m1
  have HBQ := hid_intro ((((hBW.trans hb1).trans hb2).trans hb3).trans hb4)
  have HRQ := hid_intro hr4
  obtain ⟨d0, d1, d2, d3, d4, d5⟩ := kA1.c6
  obtain ⟨x0, x1, x2, x3, x4, x5⟩ := kZ1.c6
  obtain ⟨y0, y1, y2, y3, y4, y5⟩ := kZ1.z6
  clear kA1 kZ1
  go_wp2_with fail
  refine bodyPost_ret (v := .agg #[.int .i64 k_, .slice a1 n1 q1, .int .i64 lo, .int .i64 hi, .bool z, .slice a2 n2 q2]) (by simp [results, Tryz.results59, go_sem, x0, x1, x2, x3, x4, x5]) rfl ?_
  rw [HP.out, HE.out]
  have hw1 : w.heap.size ≤ w.heap.size + 1 := by omega
  refine ⟨?_, f, by rw [HEF.out], HX.out.but (Y := (· = rb)) ?_ (fun b hb => by rw [hb]; exact hXr), ?_⟩
  · with_reducible repeat (first | exact HBQ.out | refine But.set ?_ (Or.inr hw1) _)
  · with_reducible repeat (first | exact HBQ.out | refine But.set ?_ (Or.inr hw1) _)
  · with_reducible repeat (first | exact HRQ.out | refine RD.away ?_ l1 _)
end Go.Proofs.YtppilokmgdpnnaaGreatDoor
