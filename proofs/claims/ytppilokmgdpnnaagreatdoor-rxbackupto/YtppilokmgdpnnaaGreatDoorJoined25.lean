/-
  What rx.classText answers: a set as a class, as it is or turned. Conditions: as rangesText's; at most 2^30 ranges.
  What ref.Ranges and ref.Same answer. No condition.
-/
import Derived.Test.YtppilokmgdpnnaaGreatDoorJoined24
import Derived.Test.YtppilokmgdpnnaaGreatDoorJoined17
import Derived.Test.YtppilokmgdpnnaaGreatDoorJoined20
import Derived.Test.YtppilokmgdpnnaaGreatDoorJoined7
import Derived.Laws.StructEq
import Derived.Deep.RegionHeld3
namespace Go.Proofs.YtppilokmgdpnnaaGreatDoor
open Go.RowKit Go.Sort
attribute [local go_sem] setCell_drewN alloc_drewN

def strT (l : List (Int × Int)) : List UInt8 := 91 :: (itmsL l ++ [93])
def othT (l : List (Int × Int)) : List UInt8 := 91 :: 94 :: (itmsL (turnL l) ++ [93])
def clsTx (l : List (Int × Int)) : List UInt8 :=
  if (turnL l).any surR then strT l else if l.any surR || decide ((othT l).length < (strT l).length) then othT l else strT l
theorem cl1 (a : List UInt8) : (⟨#[91]⟩ : ByteArray) ++ bsx a ++ ⟨#[93]⟩ = bsx (91 :: (a ++ [93])) := by
  rw [show (⟨#[91]⟩ : ByteArray) = bsx [91] from rfl, show (⟨#[93]⟩ : ByteArray) = bsx [93] from rfl, bsx_app, bsx_app]
  simp
theorem cl2 (a : List UInt8) : (⟨#[91, 94]⟩ : ByteArray) ++ bsx a ++ ⟨#[93]⟩ = bsx (91 :: 94 :: (a ++ [93])) := by
  rw [show (⟨#[91, 94]⟩ : ByteArray) = bsx [91, 94] from rfl, show (⟨#[93]⟩ : ByteArray) = bsx [93] from rfl, bsx_app, bsx_app]
  simp
set_option maxRecDepth 100000 in
set_option maxHeartbeats 1600000 in
theorem classT_any (l : List (Int × Int)) (v : Value) (w : World) (X : Nat → Prop) (hX : TX w) (hR : RI w X l v) (hok : ∀ r ∈ l, okR r) (hl : l.length ≤ 1073741823) :
    Calls Tryz.prog 65 #[v] w fun r w' => r = .returned (.string (bsx (clsTx l))) ∧ Below w.heap.size w w' := by
  obtain ⟨P, hP⟩ : ∃ P : Ending → World → Prop, P = fun r w' => r = .returned (.string (bsx (clsTx l))) ∧ Below w.heap.size w w' := ⟨_, rfl⟩
  rw [← hP]
  have HP := hid_intro hP
  have ht := turn_any l v w X hR (by omega)
  have hln := turn_len l
  have hto : ∀ r ∈ turnL l, okR r := (turn_can l).ok
  have HR1 := hid_intro (fun w' (hb : Below w.heap.size w w') => rngT_any l v w' X (hX.below hb) (hR.kept hb) hok (by omega))
  have HE1 := hid_intro (fun w' (hb : Below w.heap.size w w') => ends_any l v w' X (hX.below hb) (hR.kept hb) (by omega))
  have HR2 := hid_intro (fun w' (hb : Below w.heap.size w w') v' (hq : RI w' (fun _ => False) (turnL l) v') => rngT_any (turnL l) v' w' _ (hX.below hb) hq hto (by omega))
  have HE2 := hid_intro (fun w' (hb : Below w.heap.size w w') v' (hq : RI w' (fun _ => False) (turnL l) v') => ends_any (turnL l) v' w' _ (hX.below hb) hq (by omega))
  have z1 : (bsx (itmsL l)).size ≤ 1099511627776 := by rw [bsx_size]; have := itmsL_sz l hok; omega
  have z2 : (bsx (itmsL (turnL l))).size ≤ 1099511627776 := by rw [bsx_size]; have := itmsL_sz (turnL l) hto; omega
  have y1 : ((bsx (strT l)).size : Int) = ((strT l).length : Int) := by rw [bsx_size]
  have y2 : ((bsx (othT l)).size : Int) = ((othT l).length : Int) := by rw [bsx_size]
  obtain ⟨ao, cap, rfl, -⟩ := hR
  clear hP hX hto hok hl hln
  go_enter Tryz.func65, Tryz.ntmps65
  go_wp2_with fail
  refine ht.mono ?_; rintro r w1 ⟨v1, rfl, ho1, hb1⟩
  have HI1 := hid_intro (ho1.ri (fun _ => False) (fun _ _ h => h))
  have HB1 := hid_intro hb1
  obtain ⟨ao1, cap1, rfl⟩ := ho1.shape
  clear ht ho1 hb1
  go_wp2_with fail
  refine (HR1.out w1 HB1.out).mono ?_; rintro r w2 ⟨rfl, hb2⟩
  have HI2 := hid_intro (HI1.out.kept hb2)
  have HB2 := hid_intro (vb_t HB1.out hb2)
  clear hb2
  go_wp2_with fail
  refine (HR2.out w2 HB2.out _ HI2.out).mono ?_; rintro r w3 ⟨rfl, hb3⟩
  have HI3 := hid_intro (HI2.out.kept hb3)
  have HB3 := hid_intro (vb_t HB2.out hb3)
  clear hb3
  go_wp2_with fail
  rw [cl1, cl2]
  refine (HE2.out w3 HB3.out _ HI3.out).mono ?_; rintro r w4 ⟨rfl, hb4⟩
  have HB4 := hid_intro (vb_t HB3.out hb4)
  clear hb4 HR1 HR2 HE2 HI1 HI2 HI3
  rw [show (91 :: (itmsL l ++ [93])) = strT l from rfl, show (91 :: 94 :: (itmsL (turnL l) ++ [93])) = othT l from rfl]
  cases h1 : (turnL l).any surR
  · have HC1 : Hid (clsTx l = if l.any surR || decide ((othT l).length < (strT l).length) then othT l else strT l) := hid_intro (by unfold clsTx; rw [h1]; rfl)
    clear h1
    go_wp2_with fail
    refine (HE1.out w4 HB4.out).mono ?_; rintro r w5 ⟨rfl, hb5⟩
    have HB5 := hid_intro (vb_t HB4.out hb5)
    clear hb5
    cases h2 : l.any surR
    · rw [h2] at HC1
      by_cases h3 : (othT l).length < (strT l).length
      · have HC2 : Hid (clsTx l = othT l) := hid_intro (by rw [HC1.out, decide_eq_true h3]; rfl)
        have h3I : ((bsx (othT l)).size : Int) < ((bsx (strT l)).size : Int) := by omega
        clear h2 h3 y1 y2
        go_wp2_with fail
        rw [HP.out, HC2.out]
        exact ⟨rfl, HB5.out⟩
      · have HC2 : Hid (clsTx l = strT l) := hid_intro (by rw [HC1.out, decide_eq_false h3]; rfl)
        have h3I : ¬ ((bsx (othT l)).size : Int) < ((bsx (strT l)).size : Int) := by omega
        clear h2 h3 y1 y2
        go_wp2_with fail
        rw [HP.out, HC2.out]
        exact ⟨rfl, HB5.out⟩
    · rw [h2] at HC1
      have HC2 : Hid (clsTx l = othT l) := hid_intro (by rw [HC1.out]; rfl)
      clear h2
      go_wp2_with fail
      rw [HP.out, HC2.out]
      exact ⟨rfl, HB5.out⟩
  · have HC1 : Hid (clsTx l = strT l) := hid_intro (by unfold clsTx; rw [h1]; rfl)
    clear h1
    go_wp2_with fail
    rw [HP.out, HC1.out]
    exact ⟨rfl, HB4.out⟩
end Go.Proofs.YtppilokmgdpnnaaGreatDoor

namespace Go.Proofs.YtppilokmgdpnnaaGreatDoor
open Go.RowKit
attribute [local go_sem] setCell_drewN alloc_drewN

theorem neq_rng (a b c d : Int) (w : World) : (binOp .neq 46 (.agg #[.int .i64 a, .int .i64 b]) (.agg #[.int .i64 c, .int .i64 d])).run Tryz.prog w = .ok (.bool (!decide ((a, b) = (c, d)))) w := by
  have ht : Tryz.prog.underlying 46 = some (.struct (Tryz.prog.fieldsOf 46)) := by kernel_rfl
  have hp : Tryz.prog.stoodInHeld 46 = false := by kernel_rfl
  rw [run_neq_struct, run_equalIn_agg w 9999 _ _ _ ht hp]
  simp only [Program.fieldsOf, Tryz.underlying46]
  simp [Op.eqFields, go_sem]
  by_cases h1 : a = c <;> by_cases h2 : b = d <;> simp [h1, h2]
set_option maxRecDepth 100000 in
set_option maxHeartbeats 1600000 in
theorem ranges_any (l m : List (Int × Int)) (v1 v2 : Value) (w : World) (X Y : Nat → Prop) (h1 : RI w X l v1) (h2 : RI w Y m v2) :
    Calls Tryz.prog 17 #[v1, v2] w fun r w' => r = .returned (.bool (decide (l = m))) ∧ Below w.heap.size w w' := by
  obtain ⟨ao1, cap1, rfl, hc1, hm1, hw1, hl1⟩ := h1
  obtain ⟨ao2, cap2, rfl, hc2, hm2, hw2, hl2⟩ := h2
  by_cases hlen : l.length = m.length
  · have hd : ((l.length : Int) != (m.length : Int)) = false := by simp; omega
    have hlI : (l.length : Int) ≤ 9223372036854775807 := by unfold maxLen at hm1; omega
    obtain ⟨P, hP⟩ : ∃ P : Ending → World → Prop, P = fun r w' => r = .returned (.bool (decide (l = m))) ∧ Below w.heap.size w w' := ⟨_, rfl⟩
    rw [← hP]
    have HP := hid_intro hP
    clear hP
    go_enter Tryz.func17, Tryz.ntmps17
    go_wp2_with fail
    go_loopg [5] l.length (fun me s5 wr => ∃ k : Nat, k ≤ l.length ∧ me = l.length - k ∧ s5 = .int .i64 (k : Int) ∧ Hid (∀ i, i < k → ra l i = ra m i) ∧ Below w.heap.size w wr)
    case atStart => exact ⟨0, Nat.zero_le _, rfl, rfl, fun i hi => absurd hi (by omega), Below.refl _ _⟩
    case round =>
      obtain ⟨k, hk, rfl, rfl, HA, hb⟩ := hrel
      by_cases hlt : k < l.length
      · rcases hl1 with rfl | ⟨b1, o1, rfl, _, q1⟩
        · simp at hlt
        rcases hl2 with rfl | ⟨b2, o2, rfl, _, q2⟩
        · rw [hlen] at hlt; simp at hlt
        have hI : (k : Int) < (l.length : Int) := by omega
        have hI2 : (k : Int) < (m.length : Int) := by omega
        have x1 := (q1 k hlt).1
        have x2 := (q1 k hlt).2
        have y1 := (q2 k (by omega)).1
        have y2 := (q2 k (by omega)).2
        have p1 := (hb.cell (p := ⟨b1, o1 + k * 2, none⟩) (World.block_lt_of_cell? w _ x1)).trans x1
        have p2 := (hb.cell (p := ⟨b1, o1 + k * 2 + 1, none⟩) (World.block_lt_of_cell? w _ x2)).trans x2
        have p3 := (hb.cell (p := ⟨b2, o2 + k * 2, none⟩) (World.block_lt_of_cell? w _ y1)).trans y1
        have p4 := (hb.cell (p := ⟨b2, o2 + k * 2 + 1, none⟩) (World.block_lt_of_cell? w _ y2)).trans y2
        have hnq := fun w => neq_rng (ra l k).1 (ra l k).2 (ra m k).1 (ra m k).2 w
        cases hq : decide (ra l k = ra m k)
        · have hne : ¬ ra l k = ra m k := of_decide_eq_false hq
          have HE : Hid (decide (l = m) = false) := hid_intro (decide_eq_false (fun e => hne (by rw [e])))
          have hq2 : decide (((ra l k).1, (ra l k).2) = ((ra m k).1, (ra m k).2)) = false := hq
          rw [hq2] at hnq
          clear x1 x2 y1 y2 q1 q2 hw1 hw2 HA hq hq2 hne
          generalize (ra l k).1 = A1 at *
          generalize (ra l k).2 = A2 at *
          generalize (ra m k).1 = A3 at *
          generalize (ra m k).2 = A4 at *
          go_wp2_with fail
          go_region
          all_goals
            go_wp2_with fail
            rw [HP.out, HE.out]
            exact ⟨rfl, vb_d hb⟩
        · have hne : ra l k = ra m k := of_decide_eq_true hq
          have HA2 : Hid (∀ i, i < k + 1 → ra l i = ra m i) := hid_intro (fun i hi => by
            by_cases e : i = k
            · rw [e]; exact hne
            · exact HA.out i (by omega))
          have hq2 : decide (((ra l k).1, (ra l k).2) = ((ra m k).1, (ra m k).2)) = true := hq
          rw [hq2] at hnq
          clear x1 x2 y1 y2 q1 q2 hw1 hw2 HA hq hq2 hne
          generalize (ra l k).1 = A1 at *
          generalize (ra l k).2 = A2 at *
          generalize (ra m k).1 = A3 at *
          generalize (ra m k).2 = A4 at *
          go_wp2_with fail
          go_region
          all_goals
            go_wp2_with fail
            go_roundg (l.length - (k + 1))
            case measure => omega
            case rel => exact ⟨k + 1, by omega, rfl, by simp, HA2, vb_d hb⟩
      · have hI : ¬ ((k : Int) < (l.length : Int)) := by omega
        have HE : Hid (decide (l = m) = true) := hid_intro (decide_eq_true (List.ext_getElem hlen (fun i h1 h2 => by
          have := HA.out i (by omega)
          rwa [ra_get h1, ra_get h2] at this)))
        clear HA hlt hk hlen hd
        go_wp2_with fail
        rw [HP.out, HE.out]
        exact ⟨rfl, hb⟩
  · have hd : ((l.length : Int) != (m.length : Int)) = true := by simp; omega
    have e : decide (l = m) = false := decide_eq_false (fun e => hlen (by rw [e]))
    rw [e]
    clear hlen
    go_enter Tryz.func17, Tryz.ntmps17
    go_wp2_with fail
    go_ret
    exact ⟨rfl, Below.refl _ _⟩

set_option maxRecDepth 100000 in
set_option maxHeartbeats 3200000 in
theorem same_refl (t : RX) : ∀ (f f' : Nat → Value) (w : World) (X Y : Nat → Prop), XI w X t f → XI w Y t f' →
    Calls Tryz.prog 12 #[xa f, xa f'] w fun r w' => r = .returned (.bool true) ∧ Below w.heap.size w w' := by
  induction t using RX.ind with
  | h k r lo hi z s ih =>
  intro f f' w X Y hv hv'
  cases hv with
  | mk ao cap G f0 f1 f2 f3 f4 f5 hc hw hl hr =>
  cases hv' with
  | mk ao' cap' G' f0' f1' f2' f3' f4' f5' hc' hw' hl' hr' =>
  obtain ⟨ra1, rc1, e1, _⟩ := f1.shape
  obtain ⟨ra2, rc2, e1', _⟩ := f1'.shape
  have exa : xa f = .agg #[.int .i64 k, .slice ra1 r.length rc1, .int .i64 lo, .int .i64 hi, .bool z, .slice ao s.length cap] := by unfold xa; rw [f0, e1, f2, f3, f4, f5]
  have exa' : xa f' = .agg #[.int .i64 k, .slice ra2 r.length rc2, .int .i64 lo, .int .i64 hi, .bool z, .slice ao' s.length cap'] := by unfold xa; rw [f0', e1', f2', f3', f4', f5']
  rw [exa, exa']
  have hrg : ∀ w', Below w.heap.size w w' → Calls Tryz.prog 17 #[.slice ra1 r.length rc1, .slice ra2 r.length rc2] w' fun e w2 => e = .returned (.bool true) ∧ Below w'.heap.size w' w2 := fun w' hb => by
    have := ranges_any r r _ _ w' _ _ (e1 ▸ f1.kept hb) (e1' ▸ f1'.kept hb)
    rw [decide_eq_true rfl] at this
    exact this
  have hlI : (s.length : Int) ≤ 9223372036854775807 := by have := hc.1; have := hc.2; unfold maxLen at this; omega
  generalize hW : (w.alloc (.cells #[.int .i64 k, .slice ra1 r.length rc1, .int .i64 lo, .int .i64 hi, .bool z, .slice ao s.length cap] 26)).alloc (.cells #[.int .i64 k, .slice ra2 r.length rc2, .int .i64 lo, .int .i64 hi, .bool z, .slice ao' s.length cap'] 26) = W
  have hbW : Below w.heap.size w W := by rw [← hW]; exact vb_a (vb_a (Below.refl _ _) _) _
  have hA : Bk W w.heap.size #[.int .i64 k, .slice ra1 r.length rc1, .int .i64 lo, .int .i64 hi, .bool z, .slice ao s.length cap] := by rw [← hW]; exact (Bk.new _ _ _).al _
  have hB : Bk W (w.heap.size + 1) #[.int .i64 k, .slice ra2 r.length rc2, .int .i64 lo, .int .i64 hi, .bool z, .slice ao' s.length cap'] := by rw [← hW]; exact Bk.new' _ _ _ _ (by simp)
  have HA := hid_intro hA
  have HB := hid_intro hB
  have HL : Hid (∀ w', Below W.heap.size W w' → (s = [] ∨ ∃ b off, ao = some ⟨b, off, none⟩ ∧ ∀ i, i < s.length → ∀ j, j < 6 → w'.cell? ⟨b, off + i * 6 + j, none⟩ = some (G i j))) := hid_intro (fun w' hb => by
    rcases hl with hl | ⟨b, off, h1, _, h3⟩
    · exact .inl hl
    · exact .inr ⟨b, off, h1, fun i hi j hj => by rw [(vb_t hbW hb).cell (p := ⟨b, off + i * 6 + j, none⟩) (World.block_lt_of_cell? w _ (h3 i hi j hj))]; exact h3 i hi j hj⟩)
  have HL' : Hid (∀ w', Below W.heap.size W w' → (s = [] ∨ ∃ b off, ao' = some ⟨b, off, none⟩ ∧ ∀ i, i < s.length → ∀ j, j < 6 → w'.cell? ⟨b, off + i * 6 + j, none⟩ = some (G' i j))) := hid_intro (fun w' hb => by
    rcases hl' with hl | ⟨b, off, h1, _, h3⟩
    · exact .inl hl
    · exact .inr ⟨b, off, h1, fun i hi j hj => by rw [(vb_t hbW hb).cell (p := ⟨b, off + i * 6 + j, none⟩) (World.block_lt_of_cell? w _ (h3 i hi j hj))]; exact h3 i hi j hj⟩)
  have HI : Hid (∀ w' j (h : j < s.length), Below W.heap.size W w' → Calls Tryz.prog 12 #[.agg #[G j 0, G j 1, G j 2, G j 3, G j 4, G j 5], .agg #[G' j 0, G' j 1, G' j 2, G' j 3, G' j 4, G' j 5]] w' fun r w2 => r = .returned (.bool true) ∧ Below w'.heap.size w' w2) := hid_intro (fun w' i h hb => ih s[i] (List.getElem_mem h) (G i) (G' i) w' _ _ ((hr i h).kept (vb_t hbW hb)) ((hr' i h).kept (vb_t hbW hb)))
  have HX := hid_intro hbW
  have HRG := hid_intro hrg
  clear hl hl' hr hr' ih hbW hrg exa exa' f1 f1'
  obtain ⟨a0, a1, a2, a3, a4, a5⟩ := hA.c6
  obtain ⟨b0, b1, b2, b3, b4, b5⟩ := hB.c6
  go_enter Tryz.func12, Tryz.ntmps12
  go_wp2_with fail
  refine (HRG.out _ HX.out).mono ?_; rintro r1 w1 ⟨rfl, hb1⟩
  clear a0 a1 a2 a3 a4 a5 b0 b1 b2 b3 b4 b5
  obtain ⟨a0, a1, a2, a3, a4, a5⟩ := (HA.out.bel hb1).c6
  obtain ⟨b0, b1, b2, b3, b4, b5⟩ := (HB.out.bel hb1).c6
  go_wp2_with fail
  clear a0 a1 a2 a3 a4 a5 b0 b1 b2 b3 b4 b5
  go_loopg [5] s.length (fun me s5 wr => ∃ j : Nat, j ≤ s.length ∧ me = s.length - j ∧ s5 = .int .i64 (j : Int) ∧ Hid (Below W.heap.size W wr))
  case atStart => exact ⟨0, Nat.zero_le _, rfl, rfl, hb1⟩
  case round =>
    clear hb1
    obtain ⟨j, hj, rfl, rfl, HZ⟩ := hrel
    have a5 := (HA.out.bel HZ.out).c6.2.2.2.2.2
    by_cases hlt : j < s.length
    · have hJ : (j : Int) < (s.length : Int) := by omega
      have b5 := (HB.out.bel HZ.out).c6.2.2.2.2.2
      obtain ⟨b, off, rfl, _⟩ := (HL.out wr HZ.out).resolve_left (fun e => by rw [e] at hlt; exact absurd hlt (by simp))
      obtain ⟨b', off', rfl, _⟩ := (HL'.out wr HZ.out).resolve_left (fun e => by rw [e] at hlt; exact absurd hlt (by simp))
      have HS : Hid (∀ w', Below wr.heap.size wr w' → w'.cell? ⟨w.heap.size, 5, none⟩ = some (.slice (some ⟨b, off, none⟩) s.length cap) ∧ w'.cell? ⟨w.heap.size + 1, 5, none⟩ = some (.slice (some ⟨b', off', none⟩) s.length cap') ∧ w'.cell? ⟨b, off + j * 6, none⟩ = some (G j 0) ∧ w'.cell? ⟨b, off + j * 6 + 1, none⟩ = some (G j 1) ∧ w'.cell? ⟨b, off + j * 6 + 2, none⟩ = some (G j 2) ∧ w'.cell? ⟨b, off + j * 6 + 3, none⟩ = some (G j 3) ∧ w'.cell? ⟨b, off + j * 6 + 4, none⟩ = some (G j 4) ∧ w'.cell? ⟨b, off + j * 6 + 5, none⟩ = some (G j 5) ∧ w'.cell? ⟨b', off' + j * 6, none⟩ = some (G' j 0) ∧ w'.cell? ⟨b', off' + j * 6 + 1, none⟩ = some (G' j 1) ∧ w'.cell? ⟨b', off' + j * 6 + 2, none⟩ = some (G' j 2) ∧ w'.cell? ⟨b', off' + j * 6 + 3, none⟩ = some (G' j 3) ∧ w'.cell? ⟨b', off' + j * 6 + 4, none⟩ = some (G' j 4) ∧ w'.cell? ⟨b', off' + j * 6 + 5, none⟩ = some (G' j 5)) := hid_intro (fun w' hb => by
        have hb2 := vb_t HZ.out hb
        obtain ⟨c, o, h1, h3⟩ := (HL.out w' hb2).resolve_left (fun e => by rw [e] at hlt; exact absurd hlt (by simp))
        obtain ⟨c', o', h2, h4⟩ := (HL'.out w' hb2).resolve_left (fun e => by rw [e] at hlt; exact absurd hlt (by simp))
        injection h1 with h1
        injection h1 with h1a h1b _
        subst h1a h1b
        injection h2 with h2
        injection h2 with h2a h2b _
        subst h2a h2b
        exact ⟨(HA.out.bel hb2).c6.2.2.2.2.2, (HB.out.bel hb2).c6.2.2.2.2.2, h3 j hlt 0 (by omega), h3 j hlt 1 (by omega), h3 j hlt 2 (by omega), h3 j hlt 3 (by omega), h3 j hlt 4 (by omega), h3 j hlt 5 (by omega), h4 j hlt 0 (by omega), h4 j hlt 1 (by omega), h4 j hlt 2 (by omega), h4 j hlt 3 (by omega), h4 j hlt 4 (by omega), h4 j hlt 5 (by omega)⟩)
      have HC : Hid (∀ w', Below wr.heap.size wr w' → Calls Tryz.prog 12 #[.agg #[G j 0, G j 1, G j 2, G j 3, G j 4, G j 5], .agg #[G' j 0, G' j 1, G' j 2, G' j 3, G' j 4, G' j 5]] w' fun r w2 => r = .returned (.bool true) ∧ Below w'.heap.size w' w2) := hid_intro (fun w' hb => HI.out w' j hlt (vb_t HZ.out hb))
      clear HL HL' HI b5
      go_wp2_with fail
      go_region_held3 (fun w' => w'.cell? ⟨w.heap.size, 5, none⟩ = some (.slice (some ⟨b, off, none⟩) s.length cap) ∧ w'.cell? ⟨w.heap.size + 1, 5, none⟩ = some (.slice (some ⟨b', off', none⟩) s.length cap') ∧ w'.cell? ⟨b, off + j * 6, none⟩ = some (G j 0) ∧ w'.cell? ⟨b, off + j * 6 + 1, none⟩ = some (G j 1) ∧ w'.cell? ⟨b, off + j * 6 + 2, none⟩ = some (G j 2) ∧ w'.cell? ⟨b, off + j * 6 + 3, none⟩ = some (G j 3) ∧ w'.cell? ⟨b, off + j * 6 + 4, none⟩ = some (G j 4) ∧ w'.cell? ⟨b, off + j * 6 + 5, none⟩ = some (G j 5) ∧ w'.cell? ⟨b', off' + j * 6, none⟩ = some (G' j 0) ∧ w'.cell? ⟨b', off' + j * 6 + 1, none⟩ = some (G' j 1) ∧ w'.cell? ⟨b', off' + j * 6 + 2, none⟩ = some (G' j 2) ∧ w'.cell? ⟨b', off' + j * 6 + 3, none⟩ = some (G' j 3) ∧ w'.cell? ⟨b', off' + j * 6 + 4, none⟩ = some (G' j 4) ∧ w'.cell? ⟨b', off' + j * 6 + 5, none⟩ = some (G' j 5)) (first | (refine HS.out _ ?_; with_reducible repeat (first | exact Below.refl _ _ | refine vb_d ?_ | refine vb_t ?_ hb3)) | fail) (first | (go_at_call 12; refine (HC.out _ ?_).mono ?_; (with_reducible repeat (first | exact Below.refl _ _ | refine vb_d ?_)); rintro r w3 ⟨rfl, hb3⟩) | fail)
      all_goals
        have HNX : Hid (Below W.heap.size W w3) := hid_intro (vb_t HZ.out (vb_t (by with_reducible repeat (first | exact Below.refl _ _ | refine vb_d ?_)) hb3))
        clear HS HC
        go_wp2_with fail
        go_roundg (s.length - (j + 1))
        case measure => omega
        case rel => exact ⟨j + 1, by omega, rfl, by simp, HNX⟩
    · have hJ : ¬ (j : Int) < (s.length : Int) := by omega
      clear HL HL' HI
      go_wp2_with fail
      go_ret
      exact ⟨rfl, vb_t HX.out HZ.out⟩
end Go.Proofs.YtppilokmgdpnnaaGreatDoor
