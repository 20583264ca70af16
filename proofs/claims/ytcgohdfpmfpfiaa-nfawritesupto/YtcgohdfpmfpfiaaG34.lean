/-
  What ref.Ranges and ref.Same answer. No condition.
  Whether two rows of ranges are the same (the library's Equal); whether ranges are a set, as the program asks it. Conditions: at most 2^40 ranges.
-/
import Derived.Test.YtcgohdfpmfpfiaaXR1
import Derived.Laws.StructEq
import Derived.Deep.RegionHeld3
import Derived.Test.YtcgohdfpmfpfiaaXM1
import Derived.Test.YtcgohdfpmfpfiaaG15
namespace Go.Proofs.Ytcgohdfpmfpfiaa
open Go.RowKit
attribute [local go_sem] setCell_drewN alloc_drewN

theorem neq_rng (a b c d : Int) (w : World) : (binOp .neq 57 (.agg #[.int .i64 a, .int .i64 b]) (.agg #[.int .i64 c, .int .i64 d])).run Try.prog w = .ok (.bool (!decide ((a, b) = (c, d)))) w := by
  have ht : Try.prog.underlying 57 = some (.struct (Try.prog.fieldsOf 57)) := by kernel_rfl
  have hp : Try.prog.stoodInHeld 57 = false := by kernel_rfl
  rw [run_neq_struct, run_equalIn_agg w 9999 _ _ _ ht hp]
  simp only [Program.fieldsOf, Try.underlying57]
  simp [Op.eqFields, go_sem]
  by_cases h1 : a = c <;> by_cases h2 : b = d <;> simp [h1, h2]
set_option maxRecDepth 100000 in
set_option maxHeartbeats 1600000 in
theorem ranges_any (l m : List (Int × Int)) (v1 v2 : Value) (w : World) (X Y : Nat → Prop) (h1 : RI w X l v1) (h2 : RI w Y m v2) :
    Calls Try.prog 16 #[v1, v2] w fun r w' => r = .returned (.bool (decide (l = m))) ∧ Below w.heap.size w w' := by
  obtain ⟨ao1, cap1, rfl, hc1, hm1, hw1, hl1⟩ := h1
  obtain ⟨ao2, cap2, rfl, hc2, hm2, hw2, hl2⟩ := h2
  by_cases hlen : l.length = m.length
  · have hd : ((l.length : Int) != (m.length : Int)) = false := by simp; omega
    have hlI : (l.length : Int) ≤ 9223372036854775807 := by unfold maxLen at hm1; omega
    obtain ⟨P, hP⟩ : ∃ P : Ending → World → Prop, P = fun r w' => r = .returned (.bool (decide (l = m))) ∧ Below w.heap.size w w' := ⟨_, rfl⟩
    rw [← hP]
    have HP := hid_intro hP
    clear hP
    go_enter Try.func16, Try.ntmps16
    go_wp2_with fail
    go_loopg [5] l.length (fun me s5 wr => ∃ k : Nat, k ≤ l.length ∧ me = l.length - k ∧ s5 = .int .i64 (k : Int) ∧ Hid (∀ i, i < k → ra l i = ra m i) ∧ Below w.heap.size w wr)
    case atStart => exact ⟨0, Nat.zero_le _, rfl, rfl, fun i hi => absurd hi (by omega), Below.refl _ _⟩
    case round =>
      obtain ⟨k, hk, rfl, rfl, HA, hb⟩ := hrel
      by_cases hlt : k < l.length
      · rcases hl1 with rfl | ⟨b1, o1, rfl, _, q1⟩
        · simp at hlt
        rcases hl2 with rfl | ⟨b2, o2, rfl, _, q2⟩
        · rw [hlen] at hlt; simp at hlt
        have hI : (k : Int) < (l.length : Int) := by omega
        have hI2 : (k : Int) < (m.length : Int) := by omega
        have x1 := (q1 k hlt).1
        have x2 := (q1 k hlt).2
        have y1 := (q2 k (by omega)).1
        have y2 := (q2 k (by omega)).2
        have p1 := (hb.cell (p := ⟨b1, o1 + k * 2, none⟩) (World.block_lt_of_cell? w _ x1)).trans x1
        have p2 := (hb.cell (p := ⟨b1, o1 + k * 2 + 1, none⟩) (World.block_lt_of_cell? w _ x2)).trans x2
        have p3 := (hb.cell (p := ⟨b2, o2 + k * 2, none⟩) (World.block_lt_of_cell? w _ y1)).trans y1
        have p4 := (hb.cell (p := ⟨b2, o2 + k * 2 + 1, none⟩) (World.block_lt_of_cell? w _ y2)).trans y2
        have hnq := fun w => neq_rng (ra l k).1 (ra l k).2 (ra m k).1 (ra m k).2 w
        cases hq : decide (ra l k = ra m k)
        · have hne : ¬ ra l k = ra m k := of_decide_eq_false hq
          have HE : Hid (decide (l = m) = false) := hid_intro (decide_eq_false (fun e => hne (by rw [e])))
          have hq2 : decide (((ra l k).1, (ra l k).2) = ((ra m k).1, (ra m k).2)) = false := hq
          rw [hq2] at hnq
          clear x1 x2 y1 y2 q1 q2 hw1 hw2 HA hq hq2 hne
          generalize (ra l k).1 = A1 at *
          generalize (ra l k).2 = A2 at *
          generalize (ra m k).1 = A3 at *
          generalize (ra m k).2 = A4 at *
          go_wp2_with fail
          go_region
          all_goals
            go_wp2_with fail
            rw [HP.out, HE.out]
            exact ⟨rfl, vb_d hb⟩
        · have hne : ra l k = ra m k := of_decide_eq_true hq
          have HA2 : Hid (∀ i, i < k + 1 → ra l i = ra m i) := hid_intro (fun i hi => by
            by_cases e : i = k
            · rw [e]; exact hne
            · exact HA.out i (by omega))
          have hq2 : decide (((ra l k).1, (ra l k).2) = ((ra m k).1, (ra m k).2)) = true := hq
          rw [hq2] at hnq
          clear x1 x2 y1 y2 q1 q2 hw1 hw2 HA hq hq2 hne
          generalize (ra l k).1 = A1 at *
          generalize (ra l k).2 = A2 at *
          generalize (ra m k).1 = A3 at *
          generalize (ra m k).2 = A4 at *
          go_wp2_with fail
          go_region
          all_goals
            go_wp2_with fail
            go_roundg (l.length - (k + 1))
            case measure => omega
            case rel => exact ⟨k + 1, by omega, rfl, by simp, HA2, vb_d hb⟩
      · have hI : ¬ ((k : Int) < (l.length : Int)) := by omega
        have HE : Hid (decide (l = m) = true) := hid_intro (decide_eq_true (List.ext_getElem hlen (fun i h1 h2 => by
          have := HA.out i (by omega)
          rwa [ra_get h1, ra_get h2] at this)))
        clear HA hlt hk hlen hd
        go_wp2_with fail
        rw [HP.out, HE.out]
        exact ⟨rfl, hb⟩
  · have hd : ((l.length : Int) != (m.length : Int)) = true := by simp; omega
    have e : decide (l = m) = false := decide_eq_false (fun e => hlen (by rw [e]))
    rw [e]
    clear hlen
    go_enter Try.func16, Try.ntmps16
    go_wp2_with fail
    go_ret
    exact ⟨rfl, Below.refl _ _⟩

end Go.Proofs.Ytcgohdfpmfpfiaa

namespace Go.Proofs.Ytcgohdfpmfpfiaa
open Go.RowKit
attribute [local go_sem] setCell_drewN alloc_drewN

set_option maxRecDepth 100000 in
set_option maxHeartbeats 1600000 in
theorem equal_any (l m : List (Int × Int)) (v1 v2 : Value) (w : World) (X Y : Nat → Prop) (h1 : RI w X l v1) (h2 : RI w Y m v2) :
    Calls Try.prog 61 #[v1, v2] w fun r w' => r = .returned (.bool (decide (l = m))) ∧ Below w.heap.size w w' := by
  obtain ⟨ao1, cap1, rfl, hc1, hm1, hw1, hl1⟩ := h1
  obtain ⟨ao2, cap2, rfl, hc2, hm2, hw2, hl2⟩ := h2
  by_cases hlen : l.length = m.length
  · have hd : ((l.length : Int) != (m.length : Int)) = false := by simp; omega
    have hlI : (l.length : Int) ≤ 9223372036854775807 := by unfold maxLen at hm1; omega
    obtain ⟨P, hP⟩ : ∃ P : Ending → World → Prop, P = fun r w' => r = .returned (.bool (decide (l = m))) ∧ Below w.heap.size w w' := ⟨_, rfl⟩
    rw [← hP]
    have HP := hid_intro hP
    clear hP
    go_enter Try.func61, Try.ntmps61
    go_wp2_with fail
    go_loopg [13] l.length (fun me s13 wr => ∃ k : Nat, k ≤ l.length ∧ me = l.length - k ∧ s13 = .int .i64 (k : Int) ∧ Hid (∀ i, i < k → ra l i = ra m i) ∧ Below w.heap.size w wr)
    case atStart => exact ⟨0, Nat.zero_le _, rfl, rfl, fun i hi => absurd hi (by omega), Below.refl _ _⟩
    case round =>
      obtain ⟨k, hk, rfl, rfl, HA, hb⟩ := hrel
      by_cases hlt : k < l.length
      · rcases hl1 with rfl | ⟨b1, o1, rfl, _, q1⟩
        · simp at hlt
        rcases hl2 with rfl | ⟨b2, o2, rfl, _, q2⟩
        · rw [hlen] at hlt; simp at hlt
        have hI : (k : Int) < (l.length : Int) := by omega
        have hI2 : (k : Int) < (m.length : Int) := by omega
        have x1 := (q1 k hlt).1
        have x2 := (q1 k hlt).2
        have y1 := (q2 k (by omega)).1
        have y2 := (q2 k (by omega)).2
        have p1 := (hb.cell (p := ⟨b1, o1 + k * 2, none⟩) (World.block_lt_of_cell? w _ x1)).trans x1
        have p2 := (hb.cell (p := ⟨b1, o1 + k * 2 + 1, none⟩) (World.block_lt_of_cell? w _ x2)).trans x2
        have p3 := (hb.cell (p := ⟨b2, o2 + k * 2, none⟩) (World.block_lt_of_cell? w _ y1)).trans y1
        have p4 := (hb.cell (p := ⟨b2, o2 + k * 2 + 1, none⟩) (World.block_lt_of_cell? w _ y2)).trans y2
        have hnq := fun w => neq_rng (ra l k).1 (ra l k).2 (ra m k).1 (ra m k).2 w
        cases hq : decide (ra l k = ra m k)
        · have hne : ¬ ra l k = ra m k := of_decide_eq_false hq
          have HE : Hid (decide (l = m) = false) := hid_intro (decide_eq_false (fun e => hne (by rw [e])))
          have hq2 : decide (((ra l k).1, (ra l k).2) = ((ra m k).1, (ra m k).2)) = false := hq
          rw [hq2] at hnq
          clear x1 x2 y1 y2 q1 q2 hw1 hw2 HA hq hq2 hne
          generalize (ra l k).1 = A1 at *
          generalize (ra l k).2 = A2 at *
          generalize (ra m k).1 = A3 at *
          generalize (ra m k).2 = A4 at *
          go_wp2_with fail
          go_region
          all_goals
            go_wp2_with fail
            rw [HP.out, HE.out]
            exact ⟨rfl, vb_d hb⟩
        · have hne : ra l k = ra m k := of_decide_eq_true hq
          have HA2 : Hid (∀ i, i < k + 1 → ra l i = ra m i) := hid_intro (fun i hi => by
            by_cases e : i = k
            · rw [e]; exact hne
            · exact HA.out i (by omega))
          have hq2 : decide (((ra l k).1, (ra l k).2) = ((ra m k).1, (ra m k).2)) = true := hq
          rw [hq2] at hnq
          clear x1 x2 y1 y2 q1 q2 hw1 hw2 HA hq hq2 hne
          generalize (ra l k).1 = A1 at *
          generalize (ra l k).2 = A2 at *
          generalize (ra m k).1 = A3 at *
          generalize (ra m k).2 = A4 at *
          go_wp2_with fail
          go_region
          all_goals
            go_wp2_with fail
            go_roundg (l.length - (k + 1))
            case measure => omega
            case rel => exact ⟨k + 1, by omega, rfl, by simp, HA2, vb_d hb⟩
      · have hI : ¬ ((k : Int) < (l.length : Int)) := by omega
        have hI2 : ¬ ((k : Int) < (m.length : Int)) := by omega
        have HE : Hid (decide (l = m) = true) := hid_intro (decide_eq_true (List.ext_getElem hlen (fun i h1 h2 => by
          have := HA.out i (by omega)
          rwa [ra_get h1, ra_get h2] at this)))
        clear HA hlt hk hlen hd
        go_wp2_with fail
        rw [HP.out, HE.out]
        exact ⟨rfl, hb⟩
  · have hd : ((l.length : Int) != (m.length : Int)) = true := by simp; omega
    have e : decide (l = m) = false := decide_eq_false (fun e => hlen (by rw [e]))
    rw [e]
    clear hlen
    go_enter Try.func61, Try.ntmps61
    go_wp2_with fail
    go_ret
    exact ⟨rfl, Below.refl _ _⟩


set_option maxRecDepth 100000 in
set_option maxHeartbeats 1600000 in
theorem isSet_any (l : List (Int × Int)) (v : Value) (w : World) (X : Nat → Prop) (hR : RI w X l v) (hl : l.length ≤ 1099511627776) :
    Calls Try.prog 52 #[v] w fun r w' => r = .returned (.bool (decide (mergeL l = l))) ∧ Below w.heap.size w w' := by
  have hm := merge_any l v w X hR hl
  have HR := hid_intro hR
  clear hR
  obtain ⟨P, hP⟩ : ∃ P : Ending → World → Prop, P = fun r w' => r = .returned (.bool (decide (mergeL l = l))) ∧ Below w.heap.size w w' := ⟨_, rfl⟩
  rw [← hP]
  have HP := hid_intro hP
  clear hP
  go_enter Try.func52, Try.ntmps52
  go_wp2_with fail
  refine hm.mono ?_; rintro r w1 ⟨v1, rfl, ho1, hb1⟩
  have he := equal_any (mergeL l) l v1 v w1 (fun _ => False) X (ho1.ri _ (fun _ _ h => h)) (HR.out.kept hb1)
  clear ho1
  go_wp2_with fail
  refine he.mono ?_; rintro r w2 ⟨rfl, hb2⟩
  go_wp2_with fail
  rw [HP.out]
  exact ⟨rfl, vb_t hb1 hb2⟩
end Go.Proofs.Ytcgohdfpmfpfiaa
