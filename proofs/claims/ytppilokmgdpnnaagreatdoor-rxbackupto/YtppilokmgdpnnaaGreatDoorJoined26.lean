/-
  Which trees may be, said twice: as the program asks it, and as the document's answer does. No condition.
  Whether two rows of ranges are the same (the library's Equal); whether ranges are a set, as the program asks it. Conditions: at most 2^40 ranges.
-/
import Derived.Test.YtppilokmgdpnnaaGreatDoorJoined6
import Derived.Test.YtppilokmgdpnnaaGreatDoorJoined16
import Derived.Test.YtppilokmgdpnnaaGreatDoorJoined25
namespace Go.Proofs.YtppilokmgdpnnaaGreatDoor

/-- Is the range at a place as it may be behind the one ahead of it? -/
def rgAt (l : List (Int × Int)) (i : Nat) : Prop := (0 ≤ (ra l i).1 ∧ (ra l i).1 ≤ (ra l i).2 ∧ (ra l i).2 ≤ 1114111) ∧ (i = 0 ∨ (ra l (i - 1)).2 + 1 < (ra l i).1)
instance (l : List (Int × Int)) (i : Nat) : Decidable (rgAt l i) := by unfold rgAt; exact inferInstance
/-- The document's answer: are ranges a set? -/
def rgB (l : List (Int × Int)) : Bool := decide (∀ i, i < l.length → rgAt l i)
theorem rg_can : ∀ (l : List (Int × Int)), (∀ i, i < l.length → rgAt l i) ↔ Can l
  | [] => ⟨fun _ => Can.nil, fun _ i h => by simp at h⟩
  | [r] => by
    constructor
    · intro h
      exact Can.cons (h 0 (by simp)).1 Can.nil (fun x hx => by simp at hx)
    · intro h i hi
      obtain rfl : i = 0 := by simp at hi; omega
      cases h with
      | cons h _ _ => exact ⟨h, Or.inl rfl⟩
  | r :: s :: l => by
    have ih := rg_can (s :: l)
    have er : ∀ i, ra (r :: s :: l) (i + 1) = ra (s :: l) i := fun i => rfl
    constructor
    · intro h
      have h0 := (h 0 (by simp)).1
      have h1 := h 1 (by simp)
      have hc : Can (s :: l) := ih.1 (fun i hi => by
        have := h (i + 1) (by simp only [List.length_cons] at hi ⊢; omega)
        refine ⟨this.1, ?_⟩
        cases i with
        | zero => exact Or.inl rfl
        | succ i =>
          rcases this.2 with h | h
          · omega
          · exact Or.inr h)
      have hrs : r.2 + 1 < s.1 := by
        rcases h1.2 with h | h
        · omega
        · exact h
      refine Can.cons h0 hc (fun x hx => ?_)
      cases hc with
      | cons hs _ hn =>
        rcases List.mem_cons.1 hx with rfl | hx
        · exact hrs
        · have := hn x hx
          have := hs.2.1
          omega
    · intro h i hi
      cases h with
      | cons hr hc hn =>
        cases i with
        | zero => exact ⟨hr, Or.inl rfl⟩
        | succ i =>
          have := ih.2 hc i (by simpa using hi)
          refine ⟨this.1, Or.inr ?_⟩
          cases i with
          | zero => exact hn s (by simp)
          | succ i =>
            rcases this.2 with h | h
            · omega
            · exact h
theorem rg_set (l : List (Int × Int)) : rgB l = decide (mergeL l = l) := by
  unfold rgB
  rw [decide_eq_decide, rg_can]
  exact ⟨merge_set, fun h => h ▸ merge_can l⟩

/-- A node without a count. -/
def noCnt (lo hi : Int) (z : Bool) : Bool := decide (lo = 0) && decide (hi = 0) && !z
/-- A node's count. -/
def hasCnt (lo hi : Int) : Bool := decide (0 ≤ lo) && decide (lo ≤ 1000) && (decide (hi = -1) || (decide (lo ≤ hi) && decide (hi ≤ 1000)))
/-- The program's question: has a node what its kind has, and nothing else? n: how many parts. -/
def ownB (k : Int) (r : List (Int × Int)) (lo hi : Int) (z : Bool) (n : Nat) : Bool :=
  if k = 1 ∨ k = 6 ∨ k = 7 ∨ k = 8 ∨ k = 9 then decide (n = 0) && decide (r.length = 0) && noCnt lo hi z
  else if k = 2 then decide (n = 0) && decide (mergeL r = r) && noCnt lo hi z
  else if k = 3 ∨ k = 4 then decide (2 ≤ n) && decide (r.length = 0) && noCnt lo hi z
  else if k = 5 then decide (n = 1) && decide (r.length = 0) && hasCnt lo hi
  else false
def mayB : Nat → RX → Bool
  | 0, _ => false
  | d + 1, .mk k r lo hi z s => ownB k r lo hi z s.length && s.all (mayB d)
/-- The document's question. -/
def kindB (k : Int) (lo hi : Int) (n : Nat) : Bool :=
  if k = 3 ∨ k = 4 then !decide (n < 2)
  else if k = 5 then !(decide (n ≠ 1) || decide (lo < 0) || decide (lo > 1000) || decide (hi < -1) || decide (hi > 1000) || (decide (hi ≥ 0) && decide (hi < lo)))
  else if k = 2 ∨ k = 1 ∨ k = 6 ∨ k = 7 ∨ k = 8 ∨ k = 9 then !decide (n > 0)
  else false
def headB (k : Int) (r : List (Int × Int)) (lo hi : Int) (z : Bool) : Bool :=
  !((decide (k ≠ 2) && decide (r.length > 0)) || (decide (k ≠ 5) && (decide (lo ≠ 0) || decide (hi ≠ 0) || z)) || !rgB r)
def rightB : Nat → RX → Bool
  | 0, _ => false
  | d + 1, .mk k r lo hi z s => headB k r lo hi z && kindB k lo hi s.length && s.all (rightB d)
theorem own_right (k : Int) (r : List (Int × Int)) (lo hi : Int) (z : Bool) (n : Nat) : ownB k r lo hi z n = (headB k r lo hi z && kindB k lo hi n) := by
  have h0 : r.length = 0 → rgB r = true := fun h => by
    obtain rfl : r = [] := List.eq_nil_of_length_eq_zero h
    rw [rg_set]; rfl
  have hs := rg_set r
  have hm : decide (mergeL r = r) = rgB r := hs.symm
  unfold ownB headB kindB noCnt hasCnt
  rw [hm]
  clear hm hs
  by_cases c5 : k = 5
  · subst c5
    by_cases hr : r.length = 0
    · rw [h0 hr]
      rw [Bool.eq_iff_iff]
      simp [hr]
      omega
    · rw [Bool.eq_iff_iff]
      simp [hr]
  · by_cases c34 : k = 3 ∨ k = 4
    · have a1 : ¬ (k = 1 ∨ k = 6 ∨ k = 7 ∨ k = 8 ∨ k = 9) := by omega
      have a2 : ¬ k = 2 := by omega
      rw [if_neg a1, if_neg a2, if_pos c34, if_pos c34]
      by_cases hr : r.length = 0
      · rw [h0 hr, Bool.eq_iff_iff]
        cases z <;> by_cases hlo : lo = 0 <;> by_cases hhi : hi = 0 <;> simp [hr, a2, c5, hlo, hhi]
      · rw [Bool.eq_iff_iff]
        simp [hr, a2]
    · by_cases c2 : k = 2
      · subst c2
        rw [Bool.eq_iff_iff]
        cases rgB r <;> cases z <;> by_cases hlo : lo = 0 <;> by_cases hhi : hi = 0 <;> simp [hlo, hhi]
      · by_cases c1 : k = 1 ∨ k = 6 ∨ k = 7 ∨ k = 8 ∨ k = 9
        · rw [if_pos c1, if_neg c34, if_neg c5, if_pos (by omega)]
          by_cases hr : r.length = 0
          · rw [h0 hr, Bool.eq_iff_iff]
            cases z <;> by_cases hlo : lo = 0 <;> by_cases hhi : hi = 0 <;> simp [hr, c2, c5, hlo, hhi]
          · rw [Bool.eq_iff_iff]
            simp [hr, c2]
        · rw [if_neg c1, if_neg c2, if_neg c34, if_neg c5, if_neg c34, if_neg c5, if_neg (by omega)]
          simp
theorem may_right : ∀ (d : Nat) (x : RX), mayB d x = rightB d x
  | 0, _ => rfl
  | d + 1, .mk k r lo hi z s => by
    have e : (mayB d) = (rightB d) := funext (may_right d)
    simp only [mayB, rightB]
    rw [own_right, e]
end Go.Proofs.YtppilokmgdpnnaaGreatDoor

namespace Go.Proofs.YtppilokmgdpnnaaGreatDoor
open Go.RowKit
attribute [local go_sem] setCell_drewN alloc_drewN

set_option maxRecDepth 100000 in
set_option maxHeartbeats 1600000 in
theorem equal_any (l m : List (Int × Int)) (v1 v2 : Value) (w : World) (X Y : Nat → Prop) (h1 : RI w X l v1) (h2 : RI w Y m v2) :
    Calls Tryz.prog 46 #[v1, v2] w fun r w' => r = .returned (.bool (decide (l = m))) ∧ Below w.heap.size w w' := by
  obtain ⟨ao1, cap1, rfl, hc1, hm1, hw1, hl1⟩ := h1
  obtain ⟨ao2, cap2, rfl, hc2, hm2, hw2, hl2⟩ := h2
  by_cases hlen : l.length = m.length
  · have hd : ((l.length : Int) != (m.length : Int)) = false := by simp; omega
    have hlI : (l.length : Int) ≤ 9223372036854775807 := by unfold maxLen at hm1; omega
    obtain ⟨P, hP⟩ : ∃ P : Ending → World → Prop, P = fun r w' => r = .returned (.bool (decide (l = m))) ∧ Below w.heap.size w w' := ⟨_, rfl⟩
    rw [← hP]
    have HP := hid_intro hP
    clear hP
    go_enter Tryz.func46, Tryz.ntmps46
    go_wp2_with fail
    go_loopg [13] l.length (fun me s13 wr => ∃ k : Nat, k ≤ l.length ∧ me = l.length - k ∧ s13 = .int .i64 (k : Int) ∧ Hid (∀ i, i < k → ra l i = ra m i) ∧ Below w.heap.size w wr)
    case atStart => exact ⟨0, Nat.zero_le _, rfl, rfl, fun i hi => absurd hi (by omega), Below.refl _ _⟩
    case round =>
      obtain ⟨k, hk, rfl, rfl, HA, hb⟩ := hrel
      by_cases hlt : k < l.length
      · rcases hl1 with rfl | ⟨b1, o1, rfl, _, q1⟩
        · simp at hlt
        rcases hl2 with rfl | ⟨b2, o2, rfl, _, q2⟩
        · rw [hlen] at hlt; simp at hlt
        have hI : (k : Int) < (l.length : Int) := by omega
        have hI2 : (k : Int) < (m.length : Int) := by omega
        have x1 := (q1 k hlt).1
        have x2 := (q1 k hlt).2
        have y1 := (q2 k (by omega)).1
        have y2 := (q2 k (by omega)).2
        have p1 := (hb.cell (p := ⟨b1, o1 + k * 2, none⟩) (World.block_lt_of_cell? w _ x1)).trans x1
        have p2 := (hb.cell (p := ⟨b1, o1 + k * 2 + 1, none⟩) (World.block_lt_of_cell? w _ x2)).trans x2
        have p3 := (hb.cell (p := ⟨b2, o2 + k * 2, none⟩) (World.block_lt_of_cell? w _ y1)).trans y1
        have p4 := (hb.cell (p := ⟨b2, o2 + k * 2 + 1, none⟩) (World.block_lt_of_cell? w _ y2)).trans y2
        have hnq := fun w => neq_rng (ra l k).1 (ra l k).2 (ra m k).1 (ra m k).2 w
        cases hq : decide (ra l k = ra m k)
        · have hne : ¬ ra l k = ra m k := of_decide_eq_false hq
          have HE : Hid (decide (l = m) = false) := hid_intro (decide_eq_false (fun e => hne (by rw [e])))
          have hq2 : decide (((ra l k).1, (ra l k).2) = ((ra m k).1, (ra m k).2)) = false := hq
          rw [hq2] at hnq
          clear x1 x2 y1 y2 q1 q2 hw1 hw2 HA hq hq2 hne
          generalize (ra l k).1 = A1 at *
          generalize (ra l k).2 = A2 at *
          generalize (ra m k).1 = A3 at *
          generalize (ra m k).2 = A4 at *
          go_wp2_with fail
          go_region
          all_goals
            go_wp2_with fail
            rw [HP.out, HE.out]
            exact ⟨rfl, vb_d hb⟩
        · have hne : ra l k = ra m k := of_decide_eq_true hq
          have HA2 : Hid (∀ i, i < k + 1 → ra l i = ra m i) := hid_intro (fun i hi => by
            by_cases e : i = k
            · rw [e]; exact hne
            · exact HA.out i (by omega))
          have hq2 : decide (((ra l k).1, (ra l k).2) = ((ra m k).1, (ra m k).2)) = true := hq
          rw [hq2] at hnq
          clear x1 x2 y1 y2 q1 q2 hw1 hw2 HA hq hq2 hne
          generalize (ra l k).1 = A1 at *
          generalize (ra l k).2 = A2 at *
          generalize (ra m k).1 = A3 at *
          generalize (ra m k).2 = A4 at *
          go_wp2_with fail
          go_region
          all_goals
            go_wp2_with fail
            go_roundg (l.length - (k + 1))
            case measure => omega
            case rel => exact ⟨k + 1, by omega, rfl, by simp, HA2, vb_d hb⟩
      · have hI : ¬ ((k : Int) < (l.length : Int)) := by omega
        have hI2 : ¬ ((k : Int) < (m.length : Int)) := by omega
        have HE : Hid (decide (l = m) = true) := hid_intro (decide_eq_true (List.ext_getElem hlen (fun i h1 h2 => by
          have := HA.out i (by omega)
          rwa [ra_get h1, ra_get h2] at this)))
        clear HA hlt hk hlen hd
        go_wp2_with fail
        rw [HP.out, HE.out]
        exact ⟨rfl, hb⟩
  · have hd : ((l.length : Int) != (m.length : Int)) = true := by simp; omega
    have e : decide (l = m) = false := decide_eq_false (fun e => hlen (by rw [e]))
    rw [e]
    clear hlen
    go_enter Tryz.func46, Tryz.ntmps46
    go_wp2_with fail
    go_ret
    exact ⟨rfl, Below.refl _ _⟩


set_option maxRecDepth 100000 in
set_option maxHeartbeats 1600000 in
theorem isSet_any (l : List (Int × Int)) (v : Value) (w : World) (X : Nat → Prop) (hR : RI w X l v) (hl : l.length ≤ 1099511627776) :
    Calls Tryz.prog 37 #[v] w fun r w' => r = .returned (.bool (decide (mergeL l = l))) ∧ Below w.heap.size w w' := by
  have hm := merge_any l v w X hR hl
  have HR := hid_intro hR
  clear hR
  obtain ⟨P, hP⟩ : ∃ P : Ending → World → Prop, P = fun r w' => r = .returned (.bool (decide (mergeL l = l))) ∧ Below w.heap.size w w' := ⟨_, rfl⟩
  rw [← hP]
  have HP := hid_intro hP
  clear hP
  go_enter Tryz.func37, Tryz.ntmps37
  go_wp2_with fail
  refine hm.mono ?_; rintro r w1 ⟨v1, rfl, ho1, hb1⟩
  have he := equal_any (mergeL l) l v1 v w1 (fun _ => False) X (ho1.ri _ (fun _ _ h => h)) (HR.out.kept hb1)
  clear ho1
  go_wp2_with fail
  refine he.mono ?_; rintro r w2 ⟨rfl, hb2⟩
  go_wp2_with fail
  rw [HP.out]
  exact ⟨rfl, vb_t hb1 hb2⟩
end Go.Proofs.YtppilokmgdpnnaaGreatDoor
