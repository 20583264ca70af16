/-
  Which trees may be, said twice: as the program asks it, and as the document's answer does. No condition.
  Whether a code point is in a set, and whether one of some states is the last. Conditions: there is room.
  Whether a code point is in a set: the search by halves. Conditions: there is room.
  Whether a code point is in a set; whether one of some states is the last. Conditions: there is room.
-/
import Derived.Test.YtoinlmfodmgohaaGreatDoorJoined4
import Derived.Test.YtoinlmfodmgohaaGreatDoorJoined7
namespace Go.Proofs.YtoinlmfodmgohaaGreatDoor

/-- Is the range at a place as it may be behind the one ahead of it? -/
def rgAt (l : List (Int × Int)) (i : Nat) : Prop := (0 ≤ (ra l i).1 ∧ (ra l i).1 ≤ (ra l i).2 ∧ (ra l i).2 ≤ 1114111) ∧ (i = 0 ∨ (ra l (i - 1)).2 + 1 < (ra l i).1)
instance (l : List (Int × Int)) (i : Nat) : Decidable (rgAt l i) := by unfold rgAt; exact inferInstance
/-- The document's answer: are ranges a set? -/
def rgB (l : List (Int × Int)) : Bool := decide (∀ i, i < l.length → rgAt l i)
theorem rg_can : ∀ (l : List (Int × Int)), (∀ i, i < l.length → rgAt l i) ↔ Can l
  | [] => ⟨fun _ => Can.nil, fun _ i h => by simp at h⟩
  | [r] => by
    constructor
    · intro h
      exact Can.cons (h 0 (by simp)).1 Can.nil (fun x hx => by simp at hx)
    · intro h i hi
      obtain rfl : i = 0 := by simp at hi; omega
      cases h with
      | cons h _ _ => exact ⟨h, Or.inl rfl⟩
  | r :: s :: l => by
    have ih := rg_can (s :: l)
    have er : ∀ i, ra (r :: s :: l) (i + 1) = ra (s :: l) i := fun i => rfl
    constructor
    · intro h
      have h0 := (h 0 (by simp)).1
      have h1 := h 1 (by simp)
      have hc : Can (s :: l) := ih.1 (fun i hi => by
        have := h (i + 1) (by simp only [List.length_cons] at hi ⊢; omega)
        refine ⟨this.1, ?_⟩
        cases i with
        | zero => exact Or.inl rfl
        | succ i =>
          rcases this.2 with h | h
          · omega
          · exact Or.inr h)
      have hrs : r.2 + 1 < s.1 := by
        rcases h1.2 with h | h
        · omega
        · exact h
      refine Can.cons h0 hc (fun x hx => ?_)
      cases hc with
      | cons hs _ hn =>
        rcases List.mem_cons.1 hx with rfl | hx
        · exact hrs
        · have := hn x hx
          have := hs.2.1
          omega
    · intro h i hi
      cases h with
      | cons hr hc hn =>
        cases i with
        | zero => exact ⟨hr, Or.inl rfl⟩
        | succ i =>
          have := ih.2 hc i (by simpa using hi)
          refine ⟨this.1, Or.inr ?_⟩
          cases i with
          | zero => exact hn s (by simp)
          | succ i =>
            rcases this.2 with h | h
            · omega
            · exact h
theorem rg_set (l : List (Int × Int)) : rgB l = decide (mergeL l = l) := by
  unfold rgB
  rw [decide_eq_decide, rg_can]
  exact ⟨merge_set, fun h => h ▸ merge_can l⟩

/-- A node without a count. -/
def noCnt (lo hi : Int) (z : Bool) : Bool := decide (lo = 0) && decide (hi = 0) && !z
/-- A node's count. -/
def hasCnt (lo hi : Int) : Bool := decide (0 ≤ lo) && decide (lo ≤ 1000) && (decide (hi = -1) || (decide (lo ≤ hi) && decide (hi ≤ 1000)))
/-- The program's question: has a node what its kind has, and nothing else? n: how many parts. -/
def ownB (k : Int) (r : List (Int × Int)) (lo hi : Int) (z : Bool) (n : Nat) : Bool :=
  if k = 1 ∨ k = 6 ∨ k = 7 ∨ k = 8 ∨ k = 9 then decide (n = 0) && decide (r.length = 0) && noCnt lo hi z
  else if k = 2 then decide (n = 0) && decide (mergeL r = r) && noCnt lo hi z
  else if k = 3 ∨ k = 4 then decide (2 ≤ n) && decide (r.length = 0) && noCnt lo hi z
  else if k = 5 then decide (n = 1) && decide (r.length = 0) && hasCnt lo hi
  else false
def mayB : Nat → RX → Bool
  | 0, _ => false
  | d + 1, .mk k r lo hi z s => ownB k r lo hi z s.length && s.all (mayB d)
/-- The document's question. -/
def kindB (k : Int) (lo hi : Int) (n : Nat) : Bool :=
  if k = 3 ∨ k = 4 then !decide (n < 2)
  else if k = 5 then !(decide (n ≠ 1) || decide (lo < 0) || decide (lo > 1000) || decide (hi < -1) || decide (hi > 1000) || (decide (hi ≥ 0) && decide (hi < lo)))
  else if k = 2 ∨ k = 1 ∨ k = 6 ∨ k = 7 ∨ k = 8 ∨ k = 9 then !decide (n > 0)
  else false
def headB (k : Int) (r : List (Int × Int)) (lo hi : Int) (z : Bool) : Bool :=
  !((decide (k ≠ 2) && decide (r.length > 0)) || (decide (k ≠ 5) && (decide (lo ≠ 0) || decide (hi ≠ 0) || z)) || !rgB r)
def rightB : Nat → RX → Bool
  | 0, _ => false
  | d + 1, .mk k r lo hi z s => headB k r lo hi z && kindB k lo hi s.length && s.all (rightB d)
theorem own_right (k : Int) (r : List (Int × Int)) (lo hi : Int) (z : Bool) (n : Nat) : ownB k r lo hi z n = (headB k r lo hi z && kindB k lo hi n) := by
  have h0 : r.length = 0 → rgB r = true := fun h => by
    obtain rfl : r = [] := List.eq_nil_of_length_eq_zero h
    rw [rg_set]; rfl
  have hs := rg_set r
  have hm : decide (mergeL r = r) = rgB r := hs.symm
  unfold ownB headB kindB noCnt hasCnt
  rw [hm]
  clear hm hs
  by_cases c5 : k = 5
  · subst c5
    by_cases hr : r.length = 0
    · rw [h0 hr]
      rw [Bool.eq_iff_iff]
      simp [hr]
      omega
    · rw [Bool.eq_iff_iff]
      simp [hr]
  · by_cases c34 : k = 3 ∨ k = 4
    · have a1 : ¬ (k = 1 ∨ k = 6 ∨ k = 7 ∨ k = 8 ∨ k = 9) := by omega
      have a2 : ¬ k = 2 := by omega
      rw [if_neg a1, if_neg a2, if_pos c34, if_pos c34]
      by_cases hr : r.length = 0
      · rw [h0 hr, Bool.eq_iff_iff]
        cases z <;> by_cases hlo : lo = 0 <;> by_cases hhi : hi = 0 <;> simp [hr, a2, c5, hlo, hhi]
      · rw [Bool.eq_iff_iff]
        simp [hr, a2]
    · by_cases c2 : k = 2
      · subst c2
        rw [Bool.eq_iff_iff]
        cases rgB r <;> cases z <;> by_cases hlo : lo = 0 <;> by_cases hhi : hi = 0 <;> simp [hlo, hhi]
      · by_cases c1 : k = 1 ∨ k = 6 ∨ k = 7 ∨ k = 8 ∨ k = 9
        · rw [if_pos c1, if_neg c34, if_neg c5, if_pos (by omega)]
          by_cases hr : r.length = 0
          · rw [h0 hr, Bool.eq_iff_iff]
            cases z <;> by_cases hlo : lo = 0 <;> by_cases hhi : hi = 0 <;> simp [hr, c2, c5, hlo, hhi]
          · rw [Bool.eq_iff_iff]
            simp [hr, c2]
        · rw [if_neg c1, if_neg c2, if_neg c34, if_neg c5, if_neg c34, if_neg c5, if_neg (by omega)]
          simp
theorem may_right : ∀ (d : Nat) (x : RX), mayB d x = rightB d x
  | 0, _ => rfl
  | d + 1, .mk k r lo hi z s => by
    have e : (mayB d) = (rightB d) := funext (may_right d)
    simp only [mayB, rightB]
    rw [own_right, e]
end Go.Proofs.YtoinlmfodmgohaaGreatDoor

namespace Go.Proofs.YtoinlmfodmgohaaGreatDoor
open Go.RowKit
attribute [local go_sem] setCell_drewN alloc_drewN

/-- A closure with two arguments, called where a guard lets it. -/
theorem wpList_clog {w : World} {ops : Array Oper} {rest : List Oper} {o : Oper} {a : Act} {Q : Exit → Act → World → Prop} (hw : Region.wanted o (yielded ops a.tmps) = true) (t x y : Operand) (tys : Array TypeId) (hop : o.op = .call { callee := .value t, args := #[x, y], argTypes := tys })
    (f : FuncId) (l : List Value) (ht : a.eval t = .func (.func f) #[] l.toArray) (hent : ∀ args w, (callFunc f args).run Tryz.prog w = .ok (.enter f args) w) (u v : Value) (hx : a.eval x = u) (hy : a.eval y = v) (S : Ending → World → Prop)
    (hc : Calls Tryz.prog f (u :: v :: l).toArray w S) (h : ∀ v w', S (.returned v) w' → wpList Tryz.prog ops Q rest (a.put o.dst v) w') (hS : ∀ e w', S e w' → ∃ v, e = .returned v) : wpList Tryz.prog ops Q (o :: rest) a w := by
  refine wpList_step fun K hK => ?_
  rw [if_pos hw]
  have hrun : (execOp a.eval o).run Tryz.prog w = .ok (.enter f (u :: v :: l).toArray) w := by
    unfold execOp
    simp [hop, resolve, invoke, ht, hx, hy, Deferred.ofValue, hent]
  unfold Oper.wp
  rw [hrun, Oper.upon_enter]
  refine hc.mono fun e w' hh => ?_
  obtain ⟨v, rfl⟩ := hS e w' hh
  exact hK _ _ (h v w' hh)
def hasB (l : List (Int × Int)) (p : Int) : Bool := l.any fun q => decide (q.1 ≤ p ∧ p ≤ q.2)
theorem hasB_iff (l : List (Int × Int)) (p : Int) : hasB l p = true ↔ ∃ i, i < l.length ∧ (ra l i).1 ≤ p ∧ p ≤ (ra l i).2 := by
  unfold hasB
  rw [List.any_eq_true]
  constructor
  · rintro ⟨q, hq, h⟩
    obtain ⟨i, hi, rfl⟩ := List.getElem_of_mem hq
    refine ⟨i, hi, ?_⟩
    have e : ra l i = l[i] := by unfold ra; rw [List.getD_eq_getElem?_getD, List.getElem?_eq_getElem hi]; rfl
    rw [e]; simpa using h
  · rintro ⟨i, hi, h⟩
    have e : ra l i = l[i] := by unfold ra; rw [List.getD_eq_getElem?_getD, List.getElem?_eq_getElem hi]; rfl
    rw [e] at h
    exact ⟨l[i], List.getElem_mem hi, by simpa using h⟩
theorem rg_lt {l : List (Int × Int)} (h : ∀ i, i < l.length → rgAt l i) : ∀ j i, i < j → j < l.length → (ra l i).2 < (ra l j).1
  | 0, i, hi, _ => by omega
  | j + 1, i, hi, hj => by
    have h1 := (h (j + 1) hj).2
    rw [Nat.add_sub_cancel] at h1
    have h1 : (ra l j).2 + 1 < (ra l (j + 1)).1 := h1.resolve_left (by omega)
    by_cases e : i = j
    · subst e; omega
    · have := rg_lt h j i (by omega) (by omega)
      have := (h j (by omega)).1
      omega
theorem has_end {l : List (Int × Int)} (h : ∀ i, i < l.length → rgAt l i) (p : Int) (i : Nat) (h1 : ∀ j, j < i → (ra l j).2 < p) (h2 : ∀ j, i ≤ j → j < l.length → p ≤ (ra l j).2) : hasB l p = decide (i < l.length ∧ (ra l i).1 ≤ p) := by
  rw [Bool.eq_iff_iff, hasB_iff, decide_eq_true_iff]
  constructor
  · rintro ⟨j, hj, h3, h4⟩
    have : ¬ j < i := fun hlt => by have := h1 j hlt; omega
    by_cases e : j = i
    · subst e; exact ⟨hj, h3⟩
    · have := rg_lt h j i (by omega) hj
      have := h2 i (Nat.le_refl _) (by omega)
      omega
  · rintro ⟨hi, h3⟩
    exact ⟨i, hi, h3, h2 i (Nat.le_refl _) hi⟩
def cmpV (q : Int × Int) (p : Int) : Int := if q.2 < p then -1 else if q.1 > p then 1 else 0
set_option maxRecDepth 100000 in
set_option maxHeartbeats 1600000 in
theorem cmp_any (a b p : Int) (w : World) : Calls Tryz.prog 91 #[.agg #[.int .i64 a, .int .i64 b], .int .i64 p] w fun e w' => e = .returned (.int .i64 (cmpV (a, b) p)) ∧ Below w.heap.size w w' := by
  obtain ⟨P, hP⟩ : ∃ P : Ending → World → Prop, P = fun e w' => e = .returned (.int .i64 (cmpV (a, b) p)) ∧ Below w.heap.size w w' := ⟨_, rfl⟩
  rw [← hP]
  have HP := hid_intro hP
  clear hP
  have HB := hid_intro (vb_a (Below.refl _ w) (.cells #[.int .i64 a, .int .i64 b] 40))
  by_cases h1 : b < p
  · have HE : Hid (cmpV (a, b) p = -1) := hid_intro (if_pos h1)
    go_enter Tryz.func91, Tryz.ntmps91
    go_wp2_with fail
    rw [HP.out, HE.out]
    exact ⟨rfl, HB.out⟩
  by_cases h2 : a > p
  · have HE : Hid (cmpV (a, b) p = 1) := hid_intro (by unfold cmpV; rw [if_neg h1, if_pos h2])
    go_enter Tryz.func91, Tryz.ntmps91
    go_wp2_with fail
    rw [HP.out, HE.out]
    exact ⟨rfl, HB.out⟩
  · have HE : Hid (cmpV (a, b) p = 0) := hid_intro (by unfold cmpV; rw [if_neg h1, if_neg h2])
    go_enter Tryz.func91, Tryz.ntmps91
    go_wp2_with fail
    rw [HP.out, HE.out]
    exact ⟨rfl, HB.out⟩
theorem ent_cmp : ∀ args w, (callFunc 91 args).run Tryz.prog w = .ok (.enter 91 args) w := enters_of Tryz.func91 (by kernel_rfl) rfl
end Go.Proofs.YtoinlmfodmgohaaGreatDoor

namespace Go.Proofs.YtoinlmfodmgohaaGreatDoor
open Go.RowKit
attribute [local go_sem] setCell_drewN alloc_drewN

theorem RI.at {w : World} {X : Nat → Prop} {l : List (Int × Int)} {v : Value} (h : RI w X l v) {i : Nat} (hi : i < l.length) : ∃ b off cap, v = .slice (some ⟨b, off, none⟩) l.length cap ∧ w.cell? ⟨b, off + i * 2, none⟩ = some (.int .i64 (ra l i).1) ∧ w.cell? ⟨b, off + i * 2 + 1, none⟩ = some (.int .i64 (ra l i).2) := by
  obtain ⟨ao, cap, rfl, _, _, _, h4⟩ := h
  rcases h4 with rfl | ⟨b, off, rfl, _, h7⟩
  · simp at hi
  · exact ⟨b, off, cap, rfl, h7 i hi⟩
set_option maxRecDepth 100000 in
set_option maxHeartbeats 3200000 in
theorem bin_any (l : List (Int × Int)) (hl : l.length ≤ 1099511627776) (hrg : ∀ i, i < l.length → rgAt l i) (v : Value) (p : Int) (w : World) (X : Nat → Prop) (hR : RI w X l v) :
    Calls Tryz.prog 90 #[v, .int .i64 p, .func (.func 91) #[] #[]] w fun e w' => ∃ i : Nat, e = .returned (.tuple #[.int .i64 (i : Int), .bool (hasB l p)]) ∧ Below w.heap.size w w' := by
  have hR0 := hR
  obtain ⟨ao, cap, rfl, hc, hcm, hok, hlie⟩ := hR
  have hlI : (l.length : Int) ≤ 1099511627776 := by omega
  obtain ⟨P, hP⟩ : ∃ P : Ending → World → Prop, P = fun e w' => ∃ i : Nat, e = .returned (.tuple #[.int .i64 (i : Int), .bool (hasB l p)]) ∧ Below w.heap.size w w' := ⟨_, rfl⟩
  rw [← hP]
  have HP := hid_intro hP
  have HAT : Hid (∀ w' i, Below w.heap.size w w' → i < l.length → ∃ b off, ao = some ⟨b, off, none⟩ ∧ w'.cell? ⟨b, off + i * 2, none⟩ = some (.int .i64 (ra l i).1) ∧ w'.cell? ⟨b, off + i * 2 + 1, none⟩ = some (.int .i64 (ra l i).2)) := hid_intro (fun w' i hb hi => by
    obtain ⟨b, off, cap', e, h1, h2⟩ := (hR0.kept hb).at hi
    injection e with e _ _
    exact ⟨b, off, e, h1, h2⟩)
  have HRG := hid_intro hrg
  have HLL := hid_intro hl
  clear hP hR0 hlie hok hcm hc hrg hl
  go_enter Tryz.func90, Tryz.ntmps90
  go_wp2_with fail
  go_loopg [9, 10] l.length (fun mm s9 s10 wr => ∃ lo hi : Nat, s9 = .int .i64 (lo : Int) ∧ s10 = .int .i64 (hi : Int) ∧ mm = hi - lo ∧ Hid (lo ≤ hi ∧ hi ≤ l.length ∧ (∀ j, j < lo → (ra l j).2 < p) ∧ (∀ j, hi ≤ j → j < l.length → p ≤ (ra l j).2) ∧ Below w.heap.size w wr))
  case atStart => exact ⟨0, l.length, rfl, rfl, by omega, Nat.zero_le _, Nat.le_refl _, fun j h => by omega, fun j h1 h2 => by omega, Below.refl _ _⟩
  case round =>
    obtain ⟨lo, hi, rfl, rfl, rfl, HI⟩ := hrel
    by_cases hlt : (lo : Int) < (hi : Int)
    · have hmid : (lo + hi) / 2 < hi ∧ lo ≤ (lo + hi) / 2 := by omega
      obtain ⟨m, hm⟩ : ∃ m : Nat, (lo + hi) / 2 = m := ⟨_, rfl⟩
      have hmI : ((lo : Int) + (hi : Int)) / 2 = (m : Int) := by omega
      rw [hm] at hmid
      have hml : m < l.length := by have := HI.out.2.1; omega
      obtain ⟨b, off, rfl, q0, q1⟩ := HAT.out wr m HI.out.2.2.2.2 hml
      have j1 : (m : Int) < (l.length : Int) := by omega
      have j2 : (hi : Int) ≤ 1099511627776 := by have := HI.out.2.1; omega
      obtain ⟨c, hcv⟩ : ∃ c, cmpV (ra l m) p = c := ⟨_, rfl⟩
      have hm2 : (ra l m).1 ≤ (ra l m).2 := (HRG.out m hml).1.2.1
      obtain ⟨S, hS⟩ : ∃ S : Ending → World → Prop, S = fun e w' => e = .returned (.int .i64 c) ∧ Below wr.heap.size wr w' := ⟨_, rfl⟩
      have H1 := hid_intro (show Calls Tryz.prog 91 #[.agg #[.int .i64 (ra l m).1, .int .i64 (ra l m).2], .int .i64 p] wr S by rw [hS, ← hcv]; exact cmp_any (ra l m).1 (ra l m).2 p wr)
      have HSS := hid_intro hS
      have HM := hid_intro (And.intro hmid hml)
      have HM2 := hid_intro hm2
      have HLT := hid_intro hlt
      by_cases hb : (ra l m).2 < p
      · have hc0 : c < 0 := by rw [← hcv]; unfold cmpV; rw [if_pos hb]; decide
        have HB := hid_intro hb
        clear hcv hS hmid hml hm hm2 hb
        go_wp2_with (refine wpList_clo rfl _ _ _ _ rfl _ _ rfl ent_cmp _ _ rfl rfl S ?_ ?_ ?_; exact H1.out; rotate_left; (intro e w' h; rw [HSS.out] at h; exact ⟨_, h.1⟩); intro v2 w2 hs2; rw [HSS.out] at hs2; obtain ⟨hv2, hB2⟩ := hs2; injection hv2 with hv2; subst hv2; have HN := hid_intro (HI.out.2.2.2.2.trans (hB2.mono HI.out.2.2.2.2.size)); clear hB2 q0 q1 H1)
        go_roundg (hi - (m + 1))
        case measure => have := HM.out; have := HLT.out; omega
        case rel => exact ⟨m + 1, hi, by simp, rfl, rfl, by have := HM.out; omega, HI.out.2.1, fun j hj => (by
          by_cases e : j = m
          · subst e; exact HB.out
          · have := rg_lt HRG.out m j (by omega) HM.out.2
            have := HB.out
            have := HM2.out
            omega), HI.out.2.2.2.1, HN.out⟩
      · have hc0 : ¬ c < 0 := by rw [← hcv]; unfold cmpV; rw [if_neg hb]; split <;> decide
        have HB := hid_intro hb
        clear hcv hS hmid hml hm hm2 hb
        go_wp2_with (refine wpList_clo rfl _ _ _ _ rfl _ _ rfl ent_cmp _ _ rfl rfl S ?_ ?_ ?_; exact H1.out; rotate_left; (intro e w' h; rw [HSS.out] at h; exact ⟨_, h.1⟩); intro v2 w2 hs2; rw [HSS.out] at hs2; obtain ⟨hv2, hB2⟩ := hs2; injection hv2 with hv2; subst hv2; have HN := hid_intro (HI.out.2.2.2.2.trans (hB2.mono HI.out.2.2.2.2.size)); clear hB2 q0 q1 H1)
        go_roundg (m - lo)
        case measure => have := HM.out; have := HLT.out; omega
        case rel => exact ⟨lo, m, rfl, by simp, rfl, by have := HM.out; omega, Nat.le_of_lt HM.out.2, HI.out.2.2.1, fun j hj hjl => (by
          by_cases e : j = m
          · subst e; have := HB.out; omega
          · have := rg_lt HRG.out j m (by omega) hjl
            have := HB.out
            have := (HRG.out j hjl).1.2.1
            omega), HN.out⟩
    · obtain rfl : lo = hi := by have := HI.out.1; omega
      have hend := has_end HRG.out p lo HI.out.2.2.1 HI.out.2.2.2.1
      by_cases hll : (lo : Int) < (l.length : Int)
      · obtain ⟨b, off, rfl, q0, q1⟩ := HAT.out wr lo HI.out.2.2.2.2 (by omega)
        obtain ⟨c, hcv⟩ : ∃ c, cmpV (ra l lo) p = c := ⟨_, rfl⟩
        have hle := HI.out.2.2.2.1 lo (Nat.le_refl _) (by omega)
        have hc1 : hasB l p = decide (c = 0) := by
          rw [hend, ← hcv]
          unfold cmpV
          rw [if_neg (by omega)]
          by_cases h : (ra l lo).1 > p
          · rw [if_pos h, decide_eq_false (by omega), decide_eq_false (by decide)]
          · rw [if_neg h, decide_eq_true (by omega), decide_eq_true rfl]
        obtain ⟨S, hS⟩ : ∃ S : Ending → World → Prop, S = fun e w' => e = .returned (.int .i64 c) ∧ Below wr.heap.size wr w' := ⟨_, rfl⟩
        have H1 := hid_intro (show Calls Tryz.prog 91 #[.agg #[.int .i64 (ra l lo).1, .int .i64 (ra l lo).2], .int .i64 p] wr S by rw [hS, ← hcv]; exact cmp_any (ra l lo).1 (ra l lo).2 p wr)
        have HSS := hid_intro hS
        have HC1 := hid_intro hc1
        clear hcv hS hend hle hc1
        go_wp2_with (refine wpList_clog rfl _ _ _ _ rfl _ _ rfl ent_cmp _ _ rfl rfl S ?_ ?_ ?_; exact H1.out; rotate_left; (intro e w' h; rw [HSS.out] at h; exact ⟨_, h.1⟩); intro v2 w2 hs2; rw [HSS.out] at hs2; obtain ⟨hv2, hB2⟩ := hs2; injection hv2 with hv2; subst hv2; have HN := hid_intro (HI.out.2.2.2.2.trans (hB2.mono HI.out.2.2.2.2.size)); clear hB2 q0 q1 H1)
        rw [HP.out]
        refine ⟨lo, ?_, HN.out⟩
        rw [HC1.out]
        by_cases h : c = 0 <;> simp [h]
      · have HC1 : Hid (hasB l p = false) := hid_intro (by rw [hend]; exact decide_eq_false (by omega))
        clear hend
        go_wp2_with fail
        rw [HP.out]
        exact ⟨lo, by rw [HC1.out], HI.out.2.2.2.2⟩
end Go.Proofs.YtoinlmfodmgohaaGreatDoor

namespace Go.Proofs.YtoinlmfodmgohaaGreatDoor
open Go.RowKit
attribute [local go_sem] setCell_drewN alloc_drewN

set_option maxRecDepth 100000 in
set_option maxHeartbeats 1600000 in
theorem has_any (l : List (Int × Int)) (hl : l.length ≤ 1099511627776) (hrg : ∀ i, i < l.length → rgAt l i) (v : Value) (p : Int) (w : World) (X : Nat → Prop) (hR : RI w X l v) :
    Calls Tryz.prog 62 #[v, .int .i64 p] w fun e w' => e = .returned (.bool (hasB l p)) ∧ Below w.heap.size w w' := by
  have h1 := bin_any l hl hrg v p w X hR
  obtain ⟨P, hP⟩ : ∃ P : Ending → World → Prop, P = fun e w' => e = .returned (.bool (hasB l p)) ∧ Below w.heap.size w w' := ⟨_, rfl⟩
  rw [← hP]
  have HP := hid_intro hP
  clear hP hR hrg hl
  go_enter Tryz.func62, Tryz.ntmps62
  go_wp2_with fail
  refine h1.mono ?_; rintro e w1 ⟨i, rfl, hb⟩
  go_wp2_with fail
  rw [HP.out]
  exact ⟨rfl, hb⟩
def isD (L : List ST) (x : Int) : Bool := decide ((sx L x).k = 7)
theorem ent_done : ∀ args w, (callFunc 61 args).run Tryz.prog w = .ok (.enter 61 args) w := enters_of Tryz.func61 (by kernel_rfl) rfl
set_option maxRecDepth 100000 in
set_option maxHeartbeats 1600000 in
theorem done1_any (L : List ST) (s : Int) (hs : InL L s) (b : Nat) (lv : Value) (w : World) (X : Nat → Prop) (hk : Bk w b #[lv]) (hS : SI w X L lv) :
    Calls Tryz.prog 61 #[.int .i64 s, .pointer (some ⟨b, 0, none⟩)] w fun e w' => e = .returned (.bool (isD L s)) ∧ w' = w := by
  obtain ⟨n, rfl⟩ : ∃ n : Nat, s = (n : Int) := ⟨s.toNat, by have := hs.1; omega⟩
  obtain ⟨b', off, capl, rv, rfl, hc1, hc2, hxb, hblt, ⟨q0, q1, q2, q3⟩, hri⟩ := hS.cells hs
  rw [Int.toNat_natCast] at q0 q1 q2 q3
  have c0 := hk.q1
  have hnL : (n : Int) < (L.length : Int) := hs.2
  have HE : Hid (isD L (n : Int) = decide ((sx L (n : Int)).k = 7)) := hid_intro rfl
  obtain ⟨P, hP⟩ : ∃ P : Ending → World → Prop, P = fun e w' => e = .returned (.bool (isD L (n : Int))) ∧ w' = w := ⟨_, rfl⟩
  rw [← hP]
  have HP := hid_intro hP
  generalize (sx L (n : Int)).k = k at q0 HE
  clear hP hc1 hc2 hxb hblt hri hk hs q1 q2 q3
  go_enter Tryz.func61, Tryz.ntmps61
  go_wp2_with fail
  rw [HP.out, HE.out]
  refine ⟨?_, rfl⟩
  by_cases h : k = 7 <;> simp [h]
theorem II.at {w : World} {X : Nat → Prop} {l : List Int} {v : Value} (h : II w X l v) {i : Nat} (hi : i < l.length) : ∃ b off cap, v = .slice (some ⟨b, off, none⟩) l.length cap ∧ w.cell? ⟨b, off + i, none⟩ = some (.int .i64 (ia l i)) := by
  obtain ⟨ao, cap, rfl, _, _, _, h4⟩ := h
  rcases h4 with rfl | ⟨b, off, rfl, _, h7⟩
  · simp at hi
  · exact ⟨b, off, cap, rfl, h7 i hi⟩
def dnB (L : List ST) (H : List Int) : Bool := H.any (isD L)
theorem dn_no {L : List ST} {H : List Int} (h : ∀ j, j < H.length → isD L (ia H j) = false) : dnB L H = false := by
  unfold dnB
  rw [List.any_eq_false]
  intro x hx
  obtain ⟨j, hj, rfl⟩ := List.getElem_of_mem hx
  have := h j hj
  unfold ia at this
  rw [List.getD_eq_getElem?_getD, List.getElem?_eq_getElem hj] at this
  simpa using this
theorem dn_yes {L : List ST} {H : List Int} {j : Nat} (hj : j < H.length) (h : isD L (ia H j) = true) : dnB L H = true := by
  unfold dnB
  rw [List.any_eq_true]
  exact ⟨_, ia_mem hj, h⟩
set_option maxRecDepth 100000 in
set_option maxHeartbeats 3200000 in
theorem index_any (L : List ST) (H : List Int) (hH : H.length ≤ 1099511627776) (hin : ∀ x ∈ H, InL L x) (b : Nat) (lv hv : Value) (w : World) (X X' : Nat → Prop) (hk : Bk w b #[lv]) (hS : SI w X L lv) (hI : II w X' H hv) :
    Calls Tryz.prog 89 #[hv, .func (.func 61) #[] #[.pointer (some ⟨b, 0, none⟩)]] w fun e w' => (∃ r : Int, e = .returned (.int .i64 r) ∧ decide (r ≥ 0) = dnB L H) ∧ w' = w := by
  have hI0 := hI
  obtain ⟨ao, cap, rfl, hc, hcm, hok, hlie⟩ := hI
  have hlI : (H.length : Int) ≤ 1099511627776 := by omega
  obtain ⟨P, hP⟩ : ∃ P : Ending → World → Prop, P = fun e w' => (∃ r : Int, e = .returned (.int .i64 r) ∧ decide (r ≥ 0) = dnB L H) ∧ w' = w := ⟨_, rfl⟩
  rw [← hP]
  have HP := hid_intro hP
  have HAT : Hid (∀ i, i < H.length → ∃ b off, ao = some ⟨b, off, none⟩ ∧ w.cell? ⟨b, off + i, none⟩ = some (.int .i64 (ia H i))) := hid_intro (fun i hi => by
    obtain ⟨b, off, cap', e, h1⟩ := hI0.at hi
    injection e with e _ _
    exact ⟨b, off, e, h1⟩)
  have HD := hid_intro (fun s hs => done1_any L s hs b lv w X hk hS)
  have HIN := hid_intro hin
  clear hP hI0 hlie hok hcm hc hk hS hH hin
  go_enter Tryz.func89, Tryz.ntmps89
  go_wp2_with fail
  go_loopg [8] H.length (fun mm s8 wr => ∃ i : Nat, s8 = .int .i64 (i : Int) ∧ mm = H.length - i ∧ wr = w ∧ Hid (i ≤ H.length ∧ ∀ j, j < i → isD L (ia H j) = false))
  case atStart => exact ⟨0, rfl, by omega, rfl, Nat.zero_le _, fun j h => by omega⟩
  case round =>
    obtain ⟨i, rfl, rfl, rfl, HI⟩ := hrel
    by_cases hlt : (i : Int) < (H.length : Int)
    · have hi : i < H.length := by omega
      obtain ⟨b', off, rfl, q0⟩ := HAT.out i hi
      obtain ⟨S, hS⟩ : ∃ S : Ending → World → Prop, S = fun e w' => e = .returned (.bool (isD L (ia H i))) ∧ w' = wr := ⟨_, rfl⟩
      have H1 := hid_intro (show Calls Tryz.prog 61 #[.int .i64 (ia H i), .pointer (some ⟨b, 0, none⟩)] wr S by rw [hS]; exact HD.out _ (HIN.out _ (ia_mem hi)))
      have HSS := hid_intro hS
      have HLT := hid_intro hi
      clear hS hi
      cases hd : isD L (ia H i)
      · rw [hd] at HSS
        have HDD := hid_intro hd
        clear hd
        go_wp2_with (refine wpList_clo1 rfl _ _ _ rfl _ _ rfl ent_done _ rfl S ?_ ?_ ?_; exact H1.out; rotate_left; (intro e w' h; rw [HSS.out] at h; exact ⟨_, h.1⟩); intro v2 w2 hs2; rw [HSS.out] at hs2; obtain ⟨hv2, hw2⟩ := hs2; injection hv2 with hv2; subst hv2; subst hw2)
        go_roundg (H.length - (i + 1))
        case measure => have := HLT.out; omega
        case rel => exact ⟨i + 1, by simp, rfl, rfl, HLT.out, fun j hj => by
          by_cases e : j = i
          · subst e; exact HDD.out
          · exact HI.out.2 j (by omega)⟩
      · rw [hd] at HSS
        have HDD := hid_intro hd
        clear hd
        go_wp2_with (refine wpList_clo1 rfl _ _ _ rfl _ _ rfl ent_done _ rfl S ?_ ?_ ?_; exact H1.out; rotate_left; (intro e w' h; rw [HSS.out] at h; exact ⟨_, h.1⟩); intro v2 w2 hs2; rw [HSS.out] at hs2; obtain ⟨hv2, hw2⟩ := hs2; injection hv2 with hv2; subst hv2; subst hw2)
        rw [HP.out]
        exact ⟨⟨_, rfl, by rw [dn_yes HLT.out HDD.out]; simp⟩, rfl⟩
    · have HE : Hid (dnB L H = false) := hid_intro (dn_no (fun j hj => HI.out.2 j (by omega)))
      go_wp2_with fail
      rw [HP.out]
      exact ⟨⟨_, rfl, by rw [HE.out]; decide⟩, rfl⟩
set_option maxRecDepth 100000 in
set_option maxHeartbeats 1600000 in
theorem done_any (L : List ST) (H : List Int) (hH : H.length ≤ 1099511627776) (hin : ∀ x ∈ H, InL L x) (lv hv : Value) (w : World) (X X' : Nat → Prop) (hS : SI w X L lv) (hI : II w X' H hv) :
    Calls Tryz.prog 34 #[lv, hv] w fun e w' => e = .returned (.bool (dnB L H)) ∧ Below w.heap.size w w' := by
  obtain ⟨W, hW⟩ : ∃ W, w.alloc (.cells #[lv] 24) = W := ⟨_, rfl⟩
  have hbW : Below w.heap.size w W := hW ▸ vb_a (Below.refl _ _) _
  have kW : Bk W w.heap.size #[lv] := hW ▸ Bk.new _ _ _
  have hix := index_any L H hH hin w.heap.size lv hv W X X' kW (hS.kept hbW) (hI.kept hbW)
  have hcf : Calls Tryz.prog 60 #[hv, .func (.func 61) #[] #[.pointer (some ⟨w.heap.size, 0, none⟩)]] W fun e w' => e = .returned (.bool (dnB L H)) ∧ w' = W := by
    obtain ⟨P, hP⟩ : ∃ P : Ending → World → Prop, P = fun e w' => e = .returned (.bool (dnB L H)) ∧ w' = W := ⟨_, rfl⟩
    rw [← hP]
    have HP := hid_intro hP
    clear hP hS hI hin hH kW hbW hW
    go_enter Tryz.func60, Tryz.ntmps60
    go_wp2_with fail
    refine hix.mono ?_; rintro e w1 ⟨⟨r, rfl, hr⟩, rfl⟩
    have HR := hid_intro hr
    clear hr hix
    go_wp2_with fail
    rw [HP.out, ← HR.out]
    refine ⟨?_, rfl⟩
    by_cases h : r ≥ 0 <;> simp [h]
  obtain ⟨P, hP⟩ : ∃ P : Ending → World → Prop, P = fun e w' => e = .returned (.bool (dnB L H)) ∧ Below w.heap.size w w' := ⟨_, rfl⟩
  rw [← hP]
  have HP := hid_intro hP
  have HW := hid_intro hW
  have HB := hid_intro hbW
  obtain ⟨ao, n, c, rfl⟩ : ∃ ao n c, lv = .slice ao n c := by obtain ⟨ao, c, rfl, _⟩ := hS; exact ⟨_, _, _, rfl⟩
  clear hP hW hbW kW hix hS hI hin hH
  go_enter Tryz.func34, Tryz.ntmps34
  go_wp2_with fail
  rw [HW.out]
  refine hcf.mono ?_; rintro e w1 ⟨rfl, rfl⟩
  go_wp2_with fail
  rw [HP.out]
  exact ⟨rfl, HB.out⟩
end Go.Proofs.YtoinlmfodmgohaaGreatDoor
