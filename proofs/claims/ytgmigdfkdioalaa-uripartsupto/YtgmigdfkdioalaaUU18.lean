/-
  A path without dot segments has none, and stays: plain mathematics. No condition.
-/
import Derived.Test.YtgmigdfkdioalaaUU17
namespace Go.Proofs.Ytgmigdfkdioalaa
open Go.RowKit

/-- Is a segment none of dots? -/
def okSeg (w : List UInt8) : Bool := !(w == [46] || w == [46, 46])
/-- Are all segments none of dots? `cur`: what stands of the segment so far. -/
def chk (cur : List UInt8) : List UInt8 → Bool
  | [] => okSeg cur
  | c :: t => if c == 47 then okSeg cur && chk [] t else chk (cur ++ [c]) t
theorem chk_app {a : List UInt8} (h : ¬ (47 : UInt8) ∈ a) : ∀ (cur b : List UInt8), chk cur (a ++ b) = chk (cur ++ a) b := by
  induction a with
  | nil => intro cur b; simp
  | cons c a ih =>
    intro cur b
    have hc : (c == 47) = false := by rw [beq_eq_false_iff_ne]; intro e; exact h (by rw [e]; exact List.mem_cons_self ..)
    simp only [List.cons_append, chk, hc, Bool.false_eq_true, if_false]
    rw [ih (fun hm => h (List.mem_cons_of_mem _ hm))]
    simp
theorem chk_mid : ∀ (o cur t : List UInt8), chk cur (o ++ 47 :: t) = (chk cur o && chk [] t)
  | [], cur, t => by simp [chk]
  | c :: o, cur, t => by
    simp only [List.cons_append, chk]
    cases hc : (c == 47)
    · simp only [Bool.false_eq_true, if_false]; exact chk_mid o _ t
    · simp only [if_true]; rw [chk_mid o [] t, Bool.and_assoc]
theorem chk_plain {a : List UInt8} (h : ¬ (47 : UInt8) ∈ a) (cur : List UInt8) : chk cur a = okSeg (cur ++ a) := by
  have := chk_app h cur []
  rw [List.append_nil] at this
  rw [this, chk]
/-- A text that is not empty: its first byte, what stands up to the next sign, and the rest. -/
theorem parts_of {r : List UInt8} (h : r ≠ []) : ∃ (c : UInt8) (a b : List UInt8), r = c :: (a ++ b) ∧ ¬ (47 : UInt8) ∈ a ∧ (b = [] ∨ ∃ b', b = 47 :: b') ∧ r.take (1 + ix (r.drop 1) 47) = c :: a ∧ r.drop (1 + ix (r.drop 1) 47) = b := by
  cases r with
  | nil => exact absurd rfl h
  | cons c t =>
    refine ⟨c, t.take (ix t 47), t.drop (ix t 47), by rw [List.take_append_drop], ix_ahead t 47, ?_, ?_, ?_⟩
    · rcases Nat.lt_or_ge (ix t 47) t.length with h1 | h1
      · right
        have := ix_at t 47 h1
        rw [List.drop_eq_getElem_cons h1]
        rw [List.getElem?_eq_getElem h1] at this
        injection this with this
        rw [this]
        exact ⟨_, rfl⟩
      · left; exact List.drop_of_length_le h1
    · simp only [List.drop_succ_cons, List.drop_zero]; rw [Nat.add_comm]; rfl
    · simp only [List.drop_succ_cons, List.drop_zero]; rw [Nat.add_comm]; rfl
theorem hp_cons (x y : UInt8) (s p : List UInt8) : Lib.hasPrefix (x :: s) (y :: p) = (y == x && Lib.hasPrefix s p) := rfl
theorem hp_nil (s : List UInt8) : Lib.hasPrefix s [] = true := by cases s <;> rfl
theorem hp_end (y : UInt8) (p : List UInt8) : Lib.hasPrefix [] (y :: p) = false := rfl

theorem seg_one : ∀ {a p b q : List UInt8}, ¬ (47 : UInt8) ∈ a → ¬ (47 : UInt8) ∈ p → (b = [] ∨ ∃ b', b = 47 :: b') → (q = [] ∨ ∃ q', q = 47 :: q') → a ++ b = p ++ q → a = p
  | [], [], _, _, _, _, _, _, _ => rfl
  | [], y :: p, b, q, _, hp, hb, _, h => by
    exfalso
    rcases hb with rfl | ⟨b', rfl⟩
    · simp at h
    · simp only [List.nil_append, List.cons_append] at h
      injection h with h1
      exact hp (by rw [← h1]; exact List.mem_cons_self ..)
  | x :: a, [], b, q, ha, _, _, hq, h => by
    exfalso
    rcases hq with rfl | ⟨q', rfl⟩
    · simp at h
    · simp only [List.nil_append, List.cons_append] at h
      injection h with h1
      exact ha (by rw [h1]; exact List.mem_cons_self ..)
  | x :: a, y :: p, b, q, ha, hp, hb, hq, h => by
    simp only [List.cons_append] at h
    injection h with h1 h2
    rw [h1, seg_one (fun hm => ha (List.mem_cons_of_mem _ hm)) (fun hm => hp (List.mem_cons_of_mem _ hm)) hb hq h2]
theorem b_no {x : Bool} (h : x = true → False) : x = false := by cases x with
  | false => rfl
  | true => exact (h rfl).elim
/-- A step, by what the first segment is. -/
theorem step_ok {c : UInt8} {a b : List UInt8} (ha : ¬ (47 : UInt8) ∈ a) (hb : b = [] ∨ ∃ b', b = 47 :: b') (h : okSeg (if c = 47 then a else c :: a) = true)
    (h1 : (c :: (a ++ b)).take (1 + ix ((c :: (a ++ b)).drop 1) 47) = c :: a) (h2 : (c :: (a ++ b)).drop (1 + ix ((c :: (a ++ b)).drop 1) 47) = b) : stepL (c :: (a ++ b)) = (false, c :: a, b) := by
  have d1 : ∀ x : List UInt8, (x = [46] ∨ x = [46, 46]) → okSeg x = true → False := by rintro x (rfl | rfl) h <;> cases h
  have e47 : ∀ s, c = 47 → a = s → (s = [46] ∨ s = [46, 46]) → False := fun s hc hs hk => by
    rw [if_pos hc] at h; exact d1 _ (hs ▸ hk) h
  have e46 : ∀ s, c = 46 → a = s → (46 :: s = [46] ∨ 46 :: s = [46, 46]) → False := fun s hc hs hk => by
    subst hc
    rw [if_neg (by decide)] at h; exact d1 _ (hs ▸ hk) h
  have n46 : ¬ (47 : UInt8) ∈ [46] := by decide
  have n462 : ¬ (47 : UInt8) ∈ [46, 46] := by decide
  have n0 : ¬ (47 : UInt8) ∈ ([] : List UInt8) := by decide
  have t1 : ((c :: (a ++ b)) == [46]) = false := b_no fun e => by
    rw [beq_iff_eq] at e
    injection e with e1 e2
    exact e46 [] e1 (seg_one (p := []) (q := []) ha n0 hb (.inl rfl) (by rw [e2]; rfl)) (by decide)
  have t2 : ((c :: (a ++ b)) == [46, 46]) = false := b_no fun e => by
    rw [beq_iff_eq] at e
    injection e with e1 e2
    exact e46 [46] e1 (seg_one (p := [46]) (q := []) ha n46 hb (.inl rfl) (by rw [e2]; rfl)) (by decide)
  have t3 : Lib.hasPrefix (c :: (a ++ b)) [46, 47] = false := b_no fun e => by
    obtain ⟨t, e⟩ := List.isPrefixOf_iff_prefix.1 e
    have e := e.symm
    injection e with e1 e2
    exact e46 [] e1 (seg_one (p := []) (q := 47 :: t) ha n0 hb (.inr ⟨t, rfl⟩) (by rw [e2]; rfl)) (by decide)
  have t4 : Lib.hasPrefix (c :: (a ++ b)) [46, 46, 47] = false := b_no fun e => by
    obtain ⟨t, e⟩ := List.isPrefixOf_iff_prefix.1 e
    have e := e.symm
    injection e with e1 e2
    exact e46 [46] e1 (seg_one (p := [46]) (q := 47 :: t) ha n46 hb (.inr ⟨t, rfl⟩) (by rw [e2]; rfl)) (by decide)
  have t5 : ((c :: (a ++ b)) == [47, 46]) = false := b_no fun e => by
    rw [beq_iff_eq] at e
    injection e with e1 e2
    exact e47 [46] e1 (seg_one (p := [46]) (q := []) ha n46 hb (.inl rfl) (by rw [e2]; rfl)) (by decide)
  have t6 : Lib.hasPrefix (c :: (a ++ b)) [47, 46, 47] = false := b_no fun e => by
    obtain ⟨t, e⟩ := List.isPrefixOf_iff_prefix.1 e
    have e := e.symm
    injection e with e1 e2
    exact e47 [46] e1 (seg_one (p := [46]) (q := 47 :: t) ha n46 hb (.inr ⟨t, rfl⟩) (by rw [e2]; rfl)) (by decide)
  have t7 : ((c :: (a ++ b)) == [47, 46, 46]) = false := b_no fun e => by
    rw [beq_iff_eq] at e
    injection e with e1 e2
    exact e47 [46, 46] e1 (seg_one (p := [46, 46]) (q := []) ha n462 hb (.inl rfl) (by rw [e2]; rfl)) (by decide)
  have t8 : Lib.hasPrefix (c :: (a ++ b)) [47, 46, 46, 47] = false := b_no fun e => by
    obtain ⟨t, e⟩ := List.isPrefixOf_iff_prefix.1 e
    have e := e.symm
    injection e with e1 e2
    exact e47 [46, 46] e1 (seg_one (p := [46, 46]) (q := 47 :: t) ha n462 hb (.inr ⟨t, rfl⟩) (by rw [e2]; rfl)) (by decide)
  unfold stepL
  rw [h1, h2, t1, t2, t3, t4, t5, t6, t7, t8]
  rfl
theorem step_bad {c : UInt8} {a b : List UInt8} (hb : b = [] ∨ ∃ b', b = 47 :: b') (h : okSeg (if c = 47 then a else c :: a) = false) :
    (c ≠ 47 ∧ (stepL (c :: (a ++ b))).1 = false ∧ (stepL (c :: (a ++ b))).2.1 = [] ∧ (stepL (c :: (a ++ b))).2.2 = b.drop 1) ∨ (c = 47 ∧ (stepL (c :: (a ++ b))).2.1 = [] ∧ (stepL (c :: (a ++ b))).2.2 = if b = [] then [47] else b) := by
  simp only [okSeg, Bool.not_eq_false', Bool.or_eq_true, beq_iff_eq] at h
  by_cases hc : c = 47
  · subst hc
    simp only [if_true] at h
    right
    rcases h with rfl | rfl
    · rcases hb with rfl | ⟨b', rfl⟩
      · exact ⟨rfl, rfl, rfl⟩
      · refine ⟨rfl, ?_, ?_⟩ <;> simp [stepL, hp_cons, hp_nil]
    · rcases hb with rfl | ⟨b', rfl⟩
      · exact ⟨rfl, rfl, rfl⟩
      · refine ⟨rfl, ?_, ?_⟩ <;> simp [stepL, hp_cons, hp_nil]
  · rw [if_neg hc] at h
    left
    refine ⟨hc, ?_⟩
    rcases h with h | h
    · injection h with e1 e2
      subst e1 e2
      rcases hb with rfl | ⟨b', rfl⟩
      · exact ⟨rfl, rfl, rfl⟩
      · refine ⟨?_, ?_, ?_⟩ <;> simp [stepL, hp_cons, hp_nil]
    · injection h with e1 e2
      subst e1 e2
      rcases hb with rfl | ⟨b', rfl⟩
      · exact ⟨rfl, rfl, rfl⟩
      · refine ⟨?_, ?_, ?_⟩ <;> simp [stepL, hp_cons, hp_nil]
end Go.Proofs.Ytgmigdfkdioalaa
