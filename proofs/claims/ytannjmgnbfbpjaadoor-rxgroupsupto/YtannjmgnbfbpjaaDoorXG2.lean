/-
  What is read stays the same where a closing parenthesis follows, at whatever depth there is room for. No condition.
-/
import Derived.Test.YtannjmgnbfbpjaaDoorX1
namespace Go.Proofs.YtannjmgnbfbpjaaDoor

theorem sw_tail : ∀ (s l t : List Int), (∀ c ∈ s, c ≠ 41) → startsW s (l ++ 41 :: t) = startsW s l
  | [], _, _, _ => rfl
  | a :: s, [], t, h => by
    have : a ≠ 41 := h a (by simp)
    have e : (41 == a) = false := by simpa using fun e => this e.symm
    show ((41 == a) && startsW s t) = false
    rw [e]; rfl
  | a :: s, b :: l, t, h => by
    show ((b == a) && startsW s (l ++ 41 :: t)) = ((b == a) && startsW s l)
    rw [sw_tail s l t (fun c hc => h c (List.mem_cons_of_mem _ hc))]
theorem sw_true : ∀ (s l t : List Int), startsW s l = true → startsW s (l ++ t) = true
  | [], _, _, _ => rfl
  | _ :: _, [], _, h => by simp [startsW] at h
  | a :: s, b :: l, t, h => by
    simp only [startsW, Bool.and_eq_true] at h
    show ((b == a) && startsW s (l ++ t)) = true
    rw [h.1, sw_true s l t h.2]; rfl
theorem sw_drop {s l : List Int} (h : startsW s l = true) (n : Nat) (hn : s.length = n) (t : List Int) : (l ++ t).drop n = l.drop n ++ t := by
  have := startsW_len s l h
  exact List.drop_append_of_le_length (by omega)
/-- What is read of a row is read of it with more behind it. -/
def Tl {α : Type} (f : List Int → Option (α × List Int)) : Prop := ∀ l x r, f l = some (x, r) → r <:+ l ∧ ∀ t, f (l ++ 41 :: t) = some (x, r ++ 41 :: t)

theorem hexG_tl : ∀ (n : Nat) (acc : Int), Tl (hexG n acc)
  | 0, acc => fun l x r h => by
    simp only [hexG, Option.some.injEq, Prod.mk.injEq] at h
    obtain ⟨rfl, rfl⟩ := h
    exact ⟨List.suffix_refl _, fun t => rfl⟩
  | n + 1, acc => fun l x r h => by
    cases l with
    | nil => simp [hexG] at h
    | cons c l =>
      cases e : hexD c with
      | none => simp [hexG, e] at h
      | some d =>
        simp only [hexG, e] at h
        obtain ⟨s, k⟩ := hexG_tl n _ l x r h
        exact ⟨s.trans (List.suffix_cons _ _), fun t => by simp only [List.cons_append, hexG, e]; exact k t⟩
theorem bracedG_tl : ∀ (n : Nat) (p : Int) (l : List Int) (x : Int) (r : List Int), bracedG n p l = some (x, r) → r <:+ l ∧ ∀ t m, n ≤ m → bracedG m p (l ++ 41 :: t) = some (x, r ++ 41 :: t)
  | 0, p, l, x, r, h => by simp [bracedG] at h
  | n + 1, p, l, x, r, h => by
    simp only [bracedG] at h
    by_cases c : startsW [125] l = true
    · rw [if_pos c] at h
      by_cases hp : isPt p = true
      · rw [if_pos hp] at h
        simp only [Option.some.injEq, Prod.mk.injEq] at h
        obtain ⟨rfl, rfl⟩ := h
        refine ⟨List.drop_suffix _ _, fun t m hm => ?_⟩
        obtain ⟨m, rfl⟩ : ∃ k, m = k + 1 := ⟨m - 1, by omega⟩
        simp only [bracedG]
        rw [sw_tail _ _ _ (by decide), if_pos c, if_pos hp, sw_drop c 1 rfl]
      · rw [if_neg hp] at h; simp at h
    · rw [if_neg c] at h
      cases e : hexG 1 0 l with
      | none => rw [e] at h; simp at h
      | some y =>
        obtain ⟨d, l'⟩ := y
        simp only [e] at h
        by_cases hb : p * 16 + d > 1114111
        · rw [if_pos hb] at h; simp at h
        · rw [if_neg hb] at h
          obtain ⟨s1, k1⟩ := hexG_tl 1 0 l _ _ e
          obtain ⟨s, k⟩ := bracedG_tl n _ l' x r h
          refine ⟨s.trans s1, fun t m hm => ?_⟩
          obtain ⟨m, rfl⟩ : ∃ k, m = k + 1 := ⟨m - 1, by omega⟩
          simp only [bracedG]
          rw [sw_tail _ _ _ (by decide), if_neg c, k1 t]
          simp only
          rw [if_neg hb]
          exact k t m (by omega)
theorem bracedL_tl : Tl bracedL := fun l x r h => by
  unfold bracedL at h
  cases e : hexG 1 0 l with
  | none => rw [e] at h; simp at h
  | some y =>
    obtain ⟨p, l1⟩ := y
    simp only [e] at h
    obtain ⟨s1, k1⟩ := hexG_tl 1 0 l _ _ e
    obtain ⟨s, k⟩ := bracedG_tl _ _ l1 x r h
    refine ⟨s.trans s1, fun t => ?_⟩
    unfold bracedL
    rw [k1 t]
    exact k t _ (by simp)
theorem unicodeL_tl : Tl unicodeL := fun l x r h => by
  unfold unicodeL at h
  by_cases c : startsW [123] l = true
  · rw [if_pos c] at h
    obtain ⟨s, k⟩ := bracedL_tl _ _ _ h
    refine ⟨s.trans (List.drop_suffix _ _), fun t => ?_⟩
    unfold unicodeL
    rw [sw_tail _ _ _ (by decide), if_pos c, sw_drop c 1 rfl]
    exact k t
  · rw [if_neg c] at h
    cases e : hexG 4 0 l with
    | none => rw [e] at h; simp at h
    | some y =>
      obtain ⟨p, l1⟩ := y
      simp only [e] at h
      obtain ⟨s1, k1⟩ := hexG_tl 4 0 l _ _ e
      by_cases hp : isPt p = true
      · rw [if_pos hp] at h
        simp only [Option.some.injEq, Prod.mk.injEq] at h
        obtain ⟨rfl, rfl⟩ := h
        refine ⟨s1, fun t => ?_⟩
        unfold unicodeL
        rw [sw_tail _ _ _ (by decide), if_neg c, k1 t]
        simp only
        rw [if_pos hp]
      · rw [if_neg hp] at h
        by_cases c2 : startsW [92, 117] l1 = true
        · rw [if_pos c2] at h
          cases e2 : hexG 4 0 (l1.drop 2) with
          | none => rw [e2] at h; simp at h
          | some y =>
            obtain ⟨q, l2⟩ := y
            simp only [e2] at h
            obtain ⟨s2, k2⟩ := hexG_tl 4 0 _ _ _ e2
            cases e3 : pairO p q with
            | none => rw [e3] at h; simp at h
            | some z =>
              simp only [e3, Option.some.injEq, Prod.mk.injEq] at h
              obtain ⟨rfl, rfl⟩ := h
              refine ⟨(s2.trans (List.drop_suffix _ _)).trans s1, fun t => ?_⟩
              unfold unicodeL
              rw [sw_tail _ _ _ (by decide), if_neg c, k1 t]
              simp only
              rw [if_neg hp, sw_tail _ _ _ (by decide), if_pos c2, sw_drop c2 2 rfl, k2 t]
              simp only [e3]
        · rw [if_neg c2] at h; simp at h
theorem controlL_tl : Tl controlL := fun l x r h => by
  cases l with
  | nil => simp [controlL] at h
  | cons c l =>
    simp only [controlL] at h
    by_cases hc : isLet c = true
    · rw [if_pos hc] at h
      simp only [Option.some.injEq, Prod.mk.injEq] at h
      obtain ⟨rfl, rfl⟩ := h
      exact ⟨List.suffix_cons _ _, fun t => by simp only [List.cons_append, controlL]; rw [if_pos hc]⟩
    · rw [if_neg hc] at h; simp at h
theorem noughtL_tl : Tl noughtL := fun l x r h => by
  unfold noughtL at h
  by_cases hc : isDig (pk l 0) = true
  · rw [if_pos hc] at h; simp at h
  · rw [if_neg hc] at h
    simp only [Option.some.injEq, Prod.mk.injEq] at h
    obtain ⟨rfl, rfl⟩ := h
    refine ⟨List.suffix_refl _, fun t => ?_⟩
    unfold noughtL
    have : ¬ isDig (pk (l ++ 41 :: t) 0) = true := by
      cases l with
      | nil => show ¬ isDig 41 = true; decide
      | cons c l => exact hc
    rw [if_neg this]
theorem some_tl {α : Type} (a : α) : Tl fun l => some (a, l) := fun l x r h => by
  simp only [Option.some.injEq, Prod.mk.injEq] at h
  obtain ⟨rfl, rfl⟩ := h
  exact ⟨List.suffix_refl _, fun t => rfl⟩
theorem none_tl {α : Type} : Tl (fun _ => (none : Option (α × List Int))) := fun l x r h => by simp at h
theorem ite_tl {α : Type} {p : Prop} [Decidable p] {f g : List Int → Option (α × List Int)} (hf : Tl f) (hg : Tl g) : Tl fun l => if p then f l else g l := by
  by_cases h : p
  · simp only [if_pos h]; exact hf
  · simp only [if_neg h]; exact hg
theorem escapedL_tl (c : Int) : Tl (escapedL c) := by
  unfold escapedL
  repeat' (first | refine ite_tl ?_ ?_ | exact some_tl _ | exact noughtL_tl | exact controlL_tl | exact hexG_tl _ _ | exact unicodeL_tl | exact none_tl)
theorem escapeL_tl : Tl escapeL := fun l x r h => by
  cases l with
  | nil => simp [escapeL] at h
  | cons c l =>
    cases e : namedBy c with
    | some s =>
      simp only [escapeL, e, Option.some.injEq, Prod.mk.injEq] at h
      obtain ⟨rfl, rfl⟩ := h
      exact ⟨List.suffix_cons _ _, fun t => by simp only [List.cons_append, escapeL, e]⟩
    | none =>
      cases e2 : escapedL c l with
      | none => simp [escapeL, e, e2] at h
      | some y =>
        obtain ⟨p, l'⟩ := y
        simp only [escapeL, e, e2, Option.some.injEq, Prod.mk.injEq] at h
        obtain ⟨rfl, rfl⟩ := h
        obtain ⟨s, k⟩ := escapedL_tl c l _ _ e2
        exact ⟨s.trans (List.suffix_cons _ _), fun t => by simp only [List.cons_append, escapeL, e, k t]⟩
theorem markL_tl : Tl markL := fun l x r h => by
  unfold markL at h
  by_cases c1 : startsW [92, 98] l = true
  · rw [if_pos c1] at h
    simp only [Option.some.injEq, Prod.mk.injEq] at h
    obtain ⟨rfl, rfl⟩ := h
    exact ⟨List.drop_suffix _ _, fun t => by unfold markL; rw [sw_tail _ _ _ (by decide), if_pos c1, sw_drop c1 2 rfl]⟩
  rw [if_neg c1] at h
  by_cases c2 : startsW [92, 45] l = true
  · rw [if_pos c2] at h
    simp only [Option.some.injEq, Prod.mk.injEq] at h
    obtain ⟨rfl, rfl⟩ := h
    exact ⟨List.drop_suffix _ _, fun t => by unfold markL; rw [sw_tail _ _ _ (by decide), if_neg c1, sw_tail _ _ _ (by decide), if_pos c2, sw_drop c2 2 rfl]⟩
  rw [if_neg c2] at h
  by_cases c3 : startsW [92] l = true
  · rw [if_pos c3] at h
    obtain ⟨s, k⟩ := escapeL_tl _ _ _ h
    exact ⟨s.trans (List.drop_suffix _ _), fun t => by unfold markL; rw [sw_tail _ _ _ (by decide), if_neg c1, sw_tail _ _ _ (by decide), if_neg c2, sw_tail _ _ _ (by decide), if_pos c3, sw_drop c3 1 rfl]; exact k t⟩
  rw [if_neg c3] at h
  cases l with
  | nil => simp at h
  | cons c l =>
    simp only [Option.some.injEq, Prod.mk.injEq] at h
    obtain ⟨rfl, rfl⟩ := h
    exact ⟨List.suffix_cons _ _, fun t => by unfold markL; rw [sw_tail _ _ _ (by decide), if_neg c1, sw_tail _ _ _ (by decide), if_neg c2, sw_tail _ _ _ (by decide), if_neg c3]; rfl⟩
theorem item_cond (l t : List Int) : (pk l 0 ≠ 45 ∨ pk l 1 = 93) ↔ (pk (l ++ 41 :: t) 0 ≠ 45 ∨ pk (l ++ 41 :: t) 1 = 93) := by
  match l with
  | [] => exact ⟨fun _ => Or.inl (by show (41 : Int) ≠ 45; decide), fun _ => Or.inl (by decide)⟩
  | [c] =>
    show (c ≠ 45 ∨ (-1 : Int) = 93) ↔ (c ≠ 45 ∨ (41 : Int) = 93)
    constructor <;> (rintro (h | h); exact Or.inl h; exact absurd h (by decide))
  | c :: d :: r => exact Iff.rfl
theorem itemL_tl : Tl itemL := fun l x r h => by
  unfold itemL at h
  cases e : markL l with
  | none => rw [e] at h; simp at h
  | some y =>
    obtain ⟨m, l1⟩ := y
    simp only [e] at h
    obtain ⟨s1, k1⟩ := markL_tl _ _ _ e
    by_cases c : pk l1 0 ≠ 45 ∨ pk l1 1 = 93
    · rw [if_pos c] at h
      simp only [Option.some.injEq, Prod.mk.injEq] at h
      obtain ⟨rfl, rfl⟩ := h
      refine ⟨s1, fun t => ?_⟩
      unfold itemL
      rw [k1 t]
      simp only
      rw [if_pos ((item_cond l1 t).1 c)]
    · rw [if_neg c] at h
      have c' := c
      cases e2 : markL (l1.drop 1) with
      | none => rw [e2] at h; simp at h
      | some y =>
        obtain ⟨m2, l2⟩ := y
        simp only [e2] at h
        obtain ⟨s2, k2⟩ := markL_tl _ _ _ e2
        cases e3 : between m m2 with
        | none => rw [e3] at h; simp at h
        | some z =>
          simp only [e3, Option.some.injEq, Prod.mk.injEq] at h
          obtain ⟨rfl, rfl⟩ := h
          refine ⟨(s2.trans (List.drop_suffix _ _)).trans s1, fun t => ?_⟩
          unfold itemL
          rw [k1 t]
          simp only
          rw [if_neg (fun q => c ((item_cond l1 t).2 q))]
          have hd : (l1 ++ 41 :: t).drop 1 = l1.drop 1 ++ 41 :: t := by
            cases l1 with
            | nil => exact absurd (Or.inl (by decide)) c'
            | cons a l1 => rfl
          rw [hd, k2 t]
          simp only [e3]
theorem itemsG_tl : ∀ (n : Nat) (acc : List (Int × Int)) (l : List Int) (x : List (Int × Int)) (r : List Int), itemsG n acc l = some (x, r) → r <:+ l ∧ ∀ t m, n ≤ m → itemsG m acc (l ++ 41 :: t) = some (x, r ++ 41 :: t)
  | 0, acc, l, x, r, h => by simp [itemsG] at h
  | n + 1, acc, l, x, r, h => by
    simp only [itemsG] at h
    by_cases c : startsW [93] l = true
    · rw [if_pos c] at h
      simp only [Option.some.injEq, Prod.mk.injEq] at h
      obtain ⟨rfl, rfl⟩ := h
      refine ⟨List.drop_suffix _ _, fun t m hm => ?_⟩
      obtain ⟨m, rfl⟩ : ∃ k, m = k + 1 := ⟨m - 1, by omega⟩
      simp only [itemsG]
      rw [sw_tail _ _ _ (by decide), if_pos c, sw_drop c 1 rfl]
    · rw [if_neg c] at h
      cases e : itemL l with
      | none => rw [e] at h; simp at h
      | some y =>
        obtain ⟨d, l'⟩ := y
        simp only [e] at h
        obtain ⟨s1, k1⟩ := itemL_tl l _ _ e
        obtain ⟨s, k⟩ := itemsG_tl n _ l' x r h
        refine ⟨s.trans s1, fun t m hm => ?_⟩
        obtain ⟨m, rfl⟩ : ∃ k, m = k + 1 := ⟨m - 1, by omega⟩
        simp only [itemsG]
        rw [sw_tail _ _ _ (by decide), if_neg c, k1 t]
        exact k t m (by omega)
theorem classL_tl : Tl classL := fun l x r h => by
  unfold classL at h
  by_cases c : startsW [94] l = true
  · simp only [if_pos c] at h
    cases e : itemsG (l.length + 1) [] (l.drop 1) with
    | none => rw [e] at h; simp at h
    | some y =>
      obtain ⟨d, l'⟩ := y
      simp only [e, Option.some.injEq, Prod.mk.injEq] at h
      obtain ⟨rfl, rfl⟩ := h
      obtain ⟨s, k⟩ := itemsG_tl _ _ _ _ _ e
      refine ⟨s.trans (List.drop_suffix _ _), fun t => ?_⟩
      unfold classL
      simp only [sw_tail [94] l t (by decide), if_pos c]
      rw [sw_drop c 1 rfl, k t _ (by simp)]
  · simp only [if_neg c] at h
    cases e : itemsG (l.length + 1) [] l with
    | none => rw [e] at h; simp at h
    | some y =>
      obtain ⟨d, l'⟩ := y
      simp only [e, Option.some.injEq, Prod.mk.injEq] at h
      obtain ⟨rfl, rfl⟩ := h
      obtain ⟨s, k⟩ := itemsG_tl _ _ _ _ _ e
      refine ⟨s, fun t => ?_⟩
      unfold classL
      simp only [sw_tail [94] l t (by decide), if_neg c]
      rw [k t _ (by simp)]
theorem countG_tl : ∀ (l : List Int) (n : Int) (x : Int) (r : List Int), countG n l = some (x, r) → r <:+ l ∧ ∀ t, countG n (l ++ 41 :: t) = some (x, r ++ 41 :: t)
  | [], n, x, r, h => by
    simp only [countG, Option.some.injEq, Prod.mk.injEq] at h
    obtain ⟨rfl, rfl⟩ := h
    refine ⟨List.suffix_refl _, fun t => ?_⟩
    simp only [List.nil_append, countG]
    rw [if_neg (by decide)]
  | c :: l, n, x, r, h => by
    simp only [countG] at h
    by_cases hd : isDig c = true
    · rw [if_pos hd] at h
      by_cases hb : n * 10 + (c - 48) > 1000
      · rw [if_pos hb] at h; simp at h
      · rw [if_neg hb] at h
        obtain ⟨s, k⟩ := countG_tl l _ x r h
        refine ⟨s.trans (List.suffix_cons _ _), fun t => ?_⟩
        simp only [List.cons_append, countG]
        rw [if_pos hd, if_neg hb]
        exact k t
    · rw [if_neg hd] at h
      simp only [Option.some.injEq, Prod.mk.injEq] at h
      obtain ⟨rfl, rfl⟩ := h
      refine ⟨List.suffix_refl _, fun t => ?_⟩
      simp only [List.cons_append, countG]
      rw [if_neg hd]
theorem countL_tl : Tl countL := fun l x r h => by
  cases l with
  | nil => simp [countL] at h
  | cons c l =>
    simp only [countL] at h
    by_cases hd : isDig c = true
    · rw [if_pos hd] at h
      obtain ⟨s, k⟩ := countG_tl l _ x r h
      refine ⟨s.trans (List.suffix_cons _ _), fun t => ?_⟩
      simp only [List.cons_append, countL]
      rw [if_pos hd]
      exact k t
    · rw [if_neg hd] at h; simp at h
theorem countsL_tl : Tl countsL := fun l x r h => by
  unfold countsL at h
  cases e : countL l with
  | none => rw [e] at h; simp at h
  | some y =>
    obtain ⟨a, l1⟩ := y
    simp only [e] at h
    obtain ⟨s1, k1⟩ := countL_tl _ _ _ e
    by_cases c1 : startsW [125] l1 = true
    · rw [if_pos c1] at h
      simp only [Option.some.injEq, Prod.mk.injEq] at h
      obtain ⟨rfl, rfl⟩ := h
      refine ⟨(List.drop_suffix _ _).trans s1, fun t => ?_⟩
      unfold countsL
      rw [k1 t]
      simp only
      rw [sw_tail _ _ _ (by decide), if_pos c1, sw_drop c1 1 rfl]
    rw [if_neg c1] at h
    by_cases c2 : startsW [44, 125] l1 = true
    · rw [if_pos c2] at h
      simp only [Option.some.injEq, Prod.mk.injEq] at h
      obtain ⟨rfl, rfl⟩ := h
      refine ⟨(List.drop_suffix _ _).trans s1, fun t => ?_⟩
      unfold countsL
      rw [k1 t]
      simp only
      rw [sw_tail _ _ _ (by decide), if_neg c1, sw_tail _ _ _ (by decide), if_pos c2, sw_drop c2 2 rfl]
    rw [if_neg c2] at h
    by_cases c3 : startsW [44] l1 = true
    · rw [if_pos c3] at h
      cases e2 : countL (l1.drop 1) with
      | none => rw [e2] at h; simp at h
      | some y =>
        obtain ⟨b, l2⟩ := y
        simp only [e2] at h
        obtain ⟨s2, k2⟩ := countL_tl _ _ _ e2
        by_cases c4 : startsW [125] l2 = true
        · rw [if_pos c4] at h
          by_cases hb : b < a
          · rw [if_pos hb] at h; simp at h
          · rw [if_neg hb] at h
            simp only [Option.some.injEq, Prod.mk.injEq] at h
            obtain ⟨rfl, rfl⟩ := h
            refine ⟨(List.drop_suffix _ _).trans (s2.trans ((List.drop_suffix _ _).trans s1)), fun t => ?_⟩
            unfold countsL
            rw [k1 t]
            simp only
            rw [sw_tail _ _ _ (by decide), if_neg c1, sw_tail _ _ _ (by decide), if_neg c2, sw_tail _ _ _ (by decide), if_pos c3, sw_drop c3 1 rfl, k2 t]
            simp only
            rw [sw_tail _ _ _ (by decide), if_pos c4, if_neg hb, sw_drop c4 1 rfl]
        · rw [if_neg c4] at h; simp at h
    · rw [if_neg c3] at h; simp at h
theorem lazyX_tl (x : RX) (a b : Int) (l : List Int) : (lazyX x a b l).2 <:+ l ∧ ∀ t, lazyX x a b (l ++ 41 :: t) = ((lazyX x a b l).1, (lazyX x a b l).2 ++ 41 :: t) := by
  by_cases c : startsW [63] l = true
  · refine ⟨by simp only [lazyX, if_pos c]; exact List.drop_suffix _ _, fun t => ?_⟩
    simp only [lazyX, sw_tail [63] l t (by decide), if_pos c]
    rw [sw_drop c 1 rfl]
  · refine ⟨by simp only [lazyX, if_neg c]; exact List.suffix_refl _, fun t => ?_⟩
    simp only [lazyX, sw_tail [63] l t (by decide), if_neg c]
theorem some_eq {α β : Type} {p : α × β} {x : α} {r : β} (h : some p = some (x, r)) : p.1 = x ∧ p.2 = r := by
  have := Option.some.inj h
  subst this
  exact ⟨rfl, rfl⟩
theorem countedL_tl (x : RX) : Tl (countedL x) := fun l y r h => by
  unfold countedL at h
  by_cases c1 : startsW [42] l = true
  · rw [if_pos c1] at h
    obtain ⟨rfl, rfl⟩ := some_eq h
    obtain ⟨s, k⟩ := lazyX_tl x 0 (-1) (l.drop 1)
    refine ⟨s.trans (List.drop_suffix _ _), fun t => ?_⟩
    unfold countedL
    rw [sw_tail _ _ _ (by decide), if_pos c1, sw_drop c1 1 rfl, k t]
  rw [if_neg c1] at h
  by_cases c2 : startsW [43] l = true
  · rw [if_pos c2] at h
    obtain ⟨rfl, rfl⟩ := some_eq h
    obtain ⟨s, k⟩ := lazyX_tl x 1 (-1) (l.drop 1)
    refine ⟨s.trans (List.drop_suffix _ _), fun t => ?_⟩
    unfold countedL
    rw [sw_tail _ _ _ (by decide), if_neg c1, sw_tail _ _ _ (by decide), if_pos c2, sw_drop c2 1 rfl, k t]
  rw [if_neg c2] at h
  by_cases c3 : startsW [63] l = true
  · rw [if_pos c3] at h
    obtain ⟨rfl, rfl⟩ := some_eq h
    obtain ⟨s, k⟩ := lazyX_tl x 0 1 (l.drop 1)
    refine ⟨s.trans (List.drop_suffix _ _), fun t => ?_⟩
    unfold countedL
    rw [sw_tail _ _ _ (by decide), if_neg c1, sw_tail _ _ _ (by decide), if_neg c2, sw_tail _ _ _ (by decide), if_pos c3, sw_drop c3 1 rfl, k t]
  rw [if_neg c3] at h
  by_cases c4 : startsW [123] l = true
  · rw [if_pos c4] at h
    cases e : countsL (l.drop 1) with
    | none => rw [e] at h; simp at h
    | some z =>
      obtain ⟨ab, l1⟩ := z
      simp only [e] at h
      obtain ⟨rfl, rfl⟩ := some_eq h
      obtain ⟨s1, k1⟩ := countsL_tl _ _ _ e
      obtain ⟨s, k⟩ := lazyX_tl x ab.1 ab.2 l1
      refine ⟨s.trans (s1.trans (List.drop_suffix _ _)), fun t => ?_⟩
      unfold countedL
      rw [sw_tail _ _ _ (by decide), if_neg c1, sw_tail _ _ _ (by decide), if_neg c2, sw_tail _ _ _ (by decide), if_neg c3, sw_tail _ _ _ (by decide), if_pos c4, sw_drop c4 1 rfl, k1 t]
      simp only
      rw [k t]
  · rw [if_neg c4] at h
    obtain ⟨rfl, rfl⟩ := some_eq h
    refine ⟨List.suffix_refl _, fun t => ?_⟩
    unfold countedL
    rw [sw_tail _ _ _ (by decide), if_neg c1, sw_tail _ _ _ (by decide), if_neg c2, sw_tail _ _ _ (by decide), if_neg c3, sw_tail _ _ _ (by decide), if_neg c4]

/-- The same of what stands in groups, where there are fewer than d. -/
def PT (d : Nat) (pat pat' : List Int → Option (RX × List Int)) : Prop := ∀ l x r, l.count 40 + 1 ≤ d → pat l = some (x, r) → r <:+ l ∧ ∀ t, pat' (l ++ 41 :: t) = some (x, r ++ 41 :: t)
theorem cnt_le {l r : List Int} (h : r <:+ l) : r.count 40 ≤ l.count 40 := h.sublist.count_le 40
theorem groupP_tl {d : Nat} {pat pat' : List Int → Option (RX × List Int)} (H : PT d pat pat') (l : List Int) (x : RX) (r : List Int) (hd : l.count 40 + 1 ≤ d) (h : groupP pat l = some (x, r)) : r <:+ l ∧ ∀ t, groupP pat' (l ++ 41 :: t) = some (x, r ++ 41 :: t) := by
  unfold groupP at h
  have key : ∀ l0 : List Int, l0 <:+ l → (match pat l0 with | none => none | some (x, l1) => if startsW [41] l1 = true then some (x, l1.drop 1) else none) = some (x, r) → r <:+ l0 ∧ ∀ t, (match pat' (l0 ++ 41 :: t) with | none => none | some (x, l1) => if startsW [41] l1 = true then some (x, l1.drop 1) else none) = some (x, r ++ 41 :: t) := by
    intro l0 hs h
    cases e : pat l0 with
    | none => rw [e] at h; simp at h
    | some y =>
      obtain ⟨z, l1⟩ := y
      simp only [e] at h
      obtain ⟨s1, k1⟩ := H l0 _ _ (by have := cnt_le hs; omega) e
      by_cases c : startsW [41] l1 = true
      · rw [if_pos c] at h
        obtain ⟨rfl, rfl⟩ := some_eq h
        refine ⟨(List.drop_suffix _ _).trans s1, fun t => ?_⟩
        rw [k1 t]
        simp only
        rw [if_pos (sw_true _ _ _ c), sw_drop c 1 rfl]
      · rw [if_neg c] at h; simp at h
  by_cases c : startsW [63, 58] l = true
  · rw [if_pos c] at h
    obtain ⟨s, k⟩ := key _ (List.drop_suffix _ _) h
    refine ⟨s.trans (List.drop_suffix _ _), fun t => ?_⟩
    unfold groupP
    rw [sw_tail _ _ _ (by decide), if_pos c, sw_drop c 2 rfl]
    exact k t
  · rw [if_neg c] at h
    obtain ⟨s, k⟩ := key _ (List.suffix_refl _) h
    refine ⟨s, fun t => ?_⟩
    unfold groupP
    rw [sw_tail _ _ _ (by decide), if_neg c]
    exact k t
theorem atomP_tl {d : Nat} {pat pat' : List Int → Option (RX × List Int)} (H : PT d pat pat') (l : List Int) (x : RX) (r : List Int) (hd : l.count 40 ≤ d) (h : atomP pat l = some (x, r)) : r <:+ l ∧ ∀ t, atomP pat' (l ++ 41 :: t) = some (x, r ++ 41 :: t) := by
  cases l with
  | nil => simp [atomP] at h
  | cons c l =>
    simp only [atomP] at h
    by_cases c1 : c = 40
    · rw [if_pos c1] at h
      subst c1
      obtain ⟨s, k⟩ := groupP_tl H l x r (by simpa using hd) h
      exact ⟨s.trans (List.suffix_cons _ _), fun t => by simp only [List.cons_append, atomP]; rw [if_pos trivial]; exact k t⟩
    rw [if_neg c1] at h
    by_cases c2 : c = 91
    · rw [if_pos c2] at h
      obtain ⟨s, k⟩ := classL_tl _ _ _ h
      exact ⟨s.trans (List.suffix_cons _ _), fun t => by simp only [List.cons_append, atomP]; rw [if_neg c1, if_pos c2]; exact k t⟩
    rw [if_neg c2] at h
    by_cases c3 : c = 46
    · rw [if_pos c3] at h
      obtain ⟨rfl, rfl⟩ := some_eq h
      exact ⟨List.suffix_cons _ _, fun t => by simp only [List.cons_append, atomP]; rw [if_neg c1, if_neg c2, if_pos c3]⟩
    rw [if_neg c3] at h
    by_cases c4 : c = 92
    · rw [if_pos c4] at h
      cases e : escapeL l with
      | none => rw [e] at h; simp at h
      | some y =>
        obtain ⟨m, l1⟩ := y
        simp only [e] at h
        obtain ⟨rfl, rfl⟩ := some_eq h
        obtain ⟨s, k⟩ := escapeL_tl _ _ _ e
        exact ⟨s.trans (List.suffix_cons _ _), fun t => by simp only [List.cons_append, atomP]; rw [if_neg c1, if_neg c2, if_neg c3, if_pos c4, k t]⟩
    rw [if_neg c4] at h
    by_cases c5 : synB c = true
    · rw [if_pos c5] at h; simp at h
    · rw [if_neg c5] at h
      obtain ⟨rfl, rfl⟩ := some_eq h
      exact ⟨List.suffix_cons _ _, fun t => by simp only [List.cons_append, atomP]; rw [if_neg c1, if_neg c2, if_neg c3, if_neg c4, if_neg c5]⟩
theorem termP_tl {d : Nat} {pat pat' : List Int → Option (RX × List Int)} (H : PT d pat pat') (l : List Int) (x : RX) (r : List Int) (hd : l.count 40 ≤ d) (h : termP pat l = some (x, r)) : r <:+ l ∧ ∀ t, termP pat' (l ++ 41 :: t) = some (x, r ++ 41 :: t) := by
  unfold termP at h
  by_cases c1 : startsW [94] l = true
  · rw [if_pos c1] at h
    obtain ⟨rfl, rfl⟩ := some_eq h
    refine ⟨List.drop_suffix _ _, fun t => ?_⟩
    unfold termP
    rw [sw_tail _ _ _ (by decide), if_pos c1, sw_drop c1 1 rfl]
  rw [if_neg c1] at h
  by_cases c2 : startsW [36] l = true
  · rw [if_pos c2] at h
    obtain ⟨rfl, rfl⟩ := some_eq h
    refine ⟨List.drop_suffix _ _, fun t => ?_⟩
    unfold termP
    rw [sw_tail _ _ _ (by decide), if_neg c1, sw_tail _ _ _ (by decide), if_pos c2, sw_drop c2 1 rfl]
  rw [if_neg c2] at h
  by_cases c3 : startsW [92, 98] l = true
  · rw [if_pos c3] at h
    obtain ⟨rfl, rfl⟩ := some_eq h
    refine ⟨List.drop_suffix _ _, fun t => ?_⟩
    unfold termP
    rw [sw_tail _ _ _ (by decide), if_neg c1, sw_tail _ _ _ (by decide), if_neg c2, sw_tail _ _ _ (by decide), if_pos c3, sw_drop c3 2 rfl]
  rw [if_neg c3] at h
  by_cases c4 : startsW [92, 66] l = true
  · rw [if_pos c4] at h
    obtain ⟨rfl, rfl⟩ := some_eq h
    refine ⟨List.drop_suffix _ _, fun t => ?_⟩
    unfold termP
    rw [sw_tail _ _ _ (by decide), if_neg c1, sw_tail _ _ _ (by decide), if_neg c2, sw_tail _ _ _ (by decide), if_neg c3, sw_tail _ _ _ (by decide), if_pos c4, sw_drop c4 2 rfl]
  rw [if_neg c4] at h
  cases e : atomP pat l with
  | none => rw [e] at h; simp at h
  | some y =>
    obtain ⟨z, l1⟩ := y
    simp only [e] at h
    obtain ⟨s1, k1⟩ := atomP_tl H l _ _ hd e
    obtain ⟨s, k⟩ := countedL_tl z _ _ _ h
    refine ⟨s.trans s1, fun t => ?_⟩
    unfold termP
    rw [sw_tail _ _ _ (by decide), if_neg c1, sw_tail _ _ _ (by decide), if_neg c2, sw_tail _ _ _ (by decide), if_neg c3, sw_tail _ _ _ (by decide), if_neg c4, k1 t]
    exact k t
theorem rowG_tl {d : Nat} {pat pat' : List Int → Option (RX × List Int)} (H : PT d pat pat') (hS : Shr pat) : ∀ (n m : Nat) (acc : List RX) (l t : List Int) (xs : List RX) (r : List Int), l.length ≤ n → l.length + 1 ≤ m → l.count 40 ≤ d → rowG (termP pat) n acc l = some (xs, r) → r <:+ l ∧ rowG (termP pat') m acc (l ++ 41 :: t) = some (xs, r ++ 41 :: t) := by
  intro n
  induction n with
  | zero =>
    intro m acc l t xs r hn hm hd h
    obtain rfl : l = [] := List.eq_nil_of_length_eq_zero (by omega)
    obtain ⟨rfl, rfl⟩ := some_eq h
    obtain ⟨m, rfl⟩ : ∃ k, m = k + 1 := ⟨m - 1, by omega⟩
    exact ⟨List.suffix_refl _, by simp only [List.nil_append, rowG]; rw [if_pos (Or.inr trivial)]⟩
  | succ n ih =>
    intro m acc l t xs r hn hm hd h
    obtain ⟨m, rfl⟩ : ∃ k, m = k + 1 := ⟨m - 1, by omega⟩
    cases l with
    | nil =>
      simp only [rowG] at h
      obtain ⟨rfl, rfl⟩ := some_eq h
      exact ⟨List.suffix_refl _, by simp only [List.nil_append, rowG]; rw [if_pos (Or.inr trivial)]⟩
    | cons c l =>
      simp only [rowG] at h
      by_cases c1 : c = 124 ∨ c = 41
      · rw [if_pos c1] at h
        obtain ⟨rfl, rfl⟩ := some_eq h
        exact ⟨List.suffix_refl _, by simp only [List.cons_append, rowG]; rw [if_pos c1]⟩
      · rw [if_neg c1] at h
        cases e : termP pat (c :: l) with
        | none => rw [e] at h; simp at h
        | some y =>
          obtain ⟨z, l1⟩ := y
          simp only [e] at h
          have hlen := termP_len hS _ _ e
          obtain ⟨s1, k1⟩ := termP_tl H _ _ _ hd e
          simp only at hlen
          have hc := cnt_le s1
          obtain ⟨s, k⟩ := ih m (acc ++ [z]) l1 t xs r (by omega) (by omega) (by omega) h
          refine ⟨s.trans s1, ?_⟩
          have k1t := k1 t
          rw [List.cons_append] at k1t
          simp only [List.cons_append, rowG]
          rw [if_neg c1, k1t]
          exact k
theorem rowP_tl {d : Nat} {pat pat' : List Int → Option (RX × List Int)} (H : PT d pat pat') (hS : Shr pat) (l : List Int) (x : RX) (r : List Int) (hd : l.count 40 ≤ d) (h : rowP pat l = some (x, r)) : r <:+ l ∧ ∀ t, rowP pat' (l ++ 41 :: t) = some (x, r ++ 41 :: t) := by
  unfold rowP at h
  cases e : rowG (termP pat) l.length [] l with
  | none => rw [e] at h; simp at h
  | some y =>
    obtain ⟨xs, l1⟩ := y
    simp only [e] at h
    obtain ⟨rfl, rfl⟩ := some_eq h
    refine ⟨(rowG_tl H hS _ (l.length + 1) [] l [] xs l1 (Nat.le_refl _) (Nat.le_refl _) hd e).1, fun t => ?_⟩
    have := (rowG_tl H hS _ (l ++ 41 :: t).length [] l t xs l1 (Nat.le_refl _) (by simp) hd e).2
    unfold rowP
    rw [this]
theorem altG_tl {d : Nat} {pat pat' : List Int → Option (RX × List Int)} (H : PT d pat pat') (hS : Shr pat) : ∀ (n m : Nat) (acc : List RX) (l t : List Int) (xs : List RX) (r : List Int), l.length ≤ n → l.length ≤ m → l.count 40 ≤ d → altG (rowP pat) n acc l = some (xs, r) → r <:+ l ∧ altG (rowP pat') m acc (l ++ 41 :: t) = some (xs, r ++ 41 :: t) := by
  intro n
  induction n with
  | zero =>
    intro m acc l t xs r hn hm hd h
    obtain rfl : l = [] := List.eq_nil_of_length_eq_zero (by omega)
    obtain ⟨rfl, rfl⟩ := some_eq h
    refine ⟨List.suffix_refl _, ?_⟩
    cases m with
    | zero => rfl
    | succ m => simp only [altG]; rw [sw_tail _ _ _ (by decide), if_neg (by decide)]
  | succ n ih =>
    intro m acc l t xs r hn hm hd h
    simp only [altG] at h
    by_cases c : startsW [124] l = true
    · rw [if_pos c] at h
      have hl := startsW_len _ _ c
      simp only [List.length_cons, List.length_nil] at hl
      obtain ⟨m, rfl⟩ : ∃ k, m = k + 1 := ⟨m - 1, by omega⟩
      cases e : rowP pat (l.drop 1) with
      | none => rw [e] at h; simp at h
      | some y =>
        obtain ⟨z, l1⟩ := y
        simp only [e] at h
        have hdr := List.drop_suffix 1 l
        have hc := cnt_le hdr
        obtain ⟨s1, k1⟩ := rowP_tl H hS _ _ _ (by omega) e
        have hlen := s1.length_le
        rw [List.length_drop] at hlen
        have hc1 := cnt_le s1
        obtain ⟨s, k⟩ := ih m (acc ++ [z]) l1 t xs r (by omega) (by omega) (by omega) h
        refine ⟨s.trans (s1.trans hdr), ?_⟩
        simp only [altG]
        rw [sw_tail _ _ _ (by decide), if_pos c, sw_drop c 1 rfl, k1 t]
        exact k
    · rw [if_neg c] at h
      obtain ⟨rfl, rfl⟩ := some_eq h
      refine ⟨List.suffix_refl _, ?_⟩
      cases m with
      | zero => rfl
      | succ m => simp only [altG]; rw [sw_tail _ _ _ (by decide), if_neg c]
theorem patP_tl {d : Nat} {pat pat' : List Int → Option (RX × List Int)} (H : PT d pat pat') (hS : Shr pat) (l : List Int) (x : RX) (r : List Int) (hd : l.count 40 ≤ d) (h : patP pat l = some (x, r)) : r <:+ l ∧ ∀ t, patP pat' (l ++ 41 :: t) = some (x, r ++ 41 :: t) := by
  unfold patP at h
  cases e : rowP pat l with
  | none => rw [e] at h; simp at h
  | some y =>
    obtain ⟨z, l1⟩ := y
    simp only [e] at h
    obtain ⟨s1, k1⟩ := rowP_tl H hS _ _ _ hd e
    have hc := cnt_le s1
    cases e2 : altG (rowP pat) l1.length [z] l1 with
    | none => rw [e2] at h; simp at h
    | some y =>
      obtain ⟨xs, l2⟩ := y
      simp only [e2] at h
      obtain ⟨rfl, rfl⟩ := some_eq h
      refine ⟨((altG_tl H hS _ l1.length [z] l1 [] xs l2 (Nat.le_refl _) (Nat.le_refl _) (by omega) e2).1).trans s1, fun t => ?_⟩
      have := (altG_tl H hS _ (l1 ++ 41 :: t).length [z] l1 t xs l2 (Nat.le_refl _) (by simp) (by omega) e2).2
      unfold patP
      rw [k1 t]
      simp only
      rw [this]
theorem patL_tl : ∀ (D d : Nat) (l : List Int) (x : RX) (r : List Int), l.count 40 ≤ d → patL D l = some (x, r) → r <:+ l ∧ ∀ t, patL d (l ++ 41 :: t) = some (x, r ++ 41 :: t) := by
  intro D
  induction D with
  | zero =>
    intro d l x r hd h
    have hS : Shr (fun _ : List Int => (none : Option (RX × List Int))) := fun l x h => by simp at h
    cases d with
    | zero => exact patP_tl (d := 0) (pat := fun _ => none) (pat' := fun _ => none) (fun l x r _ h => by simp at h) hS l x r hd h
    | succ d => exact patP_tl (d := d + 1) (pat := fun _ => none) (pat' := patL d) (fun l x r _ h => by simp at h) hS l x r hd h
  | succ D ih =>
    intro d l x r hd h
    cases d with
    | zero => exact patP_tl (d := 0) (pat := patL D) (pat' := fun _ => none) (fun l x r hc h => by omega) (patL_len D) l x r hd h
    | succ d => exact patP_tl (d := d + 1) (pat := patL D) (pat' := patL d) (fun l x r hc h => ih d l x r (by omega) h) (patL_len D) l x r hd h
end Go.Proofs.YtannjmgnbfbpjaaDoor
