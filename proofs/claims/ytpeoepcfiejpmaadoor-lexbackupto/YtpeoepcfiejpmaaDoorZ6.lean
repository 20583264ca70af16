/-
  Plain mathematics: what lex.Quote writes is read as it was. No condition.
-/
import Derived.Test.YtpeoepcfiejpmaaDoorW1
import Derived.Test.YtpeoepcfiejpmaaDoorZ5
namespace Go.Proofs.YtpeoepcfiejpmaaDoor
open Go.RowKit

theorem bx_shift (x l : List UInt8) (i : Nat) : bx (x ++ l) (x.length + i) = bx l i := by
  unfold bx; rw [List.getElem?_append_right (by omega), show x.length + i - x.length = i by omega]
theorem has_shift (x l : List UInt8) (i : Nat) (p : Int → Bool) : hasAt (x ++ l) (x.length + i) p = hasAt l i p := by
  unfold hasAt
  rw [bx_shift, List.length_append]
  congr 1
  by_cases h : i < l.length
  · rw [decide_eq_true h, decide_eq_true (by omega)]
  · rw [decide_eq_false h, decide_eq_false (by omega)]
theorem spelled_shift (x l : List UInt8) (cs : List UInt8) : ∀ {i k : Nat}, spelledL l i cs = .ok k → spelledL (x ++ l) (x.length + i) cs = .ok (x.length + k) := by
  induction cs with
  | nil => intro i k h; simp only [spelledL] at h ⊢; rw [← Except.ok.inj h]
  | cons c cs ih =>
    intro i k h
    simp only [spelledL] at h ⊢
    rw [has_shift]
    split at h
    · rename_i g
      rw [if_pos g, Nat.add_assoc]; exact ih h
    · cases h
theorem unit_shift (x l : List UInt8) (low : Bool) (k : Nat) : ∀ {i val : Nat} {r : Nat × Nat}, unitF l low k i val = .ok r → unitF (x ++ l) low k (x.length + i) val = .ok (r.1, x.length + r.2) := by
  induction k with
  | zero => intro i val r h; simp only [unitF] at h ⊢; rw [← Except.ok.inj h]
  | succ k ih =>
    intro i val r h
    simp only [unitF] at h ⊢
    rw [has_shift, bx_shift]
    split at h
    · rename_i g
      rw [if_pos g, Nat.add_assoc]; exact ih h
    · cases h
theorem escape_shift (x l : List UInt8) {i : Nat} {m : List UInt8} {k : Nat} (h : escapeL l i = .ok (m, k)) (hp : ∀ r, pointL l (i + 2) = .ok r → ¬ (∃ q, unitL l false (i + 2) = .ok q ∧ 55296 ≤ q.1 ∧ q.1 ≤ 56319)) : escapeL (x ++ l) (x.length + i) = .ok (m, x.length + k) := by
  unfold escapeL at h ⊢
  rw [has_shift, Nat.add_assoc, has_shift, has_shift, bx_shift]
  by_cases g : hasAt l i (fun y => y == 92) = true
  · rw [if_pos g] at h ⊢
    by_cases g2 : hasAt l (i + 1) (fun y => y == 117) = true
    · rw [if_pos g2] at h ⊢
      have hq := hp _ h
      rw [Nat.add_assoc]
      unfold pointL at h ⊢
      cases hu : unitL l false (i + 2) with
      | error n => rw [hu] at h; cases h
      | ok q =>
        rw [hu] at h
        simp only at h
        rw [show unitL (x ++ l) false (x.length + (i + 2)) = .ok (q.1, x.length + q.2) from unit_shift x l false 4 hu]
        simp only
        by_cases g3 : 55296 ≤ q.1 ∧ q.1 ≤ 56319
        · exact absurd ⟨q, hu, g3⟩ hq
        · rw [if_neg g3] at h ⊢
          obtain ⟨rfl, rfl⟩ := Prod.mk.inj (Except.ok.inj h)
          rfl
    · rw [if_neg g2] at h ⊢
      by_cases g3 : hasAt l (i + 1) meanB = true
      · rw [if_pos g3] at h ⊢
        obtain ⟨rfl, rfl⟩ := Prod.mk.inj (Except.ok.inj h)
        rw [Nat.add_assoc]
      · rw [if_neg g3] at h; cases h
  · rw [if_neg g] at h; cases h
/-- An escape, read by itself: it stands for its byte, and is no surrogate. -/
def escOk (c : UInt8) : Bool :=
  match escapeL (escOne c) 0 with
  | .ok (m, k) => (m == [c]) && (k == (escOne c).length) && (match unitL (escOne c) false 2 with | .ok q => decide (q.1 < 55296) | .error _ => true)
  | .error _ => false
theorem esc0 : escOk 0 = true := by decide +kernel
theorem esc1 : escOk 1 = true := by decide +kernel
theorem esc2 : escOk 2 = true := by decide +kernel
theorem esc3 : escOk 3 = true := by decide +kernel
theorem esc4 : escOk 4 = true := by decide +kernel
theorem esc5 : escOk 5 = true := by decide +kernel
theorem esc6 : escOk 6 = true := by decide +kernel
theorem esc7 : escOk 7 = true := by decide +kernel
theorem esc8 : escOk 8 = true := by decide +kernel
theorem esc9 : escOk 9 = true := by decide +kernel
theorem esc10 : escOk 10 = true := by decide +kernel
theorem esc11 : escOk 11 = true := by decide +kernel
theorem esc12 : escOk 12 = true := by decide +kernel
theorem esc13 : escOk 13 = true := by decide +kernel
theorem esc14 : escOk 14 = true := by decide +kernel
theorem esc15 : escOk 15 = true := by decide +kernel
theorem esc16 : escOk 16 = true := by decide +kernel
theorem esc17 : escOk 17 = true := by decide +kernel
theorem esc18 : escOk 18 = true := by decide +kernel
theorem esc19 : escOk 19 = true := by decide +kernel
theorem esc20 : escOk 20 = true := by decide +kernel
theorem esc21 : escOk 21 = true := by decide +kernel
theorem esc22 : escOk 22 = true := by decide +kernel
theorem esc23 : escOk 23 = true := by decide +kernel
theorem esc24 : escOk 24 = true := by decide +kernel
theorem esc25 : escOk 25 = true := by decide +kernel
theorem esc26 : escOk 26 = true := by decide +kernel
theorem esc27 : escOk 27 = true := by decide +kernel
theorem esc28 : escOk 28 = true := by decide +kernel
theorem esc29 : escOk 29 = true := by decide +kernel
theorem esc30 : escOk 30 = true := by decide +kernel
theorem esc31 : escOk 31 = true := by decide +kernel
theorem esc34 : escOk 34 = true := by decide +kernel
theorem esc92 : escOk 92 = true := by decide +kernel
theorem esc_all {c : UInt8} (h : plainB (c.toNat : Int) = false) : escOk c = true := by
  have e := not_plain h
  have hc : c = UInt8.ofNat c.toNat := (UInt8.ofNat_toNat).symm
  generalize c.toNat = n at *
  subst hc
  have q : n = 0 ∨ n = 1 ∨ n = 2 ∨ n = 3 ∨ n = 4 ∨ n = 5 ∨ n = 6 ∨ n = 7 ∨ n = 8 ∨ n = 9 ∨ n = 10 ∨ n = 11 ∨ n = 12 ∨ n = 13 ∨ n = 14 ∨ n = 15 ∨ n = 16 ∨ n = 17 ∨ n = 18 ∨ n = 19 ∨ n = 20 ∨ n = 21 ∨ n = 22 ∨ n = 23 ∨ n = 24 ∨ n = 25 ∨ n = 26 ∨ n = 27 ∨ n = 28 ∨ n = 29 ∨ n = 30 ∨ n = 31 ∨ n = 34 ∨ n = 92 := by omega
  rcases q with rfl | rfl | rfl | rfl | rfl | rfl | rfl | rfl | rfl | rfl | rfl | rfl | rfl | rfl | rfl | rfl | rfl | rfl | rfl | rfl | rfl | rfl | rfl | rfl | rfl | rfl | rfl | rfl | rfl | rfl | rfl | rfl | rfl | rfl
  · exact esc0
  · exact esc1
  · exact esc2
  · exact esc3
  · exact esc4
  · exact esc5
  · exact esc6
  · exact esc7
  · exact esc8
  · exact esc9
  · exact esc10
  · exact esc11
  · exact esc12
  · exact esc13
  · exact esc14
  · exact esc15
  · exact esc16
  · exact esc17
  · exact esc18
  · exact esc19
  · exact esc20
  · exact esc21
  · exact esc22
  · exact esc23
  · exact esc24
  · exact esc25
  · exact esc26
  · exact esc27
  · exact esc28
  · exact esc29
  · exact esc30
  · exact esc31
  · exact esc34
  · exact esc92
theorem esc_read {c : UInt8} (h : plainB (c.toNat : Int) = false) (x tail : List UInt8) : escapeL (x ++ (escOne c ++ tail)) x.length = .ok ([c], x.length + (escOne c).length) := by
  have hk := esc_all h
  unfold escOk at hk
  cases he : escapeL (escOne c) 0 with
  | error n => rw [he] at hk; simp at hk
  | ok r =>
    obtain ⟨m, k⟩ := r
    rw [he] at hk
    simp only [Bool.and_eq_true, beq_iff_eq] at hk
    obtain ⟨⟨rfl, rfl⟩, hu⟩ := hk
    have h1 := escape_shift x (escOne c) he (fun r _ => by
      rintro ⟨q, hq, q1, q2⟩
      rw [Nat.zero_add] at hq
      rw [hq] at hu
      simp at hu
      omega)
    rw [Nat.add_zero] at h1
    have ha : Agree (x ++ escOne c) (x ++ (escOne c ++ tail)) (x.length + (escOne c).length) := by
      have := agree_take (x ++ escOne c) tail (x.length + (escOne c).length) (by simp)
      rw [← List.length_append, List.take_length, List.append_assoc] at this
      rw [← List.length_append]
      exact this
    exact escape_agree ha h1 (Nat.le_refl _)
theorem pass_exact (p : Int → Bool) (q : List UInt8) : ∀ (x y : List UInt8), (∀ c ∈ q, p (c.toNat : Int) = true) → (∀ c, y.head? = some c → p (c.toNat : Int) = false) → pass (x ++ (q ++ y)) p x.length = x.length + q.length := by
  induction q with
  | nil =>
    intro x y _ hy
    rw [List.nil_append]
    refine pass_stop ?_
    have := has_shift x y 0 p
    rw [Nat.add_zero] at this
    rw [this]
    cases y with
    | nil => rfl
    | cons c y => simp [hasAt, bx, hy c rfl]
  | cons c q ih =>
    intro x y hq hy
    have h1 : hasAt (x ++ (c :: q ++ y)) x.length p = true := by
      have := has_shift x (c :: q ++ y) 0 p
      rw [Nat.add_zero] at this
      rw [this]
      simp [hasAt, bx, hq c (by simp)]
    rw [pass_go h1]
    have := ih (x ++ [c]) y (fun d hd => hq d (by simp [hd])) hy
    simp only [List.length_append, List.length_cons, List.length_nil, List.append_assoc, List.cons_append, List.nil_append] at this ⊢
    rw [this]; omega
theorem sub_mid (x q y : List UInt8) : sub (x ++ (q ++ y)) x.length (x.length + q.length) = q := by
  unfold sub
  rw [List.drop_left, show x.length + q.length - x.length = q.length by omega, List.take_left]
theorem escOne_head (c : UInt8) : ∃ r, escOne c = 92 :: r ∧ 1 ≤ r.length := by
  unfold escOne
  repeat' split
  all_goals exact ⟨_, rfl, by simp⟩
theorem mem_tw (p : UInt8 → Bool) (l : List UInt8) {c : UInt8} (h : c ∈ l.takeWhile p) : p c = true := by
  induction l with
  | nil => cases h
  | cons d l ih =>
    rw [List.takeWhile_cons] at h
    split at h
    · rename_i g
      rcases List.mem_cons.1 h with e | e
      · rw [e]; exact g
      · exact ih e
    · cases h
theorem text_back (fr : Nat) (more : List UInt8) (n : Nat) : ∀ (b x a : List UInt8) (f : Nat), b.length ≤ n → (goodL b).2 = true → (x ++ (bodyL b ++ 34 :: more)).length < x.length + f →
    textF (x ++ (bodyL b ++ 34 :: more)) fr f x.length a = .ok ⟨1, a ++ b, fr, x.length + (bodyL b).length + 1⟩ := by
  induction n with
  | zero =>
    intro b x a f hb hg hf
    obtain rfl : b = [] := List.length_eq_zero_iff.1 (by omega)
    obtain ⟨f, rfl⟩ : ∃ g, f = g + 1 := ⟨f - 1, by simp at hf; omega⟩
    have hp := pass_exact plainB [] x (34 :: more) (by simp) (fun c hc => by simp at hc; subst hc; rfl)
    have hs := sub_mid x [] (34 :: more)
    simp only [List.nil_append, List.length_nil, Nat.add_zero] at hp hs
    have e0 : bodyL [] = [] := rfl
    simp only [e0, List.nil_append, textF]
    have hpl : plainL (x ++ 34 :: more) x.length = .ok x.length := by
      unfold plainL; rw [hp, hs, if_pos]; rfl
    rw [hpl]
    simp only
    have h34 := has_shift x (34 :: more) 0 (fun y => y == 34)
    rw [Nat.add_zero] at h34
    rw [h34, if_pos (by rfl), hs]
    simp
  | succ n ih =>
    intro b x a f hb hg hf
    obtain ⟨f, rfl⟩ : ∃ g, f = g + 1 := ⟨f - 1, by simp at hf; omega⟩
    obtain ⟨q, r, rfl, hq, hr⟩ : ∃ q r, b = q ++ r ∧ (∀ c ∈ q, plainB (c.toNat : Int) = true) ∧ (∀ c, r.head? = some c → plainB (c.toNat : Int) = false) := by
      refine ⟨b.takeWhile (fun c => plainB (c.toNat : Int)), b.dropWhile (fun c => plainB (c.toNat : Int)), (List.takeWhile_append_dropWhile).symm, fun c hc => ?_, fun c hc => ?_⟩
      · exact mem_tw _ b hc
      · have := List.head?_dropWhile_not (fun c : UInt8 => plainB (c.toNat : Int)) b
        rw [hc] at this
        simpa using this
    rw [body_append, body_plain hq, List.append_assoc] at hf ⊢
    have hgq : (goodL q).2 = true := by
      cases r with
      | nil => simpa using hg
      | cons c r =>
        have hc := not_plain (hr c rfl)
        exact (good_split q.length (Nat.le_refl _) (by omega) hg).1
    have hy : ∀ c, (bodyL r ++ 34 :: more).head? = some c → plainB (c.toNat : Int) = false := by
      cases r with
      | nil => intro c hc; simp [bodyL] at hc; subst hc; rfl
      | cons c r =>
        obtain ⟨z, hz, _⟩ := escOne_head c
        have e : bodyL (c :: r) = escOne c ++ bodyL r := by rw [show c :: r = [c] ++ r from rfl, body_append, body_esc (hr c rfl)]
        intro d hd
        rw [e, hz] at hd
        simp at hd
        subst hd; rfl
    have hp := pass_exact plainB q x (bodyL r ++ 34 :: more) hq hy
    have hs := sub_mid x q (bodyL r ++ 34 :: more)
    have hpl : plainL (x ++ (q ++ (bodyL r ++ 34 :: more))) x.length = .ok (x.length + q.length) := by
      unfold plainL; rw [hp, hs, if_pos hgq]
    simp only [textF]
    rw [hpl]
    simp only
    rw [hs]
    cases r with
    | nil =>
      have h34 := has_shift (x ++ q) (34 :: more) 0 (fun y => y == 34)
      rw [Nat.add_zero, List.length_append, List.append_assoc] at h34
      have e0 : bodyL [] = [] := rfl
      simp only [e0, List.nil_append, List.append_nil]
      rw [h34, if_pos (by rfl)]
    | cons c r =>
      have hc := hr c rfl
      have hc1 := not_plain hc
      obtain ⟨z, hz, hz1⟩ := escOne_head c
      have e : bodyL (c :: r) = escOne c ++ bodyL r := by rw [show c :: r = [c] ++ r from rfl, body_append, body_esc hc]
      have hgr := (good_split q.length (Nat.le_refl _) (by omega) hg).2
      rw [e] at hf ⊢
      have h34 : hasAt (x ++ (q ++ (escOne c ++ bodyL r ++ 34 :: more))) (x.length + q.length) (fun y => y == 34) = false := by
        have := has_shift (x ++ q) (escOne c ++ bodyL r ++ 34 :: more) 0 (fun y => y == 34)
        rw [Nat.add_zero, List.length_append, List.append_assoc] at this
        rw [this, hz]; rfl
      rw [if_neg (by rw [h34]; simp)]
      have hes := esc_read hc (x ++ q) (bodyL r ++ 34 :: more)
      rw [List.length_append, List.append_assoc, ← List.append_assoc (escOne c)] at hes
      rw [hes]
      simp only
      have hx : (x ++ q ++ escOne c).length = x.length + q.length + (escOne c).length := by simp; omega
      have hl : x ++ (q ++ (escOne c ++ bodyL r ++ 34 :: more)) = (x ++ q ++ escOne c) ++ (bodyL r ++ 34 :: more) := by simp
      have hel : 2 ≤ (escOne c).length := by rw [hz]; simp; omega
      rw [hl] at hf ⊢
      have hb' : r.length ≤ n := by simp at hb; omega
      have := ih r (x ++ q ++ escOne c) (a ++ q ++ [c]) f hb' hgr (by rw [hx]; omega)
      rw [hx] at this
      rw [this]
      congr 1
      rw [Tok.mk.injEq]
      refine ⟨rfl, by simp, rfl, ?_⟩
      simp
      omega
theorem next_back (s more : List UInt8) (hg : (goodL s).2 = true) : nextL (quoteL s ++ more) 0 = .ok ⟨1, s, 0, (quoteL s).length⟩ := by
  have hq : quoteL s ++ more = [34] ++ (bodyL s ++ 34 :: more) := by simp [quoteL]
  have h := text_back 0 more s.length s [34] [] ((quoteL s ++ more).length + 1) (Nat.le_refl _) hg (by rw [hq]; simp; omega)
  rw [← hq, List.nil_append] at h
  have e34 : bx (quoteL s ++ more) 0 = 34 := by rw [hq]; rfl
  have hp : pass (quoteL s ++ more) blankB 0 = 0 := pass_stop (by unfold hasAt; rw [e34]; simp [blankB])
  unfold nextL readL
  rw [hp, if_neg (by rw [hq]; simp), e34, if_neg (by decide), if_neg (by decide), if_neg (by decide), if_neg (by decide), if_neg (by decide), if_pos rfl]
  unfold textL
  rw [Nat.zero_add]
  refine h.trans ?_
  congr 1
  rw [Tok.mk.injEq]
  exact ⟨rfl, rfl, rfl, by simp [quoteL]; omega⟩
end Go.Proofs.YtpeoepcfiejpmaaDoor
