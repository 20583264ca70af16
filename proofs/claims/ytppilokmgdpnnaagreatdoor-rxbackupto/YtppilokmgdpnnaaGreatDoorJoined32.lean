/-
  What a tree that may be, written as code points, is read as: that tree. Conditions: no range begins or ends with a surrogate; as many levels of groups as the tree has.
-/
import Derived.Test.YtppilokmgdpnnaaGreatDoorJoined31
namespace Go.Proofs.YtppilokmgdpnnaaGreatDoor

/-- How a tree is written, whatever the signs are. -/
structure Wr (α : Type) where
  k : Nat → α
  st : List (Int × Int) → List α
  cn : Int → Int → Bool → List α
def paren {α : Type} (W : Wr α) (b : List α) : List α := W.k 40 :: (b ++ [W.k 41])
def barred {α : Type} (W : Wr α) : List (List α) → List α
  | [] => []
  | x :: xs => x ++ (xs.map fun y => W.k 124 :: y).flatten
def sgn {α : Type} (W : Wr α) (k : Int) : List α := if k = 6 then [W.k 94] else if k = 7 then [W.k 36] else if k = 8 then [W.k 92, W.k 98] else [W.k 92, W.k 66]
/-- Up to which place a node stands without parentheses: 0 a pattern, 1 a row, 2 a term, 3 an atom. -/
def topN (k : Int) : Nat := if k = 2 then 3 else if k = 4 then 0 else if k = 3 ∨ k = 1 then 1 else 2
def bodyX {α : Type} (W : Wr α) (f : Nat → RX → List α) (k : Int) (r : List (Int × Int)) (lo hi : Int) (z : Bool) (s : List RX) : List α :=
  if k = 2 then W.st r else if k = 4 then barred W (s.map (f 1)) else if k = 3 then (s.map (f 2)).flatten else if k = 1 then [] else if k = 5 then (s.map (f 3)).flatten ++ W.cn lo hi z else sgn W k
def tx {α : Type} (W : Wr α) : Nat → Nat → RX → List α
  | 0, _, _ => []
  | d + 1, lv, .mk k r lo hi z s => if lv ≤ topN k then bodyX W (tx W d) k r lo hi z s else paren W (bodyX W (tx W d) k r lo hi z s)
/-- No range begins or ends with a surrogate. -/
def noSur (l : List (Int × Int)) : Prop := ∀ r ∈ l, isPt r.1 = true ∧ isPt r.2 = true
def noLone : Nat → RX → Prop
  | 0, _ => True
  | d + 1, .mk _ r _ _ _ s => noSur r ∧ ∀ x ∈ s, noLone d x
/-- What a set's code points must come to. -/
def SetOK (l : List (Int × Int)) (T : List Int) : Prop := (∀ pat rest, atomP pat (T ++ rest) = some (.mk 2 l 0 0 false [], rest)) ∧ BegA T
theorem right_own (d : Nat) (k : Int) (r : List (Int × Int)) (lo hi : Int) (z : Bool) (s : List RX) (h : rightB (d + 1) (.mk k r lo hi z s) = true) : ownB k r lo hi z s.length = true ∧ ∀ x ∈ s, rightB d x = true := by
  have e : rightB (d + 1) (.mk k r lo hi z s) = (headB k r lo hi z && kindB k lo hi s.length && s.all (rightB d)) := rfl
  rw [e, ← own_right, Bool.and_eq_true] at h
  exact ⟨h.1, fun x hx => List.all_eq_true.1 h.2 x hx⟩
theorem hdq_of {T : List Int} (h : BegT T) : HdQ T := fun c r e => by
  obtain ⟨c', r', e', _, _, h3, _⟩ := h
  rw [e'] at e; injection e with e _; exact e ▸ h3
/-- What holds of a tree's code points at the four places. -/
structure RdAll (e : Nat) (T : Nat → List Int) (t : RX) : Prop where
  p : RdP e (T 0) t
  q : HdQ (T 0)
structure RdUp (e : Nat) (T : Nat → List Int) (t : RX) : Prop where
  r : RdR e (T 1) t
  hq : HdQ (T 1)
  tt : RdT e (T 2) t
  bt : BegT (T 2)
  a : RdA e (T 3) t
  ba : BegA (T 3)
theorem hdq_group (T : List Int) : BegT (40 :: (T ++ [41])) := ⟨_, _, rfl, by decide, by decide, by decide, by decide, by decide, by decide⟩
theorem read_all (W : Wr Int) (hk : W.k = fun n : Nat => (n : Int)) (hst : ∀ l, Can l → noSur l → SetOK l (W.st l)) (hcn : W.cn = cnP) : ∀ (d : Nat) (t : RX), rightB d t = true → noLone d t →
    (∀ e, lvX t ≤ e + 1 → RdAll e (fun lv => tx W d lv t) t) ∧ (∀ e, lvX t ≤ e → RdUp e (fun lv => tx W d lv t) t)
  | 0, t, h, _ => by simp [rightB] at h
  | d + 1, .mk k r lo hi z s, h, hl => by
    obtain ⟨ho, hs⟩ := right_own d k r lo hi z s h
    have ih : ∀ x ∈ s, (∀ e, lvX x ≤ e + 1 → RdAll e (fun lv => tx W d lv x) x) ∧ (∀ e, lvX x ≤ e → RdUp e (fun lv => tx W d lv x) x) := fun x hx => read_all W hk hst hcn d x (hs x hx) (hl.2 x hx)
    have hlv : lvX (.mk k r lo hi z s) = lvL s + 1 := by rw [lvX]
    obtain ⟨B, hB⟩ : ∃ B, B = bodyX W (tx W d) k r lo hi z s := ⟨_, rfl⟩
    have htx : ∀ lv, tx W (d + 1) lv (.mk k r lo hi z s) = if lv ≤ topN k then B else 40 :: (B ++ [41]) := fun lv => by
      rw [tx, ← hB, paren, hk]; rfl
    have hsub : ∀ e, lvX (.mk k r lo hi z s) ≤ e + 1 → ∀ x ∈ s, lvX x ≤ e := fun e he x hx => by have := lvL_mem s x hx; omega
    -- from the pattern up, by parentheses
    have up : (∀ e, lvX (.mk k r lo hi z s) ≤ e + 1 → RdP e B (.mk k r lo hi z s)) → HdQ B → ∀ e, lvX (.mk k r lo hi z s) ≤ e → RdA e (40 :: (B ++ [41])) (.mk k r lo hi z s) ∧ BegA (40 :: (B ++ [41])) := fun hp hq e he => by
      obtain ⟨e, rfl⟩ : ∃ m, e = m + 1 := ⟨e - 1, by omega⟩
      exact (hp e he).group hq
    unfold ownB at ho
    by_cases k2 : k = 2
    · subst k2
      have hT : ∀ lv, lv ≤ 3 → tx W (d + 1) lv (.mk 2 r lo hi z s) = W.st r := fun lv hlv => by
        rw [htx, if_pos (by simpa [topN] using hlv), hB]; simp [bodyX]
      simp at ho
      obtain ⟨⟨h1, h2⟩, h3⟩ := ho
      have hs0 : s = [] := by simpa using h1
      subst hs0
      simp [noCnt] at h3
      obtain ⟨⟨rfl, rfl⟩, rfl⟩ := h3
      obtain ⟨hA, hBg⟩ := hst r (h2 ▸ merge_can r) hl.1
      have rA : ∀ e, RdA e (W.st r) (.mk 2 r 0 0 false []) := fun e rest => hA _ rest
      have rT : ∀ e, RdT e (W.st r) (.mk 2 r 0 0 false []) := fun e => (rA e).term hBg
      have rR : ∀ e, RdR e (W.st r) (.mk 2 r 0 0 false []) := fun e => (rT e).row hBg.1
      have hq := hdq_of hBg.1
      refine ⟨fun e _ => ⟨?_, ?_⟩, fun e _ => ⟨?_, ?_, ?_, ?_, ?_, ?_⟩⟩ <;> simp only [hT 0 (by omega), hT 1 (by omega), hT 2 (by omega), hT 3 (by omega)]
      · exact (rR e).pat
      · exact hq
      · exact rR e
      · exact hq
      · exact rT e
      · exact hBg.1
      · exact rA e
      · exact hBg
    · by_cases k4 : k = 4
      · subst k4
        simp at ho
        obtain ⟨⟨h1, h2⟩, h3⟩ := ho
        subst h2
        simp [noCnt] at h3
        obtain ⟨⟨rfl, rfl⟩, rfl⟩ := h3
        obtain ⟨t0, ts, rfl⟩ : ∃ t0 ts, s = t0 :: ts := by cases s with
          | nil => simp at h1
          | cons a b => exact ⟨a, b, rfl⟩
        have eB : B = tx W d 1 t0 ++ (ts.map fun t => 124 :: tx W d 1 t).flatten := by
          rw [hB]; simp [bodyX, barred, hk, Function.comp_def]
        have hp : ∀ e, lvX (.mk 4 [] 0 0 false (t0 :: ts)) ≤ e + 1 → RdP e B (.mk 4 [] 0 0 false (t0 :: ts)) := fun e he => by
          rw [eB]
          exact pat_all t0 ts (tx W d 1) (fun x hx => ((ih x hx).2 e (hsub e he x hx)).r) (by simp at h1; omega)
        have hq : HdQ B := fun c q eq => by
          rw [eB] at eq
          have h0 := ((ih t0 (by simp)).2 _ (Nat.le_refl _)).hq
          cases e0 : tx W d 1 t0 with
          | nil =>
            rw [e0] at eq
            cases ts with
            | nil => simp at h1
            | cons a b => simp at eq; omega
          | cons a b =>
            rw [e0] at eq; simp at eq
            exact eq.1 ▸ h0 a b e0
        have hg := up hp hq
        refine ⟨fun e he => ⟨?_, ?_⟩, fun e he => ⟨?_, ?_, ?_, ?_, ?_, ?_⟩⟩ <;> simp only [htx, topN]
        · exact hp e he
        · exact hq
        · exact ((hg e he).1.term (hg e he).2).row (hg e he).2.1
        · exact hdq_of (hdq_group B)
        · exact (hg e he).1.term (hg e he).2
        · exact (hg e he).2.1
        · exact (hg e he).1
        · exact (hg e he).2
      · by_cases k3 : k = 3 ∨ k = 1
        · have rR : ∀ e, lvX (.mk k r lo hi z s) ≤ e + 1 → RdR e B (.mk k r lo hi z s) := by
            intro e he
            rcases k3 with rfl | rfl
            · simp at ho
              obtain ⟨⟨h1, h2⟩, h3⟩ := ho
              subst h2
              simp [noCnt] at h3
              obtain ⟨⟨rfl, rfl⟩, rfl⟩ := h3
              have eB : B = (s.map (tx W d 2)).flatten := by rw [hB]; simp [bodyX]
              rw [eB]
              exact row_all s (tx W d 2) (fun x hx => ⟨((ih x hx).2 e (hsub e he x hx)).tt, ((ih x hx).2 e (hsub e he x hx)).bt⟩) h1
            · simp at ho
              obtain ⟨⟨h1, h2⟩, h3⟩ := ho
              have hs0 : s = [] := by simpa using h1
              subst h2 hs0
              simp [noCnt] at h3
              obtain ⟨⟨rfl, rfl⟩, rfl⟩ := h3
              have eB : B = [] := by rw [hB]; simp [bodyX]
              rw [eB]
              intro rest hr
              show rowP (patQ e) rest = _
              unfold rowP
              rw [rowG_end _ _ _ _ hr]
              rfl
          have hq : HdQ B := by
            rcases k3 with rfl | rfl
            · have eB : B = (s.map (tx W d 2)).flatten := by rw [hB]; simp [bodyX]
              rw [eB]
              cases s with
              | nil => intro c q eq; simp at eq
              | cons a b =>
                obtain ⟨c, q, ec, _, _, h3, _⟩ := ((ih a (by simp)).2 _ (Nat.le_refl _)).bt
                intro c' q' eq
                rw [List.map_cons, List.flatten_cons, ec] at eq
                injection eq with eq _
                exact eq ▸ h3
            · have eB : B = [] := by rw [hB]; simp [bodyX]
              rw [eB]; intro c q eq; simp at eq
          have hp : ∀ e, lvX (.mk k r lo hi z s) ≤ e + 1 → RdP e B (.mk k r lo hi z s) := fun e he => (rR e he).pat
          have hg := up hp hq
          have ht : topN k = 1 := by rcases k3 with rfl | rfl <;> rfl
          refine ⟨fun e he => ⟨?_, ?_⟩, fun e he => ⟨?_, ?_, ?_, ?_, ?_, ?_⟩⟩ <;> simp only [htx, ht]
          · exact hp e he
          · exact hq
          · exact rR e (by omega)
          · exact hq
          · exact (hg e he).1.term (hg e he).2
          · exact (hg e he).2.1
          · exact (hg e he).1
          · exact (hg e he).2
        · have rT : (∀ e, lvX (.mk k r lo hi z s) ≤ e + 1 → RdT e B (.mk k r lo hi z s)) ∧ BegT B := by
            by_cases k5 : k = 5
            · subst k5
              simp at ho
              obtain ⟨⟨h1, h2⟩, h3⟩ := ho
              subst h2
              obtain ⟨x, rfl⟩ : ∃ x, s = [x] := by
                match s, h1 with
                | [x], _ => exact ⟨x, rfl⟩
              have eB : B = tx W d 3 x ++ cnP lo hi z := by rw [hB]; simp [bodyX, hcn]
              simp [hasCnt] at h3
              obtain ⟨⟨h3, h4⟩, h5⟩ := h3
              have hb0 := ((ih x (by simp)).2 _ (Nat.le_refl _)).ba
              refine ⟨fun e he rest hr => ?_, ?_⟩
              · have hu := (ih x (by simp)).2 e (hsub e he x (by simp))
                obtain ⟨b1, b2, b3, b4⟩ := hb0.2 (cnP lo hi z ++ rest)
                rw [eB, List.append_assoc]
                unfold termP
                rw [b1, b2, b3, b4]
                simp only [Bool.false_eq_true, if_false]
                have ha := hu.a (cnP lo hi z ++ rest)
                rw [ha]
                simp only
                exact counted_cn x lo hi z ⟨h3, h4⟩ h5 rest hr
              · obtain ⟨c, q, ec, hc⟩ := hb0.1
                rw [eB, ec]
                exact ⟨c, q ++ cnP lo hi z, rfl, hc⟩
            · have k6 : k = 6 ∨ k = 7 ∨ k = 8 ∨ k = 9 := by
                apply Classical.byContradiction
                intro hn
                rw [if_neg (by omega), if_neg k2, if_neg (by omega), if_neg k5] at ho
                simp at ho
              have hz : s = [] ∧ r = [] ∧ lo = 0 ∧ hi = 0 ∧ z = false := by
                rw [if_pos (by omega)] at ho
                simp [noCnt] at ho
                obtain ⟨⟨h1, h2⟩, ⟨h3, h4⟩, h5⟩ := ho
                exact ⟨h1, h2, h3, h4, h5⟩
              obtain ⟨rfl, rfl, rfl, rfl, rfl⟩ := hz
              have eB : B = sgn W k := by rw [hB]; unfold bodyX; rw [if_neg k2, if_neg k4, if_neg (fun h => k3 (Or.inl h)), if_neg (fun h => k3 (Or.inr h)), if_neg k5]
              rw [eB]
              unfold sgn
              rw [hk]
              rcases k6 with rfl | rfl | rfl | rfl
              all_goals
                refine ⟨fun e he rest hr => ?_, ?_⟩
                · simp [termP, startsW, leaf]
                · exact ⟨_, _, rfl, by decide, by decide, by decide, by decide, by decide, by decide⟩
          obtain ⟨rT, hb⟩ := rT
          have hq := hdq_of hb
          have hp : ∀ e, lvX (.mk k r lo hi z s) ≤ e + 1 → RdP e B (.mk k r lo hi z s) := fun e he => ((rT e he).row hb).pat
          have hg := up hp hq
          have ht : topN k = 2 := by unfold topN; rw [if_neg k2, if_neg k4, if_neg k3]
          refine ⟨fun e he => ⟨?_, ?_⟩, fun e he => ⟨?_, ?_, ?_, ?_, ?_, ?_⟩⟩ <;> simp only [htx, ht]
          · exact hp e he
          · exact hq
          · exact (rT e (by omega)).row hb
          · exact hq
          · exact rT e (by omega)
          · exact hb
          · exact (hg e he).1
          · exact (hg e he).2
/-- A tree's code points are read as it. -/
theorem parse_back (W : Wr Int) (hk : W.k = fun n : Nat => (n : Int)) (hst : ∀ l, Can l → noSur l → SetOK l (W.st l)) (hcn : W.cn = cnP) (d : Nat) (t : RX) (h : rightB d t = true) (hl : noLone d t) (hv : lvX t ≤ 201) : parseL (tx W d 0 t) = some t := by
  have := ((read_all W hk hst hcn d t h hl).1 200 hv).p [] (fun c r e => by simp at e)
  unfold parseL
  rw [patL_Q]
  show (match patP (patQ 200) (tx W d 0 t) with | some (x, []) => some x | _ => none) = _
  rw [List.append_nil] at this
  rw [this]
end Go.Proofs.YtppilokmgdpnnaaGreatDoor
