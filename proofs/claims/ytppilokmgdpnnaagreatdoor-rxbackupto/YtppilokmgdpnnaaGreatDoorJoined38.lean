/-
  Valid texts one behind the other: their code points too. No condition.
-/
import Derived.Test.YtppilokmgdpnnaaGreatDoorJoined37
namespace Go.Proofs.YtppilokmgdpnnaaGreatDoor
open Go.RowKit

theorem stepF_same {r r' n : Nat} {g g' : Nat → Int} (h : stepF r g = (n, true)) (he : ∀ i, i < n → g' i = g i) (hr : n ≤ r') : stepF r' g' = (n, true) := by
  rcases stepF_true r g n h with ⟨rfl, a⟩ | ⟨rfl, a, _, b⟩ | ⟨rfl, a, _, b, c⟩ | ⟨rfl, a, a1, a2, a3, _, b, c, d⟩
  · unfold stepF; rw [he 0 (by omega), a]; rfl
  · unfold stepF
    rw [he 0 (by omega), he 1 (by omega), a, b, if_neg (by decide), if_neg (by decide), if_neg (by omega), if_neg (by decide), if_pos rfl]
  · unfold stepF
    rw [he 0 (by omega), he 1 (by omega), he 2 (by omega), a, b, c, if_neg (by decide), if_neg (by decide), if_neg (by omega), if_neg (by decide), if_neg (by decide), if_neg (by omega), if_neg (by decide), if_pos rfl]
  · unfold stepF
    rw [he 0 (by omega), he 1 (by omega), he 2 (by omega), he 3 (by omega), b, c, d, if_neg a, if_neg a1, if_neg (by omega), if_neg (by decide), if_neg a2, if_neg (by omega), if_neg (by decide), if_neg a3, if_neg (by omega), if_neg (by decide)]
theorem stepF_n {r n : Nat} {g : Nat → Int} (h : stepF r g = (n, true)) : 1 ≤ n ∧ n ≤ 4 := by
  rcases stepF_true r g n h with ⟨rfl, _⟩ | ⟨rfl, _⟩ | ⟨rfl, _⟩ | ⟨rfl, _⟩ <;> omega
theorem ptF_same {n : Nat} {g g' : Nat → Int} (h : 1 ≤ n ∧ n ≤ 4) (he : ∀ i, i < n → g' i = g i) : ptF g' n = ptF g n := by
  obtain ⟨h1, h4⟩ := h
  unfold ptF
  rw [he 0 (by omega)]
  split
  · rfl
  · rw [he 1 (by omega)]
    split
    · rfl
    · rw [he 2 (by omega)]
      split
      · rfl
      · rw [he 3 (by omega)]
theorem bx_drop (l : List UInt8) (p : Nat) : (fun i => bx l (p + i)) = bx (l.drop p) := by
  funext i; unfold bx; rw [List.getElem?_drop]
theorem bx_app_l (u l : List UInt8) (i : Nat) (h : i < u.length) : bx (u ++ l) i = bx u i := by
  unfold bx; rw [List.getElem?_append_left h]
theorem bx_take (l : List UInt8) (n i : Nat) (h : i < n) : bx (l.take n) i = bx l i := by
  unfold bx; rw [List.getElem?_take, if_pos h]
/-- A text that is valid, and its code points. -/
inductive Utf : List UInt8 → List Int → Prop
  | nil : Utf [] []
  | cons {u l : List UInt8} {ps : List Int} (h : stepF u.length (bx u) = (u.length, true)) (hl : Utf l ps) : Utf (u ++ l) (ptF (bx u) u.length :: ps)
theorem Utf.app {a b : List UInt8} {p q : List Int} (ha : Utf a p) (hb : Utf b q) : Utf (a ++ b) (p ++ q) := by
  induction ha with
  | nil => exact hb
  | cons h _ ih => rw [List.append_assoc]; exact Utf.cons h ih
theorem Utf.one (c : UInt8) (h : c.toNat < 128) : Utf [c] [(c.toNat : Int)] := by
  have : stepF [c].length (bx [c]) = ([c].length, true) := by
    unfold stepF
    have e : stN (bx [c] 0) = 1 := by
      show stN ((c.toNat : Nat) : Int) = 1
      unfold stN; rw [if_pos (by omega)]
    rw [e]; rfl
  exact Utf.cons this Utf.nil
theorem Utf.ascii : ∀ (l : List UInt8), (∀ c ∈ l, c.toNat < 128) → Utf l (l.map fun c => (c.toNat : Int))
  | [], _ => Utf.nil
  | c :: l, h => (Utf.one c (h c (by simp))).app (Utf.ascii l fun x hx => h x (List.mem_cons_of_mem _ hx))
theorem pair_ex {α β : Type} (x : α × β) : ∃ a b, x = (a, b) := ⟨x.1, x.2, rfl⟩
theorem utf_of_good (l : List UInt8) : ∀ k p, l.length - p ≤ k → (goodF l.length (bx l) k p).2 = true → Utf (l.drop p) (pointsF l.length (bx l) k p)
  | 0, p, hk, _ => by rw [List.drop_of_length_le (by omega)]; exact Utf.nil
  | k + 1, p, hk, hg => by
    unfold pointsF
    unfold goodF at hg
    by_cases hlt : l.length ≤ p
    · rw [if_pos hlt, List.drop_of_length_le hlt]; exact Utf.nil
    · rw [if_neg hlt] at hg ⊢
      rw [bx_drop] at hg ⊢
      by_cases e2 : (stepF (l.length - p) (bx (l.drop p))).2 = true
      · rw [if_pos e2] at hg
        have hn := stepF_le (l.length - p) (bx (l.drop p)) (by omega)
        obtain ⟨n, b, hs⟩ := pair_ex (stepF (l.length - p) (bx (l.drop p)))
        rw [hs] at e2
        simp only at e2
        subst e2
        rw [hs] at hg hn ⊢
        simp only at hg hn ⊢
        have h14 := stepF_n hs
        have ih := utf_of_good l k (p + n) (by omega) hg
        have hlen : ((l.drop p).take n).length = n := by rw [List.length_take, List.length_drop]; omega
        have hst : stepF ((l.drop p).take n).length (bx ((l.drop p).take n)) = (((l.drop p).take n).length, true) := by
          rw [hlen]; exact stepF_same hs (fun i hi => bx_take _ _ _ hi) (Nat.le_refl _)
        have := Utf.cons hst ih
        rw [hlen, ptF_same (g := bx (l.drop p)) h14 (fun i hi => bx_take _ _ _ hi), ← List.drop_drop, List.take_append_drop] at this
        exact this
      · rw [if_neg e2] at hg; simp at hg
theorem good_of_utf {m : List UInt8} {ps : List Int} (h : Utf m ps) : ∀ (l : List UInt8) (p k : Nat), l.drop p = m → p ≤ l.length → m.length ≤ k → (goodF l.length (bx l) k p).2 = true ∧ pointsF l.length (bx l) k p = ps := by
  induction h with
  | nil =>
    intro l p k hd hp _
    have : l.length ≤ p := by have := congrArg List.length hd; simp at this; omega
    cases k with
    | zero => exact ⟨rfl, rfl⟩
    | succ k => unfold goodF pointsF; rw [if_pos this, if_pos this]; exact ⟨rfl, rfl⟩
  | @cons u m ps hu hm ih =>
    intro l p k hd hp hk
    have h14 := stepF_n hu
    have hlen : l.length - p = u.length + m.length := by have := congrArg List.length hd; simpa using this
    cases k with
    | zero => rw [List.length_append] at hk; omega
    | succ k =>
      have hlt : ¬ l.length ≤ p := by omega
      unfold goodF pointsF
      rw [if_neg hlt, if_neg hlt, bx_drop, hd]
      have hs : stepF (l.length - p) (bx (u ++ m)) = (u.length, true) := stepF_same hu (fun i hi => bx_app_l u m i hi) (by omega)
      rw [hs]
      simp only [reduceIte]
      have hd2 : l.drop (p + u.length) = m := by rw [← List.drop_drop, hd]; simp
      obtain ⟨i1, i2⟩ := ih l (p + u.length) k hd2 (by omega) (by simp at hk; omega)
      exact ⟨i1, by rw [i2, ptF_same h14 (fun i hi => bx_app_l u m i hi)]⟩
theorem goodS_utf {s : ByteArray} (h : goodS s = true) : Utf s.data.toList (ptsS s) := utf_of_good _ _ 0 (by omega) h
theorem utf_goodS {s : ByteArray} {ps : List Int} (h : Utf s.data.toList ps) : goodS s = true ∧ ptsS s = ps := good_of_utf h _ 0 _ rfl (Nat.zero_le _) (Nat.le_refl _)
/-- How many opening parentheses. -/
theorem Utf.opens {l : List UInt8} {ps : List Int} (h : Utf l ps) : ps.count 40 ≤ l.count 40 := by
  induction h with
  | nil => exact Nat.le_refl _
  | @cons u m ps hu _ ih =>
    rw [List.count_cons, List.count_append]
    by_cases e : ptF (bx u) u.length = 40
    · have hc : 1 ≤ u.count 40 := by
        have hs := step_bytes _ _ _ hu
        rcases hs with ⟨e1, a⟩ | ⟨e1, b, a⟩ | ⟨e1, b, a⟩ | ⟨e1, b, a⟩
        · obtain ⟨c, rfl⟩ : ∃ c, u = [c] := List.length_eq_one_iff.1 e1
          · clear hu
            have e2 : bx [c] 0 = 40 := by simpa [ptF] using e
            have e3 : bx [c] 0 = ((c.toNat : Nat) : Int) := rfl
            have e4 : c.toNat = 40 := by omega
            have e5 : c = 40 := UInt8.toNat_inj.1 e4
            subst e5; decide
        all_goals
          rw [e1] at e
          simp [ptF] at e
          omega
      simp only [e, beq_self_eq_true, if_true]
      omega
    · rw [if_neg (by simpa using e)]; omega
end Go.Proofs.YtppilokmgdpnnaaGreatDoor
