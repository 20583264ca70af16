/-
  What json reads of bytes that are cut off where they are bad, or that others stand behind. Conditions: none.
  A bad text stays bad at the same place, whatever stands behind; cut off just ahead it is bad there, or it is whole. Conditions: at most 2^20 bytes.
  The same of whole texts. Conditions: at most 2^20 bytes.
  What is read of bytes does not hang on how many stand ahead: plain mathematics of what lex.Next answers. No condition.
  A token by itself: what is read of its bytes wherever they stand, if nothing behind carries a number on. No condition.
  Texts with the same tokens, whatever blanks stand between: they are read alike. Conditions: at most 2^21 bytes.
  Whole texts with the same tokens are read alike. Conditions: at most 2^20 bytes each.
  Bytes that are cut off and put together; what json.Read answers, told by its verdict. Conditions: as J28's.
  The tokens of a text one behind the other; two rows of bytes that grow beside each other. Conditions: none.
-/
import Derived.Test.YtlahlnocjfphjaaGreatDoorJoined40
import Derived.Test.YtlahlnocjfphjaaGreatDoorExtraKJBlanks0
import Derived.Test.YtlahlnocjfphjaaGreatDoorJoined46
import Derived.Laws.AppendOwnNone
namespace Go.Proofs.YtlahlnocjfphjaaGreatDoor
open Go.RowKit

theorem takeS_eq (fs : ByteArray) (l : List UInt8) (i : Nat) : takeS fs l i = if Lx.hasAt l (Lx.pass l Lx.blankB i) (may fs) = true then Lx.readL l (Lx.pass l Lx.blankB i) else .error (Lx.pass l Lx.blankB i + 1) := by
  unfold takeS takeL Lx.nextL
  rw [Lx.pass_stop (Lx.pass_end l Lx.blankB i)]
/-- Bytes that are read alike as far as the bad place. -/
structure Lk (l l' : List UInt8) (n : Nat) : Prop where
  len : n ≤ l'.length + 1
  ok : ∀ fs i t, takeS fs l i = .ok t → t.to < n → takeS fs l' i = .ok t
  err : ∀ fs i, i < n → i ≤ l.length → takeS fs l i = .error n → takeS fs l' i = .error n
  key : ∀ fs i t, takeS fs l i = .ok t → t.kind = 1 → t.to = n → takeS fs l' i = .ok t ∨ takeS fs l' i = .error n
theorem takeS_at {fs : ByteArray} {l : List UInt8} {i : Nat} {t : Lx.Tok} (h : takeS fs l i = .ok t) : Lx.pass l Lx.blankB i < l.length ∧ Lx.hasAt l (Lx.pass l Lx.blankB i) (may fs) = true ∧ Lx.readL l (Lx.pass l Lx.blankB i) = .ok t ∧ Lx.pass l Lx.blankB i < t.to := by
  rw [takeS_eq] at h
  split at h
  · rename_i hh
    have hlt := Lx.hasAt_lt hh
    refine ⟨hlt, hh, h, ?_⟩
    rcases Lx.readL_le (Nat.le_of_lt hlt) h with ⟨_, e⟩ | ⟨e, _⟩
    · omega
    · exact e
  · cases h
theorem takeS_gt {fs : ByteArray} {l : List UInt8} {i n : Nat} (hi : i ≤ l.length) (h : takeS fs l i = .error n) : i < n ∧ n ≤ l.length + 1 := by
  rw [takeS_eq] at h
  have hge := Lx.pass_ge l Lx.blankB i
  have hle := Lx.pass_le (l := l) (p := Lx.blankB) hi
  split at h
  · rename_i hh
    have := Lx.read_bad_le hle h
    omega
  · injection h with h; omega
theorem lk_more (l more : List UInt8) {n : Nat} (hn : n ≤ l.length) : Lk l (l.take n ++ more) n := by
  have hA := Lx.agree_take l more n hn
  refine ⟨by simp; omega, fun fs i t h ht => ?_, fun fs i hi hil h => ?_, fun fs i t h hk ht => ?_⟩
  · obtain ⟨h1, h2, h3, h4⟩ := takeS_at h
    rw [takeS_eq, Lx.pass_agree hA Lx.blankB (by omega), hA.has (by omega), h2]
    simp only [↓reduceIte]
    exact Lx.read_agree2 hA h1 h3 ht
  · have hle := Lx.pass_le (l := l) (p := Lx.blankB) hil
    rw [takeS_eq] at h
    split at h
    · rename_i hh
      obtain ⟨e1, e2⟩ := Lx.readL_err hA hle h
      rw [takeS_eq, Lx.pass_agree hA Lx.blankB e2, hA.has e2, hh]
      simp only [↓reduceIte]
      exact e1
    · rename_i hh
      injection h with h
      have e2 : Lx.pass l Lx.blankB i < n := by omega
      rw [takeS_eq, Lx.pass_agree hA Lx.blankB e2, hA.has e2, if_neg hh, h]
  · obtain ⟨h1, h2, h3, h4⟩ := takeS_at h
    refine Or.inl ?_
    rw [takeS_eq, Lx.pass_agree hA Lx.blankB (by omega), hA.has (by omega), h2]
    simp only [↓reduceIte]
    exact Lx.read_agree hA (by omega) h3 (by omega) (by omega) (by omega)
theorem lk_cut (l : List UInt8) {N : Nat} (hN : N ≤ l.length) : Lk l (l.take N) (N + 1) := by
  have hA := Lx.agree_cut l hN
  refine ⟨by simp; omega, fun fs i t h ht => ?_, fun fs i hi hil h => ?_, fun fs i t h hk ht => ?_⟩
  · obtain ⟨h1, h2, h3, h4⟩ := takeS_at h
    rw [takeS_eq, Lx.pass_agree hA Lx.blankB (by omega), hA.has (by omega), h2]
    simp only [↓reduceIte]
    exact Lx.read_cut hN h1 h3 (by omega)
  · have hle := Lx.pass_le (l := l) (p := Lx.blankB) hil
    have hend : Lx.pass l Lx.blankB i = N → takeS fs (l.take N) i = .error (N + 1) := fun e => by
      rw [takeS_eq, Lx.pass_cut_end hN Lx.blankB (by omega) e, Lx.cut_out (Nat.le_refl _), if_neg (by simp)]
    rw [takeS_eq] at h
    split at h
    · rename_i hh
      have hb := Lx.read_bad_le hle h
      by_cases hp : Lx.pass l Lx.blankB i < N
      · rw [takeS_eq, Lx.pass_agree hA Lx.blankB hp, hA.has hp, hh]
        simp only [↓reduceIte]
        exact Lx.read_cut_err hN hp h
      · exact hend (by omega)
    · rename_i hh
      injection h with h
      exact hend (by omega)
  · obtain ⟨h1, h2, h3, h4⟩ := takeS_at h
    have hp : Lx.pass l Lx.blankB i < N := by
      have hfr : ∃ f, Lx.textF l (Lx.pass l Lx.blankB i) f (Lx.pass l Lx.blankB i + 1) [] = .ok t := by
        unfold Lx.readL at h3
        rw [if_neg (by omega)] at h3
        split at h3
        · injection h3 with h3; rw [← h3] at hk; simp at hk
        · have hst : ∀ (kd : Nat) (y : Lx.Pl), kd ≠ 1 → Lx.stands kd l (Lx.pass l Lx.blankB i) y = .ok t → False := fun kd y hkd hy => by
            obtain ⟨e, _, hte⟩ := Lx.stands_ok hy
            rw [hte] at hk; exact hkd hk
          split at h3
          · exact (hst 3 _ (by decide) h3).elim
          · split at h3
            · exact (hst 3 _ (by decide) h3).elim
            · split at h3
              · exact (hst 3 _ (by decide) h3).elim
              · split at h3
                · exact (hst 2 _ (by decide) h3).elim
                · split at h3
                  · exact ⟨_, h3⟩
                  · cases h3
      obtain ⟨f, hf⟩ := hfr
      have := (Lx.textF_gt _ hf).1
      omega
    refine Or.inr ?_
    rw [takeS_eq, Lx.pass_agree hA Lx.blankB hp, hA.has hp, h2]
    simp only [↓reduceIte]
    exact Lx.read_cut_text hN hp h3 hk ht
/-- Of a key's first byte: a string. -/
theorem key_kind {l : List UInt8} {i : Nat} {t : Lx.Tok} (hl : l.length ≤ 1048576) (h : takeS fosC l i = .ok t) (hf : sgnB t sgF = false) : t.kind = 1 := by
  obtain ⟨h1, h2, h3, h4⟩ := takeS_at h
  generalize Lx.pass l Lx.blankB i = p at *
  rw [Lx.hasAt_in _ h1] at h2
  have hb : Lx.bx l p = 34 ∨ Lx.bx l p = 125 := by
    have e2 : Lx.bx l p = (l[p].toNat : Int) := by simp [Lx.bx, h1]
    have : ∀ c : Nat, c < 256 → may fosC (c : Int) = true → c = 34 ∨ c = 125 := by decide +kernel
    rw [e2] at h2 ⊢
    have := this _ (UInt8.toNat_lt _) h2
    omega
  rcases hb with hb | hb
  · have hs : Lx.signB (Lx.bx l p) = false := by rw [hb]; decide
    rw [(Lx.readL_word h1 hs).2.2.2.2.2 hb] at h3
    exact (Lx.textF_gt _ h3).2.2.1
  · exfalso
    have hs : Lx.signB (Lx.bx l p) = true := by rw [hb]; decide
    rw [Lx.readL_sign h1 hs] at h3
    injection h3 with h3
    have e1 : Lx.sub l p (p + 1) = [l[p]] := by
      unfold Lx.sub
      rw [show p + 1 - p = 1 by omega, List.drop_eq_getElem_cons h1]
      rfl
    have e2 : l[p] = 125 := by
      have : Lx.bx l p = (l[p].toNat : Int) := by simp [Lx.bx, h1]
      rw [this] at hb
      have hb : l[p].toNat = 125 := by omega
      exact UInt8.toNat_inj.1 hb
    rw [← h3, e1, e2] at hf
    unfold sgnB isL jeqT at hf
    have : (decide (((4 : Nat) : Int) = 4 ∧ txtB ⟨4, [125], p, p + 1⟩ = sgF ∧ (p : Int) = (p : Int) ∧ ((p + 1 : Nat) : Int) = wrap64 ((p : Int) + (sgF.size : Int)))) = true := by
      rw [decide_eq_true_eq]
      refine ⟨rfl, rfl, rfl, ?_⟩
      have e : (sgF.size : Int) = 1 := rfl
      rw [e]
      unfold wrap64
      omega
    rw [this] at hf
    cases hf
theorem key_kind' {l : List UInt8} {i : Nat} {t : Lx.Tok} (h : takeS fos l i = .ok t) : t.kind = 1 := by
  obtain ⟨h1, h2, h3, h4⟩ := takeS_at h
  generalize Lx.pass l Lx.blankB i = p at *
  rw [Lx.hasAt_in _ h1] at h2
  have hb : Lx.bx l p = 34 := by
    have e2 : Lx.bx l p = (l[p].toNat : Int) := by simp [Lx.bx, h1]
    have : ∀ c : Nat, c < 256 → may fos (c : Int) = true → c = 34 := by decide +kernel
    rw [e2] at h2 ⊢
    have := this _ (UInt8.toNat_lt _) h2
    omega
  have hs : Lx.signB (Lx.bx l p) = false := by rw [hb]; decide
  rw [(Lx.readL_word h1 hs).2.2.2.2.2 hb] at h3
  exact (Lx.textF_gt _ h3).2.2.1
end Go.Proofs.YtlahlnocjfphjaaGreatDoor

namespace Go.Proofs.YtlahlnocjfphjaaGreatDoor
open Go.RowKit

theorem valueOf_gt {l : List UInt8} {t : Lx.Tok} {s : SS} {n : Nat} (h : valueOfS l t s = .error n) (hs : s.i ≤ l.length) : n = t.to ∨ (s.i < n ∧ n ≤ l.length + 1) := by
  unfold valueOfS at h
  split at h
  · injection h with h; exact Or.inl h.symm
  · split at h
    · rename_i e h1
      injection h with h; subst h
      exact Or.inr (takeS_gt hs h1)
    · rename_i t1 h1
      have o1 := takeL_ok h1
      split at h
      · rename_i e h2
        injection h with h; subst h
        have := takeS_gt o1.2.1 h2
        exact Or.inr ⟨by omega, this.2⟩
      · cases h
theorem valueOf_err {l l' : List UInt8} {n : Nat} (H : Lk l l' n) {t : Lx.Tok} {s : SS} (h : valueOfS l t s = .error n) (hs : s.i ≤ l.length) : valueOfS l' t s = .error n := by
  unfold valueOfS at h ⊢
  split at h
  · rename_i hd
    rw [if_pos hd]; exact h
  · rename_i hd
    rw [if_neg hd]
    cases h1 : takeS sgD l s.i with
    | error e =>
      rw [h1] at h
      injection h with h; subst h
      rw [H.err _ _ (takeS_gt hs h1).1 hs h1]
    | ok t1 =>
      rw [h1] at h
      have o1 := takeL_ok h1
      simp only at h
      cases h2 : takeS fov l t1.to with
      | error e =>
        rw [h2] at h
        injection h with h; subst h
        have g2 := takeS_gt o1.2.1 h2
        rw [H.ok _ _ _ h1 g2.1]
        simp only
        rw [H.err _ _ g2.1 o1.2.1 h2]
      | ok t2 => rw [h2] at h; cases h
theorem valueOf_ok {l l' : List UInt8} {n : Nat} (H : Lk l l' n) {t : Lx.Tok} {s : SS} {x : Lx.Tok × SS} (h : valueOfS l t s = .ok x) (hx : x.2.i < n) : valueOfS l' t s = .ok x := by
  unfold valueOfS at h ⊢
  split at h
  · cases h
  · rename_i hd
    rw [if_neg hd]
    cases h1 : takeS sgD l s.i with
    | error e => rw [h1] at h; cases h
    | ok t1 =>
      rw [h1] at h
      simp only at h
      cases h2 : takeS fov l t1.to with
      | error e => rw [h2] at h; cases h
      | ok t2 =>
        rw [h2] at h
        have o2 := takeL_ok h2
        have hx2 : t2.to < n := by injection h with h; rw [← h] at hx; exact hx
        rw [H.ok _ _ _ h1 (by omega)]
        simp only
        rw [H.ok _ _ _ h2 hx2]
        exact h
theorem valueOf_le {l : List UInt8} {t : Lx.Tok} {s : SS} {x : Lx.Tok × SS} (h : valueOfS l t s = .ok x) : x.2.i ≤ l.length := by
  unfold valueOfS at h
  split at h
  · cases h
  · split at h
    · cases h
    · split at h
      · cases h
      · rename_i t2 h2
        injection h with h
        rw [← h]
        exact (takeL_ok h2).2.1
theorem first_le {l : List UInt8} {m : LM} : ∀ k t s x, firstS l m k t s = .ok x → s.i ≤ x.2.i
  | 0, _, _, _, h => by simp [firstS] at h
  | k + 1, t, s, x, h => by
    unfold firstS at h
    split at h
    · split at h
      · cases h
      · rename_i t1 h1
        have := first_le k _ _ _ h
        have e : ({ openS 5 s with i := t1.to } : SS).i = t1.to := rfl
        rw [e] at this
        have := (takeL_ok h1).1
        omega
    · split at h
      · split at h
        · cases h
        · rename_i t1 h1
          have o1 := (takeL_ok h1).1
          have e : ({ openS 6 s with i := t1.to } : SS).i = t1.to := rfl
          split at h
          · have := first_le k _ _ _ h
            rw [e] at this
            omega
          · split at h
            · cases h
            · rename_i t2 s2 h2
              have o2 := (valueOfS_ok h2).1
              rw [e] at o2
              have := first_le k _ _ _ h
              simp only at o2
              omega
      · split at h
        · injection h with h; rw [← h]; exact Nat.le_refl _
        · injection h with h; rw [← h]; exact Nat.le_refl _
theorem first_gt {l : List UInt8} {m : LM} {n : Nat} : ∀ k t s, firstS l m k t s = .error n → s.i ≤ l.length → l.length < k + s.i → s.i < n ∧ n ≤ l.length + 1
  | 0, _, s, h, hs, hk => by omega
  | k + 1, t, s, h, hs, hk => by
    unfold firstS at h
    split at h
    · split at h
      · rename_i e h1
        injection h with h; subst h
        exact takeS_gt hs h1
      · rename_i t1 h1
        have o1 := takeL_ok h1
        have := first_gt k _ _ h o1.2.1 (by show l.length < k + t1.to; omega)
        have e : ({ openS 5 s with i := t1.to } : SS).i = t1.to := rfl
        rw [e] at this
        omega
    · split at h
      · split at h
        · rename_i e h1
          injection h with h; subst h
          exact takeS_gt hs h1
        · rename_i t1 h1
          have o1 := takeL_ok h1
          split at h
          · have := first_gt k _ _ h o1.2.1 (by show l.length < k + t1.to; omega)
            have e : ({ openS 6 s with i := t1.to } : SS).i = t1.to := rfl
            rw [e] at this
            omega
          · split at h
            · rename_i e h2
              injection h with h; subst h
              have e : ({ openS 6 s with i := t1.to } : SS).i = t1.to := rfl
              rcases valueOf_gt h2 o1.2.1 with g | g
              · omega
              · rw [e] at g; omega
            · rename_i t2 s2 h2
              have o2 := (valueOfS_ok h2).1
              have hs2 : s2.i ≤ l.length := valueOf_le h2
              have e : ({ openS 6 s with i := t1.to } : SS).i = t1.to := rfl
              rw [e] at o2
              simp only at o2
              have := first_gt k _ _ h hs2 (by omega)
              omega
      · split at h <;> cases h
theorem first_err {l l' : List UInt8} {m : LM} {n : Nat} (H : Lk l l' n) (hl : l.length ≤ 1048576) : ∀ k k' t s, firstS l m k t s = .error n → s.i ≤ l.length → l.length < k + s.i → l'.length < k' + s.i → firstS l' m k' t s = .error n
  | 0, _, _, s, _, hs, hk, _ => by omega
  | k + 1, 0, t, s, h, hs, hk, hk' => by
    have := (first_gt _ _ _ h hs hk).1
    have := H.len
    omega
  | k + 1, k' + 1, t, s, h, hs, hk, hk' => by
    unfold firstS at h ⊢
    split at h
    · rename_i c1
      rw [if_pos c1]
      cases h1 : takeS fovC l s.i with
      | error e =>
        rw [h1] at h
        injection h with h; subst h
        rw [H.err _ _ (takeS_gt hs h1).1 hs h1]
      | ok t1 =>
        rw [h1] at h
        have o1 := takeL_ok h1
        have g := (first_gt k _ _ h o1.2.1 (by show l.length < k + t1.to; omega)).1
        have e : ({ openS 5 s with i := t1.to } : SS).i = t1.to := rfl
        rw [e] at g
        rw [H.ok _ _ _ h1 g]
        exact first_err H hl k k' _ _ h o1.2.1 (by show l.length < k + t1.to; omega) (by show l'.length < k' + t1.to; omega)
    · rename_i c1
      rw [if_neg c1]
      split at h
      · rename_i c2
        rw [if_pos c2]
        cases h1 : takeS fosC l s.i with
        | error e =>
          rw [h1] at h
          injection h with h; subst h
          rw [H.err _ _ (takeS_gt hs h1).1 hs h1]
        | ok t1 =>
          rw [h1] at h
          have o1 := takeL_ok h1
          simp only at h
          by_cases c3 : sgnB t1 sgF = true
          · rw [if_pos c3] at h
            have g := (first_gt k _ _ h o1.2.1 (by show l.length < k + t1.to; omega)).1
            have e : ({ openS 6 s with i := t1.to } : SS).i = t1.to := rfl
            rw [e] at g
            rw [H.ok _ _ _ h1 g]
            simp only
            rw [if_pos c3]
            exact first_err H hl k k' _ _ h o1.2.1 (by show l.length < k + t1.to; omega) (by show l'.length < k' + t1.to; omega)
          · rw [if_neg c3] at h
            cases h2 : valueOfS l t1 { openS 6 s with i := t1.to } with
            | error e0 =>
              rw [h2] at h
              injection h with h; subst h
              have hv := valueOf_err H h2 o1.2.1
              have e : ({ openS 6 s with i := t1.to } : SS).i = t1.to := rfl
              have hcase : t1.to < e0 ∨ t1.to = e0 := by
                rcases valueOf_gt h2 o1.2.1 with g | g
                · exact Or.inr g.symm
                · rw [e] at g; exact Or.inl g.1
              rcases hcase with g | g
              · rw [H.ok _ _ _ h1 g]
                simp only
                rw [if_neg c3, hv]
              · rcases H.key _ _ _ h1 (key_kind hl h1 (by simpa using c3)) g with q | q
                · rw [q]
                  simp only
                  rw [if_neg c3, hv]
                · rw [q]
            | ok y =>
              obtain ⟨t2, s2⟩ := y
              rw [h2] at h
              have o2 := (valueOfS_ok h2).1
              have hs2 : s2.i ≤ l.length := valueOf_le h2
              have e : ({ openS 6 s with i := t1.to } : SS).i = t1.to := rfl
              rw [e] at o2
              simp only at o2 h
              have g := (first_gt k _ _ h hs2 (by omega)).1
              rw [H.ok _ _ _ h1 (by omega)]
              simp only
              rw [if_neg c3, valueOf_ok H h2 g]
              exact first_err H hl k k' _ _ h hs2 (by omega) (by omega)
      · split at h <;> cases h
theorem first_ok {l l' : List UInt8} {m : LM} {n : Nat} (H : Lk l l' n) : ∀ k k' t s x, firstS l m k t s = .ok x → x.2.i < n → l'.length < k' + s.i → firstS l' m k' t s = .ok x
  | 0, _, _, _, _, h, _, _ => by simp [firstS] at h
  | k + 1, 0, t, s, x, h, hx, hk' => by
    have := (first_le _ _ _ _ h)
    have := H.len
    omega
  | k + 1, k' + 1, t, s, x, h, hx, hk' => by
    unfold firstS at h ⊢
    split at h
    · rename_i c1
      rw [if_pos c1]
      cases h1 : takeS fovC l s.i with
      | error e => rw [h1] at h; cases h
      | ok t1 =>
        rw [h1] at h
        have o1 := takeL_ok h1
        have g := first_le _ _ _ _ h
        have e : ({ openS 5 s with i := t1.to } : SS).i = t1.to := rfl
        rw [e] at g
        rw [H.ok _ _ _ h1 (by omega)]
        exact first_ok H k k' _ _ _ h hx (by show l'.length < k' + t1.to; omega)
    · rename_i c1
      rw [if_neg c1]
      split at h
      · rename_i c2
        rw [if_pos c2]
        cases h1 : takeS fosC l s.i with
        | error e => rw [h1] at h; cases h
        | ok t1 =>
          rw [h1] at h
          have o1 := takeL_ok h1
          simp only at h
          by_cases c3 : sgnB t1 sgF = true
          · rw [if_pos c3] at h
            have g := first_le _ _ _ _ h
            have e : ({ openS 6 s with i := t1.to } : SS).i = t1.to := rfl
            rw [e] at g
            rw [H.ok _ _ _ h1 (by omega)]
            simp only
            rw [if_pos c3]
            exact first_ok H k k' _ _ _ h hx (by show l'.length < k' + t1.to; omega)
          · rw [if_neg c3] at h
            cases h2 : valueOfS l t1 { openS 6 s with i := t1.to } with
            | error e => rw [h2] at h; cases h
            | ok y =>
              obtain ⟨t2, s2⟩ := y
              rw [h2] at h
              have o2 := (valueOfS_ok h2).1
              have e : ({ openS 6 s with i := t1.to } : SS).i = t1.to := rfl
              rw [e] at o2
              simp only at o2 h
              have g := first_le _ _ _ _ h
              rw [H.ok _ _ _ h1 (by omega)]
              simp only
              rw [if_neg c3, valueOf_ok H h2 (by show s2.i < n; omega)]
              exact first_ok H k k' _ _ _ h hx (by omega)
      · rename_i c2
        rw [if_neg c2]
        exact h
end Go.Proofs.YtlahlnocjfphjaaGreatDoor

namespace Go.Proofs.YtlahlnocjfphjaaGreatDoor
open Go.RowKit

theorem nextOf_le {l : List UInt8} {s : SS} {x : Lx.Tok × SS} (h : nextOfS l s = .ok x) : s.i < x.2.i ∧ x.2.i ≤ l.length := by
  unfold nextOfS at h
  split at h
  · split at h
    · cases h
    · rename_i t h1
      have o1 := (takeL_ok h1).1
      have o2 := (valueOfS_ok h).1
      have e : ({ s with i := t.to } : SS).i = t.to := rfl
      rw [e] at o2
      exact ⟨by omega, valueOf_le h⟩
  · split at h
    · cases h
    · rename_i t h1
      injection h with h
      rw [← h]
      exact ⟨(takeL_ok h1).1, (takeL_ok h1).2.1⟩
theorem nextOf_gt {l : List UInt8} {s : SS} {n : Nat} (h : nextOfS l s = .error n) (hs : s.i ≤ l.length) : s.i < n ∧ n ≤ l.length + 1 := by
  unfold nextOfS at h
  split at h
  · split at h
    · rename_i e h1
      injection h with h; subst h
      exact takeS_gt hs h1
    · rename_i t h1
      have o1 := takeL_ok h1
      have e : ({ s with i := t.to } : SS).i = t.to := rfl
      rcases valueOf_gt h o1.2.1 with g | g
      · omega
      · rw [e] at g; omega
  · split at h
    · rename_i e h1
      injection h with h; subst h
      exact takeS_gt hs h1
    · cases h
theorem nextOf_err {l l' : List UInt8} {n : Nat} (H : Lk l l' n) {s : SS} (h : nextOfS l s = .error n) (hs : s.i ≤ l.length) : nextOfS l' s = .error n := by
  unfold nextOfS at h ⊢
  split at h
  · rename_i c1
    rw [if_pos c1]
    cases h1 : takeS fos l s.i with
    | error e =>
      rw [h1] at h
      injection h with h; subst h
      rw [H.err _ _ (takeS_gt hs h1).1 hs h1]
    | ok t =>
      rw [h1] at h
      have o1 := takeL_ok h1
      simp only at h
      have e : ({ s with i := t.to } : SS).i = t.to := rfl
      have hv := valueOf_err H h o1.2.1
      have hcase : t.to < n ∨ t.to = n := by
        rcases valueOf_gt h o1.2.1 with g | g
        · exact Or.inr g.symm
        · rw [e] at g; exact Or.inl g.1
      rcases hcase with g | g
      · rw [H.ok _ _ _ h1 g]; exact hv
      · rcases H.key _ _ _ h1 (key_kind' h1) g with q | q
        · rw [q]; exact hv
        · rw [q]
  · rename_i c1
    rw [if_neg c1]
    cases h1 : takeS fov l s.i with
    | error e =>
      rw [h1] at h
      injection h with h; subst h
      rw [H.err _ _ (takeS_gt hs h1).1 hs h1]
    | ok t => rw [h1] at h; cases h
theorem nextOf_ok {l l' : List UInt8} {n : Nat} (H : Lk l l' n) {s : SS} {x : Lx.Tok × SS} (h : nextOfS l s = .ok x) (hx : x.2.i < n) : nextOfS l' s = .ok x := by
  unfold nextOfS at h ⊢
  split at h
  · rename_i c1
    rw [if_pos c1]
    cases h1 : takeS fos l s.i with
    | error e => rw [h1] at h; cases h
    | ok t =>
      rw [h1] at h
      simp only at h
      have o2 := (valueOfS_ok h).1
      have e : ({ s with i := t.to } : SS).i = t.to := rfl
      rw [e] at o2
      rw [H.ok _ _ _ h1 (by omega)]
      exact valueOf_ok H h hx
  · rename_i c1
    rw [if_neg c1]
    cases h1 : takeS fov l s.i with
    | error e => rw [h1] at h; cases h
    | ok t =>
      rw [h1] at h
      have hx2 : t.to < n := by injection h with h; rw [← h] at hx; exact hx
      rw [H.ok _ _ _ h1 hx2]
      exact h
theorem first_hi {l : List UInt8} {m : LM} : ∀ k t s x, firstS l m k t s = .ok x → s.i ≤ l.length → x.2.i ≤ l.length
  | 0, _, _, _, h, _ => by simp [firstS] at h
  | k + 1, t, s, x, h, hs => by
    unfold firstS at h
    split at h
    · split at h
      · cases h
      · rename_i t1 h1
        exact first_hi k _ _ _ h (takeL_ok h1).2.1
    · split at h
      · split at h
        · cases h
        · rename_i t1 h1
          split at h
          · exact first_hi k _ _ _ h (takeL_ok h1).2.1
          · split at h
            · cases h
            · rename_i t2 s2 h2
              exact first_hi k _ _ _ h (valueOf_le h2)
      · split at h
        · injection h with h; rw [← h]; exact hs
        · injection h with h; rw [← h]; exact hs
theorem loop_gt {l : List UInt8} {m : LM} {n : Nat} : ∀ k v s, loopS l m k v s = .error n → s.i ≤ l.length → l.length < k + s.i → s.i < n ∧ n ≤ l.length + 1
  | 0, _, s, _, hs, hk => by omega
  | k + 1, v, s, h, hs, hk => by
    unfold loopS at h
    split at h
    · cases h
    · split at h
      · rename_i e h1
        injection h with h; subst h
        exact takeS_gt hs h1
      · rename_i t h1
        have o1 := takeL_ok h1
        split at h
        · split at h
          · rename_i e h2
            injection h with h; subst h
            have g := nextOf_gt h2 (show ({ addV v s with i := t.to } : SS).i ≤ l.length from o1.2.1)
            have e : ({ addV v s with i := t.to } : SS).i = t.to := rfl
            rw [e] at g
            omega
          · rename_i t1 s1 h2
            have g2 := nextOf_le h2
            have e : ({ addV v s with i := t.to } : SS).i = t.to := rfl
            rw [e] at g2
            simp only at g2
            split at h
            · rename_i e h3
              injection h with h; subst h
              have := first_gt _ _ _ h3 g2.2 (by omega)
              omega
            · rename_i v1 s2 h3
              have h4 := first_le _ _ _ _ h3
              have h5 := first_hi _ _ _ _ h3 g2.2
              simp only at h4 h5
              have := loop_gt k _ _ h h5 (by omega)
              omega
        · have := loop_gt k _ _ h (show ((closeS { addV v s with i := t.to }).2).i ≤ l.length from o1.2.1) (by show l.length < k + t.to; omega)
          have e : ((closeS { addV v s with i := t.to }).2).i = t.to := rfl
          rw [e] at this
          omega
theorem loop_le {l : List UInt8} {m : LM} : ∀ k v s x, loopS l m k v s = .ok x → s.i ≤ x.2.i
  | 0, _, _, _, h => by simp [loopS] at h
  | k + 1, v, s, x, h => by
    unfold loopS at h
    split at h
    · injection h with h; rw [← h]; exact Nat.le_refl _
    · split at h
      · cases h
      · rename_i t h1
        have o1 := takeL_ok h1
        split at h
        · split at h
          · cases h
          · rename_i t1 s1 h2
            have g2 := nextOf_le h2
            have e : ({ addV v s with i := t.to } : SS).i = t.to := rfl
            rw [e] at g2
            simp only at g2
            split at h
            · cases h
            · rename_i v1 s2 h3
              have h4 := first_le _ _ _ _ h3
              have h5 := loop_le k _ _ _ h
              simp only at h4
              omega
        · have h5 := loop_le k _ _ _ h
          have e : ((closeS { addV v s with i := t.to }).2).i = t.to := rfl
          rw [e] at h5
          omega
theorem loop_hi {l : List UInt8} {m : LM} : ∀ k v s x, loopS l m k v s = .ok x → s.i ≤ l.length → x.2.i ≤ l.length
  | 0, _, _, _, h, _ => by simp [loopS] at h
  | k + 1, v, s, x, h, hs => by
    unfold loopS at h
    split at h
    · injection h with h; rw [← h]; exact hs
    · split at h
      · cases h
      · rename_i t h1
        split at h
        · split at h
          · cases h
          · rename_i t1 s1 h2
            split at h
            · cases h
            · rename_i v1 s2 h3
              exact loop_hi k _ _ _ h (first_hi _ _ _ _ h3 (nextOf_le h2).2)
        · exact loop_hi k _ _ _ h (takeL_ok h1).2.1
theorem loop_err {l l' : List UInt8} {m : LM} {n : Nat} (H : Lk l l' n) (hl : l.length ≤ 1048576) : ∀ k k' v s, loopS l m k v s = .error n → s.i ≤ l.length → l.length < k + s.i → l'.length < k' + s.i → loopS l' m k' v s = .error n
  | 0, _, _, s, _, hs, hk, _ => by omega
  | k + 1, 0, v, s, h, hs, hk, hk' => by
    have := (loop_gt _ _ _ h hs hk).1
    have := H.len
    omega
  | k + 1, k' + 1, v, s, h, hs, hk, hk' => by
    unfold loopS at h ⊢
    split at h
    · cases h
    · rename_i c0
      rw [if_neg c0]
      cases h1 : takeS (closing s) l s.i with
      | error e =>
        rw [h1] at h
        injection h with h; subst h
        rw [H.err _ _ (takeS_gt hs h1).1 hs h1]
      | ok t =>
        rw [h1] at h
        have o1 := takeL_ok h1
        simp only at h
        have e : ({ addV v s with i := t.to } : SS).i = t.to := rfl
        by_cases c1 : sgnB t sgK = true
        · rw [if_pos c1] at h
          cases h2 : nextOfS l { addV v s with i := t.to } with
          | error e2 =>
            rw [h2] at h
            injection h with h; subst h
            have g := (nextOf_gt h2 (show ({ addV v s with i := t.to } : SS).i ≤ l.length from o1.2.1)).1
            rw [e] at g
            rw [H.ok _ _ _ h1 g]
            simp only
            rw [if_pos c1, nextOf_err H h2 o1.2.1]
          | ok y =>
            obtain ⟨t1, s1⟩ := y
            rw [h2] at h
            have g2 := nextOf_le h2
            rw [e] at g2
            simp only at g2 h
            cases h3 : firstS l m (l.length + 1) t1 s1 with
            | error e3 =>
              rw [h3] at h
              injection h with h; subst h
              have g3 := (first_gt _ _ _ h3 g2.2 (by omega)).1
              rw [H.ok _ _ _ h1 (by omega)]
              simp only
              rw [if_pos c1, nextOf_ok H h2 (by show s1.i < _; exact g3)]
              simp only
              rw [first_err H hl _ (l'.length + 1) _ _ h3 g2.2 (by omega) (by omega)]
            | ok z =>
              obtain ⟨v1, s2⟩ := z
              rw [h3] at h
              have h4 := first_le _ _ _ _ h3
              have h5 := first_hi _ _ _ _ h3 g2.2
              simp only at h4 h5 h
              have g5 := (loop_gt k _ _ h h5 (by omega)).1
              rw [H.ok _ _ _ h1 (by omega)]
              simp only
              rw [if_pos c1, nextOf_ok H h2 (by show s1.i < _; omega)]
              simp only
              rw [first_ok H _ (l'.length + 1) _ _ _ h3 (by show s2.i < _; omega) (by omega)]
              exact loop_err H hl k k' _ _ h h5 (by omega) (by omega)
        · rw [if_neg c1] at h
          have e2 : ((closeS { addV v s with i := t.to }).2).i = t.to := rfl
          have g := (loop_gt k _ _ h (show ((closeS { addV v s with i := t.to }).2).i ≤ l.length from o1.2.1) (by show l.length < k + t.to; omega)).1
          rw [e2] at g
          rw [H.ok _ _ _ h1 g]
          simp only
          rw [if_neg c1]
          exact loop_err H hl k k' _ _ h o1.2.1 (by show l.length < k + t.to; omega) (by show l'.length < k' + t.to; omega)
theorem loop_ok {l l' : List UInt8} {m : LM} {n : Nat} (H : Lk l l' n) : ∀ k k' v s x, loopS l m k v s = .ok x → x.2.i < n → l'.length < k' + s.i → loopS l' m k' v s = .ok x
  | 0, _, _, _, _, h, _, _ => by simp [loopS] at h
  | k + 1, 0, v, s, x, h, hx, hk' => by
    have := loop_le _ _ _ _ h
    have := H.len
    omega
  | k + 1, k' + 1, v, s, x, h, hx, hk' => by
    unfold loopS at h ⊢
    split at h
    · rename_i c0
      rw [if_pos c0]; exact h
    · rename_i c0
      rw [if_neg c0]
      cases h1 : takeS (closing s) l s.i with
      | error e => rw [h1] at h; cases h
      | ok t =>
        rw [h1] at h
        have o1 := takeL_ok h1
        simp only at h
        have e : ({ addV v s with i := t.to } : SS).i = t.to := rfl
        by_cases c1 : sgnB t sgK = true
        · rw [if_pos c1] at h
          cases h2 : nextOfS l { addV v s with i := t.to } with
          | error e2 => rw [h2] at h; cases h
          | ok y =>
            obtain ⟨t1, s1⟩ := y
            rw [h2] at h
            have g2 := nextOf_le h2
            rw [e] at g2
            simp only at g2 h
            cases h3 : firstS l m (l.length + 1) t1 s1 with
            | error e3 => rw [h3] at h; cases h
            | ok z =>
              obtain ⟨v1, s2⟩ := z
              rw [h3] at h
              have h4 := first_le _ _ _ _ h3
              simp only at h4 h
              have g5 := loop_le _ _ _ _ h
              rw [H.ok _ _ _ h1 (by omega)]
              simp only
              rw [if_pos c1, nextOf_ok H h2 (by show s1.i < _; omega)]
              simp only
              rw [first_ok H _ (l'.length + 1) _ _ _ h3 (by show s2.i < _; omega) (by omega)]
              exact loop_ok H k k' _ _ _ h hx (by omega)
        · rw [if_neg c1] at h
          have e2 : ((closeS { addV v s with i := t.to }).2).i = t.to := rfl
          have g := loop_le _ _ _ _ h
          rw [e2] at g
          rw [H.ok _ _ _ h1 (by omega)]
          simp only
          rw [if_neg c1]
          exact loop_ok H k k' _ _ _ h hx (by show l'.length < k' + t.to; omega)
/-- What a bad text's two turnings are, told by one relation. -/
theorem text_lk {l l' : List UInt8} {m : LM} {n : Nat} (H : Lk l l' n) (hl : l.length ≤ 1048576) (h : textS l m = .error n) :
    textS l' m = .error n ∨ ∃ v s, s.i ≤ l.length ∧ n = Lx.pass l Lx.blankB s.i + 1 ∧ Lx.pass l Lx.blankB s.i < l.length ∧ textS l' m = if Lx.pass l' Lx.blankB s.i < l'.length then .error (Lx.pass l' Lx.blankB s.i + 1) else .ok (v, s) := by
  unfold textS at h ⊢
  cases h1 : takeS fov l 0 with
  | error e =>
    rw [h1] at h
    injection h with h; subst h
    rw [H.err _ _ (takeS_gt (Nat.zero_le _) h1).1 (Nat.zero_le _) h1]
    exact Or.inl rfl
  | ok t =>
    rw [h1] at h
    have o1 := takeL_ok h1
    simp only at h
    cases h2 : firstS l m (l.length + 1) t ⟨t.to, [], 0, 0⟩ with
    | error e =>
      rw [h2] at h
      injection h with h; subst h
      have g := (first_gt _ _ _ h2 o1.2.1 (by show l.length < l.length + 1 + t.to; omega)).1
      rw [H.ok _ _ _ h1 g]
      simp only
      rw [first_err H hl _ (l'.length + 1) _ _ h2 o1.2.1 (by show l.length < l.length + 1 + t.to; omega) (by show l'.length < l'.length + 1 + t.to; omega)]
      exact Or.inl rfl
    | ok x =>
      rw [h2] at h
      have g2 := first_le _ _ _ _ h2
      have g3 := first_hi _ _ _ _ h2 o1.2.1
      have e0 : (SS.mk t.to [] 0 0).i = t.to := rfl
      rw [e0] at g2
      simp only at h
      cases h3 : loopS l m (l.length + 1) x.1 x.2 with
      | error e =>
        rw [h3] at h
        injection h with h; subst h
        have g := (loop_gt _ _ _ h3 g3 (by omega)).1
        rw [H.ok _ _ _ h1 (by omega)]
        simp only
        rw [first_ok H _ (l'.length + 1) _ _ _ h2 (by omega) (by show l'.length < l'.length + 1 + t.to; omega)]
        simp only
        rw [loop_err H hl _ (l'.length + 1) _ _ h3 g3 (by omega) (by omega)]
        exact Or.inl rfl
      | ok y =>
        obtain ⟨v, s⟩ := y
        rw [h3] at h
        have g4 := loop_le _ _ _ _ h3
        have g5 := loop_hi _ _ _ _ h3 g3
        simp only at h g4 g5
        split at h
        · rename_i hlt
          injection h with h
          have hge := Lx.pass_ge l Lx.blankB s.i
          refine Or.inr ⟨v, s, g5, h.symm, hlt, ?_⟩
          rw [H.ok _ _ _ h1 (by omega)]
          simp only
          rw [first_ok H _ (l'.length + 1) _ _ _ h2 (by omega) (by show l'.length < l'.length + 1 + t.to; omega)]
          simp only
          rw [loop_ok H _ (l'.length + 1) _ _ _ h3 (by show s.i < n; omega) (by omega)]
        · cases h
theorem text_gt {l : List UInt8} {m : LM} {n : Nat} (h : textS l m = .error n) : 1 ≤ n ∧ n ≤ l.length + 1 := by
  unfold textS at h
  split at h
  · rename_i e h1
    injection h with h; subst h
    have := takeS_gt (Nat.zero_le _) h1
    omega
  · rename_i t h1
    have o1 := takeL_ok h1
    split at h
    · rename_i e h2
      injection h with h; subst h
      have := first_gt _ _ _ h2 o1.2.1 (by show l.length < l.length + 1 + t.to; omega)
      omega
    · rename_i v s h2
      have g3 := first_hi _ _ _ _ h2 o1.2.1
      split at h
      · rename_i e h3
        injection h with h; subst h
        have := loop_gt _ _ _ h3 g3 (by omega)
        omega
      · split at h
        · injection h with h; omega
        · cases h
theorem text_more {l : List UInt8} {m : LM} {n : Nat} (hl : l.length ≤ 1048576) (h : textS l m = .error n) (hn : n ≤ l.length) (more : List UInt8) : textS (l.take n ++ more) m = .error n := by
  rcases text_lk (lk_more l more hn) hl h with e | ⟨v, s, hs, e1, e2, e⟩
  · exact e
  · have hA := Lx.agree_take l more n hn
    have hp : Lx.pass (l.take n ++ more) Lx.blankB s.i = Lx.pass l Lx.blankB s.i := Lx.pass_agree hA Lx.blankB (by omega)
    have := hA.le'
    rw [e, hp, if_pos (by omega), e1]
theorem text_cut {l : List UInt8} {m : LM} {n : Nat} (hl : l.length ≤ 1048576) (h : textS l m = .error n) : textS (l.take (n - 1)) m = .error n ∨ ∃ x, textS (l.take (n - 1)) m = .ok x := by
  have hg := text_gt h
  obtain ⟨N, rfl⟩ : ∃ N, n = N + 1 := ⟨n - 1, by omega⟩
  rw [show N + 1 - 1 = N by omega]
  rcases text_lk (lk_cut l (by omega)) hl h with e | ⟨v, s, hs, e1, e2, e⟩
  · exact Or.inl e
  · have hge := Lx.pass_ge l Lx.blankB s.i
    have hp : Lx.pass (l.take N) Lx.blankB s.i = N := Lx.pass_cut_end (by omega) Lx.blankB (by omega) (by omega)
    refine Or.inr ⟨(v, s), ?_⟩
    rw [e, hp, if_neg (by simp; omega)]
end Go.Proofs.YtlahlnocjfphjaaGreatDoor

namespace Go.Proofs.YtlahlnocjfphjaaGreatDoor.Lx
open Go.RowKit

theorem sh_at (x y : List UInt8) (p : Nat) : (x ++ y)[x.length + p]? = y[p]? := by
  rw [List.getElem?_append_right (by omega)]
  congr 1; omega
theorem sh_bx (x y : List UInt8) (p : Nat) : bx (x ++ y) (x.length + p) = bx y p := by
  unfold bx; rw [sh_at]
theorem sh_has (x y : List UInt8) (p : Nat) (q : Int → Bool) : hasAt (x ++ y) (x.length + p) q = hasAt y p q := by
  unfold hasAt
  rw [sh_bx]
  congr 1
  simp
theorem sh_sub (x y : List UInt8) (a e : Nat) : sub (x ++ y) (x.length + a) (x.length + e) = sub y a e := by
  unfold sub
  rw [show x.length + e - (x.length + a) = e - a by omega, List.drop_append, List.drop_of_length_le (by omega), List.nil_append]
  congr 2; omega
theorem sh_pass (x y : List UInt8) (q : Int → Bool) (d : Nat) : ∀ p, y.length - p = d → pass (x ++ y) q (x.length + p) = x.length + pass y q p := by
  induction d with
  | zero =>
    intro p hp
    rw [pass_stop (hasAt_out (l := y) q (by omega)), pass_stop (by rw [sh_has]; exact hasAt_out q (by omega))]
  | succ d ih =>
    intro p hp
    cases hh : hasAt y p q
    · rw [pass_stop hh, pass_stop (by rw [sh_has]; exact hh)]
    · rw [pass_go hh, pass_go (by rw [sh_has]; exact hh), Nat.add_assoc]
      exact ih (p + 1) (by omega)
theorem sh_pass' (x y : List UInt8) (q : Int → Bool) (p : Nat) : pass (x ++ y) q (x.length + p) = x.length + pass y q p := sh_pass x y q _ p rfl
def shP (d : Nat) : Pl → Pl
  | .ok k => .ok (d + k)
  | .error n => .error (d + n)
theorem sh_digits (x y : List UInt8) (i : Nat) : digitsL (x ++ y) (x.length + i) = shP x.length (digitsL y i) := by
  unfold digitsL
  rw [sh_has, Nat.add_assoc, sh_pass']
  split <;> rfl
theorem sh_aft (x y : List UInt8) (i : Nat) (q : Int → Bool) : aft (x ++ y) (x.length + i) q = x.length + aft y i q := by
  unfold aft
  rw [sh_has]
  split <;> omega
theorem sh_whole (x y : List UInt8) (i : Nat) : wholeL (x ++ y) (x.length + i) = shP x.length (wholeL y i) := by
  unfold wholeL
  rw [sh_aft, sh_has, sh_digits]
  split <;> rfl
theorem sh_exponent (x y : List UInt8) (i : Nat) : exponentL (x ++ y) (x.length + i) = shP x.length (exponentL y i) := by
  unfold exponentL
  rw [sh_aft, sh_digits]
theorem sh_frac (x y : List UInt8) (p : Pl) : fracPart (x ++ y) (shP x.length p) = shP x.length (fracPart y p) := by
  cases p with
  | error n => rfl
  | ok k =>
    simp only [shP, fracPart]
    rw [sh_has, Nat.add_assoc, sh_digits]
    split <;> rfl
theorem sh_exp (x y : List UInt8) (p : Pl) : expPart (x ++ y) (shP x.length p) = shP x.length (expPart y p) := by
  cases p with
  | error n => rfl
  | ok k =>
    simp only [shP, expPart]
    rw [sh_has, Nat.add_assoc, sh_exponent]
    split <;> rfl
theorem sh_number (x y : List UInt8) (i : Nat) : numberL (x ++ y) (x.length + i) = shP x.length (numberL y i) := by
  unfold numberL
  rw [sh_whole, sh_frac, sh_exp]
theorem sh_spelled (x y : List UInt8) (cs : List UInt8) : ∀ i, spelledL (x ++ y) (x.length + i) cs = shP x.length (spelledL y i cs) := by
  induction cs with
  | nil => intro i; rfl
  | cons c cs ih =>
    intro i
    simp only [spelledL]
    rw [sh_has, Nat.add_assoc, ih (i + 1)]
    split
    · rfl
    · simp only [shP]
def shU (d : Nat) : Except Nat (Nat × Nat) → Except Nat (Nat × Nat)
  | .ok r => .ok (r.1, d + r.2)
  | .error n => .error (d + n)
theorem sh_unitF (x y : List UInt8) (low : Bool) (k : Nat) : ∀ i val, unitF (x ++ y) low k (x.length + i) val = shU x.length (unitF y low k i val) := by
  induction k with
  | zero => intro i val; rfl
  | succ k ih =>
    intro i val
    simp only [unitF]
    rw [sh_has, sh_bx, Nat.add_assoc, ih (i + 1)]
    split
    · rfl
    · simp only [shU]
theorem sh_unit (x y : List UInt8) (low : Bool) (i : Nat) : unitL (x ++ y) low (x.length + i) = shU x.length (unitL y low i) := sh_unitF x y low 4 i 0
theorem sh_pair (x y : List UInt8) (i high : Nat) : pairL (x ++ y) (x.length + i) high = shU x.length (pairL y i high) := by
  unfold pairL
  rw [sh_spelled]
  cases spelledL y i [92, 117] with
  | error n => rfl
  | ok j =>
    simp only [shP]
    rw [sh_unit]
    cases unitL y true j with
    | error n => rfl
    | ok r => rfl
def shB (d : Nat) : Bp → Bp
  | .ok r => .ok (r.1, d + r.2)
  | .error n => .error (d + n)
theorem sh_point (x y : List UInt8) (i : Nat) : pointL (x ++ y) (x.length + i) = shB x.length (pointL y i) := by
  unfold pointL
  rw [sh_unit]
  cases unitL y false i with
  | error n => rfl
  | ok r =>
    obtain ⟨a, b⟩ := r
    simp only [shU]
    rw [sh_pair]
    by_cases c : 55296 ≤ a ∧ a ≤ 56319
    · rw [if_pos c, if_pos c]
      cases pairL y b a with
      | error n => simp only [shU, shB]
      | ok q => simp only [shU, shB]
    · rw [if_neg c, if_neg c]
      simp only [shB]
theorem sh_escape (x y : List UInt8) (i : Nat) : escapeL (x ++ y) (x.length + i) = shB x.length (escapeL y i) := by
  unfold escapeL
  rw [sh_has, Nat.add_assoc, Nat.add_assoc, sh_has, sh_has, sh_point, sh_bx]
  split
  · split
    · rfl
    · split
      · rfl
      · rfl
  · rfl
theorem sh_plain (x y : List UInt8) (i : Nat) : plainL (x ++ y) (x.length + i) = shP x.length (plainL y i) := by
  unfold plainL
  rw [sh_pass', sh_sub]
  split
  · rfl
  · simp only [shP]; congr 1; omega
def shT (d : Nat) : Tk → Tk
  | .ok t => .ok ⟨t.kind, t.text, d + t.fr, d + t.to⟩
  | .error n => .error (d + n)
theorem sh_textF (x y : List UInt8) (fr f : Nat) : ∀ i out, textF (x ++ y) (x.length + fr) f (x.length + i) out = shT x.length (textF y fr f i out) := by
  induction f with
  | zero => intro i out; rfl
  | succ f ih =>
    intro i out
    simp only [textF]
    rw [sh_plain]
    cases plainL y i with
    | error n => rfl
    | ok e =>
      simp only [shP]
      rw [sh_has, sh_sub, sh_escape]
      split
      · rfl
      · cases escapeL y e with
        | error n => rfl
        | ok r =>
          simp only [shB]
          exact ih r.2 _
theorem textF_more {l : List UInt8} {fr f i f' : Nat} {out : List UInt8} {t : Tok} (h : textF l fr f i out = .ok t) (hf : l.length < i + f') : textF l fr f' i out = .ok t :=
  textF_agree (l := l) (l' := l) (n := l.length) ⟨Nat.le_refl _, Nat.le_refl _, fun _ _ => rfl⟩ f h (textF_gt f h).2.2.2 hf
theorem sh_text {x y : List UInt8} {i : Nat} {t : Tok} (h : textL y i = .ok t) : textL (x ++ y) (x.length + i) = .ok ⟨t.kind, t.text, x.length + t.fr, x.length + t.to⟩ := by
  unfold textL at h ⊢
  have := sh_textF x y i (y.length + 1) (i + 1) []
  rw [h] at this
  exact textF_more this (by simp; omega)
theorem sh_stands {k : Nat} {x y : List UInt8} {i : Nat} {p : Pl} {t : Tok} (h : stands k y i p = .ok t) : stands k (x ++ y) (x.length + i) (shP x.length p) = .ok ⟨t.kind, t.text, x.length + t.fr, x.length + t.to⟩ := by
  obtain ⟨e, rfl, rfl⟩ := stands_ok h
  simp only [shP, stands]
  rw [sh_sub]
/-- What is read stays the same with more bytes ahead. -/
theorem sh_read {x y : List UInt8} {p : Nat} {t : Tok} (h : readL y p = .ok t) : readL (x ++ y) (x.length + p) = .ok ⟨t.kind, t.text, x.length + t.fr, x.length + t.to⟩ := by
  unfold readL at h ⊢
  rw [sh_bx]
  by_cases h0 : p = y.length
  · rw [if_pos h0] at h
    rw [if_pos (by simp; omega)]
    injection h with h
    rw [← h]
  · rw [if_neg h0] at h
    rw [if_neg (by simp; omega)]
    by_cases hs : signB (bx y p) = true
    · rw [if_pos hs] at h ⊢
      injection h with h
      rw [← h, Nat.add_assoc, sh_sub]
    · rw [if_neg hs] at h ⊢
      by_cases h1 : bx y p = 110
      · rw [if_pos h1] at h ⊢
        rw [sh_spelled]; exact sh_stands h
      · rw [if_neg h1] at h ⊢
        by_cases h2 : bx y p = 116
        · rw [if_pos h2] at h ⊢
          rw [sh_spelled]; exact sh_stands h
        · rw [if_neg h2] at h ⊢
          by_cases h3 : bx y p = 102
          · rw [if_pos h3] at h ⊢
            rw [sh_spelled]; exact sh_stands h
          · rw [if_neg h3] at h ⊢
            by_cases h4 : bx y p = 45 ∨ digitB (bx y p) = true
            · rw [if_pos h4] at h ⊢
              rw [sh_number]; exact sh_stands h
            · rw [if_neg h4] at h ⊢
              by_cases h5 : bx y p = 34
              · rw [if_pos h5] at h ⊢
                exact sh_text h
              · rw [if_neg h5] at h
                cases h
end Go.Proofs.YtlahlnocjfphjaaGreatDoor.Lx

namespace Go.Proofs.YtlahlnocjfphjaaGreatDoor.Lx
open Go.RowKit

def eE (c : Int) : Bool := c == 101 || c == 69
theorem pass_ext {l l' : List UInt8} (hA : Agree l l' l.length) (hd : hasAt l' l.length digitB = false) (d : Nat) : ∀ j, l.length - j = d → j ≤ l.length → pass l' digitB j = pass l digitB j := by
  induction d with
  | zero =>
    intro j h1 h2
    have : j = l.length := by omega
    subst this
    rw [pass_stop hd, pass_stop (hasAt_out _ (by omega))]
  | succ d ih =>
    intro j h1 h2
    cases hh : hasAt l j digitB
    · rw [pass_stop hh, pass_stop (by rw [hA.has (by omega)]; exact hh)]
    · rw [pass_go hh, pass_go (by rw [hA.has (by omega)]; exact hh)]
      exact ih (j + 1) (by omega) (by omega)
theorem digits_ext {l l' : List UInt8} (hA : Agree l l' l.length) (hd : hasAt l' l.length digitB = false) {i m : Nat} (h : digitsL l i = .ok m) : digitsL l' i = .ok m := by
  have e := digitsL_le h
  unfold digitsL at h ⊢
  rw [hA.has (by omega), pass_ext hA hd _ (i + 1) rfl (by omega)]
  exact h
theorem whole_ext {l l' : List UInt8} (hA : Agree l l' l.length) (hd : hasAt l' l.length digitB = false) {i m : Nat} (h : wholeL l i = .ok m) : wholeL l' i = .ok m := by
  have e := wholeL_le h
  unfold wholeL at h ⊢
  have ha := aft_le l i (· == 45)
  rw [aft_agree hA (by omega)]
  split at h
  · rename_i g
    have := hasAt_lt g
    rw [hA.has (by omega), if_pos g]
    exact h
  · rename_i g
    have e2 := digitsL_le h
    rw [hA.has (by omega), if_neg g]
    exact digits_ext hA hd h
theorem frac_ext {l l' : List UInt8} (hA : Agree l l' l.length) (hd : hasAt l' l.length digitB = false) (hp : hasAt l' l.length (· == 46) = false) {i m : Nat} (hi : i ≤ l.length) (h : fracPart l (.ok i) = .ok m) : fracPart l' (.ok i) = .ok m := by
  simp only [fracPart] at h ⊢
  split at h
  · rename_i g
    have := hasAt_lt g
    rw [hA.has (by omega), if_pos g]
    exact digits_ext hA hd h
  · rename_i g
    by_cases hk : i < l.length
    · rw [hA.has hk, if_neg g]; exact h
    · have e : i = l.length := by omega
      have hp' : hasAt l' i (· == 46) = false := by rw [e]; exact hp
      rw [hp']
      simpa using h
theorem exp_ext {l l' : List UInt8} (hA : Agree l l' l.length) (hd : hasAt l' l.length digitB = false) (he : hasAt l' l.length eE = false) {i m : Nat} (hi : i ≤ l.length) (h : expPart l (.ok i) = .ok m) : expPart l' (.ok i) = .ok m := by
  simp only [expPart] at h ⊢
  split at h
  · rename_i g
    have := hasAt_lt g
    rw [hA.has (by omega), if_pos g]
    unfold exponentL at h ⊢
    have e2 := digitsL_le h
    have ha := aft_le l (i + 1) (fun c => c == 43 || c == 45)
    rw [aft_agree hA (by omega)]
    exact digits_ext hA hd h
  · rename_i g
    by_cases hk : i < l.length
    · rw [hA.has hk, if_neg g]; exact h
    · have e : i = l.length := by omega
      have he' : hasAt l' i (fun c => c == 101 || c == 69) = false := by rw [e]; exact he
      rw [he']
      simpa using h
theorem number_ext {l l' : List UInt8} (hA : Agree l l' l.length) (hd : hasAt l' l.length digitB = false) (hp : hasAt l' l.length (· == 46) = false) (he : hasAt l' l.length eE = false) {i m : Nat} (h : numberL l i = .ok m) : numberL l' i = .ok m := by
  obtain ⟨a, b, h1, h2, h3, h4, h5, _⟩ := number_parts h
  have e1 := wholeL_le h1
  have e2 := fracPart_le e1.2 h2
  unfold numberL
  rw [whole_ext hA hd h1, frac_ext hA hd hp e1.2 h2, exp_ext hA hd he e2.2 h3]
theorem stands_back {k : Nat} {x y : List UInt8} {i : Nat} {p : Pl} {t : Tok} (h : stands k (x ++ y) (x.length + i) (shP x.length p) = .ok t) : ∃ t0, stands k y i p = .ok t0 ∧ t = ⟨t0.kind, t0.text, x.length + t0.fr, x.length + t0.to⟩ := by
  cases p with
  | error n => cases h
  | ok e =>
    simp only [shP, stands] at h
    injection h with h
    refine ⟨⟨k, sub y i e, i, e⟩, rfl, ?_⟩
    rw [← h, sh_sub]
theorem sh_back {x y : List UInt8} {p : Nat} {t : Tok} (h : readL (x ++ y) (x.length + p) = .ok t) : ∃ t0, readL y p = .ok t0 ∧ t = ⟨t0.kind, t0.text, x.length + t0.fr, x.length + t0.to⟩ := by
  unfold readL at h ⊢
  rw [sh_bx] at h
  by_cases h0 : p = y.length
  · rw [if_pos h0]
    rw [if_pos (by simp; omega)] at h
    injection h with h
    exact ⟨_, rfl, by rw [← h]⟩
  · rw [if_neg h0]
    rw [if_neg (by simp; omega)] at h
    by_cases hs : signB (bx y p) = true
    · rw [if_pos hs] at h ⊢
      injection h with h
      refine ⟨_, rfl, ?_⟩
      rw [← h, Nat.add_assoc, sh_sub]
    · rw [if_neg hs] at h ⊢
      by_cases h1 : bx y p = 110
      · rw [if_pos h1] at h ⊢
        rw [sh_spelled] at h; exact stands_back h
      · rw [if_neg h1] at h ⊢
        by_cases h2 : bx y p = 116
        · rw [if_pos h2] at h ⊢
          rw [sh_spelled] at h; exact stands_back h
        · rw [if_neg h2] at h ⊢
          by_cases h3 : bx y p = 102
          · rw [if_pos h3] at h ⊢
            rw [sh_spelled] at h; exact stands_back h
          · rw [if_neg h3] at h ⊢
            by_cases h4 : bx y p = 45 ∨ digitB (bx y p) = true
            · rw [if_pos h4] at h ⊢
              rw [sh_number] at h; exact stands_back h
            · rw [if_neg h4] at h ⊢
              by_cases h5 : bx y p = 34
              · rw [if_pos h5] at h ⊢
                unfold textL at h ⊢
                have hs := sh_textF x y p ((x ++ y).length + 1) (p + 1) []
                rw [← Nat.add_assoc, h] at hs
                cases hy : textF y p ((x ++ y).length + 1) (p + 1) [] with
                | error n => rw [hy] at hs; cases hs
                | ok t0 =>
                  rw [hy] at hs
                  have e : t = ⟨t0.kind, t0.text, x.length + t0.fr, x.length + t0.to⟩ := Except.ok.inj hs
                  exact ⟨t0, textF_more hy (by omega), e⟩
              · rw [if_neg h5] at h
                cases h
/-- A token's bytes, wherever they stand. -/
theorem read_ctx {l : List UInt8} {p : Nat} {t : Tok} (hlt : p < l.length) (h : readL l p = .ok t) (pre r : List UInt8) (hnum : t.kind = 2 → hasAt r 0 digitB = false ∧ hasAt r 0 (· == 46) = false ∧ hasAt r 0 eE = false) :
    readL (pre ++ (sub l p t.to ++ r)) pre.length = .ok ⟨t.kind, t.text, pre.length, pre.length + (t.to - p)⟩ ∧ p < t.to ∧ t.to ≤ l.length := by
  have hk0 := read_kind hlt h
  have hle : p < t.to ∧ t.to ≤ l.length := by
    rcases readL_le (by omega) h with ⟨x, _⟩ | x
    · exact absurd x hk0
    · exact x
  refine ⟨?_, hle⟩
  have hlen : (l.take p).length = p := by simp; omega
  have hspl : l.take p ++ l.drop p = l := List.take_append_drop p l
  obtain ⟨t0, ht0, htt⟩ := sh_back (x := l.take p) (y := l.drop p) (p := 0) (t := t) (by rw [hspl, hlen]; exact h)
  rw [hlen] at htt
  have hfr := read_fr ht0
  have hylt : 0 < (l.drop p).length := by simp; omega
  have hto : t0.to = t.to - p := by rw [htt]; simp
  have hkd : t0.kind = t.kind := by rw [htt]
  have htx : t0.text = t.text := by rw [htt]
  have hsub : sub l p t.to = (l.drop p).take t0.to := by unfold sub; rw [hto]
  have hty : t0.to ≤ (l.drop p).length := by simp; omega
  rw [hsub]
  have hA := agree_take (l.drop p) r t0.to hty
  have key : readL ((l.drop p).take t0.to ++ r) 0 = .ok t0 := by
    by_cases h2 : t0.kind = 2
    · obtain ⟨a, b, c, d⟩ := read_num hylt ht0 h2
      have hl1 : ((l.drop p).take t0.to).length = t0.to := by simp; omega
      have c1 := number_cut hty c (Nat.le_refl _)
      have hA1 : Agree ((l.drop p).take t0.to) ((l.drop p).take t0.to ++ r) ((l.drop p).take t0.to).length := ⟨Nat.le_refl _, by simp, fun j hj => by rw [List.getElem?_append_left hj]⟩
      obtain ⟨s1, s2, s3⟩ := hnum (by omega)
      have hat : ∀ q, hasAt ((l.drop p).take t0.to ++ r) ((l.drop p).take t0.to).length q = hasAt r 0 q := fun q => by
        have := sh_has ((l.drop p).take t0.to) r 0 q
        rwa [Nat.add_zero] at this
      have c2 := number_ext hA1 (by rw [hat]; exact s1) (by rw [hat]; exact s2) (by rw [hat]; exact s3) c1
      have hb := hA.bx (j := 0) (by omega)
      have hp0 : 0 < ((l.drop p).take t0.to ++ r).length := by rw [List.length_append]; omega
      rw [read_of_num hp0 (by rw [hb]; exact a) (by rw [hb]; exact b) c2, hA.sub (Nat.le_refl _), ← d]
    · exact read_agree hA (by omega) ht0 (Nat.le_refl _) (by omega) h2
  have := sh_read (x := pre) key
  rw [Nat.add_zero] at this
  rw [this, hfr, hkd, htx, hto]
  simp
end Go.Proofs.YtlahlnocjfphjaaGreatDoor.Lx

namespace Go.Proofs.YtlahlnocjfphjaaGreatDoor
open Go.RowKit

def Blk (bl : List UInt8) : Prop := ∀ c ∈ bl, Lx.blankB (c.toNat : Int) = true
/-- The tokens of l from a place on, blanks ahead of each. -/
inductive Mk (l : List UInt8) : Nat → List UInt8 → Prop
  | nil {i : Nat} (bl : List UInt8) (hb : Blk bl) (he : Lx.pass l Lx.blankB i = l.length) : Mk l i bl
  | cons {i : Nat} {t : Lx.Tok} {r : List UInt8} (bl : List UInt8) (hb : Blk bl) (hp : Lx.pass l Lx.blankB i < l.length) (hr : Lx.readL l (Lx.pass l Lx.blankB i) = .ok t) (hm : Mk l t.to r) : Mk l i (bl ++ (Lx.sub l (Lx.pass l Lx.blankB i) t.to ++ r))
/-- Two places that stand in step. -/
def Stp (l l' : List UInt8) (i i' : Nat) : Prop := ∃ pre r, l' = pre ++ r ∧ pre.length = i' ∧ Mk l i r
/-- What follows is the end or a sign that ends a value. -/
def Sg (l : List UInt8) (i : Nat) : Prop := Lx.pass l Lx.blankB i = l.length ∨ Lx.hasAt l (Lx.pass l Lx.blankB i) (fun c => c == 44 || c == 93 || c == 125) = true
/-- Two tokens of one kind and text. -/
structure Tq (t t' : Lx.Tok) : Prop where
  k : t'.kind = t.kind
  x : t'.text = t.text
  d : t'.to + t.fr = t.to + t'.fr
  b : t.fr ≤ 2097152 ∧ t'.fr ≤ 2097152 ∧ t.to ≤ 2097152 ∧ t'.to ≤ 2097152
theorem pass_blk (bl r : List UInt8) (hb : Blk bl) (pre : List UInt8) (q : (∀ c, Lx.hasAt r 0 (fun x => x == c) = true → Lx.blankB c = false)) : Lx.pass (pre ++ (bl ++ r)) Lx.blankB pre.length = pre.length + bl.length := by
  induction bl generalizing pre with
  | nil =>
    rw [Lx.pass_stop]
    · rfl
    · have := Lx.sh_has pre ([] ++ r) 0 Lx.blankB
      rw [Nat.add_zero] at this
      rw [this, List.nil_append]
      by_cases hr : 0 < r.length
      · rw [Lx.hasAt_in _ hr]
        exact q _ (by rw [Lx.hasAt_in _ hr]; simp)
      · exact Lx.hasAt_out _ hr
  | cons c bl ih =>
    have h0 : Lx.hasAt (pre ++ (c :: bl ++ r)) pre.length Lx.blankB = true := by
      have := Lx.sh_has pre (c :: bl ++ r) 0 Lx.blankB
      rw [Nat.add_zero] at this
      rw [this, Lx.hasAt_in _ (by simp)]
      have : Lx.bx (c :: bl ++ r) 0 = (c.toNat : Int) := by simp [Lx.bx]
      rw [this]
      exact hb c (by simp)
    rw [Lx.pass_go h0]
    have e : pre ++ (c :: bl ++ r) = (pre ++ [c]) ++ (bl ++ r) := by simp
    have := ih (fun x hx => hb x (List.mem_cons_of_mem _ hx)) (pre ++ [c])
    rw [e, show pre.length + 1 = (pre ++ [c]).length by simp, this]
    simp; omega
theorem sub_first {l : List UInt8} {p e : Nat} (hp : p < e) (he : e ≤ l.length) (r : List UInt8) (q : Int → Bool) : Lx.hasAt (Lx.sub l p e ++ r) 0 q = Lx.hasAt l p q := by
  have hlen : (Lx.sub l p e).length = e - p := by unfold Lx.sub; simp; omega
  rw [Lx.hasAt_in _ (by rw [List.length_append]; omega), Lx.hasAt_in _ (by omega)]
  congr 1
  unfold Lx.bx
  rw [List.getElem?_append_left (by omega)]
  unfold Lx.sub
  rw [List.getElem?_take_of_lt (by omega), List.getElem?_drop, Nat.add_zero]
theorem blank_not {c : Int} (h : Lx.blankB c = true) : Lx.digitB c = false ∧ (c == 46) = false ∧ Lx.eE c = false := by
  simp only [Lx.blankB, Bool.or_eq_true, beq_iff_eq] at h
  rcases h with ((h | h) | h) | h <;> (rw [h]; decide)
theorem sign_not {c : Int} (h : (c == 44 || c == 93 || c == 125) = true) : Lx.digitB c = false ∧ (c == 46) = false ∧ Lx.eE c = false := by
  simp only [Bool.or_eq_true, beq_iff_eq] at h
  rcases h with (h | h) | h <;> (rw [h]; decide)
/-- What stands behind carries no number on. -/
theorem mk_stop {l : List UInt8} {i : Nat} {r : List UInt8} (h : Mk l i r) (hs : Sg l i) : Lx.hasAt r 0 Lx.digitB = false ∧ Lx.hasAt r 0 (· == 46) = false ∧ Lx.hasAt r 0 Lx.eE = false := by
  have blk : ∀ (c : UInt8) (bl x : List UInt8), Lx.blankB (c.toNat : Int) = true → Lx.hasAt (c :: bl ++ x) 0 Lx.digitB = false ∧ Lx.hasAt (c :: bl ++ x) 0 (· == 46) = false ∧ Lx.hasAt (c :: bl ++ x) 0 Lx.eE = false := fun c bl x hc => by
    have e : Lx.bx (c :: bl ++ x) 0 = (c.toNat : Int) := by simp [Lx.bx]
    have hl : 0 < (c :: bl ++ x).length := by simp
    rw [Lx.hasAt_in _ hl, Lx.hasAt_in _ hl, Lx.hasAt_in _ hl, e]
    exact blank_not hc
  cases h with
  | nil bl hb he =>
    cases r with
    | nil => exact ⟨rfl, rfl, rfl⟩
    | cons c bl =>
      have := blk c bl [] (hb c (by simp))
      rwa [List.append_nil] at this
  | cons bl hb hp hr hm =>
    cases bl with
    | cons c bl => exact blk c bl _ (hb c (by simp))
    | nil =>
      rename_i t r
      have hle : Lx.pass l Lx.blankB i < t.to ∧ t.to ≤ l.length := by
        rcases Lx.readL_le (Nat.le_of_lt hp) hr with ⟨_, x⟩ | x
        · omega
        · exact x
      rw [List.nil_append, sub_first hle.1 hle.2, sub_first hle.1 hle.2, sub_first hle.1 hle.2]
      rcases hs with hs | hs
      · omega
      · rw [Lx.hasAt_in _ hp] at hs ⊢
        rw [Lx.hasAt_in _ hp, Lx.hasAt_in _ hp]
        exact sign_not hs
theorem take_sim {l l' : List UInt8} {fs : ByteArray} {i i' : Nat} {t : Lx.Tok} (hl : l.length ≤ 1048576) (hl' : l'.length ≤ 1048576) (hS : Stp l l' i i') (h : takeS fs l i = .ok t) (hn : t.kind = 2 → Sg l t.to) : ∃ t', takeS fs l' i' = .ok t' ∧ Tq t t' ∧ Stp l l' t.to t'.to := by
  obtain ⟨h1, h2, h3, h4⟩ := takeS_at h
  obtain ⟨pre, r, rfl, rfl, hm⟩ := hS
  have hfr := Lx.read_fr h3
  cases hm with
  | nil bl hb he => omega
  | cons bl hb hp hr hm =>
    rename_i t2 r
    have e2 : t2 = t := by rw [h3] at hr; injection hr with hr; exact hr.symm
    subst e2
    have hto : t2.to ≤ l.length := by
      rcases Lx.readL_le (Nat.le_of_lt hp) h3 with ⟨_, x⟩ | x
      · omega
      · exact x.2
    obtain ⟨c1, c2, c3⟩ := Lx.read_ctx h1 h3 (pre ++ bl) r (fun hk => mk_stop hm (hn hk))
    have eA : pre ++ (bl ++ (Lx.sub l (Lx.pass l Lx.blankB i) t2.to ++ r)) = (pre ++ bl) ++ (Lx.sub l (Lx.pass l Lx.blankB i) t2.to ++ r) := by simp
    have hpass : Lx.pass (pre ++ (bl ++ (Lx.sub l (Lx.pass l Lx.blankB i) t2.to ++ r))) Lx.blankB pre.length = pre.length + bl.length := pass_blk bl _ hb pre (fun c hc => by
      rw [sub_first c2 c3] at hc
      rw [Lx.hasAt_in _ h1] at hc
      have hb0 := Lx.pass_end l Lx.blankB i
      rw [Lx.hasAt_in _ h1] at hb0
      have : Lx.bx l (Lx.pass l Lx.blankB i) = c := by simpa using hc
      rw [← this]; exact hb0)
    have hlen : (pre ++ bl).length = pre.length + bl.length := by simp
    have hsl : (Lx.sub l (Lx.pass l Lx.blankB i) t2.to).length = t2.to - Lx.pass l Lx.blankB i := by unfold Lx.sub; simp; omega
    refine ⟨⟨t2.kind, t2.text, (pre ++ bl).length, (pre ++ bl).length + (t2.to - Lx.pass l Lx.blankB i)⟩, ?_, ⟨rfl, rfl, ?_, ?_⟩, ?_⟩
    · rw [takeS_eq, hpass]
      have hh : Lx.hasAt (pre ++ (bl ++ (Lx.sub l (Lx.pass l Lx.blankB i) t2.to ++ r))) (pre.length + bl.length) (may fs) = true := by
        have := Lx.sh_has (pre ++ bl) (Lx.sub l (Lx.pass l Lx.blankB i) t2.to ++ r) 0 (may fs)
        rw [Nat.add_zero, hlen, ← eA] at this
        rw [this, sub_first c2 c3]; exact h2
      rw [if_pos hh, eA, ← hlen, c1]
    · show (pre ++ bl).length + (t2.to - Lx.pass l Lx.blankB i) + t2.fr = t2.to + (pre ++ bl).length
      omega
    · have : (pre ++ (bl ++ (Lx.sub l (Lx.pass l Lx.blankB i) t2.to ++ r))).length = pre.length + bl.length + (t2.to - Lx.pass l Lx.blankB i) + r.length := by
        rw [List.length_append, List.length_append, List.length_append, hsl]; omega
      rw [this] at hl'
      refine ⟨?_, ?_, ?_, ?_⟩
      · omega
      · show (pre ++ bl).length ≤ _; omega
      · omega
      · show (pre ++ bl).length + _ ≤ _; omega
    · refine ⟨pre ++ bl ++ Lx.sub l (Lx.pass l Lx.blankB i) t2.to, r, by simp, ?_, hm⟩
      rw [List.length_append, hsl]
theorem isL_tq {t t' : Lx.Tok} (h : Tq t t') (K : Int) (S : ByteArray) (hS : S.size ≤ 100) : isL t'.kind (txtB t') t'.fr t'.to K S = isL t.kind (txtB t) t.fr t.to K S := by
  have e1 : txtB t' = txtB t := by unfold txtB; rw [h.x]
  obtain ⟨b1, b2, b3, b4⟩ := h.b
  have hd := h.d
  have w1 : wrap64 ((t.fr : Int) + (S.size : Int)) = (t.fr : Int) + (S.size : Int) := by unfold wrap64; omega
  have w2 : wrap64 ((t'.fr : Int) + (S.size : Int)) = (t'.fr : Int) + (S.size : Int) := by unfold wrap64; omega
  unfold isL jeqT
  rw [e1, h.k, w1, w2]
  congr 1
  apply propext
  constructor
  · rintro ⟨a, b, _, d⟩; exact ⟨a, b, rfl, by omega⟩
  · rintro ⟨a, b, _, d⟩; exact ⟨a, b, rfl, by omega⟩
theorem sgn_tq {t t' : Lx.Tok} (h : Tq t t') {S : ByteArray} (hS : S.size ≤ 100) : sgnB t' S = sgnB t S := isL_tq h 4 S hS
theorem simple_tq {t t' : Lx.Tok} (h : Tq t t') (m : LM) (p : Nat) : simpleS m t' p = simpleS m t p := by
  have e1 : txtB t' = txtB t := by unfold txtB; rw [h.x]
  have hw : wordL t'.kind (txtB t') t'.fr t'.to = wordL t.kind (txtB t) t.fr t.to := by
    unfold wordL
    rw [isL_tq h 3 ⟨#[116, 114, 117, 101]⟩ (by decide), isL_tq h 3 ⟨#[102, 97, 108, 115, 101]⟩ (by decide)]
  unfold simpleS
  rw [hw, h.k, h.x, e1]
theorem valueOf_sim {l l' : List UInt8} (hl : l.length ≤ 1048576) (hl' : l'.length ≤ 1048576) {t t' : Lx.Tok} (hq : Tq t t') {s : SS} {i' : Nat} (hS : Stp l l' s.i i') {x : Lx.Tok × SS} (h : valueOfS l t s = .ok x) (hn : x.1.kind = 2 → Sg l x.2.i) :
    ∃ t2' j', valueOfS l' t' { s with i := i' } = .ok (t2', { x.2 with i := j' }) ∧ Tq x.1 t2' ∧ Stp l l' x.2.i j' := by
  have e1 : txtB t' = txtB t := by unfold txtB; rw [hq.x]
  have el : lastS { s with i := i' } = lastS s := rfl
  unfold valueOfS at h ⊢
  rw [el, e1]
  split at h
  · cases h
  · rename_i hd
    rw [if_neg hd]
    cases h1 : takeS sgD l s.i with
    | error e => rw [h1] at h; cases h
    | ok t1 =>
      rw [h1] at h
      simp only at h
      cases h2 : takeS fov l t1.to with
      | error e => rw [h2] at h; cases h
      | ok t2 =>
        rw [h2] at h
        injection h with h
        subst h
        have hk1 : t1.kind = 2 → Sg l t1.to := fun hk => by
          exfalso
          obtain ⟨q1, q2, q3, q4⟩ := takeS_at h1
          rw [Lx.hasAt_in _ q1] at q2
          obtain ⟨r1, r2, _⟩ := Lx.read_num q1 q3 hk
          have hb : Lx.bx l (Lx.pass l Lx.blankB s.i) = 58 := by
            have e2 : Lx.bx l (Lx.pass l Lx.blankB s.i) = (l[Lx.pass l Lx.blankB s.i].toNat : Int) := by simp [Lx.bx, q1]
            have : ∀ c : Nat, c < 256 → may sgD (c : Int) = true → c = 58 := by decide +kernel
            rw [e2] at q2 ⊢
            have := this _ (UInt8.toNat_lt _) q2
            omega
          rw [hb] at r1
          revert r1
          decide
        obtain ⟨t1', a1, a2, a3⟩ := take_sim hl hl' hS h1 hk1
        obtain ⟨t2', b1, b2, b3⟩ := take_sim hl hl' a3 h2 hn
        rw [a1]
        simp only
        rw [b1]
        exact ⟨t2', t2'.to, rfl, b2, b3⟩
/-- A sign that ends a value. -/
theorem close_sg {s : SS} {l : List UInt8} {t : Lx.Tok} (h : takeS (closing s) l s.i = .ok t) : Sg l s.i ∧ t.kind ≠ 2 := by
  obtain ⟨q1, q2, q3, q4⟩ := takeS_at h
  have q2' := q2
  rw [Lx.hasAt_in _ q1] at q2'
  have e2 : Lx.bx l (Lx.pass l Lx.blankB s.i) = (l[Lx.pass l Lx.blankB s.i].toNat : Int) := by simp [Lx.bx, q1]
  have hb : l[Lx.pass l Lx.blankB s.i].toNat = 44 ∨ l[Lx.pass l Lx.blankB s.i].toNat = 93 ∨ l[Lx.pass l Lx.blankB s.i].toNat = 125 := by
    rw [e2] at q2'
    unfold closing at q2'
    split at q2'
    · have : ∀ c : Nat, c < 256 → may ⟨#[44, 125]⟩ (c : Int) = true → c = 44 ∨ c = 93 ∨ c = 125 := by decide +kernel
      exact this _ (UInt8.toNat_lt _) q2'
    · have : ∀ c : Nat, c < 256 → may ⟨#[44, 93]⟩ (c : Int) = true → c = 44 ∨ c = 93 ∨ c = 125 := by decide +kernel
      exact this _ (UInt8.toNat_lt _) q2'
  have hsg : (Lx.bx l (Lx.pass l Lx.blankB s.i) == 44 || Lx.bx l (Lx.pass l Lx.blankB s.i) == 93 || Lx.bx l (Lx.pass l Lx.blankB s.i) == 125) = true := by
    rw [e2]
    rcases hb with hb | hb | hb <;> (rw [hb]; decide)
  refine ⟨Or.inr ?_, fun hk => ?_⟩
  · rw [Lx.hasAt_in _ q1]; exact hsg
  · obtain ⟨r1, _⟩ := Lx.read_num q1 q3 hk
    rw [e2] at r1
    rcases hb with hb | hb | hb <;> (rw [hb] at r1; revert r1; decide)
theorem first_num {l : List UInt8} {m : LM} {k : Nat} {t : Lx.Tok} {s : SS} {x : JV × SS} (h : firstS l m k t s = .ok x) (hk : t.kind = 2) : x.2.i = s.i := by
  have hs : ∀ S, sgnB t S = false := fun S => by
    unfold sgnB isL jeqT
    rw [decide_eq_false]
    rintro ⟨a, _⟩
    omega
  cases k with
  | zero => simp [firstS] at h
  | succ k =>
    unfold firstS at h
    rw [hs, hs, hs, hs] at h
    simp only [Bool.false_eq_true, ↓reduceIte, or_self] at h
    injection h with h
    rw [← h]
theorem first_sim {l l' : List UInt8} {m : LM} (hl : l.length ≤ 1048576) (hl' : l'.length ≤ 1048576) : ∀ k k' t t' s i' x, firstS l m k t s = .ok x → Sg l x.2.i → Tq t t' → Stp l l' s.i i' → i' ≤ l'.length → l'.length < k' + i' → ∃ j', firstS l' m k' t' { s with i := i' } = .ok (x.1, { x.2 with i := j' }) ∧ Stp l l' x.2.i j' ∧ j' ≤ l'.length ∧ i' ≤ j'
  | 0, _, _, _, _, _, _, h, _, _, _, _, _ => by simp [firstS] at h
  | k + 1, 0, _, _, _, i', _, _, _, _, _, hi, hk => by omega
  | k + 1, k' + 1, t, t', s, i', x, h, hsg, hq, hS, hi, hk => by
    have q1 := sgn_tq hq (S := sgA) (by decide)
    have q2 := sgn_tq hq (S := sgO) (by decide)
    have q3 := sgn_tq hq (S := sgE) (by decide)
    have q4 := sgn_tq hq (S := sgF) (by decide)
    unfold firstS at h ⊢
    rw [q1, q2, q3, q4, simple_tq hq]
    split at h
    · rename_i c1
      rw [if_pos c1]
      cases h1 : takeS fovC l s.i with
      | error e => rw [h1] at h; cases h
      | ok t1 =>
        rw [h1] at h
        simp only at h
        obtain ⟨t1', a1, a2, a3⟩ := take_sim hl hl' hS h1 (fun hk => by rw [first_num h hk] at hsg; exact hsg)
        have o1 := takeL_ok a1
        rw [a1]
        obtain ⟨j', b1, b2, b3, b4⟩ := first_sim hl hl' k k' t1 t1' { openS 5 s with i := t1.to } t1'.to x h hsg a2 a3 o1.2.1 (by omega)
        exact ⟨j', b1, b2, b3, by omega⟩
    · rename_i c1
      rw [if_neg c1]
      split at h
      · rename_i c2
        rw [if_pos c2]
        cases h1 : takeS fosC l s.i with
        | error e => rw [h1] at h; cases h
        | ok t1 =>
          rw [h1] at h
          simp only at h
          by_cases c3 : sgnB t1 sgF = true
          · rw [if_pos c3] at h
            obtain ⟨t1', a1, a2, a3⟩ := take_sim hl hl' hS h1 (fun hk => by rw [first_num h hk] at hsg; exact hsg)
            have o1 := takeL_ok a1
            rw [a1]
            simp only
            rw [sgn_tq a2 (S := sgF) (by decide), if_pos c3]
            obtain ⟨j', b1, b2, b3, b4⟩ := first_sim hl hl' k k' t1 t1' { openS 6 s with i := t1.to } t1'.to x h hsg a2 a3 o1.2.1 (by omega)
            exact ⟨j', b1, b2, b3, by omega⟩
          · rw [if_neg c3] at h
            have hkd := key_kind hl h1 (by simpa using c3)
            obtain ⟨t1', a1, a2, a3⟩ := take_sim hl hl' hS h1 (fun hk => by omega)
            have o1 := takeL_ok a1
            rw [a1]
            simp only
            rw [sgn_tq a2 (S := sgF) (by decide), if_neg c3]
            cases h2 : valueOfS l t1 { openS 6 s with i := t1.to } with
            | error e => rw [h2] at h; cases h
            | ok y =>
              obtain ⟨t2, s2⟩ := y
              rw [h2] at h
              simp only at h
              obtain ⟨t2', i2', d1, d2, d3⟩ := valueOf_sim hl hl' a2 (s := { openS 6 s with i := t1.to }) (i' := t1'.to) a3 h2 (fun hk => by rw [first_num h hk] at hsg; exact hsg)
              have e3 : ({ ({ openS 6 s with i := t1.to } : SS) with i := t1'.to } : SS) = { openS 6 { s with i := i' } with i := t1'.to } := rfl
              rw [e3] at d1
              rw [d1]
              have o2 := (valueOfS_ok d1).1
              have o3 := valueOf_le d1
              have e4 : ({ openS 6 { s with i := i' } with i := t1'.to } : SS).i = t1'.to := rfl
              rw [e4] at o2
              simp only at o2 o3
              obtain ⟨j', b1, b2, b3, b4⟩ := first_sim hl hl' k k' t2 t2' s2 i2' x h hsg d2 d3 o3 (by omega)
              exact ⟨j', b1, b2, b3, by omega⟩
      · rename_i c2
        rw [if_neg c2]
        split at h
        · rename_i c3
          rw [if_pos c3]
          injection h with h
          subst h
          exact ⟨i', rfl, hS, hi, Nat.le_refl _⟩
        · rename_i c3
          rw [if_neg c3]
          injection h with h
          subst h
          exact ⟨i', rfl, hS, hi, Nat.le_refl _⟩
end Go.Proofs.YtlahlnocjfphjaaGreatDoor

namespace Go.Proofs.YtlahlnocjfphjaaGreatDoor
open Go.RowKit

theorem nextOf_sim {l l' : List UInt8} (hl : l.length ≤ 1048576) (hl' : l'.length ≤ 1048576) {s : SS} {i' : Nat} (hS : Stp l l' s.i i') {x : Lx.Tok × SS} (h : nextOfS l s = .ok x) (hn : x.1.kind = 2 → Sg l x.2.i) :
    ∃ t' j', nextOfS l' { s with i := i' } = .ok (t', { x.2 with i := j' }) ∧ Tq x.1 t' ∧ Stp l l' x.2.i j' := by
  have el : lastS { s with i := i' } = lastS s := rfl
  unfold nextOfS at h ⊢
  rw [el]
  split at h
  · rename_i c1
    rw [if_pos c1]
    cases h1 : takeS fos l s.i with
    | error e => rw [h1] at h; cases h
    | ok t =>
      rw [h1] at h
      simp only at h
      have hkd := key_kind' h1
      obtain ⟨t1', a1, a2, a3⟩ := take_sim hl hl' hS h1 (fun hk => by omega)
      rw [a1]
      exact valueOf_sim hl hl' a2 (s := { s with i := t.to }) (i' := t1'.to) a3 h hn
  · rename_i c1
    rw [if_neg c1]
    cases h1 : takeS fov l s.i with
    | error e => rw [h1] at h; cases h
    | ok t =>
      rw [h1] at h
      injection h with h
      subst h
      obtain ⟨t1', a1, a2, a3⟩ := take_sim hl hl' hS h1 hn
      rw [a1]
      exact ⟨t1', t1'.to, rfl, a2, a3⟩
/-- A run that comes to an end goes on with a sign or the end. -/
theorem loop_sg {l : List UInt8} {m : LM} : ∀ k v s x, loopS l m k v s = .ok x → Sg l x.2.i → Sg l s.i
  | 0, _, _, _, h, _ => by simp [loopS] at h
  | k + 1, v, s, x, h, hx => by
    unfold loopS at h
    split at h
    · injection h with h; rw [← h] at hx; exact hx
    · split at h
      · cases h
      · rename_i t h1
        exact (close_sg h1).1
theorem loop_sim {l l' : List UInt8} {m : LM} (hl : l.length ≤ 1048576) (hl' : l'.length ≤ 1048576) : ∀ k k' v s i' x, loopS l m k v s = .ok x → Sg l x.2.i → Stp l l' s.i i' → i' ≤ l'.length → l'.length < k' + i' → ∃ j', loopS l' m k' v { s with i := i' } = .ok (x.1, { x.2 with i := j' }) ∧ Stp l l' x.2.i j' ∧ j' ≤ l'.length
  | 0, _, _, _, _, _, h, _, _, _, _ => by simp [loopS] at h
  | k + 1, 0, _, _, i', _, _, _, _, hi, hk => by omega
  | k + 1, k' + 1, v, s, i', x, h, hsg, hS, hi, hk => by
    unfold loopS at h ⊢
    have ec : closing { s with i := i' } = closing s := rfl
    rw [ec]
    split at h
    · rename_i c0
      rw [if_pos (show ({ s with i := i' } : SS).hs = [] from c0)]
      injection h with h
      subst h
      exact ⟨i', rfl, hS, hi⟩
    · rename_i c0
      rw [if_neg (show ¬ ({ s with i := i' } : SS).hs = [] from c0)]
      cases h1 : takeS (closing s) l s.i with
      | error e => rw [h1] at h; cases h
      | ok t =>
        rw [h1] at h
        simp only at h
        obtain ⟨t1', a1, a2, a3⟩ := take_sim hl hl' hS h1 (fun hk => absurd hk (close_sg h1).2)
        have o1 := takeL_ok a1
        rw [a1]
        simp only
        rw [sgn_tq a2 (S := sgK) (by decide)]
        by_cases c1 : sgnB t sgK = true
        · rw [if_pos c1] at h ⊢
          cases h2 : nextOfS l { addV v s with i := t.to } with
          | error e2 => rw [h2] at h; cases h
          | ok y =>
            obtain ⟨t1, s1⟩ := y
            rw [h2] at h
            simp only at h
            cases h3 : firstS l m (l.length + 1) t1 s1 with
            | error e3 => rw [h3] at h; cases h
            | ok z =>
              obtain ⟨v1, s2⟩ := z
              rw [h3] at h
              simp only at h
              have hsg2 : Sg l s2.i := loop_sg _ _ _ _ h hsg
              obtain ⟨t2', i2', d1, d2, d3⟩ := nextOf_sim hl hl' (s := { addV v s with i := t.to }) (i' := t1'.to) a3 h2 (fun hk => by rw [← first_num h3 hk]; exact hsg2)
              have e3 : ({ ({ addV v s with i := t.to } : SS) with i := t1'.to } : SS) = { addV v { s with i := i' } with i := t1'.to } := rfl
              rw [e3] at d1
              rw [d1]
              simp only
              have o2 := nextOf_le d1
              have e4 : ({ addV v { s with i := i' } with i := t1'.to } : SS).i = t1'.to := rfl
              rw [e4] at o2
              simp only at o2
              obtain ⟨j', b1, b2, b3, b4⟩ := first_sim hl hl' (l.length + 1) (l'.length + 1) t1 t2' s1 i2' (v1, s2) h3 hsg2 d2 d3 o2.2 (by omega)
              rw [b1]
              simp only
              exact loop_sim hl hl' k k' v1 s2 j' x h hsg b2 b3 (by omega)
        · rw [if_neg c1] at h ⊢
          have e3 : (closeS { addV v { s with i := i' } with i := t1'.to }).1 = (closeS { addV v s with i := t.to }).1 := rfl
          have e4 : (closeS { addV v { s with i := i' } with i := t1'.to }).2 = { (closeS { addV v s with i := t.to }).2 with i := t1'.to } := rfl
          rw [e3, e4]
          exact loop_sim hl hl' k k' _ (closeS { addV v s with i := t.to }).2 t1'.to x h hsg a3 o1.2.1 (by omega)
theorem mk_end {l : List UInt8} {i : Nat} {r : List UInt8} (h : Mk l i r) (he : Lx.pass l Lx.blankB i = l.length) : Blk r := by
  cases h with
  | nil bl hb _ => exact hb
  | cons bl hb hp hr hm => omega
theorem text_sim {l l' : List UInt8} {m : LM} (hl : l.length ≤ 1048576) (hl' : l'.length ≤ 1048576) (hm : Mk l 0 l') {x : JV × SS} (h : textS l m = .ok x) : ∃ j, textS l' m = .ok (x.1, { x.2 with i := j }) := by
  have hS : Stp l l' 0 0 := ⟨[], l', rfl, rfl, hm⟩
  unfold textS at h ⊢
  cases h1 : takeS fov l 0 with
  | error e => rw [h1] at h; cases h
  | ok t =>
    rw [h1] at h
    simp only at h
    cases h2 : firstS l m (l.length + 1) t ⟨t.to, [], 0, 0⟩ with
    | error e => rw [h2] at h; cases h
    | ok y =>
      obtain ⟨v1, s1⟩ := y
      rw [h2] at h
      simp only at h
      cases h3 : loopS l m (l.length + 1) v1 s1 with
      | error e => rw [h3] at h; cases h
      | ok z =>
        obtain ⟨v2, s2⟩ := z
        rw [h3] at h
        simp only at h
        split at h
        · cases h
        · rename_i hend
          injection h with h
          subst h
          have g1 := first_hi _ _ _ _ h2 (takeL_ok h1).2.1
          have g2 := loop_hi _ _ _ _ h3 g1
          simp only at g2
          have hpl := Lx.pass_le (l := l) (p := Lx.blankB) g2
          have hpe : Lx.pass l Lx.blankB s2.i = l.length := by omega
          have hsg : Sg l s2.i := Or.inl hpe
          have hsg1 : Sg l s1.i := loop_sg _ _ _ _ h3 hsg
          obtain ⟨t', a1, a2, a3⟩ := take_sim hl hl' hS h1 (fun hk => by
            have := first_num h2 hk
            have e : (SS.mk t.to [] 0 0).i = t.to := rfl
            rw [e] at this
            rw [← this]; exact hsg1)
          have o1 := takeL_ok a1
          rw [a1]
          simp only
          obtain ⟨j1, b1, b2, b3, b4⟩ := first_sim hl hl' (l.length + 1) (l'.length + 1) t t' ⟨t.to, [], 0, 0⟩ t'.to (v1, s1) h2 hsg1 a2 a3 o1.2.1 (by omega)
          have e0 : ({ (SS.mk t.to [] 0 0) with i := t'.to } : SS) = ⟨t'.to, [], 0, 0⟩ := rfl
          rw [e0] at b1
          rw [b1]
          simp only
          obtain ⟨j2, c1, c2, c3⟩ := loop_sim hl hl' (l.length + 1) (l'.length + 1) v1 s1 j1 (v2, s2) h3 hsg b2 b3 (by omega)
          rw [c1]
          simp only
          obtain ⟨pre, r, rfl, rfl, hmr⟩ := c2
          have hblk := mk_end hmr hpe
          have hp2 : Lx.pass (pre ++ r) Lx.blankB pre.length = pre.length + r.length := by
            have := pass_blk r [] hblk pre (fun c hc => by simp [Lx.hasAt] at hc)
            rwa [List.append_nil] at this
          rw [if_neg (by rw [hp2]; simp)]
          exact ⟨pre.length, rfl⟩
/-- The same value, whatever blanks stand between the tokens. -/
theorem judged_sim {l l' : List UInt8} {m : LM} (hl : l.length ≤ 1048576) (hl' : l'.length ≤ 1048576) (hm : Mk l 0 l') {v : JV} (h : judgedS l m = .ok v) : judgedS l' m = .ok v := by
  unfold judgedS at h ⊢
  rw [if_neg (by omega)] at h ⊢
  cases h1 : textS l m with
  | error e => rw [h1] at h; cases h
  | ok x =>
    rw [h1] at h
    obtain ⟨j, h2⟩ := text_sim hl hl' hm h1
    rw [h2]
    exact h
end Go.Proofs.YtlahlnocjfphjaaGreatDoor

namespace Go.Proofs.YtlahlnocjfphjaaGreatDoor
open Go.RowKit Go.Maps

theorem infoU8 : (Tryz.prog.info? 5).map (fun i => (i.zero, i.size, i.bytes)) = some (some (.int .u8 0), 1, 1) := by kernel_rfl
theorem cellsL_len (l : List UInt8) : (Lx.cellsL l).length = l.length := by simp [Lx.cellsL]
theorem cellsL_app (a b : List UInt8) : Lx.cellsL (a ++ b) = Lx.cellsL a ++ Lx.cellsL b := by simp [Lx.cellsL]
/-- The verdict's two numbers. -/
def vr (x : Except (Int × Int) JV) : Int × Int := match x with
  | .error p => p
  | .ok _ => (1, 0)
theorem JdR.lit {x : Except (Int × Int) JV} {w : World} {r : Ending} {w' : World} (h : JdR x w r w') : Below w.heap.size w w' ∧ ∃ k n g e t a1 m1 c1 a2 m2 c2, r = .returned (.tuple #[.agg #[.int .i64 k, .bool n, .string g, .int .i64 e, .string t, .slice a1 m1 c1, .slice a2 m2 c2], .agg #[.int .i64 (vr x).1, .int .i64 (vr x).2]]) := by
  refine ⟨h.1, ?_⟩
  cases x with
  | error p => exact ⟨0, false, ⟨#[]⟩, 0, ⟨#[]⟩, none, 0, 0, none, 0, 0, h.2⟩
  | ok y =>
    obtain ⟨f, hr, hv⟩ := h.2
    obtain ⟨k, n, g, e, t, a1, m1, c1, a2, m2, c2, hva, _⟩ := hv.lit
    exact ⟨k, n, g, e, t, a1, m1, c1, a2, m2, c2, by rw [hr, hva]; rfl⟩
theorem byt_take {w : World} {ao : Option Addr} {cap : Nat} {l : List UInt8} (h : Lx.Byt w (.slice ao l.length cap) l) {e : Nat} (he : e ≤ l.length) : Lx.Byt w (.slice ao e cap) (l.take e) ∧ l.length ≤ cap := by
  have hlen : (l.take e).length = e := by simp; omega
  unfold Lx.Byt at h ⊢
  rw [hlen]
  rcases h with ⟨h0, ad, c, hv, hz⟩ | ⟨b, off, c, hv, hc, hm, hL⟩
  · injection hv with h1 h2 h3
    subst h1 h3
    have : e = 0 := by omega
    subst this
    exact ⟨.inl ⟨rfl, _, _, rfl, hz⟩, by omega⟩
  · injection hv with h1 h2 h3
    subst h1 h3
    exact ⟨.inr ⟨b, off, _, rfl, by omega, hm, ⟨fun i hi => by rw [hL.cell i (by omega)]; simp [Lx.bx, List.getElem?_take_of_lt hi], Lx.bx_lo _, Lx.bx_hi _⟩⟩, hc⟩
theorem byt_own {w : World} {B : Nat} {v : Value} {l : List UInt8} (h : w.ownsRow B 5 1 v l.length (Lx.cellsL l)) : Lx.Byt w v l := by
  unfold Lx.Byt
  rcases h.2 with ⟨rfl, h0⟩ | ⟨g, cap, cur, rfl, hb, hg, hc, hm, hs, ht⟩
  · exact .inl ⟨h0, none, 0, rfl, fun _ => rfl⟩
  · refine .inr ⟨g, 0, cap, rfl, hc, hm, ⟨fun i hi => ?_, Lx.bx_lo _, Lx.bx_hi _⟩⟩
    rw [Nat.zero_add, h.cellAt i (by omega)]
    simp [Lx.cellsL, Lx.bx, hi]
/-- 'append(x, y...)', x of the call's own, y any bytes. -/
theorem wp_app_byt {w : World} {ops : Array Oper} {rest : List Oper} {o : Oper} {a : Act} {Q : Exit → Act → World → Prop} (hgd : o.guard = none) (s x : Operand)
    (ho : o.op = .call { callee := .builtin .append, args := #[s, x], argTypes := #[22, 22] }) (base : Nat) (v : Value) (xs : List UInt8) (hs : a.eval s = v) (v1 : Value) (ys : List UInt8) (hx : a.eval x = v1)
    (hb : xs.length + ys.length ≤ 1000000) (hown : w.ownsRow base 5 1 v xs.length (Lx.cellsL xs)) (hR : Lx.Byt w v1 ys) (hbase : base ≤ w.heap.size)
    (h : ∀ v' w', w'.ownsRow base 5 1 v' (xs ++ ys).length (Lx.cellsL (xs ++ ys)) → w.grownBy w' v.ownBlock → wpList Tryz.prog ops Q rest (a.put o.dst v') w') : wpList Tryz.prog ops Q (o :: rest) a w := by
  obtain ⟨i0, hi, hz0, hz1, hz2⟩ := info_parts infoU8
  unfold Lx.Byt at hR
  rcases hR with ⟨h0, ad, cap, rfl, hn⟩ | ⟨b, off, cap, rfl, hc, hm, hL⟩
  · have hys : ys = [] := List.eq_nil_of_length_eq_zero h0
    subst hys
    rcases ad with _ | ad
    · have hc := hn rfl
      subst hc
      refine wpList_append_own_none hgd s x 22 ho base 5 i0 1 Tryz.underlying22 hi v xs.length (Lx.cellsL xs) hs hown hx (h v w (by simpa using hown) ?_)
      exact ⟨rfl, rfl, rfl, Nat.le_refl _, fun _ _ _ => rfl⟩
    · refine wpList_append_own _ hgd s x 22 ho base 5 i0 (.int .u8 0) 1 1 Tryz.underlying22 hi hz0 hz1 hz2 rfl (by decide) v xs.length (Lx.cellsL xs) hs hown ad 0 cap [] hx rfl (fun j u hj => by simp at hj) (fun u hu => by simp at hu) (by unfold maxLen; omega) (by omega) hbase ?_
      intro v' w' h1 h2 _
      exact h v' w' (by simpa using h1) h2
  · refine wpList_append_own _ hgd s x 22 ho base 5 i0 (.int .u8 0) 1 1 Tryz.underlying22 hi hz0 hz1 hz2 rfl (by decide) v xs.length (Lx.cellsL xs) hs hown ⟨b, off, none⟩ ys.length cap (Lx.cellsL ys) hx (by rw [cellsL_len]; omega) (fun j u hj => ?_) (fun u hu => ?_) (by unfold maxLen; omega) (by omega) hbase ?_
    · have hlt : j < ys.length := by have := (List.getElem?_eq_some_iff.1 hj).1; rwa [cellsL_len] at this
      rw [Lx.add_at, hL.cell j hlt, ← hj]
      simp [Lx.cellsL, Lx.bx, hlt]
    · simp only [Lx.cellsL, List.mem_map] at hu
      obtain ⟨i, _, rfl⟩ := hu
      rfl
    · intro v' w' h1 h2 _
      refine h v' w' ?_ h2
      rw [cellsL_app, List.length_append]
      exact h1
theorem own_none (W : World) (b : Nat) (hb : W.heap.size = b) : (W.alloc (.cells #[] 5)).ownsRow b 5 1 (.slice (some ⟨b, 0, none⟩) 0 0) ([] : List UInt8).length (Lx.cellsL []) := by
  subst hb
  exact World.ownsRow_made W #[] 0 (Nat.le_refl _) (by simp [maxLen]) rfl
/-- What an append leaves below a world. -/
theorem app_bel {W X w' : World} {B n : Nat} {v : Value} {e : TypeId} {sz : Nat} {xs : List Value} (hb : Below W.heap.size W X) (ho : X.ownsRow B e sz v n xs) (hB : W.heap.size ≤ B) (hg : X.grownBy w' v.ownBlock) : Below W.heap.size W w' :=
  hb.grown hg hb.size (fun j hj => Nat.le_trans hB (World.ownsRow.lt ho j hj).1)
end Go.Proofs.YtlahlnocjfphjaaGreatDoor

namespace Go.Proofs.YtlahlnocjfphjaaGreatDoor
open Go.RowKit Go.Maps

/-- Tokens alone from a place on, up to the end. -/
inductive Tks (l : List UInt8) : Nat → Prop
  | nil {i : Nat} (he : Lx.pass l Lx.blankB i = l.length) : Tks l i
  | cons {i : Nat} {t : Lx.Tok} (hp : Lx.pass l Lx.blankB i < l.length) (hr : Lx.readL l (Lx.pass l Lx.blankB i) = .ok t) (ht : Tks l t.to) : Tks l i
theorem take_tks {l : List UInt8} {fs : ByteArray} {i : Nat} {t : Lx.Tok} (h : takeS fs l i = .ok t) (ht : Tks l t.to) : Tks l i := by
  obtain ⟨h1, _, h3, _⟩ := takeS_at h
  exact .cons h1 h3 ht
theorem valueOf_tks {l : List UInt8} {t : Lx.Tok} {s : SS} {x : Lx.Tok × SS} (h : valueOfS l t s = .ok x) (hx : Tks l x.2.i) : Tks l s.i := by
  unfold valueOfS at h
  split at h
  · cases h
  · split at h
    · cases h
    · rename_i t1 h1
      split at h
      · cases h
      · rename_i t2 h2
        injection h with h
        rw [← h] at hx
        exact take_tks h1 (take_tks h2 hx)
theorem nextOf_tks {l : List UInt8} {s : SS} {x : Lx.Tok × SS} (h : nextOfS l s = .ok x) (hx : Tks l x.2.i) : Tks l s.i := by
  unfold nextOfS at h
  split at h
  · split at h
    · cases h
    · rename_i t h1
      exact take_tks h1 (valueOf_tks h hx)
  · split at h
    · cases h
    · rename_i t h1
      injection h with h
      rw [← h] at hx
      exact take_tks h1 hx
theorem first_tks {l : List UInt8} {m : LM} : ∀ k t s x, firstS l m k t s = .ok x → Tks l x.2.i → Tks l s.i
  | 0, _, _, _, h, _ => by simp [firstS] at h
  | k + 1, t, s, x, h, hx => by
    unfold firstS at h
    split at h
    · split at h
      · cases h
      · rename_i t1 h1
        exact take_tks h1 (first_tks k _ _ _ h hx)
    · split at h
      · split at h
        · cases h
        · rename_i t1 h1
          split at h
          · exact take_tks h1 (first_tks k _ _ _ h hx)
          · split at h
            · cases h
            · rename_i t2 s2 h2
              exact take_tks h1 (valueOf_tks h2 (first_tks k _ _ _ h hx))
      · split at h
        · injection h with h; rw [← h] at hx; exact hx
        · injection h with h; rw [← h] at hx; exact hx
theorem loop_tks {l : List UInt8} {m : LM} : ∀ k v s x, loopS l m k v s = .ok x → Tks l x.2.i → Tks l s.i
  | 0, _, _, _, h, _ => by simp [loopS] at h
  | k + 1, v, s, x, h, hx => by
    unfold loopS at h
    split at h
    · injection h with h; rw [← h] at hx; exact hx
    · split at h
      · cases h
      · rename_i t h1
        split at h
        · split at h
          · cases h
          · rename_i t1 s1 h2
            split at h
            · cases h
            · rename_i v1 s2 h3
              exact take_tks h1 (nextOf_tks h2 (first_tks _ _ _ _ h3 (loop_tks k _ _ _ h hx)))
        · exact take_tks h1 (loop_tks k _ _ _ h hx)
theorem text_tks {l : List UInt8} {m : LM} {x : JV × SS} (h : textS l m = .ok x) : Tks l 0 := by
  unfold textS at h
  split at h
  · cases h
  · rename_i t h1
    split at h
    · cases h
    · rename_i v1 s1 h2
      split at h
      · cases h
      · rename_i v2 s2 h3
        split at h
        · cases h
        · rename_i hend
          have g1 := first_hi _ _ _ _ h2 (takeL_ok h1).2.1
          have g2 := loop_hi _ _ _ _ h3 g1
          have hpl := Lx.pass_le (l := l) (p := Lx.blankB) g2
          have hpl : Lx.pass l Lx.blankB s2.i ≤ l.length := hpl
          have he : Lx.pass l Lx.blankB s2.i = l.length := by omega
          exact take_tks h1 (first_tks _ _ _ _ h2 (loop_tks _ _ _ _ h3 (.nil he)))
theorem judged_tks {l : List UInt8} {m : LM} {v : JV} (h : judgedS l m = .ok v) : Tks l 0 ∧ l.length ≤ 1048576 := by
  unfold judgedS at h
  split at h
  · cases h
  · rename_i hl
    split at h
    · cases h
    · rename_i v1 s1 h1
      exact ⟨text_tks h1, by omega⟩
/-- 'append(x, y...)' of some bytes, x of the call's own: where the new row lies. -/
theorem wp_app_at {w : World} {ops : Array Oper} {rest : List Oper} {o : Oper} {a : Act} {Q : Exit → Act → World → Prop} (hgd : o.guard = none) (s x : Operand)
    (ho : o.op = .call { callee := .builtin .append, args := #[s, x], argTypes := #[22, 22] }) (base : Nat) (v : Value) (xs : List UInt8) (hs : a.eval s = v) (v1 : Value) (ys : List UInt8) (hx : a.eval x = v1)
    (hb : xs.length + ys.length ≤ 1000000) (hy : ys ≠ []) (hown : w.ownsRow base 5 1 v xs.length (Lx.cellsL xs)) (hR : Lx.Byt w v1 ys) (hbase : base ≤ w.heap.size)
    (h : ∀ v' w', w'.ownsRow base 5 1 v' (xs ++ ys).length (Lx.cellsL (xs ++ ys)) → w.grownBy w' v.ownBlock → (v'.ownBlock = v.ownBlock ∨ v'.ownBlock = some w.heap.size) → wpList Tryz.prog ops Q rest (a.put o.dst v') w') : wpList Tryz.prog ops Q (o :: rest) a w := by
  obtain ⟨i0, hi, hz0, hz1, hz2⟩ := info_parts infoU8
  unfold Lx.Byt at hR
  rcases hR with ⟨h0, _⟩ | ⟨b, off, cap, rfl, hc, hm, hL⟩
  · exact absurd (List.eq_nil_of_length_eq_zero h0) hy
  · refine wpList_append_own_at _ hgd s x 22 ho base 5 i0 (.int .u8 0) 1 1 Tryz.underlying22 hi hz0 hz1 hz2 rfl (by decide) v xs.length (Lx.cellsL xs) hs hown ⟨b, off, none⟩ ys.length cap (Lx.cellsL ys) hx (by rw [cellsL_len]; omega) (fun j u hj => ?_) (fun u hu => ?_) (by unfold maxLen; omega) (by omega) hbase ?_
    · have hlt : j < ys.length := by have := (List.getElem?_eq_some_iff.1 hj).1; rwa [cellsL_len] at this
      rw [Lx.add_at, hL.cell j hlt, ← hj]
      simp [Lx.cellsL, Lx.bx, hlt]
    · simp only [Lx.cellsL, List.mem_map] at hu
      obtain ⟨i, _, rfl⟩ := hu
      rfl
    · intro v' w' h1 h2 _ h4
      refine h v' w' ?_ h2 h4
      rw [cellsL_app, List.length_append]
      exact h1
/-- Two rows of the call's own. -/
structure Two (B : Nat) (vW vB : Value) (Wd Br : List UInt8) (w : World) : Prop where
  ow : w.ownsRow B 5 1 vW Wd.length (Lx.cellsL Wd)
  ob : w.ownsRow B 5 1 vB Br.length (Lx.cellsL Br)
  ne : ∀ g, vW.ownBlock = some g → vB.ownBlock ≠ some g
theorem Two.nil (B : Nat) (w : World) : Two B (.slice none 0 0) (.slice none 0 0) [] [] w := ⟨World.ownsRow_nil w B _ 1, World.ownsRow_nil w B _ 1, fun g h => by cases h⟩
theorem Two.bel {B : Nat} {vW vB : Value} {Wd Br : List UInt8} {w w' : World} (h : Two B vW vB Wd Br w) (hb : Below w.heap.size w w') : Two B vW vB Wd Br w' :=
  ⟨own_keep h.ow fun b hb' => hb.block b (own_lt h.ow b hb').2, own_keep h.ob fun b hb' => hb.block b (own_lt h.ob b hb').2, h.ne⟩
theorem Two.wide {B : Nat} {vW vW' vB : Value} {Wd Wd' Br : List UInt8} {w w' : World} (h : Two B vW vB Wd Br w) (ho : w'.ownsRow B 5 1 vW' Wd'.length (Lx.cellsL Wd')) (hg : w.grownBy w' vW.ownBlock) (h4 : vW'.ownBlock = vW.ownBlock ∨ vW'.ownBlock = some w.heap.size) : Two B vW' vB Wd' Br w' := by
  refine ⟨ho, own_keep h.ob fun b hb => hg.block b (own_lt h.ob b hb).2 (fun e => ?_), fun g hg1 hg2 => ?_⟩
  · exact h.ne b e.symm (by simpa using hb)
  · rcases h4 with h4 | h4
    · exact h.ne g (by rw [← h4]; exact hg1) hg2
    · rw [h4] at hg1
      injection hg1 with hg1
      have := (h.ob.lt g hg2).2
      omega
theorem Two.bare {B : Nat} {vW vB vB' : Value} {Wd Br Br' : List UInt8} {w w' : World} (h : Two B vW vB Wd Br w) (ho : w'.ownsRow B 5 1 vB' Br'.length (Lx.cellsL Br')) (hg : w.grownBy w' vB.ownBlock) (h4 : vB'.ownBlock = vB.ownBlock ∨ vB'.ownBlock = some w.heap.size) : Two B vW vB' Wd Br' w' := by
  refine ⟨own_keep h.ow fun b hb => hg.block b (own_lt h.ow b hb).2 (fun e => ?_), ho, fun g hg1 hg2 => ?_⟩
  · exact h.ne b (by simpa using hb) e.symm
  · rcases h4 with h4 | h4
    · exact h.ne g hg1 (by rw [← h4]; exact hg2)
    · rw [h4] at hg2
      injection hg2 with hg2
      have := (h.ow.lt g hg1).2
      omega
/-- A block of the round's own is kept by an append to a row that lay there before. -/
theorem Bj.grown {w w' : World} {b : Nat} {cs : Array Value} {o : Option Nat} (h : Bj w b cs) (hg : w.grownBy w' o) (hne : o ≠ some b) : Bj w' b cs := by
  obtain ⟨T, hT⟩ := h
  exact ⟨T, (hg.block b (Bj.lt ⟨T, hT⟩) (fun e => hne e.symm)).trans hT⟩
def cbB (i : Nat) : UInt8 := [9, 10, 13, 32].getD i 32
theorem cbB_blank (i : Nat) (hi : i < 4) : Lx.blankB ((cbB i).toNat : Int) = true := by
  match i, hi with
  | 0, _ => decide
  | 1, _ => decide
  | 2, _ => decide
  | 3, _ => decide
theorem and3 (x : Int) : ∃ i : Nat, i < 4 ∧ bits .and .i64 x 3 = (i : Int) := by
  refine ⟨(BitVec.ofInt 64 x &&& BitVec.ofInt 64 3).toNat, ?_, ?_⟩
  · rw [BitVec.toNat_and]
    have : (BitVec.ofInt 64 3).toNat = 3 := by decide
    rw [this]
    have := @Nat.and_le_right (BitVec.ofInt 64 x).toNat 3
    omega
  · have h2 : (BitVec.ofInt 64 x &&& BitVec.ofInt 64 3).toNat ≤ 3 := by
      rw [BitVec.toNat_and]
      have : (BitVec.ofInt 64 3).toNat = 3 := by decide
      rw [this]
      exact Nat.and_le_right
    show IntKind.i64.wrap ((BitVec.ofInt 64 x &&& BitVec.ofInt 64 3).toNat : Int) = _
    generalize (BitVec.ofInt 64 x &&& BitVec.ofInt 64 3).toNat = n at *
    have : ∀ n : Nat, n < 4 → IntKind.i64.wrap (n : Int) = (n : Int) := by decide +kernel
    exact this n (by omega)
theorem blank_cell (w : World) (T : TypeId) (i : Nat) (hi : i < 4) : (w.alloc (.cells #[.int .u8 9, .int .u8 10, .int .u8 13, .int .u8 32] T)).cell? ⟨w.heap.size, i, none⟩ = some (.int .u8 ((cbB i).toNat : Int)) := by
  rw [(Bj.new w _ T).cell i]
  match i, hi with
  | 0, _ => rfl
  | 1, _ => rfl
  | 2, _ => rfl
  | 3, _ => rfl
end Go.Proofs.YtlahlnocjfphjaaGreatDoor
