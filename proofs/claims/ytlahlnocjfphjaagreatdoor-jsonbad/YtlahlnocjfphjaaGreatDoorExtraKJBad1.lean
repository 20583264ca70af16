/-
  What json reads of bytes that are cut off where they are bad, or that others stand behind. Conditions: none.
  A bad text stays bad at the same place, whatever stands behind; cut off just ahead it is bad there, or it is whole. Conditions: at most 2^20 bytes.
  The same of whole texts. Conditions: at most 2^20 bytes.
  JsonBad answers true for all bytes. Conditions: the tables as they are laid.
  JsonBad's walk, all its ways together. Conditions: the tables as they are laid.
-/
import Derived.Test.YtlahlnocjfphjaaGreatDoorJoined40
import Derived.Test.YtlahlnocjfphjaaGreatDoorExtraKJBad0
namespace Go.Proofs.YtlahlnocjfphjaaGreatDoor
open Go.RowKit

theorem takeS_eq (fs : ByteArray) (l : List UInt8) (i : Nat) : takeS fs l i = if Lx.hasAt l (Lx.pass l Lx.blankB i) (may fs) = true then Lx.readL l (Lx.pass l Lx.blankB i) else .error (Lx.pass l Lx.blankB i + 1) := by
  unfold takeS takeL Lx.nextL
  rw [Lx.pass_stop (Lx.pass_end l Lx.blankB i)]
/-- Bytes that are read alike as far as the bad place. -/
structure Lk (l l' : List UInt8) (n : Nat) : Prop where
  len : n ≤ l'.length + 1
  ok : ∀ fs i t, takeS fs l i = .ok t → t.to < n → takeS fs l' i = .ok t
  err : ∀ fs i, i < n → i ≤ l.length → takeS fs l i = .error n → takeS fs l' i = .error n
  key : ∀ fs i t, takeS fs l i = .ok t → t.kind = 1 → t.to = n → takeS fs l' i = .ok t ∨ takeS fs l' i = .error n
theorem takeS_at {fs : ByteArray} {l : List UInt8} {i : Nat} {t : Lx.Tok} (h : takeS fs l i = .ok t) : Lx.pass l Lx.blankB i < l.length ∧ Lx.hasAt l (Lx.pass l Lx.blankB i) (may fs) = true ∧ Lx.readL l (Lx.pass l Lx.blankB i) = .ok t ∧ Lx.pass l Lx.blankB i < t.to := by
  rw [takeS_eq] at h
  split at h
  · rename_i hh
    have hlt := Lx.hasAt_lt hh
    refine ⟨hlt, hh, h, ?_⟩
    rcases Lx.readL_le (Nat.le_of_lt hlt) h with ⟨_, e⟩ | ⟨e, _⟩
    · omega
    · exact e
  · cases h
theorem takeS_gt {fs : ByteArray} {l : List UInt8} {i n : Nat} (hi : i ≤ l.length) (h : takeS fs l i = .error n) : i < n ∧ n ≤ l.length + 1 := by
  rw [takeS_eq] at h
  have hge := Lx.pass_ge l Lx.blankB i
  have hle := Lx.pass_le (l := l) (p := Lx.blankB) hi
  split at h
  · rename_i hh
    have := Lx.read_bad_le hle h
    omega
  · injection h with h; omega
theorem lk_more (l more : List UInt8) {n : Nat} (hn : n ≤ l.length) : Lk l (l.take n ++ more) n := by
  have hA := Lx.agree_take l more n hn
  refine ⟨by simp; omega, fun fs i t h ht => ?_, fun fs i hi hil h => ?_, fun fs i t h hk ht => ?_⟩
  · obtain ⟨h1, h2, h3, h4⟩ := takeS_at h
    rw [takeS_eq, Lx.pass_agree hA Lx.blankB (by omega), hA.has (by omega), h2]
    simp only [↓reduceIte]
    exact Lx.read_agree2 hA h1 h3 ht
  · have hle := Lx.pass_le (l := l) (p := Lx.blankB) hil
    rw [takeS_eq] at h
    split at h
    · rename_i hh
      obtain ⟨e1, e2⟩ := Lx.readL_err hA hle h
      rw [takeS_eq, Lx.pass_agree hA Lx.blankB e2, hA.has e2, hh]
      simp only [↓reduceIte]
      exact e1
    · rename_i hh
      injection h with h
      have e2 : Lx.pass l Lx.blankB i < n := by omega
      rw [takeS_eq, Lx.pass_agree hA Lx.blankB e2, hA.has e2, if_neg hh, h]
  · obtain ⟨h1, h2, h3, h4⟩ := takeS_at h
    refine Or.inl ?_
    rw [takeS_eq, Lx.pass_agree hA Lx.blankB (by omega), hA.has (by omega), h2]
    simp only [↓reduceIte]
    exact Lx.read_agree hA (by omega) h3 (by omega) (by omega) (by omega)
theorem lk_cut (l : List UInt8) {N : Nat} (hN : N ≤ l.length) : Lk l (l.take N) (N + 1) := by
  have hA := Lx.agree_cut l hN
  refine ⟨by simp; omega, fun fs i t h ht => ?_, fun fs i hi hil h => ?_, fun fs i t h hk ht => ?_⟩
  · obtain ⟨h1, h2, h3, h4⟩ := takeS_at h
    rw [takeS_eq, Lx.pass_agree hA Lx.blankB (by omega), hA.has (by omega), h2]
    simp only [↓reduceIte]
    exact Lx.read_cut hN h1 h3 (by omega)
  · have hle := Lx.pass_le (l := l) (p := Lx.blankB) hil
    have hend : Lx.pass l Lx.blankB i = N → takeS fs (l.take N) i = .error (N + 1) := fun e => by
      rw [takeS_eq, Lx.pass_cut_end hN Lx.blankB (by omega) e, Lx.cut_out (Nat.le_refl _), if_neg (by simp)]
    rw [takeS_eq] at h
    split at h
    · rename_i hh
      have hb := Lx.read_bad_le hle h
      by_cases hp : Lx.pass l Lx.blankB i < N
      · rw [takeS_eq, Lx.pass_agree hA Lx.blankB hp, hA.has hp, hh]
        simp only [↓reduceIte]
        exact Lx.read_cut_err hN hp h
      · exact hend (by omega)
    · rename_i hh
      injection h with h
      exact hend (by omega)
  · obtain ⟨h1, h2, h3, h4⟩ := takeS_at h
    have hp : Lx.pass l Lx.blankB i < N := by
      have hfr : ∃ f, Lx.textF l (Lx.pass l Lx.blankB i) f (Lx.pass l Lx.blankB i + 1) [] = .ok t := by
        unfold Lx.readL at h3
        rw [if_neg (by omega)] at h3
        split at h3
        · injection h3 with h3; rw [← h3] at hk; simp at hk
        · have hst : ∀ (kd : Nat) (y : Lx.Pl), kd ≠ 1 → Lx.stands kd l (Lx.pass l Lx.blankB i) y = .ok t → False := fun kd y hkd hy => by
            obtain ⟨e, _, hte⟩ := Lx.stands_ok hy
            rw [hte] at hk; exact hkd hk
          split at h3
          · exact (hst 3 _ (by decide) h3).elim
          · split at h3
            · exact (hst 3 _ (by decide) h3).elim
            · split at h3
              · exact (hst 3 _ (by decide) h3).elim
              · split at h3
                · exact (hst 2 _ (by decide) h3).elim
                · split at h3
                  · exact ⟨_, h3⟩
                  · cases h3
      obtain ⟨f, hf⟩ := hfr
      have := (Lx.textF_gt _ hf).1
      omega
    refine Or.inr ?_
    rw [takeS_eq, Lx.pass_agree hA Lx.blankB hp, hA.has hp, h2]
    simp only [↓reduceIte]
    exact Lx.read_cut_text hN hp h3 hk ht
/-- Of a key's first byte: a string. -/
theorem key_kind {l : List UInt8} {i : Nat} {t : Lx.Tok} (hl : l.length ≤ 1048576) (h : takeS fosC l i = .ok t) (hf : sgnB t sgF = false) : t.kind = 1 := by
  obtain ⟨h1, h2, h3, h4⟩ := takeS_at h
  generalize Lx.pass l Lx.blankB i = p at *
  rw [Lx.hasAt_in _ h1] at h2
  have hb : Lx.bx l p = 34 ∨ Lx.bx l p = 125 := by
    have e2 : Lx.bx l p = (l[p].toNat : Int) := by simp [Lx.bx, h1]
    have : ∀ c : Nat, c < 256 → may fosC (c : Int) = true → c = 34 ∨ c = 125 := by decide +kernel
    rw [e2] at h2 ⊢
    have := this _ (UInt8.toNat_lt _) h2
    omega
  rcases hb with hb | hb
  · have hs : Lx.signB (Lx.bx l p) = false := by rw [hb]; decide
    rw [(Lx.readL_word h1 hs).2.2.2.2.2 hb] at h3
    exact (Lx.textF_gt _ h3).2.2.1
  · exfalso
    have hs : Lx.signB (Lx.bx l p) = true := by rw [hb]; decide
    rw [Lx.readL_sign h1 hs] at h3
    injection h3 with h3
    have e1 : Lx.sub l p (p + 1) = [l[p]] := by
      unfold Lx.sub
      rw [show p + 1 - p = 1 by omega, List.drop_eq_getElem_cons h1]
      rfl
    have e2 : l[p] = 125 := by
      have : Lx.bx l p = (l[p].toNat : Int) := by simp [Lx.bx, h1]
      rw [this] at hb
      have hb : l[p].toNat = 125 := by omega
      exact UInt8.toNat_inj.1 hb
    rw [← h3, e1, e2] at hf
    unfold sgnB isL jeqT at hf
    have : (decide (((4 : Nat) : Int) = 4 ∧ txtB ⟨4, [125], p, p + 1⟩ = sgF ∧ (p : Int) = (p : Int) ∧ ((p + 1 : Nat) : Int) = wrap64 ((p : Int) + (sgF.size : Int)))) = true := by
      rw [decide_eq_true_eq]
      refine ⟨rfl, rfl, rfl, ?_⟩
      have e : (sgF.size : Int) = 1 := rfl
      rw [e]
      unfold wrap64
      omega
    rw [this] at hf
    cases hf
theorem key_kind' {l : List UInt8} {i : Nat} {t : Lx.Tok} (h : takeS fos l i = .ok t) : t.kind = 1 := by
  obtain ⟨h1, h2, h3, h4⟩ := takeS_at h
  generalize Lx.pass l Lx.blankB i = p at *
  rw [Lx.hasAt_in _ h1] at h2
  have hb : Lx.bx l p = 34 := by
    have e2 : Lx.bx l p = (l[p].toNat : Int) := by simp [Lx.bx, h1]
    have : ∀ c : Nat, c < 256 → may fos (c : Int) = true → c = 34 := by decide +kernel
    rw [e2] at h2 ⊢
    have := this _ (UInt8.toNat_lt _) h2
    omega
  have hs : Lx.signB (Lx.bx l p) = false := by rw [hb]; decide
  rw [(Lx.readL_word h1 hs).2.2.2.2.2 hb] at h3
  exact (Lx.textF_gt _ h3).2.2.1
end Go.Proofs.YtlahlnocjfphjaaGreatDoor

namespace Go.Proofs.YtlahlnocjfphjaaGreatDoor
open Go.RowKit

theorem valueOf_gt {l : List UInt8} {t : Lx.Tok} {s : SS} {n : Nat} (h : valueOfS l t s = .error n) (hs : s.i ≤ l.length) : n = t.to ∨ (s.i < n ∧ n ≤ l.length + 1) := by
  unfold valueOfS at h
  split at h
  · injection h with h; exact Or.inl h.symm
  · split at h
    · rename_i e h1
      injection h with h; subst h
      exact Or.inr (takeS_gt hs h1)
    · rename_i t1 h1
      have o1 := takeL_ok h1
      split at h
      · rename_i e h2
        injection h with h; subst h
        have := takeS_gt o1.2.1 h2
        exact Or.inr ⟨by omega, this.2⟩
      · cases h
theorem valueOf_err {l l' : List UInt8} {n : Nat} (H : Lk l l' n) {t : Lx.Tok} {s : SS} (h : valueOfS l t s = .error n) (hs : s.i ≤ l.length) : valueOfS l' t s = .error n := by
  unfold valueOfS at h ⊢
  split at h
  · rename_i hd
    rw [if_pos hd]; exact h
  · rename_i hd
    rw [if_neg hd]
    cases h1 : takeS sgD l s.i with
    | error e =>
      rw [h1] at h
      injection h with h; subst h
      rw [H.err _ _ (takeS_gt hs h1).1 hs h1]
    | ok t1 =>
      rw [h1] at h
      have o1 := takeL_ok h1
      simp only at h
      cases h2 : takeS fov l t1.to with
      | error e =>
        rw [h2] at h
        injection h with h; subst h
        have g2 := takeS_gt o1.2.1 h2
        rw [H.ok _ _ _ h1 g2.1]
        simp only
        rw [H.err _ _ g2.1 o1.2.1 h2]
      | ok t2 => rw [h2] at h; cases h
theorem valueOf_ok {l l' : List UInt8} {n : Nat} (H : Lk l l' n) {t : Lx.Tok} {s : SS} {x : Lx.Tok × SS} (h : valueOfS l t s = .ok x) (hx : x.2.i < n) : valueOfS l' t s = .ok x := by
  unfold valueOfS at h ⊢
  split at h
  · cases h
  · rename_i hd
    rw [if_neg hd]
    cases h1 : takeS sgD l s.i with
    | error e => rw [h1] at h; cases h
    | ok t1 =>
      rw [h1] at h
      simp only at h
      cases h2 : takeS fov l t1.to with
      | error e => rw [h2] at h; cases h
      | ok t2 =>
        rw [h2] at h
        have o2 := takeL_ok h2
        have hx2 : t2.to < n := by injection h with h; rw [← h] at hx; exact hx
        rw [H.ok _ _ _ h1 (by omega)]
        simp only
        rw [H.ok _ _ _ h2 hx2]
        exact h
theorem valueOf_le {l : List UInt8} {t : Lx.Tok} {s : SS} {x : Lx.Tok × SS} (h : valueOfS l t s = .ok x) : x.2.i ≤ l.length := by
  unfold valueOfS at h
  split at h
  · cases h
  · split at h
    · cases h
    · split at h
      · cases h
      · rename_i t2 h2
        injection h with h
        rw [← h]
        exact (takeL_ok h2).2.1
theorem first_le {l : List UInt8} {m : LM} : ∀ k t s x, firstS l m k t s = .ok x → s.i ≤ x.2.i
  | 0, _, _, _, h => by simp [firstS] at h
  | k + 1, t, s, x, h => by
    unfold firstS at h
    split at h
    · split at h
      · cases h
      · rename_i t1 h1
        have := first_le k _ _ _ h
        have e : ({ openS 5 s with i := t1.to } : SS).i = t1.to := rfl
        rw [e] at this
        have := (takeL_ok h1).1
        omega
    · split at h
      · split at h
        · cases h
        · rename_i t1 h1
          have o1 := (takeL_ok h1).1
          have e : ({ openS 6 s with i := t1.to } : SS).i = t1.to := rfl
          split at h
          · have := first_le k _ _ _ h
            rw [e] at this
            omega
          · split at h
            · cases h
            · rename_i t2 s2 h2
              have o2 := (valueOfS_ok h2).1
              rw [e] at o2
              have := first_le k _ _ _ h
              simp only at o2
              omega
      · split at h
        · injection h with h; rw [← h]; exact Nat.le_refl _
        · injection h with h; rw [← h]; exact Nat.le_refl _
theorem first_gt {l : List UInt8} {m : LM} {n : Nat} : ∀ k t s, firstS l m k t s = .error n → s.i ≤ l.length → l.length < k + s.i → s.i < n ∧ n ≤ l.length + 1
  | 0, _, s, h, hs, hk => by omega
  | k + 1, t, s, h, hs, hk => by
    unfold firstS at h
    split at h
    · split at h
      · rename_i e h1
        injection h with h; subst h
        exact takeS_gt hs h1
      · rename_i t1 h1
        have o1 := takeL_ok h1
        have := first_gt k _ _ h o1.2.1 (by show l.length < k + t1.to; omega)
        have e : ({ openS 5 s with i := t1.to } : SS).i = t1.to := rfl
        rw [e] at this
        omega
    · split at h
      · split at h
        · rename_i e h1
          injection h with h; subst h
          exact takeS_gt hs h1
        · rename_i t1 h1
          have o1 := takeL_ok h1
          split at h
          · have := first_gt k _ _ h o1.2.1 (by show l.length < k + t1.to; omega)
            have e : ({ openS 6 s with i := t1.to } : SS).i = t1.to := rfl
            rw [e] at this
            omega
          · split at h
            · rename_i e h2
              injection h with h; subst h
              have e : ({ openS 6 s with i := t1.to } : SS).i = t1.to := rfl
              rcases valueOf_gt h2 o1.2.1 with g | g
              · omega
              · rw [e] at g; omega
            · rename_i t2 s2 h2
              have o2 := (valueOfS_ok h2).1
              have hs2 : s2.i ≤ l.length := valueOf_le h2
              have e : ({ openS 6 s with i := t1.to } : SS).i = t1.to := rfl
              rw [e] at o2
              simp only at o2
              have := first_gt k _ _ h hs2 (by omega)
              omega
      · split at h <;> cases h
theorem first_err {l l' : List UInt8} {m : LM} {n : Nat} (H : Lk l l' n) (hl : l.length ≤ 1048576) : ∀ k k' t s, firstS l m k t s = .error n → s.i ≤ l.length → l.length < k + s.i → l'.length < k' + s.i → firstS l' m k' t s = .error n
  | 0, _, _, s, _, hs, hk, _ => by omega
  | k + 1, 0, t, s, h, hs, hk, hk' => by
    have := (first_gt _ _ _ h hs hk).1
    have := H.len
    omega
  | k + 1, k' + 1, t, s, h, hs, hk, hk' => by
    unfold firstS at h ⊢
    split at h
    · rename_i c1
      rw [if_pos c1]
      cases h1 : takeS fovC l s.i with
      | error e =>
        rw [h1] at h
        injection h with h; subst h
        rw [H.err _ _ (takeS_gt hs h1).1 hs h1]
      | ok t1 =>
        rw [h1] at h
        have o1 := takeL_ok h1
        have g := (first_gt k _ _ h o1.2.1 (by show l.length < k + t1.to; omega)).1
        have e : ({ openS 5 s with i := t1.to } : SS).i = t1.to := rfl
        rw [e] at g
        rw [H.ok _ _ _ h1 g]
        exact first_err H hl k k' _ _ h o1.2.1 (by show l.length < k + t1.to; omega) (by show l'.length < k' + t1.to; omega)
    · rename_i c1
      rw [if_neg c1]
      split at h
      · rename_i c2
        rw [if_pos c2]
        cases h1 : takeS fosC l s.i with
        | error e =>
          rw [h1] at h
          injection h with h; subst h
          rw [H.err _ _ (takeS_gt hs h1).1 hs h1]
        | ok t1 =>
          rw [h1] at h
          have o1 := takeL_ok h1
          simp only at h
          by_cases c3 : sgnB t1 sgF = true
          · rw [if_pos c3] at h
            have g := (first_gt k _ _ h o1.2.1 (by show l.length < k + t1.to; omega)).1
            have e : ({ openS 6 s with i := t1.to } : SS).i = t1.to := rfl
            rw [e] at g
            rw [H.ok _ _ _ h1 g]
            simp only
            rw [if_pos c3]
            exact first_err H hl k k' _ _ h o1.2.1 (by show l.length < k + t1.to; omega) (by show l'.length < k' + t1.to; omega)
          · rw [if_neg c3] at h
            cases h2 : valueOfS l t1 { openS 6 s with i := t1.to } with
            | error e0 =>
              rw [h2] at h
              injection h with h; subst h
              have hv := valueOf_err H h2 o1.2.1
              have e : ({ openS 6 s with i := t1.to } : SS).i = t1.to := rfl
              have hcase : t1.to < e0 ∨ t1.to = e0 := by
                rcases valueOf_gt h2 o1.2.1 with g | g
                · exact Or.inr g.symm
                · rw [e] at g; exact Or.inl g.1
              rcases hcase with g | g
              · rw [H.ok _ _ _ h1 g]
                simp only
                rw [if_neg c3, hv]
              · rcases H.key _ _ _ h1 (key_kind hl h1 (by simpa using c3)) g with q | q
                · rw [q]
                  simp only
                  rw [if_neg c3, hv]
                · rw [q]
            | ok y =>
              obtain ⟨t2, s2⟩ := y
              rw [h2] at h
              have o2 := (valueOfS_ok h2).1
              have hs2 : s2.i ≤ l.length := valueOf_le h2
              have e : ({ openS 6 s with i := t1.to } : SS).i = t1.to := rfl
              rw [e] at o2
              simp only at o2 h
              have g := (first_gt k _ _ h hs2 (by omega)).1
              rw [H.ok _ _ _ h1 (by omega)]
              simp only
              rw [if_neg c3, valueOf_ok H h2 g]
              exact first_err H hl k k' _ _ h hs2 (by omega) (by omega)
      · split at h <;> cases h
theorem first_ok {l l' : List UInt8} {m : LM} {n : Nat} (H : Lk l l' n) : ∀ k k' t s x, firstS l m k t s = .ok x → x.2.i < n → l'.length < k' + s.i → firstS l' m k' t s = .ok x
  | 0, _, _, _, _, h, _, _ => by simp [firstS] at h
  | k + 1, 0, t, s, x, h, hx, hk' => by
    have := (first_le _ _ _ _ h)
    have := H.len
    omega
  | k + 1, k' + 1, t, s, x, h, hx, hk' => by
    unfold firstS at h ⊢
    split at h
    · rename_i c1
      rw [if_pos c1]
      cases h1 : takeS fovC l s.i with
      | error e => rw [h1] at h; cases h
      | ok t1 =>
        rw [h1] at h
        have o1 := takeL_ok h1
        have g := first_le _ _ _ _ h
        have e : ({ openS 5 s with i := t1.to } : SS).i = t1.to := rfl
        rw [e] at g
        rw [H.ok _ _ _ h1 (by omega)]
        exact first_ok H k k' _ _ _ h hx (by show l'.length < k' + t1.to; omega)
    · rename_i c1
      rw [if_neg c1]
      split at h
      · rename_i c2
        rw [if_pos c2]
        cases h1 : takeS fosC l s.i with
        | error e => rw [h1] at h; cases h
        | ok t1 =>
          rw [h1] at h
          have o1 := takeL_ok h1
          simp only at h
          by_cases c3 : sgnB t1 sgF = true
          · rw [if_pos c3] at h
            have g := first_le _ _ _ _ h
            have e : ({ openS 6 s with i := t1.to } : SS).i = t1.to := rfl
            rw [e] at g
            rw [H.ok _ _ _ h1 (by omega)]
            simp only
            rw [if_pos c3]
            exact first_ok H k k' _ _ _ h hx (by show l'.length < k' + t1.to; omega)
          · rw [if_neg c3] at h
            cases h2 : valueOfS l t1 { openS 6 s with i := t1.to } with
            | error e => rw [h2] at h; cases h
            | ok y =>
              obtain ⟨t2, s2⟩ := y
              rw [h2] at h
              have o2 := (valueOfS_ok h2).1
              have e : ({ openS 6 s with i := t1.to } : SS).i = t1.to := rfl
              rw [e] at o2
              simp only at o2 h
              have g := first_le _ _ _ _ h
              rw [H.ok _ _ _ h1 (by omega)]
              simp only
              rw [if_neg c3, valueOf_ok H h2 (by show s2.i < n; omega)]
              exact first_ok H k k' _ _ _ h hx (by omega)
      · rename_i c2
        rw [if_neg c2]
        exact h
end Go.Proofs.YtlahlnocjfphjaaGreatDoor

namespace Go.Proofs.YtlahlnocjfphjaaGreatDoor
open Go.RowKit

theorem nextOf_le {l : List UInt8} {s : SS} {x : Lx.Tok × SS} (h : nextOfS l s = .ok x) : s.i < x.2.i ∧ x.2.i ≤ l.length := by
  unfold nextOfS at h
  split at h
  · split at h
    · cases h
    · rename_i t h1
      have o1 := (takeL_ok h1).1
      have o2 := (valueOfS_ok h).1
      have e : ({ s with i := t.to } : SS).i = t.to := rfl
      rw [e] at o2
      exact ⟨by omega, valueOf_le h⟩
  · split at h
    · cases h
    · rename_i t h1
      injection h with h
      rw [← h]
      exact ⟨(takeL_ok h1).1, (takeL_ok h1).2.1⟩
theorem nextOf_gt {l : List UInt8} {s : SS} {n : Nat} (h : nextOfS l s = .error n) (hs : s.i ≤ l.length) : s.i < n ∧ n ≤ l.length + 1 := by
  unfold nextOfS at h
  split at h
  · split at h
    · rename_i e h1
      injection h with h; subst h
      exact takeS_gt hs h1
    · rename_i t h1
      have o1 := takeL_ok h1
      have e : ({ s with i := t.to } : SS).i = t.to := rfl
      rcases valueOf_gt h o1.2.1 with g | g
      · omega
      · rw [e] at g; omega
  · split at h
    · rename_i e h1
      injection h with h; subst h
      exact takeS_gt hs h1
    · cases h
theorem nextOf_err {l l' : List UInt8} {n : Nat} (H : Lk l l' n) {s : SS} (h : nextOfS l s = .error n) (hs : s.i ≤ l.length) : nextOfS l' s = .error n := by
  unfold nextOfS at h ⊢
  split at h
  · rename_i c1
    rw [if_pos c1]
    cases h1 : takeS fos l s.i with
    | error e =>
      rw [h1] at h
      injection h with h; subst h
      rw [H.err _ _ (takeS_gt hs h1).1 hs h1]
    | ok t =>
      rw [h1] at h
      have o1 := takeL_ok h1
      simp only at h
      have e : ({ s with i := t.to } : SS).i = t.to := rfl
      have hv := valueOf_err H h o1.2.1
      have hcase : t.to < n ∨ t.to = n := by
        rcases valueOf_gt h o1.2.1 with g | g
        · exact Or.inr g.symm
        · rw [e] at g; exact Or.inl g.1
      rcases hcase with g | g
      · rw [H.ok _ _ _ h1 g]; exact hv
      · rcases H.key _ _ _ h1 (key_kind' h1) g with q | q
        · rw [q]; exact hv
        · rw [q]
  · rename_i c1
    rw [if_neg c1]
    cases h1 : takeS fov l s.i with
    | error e =>
      rw [h1] at h
      injection h with h; subst h
      rw [H.err _ _ (takeS_gt hs h1).1 hs h1]
    | ok t => rw [h1] at h; cases h
theorem nextOf_ok {l l' : List UInt8} {n : Nat} (H : Lk l l' n) {s : SS} {x : Lx.Tok × SS} (h : nextOfS l s = .ok x) (hx : x.2.i < n) : nextOfS l' s = .ok x := by
  unfold nextOfS at h ⊢
  split at h
  · rename_i c1
    rw [if_pos c1]
    cases h1 : takeS fos l s.i with
    | error e => rw [h1] at h; cases h
    | ok t =>
      rw [h1] at h
      simp only at h
      have o2 := (valueOfS_ok h).1
      have e : ({ s with i := t.to } : SS).i = t.to := rfl
      rw [e] at o2
      rw [H.ok _ _ _ h1 (by omega)]
      exact valueOf_ok H h hx
  · rename_i c1
    rw [if_neg c1]
    cases h1 : takeS fov l s.i with
    | error e => rw [h1] at h; cases h
    | ok t =>
      rw [h1] at h
      have hx2 : t.to < n := by injection h with h; rw [← h] at hx; exact hx
      rw [H.ok _ _ _ h1 hx2]
      exact h
theorem first_hi {l : List UInt8} {m : LM} : ∀ k t s x, firstS l m k t s = .ok x → s.i ≤ l.length → x.2.i ≤ l.length
  | 0, _, _, _, h, _ => by simp [firstS] at h
  | k + 1, t, s, x, h, hs => by
    unfold firstS at h
    split at h
    · split at h
      · cases h
      · rename_i t1 h1
        exact first_hi k _ _ _ h (takeL_ok h1).2.1
    · split at h
      · split at h
        · cases h
        · rename_i t1 h1
          split at h
          · exact first_hi k _ _ _ h (takeL_ok h1).2.1
          · split at h
            · cases h
            · rename_i t2 s2 h2
              exact first_hi k _ _ _ h (valueOf_le h2)
      · split at h
        · injection h with h; rw [← h]; exact hs
        · injection h with h; rw [← h]; exact hs
theorem loop_gt {l : List UInt8} {m : LM} {n : Nat} : ∀ k v s, loopS l m k v s = .error n → s.i ≤ l.length → l.length < k + s.i → s.i < n ∧ n ≤ l.length + 1
  | 0, _, s, _, hs, hk => by omega
  | k + 1, v, s, h, hs, hk => by
    unfold loopS at h
    split at h
    · cases h
    · split at h
      · rename_i e h1
        injection h with h; subst h
        exact takeS_gt hs h1
      · rename_i t h1
        have o1 := takeL_ok h1
        split at h
        · split at h
          · rename_i e h2
            injection h with h; subst h
            have g := nextOf_gt h2 (show ({ addV v s with i := t.to } : SS).i ≤ l.length from o1.2.1)
            have e : ({ addV v s with i := t.to } : SS).i = t.to := rfl
            rw [e] at g
            omega
          · rename_i t1 s1 h2
            have g2 := nextOf_le h2
            have e : ({ addV v s with i := t.to } : SS).i = t.to := rfl
            rw [e] at g2
            simp only at g2
            split at h
            · rename_i e h3
              injection h with h; subst h
              have := first_gt _ _ _ h3 g2.2 (by omega)
              omega
            · rename_i v1 s2 h3
              have h4 := first_le _ _ _ _ h3
              have h5 := first_hi _ _ _ _ h3 g2.2
              simp only at h4 h5
              have := loop_gt k _ _ h h5 (by omega)
              omega
        · have := loop_gt k _ _ h (show ((closeS { addV v s with i := t.to }).2).i ≤ l.length from o1.2.1) (by show l.length < k + t.to; omega)
          have e : ((closeS { addV v s with i := t.to }).2).i = t.to := rfl
          rw [e] at this
          omega
theorem loop_le {l : List UInt8} {m : LM} : ∀ k v s x, loopS l m k v s = .ok x → s.i ≤ x.2.i
  | 0, _, _, _, h => by simp [loopS] at h
  | k + 1, v, s, x, h => by
    unfold loopS at h
    split at h
    · injection h with h; rw [← h]; exact Nat.le_refl _
    · split at h
      · cases h
      · rename_i t h1
        have o1 := takeL_ok h1
        split at h
        · split at h
          · cases h
          · rename_i t1 s1 h2
            have g2 := nextOf_le h2
            have e : ({ addV v s with i := t.to } : SS).i = t.to := rfl
            rw [e] at g2
            simp only at g2
            split at h
            · cases h
            · rename_i v1 s2 h3
              have h4 := first_le _ _ _ _ h3
              have h5 := loop_le k _ _ _ h
              simp only at h4
              omega
        · have h5 := loop_le k _ _ _ h
          have e : ((closeS { addV v s with i := t.to }).2).i = t.to := rfl
          rw [e] at h5
          omega
theorem loop_hi {l : List UInt8} {m : LM} : ∀ k v s x, loopS l m k v s = .ok x → s.i ≤ l.length → x.2.i ≤ l.length
  | 0, _, _, _, h, _ => by simp [loopS] at h
  | k + 1, v, s, x, h, hs => by
    unfold loopS at h
    split at h
    · injection h with h; rw [← h]; exact hs
    · split at h
      · cases h
      · rename_i t h1
        split at h
        · split at h
          · cases h
          · rename_i t1 s1 h2
            split at h
            · cases h
            · rename_i v1 s2 h3
              exact loop_hi k _ _ _ h (first_hi _ _ _ _ h3 (nextOf_le h2).2)
        · exact loop_hi k _ _ _ h (takeL_ok h1).2.1
theorem loop_err {l l' : List UInt8} {m : LM} {n : Nat} (H : Lk l l' n) (hl : l.length ≤ 1048576) : ∀ k k' v s, loopS l m k v s = .error n → s.i ≤ l.length → l.length < k + s.i → l'.length < k' + s.i → loopS l' m k' v s = .error n
  | 0, _, _, s, _, hs, hk, _ => by omega
  | k + 1, 0, v, s, h, hs, hk, hk' => by
    have := (loop_gt _ _ _ h hs hk).1
    have := H.len
    omega
  | k + 1, k' + 1, v, s, h, hs, hk, hk' => by
    unfold loopS at h ⊢
    split at h
    · cases h
    · rename_i c0
      rw [if_neg c0]
      cases h1 : takeS (closing s) l s.i with
      | error e =>
        rw [h1] at h
        injection h with h; subst h
        rw [H.err _ _ (takeS_gt hs h1).1 hs h1]
      | ok t =>
        rw [h1] at h
        have o1 := takeL_ok h1
        simp only at h
        have e : ({ addV v s with i := t.to } : SS).i = t.to := rfl
        by_cases c1 : sgnB t sgK = true
        · rw [if_pos c1] at h
          cases h2 : nextOfS l { addV v s with i := t.to } with
          | error e2 =>
            rw [h2] at h
            injection h with h; subst h
            have g := (nextOf_gt h2 (show ({ addV v s with i := t.to } : SS).i ≤ l.length from o1.2.1)).1
            rw [e] at g
            rw [H.ok _ _ _ h1 g]
            simp only
            rw [if_pos c1, nextOf_err H h2 o1.2.1]
          | ok y =>
            obtain ⟨t1, s1⟩ := y
            rw [h2] at h
            have g2 := nextOf_le h2
            rw [e] at g2
            simp only at g2 h
            cases h3 : firstS l m (l.length + 1) t1 s1 with
            | error e3 =>
              rw [h3] at h
              injection h with h; subst h
              have g3 := (first_gt _ _ _ h3 g2.2 (by omega)).1
              rw [H.ok _ _ _ h1 (by omega)]
              simp only
              rw [if_pos c1, nextOf_ok H h2 (by show s1.i < _; exact g3)]
              simp only
              rw [first_err H hl _ (l'.length + 1) _ _ h3 g2.2 (by omega) (by omega)]
            | ok z =>
              obtain ⟨v1, s2⟩ := z
              rw [h3] at h
              have h4 := first_le _ _ _ _ h3
              have h5 := first_hi _ _ _ _ h3 g2.2
              simp only at h4 h5 h
              have g5 := (loop_gt k _ _ h h5 (by omega)).1
              rw [H.ok _ _ _ h1 (by omega)]
              simp only
              rw [if_pos c1, nextOf_ok H h2 (by show s1.i < _; omega)]
              simp only
              rw [first_ok H _ (l'.length + 1) _ _ _ h3 (by show s2.i < _; omega) (by omega)]
              exact loop_err H hl k k' _ _ h h5 (by omega) (by omega)
        · rw [if_neg c1] at h
          have e2 : ((closeS { addV v s with i := t.to }).2).i = t.to := rfl
          have g := (loop_gt k _ _ h (show ((closeS { addV v s with i := t.to }).2).i ≤ l.length from o1.2.1) (by show l.length < k + t.to; omega)).1
          rw [e2] at g
          rw [H.ok _ _ _ h1 g]
          simp only
          rw [if_neg c1]
          exact loop_err H hl k k' _ _ h o1.2.1 (by show l.length < k + t.to; omega) (by show l'.length < k' + t.to; omega)
theorem loop_ok {l l' : List UInt8} {m : LM} {n : Nat} (H : Lk l l' n) : ∀ k k' v s x, loopS l m k v s = .ok x → x.2.i < n → l'.length < k' + s.i → loopS l' m k' v s = .ok x
  | 0, _, _, _, _, h, _, _ => by simp [loopS] at h
  | k + 1, 0, v, s, x, h, hx, hk' => by
    have := loop_le _ _ _ _ h
    have := H.len
    omega
  | k + 1, k' + 1, v, s, x, h, hx, hk' => by
    unfold loopS at h ⊢
    split at h
    · rename_i c0
      rw [if_pos c0]; exact h
    · rename_i c0
      rw [if_neg c0]
      cases h1 : takeS (closing s) l s.i with
      | error e => rw [h1] at h; cases h
      | ok t =>
        rw [h1] at h
        have o1 := takeL_ok h1
        simp only at h
        have e : ({ addV v s with i := t.to } : SS).i = t.to := rfl
        by_cases c1 : sgnB t sgK = true
        · rw [if_pos c1] at h
          cases h2 : nextOfS l { addV v s with i := t.to } with
          | error e2 => rw [h2] at h; cases h
          | ok y =>
            obtain ⟨t1, s1⟩ := y
            rw [h2] at h
            have g2 := nextOf_le h2
            rw [e] at g2
            simp only at g2 h
            cases h3 : firstS l m (l.length + 1) t1 s1 with
            | error e3 => rw [h3] at h; cases h
            | ok z =>
              obtain ⟨v1, s2⟩ := z
              rw [h3] at h
              have h4 := first_le _ _ _ _ h3
              simp only at h4 h
              have g5 := loop_le _ _ _ _ h
              rw [H.ok _ _ _ h1 (by omega)]
              simp only
              rw [if_pos c1, nextOf_ok H h2 (by show s1.i < _; omega)]
              simp only
              rw [first_ok H _ (l'.length + 1) _ _ _ h3 (by show s2.i < _; omega) (by omega)]
              exact loop_ok H k k' _ _ _ h hx (by omega)
        · rw [if_neg c1] at h
          have e2 : ((closeS { addV v s with i := t.to }).2).i = t.to := rfl
          have g := loop_le _ _ _ _ h
          rw [e2] at g
          rw [H.ok _ _ _ h1 (by omega)]
          simp only
          rw [if_neg c1]
          exact loop_ok H k k' _ _ _ h hx (by show l'.length < k' + t.to; omega)
/-- What a bad text's two turnings are, told by one relation. -/
theorem text_lk {l l' : List UInt8} {m : LM} {n : Nat} (H : Lk l l' n) (hl : l.length ≤ 1048576) (h : textS l m = .error n) :
    textS l' m = .error n ∨ ∃ v s, s.i ≤ l.length ∧ n = Lx.pass l Lx.blankB s.i + 1 ∧ Lx.pass l Lx.blankB s.i < l.length ∧ textS l' m = if Lx.pass l' Lx.blankB s.i < l'.length then .error (Lx.pass l' Lx.blankB s.i + 1) else .ok (v, s) := by
  unfold textS at h ⊢
  cases h1 : takeS fov l 0 with
  | error e =>
    rw [h1] at h
    injection h with h; subst h
    rw [H.err _ _ (takeS_gt (Nat.zero_le _) h1).1 (Nat.zero_le _) h1]
    exact Or.inl rfl
  | ok t =>
    rw [h1] at h
    have o1 := takeL_ok h1
    simp only at h
    cases h2 : firstS l m (l.length + 1) t ⟨t.to, [], 0, 0⟩ with
    | error e =>
      rw [h2] at h
      injection h with h; subst h
      have g := (first_gt _ _ _ h2 o1.2.1 (by show l.length < l.length + 1 + t.to; omega)).1
      rw [H.ok _ _ _ h1 g]
      simp only
      rw [first_err H hl _ (l'.length + 1) _ _ h2 o1.2.1 (by show l.length < l.length + 1 + t.to; omega) (by show l'.length < l'.length + 1 + t.to; omega)]
      exact Or.inl rfl
    | ok x =>
      rw [h2] at h
      have g2 := first_le _ _ _ _ h2
      have g3 := first_hi _ _ _ _ h2 o1.2.1
      have e0 : (SS.mk t.to [] 0 0).i = t.to := rfl
      rw [e0] at g2
      simp only at h
      cases h3 : loopS l m (l.length + 1) x.1 x.2 with
      | error e =>
        rw [h3] at h
        injection h with h; subst h
        have g := (loop_gt _ _ _ h3 g3 (by omega)).1
        rw [H.ok _ _ _ h1 (by omega)]
        simp only
        rw [first_ok H _ (l'.length + 1) _ _ _ h2 (by omega) (by show l'.length < l'.length + 1 + t.to; omega)]
        simp only
        rw [loop_err H hl _ (l'.length + 1) _ _ h3 g3 (by omega) (by omega)]
        exact Or.inl rfl
      | ok y =>
        obtain ⟨v, s⟩ := y
        rw [h3] at h
        have g4 := loop_le _ _ _ _ h3
        have g5 := loop_hi _ _ _ _ h3 g3
        simp only at h g4 g5
        split at h
        · rename_i hlt
          injection h with h
          have hge := Lx.pass_ge l Lx.blankB s.i
          refine Or.inr ⟨v, s, g5, h.symm, hlt, ?_⟩
          rw [H.ok _ _ _ h1 (by omega)]
          simp only
          rw [first_ok H _ (l'.length + 1) _ _ _ h2 (by omega) (by show l'.length < l'.length + 1 + t.to; omega)]
          simp only
          rw [loop_ok H _ (l'.length + 1) _ _ _ h3 (by show s.i < n; omega) (by omega)]
        · cases h
theorem text_gt {l : List UInt8} {m : LM} {n : Nat} (h : textS l m = .error n) : 1 ≤ n ∧ n ≤ l.length + 1 := by
  unfold textS at h
  split at h
  · rename_i e h1
    injection h with h; subst h
    have := takeS_gt (Nat.zero_le _) h1
    omega
  · rename_i t h1
    have o1 := takeL_ok h1
    split at h
    · rename_i e h2
      injection h with h; subst h
      have := first_gt _ _ _ h2 o1.2.1 (by show l.length < l.length + 1 + t.to; omega)
      omega
    · rename_i v s h2
      have g3 := first_hi _ _ _ _ h2 o1.2.1
      split at h
      · rename_i e h3
        injection h with h; subst h
        have := loop_gt _ _ _ h3 g3 (by omega)
        omega
      · split at h
        · injection h with h; omega
        · cases h
theorem text_more {l : List UInt8} {m : LM} {n : Nat} (hl : l.length ≤ 1048576) (h : textS l m = .error n) (hn : n ≤ l.length) (more : List UInt8) : textS (l.take n ++ more) m = .error n := by
  rcases text_lk (lk_more l more hn) hl h with e | ⟨v, s, hs, e1, e2, e⟩
  · exact e
  · have hA := Lx.agree_take l more n hn
    have hp : Lx.pass (l.take n ++ more) Lx.blankB s.i = Lx.pass l Lx.blankB s.i := Lx.pass_agree hA Lx.blankB (by omega)
    have := hA.le'
    rw [e, hp, if_pos (by omega), e1]
theorem text_cut {l : List UInt8} {m : LM} {n : Nat} (hl : l.length ≤ 1048576) (h : textS l m = .error n) : textS (l.take (n - 1)) m = .error n ∨ ∃ x, textS (l.take (n - 1)) m = .ok x := by
  have hg := text_gt h
  obtain ⟨N, rfl⟩ : ∃ N, n = N + 1 := ⟨n - 1, by omega⟩
  rw [show N + 1 - 1 = N by omega]
  rcases text_lk (lk_cut l (by omega)) hl h with e | ⟨v, s, hs, e1, e2, e⟩
  · exact Or.inl e
  · have hge := Lx.pass_ge l Lx.blankB s.i
    have hp : Lx.pass (l.take N) Lx.blankB s.i = N := Lx.pass_cut_end (by omega) Lx.blankB (by omega) (by omega)
    refine Or.inr ⟨(v, s), ?_⟩
    rw [e, hp, if_neg (by simp; omega)]
end Go.Proofs.YtlahlnocjfphjaaGreatDoor

namespace Go.Proofs.YtlahlnocjfphjaaGreatDoor
open Go.RowKit Go.Maps
attribute [local go_sem] setCell_drewN alloc_drewN

/-- What is read, told by the verdict alone. -/
def RdQ (x : Int × Int) (w : World) (r : Ending) (w' : World) : Prop := Below w.heap.size w w' ∧ ∃ k n g e t a1 m1 c1 a2 m2 c2, r = .returned (.tuple #[.agg #[.int .i64 k, .bool n, .string g, .int .i64 e, .string t, .slice a1 m1 c1, .slice a2 m2 c2], .agg #[.int .i64 x.1, .int .i64 x.2]])
theorem readQ (l : List UInt8) (v : Value) (w : World) (a : Addr) (hE : Lx.Env w) (hD : Env w a) (hB : Lx.Byt w v l) :
    Calls Tryz.prog 9 #[v, .agg #[.int .i64 0, .int .i64 0, .int .i64 0, .int .i64 0, .int .i64 0]] w (RdQ (vr (judgedS l (bm 0 0 0))) w) :=
  (read_any l v 0 0 0 0 0 w a hE hD hB).mono fun _ _ h => h.lit

set_option maxRecDepth 100000 in
set_option maxHeartbeats 1600000 in
theorem jb_else (l l2 : List UInt8) (v v2 : Value) (w : World) (a : Addr) (hE : Lx.Env w) (hD : Env w a) (hB : Lx.Byt w v l) (hB2 : Lx.Byt w v2 l2) (r k : Int) (hx : vr (judgedS l (bm 0 0 0)) = (r, k)) (hr : r ≠ 3) :
    Calls Tryz.prog 6 #[v, v2] w fun r w' => r = .returned (.bool true) ∧ Below w.heap.size w w' := by
  have HR := hid_intro (fun (w' : World) (hb : Below w.heap.size w w') (v' : Value) (l' : List UInt8) (hB' : Lx.Byt w' v' l') => readQ l' v' w' a (hE.below hb) (hD.below hb) hB')
  have HR1 := hid_intro (HR.out w (Below.refl _ _) v l hB)
  have HH := hid_intro (fun (w' : World) (hb : Below w.heap.size w w') => heads_any w' a (hE.below hb) (hD.below hb))
  have HBB := hid_intro (fun (w' : World) (hb : Below w.heap.size w w') => And.intro (hB.below hb) (hB2.below hb))
  obtain ⟨ao, cap, rfl⟩ := byt_shape hB
  obtain ⟨ao2, cap2, rfl⟩ := byt_shape hB2
  rw [hx] at HR1
  have hr3 : (r == 3) = false := by simpa using hr
  have hr4 : (r != 3) = true := by simpa using hr
  clear hx
  clear hE hD hB hB2
  go_enter Tryz.func6, Tryz.ntmps6
  go_wp2_with fail
  refine HR1.out.mono ?_; rintro r1 w1 ⟨hb1, k1, n1, g1, e1, t1, a1, m1, c1, b1, o1, d1, rfl⟩
  have hb01 : Below w.heap.size w ((w1.alloc (.cells #[.int .i64 k1, .bool n1, .string g1, .int .i64 e1, .string t1, .slice a1 m1 c1, .slice b1 o1 d1] 31)).alloc (.cells #[.int .i64 r, .int .i64 k] 34)) := vb_a (vb_a hb1 _) _
  have HHD : Hid (∀ w', Below (World.heap ((w1.alloc (.cells #[.int .i64 k1, .bool n1, .string g1, .int .i64 e1, .string t1, .slice a1 m1 c1, .slice b1 o1 d1] 31)).alloc (.cells #[.int .i64 r, .int .i64 k] 34))).size ((w1.alloc (.cells #[.int .i64 k1, .bool n1, .string g1, .int .i64 e1, .string t1, .slice a1 m1 c1, .slice b1 o1 d1] 31)).alloc (.cells #[.int .i64 r, .int .i64 k] 34)) w' → Calls Tryz.prog 14 #[] w' (fun r w3 => r = .returned (.bool true) ∧ Below w.heap.size w w3)) := hid_intro (fun w' hb => (HH.out w' (vb_t hb01 hb)).mono fun r w3 hr => ⟨hr.1, vb_t (vb_t hb01 hb) hr.2⟩)
  have hc := Below.refl (World.heap ((w1.alloc (.cells #[.int .i64 k1, .bool n1, .string g1, .int .i64 e1, .string t1, .slice a1 m1 c1, .slice b1 o1 d1] 31)).alloc (.cells #[.int .i64 r, .int .i64 k] 34))).size ((w1.alloc (.cells #[.int .i64 k1, .bool n1, .string g1, .int .i64 e1, .string t1, .slice a1 m1 c1, .slice b1 o1 d1] 31)).alloc (.cells #[.int .i64 r, .int .i64 k] 34))
  clear HH HR HR1 HBB hb01 hb1
  go_wp2_with (go_at_call 14; refine (HHD.out _ ?_).mono ?_; (with_reducible repeat (first | exact hc | refine vb_d ?_)); rintro r9 w9 ⟨rfl, hw9⟩)
  go_ret
  exact ⟨rfl, hw9⟩

set_option maxRecDepth 100000 in
set_option maxHeartbeats 1600000 in
theorem jb_long (l l2 : List UInt8) (v v2 : Value) (w : World) (a : Addr) (hE : Lx.Env w) (hD : Env w a) (hB : Lx.Byt w v l) (hB2 : Lx.Byt w v2 l2) (k : Int) (hx : vr (judgedS l (bm 0 0 0)) = (3, k)) (hl : 100000 < l.length) :
    Calls Tryz.prog 6 #[v, v2] w fun r w' => r = .returned (.bool true) ∧ Below w.heap.size w w' := by
  have HR := hid_intro (fun (w' : World) (hb : Below w.heap.size w w') (v' : Value) (l' : List UInt8) (hB' : Lx.Byt w' v' l') => readQ l' v' w' a (hE.below hb) (hD.below hb) hB')
  have HR1 := hid_intro (HR.out w (Below.refl _ _) v l hB)
  have HH := hid_intro (fun (w' : World) (hb : Below w.heap.size w w') => heads_any w' a (hE.below hb) (hD.below hb))
  have HBB := hid_intro (fun (w' : World) (hb : Below w.heap.size w w') => And.intro (hB.below hb) (hB2.below hb))
  obtain ⟨ao, cap, rfl⟩ := byt_shape hB
  obtain ⟨ao2, cap2, rfl⟩ := byt_shape hB2
  rw [hx] at HR1
  have hI : (100000 : Int) < (l.length : Int) := by omega
  clear hx hl
  clear hE hD hB hB2
  go_enter Tryz.func6, Tryz.ntmps6
  go_wp2_with fail
  refine HR1.out.mono ?_; rintro r1 w1 ⟨hb1, k1, n1, g1, e1, t1, a1, m1, c1, b1, o1, d1, rfl⟩
  have hb01 : Below w.heap.size w ((w1.alloc (.cells #[.int .i64 k1, .bool n1, .string g1, .int .i64 e1, .string t1, .slice a1 m1 c1, .slice b1 o1 d1] 31)).alloc (.cells #[.int .i64 3, .int .i64 k] 34)) := vb_a (vb_a hb1 _) _
  have HHD : Hid (∀ w', Below (World.heap ((w1.alloc (.cells #[.int .i64 k1, .bool n1, .string g1, .int .i64 e1, .string t1, .slice a1 m1 c1, .slice b1 o1 d1] 31)).alloc (.cells #[.int .i64 3, .int .i64 k] 34))).size ((w1.alloc (.cells #[.int .i64 k1, .bool n1, .string g1, .int .i64 e1, .string t1, .slice a1 m1 c1, .slice b1 o1 d1] 31)).alloc (.cells #[.int .i64 3, .int .i64 k] 34)) w' → Calls Tryz.prog 14 #[] w' (fun r w3 => r = .returned (.bool true) ∧ Below w.heap.size w w3)) := hid_intro (fun w' hb => (HH.out w' (vb_t hb01 hb)).mono fun r w3 hr => ⟨hr.1, vb_t (vb_t hb01 hb) hr.2⟩)
  have hc := Below.refl (World.heap ((w1.alloc (.cells #[.int .i64 k1, .bool n1, .string g1, .int .i64 e1, .string t1, .slice a1 m1 c1, .slice b1 o1 d1] 31)).alloc (.cells #[.int .i64 3, .int .i64 k] 34))).size ((w1.alloc (.cells #[.int .i64 k1, .bool n1, .string g1, .int .i64 e1, .string t1, .slice a1 m1 c1, .slice b1 o1 d1] 31)).alloc (.cells #[.int .i64 3, .int .i64 k] 34))
  clear HH HR HR1 HBB hb01 hb1
  go_wp2_with (go_at_call 14; refine (HHD.out _ ?_).mono ?_; (with_reducible repeat (first | exact hc | refine vb_d ?_)); rintro r9 w9 ⟨rfl, hw9⟩)
  go_ret
  exact ⟨rfl, hw9⟩

set_option maxRecDepth 100000 in
set_option maxHeartbeats 1600000 in
theorem jb_long2 (l l2 : List UInt8) (v v2 : Value) (w : World) (a : Addr) (hE : Lx.Env w) (hD : Env w a) (hB : Lx.Byt w v l) (hB2 : Lx.Byt w v2 l2) (k : Int) (hx : vr (judgedS l (bm 0 0 0)) = (3, k)) (hl : l.length ≤ 100000) (hl2 : 100000 < l2.length) :
    Calls Tryz.prog 6 #[v, v2] w fun r w' => r = .returned (.bool true) ∧ Below w.heap.size w w' := by
  have HR := hid_intro (fun (w' : World) (hb : Below w.heap.size w w') (v' : Value) (l' : List UInt8) (hB' : Lx.Byt w' v' l') => readQ l' v' w' a (hE.below hb) (hD.below hb) hB')
  have HR1 := hid_intro (HR.out w (Below.refl _ _) v l hB)
  have HH := hid_intro (fun (w' : World) (hb : Below w.heap.size w w') => heads_any w' a (hE.below hb) (hD.below hb))
  have HBB := hid_intro (fun (w' : World) (hb : Below w.heap.size w w') => And.intro (hB.below hb) (hB2.below hb))
  obtain ⟨ao, cap, rfl⟩ := byt_shape hB
  obtain ⟨ao2, cap2, rfl⟩ := byt_shape hB2
  rw [hx] at HR1
  have hI : ¬ (100000 : Int) < (l.length : Int) := by omega
  have hI2 : (100000 : Int) < (l2.length : Int) := by omega
  clear hx hl hl2
  clear hE hD hB hB2
  go_enter Tryz.func6, Tryz.ntmps6
  go_wp2_with fail
  refine HR1.out.mono ?_; rintro r1 w1 ⟨hb1, k1, n1, g1, e1, t1, a1, m1, c1, b1, o1, d1, rfl⟩
  have hb01 : Below w.heap.size w ((w1.alloc (.cells #[.int .i64 k1, .bool n1, .string g1, .int .i64 e1, .string t1, .slice a1 m1 c1, .slice b1 o1 d1] 31)).alloc (.cells #[.int .i64 3, .int .i64 k] 34)) := vb_a (vb_a hb1 _) _
  have HHD : Hid (∀ w', Below (World.heap ((w1.alloc (.cells #[.int .i64 k1, .bool n1, .string g1, .int .i64 e1, .string t1, .slice a1 m1 c1, .slice b1 o1 d1] 31)).alloc (.cells #[.int .i64 3, .int .i64 k] 34))).size ((w1.alloc (.cells #[.int .i64 k1, .bool n1, .string g1, .int .i64 e1, .string t1, .slice a1 m1 c1, .slice b1 o1 d1] 31)).alloc (.cells #[.int .i64 3, .int .i64 k] 34)) w' → Calls Tryz.prog 14 #[] w' (fun r w3 => r = .returned (.bool true) ∧ Below w.heap.size w w3)) := hid_intro (fun w' hb => (HH.out w' (vb_t hb01 hb)).mono fun r w3 hr => ⟨hr.1, vb_t (vb_t hb01 hb) hr.2⟩)
  have hc := Below.refl (World.heap ((w1.alloc (.cells #[.int .i64 k1, .bool n1, .string g1, .int .i64 e1, .string t1, .slice a1 m1 c1, .slice b1 o1 d1] 31)).alloc (.cells #[.int .i64 3, .int .i64 k] 34))).size ((w1.alloc (.cells #[.int .i64 k1, .bool n1, .string g1, .int .i64 e1, .string t1, .slice a1 m1 c1, .slice b1 o1 d1] 31)).alloc (.cells #[.int .i64 3, .int .i64 k] 34))
  clear HH HR HR1 HBB hb01 hb1
  go_wp2_with (go_at_call 14; refine (HHD.out _ ?_).mono ?_; (with_reducible repeat (first | exact hc | refine vb_d ?_)); rintro r9 w9 ⟨rfl, hw9⟩)
  go_ret
  exact ⟨rfl, hw9⟩

set_option maxRecDepth 100000 in
set_option maxHeartbeats 1600000 in
theorem jb_end_ok (l l2 : List UInt8) (v v2 : Value) (w : World) (a : Addr) (hE : Lx.Env w) (hD : Env w a) (hB : Lx.Byt w v l) (hB2 : Lx.Byt w v2 l2) (N : Nat) (j : Int) (hx : vr (judgedS l (bm 0 0 0)) = (3, (N : Int) + 1)) (hy : vr (judgedS (l.take N) (bm 0 0 0)) = (1, j)) (hl : l.length ≤ 100000) (hl2 : l2.length ≤ 100000) (hN : N = l.length) :
    Calls Tryz.prog 6 #[v, v2] w fun r w' => r = .returned (.bool true) ∧ Below w.heap.size w w' := by
  have HR := hid_intro (fun (w' : World) (hb : Below w.heap.size w w') (v' : Value) (l' : List UInt8) (hB' : Lx.Byt w' v' l') => readQ l' v' w' a (hE.below hb) (hD.below hb) hB')
  have HR1 := hid_intro (HR.out w (Below.refl _ _) v l hB)
  have HH := hid_intro (fun (w' : World) (hb : Below w.heap.size w w') => heads_any w' a (hE.below hb) (hD.below hb))
  have HBB := hid_intro (fun (w' : World) (hb : Below w.heap.size w w') => And.intro (hB.below hb) (hB2.below hb))
  obtain ⟨ao, cap, rfl⟩ := byt_shape hB
  obtain ⟨ao2, cap2, rfl⟩ := byt_shape hB2
  rw [hx] at HR1
  have hcp := (byt_take hB (e := N) (by omega)).2
  have HT2 : Hid (∀ w', Below w.heap.size w w' → Calls Tryz.prog 9 #[.slice ao N cap, .agg #[.int .i64 0, .int .i64 0, .int .i64 0, .int .i64 0, .int .i64 0]] w' (RdQ (1, j) w')) := hid_intro (fun w' hb => by
    have := HR.out w' hb _ _ (byt_take (hB.below hb) (e := N) (by omega)).1
    rw [hy] at this
    exact this)
  have hI : ¬ (100000 : Int) < (l.length : Int) := by omega
  have hI2 : ¬ (100000 : Int) < (l2.length : Int) := by omega
  have hN1 : ¬ (N : Int) + 1 < 1 := by omega
  have hN2 : ¬ (l.length : Int) + 1 < (N : Int) + 1 := by omega
  have hN3 : (N : Int) ≤ (l.length : Int) := by omega
  have hlI : (l.length : Int) ≤ 100000 := by omega
  have hw1 : wrap64 ((l.length : Int) + 1) = (l.length : Int) + 1 := by unfold wrap64; omega
  have hwN : wrap64 ((N : Int) + 1 - 1) = (N : Int) := by unfold wrap64; omega
  have hmin : min (N : Int) (l.length : Int) = (N : Int) := by omega
  have hcI : (N : Int) ≤ (cap : Int) := by omega
  have hN0 : ¬ (N : Int) < 0 := by omega
  have hN4 : (l.length : Int) < (N : Int) + 1 := by omega
  clear hE hD hB hB2 hx hy hl hl2 hN HR hcp
  go_enter Tryz.func6, Tryz.ntmps6
  go_wp2_with fail
  refine HR1.out.mono ?_; rintro r1 w1 ⟨hb1, k1, n1, g1, e1, t1, a1, m1, c1, b1, o1, d1, rfl⟩
  obtain ⟨A1, hA1⟩ : ∃ A1, ((w1.alloc (.cells #[.int .i64 k1, .bool n1, .string g1, .int .i64 e1, .string t1, .slice a1 m1 c1, .slice b1 o1 d1] 31)).alloc (.cells #[.int .i64 3, .int .i64 ((N : Int) + 1)] 34)) = A1 := ⟨_, rfl⟩
  have HA1 := hid_intro hA1
  have hs1 : Below w1.heap.size w1 A1 := hA1 ▸ vb_a (vb_a (Below.refl _ _) _) _
  have hb01 := vb_t hb1 hs1
  have hy1 : Bj A1 (w1.heap.size + 1) #[.int .i64 3, .int .i64 ((N : Int) + 1)] := hA1 ▸ Bj.new' _ _ _ _ (by simp)
  clear hA1 HR1
  go_wp2_with fail
  rw [HA1.out]
  refine (HT2.out A1 hb01).mono ?_; rintro r2 w2 ⟨hb2, k2, n2, g2, e2, t2, a2, m2, c2, b2, o2, d2, rfl⟩
  have hs2 : Below w2.heap.size w2 ((w2.alloc (.cells #[.int .i64 k2, .bool n2, .string g2, .int .i64 e2, .string t2, .slice a2 m2 c2, .slice b2 o2 d2] 31)).alloc (.cells #[.int .i64 1, .int .i64 j] 34)) := vb_a (vb_a (Below.refl _ _) _) _
  have hb12 : Below A1.heap.size A1 ((w2.alloc (.cells #[.int .i64 k2, .bool n2, .string g2, .int .i64 e2, .string t2, .slice a2 m2 c2, .slice b2 o2 d2] 31)).alloc (.cells #[.int .i64 1, .int .i64 j] 34)) := vb_t hb2 hs2
  have hb02 : Below w.heap.size w ((w2.alloc (.cells #[.int .i64 k2, .bool n2, .string g2, .int .i64 e2, .string t2, .slice a2 m2 c2, .slice b2 o2 d2] 31)).alloc (.cells #[.int .i64 1, .int .i64 j] 34)) := vb_t hb01 hb12
  have hy2 : Bj ((w2.alloc (.cells #[.int .i64 k2, .bool n2, .string g2, .int .i64 e2, .string t2, .slice a2 m2 c2, .slice b2 o2 d2] 31)).alloc (.cells #[.int .i64 1, .int .i64 j] 34)) (w2.heap.size + 1) #[.int .i64 1, .int .i64 j] := Bj.new' _ _ _ _ (by simp)
  obtain ⟨y0, y1⟩ := (hy1.bel hb12).c2
  obtain ⟨u0, u1⟩ := hy2.c2
  have HHD : Hid (∀ w', Below (World.heap ((w2.alloc (.cells #[.int .i64 k2, .bool n2, .string g2, .int .i64 e2, .string t2, .slice a2 m2 c2, .slice b2 o2 d2] 31)).alloc (.cells #[.int .i64 1, .int .i64 j] 34))).size ((w2.alloc (.cells #[.int .i64 k2, .bool n2, .string g2, .int .i64 e2, .string t2, .slice a2 m2 c2, .slice b2 o2 d2] 31)).alloc (.cells #[.int .i64 1, .int .i64 j] 34)) w' → Calls Tryz.prog 14 #[] w' (fun r w3 => r = .returned (.bool true) ∧ Below w.heap.size w w3)) := hid_intro (fun w' hb => (HH.out w' (vb_t hb02 hb)).mono fun r w3 hr => ⟨hr.1, vb_t (vb_t hb02 hb) hr.2⟩)
  have hc := Below.refl (World.heap ((w2.alloc (.cells #[.int .i64 k2, .bool n2, .string g2, .int .i64 e2, .string t2, .slice a2 m2 c2, .slice b2 o2 d2] 31)).alloc (.cells #[.int .i64 1, .int .i64 j] 34))).size ((w2.alloc (.cells #[.int .i64 k2, .bool n2, .string g2, .int .i64 e2, .string t2, .slice a2 m2 c2, .slice b2 o2 d2] 31)).alloc (.cells #[.int .i64 1, .int .i64 j] 34))
  clear hy1 hy2 hb12 hb02 hs1 hs2 hb01 hb1 hb2 HT2 HH HA1 HBB
  go_wp2_with (go_at_call 14; refine (HHD.out _ ?_).mono ?_; (with_reducible repeat (first | exact hc | refine vb_d ?_)); rintro r9 w9 ⟨rfl, hw9⟩)
  go_ret
  exact ⟨rfl, hw9⟩

set_option maxRecDepth 100000 in
set_option maxHeartbeats 1600000 in
theorem jb_end_ex (l l2 : List UInt8) (v v2 : Value) (w : World) (a : Addr) (hE : Lx.Env w) (hD : Env w a) (hB : Lx.Byt w v l) (hB2 : Lx.Byt w v2 l2) (N : Nat) (j : Int) (hx : vr (judgedS l (bm 0 0 0)) = (3, (N : Int) + 1)) (hy : vr (judgedS (l.take N) (bm 0 0 0)) = (4, j)) (hl : l.length ≤ 100000) (hl2 : l2.length ≤ 100000) (hN : N = l.length) :
    Calls Tryz.prog 6 #[v, v2] w fun r w' => r = .returned (.bool true) ∧ Below w.heap.size w w' := by
  have HR := hid_intro (fun (w' : World) (hb : Below w.heap.size w w') (v' : Value) (l' : List UInt8) (hB' : Lx.Byt w' v' l') => readQ l' v' w' a (hE.below hb) (hD.below hb) hB')
  have HR1 := hid_intro (HR.out w (Below.refl _ _) v l hB)
  have HH := hid_intro (fun (w' : World) (hb : Below w.heap.size w w') => heads_any w' a (hE.below hb) (hD.below hb))
  have HBB := hid_intro (fun (w' : World) (hb : Below w.heap.size w w') => And.intro (hB.below hb) (hB2.below hb))
  obtain ⟨ao, cap, rfl⟩ := byt_shape hB
  obtain ⟨ao2, cap2, rfl⟩ := byt_shape hB2
  rw [hx] at HR1
  have hcp := (byt_take hB (e := N) (by omega)).2
  have HT2 : Hid (∀ w', Below w.heap.size w w' → Calls Tryz.prog 9 #[.slice ao N cap, .agg #[.int .i64 0, .int .i64 0, .int .i64 0, .int .i64 0, .int .i64 0]] w' (RdQ (4, j) w')) := hid_intro (fun w' hb => by
    have := HR.out w' hb _ _ (byt_take (hB.below hb) (e := N) (by omega)).1
    rw [hy] at this
    exact this)
  have hI : ¬ (100000 : Int) < (l.length : Int) := by omega
  have hI2 : ¬ (100000 : Int) < (l2.length : Int) := by omega
  have hN1 : ¬ (N : Int) + 1 < 1 := by omega
  have hN2 : ¬ (l.length : Int) + 1 < (N : Int) + 1 := by omega
  have hN3 : (N : Int) ≤ (l.length : Int) := by omega
  have hlI : (l.length : Int) ≤ 100000 := by omega
  have hw1 : wrap64 ((l.length : Int) + 1) = (l.length : Int) + 1 := by unfold wrap64; omega
  have hwN : wrap64 ((N : Int) + 1 - 1) = (N : Int) := by unfold wrap64; omega
  have hmin : min (N : Int) (l.length : Int) = (N : Int) := by omega
  have hcI : (N : Int) ≤ (cap : Int) := by omega
  have hN0 : ¬ (N : Int) < 0 := by omega
  have hN4 : (l.length : Int) < (N : Int) + 1 := by omega
  clear hE hD hB hB2 hx hy hl hl2 hN HR hcp
  go_enter Tryz.func6, Tryz.ntmps6
  go_wp2_with fail
  refine HR1.out.mono ?_; rintro r1 w1 ⟨hb1, k1, n1, g1, e1, t1, a1, m1, c1, b1, o1, d1, rfl⟩
  obtain ⟨A1, hA1⟩ : ∃ A1, ((w1.alloc (.cells #[.int .i64 k1, .bool n1, .string g1, .int .i64 e1, .string t1, .slice a1 m1 c1, .slice b1 o1 d1] 31)).alloc (.cells #[.int .i64 3, .int .i64 ((N : Int) + 1)] 34)) = A1 := ⟨_, rfl⟩
  have HA1 := hid_intro hA1
  have hs1 : Below w1.heap.size w1 A1 := hA1 ▸ vb_a (vb_a (Below.refl _ _) _) _
  have hb01 := vb_t hb1 hs1
  have hy1 : Bj A1 (w1.heap.size + 1) #[.int .i64 3, .int .i64 ((N : Int) + 1)] := hA1 ▸ Bj.new' _ _ _ _ (by simp)
  clear hA1 HR1
  go_wp2_with fail
  rw [HA1.out]
  refine (HT2.out A1 hb01).mono ?_; rintro r2 w2 ⟨hb2, k2, n2, g2, e2, t2, a2, m2, c2, b2, o2, d2, rfl⟩
  have hs2 : Below w2.heap.size w2 ((w2.alloc (.cells #[.int .i64 k2, .bool n2, .string g2, .int .i64 e2, .string t2, .slice a2 m2 c2, .slice b2 o2 d2] 31)).alloc (.cells #[.int .i64 4, .int .i64 j] 34)) := vb_a (vb_a (Below.refl _ _) _) _
  have hb12 : Below A1.heap.size A1 ((w2.alloc (.cells #[.int .i64 k2, .bool n2, .string g2, .int .i64 e2, .string t2, .slice a2 m2 c2, .slice b2 o2 d2] 31)).alloc (.cells #[.int .i64 4, .int .i64 j] 34)) := vb_t hb2 hs2
  have hb02 : Below w.heap.size w ((w2.alloc (.cells #[.int .i64 k2, .bool n2, .string g2, .int .i64 e2, .string t2, .slice a2 m2 c2, .slice b2 o2 d2] 31)).alloc (.cells #[.int .i64 4, .int .i64 j] 34)) := vb_t hb01 hb12
  have hy2 : Bj ((w2.alloc (.cells #[.int .i64 k2, .bool n2, .string g2, .int .i64 e2, .string t2, .slice a2 m2 c2, .slice b2 o2 d2] 31)).alloc (.cells #[.int .i64 4, .int .i64 j] 34)) (w2.heap.size + 1) #[.int .i64 4, .int .i64 j] := Bj.new' _ _ _ _ (by simp)
  obtain ⟨y0, y1⟩ := (hy1.bel hb12).c2
  obtain ⟨u0, u1⟩ := hy2.c2
  have HHD : Hid (∀ w', Below (World.heap ((w2.alloc (.cells #[.int .i64 k2, .bool n2, .string g2, .int .i64 e2, .string t2, .slice a2 m2 c2, .slice b2 o2 d2] 31)).alloc (.cells #[.int .i64 4, .int .i64 j] 34))).size ((w2.alloc (.cells #[.int .i64 k2, .bool n2, .string g2, .int .i64 e2, .string t2, .slice a2 m2 c2, .slice b2 o2 d2] 31)).alloc (.cells #[.int .i64 4, .int .i64 j] 34)) w' → Calls Tryz.prog 14 #[] w' (fun r w3 => r = .returned (.bool true) ∧ Below w.heap.size w w3)) := hid_intro (fun w' hb => (HH.out w' (vb_t hb02 hb)).mono fun r w3 hr => ⟨hr.1, vb_t (vb_t hb02 hb) hr.2⟩)
  have hc := Below.refl (World.heap ((w2.alloc (.cells #[.int .i64 k2, .bool n2, .string g2, .int .i64 e2, .string t2, .slice a2 m2 c2, .slice b2 o2 d2] 31)).alloc (.cells #[.int .i64 4, .int .i64 j] 34))).size ((w2.alloc (.cells #[.int .i64 k2, .bool n2, .string g2, .int .i64 e2, .string t2, .slice a2 m2 c2, .slice b2 o2 d2] 31)).alloc (.cells #[.int .i64 4, .int .i64 j] 34))
  clear hy1 hy2 hb12 hb02 hs1 hs2 hb01 hb1 hb2 HT2 HH HA1 HBB
  go_wp2_with (go_at_call 14; refine (HHD.out _ ?_).mono ?_; (with_reducible repeat (first | exact hc | refine vb_d ?_)); rintro r9 w9 ⟨rfl, hw9⟩)
  go_ret
  exact ⟨rfl, hw9⟩

set_option maxRecDepth 100000 in
set_option maxHeartbeats 1600000 in
theorem jb_end_bad (l l2 : List UInt8) (v v2 : Value) (w : World) (a : Addr) (hE : Lx.Env w) (hD : Env w a) (hB : Lx.Byt w v l) (hB2 : Lx.Byt w v2 l2) (N : Nat) (hx : vr (judgedS l (bm 0 0 0)) = (3, (N : Int) + 1)) (hy : vr (judgedS (l.take N) (bm 0 0 0)) = (3, (N : Int) + 1)) (hl : l.length ≤ 100000) (hl2 : l2.length ≤ 100000) (hN : N = l.length) :
    Calls Tryz.prog 6 #[v, v2] w fun r w' => r = .returned (.bool true) ∧ Below w.heap.size w w' := by
  have HR := hid_intro (fun (w' : World) (hb : Below w.heap.size w w') (v' : Value) (l' : List UInt8) (hB' : Lx.Byt w' v' l') => readQ l' v' w' a (hE.below hb) (hD.below hb) hB')
  have HR1 := hid_intro (HR.out w (Below.refl _ _) v l hB)
  have HH := hid_intro (fun (w' : World) (hb : Below w.heap.size w w') => heads_any w' a (hE.below hb) (hD.below hb))
  have HBB := hid_intro (fun (w' : World) (hb : Below w.heap.size w w') => And.intro (hB.below hb) (hB2.below hb))
  obtain ⟨ao, cap, rfl⟩ := byt_shape hB
  obtain ⟨ao2, cap2, rfl⟩ := byt_shape hB2
  rw [hx] at HR1
  have hcp := (byt_take hB (e := N) (by omega)).2
  have HT2 : Hid (∀ w', Below w.heap.size w w' → Calls Tryz.prog 9 #[.slice ao N cap, .agg #[.int .i64 0, .int .i64 0, .int .i64 0, .int .i64 0, .int .i64 0]] w' (RdQ (3, (N : Int) + 1) w')) := hid_intro (fun w' hb => by
    have := HR.out w' hb _ _ (byt_take (hB.below hb) (e := N) (by omega)).1
    rw [hy] at this
    exact this)
  have hI : ¬ (100000 : Int) < (l.length : Int) := by omega
  have hI2 : ¬ (100000 : Int) < (l2.length : Int) := by omega
  have hN1 : ¬ (N : Int) + 1 < 1 := by omega
  have hN2 : ¬ (l.length : Int) + 1 < (N : Int) + 1 := by omega
  have hN3 : (N : Int) ≤ (l.length : Int) := by omega
  have hlI : (l.length : Int) ≤ 100000 := by omega
  have hw1 : wrap64 ((l.length : Int) + 1) = (l.length : Int) + 1 := by unfold wrap64; omega
  have hwN : wrap64 ((N : Int) + 1 - 1) = (N : Int) := by unfold wrap64; omega
  have hmin : min (N : Int) (l.length : Int) = (N : Int) := by omega
  have hcI : (N : Int) ≤ (cap : Int) := by omega
  have hN0 : ¬ (N : Int) < 0 := by omega
  have hN4 : (l.length : Int) < (N : Int) + 1 := by omega
  clear hE hD hB hB2 hx hy hl hl2 hN HR hcp
  go_enter Tryz.func6, Tryz.ntmps6
  go_wp2_with fail
  refine HR1.out.mono ?_; rintro r1 w1 ⟨hb1, k1, n1, g1, e1, t1, a1, m1, c1, b1, o1, d1, rfl⟩
  obtain ⟨A1, hA1⟩ : ∃ A1, ((w1.alloc (.cells #[.int .i64 k1, .bool n1, .string g1, .int .i64 e1, .string t1, .slice a1 m1 c1, .slice b1 o1 d1] 31)).alloc (.cells #[.int .i64 3, .int .i64 ((N : Int) + 1)] 34)) = A1 := ⟨_, rfl⟩
  have HA1 := hid_intro hA1
  have hs1 : Below w1.heap.size w1 A1 := hA1 ▸ vb_a (vb_a (Below.refl _ _) _) _
  have hb01 := vb_t hb1 hs1
  have hy1 : Bj A1 (w1.heap.size + 1) #[.int .i64 3, .int .i64 ((N : Int) + 1)] := hA1 ▸ Bj.new' _ _ _ _ (by simp)
  clear hA1 HR1
  go_wp2_with fail
  rw [HA1.out]
  refine (HT2.out A1 hb01).mono ?_; rintro r2 w2 ⟨hb2, k2, n2, g2, e2, t2, a2, m2, c2, b2, o2, d2, rfl⟩
  have hs2 : Below w2.heap.size w2 ((w2.alloc (.cells #[.int .i64 k2, .bool n2, .string g2, .int .i64 e2, .string t2, .slice a2 m2 c2, .slice b2 o2 d2] 31)).alloc (.cells #[.int .i64 3, .int .i64 ((N : Int) + 1)] 34)) := vb_a (vb_a (Below.refl _ _) _) _
  have hb12 : Below A1.heap.size A1 ((w2.alloc (.cells #[.int .i64 k2, .bool n2, .string g2, .int .i64 e2, .string t2, .slice a2 m2 c2, .slice b2 o2 d2] 31)).alloc (.cells #[.int .i64 3, .int .i64 ((N : Int) + 1)] 34)) := vb_t hb2 hs2
  have hb02 : Below w.heap.size w ((w2.alloc (.cells #[.int .i64 k2, .bool n2, .string g2, .int .i64 e2, .string t2, .slice a2 m2 c2, .slice b2 o2 d2] 31)).alloc (.cells #[.int .i64 3, .int .i64 ((N : Int) + 1)] 34)) := vb_t hb01 hb12
  have hy2 : Bj ((w2.alloc (.cells #[.int .i64 k2, .bool n2, .string g2, .int .i64 e2, .string t2, .slice a2 m2 c2, .slice b2 o2 d2] 31)).alloc (.cells #[.int .i64 3, .int .i64 ((N : Int) + 1)] 34)) (w2.heap.size + 1) #[.int .i64 3, .int .i64 ((N : Int) + 1)] := Bj.new' _ _ _ _ (by simp)
  obtain ⟨y0, y1⟩ := (hy1.bel hb12).c2
  obtain ⟨u0, u1⟩ := hy2.c2
  have HHD : Hid (∀ w', Below (World.heap ((w2.alloc (.cells #[.int .i64 k2, .bool n2, .string g2, .int .i64 e2, .string t2, .slice a2 m2 c2, .slice b2 o2 d2] 31)).alloc (.cells #[.int .i64 3, .int .i64 ((N : Int) + 1)] 34))).size ((w2.alloc (.cells #[.int .i64 k2, .bool n2, .string g2, .int .i64 e2, .string t2, .slice a2 m2 c2, .slice b2 o2 d2] 31)).alloc (.cells #[.int .i64 3, .int .i64 ((N : Int) + 1)] 34)) w' → Calls Tryz.prog 14 #[] w' (fun r w3 => r = .returned (.bool true) ∧ Below w.heap.size w w3)) := hid_intro (fun w' hb => (HH.out w' (vb_t hb02 hb)).mono fun r w3 hr => ⟨hr.1, vb_t (vb_t hb02 hb) hr.2⟩)
  have hc := Below.refl (World.heap ((w2.alloc (.cells #[.int .i64 k2, .bool n2, .string g2, .int .i64 e2, .string t2, .slice a2 m2 c2, .slice b2 o2 d2] 31)).alloc (.cells #[.int .i64 3, .int .i64 ((N : Int) + 1)] 34))).size ((w2.alloc (.cells #[.int .i64 k2, .bool n2, .string g2, .int .i64 e2, .string t2, .slice a2 m2 c2, .slice b2 o2 d2] 31)).alloc (.cells #[.int .i64 3, .int .i64 ((N : Int) + 1)] 34))
  clear hy1 hy2 hb12 hb02 hs1 hs2 hb01 hb1 hb2 HT2 HH HA1 HBB
  go_wp2_with (go_at_call 14; refine (HHD.out _ ?_).mono ?_; (with_reducible repeat (first | exact hc | refine vb_d ?_)); rintro r9 w9 ⟨rfl, hw9⟩)
  go_ret
  exact ⟨rfl, hw9⟩

set_option maxRecDepth 100000 in
set_option maxHeartbeats 1600000 in
theorem jb_mid_ok (l l2 : List UInt8) (v v2 : Value) (w : World) (a : Addr) (hE : Lx.Env w) (hD : Env w a) (hB : Lx.Byt w v l) (hB2 : Lx.Byt w v2 l2) (N : Nat) (j : Int) (hx : vr (judgedS l (bm 0 0 0)) = (3, (N : Int) + 1)) (hy : vr (judgedS (l.take N) (bm 0 0 0)) = (1, j)) (hl : l.length ≤ 100000) (hl2 : l2.length ≤ 100000) (hN : N < l.length) (hz : vr (judgedS (l.take (N + 1) ++ l2) (bm 0 0 0)) = (3, (N : Int) + 1)) :
    Calls Tryz.prog 6 #[v, v2] w fun r w' => r = .returned (.bool true) ∧ Below w.heap.size w w' := by
  have HR := hid_intro (fun (w' : World) (hb : Below w.heap.size w w') (v' : Value) (l' : List UInt8) (hB' : Lx.Byt w' v' l') => readQ l' v' w' a (hE.below hb) (hD.below hb) hB')
  have HR1 := hid_intro (HR.out w (Below.refl _ _) v l hB)
  have HH := hid_intro (fun (w' : World) (hb : Below w.heap.size w w') => heads_any w' a (hE.below hb) (hD.below hb))
  have HBB := hid_intro (fun (w' : World) (hb : Below w.heap.size w w') => And.intro (hB.below hb) (hB2.below hb))
  obtain ⟨ao, cap, rfl⟩ := byt_shape hB
  obtain ⟨ao2, cap2, rfl⟩ := byt_shape hB2
  rw [hx] at HR1
  have hcp := (byt_take hB (e := N) (by omega)).2
  have HT2 : Hid (∀ w', Below w.heap.size w w' → Calls Tryz.prog 9 #[.slice ao N cap, .agg #[.int .i64 0, .int .i64 0, .int .i64 0, .int .i64 0, .int .i64 0]] w' (RdQ (1, j) w')) := hid_intro (fun w' hb => by
    have := HR.out w' hb _ _ (byt_take (hB.below hb) (e := N) (by omega)).1
    rw [hy] at this
    exact this)
  have hI : ¬ (100000 : Int) < (l.length : Int) := by omega
  have hI2 : ¬ (100000 : Int) < (l2.length : Int) := by omega
  have hN1 : ¬ (N : Int) + 1 < 1 := by omega
  have hN2 : ¬ (l.length : Int) + 1 < (N : Int) + 1 := by omega
  have hN3 : (N : Int) ≤ (l.length : Int) := by omega
  have hlI : (l.length : Int) ≤ 100000 := by omega
  have hw1 : wrap64 ((l.length : Int) + 1) = (l.length : Int) + 1 := by unfold wrap64; omega
  have hwN : wrap64 ((N : Int) + 1 - 1) = (N : Int) := by unfold wrap64; omega
  have hmin : min (N : Int) (l.length : Int) = (N : Int) := by omega
  have hcI : (N : Int) ≤ (cap : Int) := by omega
  have hN0 : ¬ (N : Int) < 0 := by omega
  have hN4 : ¬ (l.length : Int) < (N : Int) + 1 := by omega
  have hcI2 : (N : Int) + 1 ≤ (cap : Int) := by omega
  have HNL := hid_intro hN
  have HL1 := hid_intro hl
  have HL2 := hid_intro hl2
  have HZ := hid_intro hz
  have HT3 : Hid (∀ w' v', Below w.heap.size w w' → Lx.Byt w' v' (l.take (N + 1) ++ l2) → Calls Tryz.prog 9 #[v', .agg #[.int .i64 0, .int .i64 0, .int .i64 0, .int .i64 0, .int .i64 0]] w' (RdQ (3, (N : Int) + 1) w')) := hid_intro (fun w' v' hb hb' => by
    have := HR.out w' hb _ _ hb'
    rw [hz] at this
    exact this)
  have v1 : ∀ w, (Op.equalIn 10000 34 (.agg #[.int .i64 3, .int .i64 ((N : Int) + 1)]) (.agg #[.int .i64 3, .int .i64 ((N : Int) + 1)])).run Tryz.prog w = .ok true w := fun w => by rw [eqIn_verd]; simp
  clear hE hD hB hB2 hx hy hl hl2 hN HR hcp hz
  go_enter Tryz.func6, Tryz.ntmps6
  go_wp2_with fail
  refine HR1.out.mono ?_; rintro r1 w1 ⟨hb1, k1, n1, g1, e1, t1, a1, m1, c1, b1, o1, d1, rfl⟩
  obtain ⟨A1, hA1⟩ : ∃ A1, ((w1.alloc (.cells #[.int .i64 k1, .bool n1, .string g1, .int .i64 e1, .string t1, .slice a1 m1 c1, .slice b1 o1 d1] 31)).alloc (.cells #[.int .i64 3, .int .i64 ((N : Int) + 1)] 34)) = A1 := ⟨_, rfl⟩
  have HA1 := hid_intro hA1
  have hs1 : Below w1.heap.size w1 A1 := hA1 ▸ vb_a (vb_a (Below.refl _ _) _) _
  have hb01 := vb_t hb1 hs1
  have hy1 : Bj A1 (w1.heap.size + 1) #[.int .i64 3, .int .i64 ((N : Int) + 1)] := hA1 ▸ Bj.new' _ _ _ _ (by simp)
  clear hA1 HR1
  go_wp2_with fail
  rw [HA1.out]
  refine (HT2.out A1 hb01).mono ?_; rintro r2 w2 ⟨hb2, k2, n2, g2, e2, t2, a2, m2, c2, b2, o2, d2, rfl⟩
  have hs2 : Below w2.heap.size w2 ((w2.alloc (.cells #[.int .i64 k2, .bool n2, .string g2, .int .i64 e2, .string t2, .slice a2 m2 c2, .slice b2 o2 d2] 31)).alloc (.cells #[.int .i64 1, .int .i64 j] 34)) := vb_a (vb_a (Below.refl _ _) _) _
  have hb12 : Below A1.heap.size A1 ((w2.alloc (.cells #[.int .i64 k2, .bool n2, .string g2, .int .i64 e2, .string t2, .slice a2 m2 c2, .slice b2 o2 d2] 31)).alloc (.cells #[.int .i64 1, .int .i64 j] 34)) := vb_t hb2 hs2
  have hb02 : Below w.heap.size w ((w2.alloc (.cells #[.int .i64 k2, .bool n2, .string g2, .int .i64 e2, .string t2, .slice a2 m2 c2, .slice b2 o2 d2] 31)).alloc (.cells #[.int .i64 1, .int .i64 j] 34)) := vb_t hb01 hb12
  have hy2 : Bj ((w2.alloc (.cells #[.int .i64 k2, .bool n2, .string g2, .int .i64 e2, .string t2, .slice a2 m2 c2, .slice b2 o2 d2] 31)).alloc (.cells #[.int .i64 1, .int .i64 j] 34)) (w2.heap.size + 1) #[.int .i64 1, .int .i64 j] := Bj.new' _ _ _ _ (by simp)
  obtain ⟨y0, y1⟩ := (hy1.bel hb12).c2
  obtain ⟨u0, u1⟩ := hy2.c2
  obtain ⟨A2, hA2⟩ : ∃ A2, ((w2.alloc (.cells #[.int .i64 k2, .bool n2, .string g2, .int .i64 e2, .string t2, .slice a2 m2 c2, .slice b2 o2 d2] 31)).alloc (.cells #[.int .i64 1, .int .i64 j] 34)) = A2 := ⟨_, rfl⟩
  rw [hA2] at hb12 hb02 y0 y1 u0 u1
  have HB02 := hid_intro hb02
  have HB12 := hid_intro hb12
  have HY1 := hid_intro hy1
  have HE : Hid (Below A2.heap.size A2 (A2.alloc (.cells #[] 5))) := hid_intro (vb_a (Below.refl _ _) _)
  have HO : Hid ((A2.alloc (.cells #[] 5)).ownsRow A2.heap.size 5 1 (.slice (some ⟨A2.heap.size, 0, none⟩) 0 0) ([] : List UInt8).length (Lx.cellsL [])) := hid_intro (own_none A2 _ rfl)
  have HB1 : Hid (∀ w', Below w.heap.size w w' → Lx.Byt w' (.slice ao (N + 1) cap) (l.take (N + 1))) := hid_intro (fun w' hb => (byt_take (HBB.out w' hb).1 (e := N + 1) (by have := HNL.out; omega)).1)
  have HB2 : Hid (∀ w', Below w.heap.size w w' → Lx.Byt w' (.slice ao2 l2.length cap2) l2) := hid_intro (fun w' hb => (HBB.out w' hb).2)
  have HSZ : Hid ((l.take (N + 1)).length + l2.length ≤ 1000000) := hid_intro (by have := HL1.out; have := HL2.out; simp; omega)
  have hm0 : ∀ o, (A2.alloc o).cell? ⟨w1.heap.size + 1, 0, none⟩ = some (.int .i64 3) := fun o => ((hy1.bel (vb_a hb12 o)).c2).1
  have hm1 : ∀ o, (A2.alloc o).cell? ⟨w1.heap.size + 1, 1, none⟩ = some (.int .i64 ((N : Int) + 1)) := fun o => ((hy1.bel (vb_a hb12 o)).c2).2
  have HS2 : Hid (A2.heap.size = w2.heap.size + 1 + 1) := hid_intro (by rw [← hA2]; simp)
  clear hy1 hy2 hb12 hb02 hs1 hs2 hb01 hb1 hb2 HT2 HA1 HBB
  go_wp2_with (first | (at_builtin; refine wp_app_byt rfl _ _ rfl A2.heap.size _ [] rfl _ (l.take (N + 1)) rfl ?_ HO.out ?_ ?_ ?_; (focus (have := HSZ.out; simp at this ⊢; omega)); (focus (exact HB1.out _ (vb_t HB02.out HE.out))); (focus (exact HE.out.size)); intro v5 w5 ho5 hg5; have HO5 := hid_intro ho5; have HB5 : Hid (Below A2.heap.size A2 w5) := hid_intro (app_bel HE.out HO.out (Nat.le_refl _) hg5); clear ho5 hg5) | (at_builtin; refine wp_app_byt rfl _ _ rfl A2.heap.size _ (l.take (N + 1)) rfl _ l2 rfl HSZ.out ?_ ?_ ?_ ?_; (focus (exact HO5.out)); (focus (exact HB2.out _ (vb_t HB02.out HB5.out))); (focus (exact HB5.out.size)); intro v6 w6 ho6 hg6; have HO6 := hid_intro ho6; have HB6 : Hid (Below A2.heap.size A2 w6) := hid_intro (app_bel HB5.out HO5.out (Nat.le_refl _) hg6)))
  have HB06 : Hid (Below w.heap.size w w6) := hid_intro (vb_t HB02.out HB6.out)
  clear ho6 hg6
  refine (HT3.out w6 v6 HB06.out (byt_own HO6.out)).mono ?_; rintro r3 w7 ⟨hb7, k3, n3, g3, e3, t3, a3, m3, c3, b3, o3, d3, rfl⟩
  have hs7 : Below w7.heap.size w7 ((w7.alloc (.cells #[.int .i64 k3, .bool n3, .string g3, .int .i64 e3, .string t3, .slice a3 m3 c3, .slice b3 o3 d3] 31)).alloc (.cells #[.int .i64 3, .int .i64 ((N : Int) + 1)] 34)) := vb_a (vb_a (Below.refl _ _) _) _
  have hb27 : Below A2.heap.size A2 ((w7.alloc (.cells #[.int .i64 k3, .bool n3, .string g3, .int .i64 e3, .string t3, .slice a3 m3 c3, .slice b3 o3 d3] 31)).alloc (.cells #[.int .i64 3, .int .i64 ((N : Int) + 1)] 34)) := vb_t (vb_t HB6.out hb7) hs7
  have hb07 : Below w.heap.size w ((w7.alloc (.cells #[.int .i64 k3, .bool n3, .string g3, .int .i64 e3, .string t3, .slice a3 m3 c3, .slice b3 o3 d3] 31)).alloc (.cells #[.int .i64 3, .int .i64 ((N : Int) + 1)] 34)) := vb_t HB02.out hb27
  obtain ⟨p0, p1⟩ := (HY1.out.bel (vb_t HB12.out hb27)).c2
  have hy3 : Bj ((w7.alloc (.cells #[.int .i64 k3, .bool n3, .string g3, .int .i64 e3, .string t3, .slice a3 m3 c3, .slice b3 o3 d3] 31)).alloc (.cells #[.int .i64 3, .int .i64 ((N : Int) + 1)] 34)) (w7.heap.size + 1) #[.int .i64 3, .int .i64 ((N : Int) + 1)] := Bj.new' _ _ _ _ (by simp)
  obtain ⟨q0, q1⟩ := hy3.c2
  have HHD : Hid (∀ w', Below (World.heap ((w7.alloc (.cells #[.int .i64 k3, .bool n3, .string g3, .int .i64 e3, .string t3, .slice a3 m3 c3, .slice b3 o3 d3] 31)).alloc (.cells #[.int .i64 3, .int .i64 ((N : Int) + 1)] 34))).size ((w7.alloc (.cells #[.int .i64 k3, .bool n3, .string g3, .int .i64 e3, .string t3, .slice a3 m3 c3, .slice b3 o3 d3] 31)).alloc (.cells #[.int .i64 3, .int .i64 ((N : Int) + 1)] 34)) w' → Calls Tryz.prog 14 #[] w' (fun r w3 => r = .returned (.bool true) ∧ Below w.heap.size w w3)) := hid_intro (fun w' hb => (HH.out w' (vb_t hb07 hb)).mono fun r w3 hr => ⟨hr.1, vb_t (vb_t hb07 hb) hr.2⟩)
  have hc := Below.refl (World.heap ((w7.alloc (.cells #[.int .i64 k3, .bool n3, .string g3, .int .i64 e3, .string t3, .slice a3 m3 c3, .slice b3 o3 d3] 31)).alloc (.cells #[.int .i64 3, .int .i64 ((N : Int) + 1)] 34))).size ((w7.alloc (.cells #[.int .i64 k3, .bool n3, .string g3, .int .i64 e3, .string t3, .slice a3 m3 c3, .slice b3 o3 d3] 31)).alloc (.cells #[.int .i64 3, .int .i64 ((N : Int) + 1)] 34))
  clear hy3 hb27 hb07 hs7 hb7 HB06 HB02 HB12 HY1 HB6 HB5 HO5 HO6 HO HT3 HH HB1 HB2 y0 y1 u0 u1 hm0 hm1
  go_wp2_with (go_at_call 14; refine (HHD.out _ ?_).mono ?_; (with_reducible repeat (first | exact hc | refine vb_d ?_)); rintro r9 w9 ⟨rfl, hw9⟩)
  go_ret
  exact ⟨rfl, hw9⟩

set_option maxRecDepth 100000 in
set_option maxHeartbeats 1600000 in
theorem jb_mid_ex (l l2 : List UInt8) (v v2 : Value) (w : World) (a : Addr) (hE : Lx.Env w) (hD : Env w a) (hB : Lx.Byt w v l) (hB2 : Lx.Byt w v2 l2) (N : Nat) (j : Int) (hx : vr (judgedS l (bm 0 0 0)) = (3, (N : Int) + 1)) (hy : vr (judgedS (l.take N) (bm 0 0 0)) = (4, j)) (hl : l.length ≤ 100000) (hl2 : l2.length ≤ 100000) (hN : N < l.length) (hz : vr (judgedS (l.take (N + 1) ++ l2) (bm 0 0 0)) = (3, (N : Int) + 1)) :
    Calls Tryz.prog 6 #[v, v2] w fun r w' => r = .returned (.bool true) ∧ Below w.heap.size w w' := by
  have HR := hid_intro (fun (w' : World) (hb : Below w.heap.size w w') (v' : Value) (l' : List UInt8) (hB' : Lx.Byt w' v' l') => readQ l' v' w' a (hE.below hb) (hD.below hb) hB')
  have HR1 := hid_intro (HR.out w (Below.refl _ _) v l hB)
  have HH := hid_intro (fun (w' : World) (hb : Below w.heap.size w w') => heads_any w' a (hE.below hb) (hD.below hb))
  have HBB := hid_intro (fun (w' : World) (hb : Below w.heap.size w w') => And.intro (hB.below hb) (hB2.below hb))
  obtain ⟨ao, cap, rfl⟩ := byt_shape hB
  obtain ⟨ao2, cap2, rfl⟩ := byt_shape hB2
  rw [hx] at HR1
  have hcp := (byt_take hB (e := N) (by omega)).2
  have HT2 : Hid (∀ w', Below w.heap.size w w' → Calls Tryz.prog 9 #[.slice ao N cap, .agg #[.int .i64 0, .int .i64 0, .int .i64 0, .int .i64 0, .int .i64 0]] w' (RdQ (4, j) w')) := hid_intro (fun w' hb => by
    have := HR.out w' hb _ _ (byt_take (hB.below hb) (e := N) (by omega)).1
    rw [hy] at this
    exact this)
  have hI : ¬ (100000 : Int) < (l.length : Int) := by omega
  have hI2 : ¬ (100000 : Int) < (l2.length : Int) := by omega
  have hN1 : ¬ (N : Int) + 1 < 1 := by omega
  have hN2 : ¬ (l.length : Int) + 1 < (N : Int) + 1 := by omega
  have hN3 : (N : Int) ≤ (l.length : Int) := by omega
  have hlI : (l.length : Int) ≤ 100000 := by omega
  have hw1 : wrap64 ((l.length : Int) + 1) = (l.length : Int) + 1 := by unfold wrap64; omega
  have hwN : wrap64 ((N : Int) + 1 - 1) = (N : Int) := by unfold wrap64; omega
  have hmin : min (N : Int) (l.length : Int) = (N : Int) := by omega
  have hcI : (N : Int) ≤ (cap : Int) := by omega
  have hN0 : ¬ (N : Int) < 0 := by omega
  have hN4 : ¬ (l.length : Int) < (N : Int) + 1 := by omega
  have hcI2 : (N : Int) + 1 ≤ (cap : Int) := by omega
  have HNL := hid_intro hN
  have HL1 := hid_intro hl
  have HL2 := hid_intro hl2
  have HZ := hid_intro hz
  have HT3 : Hid (∀ w' v', Below w.heap.size w w' → Lx.Byt w' v' (l.take (N + 1) ++ l2) → Calls Tryz.prog 9 #[v', .agg #[.int .i64 0, .int .i64 0, .int .i64 0, .int .i64 0, .int .i64 0]] w' (RdQ (3, (N : Int) + 1) w')) := hid_intro (fun w' v' hb hb' => by
    have := HR.out w' hb _ _ hb'
    rw [hz] at this
    exact this)
  have v1 : ∀ w, (Op.equalIn 10000 34 (.agg #[.int .i64 3, .int .i64 ((N : Int) + 1)]) (.agg #[.int .i64 3, .int .i64 ((N : Int) + 1)])).run Tryz.prog w = .ok true w := fun w => by rw [eqIn_verd]; simp
  clear hE hD hB hB2 hx hy hl hl2 hN HR hcp hz
  go_enter Tryz.func6, Tryz.ntmps6
  go_wp2_with fail
  refine HR1.out.mono ?_; rintro r1 w1 ⟨hb1, k1, n1, g1, e1, t1, a1, m1, c1, b1, o1, d1, rfl⟩
  obtain ⟨A1, hA1⟩ : ∃ A1, ((w1.alloc (.cells #[.int .i64 k1, .bool n1, .string g1, .int .i64 e1, .string t1, .slice a1 m1 c1, .slice b1 o1 d1] 31)).alloc (.cells #[.int .i64 3, .int .i64 ((N : Int) + 1)] 34)) = A1 := ⟨_, rfl⟩
  have HA1 := hid_intro hA1
  have hs1 : Below w1.heap.size w1 A1 := hA1 ▸ vb_a (vb_a (Below.refl _ _) _) _
  have hb01 := vb_t hb1 hs1
  have hy1 : Bj A1 (w1.heap.size + 1) #[.int .i64 3, .int .i64 ((N : Int) + 1)] := hA1 ▸ Bj.new' _ _ _ _ (by simp)
  clear hA1 HR1
  go_wp2_with fail
  rw [HA1.out]
  refine (HT2.out A1 hb01).mono ?_; rintro r2 w2 ⟨hb2, k2, n2, g2, e2, t2, a2, m2, c2, b2, o2, d2, rfl⟩
  have hs2 : Below w2.heap.size w2 ((w2.alloc (.cells #[.int .i64 k2, .bool n2, .string g2, .int .i64 e2, .string t2, .slice a2 m2 c2, .slice b2 o2 d2] 31)).alloc (.cells #[.int .i64 4, .int .i64 j] 34)) := vb_a (vb_a (Below.refl _ _) _) _
  have hb12 : Below A1.heap.size A1 ((w2.alloc (.cells #[.int .i64 k2, .bool n2, .string g2, .int .i64 e2, .string t2, .slice a2 m2 c2, .slice b2 o2 d2] 31)).alloc (.cells #[.int .i64 4, .int .i64 j] 34)) := vb_t hb2 hs2
  have hb02 : Below w.heap.size w ((w2.alloc (.cells #[.int .i64 k2, .bool n2, .string g2, .int .i64 e2, .string t2, .slice a2 m2 c2, .slice b2 o2 d2] 31)).alloc (.cells #[.int .i64 4, .int .i64 j] 34)) := vb_t hb01 hb12
  have hy2 : Bj ((w2.alloc (.cells #[.int .i64 k2, .bool n2, .string g2, .int .i64 e2, .string t2, .slice a2 m2 c2, .slice b2 o2 d2] 31)).alloc (.cells #[.int .i64 4, .int .i64 j] 34)) (w2.heap.size + 1) #[.int .i64 4, .int .i64 j] := Bj.new' _ _ _ _ (by simp)
  obtain ⟨y0, y1⟩ := (hy1.bel hb12).c2
  obtain ⟨u0, u1⟩ := hy2.c2
  obtain ⟨A2, hA2⟩ : ∃ A2, ((w2.alloc (.cells #[.int .i64 k2, .bool n2, .string g2, .int .i64 e2, .string t2, .slice a2 m2 c2, .slice b2 o2 d2] 31)).alloc (.cells #[.int .i64 4, .int .i64 j] 34)) = A2 := ⟨_, rfl⟩
  rw [hA2] at hb12 hb02 y0 y1 u0 u1
  have HB02 := hid_intro hb02
  have HB12 := hid_intro hb12
  have HY1 := hid_intro hy1
  have HE : Hid (Below A2.heap.size A2 (A2.alloc (.cells #[] 5))) := hid_intro (vb_a (Below.refl _ _) _)
  have HO : Hid ((A2.alloc (.cells #[] 5)).ownsRow A2.heap.size 5 1 (.slice (some ⟨A2.heap.size, 0, none⟩) 0 0) ([] : List UInt8).length (Lx.cellsL [])) := hid_intro (own_none A2 _ rfl)
  have HB1 : Hid (∀ w', Below w.heap.size w w' → Lx.Byt w' (.slice ao (N + 1) cap) (l.take (N + 1))) := hid_intro (fun w' hb => (byt_take (HBB.out w' hb).1 (e := N + 1) (by have := HNL.out; omega)).1)
  have HB2 : Hid (∀ w', Below w.heap.size w w' → Lx.Byt w' (.slice ao2 l2.length cap2) l2) := hid_intro (fun w' hb => (HBB.out w' hb).2)
  have HSZ : Hid ((l.take (N + 1)).length + l2.length ≤ 1000000) := hid_intro (by have := HL1.out; have := HL2.out; simp; omega)
  have hm0 : ∀ o, (A2.alloc o).cell? ⟨w1.heap.size + 1, 0, none⟩ = some (.int .i64 3) := fun o => ((hy1.bel (vb_a hb12 o)).c2).1
  have hm1 : ∀ o, (A2.alloc o).cell? ⟨w1.heap.size + 1, 1, none⟩ = some (.int .i64 ((N : Int) + 1)) := fun o => ((hy1.bel (vb_a hb12 o)).c2).2
  have HS2 : Hid (A2.heap.size = w2.heap.size + 1 + 1) := hid_intro (by rw [← hA2]; simp)
  clear hy1 hy2 hb12 hb02 hs1 hs2 hb01 hb1 hb2 HT2 HA1 HBB
  go_wp2_with (first | (at_builtin; refine wp_app_byt rfl _ _ rfl A2.heap.size _ [] rfl _ (l.take (N + 1)) rfl ?_ HO.out ?_ ?_ ?_; (focus (have := HSZ.out; simp at this ⊢; omega)); (focus (exact HB1.out _ (vb_t HB02.out HE.out))); (focus (exact HE.out.size)); intro v5 w5 ho5 hg5; have HO5 := hid_intro ho5; have HB5 : Hid (Below A2.heap.size A2 w5) := hid_intro (app_bel HE.out HO.out (Nat.le_refl _) hg5); clear ho5 hg5) | (at_builtin; refine wp_app_byt rfl _ _ rfl A2.heap.size _ (l.take (N + 1)) rfl _ l2 rfl HSZ.out ?_ ?_ ?_ ?_; (focus (exact HO5.out)); (focus (exact HB2.out _ (vb_t HB02.out HB5.out))); (focus (exact HB5.out.size)); intro v6 w6 ho6 hg6; have HO6 := hid_intro ho6; have HB6 : Hid (Below A2.heap.size A2 w6) := hid_intro (app_bel HB5.out HO5.out (Nat.le_refl _) hg6)))
  have HB06 : Hid (Below w.heap.size w w6) := hid_intro (vb_t HB02.out HB6.out)
  clear ho6 hg6
  refine (HT3.out w6 v6 HB06.out (byt_own HO6.out)).mono ?_; rintro r3 w7 ⟨hb7, k3, n3, g3, e3, t3, a3, m3, c3, b3, o3, d3, rfl⟩
  have hs7 : Below w7.heap.size w7 ((w7.alloc (.cells #[.int .i64 k3, .bool n3, .string g3, .int .i64 e3, .string t3, .slice a3 m3 c3, .slice b3 o3 d3] 31)).alloc (.cells #[.int .i64 3, .int .i64 ((N : Int) + 1)] 34)) := vb_a (vb_a (Below.refl _ _) _) _
  have hb27 : Below A2.heap.size A2 ((w7.alloc (.cells #[.int .i64 k3, .bool n3, .string g3, .int .i64 e3, .string t3, .slice a3 m3 c3, .slice b3 o3 d3] 31)).alloc (.cells #[.int .i64 3, .int .i64 ((N : Int) + 1)] 34)) := vb_t (vb_t HB6.out hb7) hs7
  have hb07 : Below w.heap.size w ((w7.alloc (.cells #[.int .i64 k3, .bool n3, .string g3, .int .i64 e3, .string t3, .slice a3 m3 c3, .slice b3 o3 d3] 31)).alloc (.cells #[.int .i64 3, .int .i64 ((N : Int) + 1)] 34)) := vb_t HB02.out hb27
  obtain ⟨p0, p1⟩ := (HY1.out.bel (vb_t HB12.out hb27)).c2
  have hy3 : Bj ((w7.alloc (.cells #[.int .i64 k3, .bool n3, .string g3, .int .i64 e3, .string t3, .slice a3 m3 c3, .slice b3 o3 d3] 31)).alloc (.cells #[.int .i64 3, .int .i64 ((N : Int) + 1)] 34)) (w7.heap.size + 1) #[.int .i64 3, .int .i64 ((N : Int) + 1)] := Bj.new' _ _ _ _ (by simp)
  obtain ⟨q0, q1⟩ := hy3.c2
  have HHD : Hid (∀ w', Below (World.heap ((w7.alloc (.cells #[.int .i64 k3, .bool n3, .string g3, .int .i64 e3, .string t3, .slice a3 m3 c3, .slice b3 o3 d3] 31)).alloc (.cells #[.int .i64 3, .int .i64 ((N : Int) + 1)] 34))).size ((w7.alloc (.cells #[.int .i64 k3, .bool n3, .string g3, .int .i64 e3, .string t3, .slice a3 m3 c3, .slice b3 o3 d3] 31)).alloc (.cells #[.int .i64 3, .int .i64 ((N : Int) + 1)] 34)) w' → Calls Tryz.prog 14 #[] w' (fun r w3 => r = .returned (.bool true) ∧ Below w.heap.size w w3)) := hid_intro (fun w' hb => (HH.out w' (vb_t hb07 hb)).mono fun r w3 hr => ⟨hr.1, vb_t (vb_t hb07 hb) hr.2⟩)
  have hc := Below.refl (World.heap ((w7.alloc (.cells #[.int .i64 k3, .bool n3, .string g3, .int .i64 e3, .string t3, .slice a3 m3 c3, .slice b3 o3 d3] 31)).alloc (.cells #[.int .i64 3, .int .i64 ((N : Int) + 1)] 34))).size ((w7.alloc (.cells #[.int .i64 k3, .bool n3, .string g3, .int .i64 e3, .string t3, .slice a3 m3 c3, .slice b3 o3 d3] 31)).alloc (.cells #[.int .i64 3, .int .i64 ((N : Int) + 1)] 34))
  clear hy3 hb27 hb07 hs7 hb7 HB06 HB02 HB12 HY1 HB6 HB5 HO5 HO6 HO HT3 HH HB1 HB2 y0 y1 u0 u1 hm0 hm1
  go_wp2_with (go_at_call 14; refine (HHD.out _ ?_).mono ?_; (with_reducible repeat (first | exact hc | refine vb_d ?_)); rintro r9 w9 ⟨rfl, hw9⟩)
  go_ret
  exact ⟨rfl, hw9⟩

set_option maxRecDepth 100000 in
set_option maxHeartbeats 1600000 in
theorem jb_mid_bad (l l2 : List UInt8) (v v2 : Value) (w : World) (a : Addr) (hE : Lx.Env w) (hD : Env w a) (hB : Lx.Byt w v l) (hB2 : Lx.Byt w v2 l2) (N : Nat) (hx : vr (judgedS l (bm 0 0 0)) = (3, (N : Int) + 1)) (hy : vr (judgedS (l.take N) (bm 0 0 0)) = (3, (N : Int) + 1)) (hl : l.length ≤ 100000) (hl2 : l2.length ≤ 100000) (hN : N < l.length) (hz : vr (judgedS (l.take (N + 1) ++ l2) (bm 0 0 0)) = (3, (N : Int) + 1)) :
    Calls Tryz.prog 6 #[v, v2] w fun r w' => r = .returned (.bool true) ∧ Below w.heap.size w w' := by
  have HR := hid_intro (fun (w' : World) (hb : Below w.heap.size w w') (v' : Value) (l' : List UInt8) (hB' : Lx.Byt w' v' l') => readQ l' v' w' a (hE.below hb) (hD.below hb) hB')
  have HR1 := hid_intro (HR.out w (Below.refl _ _) v l hB)
  have HH := hid_intro (fun (w' : World) (hb : Below w.heap.size w w') => heads_any w' a (hE.below hb) (hD.below hb))
  have HBB := hid_intro (fun (w' : World) (hb : Below w.heap.size w w') => And.intro (hB.below hb) (hB2.below hb))
  obtain ⟨ao, cap, rfl⟩ := byt_shape hB
  obtain ⟨ao2, cap2, rfl⟩ := byt_shape hB2
  rw [hx] at HR1
  have hcp := (byt_take hB (e := N) (by omega)).2
  have HT2 : Hid (∀ w', Below w.heap.size w w' → Calls Tryz.prog 9 #[.slice ao N cap, .agg #[.int .i64 0, .int .i64 0, .int .i64 0, .int .i64 0, .int .i64 0]] w' (RdQ (3, (N : Int) + 1) w')) := hid_intro (fun w' hb => by
    have := HR.out w' hb _ _ (byt_take (hB.below hb) (e := N) (by omega)).1
    rw [hy] at this
    exact this)
  have hI : ¬ (100000 : Int) < (l.length : Int) := by omega
  have hI2 : ¬ (100000 : Int) < (l2.length : Int) := by omega
  have hN1 : ¬ (N : Int) + 1 < 1 := by omega
  have hN2 : ¬ (l.length : Int) + 1 < (N : Int) + 1 := by omega
  have hN3 : (N : Int) ≤ (l.length : Int) := by omega
  have hlI : (l.length : Int) ≤ 100000 := by omega
  have hw1 : wrap64 ((l.length : Int) + 1) = (l.length : Int) + 1 := by unfold wrap64; omega
  have hwN : wrap64 ((N : Int) + 1 - 1) = (N : Int) := by unfold wrap64; omega
  have hmin : min (N : Int) (l.length : Int) = (N : Int) := by omega
  have hcI : (N : Int) ≤ (cap : Int) := by omega
  have hN0 : ¬ (N : Int) < 0 := by omega
  have hN4 : ¬ (l.length : Int) < (N : Int) + 1 := by omega
  have hcI2 : (N : Int) + 1 ≤ (cap : Int) := by omega
  have HNL := hid_intro hN
  have HL1 := hid_intro hl
  have HL2 := hid_intro hl2
  have HZ := hid_intro hz
  have HT3 : Hid (∀ w' v', Below w.heap.size w w' → Lx.Byt w' v' (l.take (N + 1) ++ l2) → Calls Tryz.prog 9 #[v', .agg #[.int .i64 0, .int .i64 0, .int .i64 0, .int .i64 0, .int .i64 0]] w' (RdQ (3, (N : Int) + 1) w')) := hid_intro (fun w' v' hb hb' => by
    have := HR.out w' hb _ _ hb'
    rw [hz] at this
    exact this)
  have v1 : ∀ w, (Op.equalIn 10000 34 (.agg #[.int .i64 3, .int .i64 ((N : Int) + 1)]) (.agg #[.int .i64 3, .int .i64 ((N : Int) + 1)])).run Tryz.prog w = .ok true w := fun w => by rw [eqIn_verd]; simp
  clear hE hD hB hB2 hx hy hl hl2 hN HR hcp hz
  go_enter Tryz.func6, Tryz.ntmps6
  go_wp2_with fail
  refine HR1.out.mono ?_; rintro r1 w1 ⟨hb1, k1, n1, g1, e1, t1, a1, m1, c1, b1, o1, d1, rfl⟩
  obtain ⟨A1, hA1⟩ : ∃ A1, ((w1.alloc (.cells #[.int .i64 k1, .bool n1, .string g1, .int .i64 e1, .string t1, .slice a1 m1 c1, .slice b1 o1 d1] 31)).alloc (.cells #[.int .i64 3, .int .i64 ((N : Int) + 1)] 34)) = A1 := ⟨_, rfl⟩
  have HA1 := hid_intro hA1
  have hs1 : Below w1.heap.size w1 A1 := hA1 ▸ vb_a (vb_a (Below.refl _ _) _) _
  have hb01 := vb_t hb1 hs1
  have hy1 : Bj A1 (w1.heap.size + 1) #[.int .i64 3, .int .i64 ((N : Int) + 1)] := hA1 ▸ Bj.new' _ _ _ _ (by simp)
  clear hA1 HR1
  go_wp2_with fail
  rw [HA1.out]
  refine (HT2.out A1 hb01).mono ?_; rintro r2 w2 ⟨hb2, k2, n2, g2, e2, t2, a2, m2, c2, b2, o2, d2, rfl⟩
  have hs2 : Below w2.heap.size w2 ((w2.alloc (.cells #[.int .i64 k2, .bool n2, .string g2, .int .i64 e2, .string t2, .slice a2 m2 c2, .slice b2 o2 d2] 31)).alloc (.cells #[.int .i64 3, .int .i64 ((N : Int) + 1)] 34)) := vb_a (vb_a (Below.refl _ _) _) _
  have hb12 : Below A1.heap.size A1 ((w2.alloc (.cells #[.int .i64 k2, .bool n2, .string g2, .int .i64 e2, .string t2, .slice a2 m2 c2, .slice b2 o2 d2] 31)).alloc (.cells #[.int .i64 3, .int .i64 ((N : Int) + 1)] 34)) := vb_t hb2 hs2
  have hb02 : Below w.heap.size w ((w2.alloc (.cells #[.int .i64 k2, .bool n2, .string g2, .int .i64 e2, .string t2, .slice a2 m2 c2, .slice b2 o2 d2] 31)).alloc (.cells #[.int .i64 3, .int .i64 ((N : Int) + 1)] 34)) := vb_t hb01 hb12
  have hy2 : Bj ((w2.alloc (.cells #[.int .i64 k2, .bool n2, .string g2, .int .i64 e2, .string t2, .slice a2 m2 c2, .slice b2 o2 d2] 31)).alloc (.cells #[.int .i64 3, .int .i64 ((N : Int) + 1)] 34)) (w2.heap.size + 1) #[.int .i64 3, .int .i64 ((N : Int) + 1)] := Bj.new' _ _ _ _ (by simp)
  obtain ⟨y0, y1⟩ := (hy1.bel hb12).c2
  obtain ⟨u0, u1⟩ := hy2.c2
  obtain ⟨A2, hA2⟩ : ∃ A2, ((w2.alloc (.cells #[.int .i64 k2, .bool n2, .string g2, .int .i64 e2, .string t2, .slice a2 m2 c2, .slice b2 o2 d2] 31)).alloc (.cells #[.int .i64 3, .int .i64 ((N : Int) + 1)] 34)) = A2 := ⟨_, rfl⟩
  rw [hA2] at hb12 hb02 y0 y1 u0 u1
  have HB02 := hid_intro hb02
  have HB12 := hid_intro hb12
  have HY1 := hid_intro hy1
  have HE : Hid (Below A2.heap.size A2 (A2.alloc (.cells #[] 5))) := hid_intro (vb_a (Below.refl _ _) _)
  have HO : Hid ((A2.alloc (.cells #[] 5)).ownsRow A2.heap.size 5 1 (.slice (some ⟨A2.heap.size, 0, none⟩) 0 0) ([] : List UInt8).length (Lx.cellsL [])) := hid_intro (own_none A2 _ rfl)
  have HB1 : Hid (∀ w', Below w.heap.size w w' → Lx.Byt w' (.slice ao (N + 1) cap) (l.take (N + 1))) := hid_intro (fun w' hb => (byt_take (HBB.out w' hb).1 (e := N + 1) (by have := HNL.out; omega)).1)
  have HB2 : Hid (∀ w', Below w.heap.size w w' → Lx.Byt w' (.slice ao2 l2.length cap2) l2) := hid_intro (fun w' hb => (HBB.out w' hb).2)
  have HSZ : Hid ((l.take (N + 1)).length + l2.length ≤ 1000000) := hid_intro (by have := HL1.out; have := HL2.out; simp; omega)
  have hm0 : ∀ o, (A2.alloc o).cell? ⟨w1.heap.size + 1, 0, none⟩ = some (.int .i64 3) := fun o => ((hy1.bel (vb_a hb12 o)).c2).1
  have hm1 : ∀ o, (A2.alloc o).cell? ⟨w1.heap.size + 1, 1, none⟩ = some (.int .i64 ((N : Int) + 1)) := fun o => ((hy1.bel (vb_a hb12 o)).c2).2
  have HS2 : Hid (A2.heap.size = w2.heap.size + 1 + 1) := hid_intro (by rw [← hA2]; simp)
  clear hy1 hy2 hb12 hb02 hs1 hs2 hb01 hb1 hb2 HT2 HA1 HBB
  go_wp2_with (first | (at_builtin; refine wp_app_byt rfl _ _ rfl A2.heap.size _ [] rfl _ (l.take (N + 1)) rfl ?_ HO.out ?_ ?_ ?_; (focus (have := HSZ.out; simp at this ⊢; omega)); (focus (exact HB1.out _ (vb_t HB02.out HE.out))); (focus (exact HE.out.size)); intro v5 w5 ho5 hg5; have HO5 := hid_intro ho5; have HB5 : Hid (Below A2.heap.size A2 w5) := hid_intro (app_bel HE.out HO.out (Nat.le_refl _) hg5); clear ho5 hg5) | (at_builtin; refine wp_app_byt rfl _ _ rfl A2.heap.size _ (l.take (N + 1)) rfl _ l2 rfl HSZ.out ?_ ?_ ?_ ?_; (focus (exact HO5.out)); (focus (exact HB2.out _ (vb_t HB02.out HB5.out))); (focus (exact HB5.out.size)); intro v6 w6 ho6 hg6; have HO6 := hid_intro ho6; have HB6 : Hid (Below A2.heap.size A2 w6) := hid_intro (app_bel HB5.out HO5.out (Nat.le_refl _) hg6)))
  have HB06 : Hid (Below w.heap.size w w6) := hid_intro (vb_t HB02.out HB6.out)
  clear ho6 hg6
  refine (HT3.out w6 v6 HB06.out (byt_own HO6.out)).mono ?_; rintro r3 w7 ⟨hb7, k3, n3, g3, e3, t3, a3, m3, c3, b3, o3, d3, rfl⟩
  have hs7 : Below w7.heap.size w7 ((w7.alloc (.cells #[.int .i64 k3, .bool n3, .string g3, .int .i64 e3, .string t3, .slice a3 m3 c3, .slice b3 o3 d3] 31)).alloc (.cells #[.int .i64 3, .int .i64 ((N : Int) + 1)] 34)) := vb_a (vb_a (Below.refl _ _) _) _
  have hb27 : Below A2.heap.size A2 ((w7.alloc (.cells #[.int .i64 k3, .bool n3, .string g3, .int .i64 e3, .string t3, .slice a3 m3 c3, .slice b3 o3 d3] 31)).alloc (.cells #[.int .i64 3, .int .i64 ((N : Int) + 1)] 34)) := vb_t (vb_t HB6.out hb7) hs7
  have hb07 : Below w.heap.size w ((w7.alloc (.cells #[.int .i64 k3, .bool n3, .string g3, .int .i64 e3, .string t3, .slice a3 m3 c3, .slice b3 o3 d3] 31)).alloc (.cells #[.int .i64 3, .int .i64 ((N : Int) + 1)] 34)) := vb_t HB02.out hb27
  obtain ⟨p0, p1⟩ := (HY1.out.bel (vb_t HB12.out hb27)).c2
  have hy3 : Bj ((w7.alloc (.cells #[.int .i64 k3, .bool n3, .string g3, .int .i64 e3, .string t3, .slice a3 m3 c3, .slice b3 o3 d3] 31)).alloc (.cells #[.int .i64 3, .int .i64 ((N : Int) + 1)] 34)) (w7.heap.size + 1) #[.int .i64 3, .int .i64 ((N : Int) + 1)] := Bj.new' _ _ _ _ (by simp)
  obtain ⟨q0, q1⟩ := hy3.c2
  have HHD : Hid (∀ w', Below (World.heap ((w7.alloc (.cells #[.int .i64 k3, .bool n3, .string g3, .int .i64 e3, .string t3, .slice a3 m3 c3, .slice b3 o3 d3] 31)).alloc (.cells #[.int .i64 3, .int .i64 ((N : Int) + 1)] 34))).size ((w7.alloc (.cells #[.int .i64 k3, .bool n3, .string g3, .int .i64 e3, .string t3, .slice a3 m3 c3, .slice b3 o3 d3] 31)).alloc (.cells #[.int .i64 3, .int .i64 ((N : Int) + 1)] 34)) w' → Calls Tryz.prog 14 #[] w' (fun r w3 => r = .returned (.bool true) ∧ Below w.heap.size w w3)) := hid_intro (fun w' hb => (HH.out w' (vb_t hb07 hb)).mono fun r w3 hr => ⟨hr.1, vb_t (vb_t hb07 hb) hr.2⟩)
  have hc := Below.refl (World.heap ((w7.alloc (.cells #[.int .i64 k3, .bool n3, .string g3, .int .i64 e3, .string t3, .slice a3 m3 c3, .slice b3 o3 d3] 31)).alloc (.cells #[.int .i64 3, .int .i64 ((N : Int) + 1)] 34))).size ((w7.alloc (.cells #[.int .i64 k3, .bool n3, .string g3, .int .i64 e3, .string t3, .slice a3 m3 c3, .slice b3 o3 d3] 31)).alloc (.cells #[.int .i64 3, .int .i64 ((N : Int) + 1)] 34))
  clear hy3 hb27 hb07 hs7 hb7 HB06 HB02 HB12 HY1 HB6 HB5 HO5 HO6 HO HT3 HH HB1 HB2 y0 y1 u0 u1 hm0 hm1
  go_wp2_with (go_at_call 14; refine (HHD.out _ ?_).mono ?_; (with_reducible repeat (first | exact hc | refine vb_d ?_)); rintro r9 w9 ⟨rfl, hw9⟩)
  go_ret
  exact ⟨rfl, hw9⟩

end Go.Proofs.YtlahlnocjfphjaaGreatDoor

namespace Go.Proofs.YtlahlnocjfphjaaGreatDoor
open Go.RowKit Go.Maps

theorem judged_err {l : List UInt8} {m : LM} {e : Nat} (hl : l.length ≤ 1048576) (h : textS l m = .error e) : vr (judgedS l m) = (3, (e : Int)) := by
  unfold judgedS
  rw [if_neg (by omega), h]
  rfl
theorem judged_ok {l : List UInt8} {m : LM} {x : JV × SS} (hl : l.length ≤ 1048576) (h : textS l m = .ok x) : vr (judgedS l m) = (1, 0) ∨ ∃ j, vr (judgedS l m) = (4, j) := by
  unfold judgedS
  rw [if_neg (by omega), h]
  simp only
  split
  · exact Or.inr ⟨_, rfl⟩
  · split
    · exact Or.inr ⟨_, rfl⟩
    · exact Or.inl rfl
theorem judged_bad {l : List UInt8} {m : LM} {k : Int} (hl : l.length ≤ 1048576) (h : judgedS l m = .error (3, k)) : ∃ e : Nat, textS l m = .error e ∧ k = (e : Int) := by
  unfold judgedS at h
  rw [if_neg (by omega)] at h
  split at h
  · rename_i e he
    simp at h
    exact ⟨e, he, h.symm⟩
  · split at h
    · simp at h
    · split at h
      · simp at h
      · cases h
/-- JsonBad's walk. -/
theorem jbad_walk (l l2 : List UInt8) (v v2 : Value) (w : World) (a : Addr) (hE : Lx.Env w) (hD : Env w a) (hB : Lx.Byt w v l) (hB2 : Lx.Byt w v2 l2) :
    Calls Tryz.prog 6 #[v, v2] w fun r w' => r = .returned (.bool true) ∧ Below w.heap.size w w' := by
  cases hx : judgedS l (bm 0 0 0) with
  | ok y => exact jb_else l l2 v v2 w a hE hD hB hB2 1 0 (by rw [hx]; rfl) (by decide)
  | error p =>
    obtain ⟨r, k⟩ := p
    by_cases hr : r = 3
    · subst hr
      have hv : vr (judgedS l (bm 0 0 0)) = (3, k) := by rw [hx]; rfl
      by_cases hl : l.length ≤ 100000
      · by_cases hl2 : l2.length ≤ 100000
        · obtain ⟨e, he, rfl⟩ := judged_bad (by omega) hx
          have hg := text_gt he
          obtain ⟨N, rfl⟩ : ∃ N, e = N + 1 := ⟨e - 1, by omega⟩
          have hv : vr (judgedS l (bm 0 0 0)) = (3, (N : Int) + 1) := by rw [hv]; simp
          have hlt : (l.take N).length ≤ 1048576 := by simp; omega
          have hc := text_cut (by omega) he
          rw [show N + 1 - 1 = N by omega] at hc
          by_cases hN : N < l.length
          · have hz : vr (judgedS (l.take (N + 1) ++ l2) (bm 0 0 0)) = (3, (N : Int) + 1) := by
              rw [judged_err (by simp; omega) (text_more (by omega) he (by omega) l2)]; simp
            rcases hc with hc | ⟨x, hc⟩
            · exact jb_mid_bad l l2 v v2 w a hE hD hB hB2 N hv (by rw [judged_err hlt hc]; simp) hl hl2 hN hz
            · rcases judged_ok hlt hc with hy | ⟨j, hy⟩
              · exact jb_mid_ok l l2 v v2 w a hE hD hB hB2 N 0 hv hy hl hl2 hN hz
              · exact jb_mid_ex l l2 v v2 w a hE hD hB hB2 N j hv hy hl hl2 hN hz
          · have hN : N = l.length := by omega
            rcases hc with hc | ⟨x, hc⟩
            · exact jb_end_bad l l2 v v2 w a hE hD hB hB2 N hv (by rw [judged_err hlt hc]; simp) hl hl2 hN
            · rcases judged_ok hlt hc with hy | ⟨j, hy⟩
              · exact jb_end_ok l l2 v v2 w a hE hD hB hB2 N 0 hv hy hl hl2 hN
              · exact jb_end_ex l l2 v v2 w a hE hD hB hB2 N j hv hy hl hl2 hN
        · exact jb_long2 l l2 v v2 w a hE hD hB hB2 k hv hl (by omega)
      · exact jb_long l l2 v v2 w a hE hD hB hB2 k hv (by omega)
    · exact jb_else l l2 v v2 w a hE hD hB hB2 r k (by rw [hx]; rfl) hr
end Go.Proofs.YtlahlnocjfphjaaGreatDoor
