/-
  The text of a number's limbs: plain mathematics. No condition.
-/
import Derived.Test.YtpgdabpohbmodaaDoorLL
import Derived.Test.YtpgdabpohbmodaaDoorNC
namespace Go.Proofs.YtpgdabpohbmodaaDoor

theorem nDigits_le (k : Nat) : ∀ u, u < 10 ^ (k + 1) → Lib.nDigits u ≤ k + 1 := by
  induction k with
  | zero => intro u h; rw [Lib.nDigits_small (by simpa using h)]; omega
  | succ k ih =>
    intro u h
    by_cases h10 : u < 10
    · rw [Lib.nDigits_small h10]; omega
    · rw [Lib.nDigits_big h10]
      have : u / 10 < 10 ^ (k + 1) := by rw [Nat.pow_succ] at h; omega
      have := ih _ this
      omega
theorem digits9 {u : Nat} (h : u < 1000000000) : (Lib.decDigits u).length ≤ 9 := by
  rw [Lib.decDigits_length]
  exact nDigits_le 8 u h
theorem digits1 (u : Nat) : 1 ≤ (Lib.decDigits u).length := by
  rw [Lib.decDigits_length]
  exact Lib.nDigits_pos u
def pad9 (u : Nat) : List UInt8 := List.replicate (9 - (Lib.decDigits u).length) 48 ++ Lib.decDigits u
theorem rep_all (c : Nat) : (List.replicate c (48 : UInt8)).all isD = true := by
  induction c with
  | zero => rfl
  | succ c ih => rw [List.replicate_succ, List.all_cons, ih]; rfl
theorem rep_num (c : Nat) : num (List.replicate c (48 : UInt8)) = 0 := by
  induction c with
  | zero => rfl
  | succ c ih => rw [List.replicate_succ, num_cons, ih]; simp
theorem pad9_len {u : Nat} (h : u < 1000000000) : (pad9 u).length = 9 := by
  have := digits9 h
  simp [pad9]; omega
theorem pad9_all (u : Nat) : (pad9 u).all isD = true := by
  rw [pad9, List.all_append, rep_all, (decDigits_all u).1]; rfl
theorem pad9_num (u : Nat) : num (pad9 u) = u := by
  rw [pad9, num_append, rep_num, (decDigits_all u).2.1]; simp
/-- The text of the d highest of n limbs. -/
def txd (f : Nat → Int) (n : Nat) : Nat → List UInt8
  | 0 => []
  | d + 1 => txd f n d ++ (if d = 0 then Lib.decDigits (f (n - 1)).toNat else pad9 (f (n - 1 - d)).toNat)
theorem txd_all (f : Nat → Int) (n d : Nat) : (txd f n d).all isD = true := by
  induction d with
  | zero => rfl
  | succ d ih =>
    rw [txd, List.all_append, ih]
    split
    · rw [(decDigits_all _).1]; rfl
    · rw [pad9_all]; rfl
theorem limb_nat {f : Nat → Int} {n i : Nat} (h : Limbs n f) (hi : i < n) : (f i).toNat < 1000000000 ∧ ((f i).toNat : Int) = f i := by
  have := h i hi
  omega
theorem txd_len {f : Nat → Int} {n : Nat} (h : Limbs n f) : ∀ d, d ≤ n → (txd f n d).length ≤ 9 * d := by
  intro d
  induction d with
  | zero => intro _; simp [txd]
  | succ d ih =>
    intro hd
    have := ih (by omega)
    rw [txd, List.length_append]
    split
    · have := digits9 (limb_nat h (show n - 1 < n by omega)).1
      omega
    · have := pad9_len (limb_nat h (show n - 1 - d < n by omega)).1
      omega
theorem pw_ten : (10 : Int) ^ 9 = 1000000000 := by decide
theorem txd_num {f : Nat → Int} {n : Nat} (h : Limbs n f) : ∀ d, d ≤ n → num (txd f n d) * pw (n - d) + val f (n - d) = val f n := by
  intro d
  induction d with
  | zero => intro _; simp [txd, num, numF]
  | succ d ih =>
    intro hd
    have hi := ih (by omega)
    obtain ⟨m, hm⟩ : ∃ m, n - d = m + 1 := ⟨n - d - 1, by omega⟩
    rw [hm] at hi
    rw [show n - (d + 1) = m by omega, txd, num_append]
    rw [pw_succ, val_succ] at hi
    have e1 : (n - 1 - d) = m := by omega
    have key : num (if d = 0 then Lib.decDigits (f (n - 1)).toNat else pad9 (f (n - 1 - d)).toNat) = f m := by
      split
      · rename_i hz
        rw [(decDigits_all _).2.1]
        subst hz
        rw [show n - 1 = m by omega]
        exact (limb_nat h (show m < n by omega)).2
      · rw [pad9_num, e1]
        exact (limb_nat h (show m < n by omega)).2
    rw [key]
    by_cases hz : d = 0
    · subst hz
      simp only [txd] at hi ⊢
      have z : num ([] : List UInt8) = 0 := rfl
      rw [z] at hi ⊢
      simp only [Int.zero_mul, Int.zero_add] at hi ⊢
      rw [← hi]; omega
    · rw [if_neg hz, pad9_len (limb_nat h (show n - 1 - d < n by omega)).1, pw_ten]
      rw [← hi]
      generalize num (txd f n d) = X
      generalize val f m = Y
      generalize pw m = P
      rw [Int.add_mul, Int.mul_assoc, Int.mul_comm 1000000000 P]
      omega
def textN (f : Nat → Int) (n : Nat) : List UInt8 := if n = 0 then [48] else txd f n n
theorem textN_all (f : Nat → Int) (n : Nat) : (textN f n).all isD = true := by
  unfold textN
  split
  · rfl
  · exact txd_all f n n
theorem textN_num {f : Nat → Int} {n : Nat} (h : Limbs n f) : num (textN f n) = val f n := by
  unfold textN
  split
  · rename_i hz; subst hz; rfl
  · have := txd_num h n (Nat.le_refl _)
    simp only [Nat.sub_self, pw_zero, val_zero] at this
    omega
theorem textN_len {f : Nat → Int} {n : Nat} (h : Limbs n f) : (textN f n).length ≤ 9 * n + 1 := by
  unfold textN
  split
  · simp
  · have := txd_len h n (Nat.le_refl _); omega
theorem txd_pos (f : Nat → Int) (n d : Nat) (hd : 0 < d) : 1 ≤ (txd f n d).length := by
  obtain ⟨e, rfl⟩ : ∃ e, d = e + 1 := ⟨d - 1, by omega⟩
  rw [txd, List.length_append]
  split
  · have := digits1 (f (n - 1)).toNat; omega
  · have := digits1 (f (n - 1 - e)).toNat
    simp only [pad9, List.length_append]; omega
theorem textN_pos (f : Nat → Int) (n : Nat) : 1 ≤ (textN f n).length := by
  unfold textN
  split
  · simp
  · exact txd_pos f n n (by omega)
/-- Digits read one by one, and as a list. -/
theorem dec_take (s : ByteArray) (k : Nat) (hk : k ≤ s.size) : dec (dig s) k = num (s.data.toList.take k) := by
  induction k with
  | zero => rfl
  | succ k ih =>
    have hl : k < s.data.toList.length := by rw [Array.length_toList]; exact hk
    rw [List.take_succ_eq_append_getElem hl, num_append, ← ih (by omega), num_cons]
    show dec (dig s) k * 10 + dig s k = _
    have e : dig s k = ((s.data.toList[k]'hl).toNat : Int) - 48 := by
      unfold dig chr
      rw [dif_pos (show k < s.size by omega)]
      rfl
    rw [e]
    simp [num, numF]
theorem dec_all (s : ByteArray) : dec (dig s) s.size = num s.data.toList := by
  have := dec_take s s.size (Nat.le_refl _)
  rw [this, List.take_of_length_le (by rw [Array.length_toList]; exact Nat.le_refl _)]
theorem digits_all {s : ByteArray} (h : s.data.toList.all isD = true) : Digits s := by
  intro i hi
  have hl : i < s.data.toList.length := by rw [Array.length_toList]; exact hi
  have := (List.all_eq_true.1 h) _ (List.getElem_mem hl)
  rw [isD_iff] at this
  unfold chr
  rw [dif_pos hi]
  have e : (s[i]'hi) = s.data.toList[i]'hl := rfl
  rw [e]; omega
end Go.Proofs.YtpgdabpohbmodaaDoor
