/-
  Limbs written digit by digit, the lowest last: plain mathematics. No condition.
-/
import Derived.Test.YtpgdabpohbmodaaDoorW0
import Derived.Test.YtpgdabpohbmodaaDoorNA
namespace Go.Proofs.YtpgdabpohbmodaaDoor

/-- The digit at a place of the number that limbs are, counted from the lowest. -/
def Dg (f : Nat → Int) (q : Nat) : Int := f (q / 9) / 10 ^ (q % 9) % 10
/-- The bytes when the m lowest digits of L stand. -/
def hb (f : Nat → Int) (L m p : Nat) : Int := if L ≤ p + m then 48 + Dg f (L - 1 - p) else 0
theorem Dg_bd (f : Nat → Int) (q : Nat) : 0 ≤ Dg f q ∧ Dg f q ≤ 9 := by
  unfold Dg
  omega
theorem hb_bd (f : Nat → Int) (L m p : Nat) : 0 ≤ hb f L m p ∧ hb f L m p ≤ 57 := by
  unfold hb
  have := Dg_bd f (L - 1 - p)
  split <;> omega
theorem hb_next (f : Nat → Int) (L m : Nat) (hm : m < L) : upd (hb f L m) (L - 1 - m) (48 + Dg f m) = hb f L (m + 1) := by
  funext p
  unfold upd hb
  by_cases hp : p = L - 1 - m
  · rw [if_pos hp, if_pos (by omega), show L - 1 - p = m by omega]
  · rw [if_neg hp]
    by_cases h : L ≤ p + m
    · rw [if_pos h, if_pos (by omega)]
    · rw [if_neg h, if_neg (by omega)]
theorem hb_zero (f : Nat → Int) (L p : Nat) (hp : p < L) : hb f L 0 p = 0 := by
  unfold hb
  rw [if_neg (by omega)]
theorem div_pow {u k : Nat} (h : Lib.nDigits u ≤ k) : u / 10 ^ k = 0 := by
  have h1 := Lib.lt_pow_nDigits u
  have h2 : 10 ^ Lib.nDigits u ≤ 10 ^ k := Nat.pow_le_pow_right (by omega) h
  exact Nat.div_eq_of_lt (by omega)
theorem pad9_get {u : Nat} (h : u < 1000000000) (t : Nat) (ht : t < 9) : (pad9 u)[t]? = some (UInt8.ofNat (48 + u / 10 ^ (8 - t) % 10)) := by
  have hn := digits9 h
  have hl := Lib.decDigits_length u
  unfold pad9
  by_cases hc : t < 9 - (Lib.decDigits u).length
  · rw [List.getElem?_append_left (by simpa using hc), List.getElem?_replicate, if_pos hc, div_pow (by omega)]
    rfl
  · rw [List.getElem?_append_right (by simp; omega), List.length_replicate]
    have e : t - (9 - (Lib.decDigits u).length) < Lib.nDigits u := by omega
    rw [Lib.decDigits_eq, List.getElem?_map, List.getElem?_range (by rw [← Lib.decDigits_eq]; exact e)]
    rw [← Lib.decDigits_eq]
    simp only [Option.map_some, Lib.dg]
    rw [show Lib.nDigits u - 1 - (t - (9 - (Lib.decDigits u).length)) = 8 - t by omega]
/-- All digits of the d highest of n limbs. -/
def ftx (f : Nat → Int) (n : Nat) : Nat → List UInt8
  | 0 => []
  | d + 1 => ftx f n d ++ pad9 (f (n - 1 - d)).toNat
theorem ftx_len {f : Nat → Int} {n : Nat} (h : Limbs n f) : ∀ d, d ≤ n → (ftx f n d).length = 9 * d := by
  intro d
  induction d with
  | zero => intro _; rfl
  | succ d ih =>
    intro hd
    rw [ftx, List.length_append, ih (by omega), pad9_len (limb_nat h (show n - 1 - d < n by omega)).1]
    omega
theorem ftx_get {f : Nat → Int} {n : Nat} (h : Limbs n f) : ∀ d, d ≤ n → ∀ p, p < 9 * d → (ftx f n d)[p]? = some (UInt8.ofNat (48 + (f (n - 1 - p / 9)).toNat / 10 ^ (8 - p % 9) % 10)) := by
  intro d
  induction d with
  | zero => intro _ p hp; omega
  | succ d ih =>
    intro hd p hp
    have hl := ftx_len h d (by omega)
    rw [ftx]
    by_cases hc : p < 9 * d
    · rw [List.getElem?_append_left (by omega)]
      exact ih (by omega) p hc
    · rw [List.getElem?_append_right (by omega), hl, pad9_get (limb_nat h (show n - 1 - d < n by omega)).1 _ (by omega)]
      rw [show p / 9 = d by omega, show p % 9 = p - 9 * d by omega]
def lead (f : Nat → Int) (n : Nat) : Nat := 9 - (Lib.decDigits (f (n - 1)).toNat).length
theorem ftx_txd (f : Nat → Int) (n : Nat) : ∀ d, ftx f n (d + 1) = List.replicate (lead f n) 48 ++ txd f n (d + 1) := by
  intro d
  induction d with
  | zero => simp [ftx, txd, pad9, lead]
  | succ d ih =>
    have e : txd f n (d + 1 + 1) = txd f n (d + 1) ++ pad9 (f (n - 1 - (d + 1))).toNat := by
      show (txd f n (d + 1) ++ (if d + 1 = 0 then _ else _)) = _
      rw [if_neg (by omega)]
    rw [e, ← List.append_assoc, ← ih]
    rfl
theorem byte_nat (x : Nat) (h : x < 10) : ((UInt8.ofNat (48 + x)).toNat : Int) = 48 + x := by
  have : (UInt8.ofNat (48 + x)).toNat = 48 + x := by simp; omega
  omega
theorem hb_all {f : Nat → Int} {n : Nat} (h : Limbs n f) (p : Nat) (hp : p < 9 * n) : ∃ c : UInt8, (ftx f n n)[p]? = some c ∧ hb f (9 * n) (9 * n) p = (c.toNat : Int) := by
  refine ⟨_, ftx_get h n (Nat.le_refl _) p hp, ?_⟩
  rw [byte_nat _ (Nat.mod_lt _ (by omega))]
  unfold hb Dg
  rw [if_pos (by omega), show (9 * n - 1 - p) / 9 = n - 1 - p / 9 by omega, show (9 * n - 1 - p) % 9 = 8 - p % 9 by omega]
  have e := (limb_nat h (show n - 1 - p / 9 < n by omega)).2
  rw [← e]
  simp
theorem digits_head (n : Nat) (h : 0 < n) : (Lib.decDigits n).head? ≠ some 48 := by
  induction n using Nat.strongRecOn with
  | _ n ih =>
    rw [Lib.decDigits]
    by_cases h10 : n < 10
    · rw [dif_pos h10]
      intro e
      have e2 := congrArg UInt8.toNat (Option.some.inj (by simpa using e : some (UInt8.ofNat (48 + n)) = some 48))
      have : (UInt8.ofNat (48 + n)).toNat = 48 + n := by simp; omega
      rw [this] at e2
      have : (48 : UInt8).toNat = 48 := rfl
      omega
    · rw [dif_neg h10]
      have hne := (decDigits_all (n / 10)).2.2
      have := ih (n / 10) (by omega) (by omega)
      cases hd : Lib.decDigits (n / 10) with
      | nil => exact absurd hd hne
      | cons c t => rw [hd] at this; simpa using this
theorem txd_head (f : Nat → Int) (n : Nat) : ∀ d, (txd f n (d + 1)).head? = (Lib.decDigits (f (n - 1)).toNat).head? := by
  intro d
  induction d with
  | zero => simp [txd]
  | succ d ih =>
    rw [txd]
    have hp := txd_pos f n (d + 1) (by omega)
    cases hc : txd f n (d + 1) with
    | nil => rw [hc] at hp; simp at hp
    | cons c t => rw [hc] at ih; simpa using ih
theorem textN_head {f : Nat → Int} {n : Nat} (h : Can n f) (h0 : 0 < n) : (textN f n).head? ≠ some 48 := by
  unfold textN
  rw [if_neg (by omega)]
  obtain ⟨d, rfl⟩ : ∃ d, n = d + 1 := ⟨n - 1, by omega⟩
  rw [txd_head]
  refine digits_head _ ?_
  have h1 := h.1 d (by omega)
  have h2 := h.2 (by omega)
  rw [show d + 1 - 1 = d by omega] at h2 ⊢
  omega
/-- Where the text begins in the row of all digits. -/
theorem text_in {f : Nat → Int} {n : Nat} (h : Can n f) (h0 : 0 < n) : lead f n ≤ 8 ∧ lead f n + (textN f n).length = 9 * n ∧ (∀ p, p < lead f n → hb f (9 * n) (9 * n) p = 48) ∧ hb f (9 * n) (9 * n) (lead f n) ≠ 48 ∧
    ∀ j (hj : j < (textN f n).length), hb f (9 * n) (9 * n) (lead f n + j) = (((textN f n)[j]'hj).toNat : Int) := by
  have e : textN f n = txd f n n := if_neg (by omega)
  obtain ⟨d, rfl⟩ : ∃ d, n = d + 1 := ⟨n - 1, by omega⟩
  have hx := ftx_txd f (d + 1) d
  rw [← e] at hx
  have hl := ftx_len h.1 (d + 1) (Nat.le_refl _)
  rw [hx, List.length_append, List.length_replicate] at hl
  have h1 := digits1 (f (d + 1 - 1)).toNat
  have hlead : lead f (d + 1) ≤ 8 := by unfold lead; omega
  have key : ∀ j (hj : j < (textN f (d + 1)).length), hb f (9 * (d + 1)) (9 * (d + 1)) (lead f (d + 1) + j) = (((textN f (d + 1))[j]'hj).toNat : Int) := by
    intro j hj
    obtain ⟨c, hc, he⟩ := hb_all h.1 (lead f (d + 1) + j) (by omega)
    rw [hx, List.getElem?_append_right (by simp), List.length_replicate, show lead f (d + 1) + j - lead f (d + 1) = j by omega, List.getElem?_eq_getElem hj] at hc
    rw [he, Option.some.inj hc]
  refine ⟨hlead, hl, fun p hp => ?_, ?_, key⟩
  · obtain ⟨c, hc, he⟩ := hb_all h.1 p (by omega)
    rw [hx, List.getElem?_append_left (by simpa using hp), List.getElem?_replicate, if_pos hp] at hc
    rw [he, ← Option.some.inj hc]
    rfl
  · have hp := textN_pos f (d + 1)
    have k0 : hb f (9 * (d + 1)) (9 * (d + 1)) (lead f (d + 1)) = (((textN f (d + 1))[0]'(by omega)).toNat : Int) := key 0 (by omega)
    rw [k0]
    intro hz
    have hh := textN_head h (by omega)
    apply hh
    rw [List.head?_eq_getElem?, List.getElem?_eq_getElem (by omega)]
    congr 1
    exact UInt8.toNat_inj.1 (by have : (48 : UInt8).toNat = 48 := rfl; omega)
end Go.Proofs.YtpgdabpohbmodaaDoor
