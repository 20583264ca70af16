/-
  Numbers stand as their values do, and which number is a multiple of which. No condition.
-/
import Derived.Test.YtfhapeinfhjihaaGreatDoorL3
namespace Go.Proofs.YtfhapeinfhjihaaGreatDoor

theorem sg_mul (x y p : Int) (hp : 0 < p) : sg (x * p) (y * p) = sg x y := by
  unfold sg
  by_cases a : x < y
  · rw [if_pos a, if_pos (Int.mul_lt_mul_of_pos_right a hp)]
  · by_cases b : y < x
    · have := Int.mul_lt_mul_of_pos_right b hp
      rw [if_neg a, if_pos b, if_neg (by omega), if_pos this]
    · have : x = y := by omega
      subst this
      simp
theorem sg_neg (x y : Int) : sg (-x) (-y) = sg y x := by
  unfold sg
  by_cases a : y < x
  · rw [if_pos a, if_pos (by omega)]
  · by_cases b : x < y
    · rw [if_neg a, if_pos b, if_neg (by omega), if_pos (by omega)]
    · rw [if_neg a, if_neg b, if_neg (by omega), if_neg (by omega)]
theorem sg_swap (x y : Int) : sg y x = - sg x y := by
  unfold sg
  by_cases a : y < x
  · rw [if_pos a, if_neg (by omega), if_pos a]
  · by_cases b : x < y
    · rw [if_neg a, if_pos b, if_pos b]; rfl
    · rw [if_neg a, if_neg b, if_neg b, if_neg a]; rfl
theorem pow_mono10 {a b : Nat} (h : a ≤ b) : (10 : Int) ^ a ≤ 10 ^ b := by
  obtain ⟨c, rfl⟩ : ∃ c, b = a + c := ⟨b - a, by omega⟩
  rw [Int.pow_add]
  have := Int.mul_le_mul_of_nonneg_left (show (1 : Int) ≤ 10 ^ c from pow_pos10 c) (Int.le_of_lt (pow_pos10 a))
  omega
theorem num_ge {l : List UInt8} (h : l.all isD = true) (h0 : l ≠ []) (hh : l.head? ≠ some 48) : (10 : Int) ^ (l.length - 1) ≤ num l := by
  cases l with
  | nil => exact absurd rfl h0
  | cons c t =>
    simp only [List.all_cons, Bool.and_eq_true] at h
    have c1 := (isD_iff c).1 h.1
    have c2 : c.toNat ≠ 48 := fun e => hh (by simp [← UInt8.toNat_inj, e])
    have := num_nonneg h.2
    have := Int.mul_le_mul_of_nonneg_right (show (1 : Int) ≤ (c.toNat : Int) - 48 by omega) (Int.le_of_lt (pow_pos10 t.length))
    rw [num_cons]
    simp only [List.length_cons, Nat.add_sub_cancel]
    omega
theorem DigOK.end_ {l : List UInt8} (h : DigOK l) : EndOK l := fun c hc e => h.2.2.2.2 (by rw [hc]; simp [← UInt8.toNat_inj, e])
theorem DigOK.pos {l : List UInt8} (h : DigOK l) : 0 < num l := num_pos h.2.2.1 h.end_ h.1
/-- The size of a number, in the least places. -/
def size3 (d : D3) : Int := num d.dg * 10 ^ (d.ex + 1000000).toNat
def V (d : D3) : Int := if d.neg = true then - size3 d else size3 d
def height3 (d : D3) : Int := d.dg.length + d.ex
def sizes3 (a b : D3) : Int := if height3 a = height3 b then Lib.compareBytes a.dg b.dg else sg (height3 a) (height3 b)
theorem size_less {a b : D3} (ha : DigOK a.dg) (hb : DigOK b.dg) (a1 : -1000000 ≤ a.ex) (b1 : -1000000 ≤ b.ex) (h : height3 a < height3 b) : size3 a < size3 b := by
  unfold height3 at h
  unfold size3
  have l1 : 0 < a.dg.length := List.length_pos_iff.2 ha.1
  have l2 : 0 < b.dg.length := List.length_pos_iff.2 hb.1
  have h1 := Int.mul_lt_mul_of_pos_right (num_lt ha.2.2.1) (pow_pos10 (a.ex + 1000000).toNat)
  have h2 := Int.mul_le_mul_of_nonneg_right (num_ge hb.2.2.1 hb.1 hb.2.2.2.1) (Int.le_of_lt (pow_pos10 (b.ex + 1000000).toNat))
  rw [← Int.pow_add] at h1 h2
  have h3 := pow_mono10 (show a.dg.length + (a.ex + 1000000).toNat ≤ b.dg.length - 1 + (b.ex + 1000000).toNat by omega)
  omega
theorem sizes_eq {a b : D3} (ha : DigOK a.dg) (hb : DigOK b.dg) (a1 : -1000000 ≤ a.ex) (b1 : -1000000 ≤ b.ex) : sizes3 a b = sg (size3 a) (size3 b) := by
  unfold sizes3
  by_cases h : height3 a = height3 b
  · rw [if_pos h]
    unfold height3 at h
    obtain ⟨m, hm⟩ : ∃ m, m = max a.dg.length b.dg.length := ⟨_, rfl⟩
    rw [compareB_num a.dg b.dg m ha.2.2.1 hb.2.2.1 ha.end_ hb.end_ (by omega) (by omega)]
    obtain ⟨k, hk⟩ : ∃ k : Nat, (k : Int) = a.dg.length + a.ex + 1000000 - m := ⟨(a.dg.length + a.ex + 1000000 - m).toNat, by omega⟩
    have e1 : size3 a = num a.dg * 10 ^ (m - a.dg.length) * 10 ^ k := by
      unfold size3
      rw [Int.mul_assoc, ← Int.pow_add]; congr 2; omega
    have e2 : size3 b = num b.dg * 10 ^ (m - b.dg.length) * 10 ^ k := by
      unfold size3
      rw [Int.mul_assoc, ← Int.pow_add]; congr 2; omega
    rw [e1, e2, sg_mul _ _ _ (pow_pos10 k)]
  · rw [if_neg h]
    by_cases l : height3 a < height3 b
    · have := size_less ha hb a1 b1 l
      simp [sg, l, this]
    · have l' : height3 b < height3 a := by omega
      have := size_less hb ha b1 a1 l'
      simp [sg, l, l', this, show ¬ size3 a < size3 b by omega]
def sign3 (d : D3) : Int := if d.dg = [] then 0 else if d.neg = true then -1 else 1
theorem size_pos {d : D3} (h : DigOK d.dg) : 0 < size3 d := Int.mul_pos h.pos (pow_pos10 _)
theorem V_zero {d : D3} (h : d.dg = []) : V d = 0 := by
  unfold V size3
  rw [h]
  simp [num, numF]
/-- How numbers stand: by signs, then by sizes. -/
theorem order_V {a b : D3} (ha : Good a) (hb : Good b) : sg (V a) (V b) = if sign3 a = sign3 b then (if a.neg = true then sizes3 b a else if a.dg = [] then 0 else sizes3 a b) else sg (sign3 a) (sign3 b) := by
  rcases ha with ⟨a1, a2, a3⟩ | ⟨a1, a2, a3⟩
  · rw [V_zero a1]
    rcases hb with ⟨b1, b2, b3⟩ | ⟨b1, b2, b3⟩
    · rw [V_zero b1]; simp [sign3, a1, b1, a2, sg]
    · have p := size_pos b1
      have n : b.dg ≠ [] := b1.1
      cases hn : b.neg
      · simp [sign3, a1, n, hn, V, sg, p]
      · simp [sign3, a1, n, hn, V, sg, p, show ¬ size3 b < 0 by omega]
  · have p := size_pos a1
    have n : a.dg ≠ [] := a1.1
    rcases hb with ⟨b1, b2, b3⟩ | ⟨b1, b2, b3⟩
    · rw [V_zero b1]
      cases hn : a.neg
      · simp [sign3, b1, n, hn, V, sg, p, show ¬ size3 a < 0 by omega]
      · simp [sign3, b1, n, hn, V, sg, p]
    · have p' := size_pos b1
      have n' : b.dg ≠ [] := b1.1
      rw [sizes_eq a1 b1 a2 b2, sizes_eq b1 a1 b2 a2]
      cases hn : a.neg <;> cases hn' : b.neg
      · simp [sign3, n, n', hn, hn', V]
      · simp [sign3, n, n', hn, hn', V, sg, show ¬ size3 a < -size3 b by omega, show -size3 b < size3 a by omega]
      · simp [sign3, n, n', hn, hn', V, sg, show -size3 a < size3 b by omega]
      · simp [sign3, n, n', hn, hn', V, sg_neg]
/-- Numbers of one value are the same. -/
theorem V_inj {a b : D3} (ha : Good a) (hb : Good b) (h : V a = V b) : a = b := by
  have key : ∀ {x y : D3}, DigOK x.dg → DigOK y.dg → -1000000 ≤ x.ex → -1000000 ≤ y.ex → size3 x = size3 y → x.dg = y.dg ∧ x.ex = y.ex := by
    intro x y hx hy x1 y1 he
    have h1 := sizes_eq hx hy x1 y1
    have h0 : sg (size3 x) (size3 y) = 0 := by rw [he]; simp [sg]
    rw [h0] at h1
    unfold sizes3 at h1
    by_cases e : height3 x = height3 y
    · rw [if_pos e] at h1
      have : ∀ l m : List UInt8, Lib.compareBytes l m = 0 → l = m := by
        intro l
        induction l with
        | nil => intro m hm; cases m with
          | nil => rfl
          | cons d u => simp [Lib.compareBytes] at hm
        | cons c t ih =>
          intro m hm
          cases m with
          | nil => simp [Lib.compareBytes] at hm
          | cons d u =>
            rw [Lib.compareBytes] at hm
            by_cases l1 : c < d
            · rw [if_pos l1] at hm; exact absurd hm (by decide)
            · by_cases l2 : d < c
              · rw [if_neg l1, if_pos l2] at hm; exact absurd hm (by decide)
              · rw [if_neg l1, if_neg l2] at hm
                have e1 : c.toNat = d.toNat := by
                  have n1 : ¬ c.toNat < d.toNat := fun h => l1 (UInt8.lt_iff_toNat_lt.2 h)
                  have n2 : ¬ d.toNat < c.toNat := fun h => l2 (UInt8.lt_iff_toNat_lt.2 h)
                  omega
                rw [ih u hm, UInt8.toNat_inj.1 e1]
      have hd := this _ _ h1
      unfold height3 at e
      rw [hd] at e
      exact ⟨hd, by omega⟩
    · rw [if_neg e] at h1
      unfold sg at h1
      by_cases l : height3 x < height3 y
      · rw [if_pos l] at h1; exact absurd h1 (by decide)
      · rw [if_neg l, if_pos (by omega)] at h1; exact absurd h1 (by decide)
  obtain ⟨an, al, ae⟩ := a
  obtain ⟨bn, bl, be⟩ := b
  rcases ha with ⟨a1, a2, a3⟩ | ⟨a1, a2, a3⟩
  · simp only at a1 a2 a3
    subst a1; subst a2; subst a3
    rcases hb with ⟨b1, b2, b3⟩ | ⟨b1, b2, b3⟩
    · simp only at b1 b2 b3
      subst b1; subst b2; subst b3; rfl
    · rw [V_zero rfl] at h
      have p := size_pos b1
      unfold V at h
      split at h <;> omega
  · have p := size_pos a1
    rcases hb with ⟨b1, b2, b3⟩ | ⟨b1, b2, b3⟩
    · rw [V_zero b1] at h
      unfold V at h
      split at h <;> omega
    · have p' := size_pos b1
      have e : an = bn ∧ size3 ⟨an, al, ae⟩ = size3 ⟨bn, bl, be⟩ := by
        unfold V at h
        simp only at h
        cases an <;> cases bn
        · simp only [Bool.false_eq_true, if_false] at h; exact ⟨rfl, h⟩
        · simp only [Bool.false_eq_true, if_false, if_true] at h; omega
        · simp only [Bool.false_eq_true, if_false, if_true] at h; omega
        · simp only [if_true] at h; exact ⟨rfl, by omega⟩
      obtain ⟨k1, k2⟩ := key a1 b1 a2 b2 e.2
      simp only at k1 k2
      rw [e.1, k1, k2]

/-! Multiples -/
theorem dvd_two {b q a : Int} (hb : b % 2 = 1) (h : b * q = a * 2) : ∃ r, b * r = a := by
  have hq : q % 2 = 0 := by
    have := congrArg (· % 2) h
    simp only [Int.mul_emod b q, hb, Int.mul_emod_left] at this
    omega
  refine ⟨q / 2, ?_⟩
  have e : q = q / 2 * 2 := by omega
  have : b * (q / 2) * 2 = a * 2 := by rw [Int.mul_assoc, ← e]; exact h
  omega
theorem dvd_five {b q a : Int} (hb : b % 5 ≠ 0) (h : b * q = a * 5) : ∃ r, b * r = a := by
  have hq : q % 5 = 0 := by
    have := congrArg (· % 5) h
    simp only [Int.mul_emod b q, Int.mul_emod_left] at this
    have b1 : b % 5 = 1 ∨ b % 5 = 2 ∨ b % 5 = 3 ∨ b % 5 = 4 := by omega
    rcases b1 with b1 | b1 | b1 | b1 <;> rw [b1] at this <;> omega
  refine ⟨q / 5, ?_⟩
  have e : q = q / 5 * 5 := by omega
  have : b * (q / 5) * 5 = a * 5 := by rw [Int.mul_assoc, ← e]; exact h
  omega
theorem dvd_pow {p : Int} {b : Int} (hp : ∀ q a, b * q = a * p → ∃ r, b * r = a) (n : Nat) : ∀ q a, b * q = a * p ^ n → ∃ r, b * r = a := by
  induction n with
  | zero => intro q a h; exact ⟨q, by simpa using h⟩
  | succ n ih =>
    intro q a h
    rw [Int.pow_succ, ← Int.mul_assoc] at h
    obtain ⟨r, hr⟩ := hp q _ h
    exact ih r a hr
/-- A prime of ten taken out of the divisor as often as the dividend has tens, or as it is there. -/
theorem taken_out {p o B B' A : Int} {k t : Nat} (p0 : p ≠ 0) (hpo : p * o = 10) (hB : B = B' * p ^ k) (hk : k ≤ t)
    (ho : ∀ q a, B' * q = a * o → ∃ r, B' * r = a) (hp : k = t ∨ ∀ q a, B' * q = a * p → ∃ r, B' * r = a) :
    (∃ q, B * q = A * 10 ^ t) ↔ ∃ q, B' * q = A := by
  have e10 : (10 : Int) ^ t = p ^ k * (p ^ (t - k) * o ^ t) := by
    rw [← hpo, Int.mul_pow, ← Int.mul_assoc, ← Int.pow_add]; congr 2; omega
  have pk : p ^ k ≠ 0 := Int.pow_ne_zero p0
  constructor
  · rintro ⟨q, hq⟩
    rw [hB, e10, Int.mul_assoc, Int.mul_comm (p ^ k) q, ← Int.mul_assoc, Int.mul_comm (p ^ k) (p ^ (t - k) * o ^ t), ← Int.mul_assoc] at hq
    have hq := Int.eq_of_mul_eq_mul_right pk hq
    rw [← Int.mul_assoc] at hq
    obtain ⟨r, hr⟩ := dvd_pow ho t _ _ hq
    rcases hp with rfl | hp
    · exact ⟨r, by simpa using hr⟩
    · exact dvd_pow hp _ _ _ hr
  · rintro ⟨q, hq⟩
    refine ⟨q * (p ^ (t - k) * o ^ t), ?_⟩
    rw [hB, e10, ← hq]
    simp only [Int.mul_assoc, Int.mul_left_comm, Int.mul_comm]
end Go.Proofs.YtfhapeinfhjihaaGreatDoor
