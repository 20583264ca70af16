/-
  Numbers stand as their values do, and which number is a multiple of which. No condition.
  What dec.digitsAhead, dec.areDigits, dec.nought, dec.Check and ref3.digit, ref3.Check answer: which numbers may be. No condition.
  What dec.Check and ref3.Check answer: whether a number may be. No condition.
-/
import Derived.Test.YtjdboekanmfgpaaGreatDoorJoined1
import Derived.Test.YtjdboekanmfgpaaGreatDoorProg
import Derived.WalkKit
import Derived.WalkSpells
import Derived.WalkLawsBesides
import Derived.Deep.QuietTactic
import Derived.BigQuiet
import Derived.Deep.RegionWith
import Derived.Laws.StructEq
namespace Go.Proofs.YtjdboekanmfgpaaGreatDoor

theorem sg_mul (x y p : Int) (hp : 0 < p) : sg (x * p) (y * p) = sg x y := by
 unfold sg
 by_cases a : x < y
 ·rw [if_pos a, if_pos (Int.mul_lt_mul_of_pos_right a hp)]
 ·by_cases b : y < x
  ·have := Int.mul_lt_mul_of_pos_right b hp
   rw [if_neg a, if_pos b, if_neg (by omega), if_pos this]
  ·have : x = y := by omega
   subst this
   simp
theorem sg_neg (x y : Int) : sg (-x) (-y) = sg y x := by
 unfold sg
 by_cases a : y < x
 ·rw [if_pos a, if_pos (by omega)]
 ·by_cases b : x < y
  ·rw [if_neg a, if_pos b, if_neg (by omega), if_pos (by omega)]
  ·rw [if_neg a, if_neg b, if_neg (by omega), if_neg (by omega)]
theorem sg_swap (x y : Int) : sg y x = - sg x y := by
 unfold sg
 by_cases a : y < x
 ·rw [if_pos a, if_neg (by omega), if_pos a]
 ·by_cases b : x < y
  ·rw [if_neg a, if_pos b, if_pos b]; rfl
  ·rw [if_neg a, if_neg b, if_neg b, if_neg a]; rfl
theorem pow_mono10 {a b : Nat} (h : a ≤ b) : (10 : Int) ^ a ≤ 10 ^ b := by
 obtain ⟨c, rfl⟩ : ∃ c, b = a + c := ⟨b - a, by omega⟩
 rw [Int.pow_add]
 have := Int.mul_le_mul_of_nonneg_left (show (1 : Int) ≤ 10 ^ c from pow_pos10 c) (Int.le_of_lt (pow_pos10 a))
 omega
theorem num_ge {l : List UInt8} (h : l.all isD = true) (h0 : l ≠ []) (hh : l.head? ≠ some 48) : (10 : Int) ^ (l.length - 1) ≤ num l := by
 cases l with
 | nil => exact absurd rfl h0
 | cons c t =>
  simp only [List.all_cons, Bool.and_eq_true] at h
  have c1 := (isD_iff c).1 h.1
  have c2 : c.toNat ≠ 48 := fun e => hh (by simp [← UInt8.toNat_inj, e])
  have := num_nonneg h.2
  have := Int.mul_le_mul_of_nonneg_right (show (1 : Int) ≤ (c.toNat : Int) - 48 by omega) (Int.le_of_lt (pow_pos10 t.length))
  rw [num_cons]
  simp only [List.length_cons, Nat.add_sub_cancel]
  omega
theorem DigOK.end_ {l : List UInt8} (h : DigOK l) : EndOK l := fun c hc e => h.2.2.2.2 (by rw [hc]; simp [← UInt8.toNat_inj, e])
theorem DigOK.pos {l : List UInt8} (h : DigOK l) : 0 < num l := num_pos h.2.2.1 h.end_ h.1
/-- The size of a number, in the least places. -/
def size3 (d : D3) : Int := num d.dg * 10 ^ (d.ex + 1000000).toNat
def V (d : D3) : Int := if d.neg = true then - size3 d else size3 d
def height3 (d : D3) : Int := d.dg.length + d.ex
def sizes3 (a b : D3) : Int := if height3 a = height3 b then Lib.compareBytes a.dg b.dg else sg (height3 a) (height3 b)
theorem size_less {a b : D3} (ha : DigOK a.dg) (hb : DigOK b.dg) (a1 : -1000000 ≤ a.ex) (b1 : -1000000 ≤ b.ex) (h : height3 a < height3 b) : size3 a < size3 b := by
 unfold height3 at h
 unfold size3
 have l1 : 0 < a.dg.length := List.length_pos_iff.2 ha.1
 have l2 : 0 < b.dg.length := List.length_pos_iff.2 hb.1
 have h1 := Int.mul_lt_mul_of_pos_right (num_lt ha.2.2.1) (pow_pos10 (a.ex + 1000000).toNat)
 have h2 := Int.mul_le_mul_of_nonneg_right (num_ge hb.2.2.1 hb.1 hb.2.2.2.1) (Int.le_of_lt (pow_pos10 (b.ex + 1000000).toNat))
 rw [← Int.pow_add] at h1 h2
 have h3 := pow_mono10 (show a.dg.length + (a.ex + 1000000).toNat ≤ b.dg.length - 1 + (b.ex + 1000000).toNat by omega)
 omega
theorem sizes_eq {a b : D3} (ha : DigOK a.dg) (hb : DigOK b.dg) (a1 : -1000000 ≤ a.ex) (b1 : -1000000 ≤ b.ex) : sizes3 a b = sg (size3 a) (size3 b) := by
 unfold sizes3
 by_cases h : height3 a = height3 b
 ·rw [if_pos h]
  unfold height3 at h
  obtain ⟨m, hm⟩ : ∃ m, m = max a.dg.length b.dg.length := ⟨_, rfl⟩
  rw [compareB_num a.dg b.dg m ha.2.2.1 hb.2.2.1 ha.end_ hb.end_ (by omega) (by omega)]
  obtain ⟨k, hk⟩ : ∃ k : Nat, (k : Int) = a.dg.length + a.ex + 1000000 - m := ⟨(a.dg.length + a.ex + 1000000 - m).toNat, by omega⟩
  have e1 : size3 a = num a.dg * 10 ^ (m - a.dg.length) * 10 ^ k := by
   unfold size3
   rw [Int.mul_assoc, ← Int.pow_add]; congr 2; omega
  have e2 : size3 b = num b.dg * 10 ^ (m - b.dg.length) * 10 ^ k := by
   unfold size3
   rw [Int.mul_assoc, ← Int.pow_add]; congr 2; omega
  rw [e1, e2, sg_mul _ _ _ (pow_pos10 k)]
 ·rw [if_neg h]
  by_cases l : height3 a < height3 b
  ·have := size_less ha hb a1 b1 l
   simp [sg, l, this]
  ·have l' : height3 b < height3 a := by omega
   have := size_less hb ha b1 a1 l'
   simp [sg, l, l', this, show ¬ size3 a < size3 b by omega]
def sign3 (d : D3) : Int := if d.dg = [] then 0 else if d.neg = true then -1 else 1
theorem size_pos {d : D3} (h : DigOK d.dg) : 0 < size3 d := Int.mul_pos h.pos (pow_pos10 _)
theorem V_zero {d : D3} (h : d.dg = []) : V d = 0 := by
 unfold V size3
 rw [h]
 simp [num, numF]
/-- How numbers stand: by signs, then by sizes. -/
theorem order_V {a b : D3} (ha : Good a) (hb : Good b) : sg (V a) (V b) = if sign3 a = sign3 b then (if a.neg = true then sizes3 b a else if a.dg = [] then 0 else sizes3 a b) else sg (sign3 a) (sign3 b) := by
 rcases ha with ⟨a1, a2, a3⟩ | ⟨a1, a2, a3⟩
 ·rw [V_zero a1]
  rcases hb with ⟨b1, b2, b3⟩ | ⟨b1, b2, b3⟩
  ·rw [V_zero b1]; simp [sign3, a1, b1, a2, sg]
  ·have p := size_pos b1
   have n : b.dg ≠ [] := b1.1
   cases hn : b.neg
   ·simp [sign3, a1, n, hn, V, sg, p]
   ·simp [sign3, a1, n, hn, V, sg, p, show ¬ size3 b < 0 by omega]
 ·have p := size_pos a1
  have n : a.dg ≠ [] := a1.1
  rcases hb with ⟨b1, b2, b3⟩ | ⟨b1, b2, b3⟩
  ·rw [V_zero b1]
   cases hn : a.neg
   ·simp [sign3, b1, n, hn, V, sg, p, show ¬ size3 a < 0 by omega]
   ·simp [sign3, b1, n, hn, V, sg, p]
  ·have p' := size_pos b1
   have n' : b.dg ≠ [] := b1.1
   rw [sizes_eq a1 b1 a2 b2, sizes_eq b1 a1 b2 a2]
   cases hn : a.neg <;> cases hn' : b.neg
   ·simp [sign3, n, n', hn, hn', V]
   ·simp [sign3, n, n', hn, hn', V, sg, show ¬ size3 a < -size3 b by omega, show -size3 b < size3 a by omega]
   ·simp [sign3, n, n', hn, hn', V, sg, show -size3 a < size3 b by omega]
   ·simp [sign3, n, n', hn, hn', V, sg_neg]
/-- Numbers of one value are the same. -/
theorem V_inj {a b : D3} (ha : Good a) (hb : Good b) (h : V a = V b) : a = b := by
 have key : ∀ {x y : D3}, DigOK x.dg → DigOK y.dg → -1000000 ≤ x.ex → -1000000 ≤ y.ex → size3 x = size3 y → x.dg = y.dg ∧ x.ex = y.ex := by
  intro x y hx hy x1 y1 he
  have h1 := sizes_eq hx hy x1 y1
  have h0 : sg (size3 x) (size3 y) = 0 := by rw [he]; simp [sg]
  rw [h0] at h1
  unfold sizes3 at h1
  by_cases e : height3 x = height3 y
  ·rw [if_pos e] at h1
   have : ∀ l m : List UInt8, Lib.compareBytes l m = 0 → l = m := by
    intro l
    induction l with
    | nil => intro m hm; cases m with
     | nil => rfl
     | cons d u => simp [Lib.compareBytes] at hm
    | cons c t ih =>
     intro m hm
     cases m with
     | nil => simp [Lib.compareBytes] at hm
     | cons d u =>
      rw [Lib.compareBytes] at hm
      by_cases l1 : c < d
      ·rw [if_pos l1] at hm; exact absurd hm (by decide)
      ·by_cases l2 : d < c
       ·rw [if_neg l1, if_pos l2] at hm; exact absurd hm (by decide)
       ·rw [if_neg l1, if_neg l2] at hm
        have e1 : c.toNat = d.toNat := by
         have n1 : ¬ c.toNat < d.toNat := fun h => l1 (UInt8.lt_iff_toNat_lt.2 h)
         have n2 : ¬ d.toNat < c.toNat := fun h => l2 (UInt8.lt_iff_toNat_lt.2 h)
         omega
        rw [ih u hm, UInt8.toNat_inj.1 e1]
   have hd := this _ _ h1
   unfold height3 at e
   rw [hd] at e
   exact ⟨hd, by omega⟩
  ·rw [if_neg e] at h1
   unfold sg at h1
   by_cases l : height3 x < height3 y
   ·rw [if_pos l] at h1; exact absurd h1 (by decide)
   ·rw [if_neg l, if_pos (by omega)] at h1; exact absurd h1 (by decide)
 obtain ⟨an, al, ae⟩ := a
 obtain ⟨bn, bl, be⟩ := b
 rcases ha with ⟨a1, a2, a3⟩ | ⟨a1, a2, a3⟩
 ·simp only at a1 a2 a3
  subst a1; subst a2; subst a3
  rcases hb with ⟨b1, b2, b3⟩ | ⟨b1, b2, b3⟩
  ·simp only at b1 b2 b3
   subst b1; subst b2; subst b3; rfl
  ·rw [V_zero rfl] at h
   have p := size_pos b1
   unfold V at h
   split at h <;> omega
 ·have p := size_pos a1
  rcases hb with ⟨b1, b2, b3⟩ | ⟨b1, b2, b3⟩
  ·rw [V_zero b1] at h
   unfold V at h
   split at h <;> omega
  ·have p' := size_pos b1
   have e : an = bn ∧ size3 ⟨an, al, ae⟩ = size3 ⟨bn, bl, be⟩ := by
    unfold V at h
    simp only at h
    cases an <;> cases bn
    ·simp only [Bool.false_eq_true, if_false] at h; exact ⟨rfl, h⟩
    ·simp only [Bool.false_eq_true, if_false, if_true] at h; omega
    ·simp only [Bool.false_eq_true, if_false, if_true] at h; omega
    ·simp only [if_true] at h; exact ⟨rfl, by omega⟩
   obtain ⟨k1, k2⟩ := key a1 b1 a2 b2 e.2
   simp only at k1 k2
   rw [e.1, k1, k2]

/-! Multiples -/
theorem dvd_two {b q a : Int} (hb : b % 2 = 1) (h : b * q = a * 2) : ∃ r, b * r = a := by
 have hq : q % 2 = 0 := by
  have := congrArg (· % 2) h
  simp only [Int.mul_emod b q, hb, Int.mul_emod_left] at this
  omega
 refine ⟨q / 2, ?_⟩
 have e : q = q / 2 * 2 := by omega
 have : b * (q / 2) * 2 = a * 2 := by rw [Int.mul_assoc, ← e]; exact h
 omega
theorem dvd_five {b q a : Int} (hb : b % 5 ≠ 0) (h : b * q = a * 5) : ∃ r, b * r = a := by
 have hq : q % 5 = 0 := by
  have := congrArg (· % 5) h
  simp only [Int.mul_emod b q, Int.mul_emod_left] at this
  have b1 : b % 5 = 1 ∨ b % 5 = 2 ∨ b % 5 = 3 ∨ b % 5 = 4 := by omega
  rcases b1 with b1 | b1 | b1 | b1 <;> rw [b1] at this <;> omega
 refine ⟨q / 5, ?_⟩
 have e : q = q / 5 * 5 := by omega
 have : b * (q / 5) * 5 = a * 5 := by rw [Int.mul_assoc, ← e]; exact h
 omega
theorem dvd_pow {p : Int} {b : Int} (hp : ∀ q a, b * q = a * p → ∃ r, b * r = a) (n : Nat) : ∀ q a, b * q = a * p ^ n → ∃ r, b * r = a := by
 induction n with
 | zero => intro q a h; exact ⟨q, by simpa using h⟩
 | succ n ih =>
  intro q a h
  rw [Int.pow_succ, ← Int.mul_assoc] at h
  obtain ⟨r, hr⟩ := hp q _ h
  exact ih r a hr
/-- A prime of ten taken out of the divisor as often as the dividend has tens, or as it is there. -/
theorem taken_out {p o B B' A : Int} {k t : Nat} (p0 : p ≠ 0) (hpo : p * o = 10) (hB : B = B' * p ^ k) (hk : k ≤ t)
  (ho : ∀ q a, B' * q = a * o → ∃ r, B' * r = a) (hp : k = t ∨ ∀ q a, B' * q = a * p → ∃ r, B' * r = a) :
  (∃ q, B * q = A * 10 ^ t) ↔ ∃ q, B' * q = A := by
 have e10 : (10 : Int) ^ t = p ^ k * (p ^ (t - k) * o ^ t) := by
  rw [← hpo, Int.mul_pow, ← Int.mul_assoc, ← Int.pow_add]; congr 2; omega
 have pk : p ^ k ≠ 0 := Int.pow_ne_zero p0
 constructor
 ·rintro ⟨q, hq⟩
  rw [hB, e10, Int.mul_assoc, Int.mul_comm (p ^ k) q, ← Int.mul_assoc, Int.mul_comm (p ^ k) (p ^ (t - k) * o ^ t), ← Int.mul_assoc] at hq
  have hq := Int.eq_of_mul_eq_mul_right pk hq
  rw [← Int.mul_assoc] at hq
  obtain ⟨r, hr⟩ := dvd_pow ho t _ _ hq
  rcases hp with rfl | hp
  ·exact ⟨r, by simpa using hr⟩
  ·exact dvd_pow hp _ _ _ hr
 ·rintro ⟨q, hq⟩
  refine ⟨q * (p ^ (t - k) * o ^ t), ?_⟩
  rw [hB, e10, ← hq]
  simp only [Int.mul_assoc, Int.mul_left_comm, Int.mul_comm]
end Go.Proofs.YtjdboekanmfgpaaGreatDoor

namespace Go.Proofs.YtjdboekanmfgpaaGreatDoor
open Go.RowKit

/-- The byte at a place of a text. -/
def cx (s : ByteArray) (i : Nat) : Int := if h : i < s.size then ((s[i]'h).toNat : Int) else 0
theorem cx_at (s : ByteArray) (i : Nat) (h : i < s.size) : ((s[i]'h).toNat : Int) = cx s i := by simp [cx, h]
theorem len_of (s : ByteArray) : s.data.toList.length = s.size := Array.length_toList
theorem cx_get (s : ByteArray) (i : Nat) (h : i < s.size) : ∃ b : UInt8, s.data.toList[i]? = some b ∧ (b.toNat : Int) = cx s i := by
 refine ⟨s[i]'h, ?_, cx_at s i h⟩
 rw [Array.getElem?_toList]
 exact Array.getElem?_eq_getElem h
theorem cx_bd (s : ByteArray) (i : Nat) : 0 ≤ cx s i ∧ cx s i < 256 := by
 unfold cx
 split
 ·rename_i h; have := UInt8.toNat_lt (s[i]'h); omega
 ·omega
/-- The digits ahead. -/
theorem tw_len (l : List UInt8) (k : Nat) (hk : k ≤ l.length) (h1 : ∀ (j : Nat) b, j < k → l[j]? = some b → isD b = true) (h2 : ∀ b, l[k]? = some b → isD b = false) : tw l = l.take k ∧ dw l = l.drop k := by
 have e : l = l.take k ++ l.drop k := (List.take_append_drop k l).symm
 have h3 : (l.take k).all isD = true := by
  rw [List.all_eq_true]
  intro x hx
  obtain ⟨j, hj, rfl⟩ := List.getElem_of_mem hx
  rw [List.length_take] at hj
  exact h1 j _ (by omega) (by rw [List.getElem_take]; exact List.getElem?_eq_getElem (by omega))
 have h4 := tw_append (l.take k) (l.drop k) h3 (fun c hc => h2 c (by rw [← hc, List.head?_drop]))
 rw [← e] at h4
 exact h4
theorem r3_bool {a b : Bool} (h : a = b) : Ending.returned (.bool a) = .returned (.bool b) := by rw [h]
theorem r3_int {k : IntKind} {a b : Int} (h : a = b) : Ending.returned (.int k a) = .returned (.int k b) := by rw [h]

/-- What is known of a text whose first k bytes are digits, and no more. -/
def Ahead (s : ByteArray) (k : Nat) : Prop := k ≤ s.size ∧ tw s.data.toList = s.data.toList.take k ∧ dw s.data.toList = s.data.toList.drop k
theorem ahead_of (s : ByteArray) (k : Nat) (hk : k ≤ s.size) (h1 : ∀ j, j < k → 48 ≤ cx s j ∧ cx s j ≤ 57) (h2 : k < s.size → ¬ (48 ≤ cx s k ∧ cx s k ≤ 57)) : Ahead s k := by
 refine ⟨hk, tw_len _ k (by rw [len_of]; exact hk) (fun j b hj hb => ?_) (fun b hb => ?_)⟩
 ·obtain ⟨b', hb', hc⟩ := cx_get s j (by omega)
  rw [hb'] at hb
  have hb := Option.some.inj hb
  subst hb
  have := h1 j hj
  rw [isD_iff]; omega
 ·by_cases e : k < s.size
  ·obtain ⟨b', hb', hc⟩ := cx_get s k e
   rw [hb'] at hb
   have hb := Option.some.inj hb
   subst hb
   have := h2 e
   have : ¬ isD b' = true := by rw [isD_iff]; omega
   simpa using this
  ·rw [List.getElem?_eq_none (by rw [len_of]; omega)] at hb; cases hb
theorem Ahead.len {s : ByteArray} {k : Nat} (h : Ahead s k) : (tw s.data.toList).length = k := by rw [h.2.1, List.length_take, len_of]; have := h.1; omega

set_option maxHeartbeats 400000 in
theorem ahead_any (s : ByteArray) (w : World) (hs : s.size ≤ maxLen) :
  Calls Tryz.prog 136 #[.string s] w fun e w' => (∃ k : Nat, e = .returned (.int .i64 k) ∧ Ahead s k) ∧ w = w' := by
 unfold maxLen at hs
 go_enter Tryz.func136, Tryz.ntmps136
 go_wp2
 go_loop [3] (fun n => ∃ k : Nat, k ≤ s.size ∧ n = .int .i64 k ∧ Hid (∀ j, j < k → 48 ≤ cx s j ∧ cx s j ≤ 57)) (fun n => s.size - (intOf n).toNat)
 case atStart => exact ⟨0, Nat.zero_le _, rfl, fun j hj => absurd hj (by omega)⟩
 case round =>
  obtain ⟨k, hk, rfl, HK⟩ := hrel
  by_cases hlt : k < s.size
  ·have hI : (k : Int) < (s.size : Int) := by omega
   have hx := cx_at s k hlt
   by_cases h1 : cx s k < 48
   ·have HA : Hid (Ahead s k) := ahead_of s k hk HK.out (fun _ => by omega)
    have h1' : decide (48 ≤ cx s k) = false := decide_eq_false (by omega)
    generalize cx s k = x at *
    clear HK
    go_wp2
    go_ret
    exact ⟨⟨k, rfl, HA.out⟩, rfl⟩
   ·by_cases h2 : 57 < cx s k
    ·have HA : Hid (Ahead s k) := ahead_of s k hk HK.out (fun _ => by omega)
     generalize cx s k = x at *
     clear HK
     go_wp2
     go_ret
     exact ⟨⟨k, rfl, HA.out⟩, rfl⟩
    ·have HK2 : Hid (∀ j, j < k + 1 → 48 ≤ cx s j ∧ cx s j ≤ 57) := fun j hj => by
      by_cases e : j = k
      ·rw [e]; omega
      ·exact HK.out j (by omega)
     clear HK
     obtain ⟨x, hxx⟩ : ∃ x, cx s k = x := ⟨_, rfl⟩
     rw [hxx] at hx h1 h2
     clear hxx
     go_wp2
     go_round
     case rel => exact ⟨k + 1, by omega, by go_num, HK2⟩
     case measure => simp [intOf]; omega
  ·have e : k = s.size := by omega
   subst e
   have HA : Hid (Ahead s s.size) := ahead_of s s.size (Nat.le_refl _) HK.out (fun h => absurd h (by omega))
   clear HK
   go_wp2
   go_ret
   exact ⟨⟨s.size, rfl, HA.out⟩, rfl⟩

/-- A digit. -/
def isDI (c : Int) : Bool := decide (48 ≤ c ∧ c ≤ 57)

set_option maxHeartbeats 400000 in
theorem digit_any (c : Int) (w : World) (h0 : 0 ≤ c) (h1 : c < 256) :
  Calls Tryz.prog 100 #[.int .u8 c] w fun e w' => e = .returned (.bool (isDI c)) ∧ w = w' := by
 by_cases a : 48 ≤ c
 ·by_cases b : c ≤ 57
  ·go_enter Tryz.func100, Tryz.ntmps100
   go_wp2
   go_ret
   exact ⟨r3_bool (decide_eq_true (by omega)).symm, rfl⟩
  ·go_enter Tryz.func100, Tryz.ntmps100
   go_wp2
   go_ret
   exact ⟨r3_bool (decide_eq_false (by omega)).symm, rfl⟩
 ·go_enter Tryz.func100, Tryz.ntmps100
  go_wp2
  go_ret
  exact ⟨r3_bool (decide_eq_false (by omega)).symm, rfl⟩

theorem head_cx (s : ByteArray) (h : 0 < s.size) : s.data.toList.head? = some 48 ↔ cx s 0 = 48 := by
 obtain ⟨b, hb, hc⟩ := cx_get s 0 h
 rw [List.head?_eq_getElem?, hb, ← hc]
 simp only [Option.some.injEq]
 constructor
 ·intro e; rw [e]; rfl
 ·intro e; exact UInt8.toNat_inj.1 (by show b.toNat = 48; omega)
theorem last_cx (s : ByteArray) (h : 0 < s.size) : s.data.toList.getLast? = some 48 ↔ cx s (s.size - 1) = 48 := by
 obtain ⟨b, hb, hc⟩ := cx_get s (s.size - 1) (by omega)
 rw [List.getLast?_eq_getElem?, len_of, hb, ← hc]
 simp only [Option.some.injEq]
 constructor
 ·intro e; rw [e]; rfl
 ·intro e; exact UInt8.toNat_inj.1 (by show b.toNat = 48; omega)
theorem nil_size (s : ByteArray) : s.data.toList = [] ↔ s.size = 0 := by
 rw [← len_of, List.length_eq_zero_iff]
theorem Ahead.all {s : ByteArray} {k : Nat} (h : Ahead s k) : s.data.toList.all isD = true ↔ k = s.size := by
 constructor
 ·intro ha
  have := (tw_append s.data.toList [] ha (by simp)).1
  rw [List.append_nil] at this
  have hl := h.len
  rw [this, len_of] at hl
  exact hl.symm
 ·intro hk
  have := tw_all s.data.toList
  rw [h.2.1, hk, ← len_of, List.take_length] at this
  exact this
/-- May these be digits. -/
def digB (s : ByteArray) : Bool := decide (DigOK s.data.toList)

set_option maxHeartbeats 800000 in
theorem areDigits_any (s : ByteArray) (w : World) (hs : s.size ≤ maxLen) :
  Calls Tryz.prog 119 #[.string s] w fun e w' => e = .returned (.bool (digB s)) ∧ w = w' := by
 have ha := ahead_any s w hs
 unfold maxLen at hs
 by_cases h0 : s.size = 0
 ·have n0 : ((s.size : Int) == 0) = true := by rw [h0]; rfl
  have HD : Hid (digB s = false) := decide_eq_false (fun h => h.1 ((nil_size s).2 h0))
  clear ha h0
  go_enter Tryz.func119, Tryz.ntmps119
  go_wp2
  go_ret
  exact ⟨r3_bool HD.out.symm, rfl⟩
 ·have n0 : ((s.size : Int) == 0) = false := beq_eq_false_iff_ne.2 (by omega)
  by_cases h1 : (65536 : Int) < (s.size : Int)
  ·have HD : Hid (digB s = false) := decide_eq_false (fun h => by have := h.2.1; rw [len_of] at this; omega)
   clear ha h0
   go_enter Tryz.func119, Tryz.ntmps119
   go_wp2
   go_ret
   exact ⟨r3_bool HD.out.symm, rfl⟩
  ·have hp : 0 < s.size := by omega
   have hx0 := cx_at s 0 hp
   have i0 : (0 : Int) < (s.size : Int) := by omega
   by_cases h2 : cx s 0 = 48
   ·have HD : Hid (digB s = false) := decide_eq_false (fun h => h.2.2.2.1 ((head_cx s (by omega)).2 h2))
    rw [h2] at hx0
    clear ha h0 h2
    go_enter Tryz.func119, Tryz.ntmps119
    go_wp2
    go_ret
    exact ⟨r3_bool HD.out.symm, rfl⟩
   ·have c0 : (cx s 0 == 48) = false := beq_eq_false_iff_ne.2 h2
    have hp1 : s.size - 1 < s.size := by omega
    have hx1 := cx_at s (s.size - 1) hp1
    have ez : ((s.size : Int) - 1).toNat = s.size - 1 := by omega
    have H2 : Hid (¬ cx s 0 = 48) := h2
    by_cases h3 : cx s (s.size - 1) = 48
    ·have HD : Hid (digB s = false) := decide_eq_false (fun h => h.2.2.2.2 ((last_cx s (by omega)).2 h3))
     rw [h3] at hx1
     clear ha h0 h2 h3 H2
     generalize cx s 0 = x0 at *
     go_enter Tryz.func119, Tryz.ntmps119
     go_wp2
     go_ret
     exact ⟨r3_bool HD.out.symm, rfl⟩
    ·have c1 : (cx s (s.size - 1) == 48) = false := beq_eq_false_iff_ne.2 h3
     have H3 : Hid (¬ cx s (s.size - 1) = 48) := h3
     have HF : Hid (∀ k, Ahead s k → ((k : Int) == (s.size : Int)) = digB s) := fun k hk => by
      unfold digB
      by_cases e : k = s.size
      ·rw [decide_eq_true, e]
       ·simp
       ·exact ⟨fun h => h0 ((nil_size s).1 h), by rw [len_of]; omega, hk.all.2 e, fun h => H2.out ((head_cx s (by omega)).1 h), fun h => H3.out ((last_cx s (by omega)).1 h)⟩
      ·rw [decide_eq_false (fun h => e (hk.all.1 h.2.2.1))]
       exact beq_eq_false_iff_ne.2 (by omega)
     clear h0 h2 h3 H2 H3
     generalize cx s 0 = x0 at *
     generalize cx s (s.size - 1) = x1 at *
     go_enter Tryz.func119, Tryz.ntmps119
     go_wp2_with (go_at_call 136; refine ha.mono ?_; rintro e w' ⟨⟨k, rfl, hk⟩, rfl⟩)
     go_ret
     exact ⟨r3_bool (HF.out k hk), rfl⟩

/-- A number as a value. -/
def dv (neg : Bool) (s : ByteArray) (e : Int) : Value := .agg #[.bool neg, .string s, .int .i64 e]
def goodB (neg : Bool) (s : ByteArray) (e : Int) : Bool := decide (Good ⟨neg, s.data.toList, e⟩)
theorem nought_any (w : World) : Calls Tryz.prog 118 #[] w fun e w' => e = .returned (.agg #[.bool false, .string ⟨#[]⟩, .int .i64 0]) ∧ w' = w.alloc (.cells #[.bool false, .string ⟨#[]⟩, .int .i64 0] 24) := by
 go_enter Tryz.func118, Tryz.ntmps118
 go_wp2
 exact bodyPost_ret (v := .agg #[.bool false, .string ⟨#[]⟩, .int .i64 0]) (by simp [results, Tryz.results118, go_sem]) rfl ⟨rfl, rfl⟩
end Go.Proofs.YtjdboekanmfgpaaGreatDoor

namespace Go.Proofs.YtjdboekanmfgpaaGreatDoor
open Go.RowKit

/-- Are two numbers the same. -/
def eqD (a : Bool) (s : ByteArray) (e : Int) (b : Bool) (t : ByteArray) (f : Int) : Bool := decide (a = b ∧ s = t ∧ e = f)
theorem eq_bytes (s t : ByteArray) : (s.toList == t.toList) = decide (s = t) := by
 rw [← beq_toListBytes]
 obtain ⟨⟨x⟩⟩ := s
 obtain ⟨⟨y⟩⟩ := t
 show ((⟨x⟩ : Array UInt8) == ⟨y⟩) = _
 by_cases h : x = y
 ·subst h; simp
 ·rw [decide_eq_false (fun e => h (by simpa using e))]; simpa using h
theorem eqIn_dec (a : Bool) (s : ByteArray) (e : Int) (b : Bool) (t : ByteArray) (f : Int) (w : World) :
  (Op.equalIn 10000 24 (.agg #[.bool a, .string s, .int .i64 e]) (.agg #[.bool b, .string t, .int .i64 f])).run Tryz.prog w = .ok (eqD a s e b t f) w := by
 have u3 := Tryz.underlying3
 have u4 := Tryz.underlying4
 have u9 := Tryz.underlying9
 have a3 := Tryz.isAgg3
 have a4 := Tryz.isAgg4
 have a9 := Tryz.isAgg9
 have z3 := Tryz.sizeOf3
 have z4 := Tryz.sizeOf4
 have z9 := Tryz.sizeOf9
 have hS : Tryz.prog.underlying 24 = some (.struct (Tryz.prog.fieldsOf 24)) := by kernel_rfl
 have hp : Tryz.prog.stoodInHeld 24 = false := by kernel_rfl
 rw [show (10000 : Nat) = 9999 + 1 from rfl, run_equalIn_agg w 9999 24 _ _ hS hp]
 simp only [Program.fieldsOf, Tryz.underlying24]
 go_simp
 have hl : (s.toList = t.toList) ↔ s = t := by
  have := eq_bytes s t
  rw [Bool.eq_iff_iff] at this
  simpa using this
 unfold eqD
 by_cases h1 : a = b <;> by_cases h2 : s = t <;> by_cases h3 : e = f <;> simp [h1, h2, h3, hl]
theorem eql_dec (a : Bool) (s : ByteArray) (e : Int) (b : Bool) (t : ByteArray) (f : Int) (w : World) :
  (binOp .eql 24 (.agg #[.bool a, .string s, .int .i64 e]) (.agg #[.bool b, .string t, .int .i64 f])).run Tryz.prog w = .ok (.bool (eqD a s e b t f)) w := by
 rw [run_eql_struct, eqIn_dec]; rfl
theorem neq_dec (a : Bool) (s : ByteArray) (e : Int) (b : Bool) (t : ByteArray) (f : Int) (w : World) :
  (binOp .neq 24 (.agg #[.bool a, .string s, .int .i64 e]) (.agg #[.bool b, .string t, .int .i64 f])).run Tryz.prog w = .ok (.bool (!eqD a s e b t f)) w := by
 rw [run_neq_struct, eqIn_dec]; rfl
def errB (b : Bool) : Int := if b = true then 0 else 2
theorem bl_a {a w : World} (h : Below a.heap.size a w) (o : Obj) : Below a.heap.size a (w.alloc o) := h.alloc h.size o
theorem bl_d {B : Nat} {a w : World} (h : Below B a w) : Below B a w.drew := ⟨h.os, h.tape, h.output, h.size, h.block⟩
theorem bl_n {B : Nat} {a w : World} (h : Below B a w) (n : Nat) : Below B a (w.drewN n) := ⟨h.os, h.tape, h.output, h.size, h.block⟩
theorem bl_s {a w : World} (h : Below a.heap.size a w) {b o : Nat} (hb : a.heap.size ≤ b) (v : Value) : Below a.heap.size a (w.setCell ⟨b, o, none⟩ v) := h.setCell hb v
theorem bl_t {a w w2 : World} (h : Below a.heap.size a w) (h2 : Below w.heap.size w w2) : Below a.heap.size a w2 := h.trans (h2.mono h.size)
theorem good_zero {n : Bool} {s : ByteArray} {e : Int} (h : eqD n s e false ⟨#[]⟩ 0 = true) : goodB n s e = true := by
 obtain ⟨rfl, rfl, rfl⟩ := of_decide_eq_true h
 rfl
theorem good_not {n : Bool} {s : ByteArray} {e : Int} (h : eqD n s e false ⟨#[]⟩ 0 = false) : goodB n s e = (digB s && decide (-1000000 ≤ e ∧ e ≤ 1000000)) := by
 have h := of_decide_eq_false h
 unfold goodB digB
 by_cases d : DigOK s.data.toList
 ·rw [decide_eq_true d, Bool.true_and]
  by_cases c : -1000000 ≤ e ∧ e ≤ 1000000
  ·rw [decide_eq_true c, decide_eq_true]; exact .inr ⟨d, c⟩
  ·rw [decide_eq_false c, decide_eq_false]
   rintro (g | g)
   ·exact d.1 g.1
   ·exact c g.2
 ·rw [decide_eq_false d, Bool.false_and, decide_eq_false]
  rintro (g | g)
  ·refine h ⟨g.2.1, ?_, g.2.2⟩
   have g1 : s.data.toList = [] := g.1
   obtain ⟨⟨l⟩⟩ := s
   simp only at g1
   rw [g1]
  ·exact d g.1

set_option maxHeartbeats 800000 in
theorem check_any (n : Bool) (s : ByteArray) (e : Int) (w : World) (hs : s.size ≤ maxLen) :
  Calls Tryz.prog 90 #[.agg #[.bool n, .string s, .int .i64 e]] w fun r w' => r = .returned (.int .i64 (errB (goodB n s e))) ∧ Below w.heap.size w w' := by
 have hq := eqIn_dec n s e false ⟨#[]⟩ 0
 have ha := fun w => areDigits_any s w hs
 clear hs
 cases hz : eqD n s e false ⟨#[]⟩ 0
 ·rw [hz] at hq
  have hg := good_not hz
  clear hz
  cases hd : digB s
  ·have HG : Hid (errB (goodB n s e) = 2) := by rw [hg, hd]; rfl
   rw [hd] at ha
   clear hg hd
   go_enter Tryz.func90, Tryz.ntmps90
   go_wp2_with fail
   go_region_with (go_at_call 118; refine (nought_any _).mono ?_; rintro r w' ⟨rfl, rfl⟩)
   all_goals (try go_wp2_with (go_at_call 119; refine (ha _).mono ?_; rintro r w' ⟨rfl, rfl⟩))
   all_goals go_ret
   all_goals exact ⟨r3_int HG.out.symm, by repeat (first | exact Below.refl _ _ | refine bl_d ?_ | refine bl_a ?_ _)⟩
  ·rw [hd] at ha
   by_cases c1 : e < -1000000
   ·have HG : Hid (errB (goodB n s e) = 2) := by rw [hg, hd, decide_eq_false (by omega)]; rfl
    clear hg hd
    go_enter Tryz.func90, Tryz.ntmps90
    go_wp2_with fail
    go_region_with (go_at_call 118; refine (nought_any _).mono ?_; rintro r w' ⟨rfl, rfl⟩)
    all_goals (try go_wp2_with (go_at_call 119; refine (ha _).mono ?_; rintro r w' ⟨rfl, rfl⟩))
    all_goals go_ret
    all_goals exact ⟨r3_int HG.out.symm, by repeat (first | exact Below.refl _ _ | refine bl_d ?_ | refine bl_a ?_ _)⟩
   ·by_cases c2 : 1000000 < e
    ·have HG : Hid (errB (goodB n s e) = 2) := by rw [hg, hd, decide_eq_false (by omega)]; rfl
     clear hg hd
     go_enter Tryz.func90, Tryz.ntmps90
     go_wp2_with fail
     go_region_with (go_at_call 118; refine (nought_any _).mono ?_; rintro r w' ⟨rfl, rfl⟩)
     all_goals (try go_wp2_with (go_at_call 119; refine (ha _).mono ?_; rintro r w' ⟨rfl, rfl⟩))
     all_goals go_ret
     all_goals exact ⟨r3_int HG.out.symm, by repeat (first | exact Below.refl _ _ | refine bl_d ?_ | refine bl_a ?_ _)⟩
    ·have HG : Hid (errB (goodB n s e) = 0) := by rw [hg, hd, decide_eq_true (by omega)]; rfl
     clear hg hd
     go_enter Tryz.func90, Tryz.ntmps90
     go_wp2_with fail
     go_region_with (go_at_call 118; refine (nought_any _).mono ?_; rintro r w' ⟨rfl, rfl⟩)
     all_goals (try go_wp2_with (go_at_call 119; refine (ha _).mono ?_; rintro r w' ⟨rfl, rfl⟩))
     all_goals go_ret
     all_goals exact ⟨r3_int HG.out.symm, by repeat (first | exact Below.refl _ _ | refine bl_d ?_ | refine bl_a ?_ _)⟩
 ·rw [hz] at hq
  have HG : Hid (errB (goodB n s e) = 0) := by rw [good_zero hz]; rfl
  clear hz ha
  go_enter Tryz.func90, Tryz.ntmps90
  go_wp2_with fail
  go_region_with (go_at_call 118; refine (nought_any _).mono ?_; rintro r w' ⟨rfl, rfl⟩)
  all_goals (try go_wp2)
  all_goals go_ret
  all_goals exact ⟨r3_int HG.out.symm, by repeat (first | exact Below.refl _ _ | refine bl_d ?_ | refine bl_a ?_ _)⟩
end Go.Proofs.YtjdboekanmfgpaaGreatDoor
