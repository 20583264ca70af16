/-
  The states of a tree, as the document writes them. No condition.
  The counter's sum and product. Conditions: nothing is below 0.
-/
import Derived.Test.YtcgohdfpmfpfiaaG15
import Derived.Test.YtcgohdfpmfpfiaaXS0
import Derived.Test.YtcgohdfpmfpfiaaXR1
import Derived.BigQuiet
namespace Go.Proofs.Ytcgohdfpmfpfiaa

/-- So many times, one behind the other; q: how long one is. -/
def rep (g : Nat → List ST) (q : Nat) : Nat → Nat → List ST
  | _, 0 => []
  | n, c + 1 => g n ++ rep g q (n + q) c
mutual
/-- The states of a tree that begin at a place. -/
def bld : RX → Nat → List ST
  | .mk k r lo hi _ s, n =>
    if k = 2 then [⟨1, r, (n : Int) + 1, 0⟩]
    else if k = 6 then [⟨3, [], (n : Int) + 1, 0⟩]
    else if k = 7 then [⟨4, [], (n : Int) + 1, 0⟩]
    else if k = 8 then [⟨5, [], (n : Int) + 1, 0⟩]
    else if k = 9 then [⟨6, [], (n : Int) + 1, 0⟩]
    else if k = 3 then bldL s n
    else if k = 4 then bldA s n (n + (szL s + (s.length - 1) * 2))
    else if k = 5 then
      (if hi = -1 then rep (bldL s) (szL s) n lo.toNat ++ (⟨2, [], ((n + lo.toNat * szL s : Nat) : Int) + 1, ((n + lo.toNat * szL s + (szL s + 2) : Nat) : Int)⟩ :: bldL s (n + lo.toNat * szL s + 1) ++ [⟨2, [], ((n + lo.toNat * szL s : Nat) : Int), ((n + lo.toNat * szL s : Nat) : Int)⟩])
      else rep (bldL s) (szL s) n lo.toNat ++ rep (fun p => ⟨2, [], (p : Int) + 1, ((n + lo.toNat * szL s + (hi - lo).toNat * (szL s + 1) : Nat) : Int)⟩ :: bldL s (p + 1)) (szL s + 1) (n + lo.toNat * szL s) (hi - lo).toNat)
    else []
def bldL : List RX → Nat → List ST
  | [], _ => []
  | x :: l, n => bld x n ++ bldL l (n + szX x)
/-- Alternatives; e: the place behind all. -/
def bldA : List RX → Nat → Nat → List ST
  | [], _, _ => []
  | x :: l, n, e => (if l.length = 0 then bld x n else ⟨2, [], (n : Int) + 1, ((n + szX x + 2 : Nat) : Int)⟩ :: (bld x (n + 1) ++ [⟨2, [], (e : Int), (e : Int)⟩])) ++ bldA l (n + szX x + 2) e
end
theorem rep_len (g : Nat → List ST) (q : Nat) (hg : ∀ n, (g n).length = q) : ∀ c n, (rep g q n c).length = c * q
  | 0, _ => by simp [rep]
  | c + 1, n => by
    rw [rep, List.length_append, hg, rep_len g q hg c, Nat.succ_mul]; omega
theorem rep_snoc (g : Nat → List ST) (q : Nat) : ∀ c n, rep g q n (c + 1) = rep g q n c ++ g (n + c * q)
  | 0, n => by simp [rep]
  | c + 1, n => by
    rw [rep, rep_snoc g q c (n + q), rep]
    have e : n + q + c * q = n + (c + 1) * q := by rw [Nat.succ_mul]; omega
    rw [e, List.append_assoc]
theorem bld_5 (r : List (Int × Int)) (lo hi : Int) (z : Bool) (s : List RX) (n : Nat) : bld (.mk 5 r lo hi z s) n =
      (if hi = -1 then rep (bldL s) (szL s) n lo.toNat ++ (⟨2, [], ((n + lo.toNat * szL s : Nat) : Int) + 1, ((n + lo.toNat * szL s + (szL s + 2) : Nat) : Int)⟩ :: bldL s (n + lo.toNat * szL s + 1) ++ [⟨2, [], ((n + lo.toNat * szL s : Nat) : Int), ((n + lo.toNat * szL s : Nat) : Int)⟩])
      else rep (bldL s) (szL s) n lo.toNat ++ rep (fun p => ⟨2, [], (p : Int) + 1, ((n + lo.toNat * szL s + (hi - lo).toNat * (szL s + 1) : Nat) : Int)⟩ :: bldL s (p + 1)) (szL s + 1) (n + lo.toNat * szL s) (hi - lo).toNat) := by rw [bld]; rfl
theorem szX_5 (r : List (Int × Int)) (lo hi : Int) (z : Bool) (s : List RX) : szX (.mk 5 r lo hi z s) = (if hi = -1 then lo.toNat * szL s + (szL s + 2) else lo.toNat * szL s + (hi - lo).toNat * (szL s + 1)) := by rw [szX]; rfl
theorem bldL_len_of {l : List RX} (h : ∀ x ∈ l, ∀ n, (bld x n).length = szX x) : ∀ n, (bldL l n).length = szL l := by
  induction l with
  | nil => intro n; rfl
  | cons x l ih =>
    intro n
    rw [bldL, List.length_append, h x (by simp), ih (fun y hy => h y (by simp [hy])), szL]
theorem bldA_len_of {l : List RX} (h : ∀ x ∈ l, ∀ n, (bld x n).length = szX x) (hl : l ≠ []) : ∀ n e, (bldA l n e).length = szL l + (l.length - 1) * 2 := by
  induction l with
  | nil => exact absurd rfl hl
  | cons x l ih =>
    intro n e
    have hx := h x (by simp)
    rw [bldA, List.length_append]
    by_cases h0 : l.length = 0
    · obtain rfl : l = [] := List.eq_nil_of_length_eq_zero h0
      rw [if_pos h0, hx]
      simp [bldA, szL]
    · rw [if_neg h0, ih (fun y hy => h y (by simp [hy])) (fun e => h0 (by rw [e]; rfl))]
      simp only [List.length_cons, List.length_append, List.length_nil, hx, szL]
      omega
/-- A right tree has as many states as were told. -/
theorem bld_len : ∀ (t : RX) (d : Nat), rightB d t = true → ∀ n, (bld t n).length = szX t := by
  intro t
  induction t using RX.ind with
  | h k r lo hi z s ih =>
    intro d hr n
    obtain ⟨⟨e, rfl, hre⟩, hk4, hk5⟩ := right_parts hr
    have hs : ∀ x ∈ s, ∀ n, (bld x n).length = szX x := fun x hx => ih x hx e (hre x hx)
    have hL := bldL_len_of hs
    have kk : k = 1 ∨ k = 2 ∨ k = 3 ∨ k = 4 ∨ k = 5 ∨ k = 6 ∨ k = 7 ∨ k = 8 ∨ k = 9 := by
      have h2 : rightB (e + 1) (.mk k r lo hi z s) = true := hr
      simp only [rightB, Bool.and_eq_true] at h2
      have h3 := h2.1.2
      unfold kindB at h3
      by_cases c : k = 1 ∨ k = 2 ∨ k = 3 ∨ k = 4 ∨ k = 5 ∨ k = 6 ∨ k = 7 ∨ k = 8 ∨ k = 9
      · exact c
      · rw [if_neg (by omega), if_neg (by omega), if_neg (by omega)] at h3; cases h3
    rcases kk with rfl | rfl | rfl | rfl | rfl | rfl | rfl | rfl | rfl
    · rw [bld, szX]; rfl
    · rw [bld, szX]; rfl
    · rw [bld, szX]; exact hL n
    · have := bldA_len_of hs (by intro e; have := hk4 rfl; rw [e] at this; simp at this) n (n + (szL s + (s.length - 1) * 2))
      rw [bld, szX]; exact this
    · have e1 := rep_len (bldL s) (szL s) hL lo.toNat n
      rw [bld_5, szX_5]
      by_cases hh : hi = -1
      · rw [if_pos hh, if_pos hh, List.length_append, e1]
        simp [hL]
      · have e2 := rep_len (fun p => ⟨2, [], (p : Int) + 1, ((n + lo.toNat * szL s + (hi - lo).toNat * (szL s + 1) : Nat) : Int)⟩ :: bldL s (p + 1)) (szL s + 1) (fun m => by simp [hL]) (hi - lo).toNat (n + lo.toNat * szL s)
        rw [if_neg hh, if_neg hh, List.length_append, e1, e2]
    · rw [bld, szX]; rfl
    · rw [bld, szX]; rfl
    · rw [bld, szX]; rfl
    · rw [bld, szX]; rfl
theorem bldL_append : ∀ (l m : List RX) (n : Nat), bldL (l ++ m) n = bldL l n ++ bldL m (n + szL l)
  | [], m, n => by simp [bldL, szL]
  | x :: l, m, n => by
    rw [List.cons_append, bldL, bldL, bldL_append l m, szL, List.append_assoc, Nat.add_assoc]
theorem bldL_take (l : List RX) (i : Nat) (h : i < l.length) (n : Nat) : bldL (l.take (i + 1)) n = bldL (l.take i) n ++ bld l[i] (n + szL (l.take i)) := by
  rw [List.take_add_one, List.getElem?_eq_getElem h, bldL_append]
  simp [bldL]
theorem szL_le : ∀ (l : List RX) (i : Nat), szL (l.take i) ≤ szL l
  | [], i => by simp
  | x :: l, 0 => by simp [szL]
  | x :: l, i + 1 => by have := szL_le l i; simp only [List.take_succ_cons, szL]; omega
end Go.Proofs.Ytcgohdfpmfpfiaa

namespace Go.Proofs.Ytcgohdfpmfpfiaa
open Go.RowKit
attribute [local go_sem] setCell_drewN alloc_drewN

set_option maxRecDepth 100000 in
set_option maxHeartbeats 800000 in
theorem plus_any (L a b : Int) (hL0 : 0 ≤ L) (hL : L ≤ 9223372036854775807) (ha : 0 ≤ a) (hb : 0 ≤ b) (w : World) :
    Calls Try.prog 22 #[.agg #[.int .i64 L], .int .i64 a, .int .i64 b] w fun r w' => r = .returned (.int .i64 (min (a + b) L)) ∧ Below w.heap.size w w' := by
  obtain ⟨P, hP⟩ : ∃ P : Ending → World → Prop, P = fun r w' => r = .returned (.int .i64 (min (a + b) L)) ∧ Below w.heap.size w w' := ⟨_, rfl⟩
  rw [← hP]
  have HP := hid_intro hP
  clear hP
  go_enter Try.func22, Try.ntmps22
  by_cases h1 : a ≥ L
  · have HE : Hid (min (a + b) L = L) := hid_intro (by omega)
    go_wp2_with fail
    rw [HP.out, HE.out]
    exact ⟨rfl, vb_a (Below.refl _ _) _⟩
  · by_cases h2 : b ≥ L - a
    · have HE : Hid (min (a + b) L = L) := hid_intro (by omega)
      go_wp2_with fail
      rw [HP.out, HE.out]
      exact ⟨rfl, vb_a (Below.refl _ _) _⟩
    · have HE : Hid (min (a + b) L = a + b) := hid_intro (by omega)
      go_wp2_with fail
      rw [HP.out, HE.out]
      exact ⟨rfl, vb_a (Below.refl _ _) _⟩
set_option maxRecDepth 100000 in
set_option maxHeartbeats 800000 in
theorem times_any (L n a : Int) (hL0 : 0 ≤ L) (hL : L ≤ 9223372036854775807) (hn : 0 ≤ n) (ha : 0 ≤ a) (w : World) :
    Calls Try.prog 31 #[.agg #[.int .i64 L], .int .i64 n, .int .i64 a] w fun r w' => r = .returned (.int .i64 (min (n * a) L)) ∧ Below w.heap.size w w' := by
  obtain ⟨P, hP⟩ : ∃ P : Ending → World → Prop, P = fun r w' => r = .returned (.int .i64 (min (n * a) L)) ∧ Below w.heap.size w w' := ⟨_, rfl⟩
  rw [← hP]
  have HP := hid_intro hP
  clear hP
  go_enter Try.func31, Try.ntmps31
  by_cases h1 : n > 0
  · have hq0 : 0 ≤ L / n := Int.ediv_nonneg hL0 hn
    have hq1 : L / n ≤ L := Int.ediv_le_self _ hL0
    have hiff : L / n < a ↔ L < a * n := Int.ediv_lt_iff_lt_mul h1
    have hz : ¬ n = 0 := by omega
    by_cases h2 : a > L / n
    · have HE : Hid (min (n * a) L = L) := hid_intro (by have := hiff.1 h2; rw [Int.mul_comm] at this; omega)
      go_wp2_with fail
      rw [HP.out, HE.out]
      exact ⟨rfl, vb_a (Below.refl _ _) _⟩
    · have HE : Hid (min (n * a) L = n * a) := hid_intro (by have : ¬ L < a * n := fun h => h2 (hiff.2 h); rw [Int.mul_comm] at this; omega)
      have hm : n * a ≤ 9223372036854775807 := by have : ¬ L < a * n := fun h => h2 (hiff.2 h); rw [Int.mul_comm] at this; omega
      have hm0 : 0 ≤ n * a := Int.mul_nonneg hn ha
      go_wp2_with fail
      rw [HP.out, HE.out]
      exact ⟨rfl, vb_a (Below.refl _ _) _⟩
  · obtain rfl : n = 0 := by omega
    have HE : Hid (min (0 * a) L = 0) := hid_intro (by rw [Int.zero_mul]; omega)
    go_wp2_with fail
    rw [HP.out, HE.out]
    exact ⟨rfl, vb_a (Below.refl _ _) _⟩
end Go.Proofs.Ytcgohdfpmfpfiaa
