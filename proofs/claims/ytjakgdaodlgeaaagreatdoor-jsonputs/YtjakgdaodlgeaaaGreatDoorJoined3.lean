/-
  Plain mathematics of one step of UTF-8: what the code's test of bits says of the first and the second byte. No condition but that bytes are below 256.
  What utf.begun answers of bytes that lie in memory. Conditions: the slice is not empty; the table of greatest code points holds its four numbers.
-/
import Derived.Test.YtjakgdaodlgeaaaGreatDoorJoined2
import Derived.Lib.QuoteBits
import Derived.Deep.Light
namespace Go.Proofs.YtjakgdaodlgeaaaGreatDoor.Lx
open Go.RowKit
set_option linter.unusedSimpArgs false
set_option linter.unusedVariables false

theorem i64_or_nat (x y i : Nat) (hx : x % 2 ^ i = 0) (hy : y < 2 ^ i) (h : x + y < 4611686018427387904) : bits .or .i64 (x : Int) (y : Int) = ((x + y : Nat) : Int) := by
  show IntKind.i64.wrap ((BitVec.ofInt 64 (x : Int) ||| BitVec.ofInt 64 (y : Int)).toNat : Int) = _
  rw [BitVec.toNat_or, ofInt_u64 x (by omega), ofInt_u64 y (by omega), nat_join i x y hx hy]
  exact Lib.wrap_i64_small _ (by omega)
theorem i64_or64 (x y : Int) (hx : 0 ≤ x) (hx' : x < 2097152) (hy : 0 ≤ y) (hy' : y < 64) : bits .or .i64 (x * 64) y = x * 64 + y := by
  obtain ⟨a, rfl⟩ := Int.eq_ofNat_of_zero_le hx
  obtain ⟨b, rfl⟩ := Int.eq_ofNat_of_zero_le hy
  have := i64_or_nat (a * 64) b 6 (by omega) (by omega) (by omega)
  simpa using this
theorem i64_and63 (x : Int) (h0 : 0 ≤ x) (h : x < 4611686018427387904) : bits .and .i64 x 63 = x % 64 := by
  obtain ⟨a, rfl⟩ := Int.eq_ofNat_of_zero_le h0
  show IntKind.i64.wrap ((BitVec.ofInt 64 (a : Int) &&& BitVec.ofInt 64 ((63 : Nat) : Int)).toNat : Int) = _
  rw [BitVec.toNat_and, ofInt_u64 a (by omega), ofInt_u64 63 (by omega), nat_mask6]
  rw [Lib.wrap_i64_small _ (by omega)]
  omega
def stN (c : Int) : Int := if c < 128 then 1 else if 194 ≤ c ∧ c ≤ 223 then 2 else if 224 ≤ c ∧ c ≤ 239 then 3 else if 240 ≤ c ∧ c ≤ 244 then 4 else 0
def secB (c d : Int) : Bool := decide ((if c = 224 then 160 else if c = 240 then 144 else 128) ≤ d ∧ d ≤ (if c = 237 then 159 else if c = 244 then 143 else 191))
def stepF (r : Nat) (f : Nat → Int) : Nat × Bool :=
  if stN (f 0) = 0 then (0, false)
  else if stN (f 0) = 1 then (1, true)
  else if r ≤ 1 then (1, false)
  else if secB (f 0) (f 1) = false then (1, false)
  else if stN (f 0) = 2 then (2, true)
  else if r ≤ 2 then (2, false)
  else if folB (f 2) = false then (2, false)
  else if stN (f 0) = 3 then (3, true)
  else if r ≤ 3 then (3, false)
  else if folB (f 3) = false then (3, false)
  else (4, true)
theorem folB_iff (d : Int) : folB d = true ↔ (128 ≤ d ∧ d ≤ 191) := by simp [folB]
theorem secB_iff (c d : Int) : secB c d = true ↔ ((if c = 224 then 160 else if c = 240 then 144 else 128) ≤ d ∧ d ≤ (if c = 237 then 159 else if c = 244 then 143 else 191)) := by simp [secB]
theorem secB_fol (c d : Int) (h : secB c d = true) : folB d = true := by
  rw [secB_iff] at h; rw [folB_iff]
  repeat' split at h
  all_goals omega
theorem reachB_iff (b n m : Int) : reachB b n m = true ↔ (leastN n ≤ (b + 1) * p64 m - 1 ∧ b * p64 m ≤ greatN n ∧ ¬ (n = 3 ∧ 55296 ≤ b * p64 m ∧ (b + 1) * p64 m - 1 ≤ 57343)) := by
  rw [reachB, decide_eq_true_iff]
theorem ld_cases (c : Int) (h0 : 0 ≤ c) (h1 : c < 256) :
    (c < 128 ∧ ldN c = 1 ∧ ldB c = c) ∨ (128 ≤ c ∧ c < 192 ∧ ldN c = 0 ∧ ldB c = 0) ∨ (192 ≤ c ∧ c < 224 ∧ ldN c = 2 ∧ ldB c = c - 192) ∨ (224 ≤ c ∧ c < 240 ∧ ldN c = 3 ∧ ldB c = c - 224) ∨ (240 ≤ c ∧ c < 248 ∧ ldN c = 4 ∧ ldB c = c - 240) ∨ (248 ≤ c ∧ ldN c = 0 ∧ ldB c = 0) := by
  unfold ldN ldB
  repeat' split
  all_goals omega
theorem p0 : p64 0 = 1 := rfl
theorem p1 : p64 1 = 64 := rfl
theorem p2 : p64 2 = 4096 := rfl
theorem p3 : p64 3 = 262144 := rfl
theorem l1 : leastN 1 = 0 := rfl
theorem l2 : leastN 2 = 128 := rfl
theorem l3 : leastN 3 = 2048 := rfl
theorem l4 : leastN 4 = 65536 := rfl
theorem g1 : greatN 1 = 127 := rfl
theorem g2 : greatN 2 = 2047 := rfl
theorem g3 : greatN 3 = 65535 := rfl
theorem g4 : greatN 4 = 1114111 := rfl
theorem first_bad (c : Int) (h0 : 0 ≤ c) (h1 : c < 256) : (ldN c = 0 ∨ reachB (ldB c) (ldN c) (ldN c - 1) = false) ↔ stN c = 0 := by
  rw [← Bool.not_eq_true, reachB_iff]
  rcases ld_cases c h0 h1 with ⟨h, e, e'⟩ | ⟨h, h', e, e'⟩ | ⟨h, h', e, e'⟩ | ⟨h, h', e, e'⟩ | ⟨h, h', e, e'⟩ | ⟨h, e, e'⟩ <;> rw [e, e'] <;> unfold stN
  · simp only [show (1 : Int) - 1 = 0 from rfl, p0, l1, g1]; repeat' split
    all_goals omega
  · repeat' split
    all_goals omega
  · simp only [show (2 : Int) - 1 = 1 from rfl, p1, l2, g2]; repeat' split
    all_goals omega
  · simp only [show (3 : Int) - 1 = 2 from rfl, p2, l3, g3]; repeat' split
    all_goals omega
  · simp only [show (4 : Int) - 1 = 3 from rfl, p3, l4, g4]; repeat' split
    all_goals omega
  · repeat' split
    all_goals omega
theorem first_good (c : Int) (h0 : 0 ≤ c) (h1 : c < 256) (h : stN c ≠ 0) : ldN c = stN c ∧ 1 ≤ stN c ∧ stN c ≤ 4 ∧ 0 ≤ ldB c ∧ ldB c ≤ 127 ∧ (stN c = 2 → ldB c = c - 192) ∧ (stN c = 3 → ldB c = c - 224) ∧ (stN c = 4 → ldB c = c - 240) := by
  rcases ld_cases c h0 h1 with ⟨h, e, e'⟩ | ⟨h, h', e, e'⟩ | ⟨h, h', e, e'⟩ | ⟨h, h', e, e'⟩ | ⟨h, h', e, e'⟩ | ⟨h, e, e'⟩ <;> rw [e, e'] <;> unfold stN at * <;> repeat' split
  all_goals omega
def acc (f : Nat → Int) : Nat → Int
  | 0 => 0
  | 1 => ldB (f 0)
  | j + 2 => acc f (j + 1) * 64 + f (j + 1) % 64
theorem acc_two (f : Nat → Int) : acc f 2 = ldB (f 0) * 64 + f 1 % 64 := rfl
theorem acc_three (f : Nat → Int) : acc f 3 = (ldB (f 0) * 64 + f 1 % 64) * 64 + f 2 % 64 := rfl
theorem acc_four (f : Nat → Int) : acc f 4 = ((ldB (f 0) * 64 + f 1 % 64) * 64 + f 2 % 64) * 64 + f 3 % 64 := rfl
def passed (len : Nat) (f : Nat → Int) (j : Nat) : Prop :=
  (2 ≤ j → 1 < len ∧ secB (f 0) (f 1) = true) ∧ (3 ≤ j → 2 < len ∧ folB (f 2) = true) ∧ (4 ≤ j → 3 < len ∧ folB (f 3) = true)
theorem next2 (c d : Int) (h0 : 0 ≤ c) (h1 : c < 256) (hc : 2 ≤ stN c) (hd : folB d = true) : reachB (ldB c * 64 + d % 64) (stN c) (stN c - 1 - 1) = secB c d := by
  have hz : stN c ≠ 0 := by omega
  obtain ⟨_, _, a4, _, _, a2, a3, a5⟩ := first_good c h0 h1 hz
  rw [folB_iff] at hd
  have hm : d % 64 = d - 128 := by omega
  rw [Bool.eq_iff_iff, reachB_iff, secB_iff, hm]
  have e : stN c = 2 ∨ stN c = 3 ∨ stN c = 4 := by omega
  rcases e with e | e | e
  · rw [e, a2 e]; simp only [show (2 : Int) - 1 - 1 = 0 from rfl, p0, l2, g2]
    have : 194 ≤ c ∧ c ≤ 223 := by unfold stN at e; repeat' split at e
                                   all_goals omega
    repeat' split
    all_goals omega
  · rw [e, a3 e]; simp only [show (3 : Int) - 1 - 1 = 1 from rfl, p1, l3, g3]
    have : 224 ≤ c ∧ c ≤ 239 := by unfold stN at e; repeat' split at e
                                   all_goals omega
    repeat' split
    all_goals (simp only [true_and]; omega)
  · rw [e, a5 e]; simp only [show (4 : Int) - 1 - 1 = 2 from rfl, p2, l4, g4]
    have : 240 ≤ c ∧ c ≤ 244 := by unfold stN at e; repeat' split at e
                                   all_goals omega
    repeat' split
    all_goals omega
theorem stN_three (c : Int) (e : stN c = 3) : 224 ≤ c ∧ c ≤ 239 := by
  unfold stN at e; repeat' split at e
  all_goals omega
theorem stN_four (c : Int) (e : stN c = 4) : 240 ≤ c ∧ c ≤ 244 := by
  unfold stN at e; repeat' split at e
  all_goals omega
theorem next3 (c d k : Int) (h0 : 0 ≤ c) (h1 : c < 256) (hc : 3 ≤ stN c) (hd : secB c d = true) (hk : folB k = true) : reachB ((ldB c * 64 + d % 64) * 64 + k % 64) (stN c) (stN c - 1 - 2) = true := by
  have hz : stN c ≠ 0 := by omega
  obtain ⟨_, _, a4, _, _, a2, a3, a5⟩ := first_good c h0 h1 hz
  have hf := secB_fol c d hd
  rw [folB_iff] at hk hf
  rw [secB_iff] at hd
  have hm : d % 64 = d - 128 := by omega
  have hm' : k % 64 = k - 128 := by omega
  rw [reachB_iff, hm, hm']
  have e : stN c = 3 ∨ stN c = 4 := by omega
  rcases e with e | e
  · have := stN_three c e
    rw [e, a3 e]; simp only [show (3 : Int) - 1 - 2 = 0 from rfl, p0, l3, g3, true_and]
    repeat' split at hd
    all_goals omega
  · have := stN_four c e
    rw [e, a5 e]; simp only [show (4 : Int) - 1 - 2 = 1 from rfl, p1, l4, g4]
    repeat' split at hd
    all_goals omega
theorem next4 (c d k l : Int) (h0 : 0 ≤ c) (h1 : c < 256) (e : stN c = 4) (hd : secB c d = true) (hk : folB k = true) (hl : folB l = true) : reachB (((ldB c * 64 + d % 64) * 64 + k % 64) * 64 + l % 64) (stN c) (stN c - 1 - 3) = true := by
  have hz : stN c ≠ 0 := by omega
  obtain ⟨_, _, a4, _, _, a2, a3, a5⟩ := first_good c h0 h1 hz
  have hf := secB_fol c d hd
  rw [folB_iff] at hk hf hl
  rw [secB_iff] at hd
  have hm : d % 64 = d - 128 := by omega
  have hm' : k % 64 = k - 128 := by omega
  have hm'' : l % 64 = l - 128 := by omega
  rw [reachB_iff, hm, hm', hm'']
  have := stN_four c e
  rw [e, a5 e]; simp only [show (4 : Int) - 1 - 3 = 0 from rfl, p0, l4, g4]
  repeat' split at hd
  all_goals omega
def okAt (f : Nat → Int) (j : Nat) : Bool := if j = 1 then secB (f 0) (f 1) else true
theorem reach_at (f : Nat → Int) (len j : Nat) (h0 : 0 ≤ f 0) (h1 : f 0 < 256) (hj : 1 ≤ j) (hjn : (j : Int) < stN (f 0)) (hp : passed len f j) (hf : folB (f j) = true) :
    reachB (acc f (j + 1)) (stN (f 0)) (stN (f 0) - 1 - j) = okAt f j := by
  have hz : stN (f 0) ≠ 0 := by omega
  obtain ⟨_, _, a4, _⟩ := first_good (f 0) h0 h1 hz
  obtain ⟨q2, q3, q4⟩ := hp
  have e : j = 1 ∨ j = 2 ∨ j = 3 := by omega
  rcases e with rfl | rfl | rfl
  · exact next2 (f 0) (f 1) h0 h1 (by omega) hf
  · exact next3 (f 0) (f 1) (f 2) h0 h1 (by omega) (q2 (by omega)).2 hf
  · exact next4 (f 0) (f 1) (f 2) (f 3) h0 h1 (by omega) (q2 (by omega)).2 (q3 (by omega)).2 hf
theorem acc_bd (f : Nat → Int) (h0 : 0 ≤ f 0) (h1 : f 0 < 256) (hz : stN (f 0) ≠ 0) (j : Nat) (hj : 1 ≤ j) (hjn : (j : Int) ≤ stN (f 0)) : 0 ≤ acc f j ∧ acc f j < 2097152 := by
  obtain ⟨_, _, a4, b0, b1, a2, a3, a5⟩ := first_good (f 0) h0 h1 hz
  have e : j = 1 ∨ j = 2 ∨ j = 3 ∨ j = 4 := by omega
  rcases e with rfl | rfl | rfl | rfl
  · show 0 ≤ ldB (f 0) ∧ ldB (f 0) < 2097152
    omega
  · rw [acc_two]; omega
  · rw [acc_three]; omega
  · rw [acc_four]
    have e : stN (f 0) = 4 := by omega
    have := stN_four _ e
    rw [a5 e]
    omega
theorem passed_one (len : Nat) (f : Nat → Int) : passed len f 1 := ⟨by omega, by omega, by omega⟩
theorem passed_next (len : Nat) (f : Nat → Int) (j : Nat) (hj : 1 ≤ j) (hl : j < len) (hf : folB (f j) = true) (ho : okAt f j = true) (hp : passed len f j) : passed len f (j + 1) := by
  obtain ⟨q2, q3, q4⟩ := hp
  refine ⟨fun _ => ?_, fun h3 => ?_, fun h4 => ?_⟩
  · by_cases e : j = 1
    · subst e; exact ⟨hl, by simpa [okAt] using ho⟩
    · exact q2 (by omega)
  · by_cases e : j = 2
    · subst e; exact ⟨hl, hf⟩
    · exact q3 (by omega)
  · by_cases e : j = 3
    · subst e; exact ⟨hl, hf⟩
    · exact q4 (by omega)
theorem stepF_none (r : Nat) (f : Nat → Int) (h : stN (f 0) = 0) : stepF r f = (0, false) := by simp [stepF, h]
theorem stepF_whole (r : Nat) (f : Nat → Int) (h0 : 0 ≤ f 0) (h1 : f 0 < 256) (h : stN (f 0) ≠ 0) (n : Nat) (hn : (n : Int) = stN (f 0)) (hp : passed r f n) : stepF r f = (n, true) := by
  obtain ⟨_, _, a4, _⟩ := first_good (f 0) h0 h1 h
  obtain ⟨q2, q3, q4⟩ := hp
  have e : n = 1 ∨ n = 2 ∨ n = 3 ∨ n = 4 := by omega
  unfold stepF
  rcases e with rfl | rfl | rfl | rfl
  · simp [← hn]
  · obtain ⟨x, y⟩ := q2 (by omega)
    simp [← hn, y, show ¬ r ≤ 1 by omega]
  · obtain ⟨x, y⟩ := q2 (by omega)
    obtain ⟨x', y'⟩ := q3 (by omega)
    simp [← hn, y, y', show ¬ r ≤ 1 by omega, show ¬ r ≤ 2 by omega]
  · obtain ⟨x, y⟩ := q2 (by omega)
    obtain ⟨x', y'⟩ := q3 (by omega)
    obtain ⟨x'', y''⟩ := q4 (by omega)
    simp [← hn, y, y', y'', show ¬ r ≤ 1 by omega, show ¬ r ≤ 2 by omega, show ¬ r ≤ 3 by omega]
theorem stepF_part (r : Nat) (f : Nat → Int) (h0 : 0 ≤ f 0) (h1 : f 0 < 256) (j : Nat) (hj : 1 ≤ j) (hjn : (j : Int) < stN (f 0)) (hp : passed r f j)
    (hb : r ≤ j ∨ folB (f j) = false ∨ okAt f j = false) : stepF r f = (j, false) := by
  have h : stN (f 0) ≠ 0 := by omega
  obtain ⟨_, _, a4, _⟩ := first_good (f 0) h0 h1 h
  obtain ⟨q2, q3, q4⟩ := hp
  have hs : folB (f 1) = false → secB (f 0) (f 1) = false := by
    intro k
    cases z : secB (f 0) (f 1)
    · rfl
    · rw [secB_fol _ _ z] at k; cases k
  have e : j = 1 ∨ j = 2 ∨ j = 3 := by omega
  have n1 : ¬ stN (f 0) = 1 := by omega
  unfold stepF
  rcases e with rfl | rfl | rfl
  · by_cases k : r ≤ 1
    · simp [h, n1, k]
    · have : secB (f 0) (f 1) = false := by
        rcases hb with z | z | z
        · omega
        · exact hs z
        · simpa [okAt] using z
      simp [h, n1, k, this]
  · obtain ⟨x, y⟩ := q2 (by omega)
    have n2 : ¬ stN (f 0) = 2 := by omega
    by_cases k : r ≤ 2
    · simp [h, n1, n2, y, k, show ¬ r ≤ 1 by omega]
    · have : folB (f 2) = false := by
        rcases hb with z | z | z
        · omega
        · exact z
        · simp [okAt] at z
      simp [h, n1, n2, y, k, this, show ¬ r ≤ 1 by omega]
  · obtain ⟨x, y⟩ := q2 (by omega)
    obtain ⟨x', y'⟩ := q3 (by omega)
    have n2 : ¬ stN (f 0) = 2 := by omega
    have n3 : ¬ stN (f 0) = 3 := by omega
    by_cases k : r ≤ 3
    · simp [h, n1, n2, n3, y, y', k, show ¬ r ≤ 1 by omega, show ¬ r ≤ 2 by omega]
    · have : folB (f 3) = false := by
        rcases hb with z | z | z
        · omega
        · exact z
        · simp [okAt] at z
      simp [h, n1, n2, n3, y, y', k, this, show ¬ r ≤ 1 by omega, show ¬ r ≤ 2 by omega]
end Go.Proofs.YtjakgdaodlgeaaaGreatDoor.Lx

namespace Go.Proofs.YtjakgdaodlgeaaaGreatDoor.Lx
open Go.RowKit

structure Lies (w : World) (b off len : Nat) (f : Nat → Int) : Prop where
 cell : ∀ i, i < len → w.cell? ⟨b, off + i, none⟩ = some (.int .u8 (f i))
 lo : ∀ i, 0 ≤ f i
 hi : ∀ i, f i < 256
theorem Tab.drewN {w : World} (h : Tab w) (n : Nat) : Tab (w.drewN n) :=
 ⟨by rw [World.cell?_drewN]; exact h.t0, by rw [World.cell?_drewN]; exact h.t1, by rw [World.cell?_drewN]; exact h.t2, by rw [World.cell?_drewN]; exact h.t3⟩
theorem ret_ib {k : IntKind} {a b : Int} {c d : Bool} (h : a = b) (g : c = d) : Ending.returned (.tuple #[.int k a, .bool c]) = .returned (.tuple #[.int k b, .bool d]) := by rw [h, g]
set_option maxHeartbeats 400000 in
theorem begun_none (b off len cap : Nat) (f : Nat → Int) (w : World) (hT : Tab w) (hL : Lies w b off len f) (hl : 0 < len) (hm : len ≤ maxLen) (hz : stN (f 0) = 0) :
  Calls Tryz.prog 113 #[.slice (some ⟨b, off, none⟩) len cap] w fun e w' => e = .returned (.tuple #[.int .i64 0, .bool false]) ∧ ∃ n, w' = w.drewN n := by
 unfold maxLen at hm
 have c0 : w.cell? ⟨b, off, none⟩ = some (.int .u8 (f 0)) := by simpa using hL.cell 0 hl
 have b0 := hL.lo 0
 have b1 := hL.hi 0
 have hlI : (0 : Int) < (len : Int) := by omega
 have hr := (first_bad (f 0) b0 b1).2 hz
 have hc := ld_cases (f 0) b0 b1
 clear hL hz
 have e1 : 0 ≤ ldN (f 0) ∧ ldN (f 0) ≤ 4 ∧ 0 ≤ ldB (f 0) ∧ ldB (f 0) < 256 := by omega
 clear hc
 have hlead' : ∀ w, Calls Tryz.prog 120 #[.int .u8 (f 0)] w fun e w' => e = .returned (.tuple #[.int .i64 (ldN (f 0)), .int .i64 (ldB (f 0))]) ∧ w = w' :=
  fun w => (lead_any _ w b0 b1).mono fun e w' h => ⟨h.1, h.2.symm⟩
 generalize ldN (f 0) = n at *
 by_cases h0 : n = 0
 ·subst h0
  have hlead := hlead'
  clear hlead'
  clear hr
  go_enter Tryz.func113, Tryz.ntmps113
  go_wp2_with (go_at_call 120; refine (hlead _).mono ?_; rintro e w' ⟨rfl, rfl⟩)
  go_ret2
  exact ⟨rfl, 0, rfl⟩
 ·have hlead := hlead'
  clear hlead'
  have hr' : reachB (ldB (f 0)) n (n - 1) = false := by
   rcases hr with h | h
   ·exact absurd h h0
   ·exact h
  have hreach : Calls Tryz.prog 121 #[.int .i64 (ldB (f 0)), .int .i64 n, .int .i64 (n - 1)] w fun e w' => e = .returned (.bool false) ∧ ∃ n, w' = w.drewN n := by
   rw [← hr']; exact reaches_any _ _ _ w hT (by omega) (by omega) (by omega) (by omega) (by omega)
  clear hr hr'
  go_enter Tryz.func113, Tryz.ntmps113
  go_wp2_with (first | (go_at_call 120; refine (hlead _).mono ?_; rintro e w' ⟨rfl, rfl⟩) | (go_at_call 121; refine hreach.mono ?_; rintro e w' ⟨rfl, q, rfl⟩))
  go_ret2
  exact ⟨rfl, _, rfl⟩
set_option maxHeartbeats 1000000 in
theorem begun_some (b off len cap : Nat) (f : Nat → Int) (w : World) (hT : Tab w) (hL : Lies w b off len f) (hl : 0 < len) (hm : len ≤ maxLen) (hz : stN (f 0) ≠ 0) :
  Calls Tryz.prog 113 #[.slice (some ⟨b, off, none⟩) len cap] w fun e w' => e = .returned (.tuple #[.int .i64 ((stepF len f).1 : Nat), .bool (stepF len f).2]) ∧ ∃ n, w' = w.drewN n := by
 unfold maxLen at hm
 have c0 : w.cell? ⟨b, off, none⟩ = some (.int .u8 (f 0)) := by simpa using hL.cell 0 hl
 have b0 := hL.lo 0
 have b1 := hL.hi 0
 have hlI : (0 : Int) < (len : Int) := by omega
 obtain ⟨en, n1, n4, l0, l1, _, _, _⟩ := first_good (f 0) b0 b1 hz
 obtain ⟨n, hn⟩ : ∃ n : Nat, (n : Int) = stN (f 0) := ⟨(stN (f 0)).toNat, by omega⟩
 have hlead : ∀ w, Calls Tryz.prog 120 #[.int .u8 (f 0)] w fun e w' => e = .returned (.tuple #[.int .i64 (n : Int), .int .i64 (acc f 1)]) ∧ w = w' := by
  intro w; rw [hn, ← en]; exact (lead_any _ w b0 b1).mono fun e w' h => ⟨h.1, h.2.symm⟩
 have hreach : Calls Tryz.prog 121 #[.int .i64 (acc f 1), .int .i64 (n : Int), .int .i64 ((n : Int) - 1)] w fun e w' => e = .returned (.bool true) ∧ ∃ n, w' = w.drewN n := by
  have hr' : reachB (ldB (f 0)) (ldN (f 0)) (ldN (f 0) - 1) = true := by
   cases z : reachB (ldB (f 0)) (ldN (f 0)) (ldN (f 0) - 1)
   ·exact absurd ((first_bad (f 0) b0 b1).1 (.inr z)) hz
   ·rfl
  rw [← hr', hn, ← en]; exact reaches_any _ _ _ w hT (by show 0 ≤ ldB (f 0); omega) (by show ldB (f 0) < _; omega) (by omega) (by omega) (by omega)
 have HN : Hid ((n : Int) = stN (f 0)) := hn
 have HZ : Hid (stN (f 0) ≠ 0) := hz
 have g1 : 1 ≤ n := by omega
 have g4 : n ≤ 4 := by omega
 have gne : ((n : Int) == 0) = false := by simp; omega
 clear hn hz en n1 n4 l0 l1
 go_enter Tryz.func113, Tryz.ntmps113
 go_wp2_with (first | (go_at_call 120; refine (hlead _).mono ?_; rintro e w' ⟨rfl, rfl⟩) | (go_at_call 121; refine hreach.mono ?_; rintro e w' ⟨rfl, q, rfl⟩))
 clear hlead hreach
 go_loopw [5, 6] (fun bits k wr => ∃ j : Nat, 1 ≤ j ∧ j ≤ n ∧ k = .int .i64 j ∧ bits = .int .i64 (acc f j) ∧ passed len f j ∧ ∃ q, wr = w.drewN q) (fun _ k _ => n - (intOf k).toNat)
 case atStart => exact ⟨1, by omega, by omega, rfl, rfl, passed_one _ _, _, rfl⟩
 case round =>
  obtain ⟨j, hj1, hjn, rfl, rfl, hp, q', rfl⟩ := hrel
  by_cases hlt : j < n
  ·by_cases hle : j < len
   ·have cj : w.cell? ⟨b, off + j, none⟩ = some (.int .u8 (f j)) := hL.cell j hle
    have bj0 := hL.lo j
    have bj1 := hL.hi j
    have abd := acc_bd f b0 b1 HZ.out j hj1 (by rw [← HN.out]; omega)
    have abd' := acc_bd f b0 b1 HZ.out (j + 1) (by omega) (by rw [← HN.out]; omega)
    have hor : bits .or .i64 (acc f j * 64) (f j % 64) = acc f (j + 1) := by
     rw [i64_or64 _ _ abd.1 abd.2 (by omega) (by omega)]
     obtain ⟨i, rfl⟩ : ∃ i, j = i + 1 := ⟨j - 1, by omega⟩
     rfl
    have hfol : ∀ w, Calls Tryz.prog 122 #[.int .u8 (f j)] w fun e w' => e = .returned (.bool (folB (f j))) ∧ w = w' := fun w => (follows_any _ w).mono fun e w' h => ⟨h.1, h.2.symm⟩
    have hjl : ((j : Int) == (len : Int)) = false := by simp; omega
    cases hf : folB (f j)
    ·have HF : Hid (stepF len f = (j, false)) := stepF_part len f b0 b1 j hj1 (by rw [← HN.out]; omega) hp (.inr (.inl hf))
     rw [hf] at hfol
     clear hf hor
     go_wp2_with (go_at_call 122; refine (hfol _).mono ?_; rintro e w' ⟨rfl, rfl⟩)
     go_ret2
     exact ⟨ret_ib (by rw [HF.out]) (by rw [HF.out]), _, rfl⟩
    ·have hra : Calls Tryz.prog 121 #[.int .i64 (acc f (j + 1)), .int .i64 (n : Int), .int .i64 ((n : Int) - 1 - (j : Int))] (w.drewN q') fun e w' => e = .returned (.bool (okAt f j)) ∧ ∃ n, w' = (w.drewN q').drewN n := by
      rw [← reach_at f len j b0 b1 hj1 (by rw [← HN.out]; omega) hp hf, ← HN.out]
      exact reaches_any _ _ _ _ (hT.drewN _) (by omega) (by omega) (by omega) (by omega) (by omega)
     rw [hf] at hfol
     cases ho : okAt f j
     ·have HF : Hid (stepF len f = (j, false)) := stepF_part len f b0 b1 j hj1 (by rw [← HN.out]; omega) hp (.inr (.inr ho))
      rw [ho] at hra
      clear ho hf
      go_wp2_with (first | (go_at_call 122; refine (hfol _).mono ?_; rintro e w' ⟨rfl, rfl⟩) | (go_at_call 121; refine hra.mono ?_; rintro e w' ⟨rfl, q2, rfl⟩))
      go_ret2
      exact ⟨ret_ib (by rw [HF.out]) (by rw [HF.out]), _, rfl⟩
     ·have HP : Hid (passed len f (j + 1)) := passed_next len f j hj1 hle hf ho hp
      rw [ho] at hra
      clear ho hf
      go_wp2_with (first | (go_at_call 122; refine (hfol _).mono ?_; rintro e w' ⟨rfl, rfl⟩) | (go_at_call 121; refine hra.mono ?_; rintro e w' ⟨rfl, q2, rfl⟩))
      go_roundw
      case rel => exact ⟨j + 1, by omega, by omega, by go_num, rfl, HP.out, _, rfl⟩
      case measure => simp [intOf]; omega
   ·have HF : Hid (stepF len f = (j, false)) := stepF_part len f b0 b1 j hj1 (by rw [← HN.out]; omega) hp (.inl (by omega))
    have hjl : ((j : Int) == (len : Int)) = true := by
     have : passed len f j := hp
     obtain ⟨q2, q3, q4⟩ := hp
     simp; omega
    go_wp2
    go_ret2
    exact ⟨ret_ib (by rw [HF.out]) (by rw [HF.out]), _, rfl⟩
  ·have e : j = n := by omega
   subst e
   have HF : Hid (stepF len f = (j, true)) := stepF_whole len f b0 b1 HZ.out j HN.out hp
   go_wp2
   go_ret2
   exact ⟨ret_ib (by rw [HF.out]) (by rw [HF.out]), _, rfl⟩
end Go.Proofs.YtjakgdaodlgeaaaGreatDoor.Lx
