/-
  What utf.reaches answers. Conditions: the table of greatest code points holds its four numbers; the bits are below 2^21.
  Plain mathematics of one step of UTF-8: what the code's test of bits says of the first and the second byte. No condition but that bytes are below 256.
-/
import Derived.Test.YtjdboekanmfgpaaGreatDoorJoined5
import Derived.Deep.Light
import Derived.Lib.QuoteBits
namespace Go.Proofs.YtjdboekanmfgpaaGreatDoor.Lx
open Go.RowKit

theorem ret_bool {a b : Bool} (h : a = b) : Ending.returned (.bool a) = .returned (.bool b) := by rw [h]

theorem surB_iff (p : Int) : surB p = true ↔ (55296 ≤ p ∧ p ≤ 57343) := by simp [surB]

/-- Some code point of n bytes begins with the bits b, while m bytes are missing. -/
def reachB (b n m : Int) : Bool := decide (leastN n ≤ (b + 1) * p64 m - 1 ∧ b * p64 m ≤ greatN n ∧ ¬ (n = 3 ∧ 55296 ≤ b * p64 m ∧ (b + 1) * p64 m - 1 ≤ 57343))

theorem reachB_mk {b n m lo hi p : Int} {x : Bool} (e1 : leastN n = lo) (e2 : greatN n = hi) (e3 : p64 m = p)
  (h : x = true ↔ (lo ≤ (b + 1) * p - 1 ∧ b * p ≤ hi ∧ ¬ (n = 3 ∧ 55296 ≤ b * p ∧ (b + 1) * p - 1 ≤ 57343))) : x = reachB b n m := by
 subst e1 e2 e3
 rw [Bool.eq_iff_iff, h]
 rw [reachB, decide_eq_true_iff]
theorem not_sur (x : Int) : (!surB x) = true ↔ ¬ (55296 ≤ x ∧ x ≤ 57343) := by rw [← surB_iff]; simp

set_option maxHeartbeats 400000 in
theorem reaches_10 (b : Int) (w : World) (hT : Tab w) (h0 : 0 ≤ b) (h1 : b < 2097152) :
  Calls Tryz.prog 162 #[.int .i64 b, .int .i64 1, .int .i64 0] w fun e w' => e = .returned (.bool (reachB b 1 0)) ∧ ∃ n, w' = w.drewN n := by
 have hl : ∀ w, Tab w → Calls Tryz.prog 182 #[.int .i64 1] w fun e w' => e = .returned (.int .i64 0) ∧ w' = w := fun w h => least_any 1 w h (by omega) (by omega)
 obtain ⟨t0, t1, t2, t3⟩ := hT
 go_enter Tryz.func162, Tryz.ntmps162
 go_wp2_with fail
 go_quiet ((go_at_call 182; exact Calls.quiet_of_same (hl _ ⟨by go_simp, by go_simp, by go_simp, by go_simp⟩)))
 all_goals (go_wp2_with fail)
 all_goals go_quiet (fail)
 all_goals go_wp2_with (go_at_call 183; refine (sur_any _ _).mono ?_; rintro e w' ⟨rfl, rfl⟩)
 all_goals go_ret
 all_goals go_light
 all_goals refine ⟨ret_bool (reachB_mk (lo := 0) (hi := 127) (p := 1) rfl rfl rfl ?_), _, rfl⟩
 all_goals clear t0 t1 t2 t3 hl
 all_goals (try rw [not_sur])
 all_goals (try simp only [surB_iff] at *)
 all_goals (try simp only [Bool.false_eq_true, false_iff, true_iff])
 all_goals omega

set_option maxHeartbeats 400000 in
theorem reaches_20 (b : Int) (w : World) (hT : Tab w) (h0 : 0 ≤ b) (h1 : b < 2097152) :
  Calls Tryz.prog 162 #[.int .i64 b, .int .i64 2, .int .i64 0] w fun e w' => e = .returned (.bool (reachB b 2 0)) ∧ ∃ n, w' = w.drewN n := by
 have hl : ∀ w, Tab w → Calls Tryz.prog 182 #[.int .i64 2] w fun e w' => e = .returned (.int .i64 128) ∧ w' = w := fun w h => least_any 2 w h (by omega) (by omega)
 obtain ⟨t0, t1, t2, t3⟩ := hT
 go_enter Tryz.func162, Tryz.ntmps162
 go_wp2_with fail
 go_quiet ((go_at_call 182; exact Calls.quiet_of_same (hl _ ⟨by go_simp, by go_simp, by go_simp, by go_simp⟩)))
 all_goals (go_wp2_with fail)
 all_goals go_quiet (fail)
 all_goals go_wp2_with (go_at_call 183; refine (sur_any _ _).mono ?_; rintro e w' ⟨rfl, rfl⟩)
 all_goals go_ret
 all_goals go_light
 all_goals refine ⟨ret_bool (reachB_mk (lo := 128) (hi := 2047) (p := 1) rfl rfl rfl ?_), _, rfl⟩
 all_goals clear t0 t1 t2 t3 hl
 all_goals (try rw [not_sur])
 all_goals (try simp only [surB_iff] at *)
 all_goals (try simp only [Bool.false_eq_true, false_iff, true_iff])
 all_goals omega

set_option maxHeartbeats 400000 in
theorem reaches_21 (b : Int) (w : World) (hT : Tab w) (h0 : 0 ≤ b) (h1 : b < 2097152) :
  Calls Tryz.prog 162 #[.int .i64 b, .int .i64 2, .int .i64 1] w fun e w' => e = .returned (.bool (reachB b 2 1)) ∧ ∃ n, w' = w.drewN n := by
 have hl : ∀ w, Tab w → Calls Tryz.prog 182 #[.int .i64 2] w fun e w' => e = .returned (.int .i64 128) ∧ w' = w := fun w h => least_any 2 w h (by omega) (by omega)
 obtain ⟨t0, t1, t2, t3⟩ := hT
 go_enter Tryz.func162, Tryz.ntmps162
 go_wp2_with fail
 go_quiet ((go_at_call 182; exact Calls.quiet_of_same (hl _ ⟨by go_simp, by go_simp, by go_simp, by go_simp⟩)))
 all_goals (go_wp2_with fail)
 all_goals go_quiet (fail)
 all_goals go_wp2_with (go_at_call 183; refine (sur_any _ _).mono ?_; rintro e w' ⟨rfl, rfl⟩)
 all_goals go_ret
 all_goals go_light
 all_goals refine ⟨ret_bool (reachB_mk (lo := 128) (hi := 2047) (p := 64) rfl rfl rfl ?_), _, rfl⟩
 all_goals clear t0 t1 t2 t3 hl
 all_goals (try rw [not_sur])
 all_goals (try simp only [surB_iff] at *)
 all_goals (try simp only [Bool.false_eq_true, false_iff, true_iff])
 all_goals omega

set_option maxHeartbeats 400000 in
theorem reaches_30 (b : Int) (w : World) (hT : Tab w) (h0 : 0 ≤ b) (h1 : b < 2097152) :
  Calls Tryz.prog 162 #[.int .i64 b, .int .i64 3, .int .i64 0] w fun e w' => e = .returned (.bool (reachB b 3 0)) ∧ ∃ n, w' = w.drewN n := by
 have hl : ∀ w, Tab w → Calls Tryz.prog 182 #[.int .i64 3] w fun e w' => e = .returned (.int .i64 2048) ∧ w' = w := fun w h => least_any 3 w h (by omega) (by omega)
 obtain ⟨t0, t1, t2, t3⟩ := hT
 go_enter Tryz.func162, Tryz.ntmps162
 go_wp2_with fail
 go_quiet ((go_at_call 182; exact Calls.quiet_of_same (hl _ ⟨by go_simp, by go_simp, by go_simp, by go_simp⟩)))
 all_goals (go_wp2_with fail)
 all_goals go_quiet (fail)
 all_goals go_wp2_with (go_at_call 183; refine (sur_any _ _).mono ?_; rintro e w' ⟨rfl, rfl⟩)
 all_goals go_ret
 all_goals go_light
 all_goals refine ⟨ret_bool (reachB_mk (lo := 2048) (hi := 65535) (p := 1) rfl rfl rfl ?_), _, rfl⟩
 all_goals clear t0 t1 t2 t3 hl
 all_goals (try rw [not_sur])
 all_goals (try simp only [surB_iff] at *)
 all_goals (try simp only [Bool.false_eq_true, false_iff, true_iff])
 all_goals (try simp only [true_and])
 all_goals omega

set_option maxHeartbeats 400000 in
theorem reaches_31 (b : Int) (w : World) (hT : Tab w) (h0 : 0 ≤ b) (h1 : b < 2097152) :
  Calls Tryz.prog 162 #[.int .i64 b, .int .i64 3, .int .i64 1] w fun e w' => e = .returned (.bool (reachB b 3 1)) ∧ ∃ n, w' = w.drewN n := by
 have hl : ∀ w, Tab w → Calls Tryz.prog 182 #[.int .i64 3] w fun e w' => e = .returned (.int .i64 2048) ∧ w' = w := fun w h => least_any 3 w h (by omega) (by omega)
 obtain ⟨t0, t1, t2, t3⟩ := hT
 go_enter Tryz.func162, Tryz.ntmps162
 go_wp2_with fail
 go_quiet ((go_at_call 182; exact Calls.quiet_of_same (hl _ ⟨by go_simp, by go_simp, by go_simp, by go_simp⟩)))
 all_goals (go_wp2_with fail)
 all_goals go_quiet (fail)
 all_goals go_wp2_with (go_at_call 183; refine (sur_any _ _).mono ?_; rintro e w' ⟨rfl, rfl⟩)
 all_goals go_ret
 all_goals go_light
 all_goals refine ⟨ret_bool (reachB_mk (lo := 2048) (hi := 65535) (p := 64) rfl rfl rfl ?_), _, rfl⟩
 all_goals clear t0 t1 t2 t3 hl
 all_goals (try rw [not_sur])
 all_goals (try simp only [surB_iff] at *)
 all_goals (try simp only [Bool.false_eq_true, false_iff, true_iff])
 all_goals (try simp only [true_and])
 all_goals omega

set_option maxHeartbeats 400000 in
theorem reaches_32 (b : Int) (w : World) (hT : Tab w) (h0 : 0 ≤ b) (h1 : b < 2097152) :
  Calls Tryz.prog 162 #[.int .i64 b, .int .i64 3, .int .i64 2] w fun e w' => e = .returned (.bool (reachB b 3 2)) ∧ ∃ n, w' = w.drewN n := by
 have hl : ∀ w, Tab w → Calls Tryz.prog 182 #[.int .i64 3] w fun e w' => e = .returned (.int .i64 2048) ∧ w' = w := fun w h => least_any 3 w h (by omega) (by omega)
 obtain ⟨t0, t1, t2, t3⟩ := hT
 go_enter Tryz.func162, Tryz.ntmps162
 go_wp2_with fail
 go_quiet ((go_at_call 182; exact Calls.quiet_of_same (hl _ ⟨by go_simp, by go_simp, by go_simp, by go_simp⟩)))
 all_goals (go_wp2_with fail)
 all_goals go_quiet (fail)
 all_goals go_wp2_with (go_at_call 183; refine (sur_any _ _).mono ?_; rintro e w' ⟨rfl, rfl⟩)
 all_goals go_ret
 all_goals go_light
 all_goals refine ⟨ret_bool (reachB_mk (lo := 2048) (hi := 65535) (p := 4096) rfl rfl rfl ?_), _, rfl⟩
 all_goals clear t0 t1 t2 t3 hl
 all_goals (try rw [not_sur])
 all_goals (try simp only [surB_iff] at *)
 all_goals (try simp only [Bool.false_eq_true, false_iff, true_iff])
 all_goals (try simp only [true_and])
 all_goals omega

set_option maxHeartbeats 400000 in
theorem reaches_40 (b : Int) (w : World) (hT : Tab w) (h0 : 0 ≤ b) (h1 : b < 2097152) :
  Calls Tryz.prog 162 #[.int .i64 b, .int .i64 4, .int .i64 0] w fun e w' => e = .returned (.bool (reachB b 4 0)) ∧ ∃ n, w' = w.drewN n := by
 have hl : ∀ w, Tab w → Calls Tryz.prog 182 #[.int .i64 4] w fun e w' => e = .returned (.int .i64 65536) ∧ w' = w := fun w h => least_any 4 w h (by omega) (by omega)
 obtain ⟨t0, t1, t2, t3⟩ := hT
 go_enter Tryz.func162, Tryz.ntmps162
 go_wp2_with fail
 go_quiet ((go_at_call 182; exact Calls.quiet_of_same (hl _ ⟨by go_simp, by go_simp, by go_simp, by go_simp⟩)))
 all_goals (go_wp2_with fail)
 all_goals go_quiet (fail)
 all_goals go_wp2_with (go_at_call 183; refine (sur_any _ _).mono ?_; rintro e w' ⟨rfl, rfl⟩)
 all_goals go_ret
 all_goals go_light
 all_goals refine ⟨ret_bool (reachB_mk (lo := 65536) (hi := 1114111) (p := 1) rfl rfl rfl ?_), _, rfl⟩
 all_goals clear t0 t1 t2 t3 hl
 all_goals (try rw [not_sur])
 all_goals (try simp only [surB_iff] at *)
 all_goals (try simp only [Bool.false_eq_true, false_iff, true_iff])
 all_goals omega

set_option maxHeartbeats 400000 in
theorem reaches_41 (b : Int) (w : World) (hT : Tab w) (h0 : 0 ≤ b) (h1 : b < 2097152) :
  Calls Tryz.prog 162 #[.int .i64 b, .int .i64 4, .int .i64 1] w fun e w' => e = .returned (.bool (reachB b 4 1)) ∧ ∃ n, w' = w.drewN n := by
 have hl : ∀ w, Tab w → Calls Tryz.prog 182 #[.int .i64 4] w fun e w' => e = .returned (.int .i64 65536) ∧ w' = w := fun w h => least_any 4 w h (by omega) (by omega)
 obtain ⟨t0, t1, t2, t3⟩ := hT
 go_enter Tryz.func162, Tryz.ntmps162
 go_wp2_with fail
 go_quiet ((go_at_call 182; exact Calls.quiet_of_same (hl _ ⟨by go_simp, by go_simp, by go_simp, by go_simp⟩)))
 all_goals (go_wp2_with fail)
 all_goals go_quiet (fail)
 all_goals go_wp2_with (go_at_call 183; refine (sur_any _ _).mono ?_; rintro e w' ⟨rfl, rfl⟩)
 all_goals go_ret
 all_goals go_light
 all_goals refine ⟨ret_bool (reachB_mk (lo := 65536) (hi := 1114111) (p := 64) rfl rfl rfl ?_), _, rfl⟩
 all_goals clear t0 t1 t2 t3 hl
 all_goals (try rw [not_sur])
 all_goals (try simp only [surB_iff] at *)
 all_goals (try simp only [Bool.false_eq_true, false_iff, true_iff])
 all_goals omega

set_option maxHeartbeats 400000 in
theorem reaches_42 (b : Int) (w : World) (hT : Tab w) (h0 : 0 ≤ b) (h1 : b < 2097152) :
  Calls Tryz.prog 162 #[.int .i64 b, .int .i64 4, .int .i64 2] w fun e w' => e = .returned (.bool (reachB b 4 2)) ∧ ∃ n, w' = w.drewN n := by
 have hl : ∀ w, Tab w → Calls Tryz.prog 182 #[.int .i64 4] w fun e w' => e = .returned (.int .i64 65536) ∧ w' = w := fun w h => least_any 4 w h (by omega) (by omega)
 obtain ⟨t0, t1, t2, t3⟩ := hT
 go_enter Tryz.func162, Tryz.ntmps162
 go_wp2_with fail
 go_quiet ((go_at_call 182; exact Calls.quiet_of_same (hl _ ⟨by go_simp, by go_simp, by go_simp, by go_simp⟩)))
 all_goals (go_wp2_with fail)
 all_goals go_quiet (fail)
 all_goals go_wp2_with (go_at_call 183; refine (sur_any _ _).mono ?_; rintro e w' ⟨rfl, rfl⟩)
 all_goals go_ret
 all_goals go_light
 all_goals refine ⟨ret_bool (reachB_mk (lo := 65536) (hi := 1114111) (p := 4096) rfl rfl rfl ?_), _, rfl⟩
 all_goals clear t0 t1 t2 t3 hl
 all_goals (try rw [not_sur])
 all_goals (try simp only [surB_iff] at *)
 all_goals (try simp only [Bool.false_eq_true, false_iff, true_iff])
 all_goals omega

set_option maxHeartbeats 400000 in
theorem reaches_43 (b : Int) (w : World) (hT : Tab w) (h0 : 0 ≤ b) (h1 : b < 2097152) :
  Calls Tryz.prog 162 #[.int .i64 b, .int .i64 4, .int .i64 3] w fun e w' => e = .returned (.bool (reachB b 4 3)) ∧ ∃ n, w' = w.drewN n := by
 have hl : ∀ w, Tab w → Calls Tryz.prog 182 #[.int .i64 4] w fun e w' => e = .returned (.int .i64 65536) ∧ w' = w := fun w h => least_any 4 w h (by omega) (by omega)
 obtain ⟨t0, t1, t2, t3⟩ := hT
 go_enter Tryz.func162, Tryz.ntmps162
 go_wp2_with fail
 go_quiet ((go_at_call 182; exact Calls.quiet_of_same (hl _ ⟨by go_simp, by go_simp, by go_simp, by go_simp⟩)))
 all_goals (go_wp2_with fail)
 all_goals go_quiet (fail)
 all_goals go_wp2_with (go_at_call 183; refine (sur_any _ _).mono ?_; rintro e w' ⟨rfl, rfl⟩)
 all_goals go_ret
 all_goals go_light
 all_goals refine ⟨ret_bool (reachB_mk (lo := 65536) (hi := 1114111) (p := 262144) rfl rfl rfl ?_), _, rfl⟩
 all_goals clear t0 t1 t2 t3 hl
 all_goals (try rw [not_sur])
 all_goals (try simp only [surB_iff] at *)
 all_goals (try simp only [Bool.false_eq_true, false_iff, true_iff])
 all_goals omega

/-- utf.reaches at every number of bytes. -/
theorem reaches_any (b n m : Int) (w : World) (hT : Tab w) (h0 : 0 ≤ b) (h1 : b < 2097152) (hn : n ≤ 4) (hm : 0 ≤ m) (hmn : m < n) :
  Calls Tryz.prog 162 #[.int .i64 b, .int .i64 n, .int .i64 m] w fun e w' => e = .returned (.bool (reachB b n m)) ∧ ∃ n, w' = w.drewN n := by
 have hn' : n = 1 ∨ n = 2 ∨ n = 3 ∨ n = 4 := by omega
 have hm' : m = 0 ∨ m = 1 ∨ m = 2 ∨ m = 3 := by omega
 rcases hn' with rfl | rfl | rfl | rfl <;> rcases hm' with rfl | rfl | rfl | rfl
 ·exact reaches_10 b w hT h0 h1
 ·omega
 ·omega
 ·omega
 ·exact reaches_20 b w hT h0 h1
 ·exact reaches_21 b w hT h0 h1
 ·omega
 ·omega
 ·exact reaches_30 b w hT h0 h1
 ·exact reaches_31 b w hT h0 h1
 ·exact reaches_32 b w hT h0 h1
 ·omega
 ·exact reaches_40 b w hT h0 h1
 ·exact reaches_41 b w hT h0 h1
 ·exact reaches_42 b w hT h0 h1
 ·exact reaches_43 b w hT h0 h1
end Go.Proofs.YtjdboekanmfgpaaGreatDoor.Lx

namespace Go.Proofs.YtjdboekanmfgpaaGreatDoor.Lx
open Go.RowKit
set_option linter.unusedSimpArgs false
set_option linter.unusedVariables false

theorem i64_or_nat (x y i : Nat) (hx : x % 2 ^ i = 0) (hy : y < 2 ^ i) (h : x + y < 4611686018427387904) : bits .or .i64 (x : Int) (y : Int) = ((x + y : Nat) : Int) := by
  show IntKind.i64.wrap ((BitVec.ofInt 64 (x : Int) ||| BitVec.ofInt 64 (y : Int)).toNat : Int) = _
  rw [BitVec.toNat_or, ofInt_u64 x (by omega), ofInt_u64 y (by omega), nat_join i x y hx hy]
  exact Lib.wrap_i64_small _ (by omega)
theorem i64_or64 (x y : Int) (hx : 0 ≤ x) (hx' : x < 2097152) (hy : 0 ≤ y) (hy' : y < 64) : bits .or .i64 (x * 64) y = x * 64 + y := by
  obtain ⟨a, rfl⟩ := Int.eq_ofNat_of_zero_le hx
  obtain ⟨b, rfl⟩ := Int.eq_ofNat_of_zero_le hy
  have := i64_or_nat (a * 64) b 6 (by omega) (by omega) (by omega)
  simpa using this
theorem i64_and63 (x : Int) (h0 : 0 ≤ x) (h : x < 4611686018427387904) : bits .and .i64 x 63 = x % 64 := by
  obtain ⟨a, rfl⟩ := Int.eq_ofNat_of_zero_le h0
  show IntKind.i64.wrap ((BitVec.ofInt 64 (a : Int) &&& BitVec.ofInt 64 ((63 : Nat) : Int)).toNat : Int) = _
  rw [BitVec.toNat_and, ofInt_u64 a (by omega), ofInt_u64 63 (by omega), nat_mask6]
  rw [Lib.wrap_i64_small _ (by omega)]
  omega

/-- How many bytes the code point has that a first byte begins; 0: it begins none. -/
def stN (c : Int) : Int := if c < 128 then 1 else if 194 ≤ c ∧ c ≤ 223 then 2 else if 224 ≤ c ∧ c ≤ 239 then 3 else if 240 ≤ c ∧ c ≤ 244 then 4 else 0
/-- May the byte d stand behind the first byte c? -/
def secB (c d : Int) : Bool := decide ((if c = 224 then 160 else if c = 240 then 144 else 128) ≤ d ∧ d ≤ (if c = 237 then 159 else if c = 244 then 143 else 191))
/-- One step: how many bytes begin a code point, and whether they are a whole one. -/
def stepF (r : Nat) (f : Nat → Int) : Nat × Bool :=
  if stN (f 0) = 0 then (0, false)
  else if stN (f 0) = 1 then (1, true)
  else if r ≤ 1 then (1, false)
  else if secB (f 0) (f 1) = false then (1, false)
  else if stN (f 0) = 2 then (2, true)
  else if r ≤ 2 then (2, false)
  else if folB (f 2) = false then (2, false)
  else if stN (f 0) = 3 then (3, true)
  else if r ≤ 3 then (3, false)
  else if folB (f 3) = false then (3, false)
  else (4, true)

theorem folB_iff (d : Int) : folB d = true ↔ (128 ≤ d ∧ d ≤ 191) := by simp [folB]
theorem secB_iff (c d : Int) : secB c d = true ↔ ((if c = 224 then 160 else if c = 240 then 144 else 128) ≤ d ∧ d ≤ (if c = 237 then 159 else if c = 244 then 143 else 191)) := by simp [secB]
theorem secB_fol (c d : Int) (h : secB c d = true) : folB d = true := by
  rw [secB_iff] at h; rw [folB_iff]
  repeat' split at h
  all_goals omega

theorem reachB_iff (b n m : Int) : reachB b n m = true ↔ (leastN n ≤ (b + 1) * p64 m - 1 ∧ b * p64 m ≤ greatN n ∧ ¬ (n = 3 ∧ 55296 ≤ b * p64 m ∧ (b + 1) * p64 m - 1 ≤ 57343)) := by
  rw [reachB, decide_eq_true_iff]

theorem ld_cases (c : Int) (h0 : 0 ≤ c) (h1 : c < 256) :
    (c < 128 ∧ ldN c = 1 ∧ ldB c = c) ∨ (128 ≤ c ∧ c < 192 ∧ ldN c = 0 ∧ ldB c = 0) ∨ (192 ≤ c ∧ c < 224 ∧ ldN c = 2 ∧ ldB c = c - 192) ∨ (224 ≤ c ∧ c < 240 ∧ ldN c = 3 ∧ ldB c = c - 224) ∨ (240 ≤ c ∧ c < 248 ∧ ldN c = 4 ∧ ldB c = c - 240) ∨ (248 ≤ c ∧ ldN c = 0 ∧ ldB c = 0) := by
  unfold ldN ldB
  repeat' split
  all_goals omega

theorem p0 : p64 0 = 1 := rfl
theorem p1 : p64 1 = 64 := rfl
theorem p2 : p64 2 = 4096 := rfl
theorem p3 : p64 3 = 262144 := rfl
theorem l1 : leastN 1 = 0 := rfl
theorem l2 : leastN 2 = 128 := rfl
theorem l3 : leastN 3 = 2048 := rfl
theorem l4 : leastN 4 = 65536 := rfl
theorem g1 : greatN 1 = 127 := rfl
theorem g2 : greatN 2 = 2047 := rfl
theorem g3 : greatN 3 = 65535 := rfl
theorem g4 : greatN 4 = 1114111 := rfl

/-- The test ahead of the loop says whether the first byte begins a code point. -/
theorem first_bad (c : Int) (h0 : 0 ≤ c) (h1 : c < 256) : (ldN c = 0 ∨ reachB (ldB c) (ldN c) (ldN c - 1) = false) ↔ stN c = 0 := by
  rw [← Bool.not_eq_true, reachB_iff]
  rcases ld_cases c h0 h1 with ⟨h, e, e'⟩ | ⟨h, h', e, e'⟩ | ⟨h, h', e, e'⟩ | ⟨h, h', e, e'⟩ | ⟨h, h', e, e'⟩ | ⟨h, e, e'⟩ <;> rw [e, e'] <;> unfold stN
  · simp only [show (1 : Int) - 1 = 0 from rfl, p0, l1, g1]; repeat' split
    all_goals omega
  · repeat' split
    all_goals omega
  · simp only [show (2 : Int) - 1 = 1 from rfl, p1, l2, g2]; repeat' split
    all_goals omega
  · simp only [show (3 : Int) - 1 = 2 from rfl, p2, l3, g3]; repeat' split
    all_goals omega
  · simp only [show (4 : Int) - 1 = 3 from rfl, p3, l4, g4]; repeat' split
    all_goals omega
  · repeat' split
    all_goals omega
theorem first_good (c : Int) (h0 : 0 ≤ c) (h1 : c < 256) (h : stN c ≠ 0) : ldN c = stN c ∧ 1 ≤ stN c ∧ stN c ≤ 4 ∧ 0 ≤ ldB c ∧ ldB c ≤ 127 ∧ (stN c = 2 → ldB c = c - 192) ∧ (stN c = 3 → ldB c = c - 224) ∧ (stN c = 4 → ldB c = c - 240) := by
  rcases ld_cases c h0 h1 with ⟨h, e, e'⟩ | ⟨h, h', e, e'⟩ | ⟨h, h', e, e'⟩ | ⟨h, h', e, e'⟩ | ⟨h, h', e, e'⟩ | ⟨h, e, e'⟩ <;> rw [e, e'] <;> unfold stN at * <;> repeat' split
  all_goals omega

/-- The bits of the first j bytes. -/
def acc (f : Nat → Int) : Nat → Int
  | 0 => 0
  | 1 => ldB (f 0)
  | j + 2 => acc f (j + 1) * 64 + f (j + 1) % 64

theorem acc_two (f : Nat → Int) : acc f 2 = ldB (f 0) * 64 + f 1 % 64 := rfl
theorem acc_three (f : Nat → Int) : acc f 3 = (ldB (f 0) * 64 + f 1 % 64) * 64 + f 2 % 64 := rfl
theorem acc_four (f : Nat → Int) : acc f 4 = ((ldB (f 0) * 64 + f 1 % 64) * 64 + f 2 % 64) * 64 + f 3 % 64 := rfl

/-- The bytes ahead of the j-th have been let by. -/
def passed (len : Nat) (f : Nat → Int) (j : Nat) : Prop :=
  (2 ≤ j → 1 < len ∧ secB (f 0) (f 1) = true) ∧ (3 ≤ j → 2 < len ∧ folB (f 2) = true) ∧ (4 ≤ j → 3 < len ∧ folB (f 3) = true)

theorem next2 (c d : Int) (h0 : 0 ≤ c) (h1 : c < 256) (hc : 2 ≤ stN c) (hd : folB d = true) : reachB (ldB c * 64 + d % 64) (stN c) (stN c - 1 - 1) = secB c d := by
  have hz : stN c ≠ 0 := by omega
  obtain ⟨_, _, a4, _, _, a2, a3, a5⟩ := first_good c h0 h1 hz
  rw [folB_iff] at hd
  have hm : d % 64 = d - 128 := by omega
  rw [Bool.eq_iff_iff, reachB_iff, secB_iff, hm]
  have e : stN c = 2 ∨ stN c = 3 ∨ stN c = 4 := by omega
  rcases e with e | e | e
  · rw [e, a2 e]; simp only [show (2 : Int) - 1 - 1 = 0 from rfl, p0, l2, g2]
    have : 194 ≤ c ∧ c ≤ 223 := by unfold stN at e; repeat' split at e
                                   all_goals omega
    repeat' split
    all_goals omega
  · rw [e, a3 e]; simp only [show (3 : Int) - 1 - 1 = 1 from rfl, p1, l3, g3]
    have : 224 ≤ c ∧ c ≤ 239 := by unfold stN at e; repeat' split at e
                                   all_goals omega
    repeat' split
    all_goals (simp only [true_and]; omega)
  · rw [e, a5 e]; simp only [show (4 : Int) - 1 - 1 = 2 from rfl, p2, l4, g4]
    have : 240 ≤ c ∧ c ≤ 244 := by unfold stN at e; repeat' split at e
                                   all_goals omega
    repeat' split
    all_goals omega

theorem stN_three (c : Int) (e : stN c = 3) : 224 ≤ c ∧ c ≤ 239 := by
  unfold stN at e; repeat' split at e
  all_goals omega
theorem stN_four (c : Int) (e : stN c = 4) : 240 ≤ c ∧ c ≤ 244 := by
  unfold stN at e; repeat' split at e
  all_goals omega
theorem stN_two (c : Int) (e : stN c = 2) : 194 ≤ c ∧ c ≤ 223 := by
  unfold stN at e; repeat' split at e
  all_goals omega

theorem next3 (c d k : Int) (h0 : 0 ≤ c) (h1 : c < 256) (hc : 3 ≤ stN c) (hd : secB c d = true) (hk : folB k = true) : reachB ((ldB c * 64 + d % 64) * 64 + k % 64) (stN c) (stN c - 1 - 2) = true := by
  have hz : stN c ≠ 0 := by omega
  obtain ⟨_, _, a4, _, _, a2, a3, a5⟩ := first_good c h0 h1 hz
  have hf := secB_fol c d hd
  rw [folB_iff] at hk hf
  rw [secB_iff] at hd
  have hm : d % 64 = d - 128 := by omega
  have hm' : k % 64 = k - 128 := by omega
  rw [reachB_iff, hm, hm']
  have e : stN c = 3 ∨ stN c = 4 := by omega
  rcases e with e | e
  · have := stN_three c e
    rw [e, a3 e]; simp only [show (3 : Int) - 1 - 2 = 0 from rfl, p0, l3, g3, true_and]
    repeat' split at hd
    all_goals omega
  · have := stN_four c e
    rw [e, a5 e]; simp only [show (4 : Int) - 1 - 2 = 1 from rfl, p1, l4, g4]
    repeat' split at hd
    all_goals omega

theorem next4 (c d k l : Int) (h0 : 0 ≤ c) (h1 : c < 256) (e : stN c = 4) (hd : secB c d = true) (hk : folB k = true) (hl : folB l = true) : reachB (((ldB c * 64 + d % 64) * 64 + k % 64) * 64 + l % 64) (stN c) (stN c - 1 - 3) = true := by
  have hz : stN c ≠ 0 := by omega
  obtain ⟨_, _, a4, _, _, a2, a3, a5⟩ := first_good c h0 h1 hz
  have hf := secB_fol c d hd
  rw [folB_iff] at hk hf hl
  rw [secB_iff] at hd
  have hm : d % 64 = d - 128 := by omega
  have hm' : k % 64 = k - 128 := by omega
  have hm'' : l % 64 = l - 128 := by omega
  rw [reachB_iff, hm, hm', hm'']
  have := stN_four c e
  rw [e, a5 e]; simp only [show (4 : Int) - 1 - 3 = 0 from rfl, p0, l4, g4]
  repeat' split at hd
  all_goals omega

/-- The test in the loop: the second byte decides, the later ones need only follow. -/
def okAt (f : Nat → Int) (j : Nat) : Bool := if j = 1 then secB (f 0) (f 1) else true

theorem reach_at (f : Nat → Int) (len j : Nat) (h0 : 0 ≤ f 0) (h1 : f 0 < 256) (hj : 1 ≤ j) (hjn : (j : Int) < stN (f 0)) (hp : passed len f j) (hf : folB (f j) = true) :
    reachB (acc f (j + 1)) (stN (f 0)) (stN (f 0) - 1 - j) = okAt f j := by
  have hz : stN (f 0) ≠ 0 := by omega
  obtain ⟨_, _, a4, _⟩ := first_good (f 0) h0 h1 hz
  obtain ⟨q2, q3, q4⟩ := hp
  have e : j = 1 ∨ j = 2 ∨ j = 3 := by omega
  rcases e with rfl | rfl | rfl
  · exact next2 (f 0) (f 1) h0 h1 (by omega) hf
  · exact next3 (f 0) (f 1) (f 2) h0 h1 (by omega) (q2 (by omega)).2 hf
  · exact next4 (f 0) (f 1) (f 2) (f 3) h0 h1 (by omega) (q2 (by omega)).2 (q3 (by omega)).2 hf

theorem acc_bd (f : Nat → Int) (h0 : 0 ≤ f 0) (h1 : f 0 < 256) (hz : stN (f 0) ≠ 0) (j : Nat) (hj : 1 ≤ j) (hjn : (j : Int) ≤ stN (f 0)) : 0 ≤ acc f j ∧ acc f j < 2097152 := by
  obtain ⟨_, _, a4, b0, b1, a2, a3, a5⟩ := first_good (f 0) h0 h1 hz
  have e : j = 1 ∨ j = 2 ∨ j = 3 ∨ j = 4 := by omega
  rcases e with rfl | rfl | rfl | rfl
  · show 0 ≤ ldB (f 0) ∧ ldB (f 0) < 2097152
    omega
  · rw [acc_two]; omega
  · rw [acc_three]; omega
  · rw [acc_four]
    have e : stN (f 0) = 4 := by omega
    have := stN_four _ e
    rw [a5 e]
    omega

theorem passed_one (len : Nat) (f : Nat → Int) : passed len f 1 := ⟨by omega, by omega, by omega⟩
theorem passed_next (len : Nat) (f : Nat → Int) (j : Nat) (hj : 1 ≤ j) (hl : j < len) (hf : folB (f j) = true) (ho : okAt f j = true) (hp : passed len f j) : passed len f (j + 1) := by
  obtain ⟨q2, q3, q4⟩ := hp
  refine ⟨fun _ => ?_, fun h3 => ?_, fun h4 => ?_⟩
  · by_cases e : j = 1
    · subst e; exact ⟨hl, by simpa [okAt] using ho⟩
    · exact q2 (by omega)
  · by_cases e : j = 2
    · subst e; exact ⟨hl, hf⟩
    · exact q3 (by omega)
  · by_cases e : j = 3
    · subst e; exact ⟨hl, hf⟩
    · exact q4 (by omega)

theorem stepF_none (r : Nat) (f : Nat → Int) (h : stN (f 0) = 0) : stepF r f = (0, false) := by simp [stepF, h]
theorem stepF_whole (r : Nat) (f : Nat → Int) (h0 : 0 ≤ f 0) (h1 : f 0 < 256) (h : stN (f 0) ≠ 0) (n : Nat) (hn : (n : Int) = stN (f 0)) (hp : passed r f n) : stepF r f = (n, true) := by
  obtain ⟨_, _, a4, _⟩ := first_good (f 0) h0 h1 h
  obtain ⟨q2, q3, q4⟩ := hp
  have e : n = 1 ∨ n = 2 ∨ n = 3 ∨ n = 4 := by omega
  unfold stepF
  rcases e with rfl | rfl | rfl | rfl
  · simp [← hn]
  · obtain ⟨x, y⟩ := q2 (by omega)
    simp [← hn, y, show ¬ r ≤ 1 by omega]
  · obtain ⟨x, y⟩ := q2 (by omega)
    obtain ⟨x', y'⟩ := q3 (by omega)
    simp [← hn, y, y', show ¬ r ≤ 1 by omega, show ¬ r ≤ 2 by omega]
  · obtain ⟨x, y⟩ := q2 (by omega)
    obtain ⟨x', y'⟩ := q3 (by omega)
    obtain ⟨x'', y''⟩ := q4 (by omega)
    simp [← hn, y, y', y'', show ¬ r ≤ 1 by omega, show ¬ r ≤ 2 by omega, show ¬ r ≤ 3 by omega]
theorem stepF_part (r : Nat) (f : Nat → Int) (h0 : 0 ≤ f 0) (h1 : f 0 < 256) (j : Nat) (hj : 1 ≤ j) (hjn : (j : Int) < stN (f 0)) (hp : passed r f j)
    (hb : r ≤ j ∨ folB (f j) = false ∨ okAt f j = false) : stepF r f = (j, false) := by
  have h : stN (f 0) ≠ 0 := by omega
  obtain ⟨_, _, a4, _⟩ := first_good (f 0) h0 h1 h
  obtain ⟨q2, q3, q4⟩ := hp
  have hs : folB (f 1) = false → secB (f 0) (f 1) = false := by
    intro k
    cases z : secB (f 0) (f 1)
    · rfl
    · rw [secB_fol _ _ z] at k; cases k
  have e : j = 1 ∨ j = 2 ∨ j = 3 := by omega
  have n1 : ¬ stN (f 0) = 1 := by omega
  unfold stepF
  rcases e with rfl | rfl | rfl
  · by_cases k : r ≤ 1
    · simp [h, n1, k]
    · have : secB (f 0) (f 1) = false := by
        rcases hb with z | z | z
        · omega
        · exact hs z
        · simpa [okAt] using z
      simp [h, n1, k, this]
  · obtain ⟨x, y⟩ := q2 (by omega)
    have n2 : ¬ stN (f 0) = 2 := by omega
    by_cases k : r ≤ 2
    · simp [h, n1, n2, y, k, show ¬ r ≤ 1 by omega]
    · have : folB (f 2) = false := by
        rcases hb with z | z | z
        · omega
        · exact z
        · simp [okAt] at z
      simp [h, n1, n2, y, k, this, show ¬ r ≤ 1 by omega]
  · obtain ⟨x, y⟩ := q2 (by omega)
    obtain ⟨x', y'⟩ := q3 (by omega)
    have n2 : ¬ stN (f 0) = 2 := by omega
    have n3 : ¬ stN (f 0) = 3 := by omega
    by_cases k : r ≤ 3
    · simp [h, n1, n2, n3, y, y', k, show ¬ r ≤ 1 by omega, show ¬ r ≤ 2 by omega]
    · have : folB (f 3) = false := by
        rcases hb with z | z | z
        · omega
        · exact z
        · simp [okAt] at z
      simp [h, n1, n2, n3, y, y', k, this, show ¬ r ≤ 1 by omega, show ¬ r ≤ 2 by omega]
end Go.Proofs.YtjdboekanmfgpaaGreatDoor.Lx
