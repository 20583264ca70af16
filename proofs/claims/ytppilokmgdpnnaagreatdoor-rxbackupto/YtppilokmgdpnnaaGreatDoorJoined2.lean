/-
  What the small functions of package utf answer: isSurrogate, least, lead, follows. Conditions: the table of greatest code points holds its four numbers.
  What utf.reaches answers. Conditions: the table of greatest code points holds its four numbers; the bits are below 2^21.
-/
import Derived.Test.YtppilokmgdpnnaaGreatDoorProg
import Derived.WalkKit
import Derived.WalkSpells
import Derived.WalkLawsBesides
import Derived.Deep.QuietTactic
import Derived.BigQuiet
import Derived.Laws.BitsAllLaws
import Derived.Deep.Light
namespace Go.Proofs.YtppilokmgdpnnaaGreatDoor
open Go.RowKit

/-- The table of greatest code points, as it lies in memory. -/
structure Tab (w : World) : Prop where
  t0 : w.cell? ⟨0, 0, none⟩ = some (.int .i64 127)
  t1 : w.cell? ⟨0, 1, none⟩ = some (.int .i64 2047)
  t2 : w.cell? ⟨0, 2, none⟩ = some (.int .i64 65535)
  t3 : w.cell? ⟨0, 3, none⟩ = some (.int .i64 1114111)

def surB (p : Int) : Bool := decide (55296 ≤ p) && decide (p ≤ 57343)

set_option maxHeartbeats 400000 in
theorem sur_any (p : Int) (w : World) :
    Calls Tryz.prog 94 #[.int .i64 p] w fun e w' => e = .returned (.bool (surB p)) ∧ w' = w := by
  by_cases h1 : 55296 ≤ p
  · by_cases h2 : p ≤ 57343
    · go_enter Tryz.func94, Tryz.ntmps94
      go_wp2
      go_ret
      exact ⟨by simp [surB, h1, h2], rfl⟩
    · go_enter Tryz.func94, Tryz.ntmps94
      go_wp2
      go_ret
      exact ⟨by simp [surB, h1, h2], rfl⟩
  · go_enter Tryz.func94, Tryz.ntmps94
    go_wp2
    go_ret
    exact ⟨by have : decide (55296 ≤ p) = false := by simpa using h1
              simp [surB, this], rfl⟩

def leastN (n : Int) : Int := if n = 1 then 0 else if n = 2 then 128 else if n = 3 then 2048 else 65536
def greatN (n : Int) : Int := if n = 1 then 127 else if n = 2 then 2047 else if n = 3 then 65535 else 1114111

set_option maxHeartbeats 400000 in
theorem least_any (n : Int) (w : World) (hT : Tab w) (h1 : 1 ≤ n) (h4 : n ≤ 4) :
    Calls Tryz.prog 93 #[.int .i64 n] w fun e w' => e = .returned (.int .i64 (leastN n)) ∧ w' = w := by
  obtain ⟨t0, t1, t2, t3⟩ := hT
  have hn : n = 1 ∨ n = 2 ∨ n = 3 ∨ n = 4 := by omega
  rcases hn with rfl | rfl | rfl | rfl
  all_goals
    go_enter Tryz.func93, Tryz.ntmps93
    go_wp2
    go_ret
    exact ⟨by rfl, rfl⟩

/-- The first byte: how many bytes it announces, and the bits that it gives. -/
def ldN (c : Int) : Int := if c < 128 then 1 else if c < 192 then 0 else if c < 224 then 2 else if c < 240 then 3 else if c < 248 then 4 else 0
def ldB (c : Int) : Int := if c < 128 then c else if c < 192 then 0 else if c < 224 then c % 32 else if c < 240 then c % 16 else if c < 248 then c % 8 else 0

theorem u8mask (c : Int) (m : Nat) (h0 : 0 ≤ c) (h1 : c < 256) (hm : m < 256) : bits .and .u8 c (m : Int) = ((c.toNat &&& m : Nat) : Int) := by
  rw [u8_and c m h0 h1 (by omega) (by omega)]; rfl
theorem u8m31 (c : Int) (h0 : 0 ≤ c) (h1 : c < 256) : bits .and .u8 c 31 = c % 32 := by
  rw [show (31 : Int) = ((31 : Nat) : Int) from rfl, u8mask c 31 h0 h1 (by omega), nat_mask5]; omega
theorem u8m15 (c : Int) (h0 : 0 ≤ c) (h1 : c < 256) : bits .and .u8 c 15 = c % 16 := by
  rw [show (15 : Int) = ((15 : Nat) : Int) from rfl, u8mask c 15 h0 h1 (by omega), nat_mask4]; omega
theorem u8m7 (c : Int) (h0 : 0 ≤ c) (h1 : c < 256) : bits .and .u8 c 7 = c % 8 := by
  rw [show (7 : Int) = ((7 : Nat) : Int) from rfl, u8mask c 7 h0 h1 (by omega), nat_mask3]; omega
theorem u8m63 (c : Int) (h0 : 0 ≤ c) (h1 : c < 256) : bits .and .u8 c 63 = c % 64 := by
  rw [show (63 : Int) = ((63 : Nat) : Int) from rfl, u8mask c 63 h0 h1 (by omega), nat_mask6]; omega

theorem ret2_int {k l : IntKind} {a b c d : Int} (h : a = b) (g : c = d) : Ending.returned (.tuple #[.int k a, .int l c]) = .returned (.tuple #[.int k b, .int l d]) := by rw [h, g]

set_option maxHeartbeats 400000 in
theorem lead_any (c : Int) (w : World) (h0 : 0 ≤ c) (h1 : c < 256) :
    Calls Tryz.prog 67 #[.int .u8 c] w fun e w' => e = .returned (.tuple #[.int .i64 (ldN c), .int .i64 (ldB c)]) ∧ w' = w := by
  go_enter Tryz.func67, Tryz.ntmps67
  go_wp2
  all_goals go_ret2
  all_goals exact ⟨ret2_int (by unfold ldN; split <;> omega) (by unfold ldB; split <;> omega), rfl⟩

def folB (c : Int) : Bool := decide (128 ≤ c) && decide (c ≤ 191)
set_option maxHeartbeats 400000 in
theorem follows_any (c : Int) (w : World) :
    Calls Tryz.prog 58 #[.int .u8 c] w fun e w' => e = .returned (.bool (folB c)) ∧ w' = w := by
  by_cases h1 : 128 ≤ c
  · by_cases h2 : c ≤ 191
    · go_enter Tryz.func58, Tryz.ntmps58
      go_wp2
      go_ret
      exact ⟨by simp [folB, h1, h2], rfl⟩
    · go_enter Tryz.func58, Tryz.ntmps58
      go_wp2
      go_ret
      exact ⟨by simp [folB, h1, h2], rfl⟩
  · go_enter Tryz.func58, Tryz.ntmps58
    go_wp2
    go_ret
    exact ⟨by have : decide (128 ≤ c) = false := by simpa using h1
              simp [folB, this], rfl⟩

def p64 (m : Int) : Int := if m = 0 then 1 else if m = 1 then 64 else if m = 2 then 4096 else 262144
end Go.Proofs.YtppilokmgdpnnaaGreatDoor

namespace Go.Proofs.YtppilokmgdpnnaaGreatDoor
open Go.RowKit

theorem ret_bool {a b : Bool} (h : a = b) : Ending.returned (.bool a) = .returned (.bool b) := by rw [h]

theorem surB_iff (p : Int) : surB p = true ↔ (55296 ≤ p ∧ p ≤ 57343) := by simp [surB]

/-- Some code point of n bytes begins with the bits b, while m bytes are missing. -/
def reachB (b n m : Int) : Bool := decide (leastN n ≤ (b + 1) * p64 m - 1 ∧ b * p64 m ≤ greatN n ∧ ¬ (n = 3 ∧ 55296 ≤ b * p64 m ∧ (b + 1) * p64 m - 1 ≤ 57343))

theorem reachB_mk {b n m lo hi p : Int} {x : Bool} (e1 : leastN n = lo) (e2 : greatN n = hi) (e3 : p64 m = p)
    (h : x = true ↔ (lo ≤ (b + 1) * p - 1 ∧ b * p ≤ hi ∧ ¬ (n = 3 ∧ 55296 ≤ b * p ∧ (b + 1) * p - 1 ≤ 57343))) : x = reachB b n m := by
  subst e1 e2 e3
  rw [Bool.eq_iff_iff, h]
  rw [reachB, decide_eq_true_iff]
theorem not_sur (x : Int) : (!surB x) = true ↔ ¬ (55296 ≤ x ∧ x ≤ 57343) := by rw [← surB_iff]; simp

set_option maxHeartbeats 400000 in
theorem reaches_10 (b : Int) (w : World) (hT : Tab w) (h0 : 0 ≤ b) (h1 : b < 2097152) :
    Calls Tryz.prog 68 #[.int .i64 b, .int .i64 1, .int .i64 0] w fun e w' => e = .returned (.bool (reachB b 1 0)) ∧ ∃ n, w' = w.drewN n := by
  have hl : ∀ w, Tab w → Calls Tryz.prog 93 #[.int .i64 1] w fun e w' => e = .returned (.int .i64 0) ∧ w' = w := fun w h => least_any 1 w h (by omega) (by omega)
  obtain ⟨t0, t1, t2, t3⟩ := hT
  go_enter Tryz.func68, Tryz.ntmps68
  go_wp2_with fail
  go_quiet ((go_at_call 93; exact Calls.quiet_of_same (hl _ ⟨by go_simp, by go_simp, by go_simp, by go_simp⟩)))
  all_goals (go_wp2_with fail)
  all_goals go_quiet (fail)
  all_goals go_wp2_with (go_at_call 94; refine (sur_any _ _).mono ?_; rintro e w' ⟨rfl, rfl⟩)
  all_goals go_ret
  all_goals go_light
  all_goals refine ⟨ret_bool (reachB_mk (lo := 0) (hi := 127) (p := 1) rfl rfl rfl ?_), _, rfl⟩
  all_goals clear t0 t1 t2 t3 hl
  all_goals (try rw [not_sur])
  all_goals (try simp only [surB_iff] at *)
  all_goals (try simp only [Bool.false_eq_true, false_iff, true_iff])
  all_goals omega

set_option maxHeartbeats 400000 in
theorem reaches_20 (b : Int) (w : World) (hT : Tab w) (h0 : 0 ≤ b) (h1 : b < 2097152) :
    Calls Tryz.prog 68 #[.int .i64 b, .int .i64 2, .int .i64 0] w fun e w' => e = .returned (.bool (reachB b 2 0)) ∧ ∃ n, w' = w.drewN n := by
  have hl : ∀ w, Tab w → Calls Tryz.prog 93 #[.int .i64 2] w fun e w' => e = .returned (.int .i64 128) ∧ w' = w := fun w h => least_any 2 w h (by omega) (by omega)
  obtain ⟨t0, t1, t2, t3⟩ := hT
  go_enter Tryz.func68, Tryz.ntmps68
  go_wp2_with fail
  go_quiet ((go_at_call 93; exact Calls.quiet_of_same (hl _ ⟨by go_simp, by go_simp, by go_simp, by go_simp⟩)))
  all_goals (go_wp2_with fail)
  all_goals go_quiet (fail)
  all_goals go_wp2_with (go_at_call 94; refine (sur_any _ _).mono ?_; rintro e w' ⟨rfl, rfl⟩)
  all_goals go_ret
  all_goals go_light
  all_goals refine ⟨ret_bool (reachB_mk (lo := 128) (hi := 2047) (p := 1) rfl rfl rfl ?_), _, rfl⟩
  all_goals clear t0 t1 t2 t3 hl
  all_goals (try rw [not_sur])
  all_goals (try simp only [surB_iff] at *)
  all_goals (try simp only [Bool.false_eq_true, false_iff, true_iff])
  all_goals omega

set_option maxHeartbeats 400000 in
theorem reaches_21 (b : Int) (w : World) (hT : Tab w) (h0 : 0 ≤ b) (h1 : b < 2097152) :
    Calls Tryz.prog 68 #[.int .i64 b, .int .i64 2, .int .i64 1] w fun e w' => e = .returned (.bool (reachB b 2 1)) ∧ ∃ n, w' = w.drewN n := by
  have hl : ∀ w, Tab w → Calls Tryz.prog 93 #[.int .i64 2] w fun e w' => e = .returned (.int .i64 128) ∧ w' = w := fun w h => least_any 2 w h (by omega) (by omega)
  obtain ⟨t0, t1, t2, t3⟩ := hT
  go_enter Tryz.func68, Tryz.ntmps68
  go_wp2_with fail
  go_quiet ((go_at_call 93; exact Calls.quiet_of_same (hl _ ⟨by go_simp, by go_simp, by go_simp, by go_simp⟩)))
  all_goals (go_wp2_with fail)
  all_goals go_quiet (fail)
  all_goals go_wp2_with (go_at_call 94; refine (sur_any _ _).mono ?_; rintro e w' ⟨rfl, rfl⟩)
  all_goals go_ret
  all_goals go_light
  all_goals refine ⟨ret_bool (reachB_mk (lo := 128) (hi := 2047) (p := 64) rfl rfl rfl ?_), _, rfl⟩
  all_goals clear t0 t1 t2 t3 hl
  all_goals (try rw [not_sur])
  all_goals (try simp only [surB_iff] at *)
  all_goals (try simp only [Bool.false_eq_true, false_iff, true_iff])
  all_goals omega

set_option maxHeartbeats 400000 in
theorem reaches_30 (b : Int) (w : World) (hT : Tab w) (h0 : 0 ≤ b) (h1 : b < 2097152) :
    Calls Tryz.prog 68 #[.int .i64 b, .int .i64 3, .int .i64 0] w fun e w' => e = .returned (.bool (reachB b 3 0)) ∧ ∃ n, w' = w.drewN n := by
  have hl : ∀ w, Tab w → Calls Tryz.prog 93 #[.int .i64 3] w fun e w' => e = .returned (.int .i64 2048) ∧ w' = w := fun w h => least_any 3 w h (by omega) (by omega)
  obtain ⟨t0, t1, t2, t3⟩ := hT
  go_enter Tryz.func68, Tryz.ntmps68
  go_wp2_with fail
  go_quiet ((go_at_call 93; exact Calls.quiet_of_same (hl _ ⟨by go_simp, by go_simp, by go_simp, by go_simp⟩)))
  all_goals (go_wp2_with fail)
  all_goals go_quiet (fail)
  all_goals go_wp2_with (go_at_call 94; refine (sur_any _ _).mono ?_; rintro e w' ⟨rfl, rfl⟩)
  all_goals go_ret
  all_goals go_light
  all_goals refine ⟨ret_bool (reachB_mk (lo := 2048) (hi := 65535) (p := 1) rfl rfl rfl ?_), _, rfl⟩
  all_goals clear t0 t1 t2 t3 hl
  all_goals (try rw [not_sur])
  all_goals (try simp only [surB_iff] at *)
  all_goals (try simp only [Bool.false_eq_true, false_iff, true_iff])
  all_goals (try simp only [true_and])
  all_goals omega

set_option maxHeartbeats 400000 in
theorem reaches_31 (b : Int) (w : World) (hT : Tab w) (h0 : 0 ≤ b) (h1 : b < 2097152) :
    Calls Tryz.prog 68 #[.int .i64 b, .int .i64 3, .int .i64 1] w fun e w' => e = .returned (.bool (reachB b 3 1)) ∧ ∃ n, w' = w.drewN n := by
  have hl : ∀ w, Tab w → Calls Tryz.prog 93 #[.int .i64 3] w fun e w' => e = .returned (.int .i64 2048) ∧ w' = w := fun w h => least_any 3 w h (by omega) (by omega)
  obtain ⟨t0, t1, t2, t3⟩ := hT
  go_enter Tryz.func68, Tryz.ntmps68
  go_wp2_with fail
  go_quiet ((go_at_call 93; exact Calls.quiet_of_same (hl _ ⟨by go_simp, by go_simp, by go_simp, by go_simp⟩)))
  all_goals (go_wp2_with fail)
  all_goals go_quiet (fail)
  all_goals go_wp2_with (go_at_call 94; refine (sur_any _ _).mono ?_; rintro e w' ⟨rfl, rfl⟩)
  all_goals go_ret
  all_goals go_light
  all_goals refine ⟨ret_bool (reachB_mk (lo := 2048) (hi := 65535) (p := 64) rfl rfl rfl ?_), _, rfl⟩
  all_goals clear t0 t1 t2 t3 hl
  all_goals (try rw [not_sur])
  all_goals (try simp only [surB_iff] at *)
  all_goals (try simp only [Bool.false_eq_true, false_iff, true_iff])
  all_goals (try simp only [true_and])
  all_goals omega

set_option maxHeartbeats 400000 in
theorem reaches_32 (b : Int) (w : World) (hT : Tab w) (h0 : 0 ≤ b) (h1 : b < 2097152) :
    Calls Tryz.prog 68 #[.int .i64 b, .int .i64 3, .int .i64 2] w fun e w' => e = .returned (.bool (reachB b 3 2)) ∧ ∃ n, w' = w.drewN n := by
  have hl : ∀ w, Tab w → Calls Tryz.prog 93 #[.int .i64 3] w fun e w' => e = .returned (.int .i64 2048) ∧ w' = w := fun w h => least_any 3 w h (by omega) (by omega)
  obtain ⟨t0, t1, t2, t3⟩ := hT
  go_enter Tryz.func68, Tryz.ntmps68
  go_wp2_with fail
  go_quiet ((go_at_call 93; exact Calls.quiet_of_same (hl _ ⟨by go_simp, by go_simp, by go_simp, by go_simp⟩)))
  all_goals (go_wp2_with fail)
  all_goals go_quiet (fail)
  all_goals go_wp2_with (go_at_call 94; refine (sur_any _ _).mono ?_; rintro e w' ⟨rfl, rfl⟩)
  all_goals go_ret
  all_goals go_light
  all_goals refine ⟨ret_bool (reachB_mk (lo := 2048) (hi := 65535) (p := 4096) rfl rfl rfl ?_), _, rfl⟩
  all_goals clear t0 t1 t2 t3 hl
  all_goals (try rw [not_sur])
  all_goals (try simp only [surB_iff] at *)
  all_goals (try simp only [Bool.false_eq_true, false_iff, true_iff])
  all_goals (try simp only [true_and])
  all_goals omega

set_option maxHeartbeats 400000 in
theorem reaches_40 (b : Int) (w : World) (hT : Tab w) (h0 : 0 ≤ b) (h1 : b < 2097152) :
    Calls Tryz.prog 68 #[.int .i64 b, .int .i64 4, .int .i64 0] w fun e w' => e = .returned (.bool (reachB b 4 0)) ∧ ∃ n, w' = w.drewN n := by
  have hl : ∀ w, Tab w → Calls Tryz.prog 93 #[.int .i64 4] w fun e w' => e = .returned (.int .i64 65536) ∧ w' = w := fun w h => least_any 4 w h (by omega) (by omega)
  obtain ⟨t0, t1, t2, t3⟩ := hT
  go_enter Tryz.func68, Tryz.ntmps68
  go_wp2_with fail
  go_quiet ((go_at_call 93; exact Calls.quiet_of_same (hl _ ⟨by go_simp, by go_simp, by go_simp, by go_simp⟩)))
  all_goals (go_wp2_with fail)
  all_goals go_quiet (fail)
  all_goals go_wp2_with (go_at_call 94; refine (sur_any _ _).mono ?_; rintro e w' ⟨rfl, rfl⟩)
  all_goals go_ret
  all_goals go_light
  all_goals refine ⟨ret_bool (reachB_mk (lo := 65536) (hi := 1114111) (p := 1) rfl rfl rfl ?_), _, rfl⟩
  all_goals clear t0 t1 t2 t3 hl
  all_goals (try rw [not_sur])
  all_goals (try simp only [surB_iff] at *)
  all_goals (try simp only [Bool.false_eq_true, false_iff, true_iff])
  all_goals omega

set_option maxHeartbeats 400000 in
theorem reaches_41 (b : Int) (w : World) (hT : Tab w) (h0 : 0 ≤ b) (h1 : b < 2097152) :
    Calls Tryz.prog 68 #[.int .i64 b, .int .i64 4, .int .i64 1] w fun e w' => e = .returned (.bool (reachB b 4 1)) ∧ ∃ n, w' = w.drewN n := by
  have hl : ∀ w, Tab w → Calls Tryz.prog 93 #[.int .i64 4] w fun e w' => e = .returned (.int .i64 65536) ∧ w' = w := fun w h => least_any 4 w h (by omega) (by omega)
  obtain ⟨t0, t1, t2, t3⟩ := hT
  go_enter Tryz.func68, Tryz.ntmps68
  go_wp2_with fail
  go_quiet ((go_at_call 93; exact Calls.quiet_of_same (hl _ ⟨by go_simp, by go_simp, by go_simp, by go_simp⟩)))
  all_goals (go_wp2_with fail)
  all_goals go_quiet (fail)
  all_goals go_wp2_with (go_at_call 94; refine (sur_any _ _).mono ?_; rintro e w' ⟨rfl, rfl⟩)
  all_goals go_ret
  all_goals go_light
  all_goals refine ⟨ret_bool (reachB_mk (lo := 65536) (hi := 1114111) (p := 64) rfl rfl rfl ?_), _, rfl⟩
  all_goals clear t0 t1 t2 t3 hl
  all_goals (try rw [not_sur])
  all_goals (try simp only [surB_iff] at *)
  all_goals (try simp only [Bool.false_eq_true, false_iff, true_iff])
  all_goals omega

set_option maxHeartbeats 400000 in
theorem reaches_42 (b : Int) (w : World) (hT : Tab w) (h0 : 0 ≤ b) (h1 : b < 2097152) :
    Calls Tryz.prog 68 #[.int .i64 b, .int .i64 4, .int .i64 2] w fun e w' => e = .returned (.bool (reachB b 4 2)) ∧ ∃ n, w' = w.drewN n := by
  have hl : ∀ w, Tab w → Calls Tryz.prog 93 #[.int .i64 4] w fun e w' => e = .returned (.int .i64 65536) ∧ w' = w := fun w h => least_any 4 w h (by omega) (by omega)
  obtain ⟨t0, t1, t2, t3⟩ := hT
  go_enter Tryz.func68, Tryz.ntmps68
  go_wp2_with fail
  go_quiet ((go_at_call 93; exact Calls.quiet_of_same (hl _ ⟨by go_simp, by go_simp, by go_simp, by go_simp⟩)))
  all_goals (go_wp2_with fail)
  all_goals go_quiet (fail)
  all_goals go_wp2_with (go_at_call 94; refine (sur_any _ _).mono ?_; rintro e w' ⟨rfl, rfl⟩)
  all_goals go_ret
  all_goals go_light
  all_goals refine ⟨ret_bool (reachB_mk (lo := 65536) (hi := 1114111) (p := 4096) rfl rfl rfl ?_), _, rfl⟩
  all_goals clear t0 t1 t2 t3 hl
  all_goals (try rw [not_sur])
  all_goals (try simp only [surB_iff] at *)
  all_goals (try simp only [Bool.false_eq_true, false_iff, true_iff])
  all_goals omega

set_option maxHeartbeats 400000 in
theorem reaches_43 (b : Int) (w : World) (hT : Tab w) (h0 : 0 ≤ b) (h1 : b < 2097152) :
    Calls Tryz.prog 68 #[.int .i64 b, .int .i64 4, .int .i64 3] w fun e w' => e = .returned (.bool (reachB b 4 3)) ∧ ∃ n, w' = w.drewN n := by
  have hl : ∀ w, Tab w → Calls Tryz.prog 93 #[.int .i64 4] w fun e w' => e = .returned (.int .i64 65536) ∧ w' = w := fun w h => least_any 4 w h (by omega) (by omega)
  obtain ⟨t0, t1, t2, t3⟩ := hT
  go_enter Tryz.func68, Tryz.ntmps68
  go_wp2_with fail
  go_quiet ((go_at_call 93; exact Calls.quiet_of_same (hl _ ⟨by go_simp, by go_simp, by go_simp, by go_simp⟩)))
  all_goals (go_wp2_with fail)
  all_goals go_quiet (fail)
  all_goals go_wp2_with (go_at_call 94; refine (sur_any _ _).mono ?_; rintro e w' ⟨rfl, rfl⟩)
  all_goals go_ret
  all_goals go_light
  all_goals refine ⟨ret_bool (reachB_mk (lo := 65536) (hi := 1114111) (p := 262144) rfl rfl rfl ?_), _, rfl⟩
  all_goals clear t0 t1 t2 t3 hl
  all_goals (try rw [not_sur])
  all_goals (try simp only [surB_iff] at *)
  all_goals (try simp only [Bool.false_eq_true, false_iff, true_iff])
  all_goals omega

/-- utf.reaches at every number of bytes. -/
theorem reaches_any (b n m : Int) (w : World) (hT : Tab w) (h0 : 0 ≤ b) (h1 : b < 2097152) (hn : n ≤ 4) (hm : 0 ≤ m) (hmn : m < n) :
    Calls Tryz.prog 68 #[.int .i64 b, .int .i64 n, .int .i64 m] w fun e w' => e = .returned (.bool (reachB b n m)) ∧ ∃ n, w' = w.drewN n := by
  have hn' : n = 1 ∨ n = 2 ∨ n = 3 ∨ n = 4 := by omega
  have hm' : m = 0 ∨ m = 1 ∨ m = 2 ∨ m = 3 := by omega
  rcases hn' with rfl | rfl | rfl | rfl <;> rcases hm' with rfl | rfl | rfl | rfl
  · exact reaches_10 b w hT h0 h1
  · omega
  · omega
  · omega
  · exact reaches_20 b w hT h0 h1
  · exact reaches_21 b w hT h0 h1
  · omega
  · omega
  · exact reaches_30 b w hT h0 h1
  · exact reaches_31 b w hT h0 h1
  · exact reaches_32 b w hT h0 h1
  · omega
  · exact reaches_40 b w hT h0 h1
  · exact reaches_41 b w hT h0 h1
  · exact reaches_42 b w hT h0 h1
  · exact reaches_43 b w hT h0 h1
end Go.Proofs.YtppilokmgdpnnaaGreatDoor
