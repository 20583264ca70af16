/-
  What the small functions of package utf answer: isSurrogate, least, lead, follows. Conditions: the table of greatest code points holds its four numbers.
-/
import Derived.Test.YtkbkedknoahhgaaDoorProg
import Derived.WalkKit
import Derived.WalkSpells
import Derived.WalkLawsBesides
import Derived.Deep.QuietTactic
import Derived.BigQuiet
import Derived.Laws.BitsAllLaws
namespace Go.Proofs.YtkbkedknoahhgaaDoor
open Go.RowKit

/-- The table of greatest code points, as it lies in memory. -/
structure Tab (w : World) : Prop where
  t0 : w.cell? ⟨1, 0, none⟩ = some (.int .i64 127)
  t1 : w.cell? ⟨1, 1, none⟩ = some (.int .i64 2047)
  t2 : w.cell? ⟨1, 2, none⟩ = some (.int .i64 65535)
  t3 : w.cell? ⟨1, 3, none⟩ = some (.int .i64 1114111)

def surB (p : Int) : Bool := decide (55296 ≤ p) && decide (p ≤ 57343)

set_option maxHeartbeats 400000 in
theorem sur_any (p : Int) (w : World) :
    Calls Tryd.prog 80 #[.int .i64 p] w fun e w' => e = .returned (.bool (surB p)) ∧ w' = w := by
  by_cases h1 : 55296 ≤ p
  · by_cases h2 : p ≤ 57343
    · go_enter Tryd.func80, Tryd.ntmps80
      go_wp2
      go_ret
      exact ⟨by simp [surB, h1, h2], rfl⟩
    · go_enter Tryd.func80, Tryd.ntmps80
      go_wp2
      go_ret
      exact ⟨by simp [surB, h1, h2], rfl⟩
  · go_enter Tryd.func80, Tryd.ntmps80
    go_wp2
    go_ret
    exact ⟨by have : decide (55296 ≤ p) = false := by simpa using h1
              simp [surB, this], rfl⟩

def leastN (n : Int) : Int := if n = 1 then 0 else if n = 2 then 128 else if n = 3 then 2048 else 65536
def greatN (n : Int) : Int := if n = 1 then 127 else if n = 2 then 2047 else if n = 3 then 65535 else 1114111

set_option maxHeartbeats 400000 in
theorem least_any (n : Int) (w : World) (hT : Tab w) (h1 : 1 ≤ n) (h4 : n ≤ 4) :
    Calls Tryd.prog 79 #[.int .i64 n] w fun e w' => e = .returned (.int .i64 (leastN n)) ∧ w' = w := by
  obtain ⟨t0, t1, t2, t3⟩ := hT
  have hn : n = 1 ∨ n = 2 ∨ n = 3 ∨ n = 4 := by omega
  rcases hn with rfl | rfl | rfl | rfl
  all_goals
    go_enter Tryd.func79, Tryd.ntmps79
    go_wp2
    go_ret
    exact ⟨by rfl, rfl⟩

/-- The first byte: how many bytes it announces, and the bits that it gives. -/
def ldN (c : Int) : Int := if c < 128 then 1 else if c < 192 then 0 else if c < 224 then 2 else if c < 240 then 3 else if c < 248 then 4 else 0
def ldB (c : Int) : Int := if c < 128 then c else if c < 192 then 0 else if c < 224 then c % 32 else if c < 240 then c % 16 else if c < 248 then c % 8 else 0

theorem u8mask (c : Int) (m : Nat) (h0 : 0 ≤ c) (h1 : c < 256) (hm : m < 256) : bits .and .u8 c (m : Int) = ((c.toNat &&& m : Nat) : Int) := by
  rw [u8_and c m h0 h1 (by omega) (by omega)]; rfl
theorem u8m31 (c : Int) (h0 : 0 ≤ c) (h1 : c < 256) : bits .and .u8 c 31 = c % 32 := by
  rw [show (31 : Int) = ((31 : Nat) : Int) from rfl, u8mask c 31 h0 h1 (by omega), nat_mask5]; omega
theorem u8m15 (c : Int) (h0 : 0 ≤ c) (h1 : c < 256) : bits .and .u8 c 15 = c % 16 := by
  rw [show (15 : Int) = ((15 : Nat) : Int) from rfl, u8mask c 15 h0 h1 (by omega), nat_mask4]; omega
theorem u8m7 (c : Int) (h0 : 0 ≤ c) (h1 : c < 256) : bits .and .u8 c 7 = c % 8 := by
  rw [show (7 : Int) = ((7 : Nat) : Int) from rfl, u8mask c 7 h0 h1 (by omega), nat_mask3]; omega
theorem u8m63 (c : Int) (h0 : 0 ≤ c) (h1 : c < 256) : bits .and .u8 c 63 = c % 64 := by
  rw [show (63 : Int) = ((63 : Nat) : Int) from rfl, u8mask c 63 h0 h1 (by omega), nat_mask6]; omega

theorem ret2_int {k l : IntKind} {a b c d : Int} (h : a = b) (g : c = d) : Ending.returned (.tuple #[.int k a, .int l c]) = .returned (.tuple #[.int k b, .int l d]) := by rw [h, g]

set_option maxHeartbeats 400000 in
theorem lead_any (c : Int) (w : World) (h0 : 0 ≤ c) (h1 : c < 256) :
    Calls Tryd.prog 65 #[.int .u8 c] w fun e w' => e = .returned (.tuple #[.int .i64 (ldN c), .int .i64 (ldB c)]) ∧ w' = w := by
  go_enter Tryd.func65, Tryd.ntmps65
  go_wp2
  all_goals go_ret2
  all_goals exact ⟨ret2_int (by unfold ldN; split <;> omega) (by unfold ldB; split <;> omega), rfl⟩

def folB (c : Int) : Bool := decide (128 ≤ c) && decide (c ≤ 191)
set_option maxHeartbeats 400000 in
theorem follows_any (c : Int) (w : World) :
    Calls Tryd.prog 67 #[.int .u8 c] w fun e w' => e = .returned (.bool (folB c)) ∧ w' = w := by
  by_cases h1 : 128 ≤ c
  · by_cases h2 : c ≤ 191
    · go_enter Tryd.func67, Tryd.ntmps67
      go_wp2
      go_ret
      exact ⟨by simp [folB, h1, h2], rfl⟩
    · go_enter Tryd.func67, Tryd.ntmps67
      go_wp2
      go_ret
      exact ⟨by simp [folB, h1, h2], rfl⟩
  · go_enter Tryd.func67, Tryd.ntmps67
    go_wp2
    go_ret
    exact ⟨by have : decide (128 ≤ c) = false := by simpa using h1
              simp [folB, this], rfl⟩

def p64 (m : Int) : Int := if m = 0 then 1 else if m = 1 then 64 else if m = 2 then 4096 else 262144
end Go.Proofs.YtkbkedknoahhgaaDoor
