/-
  What utf.Pair, lex.hex, lex.someNotLow, lex.someLow and the test of lex.unit answer. Conditions: the table of greatest code points holds its four numbers.
-/
import Derived.Test.YtngpkgmgjbahgaaDoorV6
import Derived.Test.YtngpkgmgjbahgaaDoorUB3
namespace Go.Proofs.YtngpkgmgjbahgaaDoor
open Go.RowKit
attribute [local go_sem] setCell_drewN alloc_drewN

theorem Tab.below {w w' : World} (h : Tab w) (hb : Below w.heap.size w w') : Tab w' :=
  ⟨by rw [hb.cell (cell_lt h.t0)]; exact h.t0, by rw [hb.cell (cell_lt h.t1)]; exact h.t1, by rw [hb.cell (cell_lt h.t2)]; exact h.t2, by rw [hb.cell (cell_lt h.t3)]; exact h.t3⟩
theorem least4 (w : World) (hT : Tab w) : Calls Tryd.prog 57 #[.int .i64 4] w fun e w' => e = .returned (.int .i64 65536) ∧ w = w' :=
  (least_any 4 w hT (by omega) (by omega)).mono fun e w' h => ⟨h.1, h.2.symm⟩
set_option maxHeartbeats 400000 in
theorem pair_ok (h l : Int) (w : World) (hT : Tab w) (h1 : 55296 ≤ h) (h2 : h ≤ 56319) (h3 : 56320 ≤ l) (h4 : l ≤ 57343) :
    Calls Tryd.prog 52 #[.int .i64 h, .int .i64 l] w fun e w' => e = .returned (.tuple #[.int .i64 (65536 + (h - 55296) * 1024 + (l - 56320)), .int .i64 0]) ∧ w' = w := by
  go_enter Tryd.func52, Tryd.ntmps52
  go_wp2_with (go_at_call 57; refine (least4 _ hT).mono ?_; rintro e w' ⟨rfl, rfl⟩)
  go_ret2
  exact ⟨rfl, rfl⟩

def hexB (c : Int) : Bool := digitB c || (decide (97 ≤ c) && decide (c ≤ 102)) || (decide (65 ≤ c) && decide (c ≤ 70))
def hexV (c : Int) : Int := if digitB c = true then c - 48 else if 97 ≤ c ∧ c ≤ 102 then c - 87 else if 65 ≤ c ∧ c ≤ 70 then c - 55 else 0
theorem hexV_bd (c : Int) : 0 ≤ hexV c ∧ hexV c < 16 := by
  unfold hexV digitB
  split
  · rename_i h; simp at h; omega
  · split
    · omega
    · split <;> omega
theorem isDigit_eq (c : Int) (w : World) : Calls Tryd.prog 13 #[.int .u8 c] w fun r w' => r = .returned (.bool (digitB c)) ∧ w' = w := by
  have h1 := within_any c 48 57 w
  rw [show (decide (48 ≤ c) && decide (c ≤ 57)) = digitB c from rfl] at h1
  generalize digitB c = x at *
  go_enter Tryd.func13, Tryd.ntmps13
  go_wp2_with (go_at_call 19; with_reducible refine h1.mono ?_; rintro r w' ⟨rfl, rfl⟩)
  go_ret
  exact ⟨rfl, rfl⟩
theorem r_hx {a b : Int} {c d : Bool} (h : a = b) (g : c = d) : Ending.returned (.tuple #[.int .i64 a, .bool c]) = .returned (.tuple #[.int .i64 b, .bool d]) := by rw [h, g]

set_option maxHeartbeats 800000 in
theorem hex_any (c : Int) (w : World) (h0 : 0 ≤ c) (h1 : c < 256) :
    Calls Tryd.prog 50 #[.int .u8 c] w fun r w' => r = .returned (.tuple #[.int .i64 (hexV c), .bool (hexB c)]) ∧ w' = w := by
  have d1 := isDigit_eq c w
  have d2 := within_any c 97 102 w
  have d3 := within_any c 65 70 w
  by_cases a : 48 ≤ c ∧ c ≤ 57
  · have e : digitB c = true := by simp [digitB, a]
    have HR : Hid (hexV c = c - 48 ∧ hexB c = true) := by show _ ∧ _; simp [hexV, hexB, e]
    rw [e] at d1
    clear e d2 d3
    obtain ⟨a1, a2⟩ := a
    go_enter Tryd.func50, Tryd.ntmps50
    go_wp2_with (go_at_call 13; refine d1.mono ?_; rintro r w' ⟨rfl, rfl⟩)
    go_ret2
    exact ⟨r_hx HR.out.1.symm HR.out.2.symm, rfl⟩
  · have e : digitB c = false := by simp [digitB]; omega
    rw [e] at d1
    by_cases b : 97 ≤ c ∧ c ≤ 102
    · have HR : Hid (hexV c = c - 97 + 10 ∧ hexB c = true) := by show _ ∧ _; simp [hexV, hexB, e, b]; omega
      have e2 : (decide (97 ≤ c) && decide (c ≤ 102)) = true := by simp [b]
      rw [e2] at d2
      clear e d3 e2 a
      obtain ⟨a1, a2⟩ := b
      go_enter Tryd.func50, Tryd.ntmps50
      go_wp2_with (first | (go_at_call 13; refine d1.mono ?_; rintro r w' ⟨rfl, rfl⟩) | (go_at_call 19; with_reducible refine d2.mono ?_; rintro r w' ⟨rfl, rfl⟩))
      go_ret2
      exact ⟨r_hx HR.out.1.symm HR.out.2.symm, rfl⟩
    · have e2 : (decide (97 ≤ c) && decide (c ≤ 102)) = false := by simp; omega
      rw [e2] at d2
      by_cases g : 65 ≤ c ∧ c ≤ 70
      · have HR : Hid (hexV c = c - 65 + 10 ∧ hexB c = true) := by show _ ∧ _; simp [hexV, hexB, e, b, g]; omega
        have e3 : (decide (65 ≤ c) && decide (c ≤ 70)) = true := by simp [g]
        rw [e3] at d3
        clear e e2 e3 a b
        obtain ⟨a1, a2⟩ := g
        go_enter Tryd.func50, Tryd.ntmps50
        go_wp2_with (first | (go_at_call 13; refine d1.mono ?_; rintro r w' ⟨rfl, rfl⟩) | (go_at_call 19; with_reducible refine d2.mono ?_; rintro r w' ⟨rfl, rfl⟩) | (go_at_call 19; with_reducible refine d3.mono ?_; rintro r w' ⟨rfl, rfl⟩))
        go_ret2
        exact ⟨r_hx HR.out.1.symm HR.out.2.symm, rfl⟩
      · have HR : Hid (hexV c = 0 ∧ hexB c = false) := by
          show _ ∧ _
          have e3 : (decide (65 ≤ c) && decide (c ≤ 70)) = false := by simp; omega
          simp [hexV, hexB, e, b, g, e2, e3]
        have e3 : (decide (65 ≤ c) && decide (c ≤ 70)) = false := by simp; omega
        rw [e3] at d3
        clear e e2 e3 a b g
        go_enter Tryd.func50, Tryd.ntmps50
        go_wp2_with (first | (go_at_call 13; refine d1.mono ?_; rintro r w' ⟨rfl, rfl⟩) | (go_at_call 19; with_reducible refine d2.mono ?_; rintro r w' ⟨rfl, rfl⟩) | (go_at_call 19; with_reducible refine d3.mono ?_; rintro r w' ⟨rfl, rfl⟩))
        go_ret2
        exact ⟨r_hx HR.out.1.symm HR.out.2.symm, rfl⟩

def notLowB (a b : Int) : Bool := decide (a < 56320) || decide (57343 < b)
def lowB (a b : Int) : Bool := decide (a ≤ 57343) && decide (56320 ≤ b)
theorem notLow_any (a b : Int) (w : World) : Calls Tryd.prog 43 #[.int .i64 a, .int .i64 b] w fun r w' => r = .returned (.bool (notLowB a b)) ∧ w' = w := by
  by_cases h : a < 56320
  · have HR : Hid (notLowB a b = true) := by show _ = _; simp [notLowB, h]
    go_enter Tryd.func43, Tryd.ntmps43
    go_wp2
    go_ret
    exact ⟨r_bool HR.out.symm, rfl⟩
  · have HR : Hid (notLowB a b = decide (57343 < b)) := by show _ = _; simp [notLowB, h]
    have hd : decide (a < 56320) = false := decide_eq_false h
    go_enter Tryd.func43, Tryd.ntmps43
    go_wp2
    go_ret
    exact ⟨r_bool HR.out.symm, rfl⟩
theorem low_any (a b : Int) (w : World) : Calls Tryd.prog 51 #[.int .i64 a, .int .i64 b] w fun r w' => r = .returned (.bool (lowB a b)) ∧ w' = w := by
  by_cases h : a ≤ 57343
  · have HR : Hid (lowB a b = decide (56320 ≤ b)) := by show _ = _; simp [lowB, h]
    go_enter Tryd.func51, Tryd.ntmps51
    go_wp2
    go_ret
    exact ⟨r_bool HR.out.symm, rfl⟩
  · have HR : Hid (lowB a b = false) := by show _ = _; simp [lowB, h]
    have hd : decide (a ≤ 57343) = false := decide_eq_false h
    go_enter Tryd.func51, Tryd.ntmps51
    go_wp2
    go_ret
    exact ⟨r_bool HR.out.symm, rfl⟩

theorem or_i64 (x y i : Nat) (X Y : Int) (hX : X = x) (hY : Y = y) (hx : x % 2 ^ i = 0) (hy : y < 2 ^ i) (h : x + y < 4611686018427387904) : bits .or .i64 X Y = X + Y := by
  subst hX hY
  rw [i64_or_nat x y i hx hy h]; omega
end Go.Proofs.YtngpkgmgjbahgaaDoor
