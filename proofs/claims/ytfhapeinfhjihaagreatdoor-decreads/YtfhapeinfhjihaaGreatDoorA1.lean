/-
  Rows of limbs in memory, and what nat.Check, nat.sign, nat.limbAt, nat.trimmed and ref.Same answer. Conditions: none but that the limbs lie there.
-/
import Derived.Test.YtfhapeinfhjihaaGreatDoorProg
import Derived.Test.YtfhapeinfhjihaaGreatDoorM0
import Derived.WalkKit
import Derived.WalkSpells
import Derived.WalkLawsBesides
import Derived.Deep.QuietTactic
import Derived.BigQuiet
import Derived.Laws.BitsAllLaws
namespace Go.Proofs.YtfhapeinfhjihaaGreatDoor
open Go.RowKit

/-- Limbs that lie in memory. -/
structure Lies (w : World) (b off len : Nat) (f : Nat → Int) : Prop where
  cell : ∀ i, i < len → w.cell? ⟨b, off + i, none⟩ = some (.int .u32 (f i))
  lo : ∀ i, 0 ≤ f i
  hi : ∀ i, f i < 4294967296
/-- A slice of limbs as a value. -/
def Row (w : World) (v : Value) (len : Nat) (f : Nat → Int) : Prop :=
  (len = 0 ∧ ∃ a cap, v = .slice a 0 cap ∧ (a = none → cap = 0)) ∨ ∃ b off cap, v = .slice (some ⟨b, off, none⟩) len cap ∧ len ≤ cap ∧ cap ≤ maxLen ∧ Lies w b off len f
theorem cell_lt {w : World} {p : Addr} {v : Value} (h : w.cell? p = some v) : p.block < w.heap.size := World.block_lt_of_cell? w p h
theorem Lies.below {w w' : World} {b off len : Nat} {f : Nat → Int} (h : Lies w b off len f) {B : Nat} (hb : Below B w w') (hB : 0 < len → b < B) : Lies w' b off len f :=
  ⟨fun i hi => by rw [hb.cell (p := ⟨b, off + i, none⟩) (hB (by omega))]; exact h.cell i hi, h.lo, h.hi⟩
theorem Lies.lt {w : World} {b off len : Nat} {f : Nat → Int} (h : Lies w b off len f) (h0 : 0 < len) : b < w.heap.size := cell_lt (h.cell 0 h0)
theorem Row.below {w w' : World} {v : Value} {len : Nat} {f : Nat → Int} (h : Row w v len f) (hb : Below w.heap.size w w') : Row w' v len f := by
  rcases h with h | ⟨b, off, cap, rfl, hc, hm, hL⟩
  · exact .inl h
  · exact .inr ⟨b, off, cap, rfl, hc, hm, hL.below hb (fun h => hL.lt h)⟩
theorem Row.alloc {w : World} {v : Value} {len : Nat} {f : Nat → Int} (h : Row w v len f) (o : Obj) : Row (w.alloc o) v len f := h.below ((Below.refl _ _).alloc (Nat.le_refl _) o)
theorem below_drewN {B : Nat} {a w : World} (h : Below B a w) (n : Nat) : Below B a (w.drewN n) := ⟨h.os, h.tape, h.output, h.size, h.block⟩
theorem Row.drewN {w : World} {v : Value} {len : Nat} {f : Nat → Int} (h : Row w v len f) (n : Nat) : Row (w.drewN n) v len f := h.below (below_drewN (Below.refl _ _) n)
theorem Row.shape {w : World} {v : Value} {len : Nat} {f : Nat → Int} (h : Row w v len f) : ∃ a cap, v = .slice a len cap ∧ len ≤ maxLen := by
  rcases h with ⟨rfl, a, cap, rfl, _⟩ | ⟨b, off, cap, rfl, hc, hm, _⟩
  · exact ⟨a, cap, rfl, by simp [maxLen]⟩
  · exact ⟨_, cap, rfl, by omega⟩
/-- .. where it has limbs. -/
theorem Row.lies {w : World} {v : Value} {len : Nat} {f : Nat → Int} (h : Row w v len f) (h0 : 0 < len) : ∃ b off cap, v = .slice (some ⟨b, off, none⟩) len cap ∧ len ≤ cap ∧ cap ≤ maxLen ∧ Lies w b off len f := by
  rcases h with ⟨rfl, _⟩ | h
  · omega
  · exact h
/-- A number as a value. -/
def Num (w : World) (v : Value) (N : Int) : Prop := ∃ n f, Row w v n f ∧ Can n f ∧ val f n = N
theorem Num.below {w w' : World} {v : Value} {N : Int} (h : Num w v N) (hb : Below w.heap.size w w') : Num w' v N := by
  obtain ⟨n, f, h1, h2, h3⟩ := h
  exact ⟨n, f, h1.below hb, h2, h3⟩
theorem num_nil (w : World) : Num w (.slice none 0 0) 0 := ⟨0, fun _ => 0, .inl ⟨rfl, none, 0, rfl, fun _ => rfl⟩, ⟨fun i hi => absurd hi (by omega), fun h => absurd h (by omega)⟩, rfl⟩
theorem Num.nonneg {w : World} {v : Value} {N : Int} (h : Num w v N) : 0 ≤ N := by
  obtain ⟨n, f, h1, h2, h3⟩ := h
  rw [← h3]; exact val_nonneg h2.1

theorem ret_int {k : IntKind} {a b : Int} (h : a = b) : Ending.returned (.int k a) = .returned (.int k b) := by rw [h]
theorem ret_bool {a b : Bool} (h : a = b) : Ending.returned (.bool a) = .returned (.bool b) := by rw [h]
theorem ret2_int {k l : IntKind} {a b c d : Int} (h : a = b) (g : c = d) : Ending.returned (.tuple #[.int k a, .int l c]) = .returned (.tuple #[.int k b, .int l d]) := by rw [h, g]

set_option maxHeartbeats 400000 in
theorem sign_any (l : Bool) (w : World) : Calls Tryz.prog 123 #[.bool l] w fun e w' => e = .returned (.int .i64 (if l then -1 else 1)) ∧ w = w' := by
  cases l
  · go_enter Tryz.func123, Tryz.ntmps123
    go_wp2
    go_ret
    exact ⟨rfl, rfl⟩
  · go_enter Tryz.func123, Tryz.ntmps123
    go_wp2
    go_ret
    exact ⟨rfl, rfl⟩

/-- A limb, or nought behind the end. -/
def limb (n : Nat) (f : Nat → Int) (i : Nat) : Int := if i < n then f i else 0

set_option maxHeartbeats 400000 in
theorem check_ok (v : Value) (n : Nat) (f : Nat → Int) (w : World) (hR : Row w v n f) (hC : Can n f) :
    Calls Tryz.prog 19 #[v] w fun e w' => e = .returned (.int .i64 0) ∧ w = w' := by
  by_cases h : 0 < n
  · obtain ⟨b, off, cap, rfl, hc, hm, hL⟩ := hR.lies (by omega)
    unfold maxLen at hm
    have c := hL.cell (n - 1) (by omega)
    have z := hC.2 h
    have hz : (f (n - 1) == 0) = false := by simpa using z
    have ez : ((n : Int) - 1).toNat = n - 1 := by omega
    generalize f (n - 1) = x at *
    have hI : (0 : Int) < (n : Int) := by omega
    have HL : Hid (Lies w b off n f) := hL
    have HC : Hid (Limbs n f) := hC.1
    clear hR hL hC z
    go_enter Tryz.func19, Tryz.ntmps19
    go_wp2
    go_loop [19] (fun i => ∃ k : Nat, k ≤ n ∧ i = .int .i64 k) (fun i => n - (intOf i).toNat)
    case atStart => exact ⟨0, Nat.zero_le _, rfl⟩
    case round =>
      obtain ⟨k, hk, rfl⟩ := hrel
      by_cases hlt : k < n
      · have c1 := HL.out.cell k hlt
        have b1 := HC.out k hlt
        have hkI : (k : Int) < (n : Int) := by omega
        generalize f k = y at *
        go_wp2
        go_round
        case rel => exact ⟨k + 1, by omega, by go_num⟩
        case measure => simp [intOf]; omega
      · have e : k = n := by omega
        subst e
        go_wp2
        go_ret
        exact ⟨rfl, rfl⟩
  · obtain ⟨a, cap, rfl, hm⟩ := hR.shape
    have e : n = 0 := by omega
    subst e
    clear hR hC h
    go_enter Tryz.func19, Tryz.ntmps19
    go_wp2
    refine wp_loop_rounds 1 ?_
    rw [rounds_succ]
    go_wp2
    go_ret
    exact ⟨rfl, rfl⟩
end Go.Proofs.YtfhapeinfhjihaaGreatDoor
