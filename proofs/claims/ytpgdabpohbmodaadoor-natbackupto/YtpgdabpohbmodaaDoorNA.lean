/-
  Numbers as limbs: what limbs are worth, and that a number's limbs are known by what they are worth. No condition.
  Rows of limbs in memory, and what nat.Check, nat.sign, nat.limbAt, nat.trimmed and ref.Same answer. Conditions: none but that the limbs lie there.
  What nat.Check answers of limbs that are no number; what nat.checked, nat.trimmed, nat.compared and ref.Same answer. Conditions: none but that the limbs lie there.
  What nat.compared and ref.Same answer. Conditions: the limbs are numbers.
  What nat.upward makes of two numbers' limbs by the function that adds, and by the one that takes off. Conditions: the limbs are below 10^9; the carry lies in a block of its own.
-/
import Derived.Test.YtpgdabpohbmodaaDoorProg
import Derived.WalkKit
import Derived.WalkSpells
import Derived.WalkLawsBesides
import Derived.Deep.QuietTactic
import Derived.BigQuiet
import Derived.Laws.BitsAllLaws
import Derived.Deep.Light
namespace Go.Proofs.YtpgdabpohbmodaaDoor

/-- The worth of the place n. -/
def pw (n : Nat) : Int := 1000000000 ^ n
theorem pw_zero : pw 0 = 1 := rfl
theorem pw_succ (n : Nat) : pw (n + 1) = pw n * 1000000000 := by unfold pw; exact Int.pow_succ _ _
theorem pw_pos (n : Nat) : 1 ≤ pw n := by
  induction n with
  | zero => decide
  | succ n ih => rw [pw_succ]; omega
theorem pw_add (a b : Nat) : pw (a + b) = pw a * pw b := by unfold pw; exact Int.pow_add _ _ _
/-- What the limbs below n are worth. -/
def val (f : Nat → Int) : Nat → Int
  | 0 => 0
  | n + 1 => val f n + f n * pw n
theorem val_zero (f : Nat → Int) : val f 0 = 0 := rfl
theorem val_succ (f : Nat → Int) (n : Nat) : val f (n + 1) = val f n + f n * pw n := rfl
def Limbs (n : Nat) (f : Nat → Int) : Prop := ∀ i, i < n → 0 ≤ f i ∧ f i < 1000000000
/-- Limbs that are a number. -/
def Can (n : Nat) (f : Nat → Int) : Prop := Limbs n f ∧ (0 < n → f (n - 1) ≠ 0)

theorem Limbs.le {n m : Nat} {f : Nat → Int} (h : Limbs n f) (hm : m ≤ n) : Limbs m f := fun i hi => h i (by omega)
theorem val_nonneg {n : Nat} {f : Nat → Int} (h : Limbs n f) : 0 ≤ val f n := by
  induction n with
  | zero => simp [val_zero]
  | succ n ih =>
    have := ih (h.le (by omega))
    have := Int.mul_nonneg (h n (by omega)).1 (show 0 ≤ pw n by have := pw_pos n; omega)
    rw [val_succ]; omega
theorem val_lt {n : Nat} {f : Nat → Int} (h : Limbs n f) : val f n < pw n := by
  induction n with
  | zero => rw [val_zero, pw_zero]; omega
  | succ n ih =>
    have h1 := ih (h.le (by omega))
    have h2 := (h n (by omega)).2
    have h3 : (f n + 1) * pw n ≤ 1000000000 * pw n := Int.mul_le_mul_of_nonneg_right (by omega) (by have := pw_pos n; omega)
    rw [Int.add_mul] at h3
    rw [val_succ, pw_succ]; omega
theorem val_congr {n : Nat} {f g : Nat → Int} (h : ∀ i, i < n → f i = g i) : val f n = val g n := by
  induction n with
  | zero => rfl
  | succ n ih => rw [val_succ, val_succ, ih (fun i hi => h i (by omega)), h n (by omega)]
/-- The highest limb in which two parts decides. -/
theorem val_less {n : Nat} {f g : Nat → Int} (hf : Limbs n f) (hg : Limbs n g) (k : Nat) (hk : k < n) (hlt : f k < g k) (he : ∀ i, k < i → i < n → f i = g i) : val f n < val g n := by
  induction n with
  | zero => omega
  | succ n ih =>
    rw [val_succ, val_succ]
    by_cases e : k = n
    · subst e
      have h1 := val_lt (hf.le (show k ≤ k + 1 by omega))
      have h2 := val_nonneg (hg.le (show k ≤ k + 1 by omega))
      have h3 : (f k + 1) * pw k ≤ g k * pw k := Int.mul_le_mul_of_nonneg_right (by omega) (by have := pw_pos k; omega)
      rw [Int.add_mul] at h3
      omega
    · have := ih (hf.le (by omega)) (hg.le (by omega)) (by omega) (fun i h1 h2 => he i h1 (by omega))
      rw [he n (by omega) (by omega)]
      omega
/-- The highest place in which two rows of limbs part, or none. -/
theorem parts_at (n : Nat) (f g : Nat → Int) : (∀ i, i < n → f i = g i) ∨ ∃ k, k < n ∧ f k ≠ g k ∧ ∀ i, k < i → i < n → f i = g i := by
  induction n with
  | zero => exact .inl (fun i hi => absurd hi (by omega))
  | succ n ih =>
    by_cases e : f n = g n
    · rcases ih with h | ⟨k, h1, h2, h3⟩
      · exact .inl (fun i hi => by
          by_cases z : i = n
          · rw [z]; exact e
          · exact h i (by omega))
      · exact .inr ⟨k, by omega, h2, fun i h4 h5 => by
          by_cases z : i = n
          · rw [z]; exact e
          · exact h3 i h4 (by omega)⟩
    · exact .inr ⟨n, by omega, e, fun i h1 h2 => absurd h1 (by omega)⟩
theorem val_inj {n : Nat} {f g : Nat → Int} (hf : Limbs n f) (hg : Limbs n g) (h : val f n = val g n) : ∀ i, i < n → f i = g i := by
  rcases parts_at n f g with k | ⟨k, h1, h2, h3⟩
  · exact k
  · by_cases z : f k < g k
    · have := val_less hf hg k h1 z h3; omega
    · have := val_less hg hf k h1 (by omega) (fun i a b => (h3 i a b).symm); omega
theorem can_ge {n : Nat} {f : Nat → Int} (h : Can n f) (h0 : 0 < n) : pw (n - 1) ≤ val f n := by
  obtain ⟨m, rfl⟩ : ∃ m, n = m + 1 := ⟨n - 1, by omega⟩
  have h1 := (h.1 m (by omega)).1
  have h2 := h.2 (by omega)
  have h3 := val_nonneg (h.1.le (show m ≤ m + 1 by omega))
  have h4 : 1 * pw m ≤ f m * pw m := Int.mul_le_mul_of_nonneg_right (by simp at h2; omega) (by have := pw_pos m; omega)
  simp only [Nat.add_sub_cancel] at *
  rw [val_succ]; omega
theorem pw_mono {a b : Nat} (h : a ≤ b) : pw a ≤ pw b := by
  obtain ⟨c, rfl⟩ : ∃ c, b = a + c := ⟨b - a, by omega⟩
  induction c with
  | zero => exact Int.le_refl _
  | succ c ih => have := ih (by omega); have := pw_pos (a + c); rw [← Nat.add_assoc, pw_succ]; omega
/-- A longer number is greater. -/
theorem can_less {n m : Nat} {f g : Nat → Int} (hf : Limbs n f) (hg : Can m g) (h : n < m) : val f n < val g m := by
  have h1 := val_lt hf
  have h2 := can_ge hg (by omega)
  have h3 := pw_mono (show n ≤ m - 1 by omega)
  omega
theorem can_len {n m : Nat} {f g : Nat → Int} (hf : Can n f) (hg : Can m g) (h : val f n = val g m) : n = m := by
  by_cases a : n < m
  · have := can_less hf.1 hg a; omega
  · by_cases b : m < n
    · have := can_less hg.1 hf b; omega
    · omega
theorem can_inj {n m : Nat} {f g : Nat → Int} (hf : Can n f) (hg : Can m g) (h : val f n = val g m) : n = m ∧ ∀ i, i < n → f i = g i := by
  have e := can_len hf hg h
  subst e
  exact ⟨rfl, val_inj hf.1 hg.1 h⟩
/-- Noughts at the end count nothing. -/
theorem val_trim {n m : Nat} {f : Nat → Int} (h : m ≤ n) (hz : ∀ i, m ≤ i → i < n → f i = 0) : val f n = val f m := by
  induction n with
  | zero => rw [show m = 0 by omega]
  | succ n ih =>
    by_cases e : m = n + 1
    · rw [e]
    · rw [val_succ, ih (by omega) (fun i a b => hz i a (by omega)), hz n (by omega) (by omega)]; simp
end Go.Proofs.YtpgdabpohbmodaaDoor

namespace Go.Proofs.YtpgdabpohbmodaaDoor
open Go.RowKit

/-- Limbs that lie in memory. -/
structure Lies (w : World) (b off len : Nat) (f : Nat → Int) : Prop where
  cell : ∀ i, i < len → w.cell? ⟨b, off + i, none⟩ = some (.int .u32 (f i))
  lo : ∀ i, 0 ≤ f i
  hi : ∀ i, f i < 4294967296
/-- A slice of limbs as a value. -/
def Row (w : World) (v : Value) (len : Nat) (f : Nat → Int) : Prop :=
  (len = 0 ∧ ∃ a cap, v = .slice a 0 cap ∧ (a = none → cap = 0)) ∨ ∃ b off cap, v = .slice (some ⟨b, off, none⟩) len cap ∧ len ≤ cap ∧ cap ≤ maxLen ∧ Lies w b off len f
theorem cell_lt {w : World} {p : Addr} {v : Value} (h : w.cell? p = some v) : p.block < w.heap.size := World.block_lt_of_cell? w p h
theorem Lies.below {w w' : World} {b off len : Nat} {f : Nat → Int} (h : Lies w b off len f) {B : Nat} (hb : Below B w w') (hB : 0 < len → b < B) : Lies w' b off len f :=
  ⟨fun i hi => by rw [hb.cell (p := ⟨b, off + i, none⟩) (hB (by omega))]; exact h.cell i hi, h.lo, h.hi⟩
theorem Lies.lt {w : World} {b off len : Nat} {f : Nat → Int} (h : Lies w b off len f) (h0 : 0 < len) : b < w.heap.size := cell_lt (h.cell 0 h0)
theorem Row.below {w w' : World} {v : Value} {len : Nat} {f : Nat → Int} (h : Row w v len f) (hb : Below w.heap.size w w') : Row w' v len f := by
  rcases h with h | ⟨b, off, cap, rfl, hc, hm, hL⟩
  · exact .inl h
  · exact .inr ⟨b, off, cap, rfl, hc, hm, hL.below hb (fun h => hL.lt h)⟩
theorem Row.alloc {w : World} {v : Value} {len : Nat} {f : Nat → Int} (h : Row w v len f) (o : Obj) : Row (w.alloc o) v len f := h.below ((Below.refl _ _).alloc (Nat.le_refl _) o)
theorem below_drewN {B : Nat} {a w : World} (h : Below B a w) (n : Nat) : Below B a (w.drewN n) := ⟨h.os, h.tape, h.output, h.size, h.block⟩
theorem Row.drewN {w : World} {v : Value} {len : Nat} {f : Nat → Int} (h : Row w v len f) (n : Nat) : Row (w.drewN n) v len f := h.below (below_drewN (Below.refl _ _) n)
theorem Row.shape {w : World} {v : Value} {len : Nat} {f : Nat → Int} (h : Row w v len f) : ∃ a cap, v = .slice a len cap ∧ len ≤ maxLen := by
  rcases h with ⟨rfl, a, cap, rfl, _⟩ | ⟨b, off, cap, rfl, hc, hm, _⟩
  · exact ⟨a, cap, rfl, by simp [maxLen]⟩
  · exact ⟨_, cap, rfl, by omega⟩
/-- .. where it has limbs. -/
theorem Row.lies {w : World} {v : Value} {len : Nat} {f : Nat → Int} (h : Row w v len f) (h0 : 0 < len) : ∃ b off cap, v = .slice (some ⟨b, off, none⟩) len cap ∧ len ≤ cap ∧ cap ≤ maxLen ∧ Lies w b off len f := by
  rcases h with ⟨rfl, _⟩ | h
  · omega
  · exact h
/-- A number as a value. -/
def Num (w : World) (v : Value) (N : Int) : Prop := ∃ n f, Row w v n f ∧ Can n f ∧ val f n = N
theorem Num.below {w w' : World} {v : Value} {N : Int} (h : Num w v N) (hb : Below w.heap.size w w') : Num w' v N := by
  obtain ⟨n, f, h1, h2, h3⟩ := h
  exact ⟨n, f, h1.below hb, h2, h3⟩
theorem num_nil (w : World) : Num w (.slice none 0 0) 0 := ⟨0, fun _ => 0, .inl ⟨rfl, none, 0, rfl, fun _ => rfl⟩, ⟨fun i hi => absurd hi (by omega), fun h => absurd h (by omega)⟩, rfl⟩
theorem Num.nonneg {w : World} {v : Value} {N : Int} (h : Num w v N) : 0 ≤ N := by
  obtain ⟨n, f, h1, h2, h3⟩ := h
  rw [← h3]; exact val_nonneg h2.1

theorem ret_int {k : IntKind} {a b : Int} (h : a = b) : Ending.returned (.int k a) = .returned (.int k b) := by rw [h]
theorem ret_bool {a b : Bool} (h : a = b) : Ending.returned (.bool a) = .returned (.bool b) := by rw [h]
theorem ret2_int {k l : IntKind} {a b c d : Int} (h : a = b) (g : c = d) : Ending.returned (.tuple #[.int k a, .int l c]) = .returned (.tuple #[.int k b, .int l d]) := by rw [h, g]

set_option maxHeartbeats 400000 in
theorem sign_any (l : Bool) (w : World) : Calls Tryd.prog 50 #[.bool l] w fun e w' => e = .returned (.int .i64 (if l then -1 else 1)) ∧ w = w' := by
  cases l
  · go_enter Tryd.func50, Tryd.ntmps50
    go_wp2
    go_ret
    exact ⟨rfl, rfl⟩
  · go_enter Tryd.func50, Tryd.ntmps50
    go_wp2
    go_ret
    exact ⟨rfl, rfl⟩

/-- A limb, or nought behind the end. -/
def limb (n : Nat) (f : Nat → Int) (i : Nat) : Int := if i < n then f i else 0

set_option maxHeartbeats 400000 in
theorem limbAt_any (v : Value) (n : Nat) (f : Nat → Int) (i : Nat) (w : World) (hR : Row w v n f) (hi : i ≤ maxLen) :
    Calls Tryd.prog 54 #[v, .int .i64 i] w fun e w' => e = .returned (.int .u64 (limb n f i)) ∧ w = w' := by
  unfold maxLen at hi
  by_cases h : i < n
  · obtain ⟨b, off, cap, rfl, hc, hm, hL⟩ := hR.lies (by omega)
    unfold maxLen at hm
    have c := hL.cell i h
    have l := hL.lo i
    have u := hL.hi i
    have e : limb n f i = f i := by simp [limb, h]
    have hI : (i : Int) < (n : Int) := by omega
    rw [e]
    generalize f i = x at *
    clear hR hL e
    go_enter Tryd.func54, Tryd.ntmps54
    go_wp2
    go_ret
    exact ⟨rfl, rfl⟩
  · obtain ⟨a, cap, rfl, hm⟩ := hR.shape
    unfold maxLen at hm
    have e : limb n f i = 0 := by simp [limb, h]
    have hI : ¬ (i : Int) < (n : Int) := by omega
    rw [e]
    clear hR
    go_enter Tryd.func54, Tryd.ntmps54
    go_wp2
    go_ret
    exact ⟨rfl, rfl⟩

set_option maxHeartbeats 400000 in
theorem check_ok (v : Value) (n : Nat) (f : Nat → Int) (w : World) (hR : Row w v n f) (hC : Can n f) :
    Calls Tryd.prog 10 #[v] w fun e w' => e = .returned (.int .i64 0) ∧ w = w' := by
  by_cases h : 0 < n
  · obtain ⟨b, off, cap, rfl, hc, hm, hL⟩ := hR.lies (by omega)
    unfold maxLen at hm
    have c := hL.cell (n - 1) (by omega)
    have z := hC.2 h
    have hz : (f (n - 1) == 0) = false := by simpa using z
    have ez : ((n : Int) - 1).toNat = n - 1 := by omega
    generalize f (n - 1) = x at *
    have hI : (0 : Int) < (n : Int) := by omega
    have HL : Hid (Lies w b off n f) := hL
    have HC : Hid (Limbs n f) := hC.1
    clear hR hL hC z
    go_enter Tryd.func10, Tryd.ntmps10
    go_wp2
    go_loop [19] (fun i => ∃ k : Nat, k ≤ n ∧ i = .int .i64 k) (fun i => n - (intOf i).toNat)
    case atStart => exact ⟨0, Nat.zero_le _, rfl⟩
    case round =>
      obtain ⟨k, hk, rfl⟩ := hrel
      by_cases hlt : k < n
      · have c1 := HL.out.cell k hlt
        have b1 := HC.out k hlt
        have hkI : (k : Int) < (n : Int) := by omega
        generalize f k = y at *
        go_wp2
        go_round
        case rel => exact ⟨k + 1, by omega, by go_num⟩
        case measure => simp [intOf]; omega
      · have e : k = n := by omega
        subst e
        go_wp2
        go_ret
        exact ⟨rfl, rfl⟩
  · obtain ⟨a, cap, rfl, hm⟩ := hR.shape
    have e : n = 0 := by omega
    subst e
    clear hR hC h
    go_enter Tryd.func10, Tryd.ntmps10
    go_wp2
    refine wp_loop_rounds 1 ?_
    rw [rounds_succ]
    go_wp2
    go_ret
    exact ⟨rfl, rfl⟩
end Go.Proofs.YtpgdabpohbmodaaDoor

namespace Go.Proofs.YtpgdabpohbmodaaDoor
open Go.RowKit

set_option maxHeartbeats 400000 in
theorem check_bad (v : Value) (n : Nat) (f : Nat → Int) (w : World) (hR : Row w v n f) (hC : ¬ Can n f) :
    Calls Tryd.prog 10 #[v] w fun e w' => e = .returned (.int .i64 2) ∧ w = w' := by
  have h : 0 < n := by
    by_cases h : 0 < n
    · exact h
    · exact absurd ⟨fun i hi => absurd hi (by omega), fun h' => absurd h' h⟩ hC
  obtain ⟨b, off, cap, rfl, hc, hm, hL⟩ := hR.lies (by omega)
  unfold maxLen at hm
  have c := hL.cell (n - 1) (by omega)
  have ez : ((n : Int) - 1).toNat = n - 1 := by omega
  have hI : (0 : Int) < (n : Int) := by omega
  by_cases z : f (n - 1) = 0
  · rw [z] at c
    clear hR hL hC z
    go_enter Tryd.func10, Tryd.ntmps10
    go_wp2
    go_ret
    exact ⟨rfl, rfl⟩
  · have hz : (f (n - 1) == 0) = false := by simpa using z
    have hN : ¬ Limbs n f := fun k => hC ⟨k, fun _ => z⟩
    generalize f (n - 1) = x at *
    have HL : Hid (Lies w b off n f) := hL
    have HC : Hid (¬ Limbs n f) := hN
    clear hR hL hC z hN
    go_enter Tryd.func10, Tryd.ntmps10
    go_wp2
    go_loop [19] (fun i => ∃ k : Nat, k ≤ n ∧ i = .int .i64 k ∧ Hid (Limbs k f)) (fun i => n - (intOf i).toNat)
    case atStart => exact ⟨0, Nat.zero_le _, rfl, fun i hi => absurd hi (by omega)⟩
    case round =>
      obtain ⟨k, hk, rfl, HK⟩ := hrel
      by_cases hlt : k < n
      · have c1 := HL.out.cell k hlt
        have l1 := HL.out.lo k
        have hkI : (k : Int) < (n : Int) := by omega
        by_cases b1 : f k < 1000000000
        · have HK2 : Hid (Limbs (k + 1) f) := fun i hi => by
            by_cases e : i = k
            · rw [e]; exact ⟨l1, b1⟩
            · exact HK.out i (by omega)
          generalize f k = y at *
          go_wp2
          go_round
          case rel => exact ⟨k + 1, by omega, by go_num, HK2⟩
          case measure => simp [intOf]; omega
        · generalize f k = y at *
          go_wp2
          go_ret
          exact ⟨rfl, rfl⟩
      · have e : k = n := by omega
        subst e
        exact absurd HK.out HC.out

set_option maxHeartbeats 400000 in
theorem checked_ok (v0 v1 : Value) (n m b : Nat) (f g : Nat → Int) (w : World) (c0 : w.cell? ⟨b, 0, none⟩ = some v0) (c1 : w.cell? ⟨b, 1, none⟩ = some v1) (h0 : Row w v0 n f) (h1 : Row w v1 m g) (k0 : Can n f) (k1 : Can m g) :
    Calls Tryd.prog 25 #[.slice (some ⟨b, 0, none⟩) 2 2] w fun e w' => e = .returned (.int .i64 0) ∧ w = w' := by
  have p0 := check_ok v0 n f w h0 k0
  have p1 := check_ok v1 m g w h1 k1
  obtain ⟨a, cap, rfl, _⟩ := h0.shape
  obtain ⟨a', cap', rfl, _⟩ := h1.shape
  clear h0 h1
  go_enter Tryd.func25, Tryd.ntmps25
  go_wp2
  refine wp_loop_rounds 3 ?_
  rw [rounds_succ]
  go_wp2_with fail
  refine p0.mono ?_
  rintro e w' ⟨rfl, rfl⟩
  go_wp2
  rw [rounds_succ]
  go_wp2_with fail
  refine p1.mono ?_
  rintro e w' ⟨rfl, rfl⟩
  go_wp2
  rw [rounds_succ]
  go_wp2
  go_ret
  exact ⟨rfl, rfl⟩

set_option maxHeartbeats 400000 in
theorem checked_bad (v0 v1 : Value) (n m b : Nat) (f g : Nat → Int) (w : World) (c0 : w.cell? ⟨b, 0, none⟩ = some v0) (c1 : w.cell? ⟨b, 1, none⟩ = some v1) (h0 : Row w v0 n f) (h1 : Row w v1 m g) (k : ¬ (Can n f ∧ Can m g)) :
    Calls Tryd.prog 25 #[.slice (some ⟨b, 0, none⟩) 2 2] w fun e w' => e = .returned (.int .i64 2) ∧ w = w' := by
  by_cases k0 : Can n f
  · have p0 := check_ok v0 n f w h0 k0
    have p1 := check_bad v1 m g w h1 (fun k1 => k ⟨k0, k1⟩)
    obtain ⟨a, cap, rfl, _⟩ := h0.shape
    obtain ⟨a', cap', rfl, _⟩ := h1.shape
    clear h0 h1 k k0
    go_enter Tryd.func25, Tryd.ntmps25
    go_wp2
    refine wp_loop_rounds 3 ?_
    rw [rounds_succ]
    go_wp2_with fail
    refine p0.mono ?_
    rintro e w' ⟨rfl, rfl⟩
    go_wp2
    rw [rounds_succ]
    go_wp2_with fail
    refine p1.mono ?_
    rintro e w' ⟨rfl, rfl⟩
    go_wp2
    go_ret
    exact ⟨rfl, rfl⟩
  · have p0 := check_bad v0 n f w h0 k0
    obtain ⟨a, cap, rfl, _⟩ := h0.shape
    clear h0 h1 k k0
    go_enter Tryd.func25, Tryd.ntmps25
    go_wp2
    refine wp_loop_rounds 3 ?_
    rw [rounds_succ]
    go_wp2_with fail
    refine p0.mono ?_
    rintro e w' ⟨rfl, rfl⟩
    go_wp2
    go_ret
    exact ⟨rfl, rfl⟩

/-- What nat.trimmed leaves: the limbs up to the last that is not nought. -/
def Trims (n : Nat) (f : Nat → Int) (m : Nat) : Prop := m ≤ n ∧ (∀ i, m ≤ i → i < n → f i = 0) ∧ (0 < m → f (m - 1) ≠ 0)

set_option maxHeartbeats 400000 in
theorem trimmed_any (v : Value) (n : Nat) (f : Nat → Int) (w : World) (hR : Row w v n f) :
    Calls Tryd.prog 15 #[v] w fun e w' => ∃ r, e = .returned r ∧ (∃ m, Row w r m f ∧ Trims n f m) ∧ w = w' := by
  by_cases h : 0 < n
  · obtain ⟨b, off, cap, rfl, hc, hm, hL⟩ := hR.lies (by omega)
    have hm' := hm
    unfold maxLen at hm
    have HL : Hid (Lies w b off n f) := hL
    clear hR hL
    go_enter Tryd.func15, Tryd.ntmps15
    go_wp2
    go_loop [3] (fun t => ∃ m : Nat, m ≤ n ∧ t = .int .i64 m ∧ Hid (∀ i, m ≤ i → i < n → f i = 0)) (fun t => (intOf t).toNat)
    case atStart => exact ⟨n, Nat.le_refl _, rfl, fun i h1 h2 => absurd h1 (by omega)⟩
    case round =>
      obtain ⟨m, hk, rfl, HZ⟩ := hrel
      by_cases hlt : 0 < m
      · have c1 := HL.out.cell (m - 1) (by omega)
        have ez : ((m : Int) - 1).toNat = m - 1 := by omega
        have hI : (0 : Int) < (m : Int) := by omega
        by_cases z : f (m - 1) = 0
        · have HZ2 : Hid (∀ i, m - 1 ≤ i → i < n → f i = 0) := fun i h1 h2 => by
            by_cases e : i = m - 1
            · rw [e]; exact z
            · exact HZ.out i (by omega) h2
          rw [z] at c1
          clear z HZ
          go_wp2
          go_round
          case rel => exact ⟨m - 1, by omega, by go_num, HZ2⟩
          case measure => simp [intOf]; omega
        · have HT : Hid (Trims n f m) := ⟨hk, HZ.out, fun _ => z⟩
          have hz : (f (m - 1) == 0) = false := by simpa using z
          generalize f (m - 1) = y at *
          clear HZ z
          go_wp2
          go_ret
          exact ⟨_, rfl, ⟨m, .inr ⟨b, off, m, rfl, Nat.le_refl _, by omega, ⟨fun i hi => HL.out.cell i (by omega), HL.out.lo, HL.out.hi⟩⟩, HT.out⟩, rfl⟩
      · have e : m = 0 := by omega
        subst e
        have HT : Hid (Trims n f 0) := ⟨hk, HZ.out, fun h => absurd h (by omega)⟩
        clear HZ hlt
        go_wp2
        go_ret
        exact ⟨_, rfl, ⟨0, .inl ⟨rfl, _, 0, rfl, fun _ => rfl⟩, HT.out⟩, rfl⟩
  · obtain ⟨a, cap, rfl, hm⟩ := hR.shape
    have e : n = 0 := by omega
    subst e
    clear hR h
    go_enter Tryd.func15, Tryd.ntmps15
    go_wp2
    refine wp_loop_rounds 1 ?_
    rw [rounds_succ]
    go_wp2
    go_ret
    exact ⟨_, rfl, ⟨0, .inl ⟨rfl, _, 0, rfl, fun _ => rfl⟩, ⟨Nat.le_refl _, fun i _ h => absurd h (by omega), fun h => absurd h (by omega)⟩⟩, rfl⟩
theorem Trims.can {n m : Nat} {f : Nat → Int} (h : Trims n f m) (hl : Limbs n f) : Can m f ∧ val f m = val f n :=
  ⟨⟨hl.le h.1, h.2.2⟩, (val_trim h.1 h.2.1).symm⟩
end Go.Proofs.YtpgdabpohbmodaaDoor

namespace Go.Proofs.YtpgdabpohbmodaaDoor
open Go.RowKit

/-- How two numbers stand. -/
def cmpI (a b : Int) : Int := if a < b then -1 else if a = b then 0 else 1

set_option maxHeartbeats 400000 in
theorem compared_len (v0 v1 : Value) (n m : Nat) (f g : Nat → Int) (w : World) (h0 : Row w v0 n f) (h1 : Row w v1 m g) (hne : n ≠ m) :
    Calls Tryd.prog 36 #[v0, v1] w fun e w' => e = .returned (.int .i64 (if decide (n < m) then -1 else 1)) ∧ w = w' := by
  obtain ⟨a, cap, rfl, m1⟩ := h0.shape
  obtain ⟨a', cap', rfl, m2⟩ := h1.shape
  unfold maxLen at m1 m2
  have hb0 : ((n : Int) == (m : Int)) = false := by simp; omega
  have hb : ((n : Int) != (m : Int)) = true := by simp only [bne, hb0]; rfl
  have hs := sign_any (decide (n < m)) w
  obtain ⟨s, hsd⟩ : ∃ s : Int, (if decide (n < m) = true then (-1 : Int) else 1) = s := ⟨_, rfl⟩
  rw [hsd] at hs ⊢
  clear h0 h1 hsd
  go_enter Tryd.func36, Tryd.ntmps36
  go_wp2_with fail
  refine hs.mono ?_
  rintro e w' ⟨rfl, rfl⟩
  go_wp2
  go_ret
  exact ⟨rfl, rfl⟩

set_option maxHeartbeats 400000 in
theorem compared_same (v0 v1 : Value) (n : Nat) (f g : Nat → Int) (w : World) (h0 : Row w v0 n f) (h1 : Row w v1 n g) (hf : Limbs n f) (hg : Limbs n g) :
    Calls Tryd.prog 36 #[v0, v1] w fun e w' => e = .returned (.int .i64 (cmpI (val f n) (val g n))) ∧ ∃ q, w' = w.drewN q := by
  by_cases h : 0 < n
  · obtain ⟨b, off, cap, rfl, hc, hm, hL⟩ := h0.lies h
    obtain ⟨b', off', cap', rfl, hc', hm', hL'⟩ := h1.lies h
    unfold maxLen at hm hm'
    have HL : Hid (Lies w b off n f) := hL
    have HL' : Hid (Lies w b' off' n g) := hL'
    have HF : Hid (Limbs n f) := hf
    have HG : Hid (Limbs n g) := hg
    have hs := sign_any
    clear h0 h1 hL hL' hf hg
    go_enter Tryd.func36, Tryd.ntmps36
    go_wp2
    go_loopw [5] (fun i wr => ∃ k : Nat, k ≤ n ∧ i = .int .i64 ((k : Int) - 1) ∧ Hid (∀ j, k ≤ j → j < n → f j = g j) ∧ ∃ q, wr = w.drewN q) (fun i _ => ((intOf i) + 1).toNat)
    case atStart => exact ⟨n, Nat.le_refl _, rfl, fun j h1 h2 => absurd h1 (by omega), 0, rfl⟩
    case round =>
      obtain ⟨k, hk, rfl, HE, q, rfl⟩ := hrel
      by_cases hlt : 0 < k
      · have c1 := HL.out.cell (k - 1) (by omega)
        have c2 := HL'.out.cell (k - 1) (by omega)
        have ez : ((k : Int) - 1).toNat = k - 1 := by omega
        have i0 : 0 ≤ (k : Int) - 1 := by omega
        have i1 : (k : Int) - 1 < (n : Int) := by omega
        by_cases e : f (k - 1) = g (k - 1)
        · have HE2 : Hid (∀ j, k - 1 ≤ j → j < n → f j = g j) := fun j h1 h2 => by
            by_cases e1 : j = k - 1
            · rw [e1]; exact e
            · exact HE.out j (by omega) h2
          rw [← e] at c2
          generalize f (k - 1) = y at *
          clear e HE
          go_wp2_with fail
          go_quiet (fail)
          go_wp2
          go_roundw
          case rel => exact ⟨k - 1, by omega, by go_num, HE2, _, rfl⟩
          case measure => simp [intOf]; omega
        · have HV : Hid (cmpI (val f n) (val g n) = if decide (f (k - 1) < g (k - 1)) = true then -1 else 1) := by
            have hE : ∀ i, k - 1 < i → i < n → f i = g i := fun i h1 h2 => HE.out i (by omega) h2
            show cmpI (val f n) (val g n) = _
            by_cases l : f (k - 1) < g (k - 1)
            · have := val_less HF.out HG.out (k - 1) (by omega) l hE
              simp [cmpI, this, l]
            · have := val_less HG.out HF.out (k - 1) (by omega) (by omega) (fun i a b => (hE i a b).symm)
              simp [cmpI, l, show ¬ val f n < val g n by omega, show ¬ val f n = val g n by omega]
          have hne : (f (k - 1) == g (k - 1)) = false := by simpa using e
          obtain ⟨d, hd⟩ : ∃ d, decide (f (k - 1) < g (k - 1)) = d := ⟨_, rfl⟩
          obtain ⟨s, hsd⟩ : ∃ s : Int, (if d = true then -1 else 1) = s := ⟨_, rfl⟩
          rw [hd, hsd] at HV
          generalize f (k - 1) = x at *
          generalize g (k - 1) = y at *
          clear e HE
          go_wp2_with fail
          go_quiet (fail)
          go_wp2_with fail
          have hq : ∀ w, Calls Tryd.prog 50 #[.bool d] w fun e w' => e = .returned (.int .i64 s) ∧ w' = w := fun w => (hs d w).mono fun e w' h => ⟨h.1.trans (ret_int hsd), h.2.symm⟩
          clear hs hsd
          go_quiet ((go_at_call 50; exact (hq _).mono fun e w' h => ⟨h.1, _, h.2⟩))
          all_goals go_wp2
          all_goals go_ret
          all_goals exact ⟨ret_int HV.out.symm, _, by rw [World.drewN_drewN, World.drewN_drewN]⟩
      · have e : k = 0 := by omega
        subst e
        have HV : Hid (cmpI (val f n) (val g n) = 0) := by
          have := val_congr (fun i hi => HE.out i (by omega) hi)
          show cmpI (val f n) (val g n) = 0
          rw [this]; simp [cmpI]
        clear HE
        go_wp2
        go_ret
        exact ⟨ret_int HV.out.symm, _, rfl⟩
  · obtain ⟨a, cap, rfl, hm⟩ := h0.shape
    obtain ⟨a', cap', rfl, hm'⟩ := h1.shape
    have e : n = 0 := by omega
    subst e
    clear h0 h1 h hf hg
    go_enter Tryd.func36, Tryd.ntmps36
    go_wp2
    refine wp_loop_rounds 1 ?_
    rw [rounds_succ]
    go_wp2
    go_ret
    exact ⟨rfl, 0, rfl⟩

theorem compared_any (v0 v1 : Value) (n m : Nat) (f g : Nat → Int) (w : World) (h0 : Row w v0 n f) (h1 : Row w v1 m g) (hf : Can n f) (hg : Can m g) :
    Calls Tryd.prog 36 #[v0, v1] w fun e w' => e = .returned (.int .i64 (cmpI (val f n) (val g m))) ∧ ∃ q, w' = w.drewN q := by
  by_cases h : n = m
  · subst h
    exact compared_same v0 v1 n f g w h0 h1 hf.1 hg.1
  · refine (compared_len v0 v1 n m f g w h0 h1 h).mono ?_
    rintro e w' ⟨rfl, rfl⟩
    refine ⟨ret_int ?_, 0, rfl⟩
    by_cases l : n < m
    · have := can_less hf.1 hg l
      simp [cmpI, this, l]
    · have := can_less hg.1 hf (by omega)
      simp [cmpI, l, show ¬ val f n < val g m by omega, show ¬ val f n = val g m by omega]

set_option maxHeartbeats 400000 in
theorem same_any (v0 v1 : Value) (n : Nat) (f g : Nat → Int) (w : World) (h0 : Row w v0 n f) (h1 : Row w v1 n g) (he : ∀ i, i < n → f i = g i) :
    Calls Tryd.prog 9 #[v0, v1] w fun e w' => e = .returned (.bool true) ∧ ∃ q, w' = w.drewN q := by
  by_cases h : 0 < n
  · obtain ⟨b, off, cap, rfl, hc, hm, hL⟩ := h0.lies h
    obtain ⟨b', off', cap', rfl, hc', hm', hL'⟩ := h1.lies h
    unfold maxLen at hm hm'
    have HL : Hid (Lies w b off n f) := hL
    have HL' : Hid (Lies w b' off' n g) := hL'
    have HE : Hid (∀ i, i < n → f i = g i) := he
    clear h0 h1 hL hL' he
    go_enter Tryd.func9, Tryd.ntmps9
    go_wp2
    go_loopw [5] (fun i wr => ∃ k : Nat, k ≤ n ∧ i = .int .i64 k ∧ ∃ q, wr = w.drewN q) (fun i _ => n - (intOf i).toNat)
    case atStart => exact ⟨0, Nat.zero_le _, rfl, 0, rfl⟩
    case round =>
      obtain ⟨k, hk, rfl, q, rfl⟩ := hrel
      by_cases hlt : k < n
      · have c1 := HL.out.cell k hlt
        have c2 := HL'.out.cell k hlt
        rw [← HE.out k hlt] at c2
        have hI : (k : Int) < (n : Int) := by omega
        generalize f k = x at *
        go_wp2_with fail
        go_quiet (fail)
        go_wp2
        go_roundw
        case rel => exact ⟨k + 1, by omega, by go_num, _, rfl⟩
        case measure => simp [intOf]; omega
      · have e : k = n := by omega
        subst e
        go_wp2
        go_ret
        exact ⟨rfl, _, rfl⟩
  · obtain ⟨a, cap, rfl, hm⟩ := h0.shape
    obtain ⟨a', cap', rfl, hm'⟩ := h1.shape
    have e : n = 0 := by omega
    subst e
    clear h0 h1 h he
    go_enter Tryd.func9, Tryd.ntmps9
    go_wp2
    refine wp_loop_rounds 1 ?_
    rw [rounds_succ]
    go_wp2
    go_ret
    exact ⟨rfl, 0, rfl⟩

/-- ref.Same answers true of the same number. -/
theorem same_num (v0 v1 : Value) (N : Int) (w : World) (h0 : Num w v0 N) (h1 : Num w v1 N) :
    Calls Tryd.prog 9 #[v0, v1] w fun e w' => e = .returned (.bool true) ∧ Below w.heap.size w w' := by
  obtain ⟨n, f, r0, c0, e0⟩ := h0
  obtain ⟨m, g, r1, c1, e1⟩ := h1
  obtain ⟨rfl, he⟩ := can_inj c0 c1 (by rw [e0, e1])
  refine (same_any v0 v1 n f g w r0 r1 he).mono ?_
  rintro e w' ⟨rfl, q, rfl⟩
  exact ⟨rfl, below_drewN (Below.refl _ _) q⟩
end Go.Proofs.YtpgdabpohbmodaaDoor

namespace Go.Proofs.YtpgdabpohbmodaaDoor
open Go.RowKit

theorem info46 : (Tryd.prog.info? 39).map (fun i => (i.zero, i.size, i.bytes)) = some (some (.int .u32 0), 1, 4) := by kernel_rfl
/-- Limbs as values. -/
def vals (n : Nat) (f : Nat → Int) : List Value := (List.range n).map fun i => .int .u32 (f i)
theorem vals_length (n : Nat) (f : Nat → Int) : (vals n f).length = n := by simp [vals]
theorem vals_get (n : Nat) (f : Nat → Int) (i : Nat) (h : i < n) : (vals n f)[i]? = some (.int .u32 (f i)) := by simp [vals, h]
theorem vals_congr {n : Nat} {f g : Nat → Int} (h : ∀ i, i < n → f i = g i) : vals n f = vals n g := by
  apply List.ext_getElem?
  intro j
  by_cases hj : j < n
  · rw [vals_get n f j hj, vals_get n g j hj, h j hj]
  · rw [List.getElem?_eq_none (by rw [vals_length]; omega), List.getElem?_eq_none (by rw [vals_length]; omega)]
def upd (f : Nat → Int) (k : Nat) (x : Int) : Nat → Int := fun i => if i = k then x else f i
theorem vals_set (n : Nat) (f : Nat → Int) (k : Nat) (x : Int) : (vals n f).set k (.int .u32 x) = vals n (upd f k x) := by
  apply List.ext_getElem?
  intro j
  rw [List.getElem?_set]
  by_cases hj : j < n
  · rw [vals_get n (upd f k x) j hj]
    by_cases e : k = j
    · subst e; simp [upd, vals_length, hj]
    · rw [if_neg e, vals_get n f j hj]; simp [upd, show ¬ j = k by omega]
  · rw [List.getElem?_eq_none (l := vals n (upd f k x)) (by rw [vals_length]; omega)]
    split
    · simp [vals_length]; omega
    · exact List.getElem?_eq_none (by rw [vals_length]; omega)
/-- A row of limbs of the call's own, at the head of its block. -/
def Own (w : World) (B g n : Nat) (f : Nat → Int) : Prop := w.ownsRow B 39 1 (.slice (some ⟨g, 0, none⟩) n n) n (vals n f)
theorem Own.cell {w : World} {B g n : Nat} {f : Nat → Int} (h : Own w B g n f) (i : Nat) (hi : i < n) : w.cell? ⟨g, i, none⟩ = some (.int .u32 (f i)) := by
  rw [World.ownsRow.cellAt h i (by omega), vals_get n f i hi]
theorem Own.free {w : World} {B g n : Nat} {f : Nat → Int} (h : Own w B g n f) (i : Nat) : w.frozen? ⟨g, i, none⟩ = false := World.ownsRow.frozenAt h i
theorem Own.stored {w : World} {B g n : Nat} {f : Nat → Int} (h : Own w B g n f) (k : Nat) (x : Int) : Own (w.setCell ⟨g, k, none⟩ (.int .u32 x)) B g n (upd f k x) := by
  have := (World.ownsRow.stored h k (.int .u32 x)).1
  rw [vals_set] at this
  exact this
theorem Own.block {w : World} {B g n : Nat} {f : Nat → Int} (h : Own w B g n f) : B ≤ g ∧ g < w.heap.size := World.ownsRow.lt h g rfl
theorem Own.heap {w : World} {B g n : Nat} {f : Nat → Int} (h : Own w B g n f) : ∃ cur, w.heap[g]? = some (.cells cur 39 (0, 0)) := by
  rcases h.2 with ⟨h', _⟩ | ⟨g', cap', cur, h', _, hg, _⟩
  · simp at h'
  · simp only [Value.slice.injEq, Option.some.injEq, Addr.mk.injEq, and_true, true_and] at h'
    obtain ⟨rfl, rfl⟩ := h'
    exact ⟨cur, hg⟩
theorem Own.row {w : World} {B g n : Nat} {f : Nat → Int} (h : Own w B g n f) (lo : ∀ i, 0 ≤ f i) (hi : ∀ i, f i < 4294967296) (hm : n ≤ maxLen) : Row w (.slice (some ⟨g, 0, none⟩) n n) n f :=
  .inr ⟨g, 0, n, rfl, Nat.le_refl _, hm, ⟨fun i hi => by rw [Nat.zero_add]; exact h.cell i hi, lo, hi⟩⟩
theorem make_row (w : World) (n : Nat) (h : 4 * n ≤ 281474976710656) : (Instr.makeSlice 22 (.int .i64 (n : Int)) (.int .i64 (n : Int))).run Tryd.prog w = .ok (.slice (some ⟨w.heap.size, 0, none⟩) n n) (w.alloc (.cells (madeCells #[.int .u32 0] n) 39)) := by
  obtain ⟨i0, hi, hz0, hz1, hz2⟩ := info_parts info46
  have := run_make (P := Tryd.prog) w 22 39 i0 (.int .u32 0) Tryd.underlying22 hi hz0 .i64 .i64 (n : Int) (n : Int) (by omega) (by omega) (by rw [hz2]; omega) (by omega)
  rw [hz1] at this
  simpa [Value.cells] using this
theorem make_own (w : World) (B n : Nat) (hB : B ≤ w.heap.size) (h : n ≤ maxLen) : Own (w.alloc (.cells (madeCells #[.int .u32 0] n) 39)) B w.heap.size n (fun _ => 0) := by
  have := World.ownsRow_lit (base := B) (e := 39) (size := 1) w (madeCells #[.int .u32 0] n) n hB h (by have := size_madeCells #[Value.int .u32 0] (n * 1); simpa using this)
  rw [toList_madeCells_one] at this
  have e : List.replicate n (Value.int .u32 0) = vals n (fun _ => 0) := by
    apply List.ext_getElem?
    intro j
    by_cases hj : j < n
    · rw [vals_get n _ j hj]; simp [hj]
    · rw [List.getElem?_eq_none (by simp; omega), List.getElem?_eq_none (by rw [vals_length]; omega)]
  rw [e] at this
  exact this

/-- The limbs that come out, one behind the other, with what is carried. -/
def carr (nx : Int → Int → Int → Int) (f g : Nat → Int) : Nat → Int
  | 0 => 0
  | i + 1 => nx (f i) (g i) (carr nx f g i)
def outs (d nx : Int → Int → Int → Int) (f g : Nat → Int) (k : Nat) : Nat → Int := fun i => if i < k then d (f i) (g i) (carr nx f g i) else 0
theorem outs_succ (d nx : Int → Int → Int → Int) (f g : Nat → Int) (k : Nat) : upd (outs d nx f g k) k (d (f k) (g k) (carr nx f g k)) = outs d nx f g (k + 1) := by
  funext i
  unfold upd outs
  by_cases e : i = k
  · subst e; simp
  · by_cases h : i < k
    · simp [e, h, show i < k + 1 by omega]
    · simp [e, h, show ¬ i < k + 1 by omega]
def dS (x y s : Int) : Int := (x + y + s) % 1000000000
def nS (x y s : Int) : Int := (x + y + s) / 1000000000
def dD (x y s : Int) : Int := (1000000000 + x - y - s) % 1000000000
def nD (x y s : Int) : Int := 1 - (1000000000 + x - y - s) / 1000000000
/-- What such a function must keep to. -/
structure Steps (d nx : Int → Int → Int → Int) : Prop where
  dlo : ∀ x y s, 0 ≤ x → x < 1000000000 → 0 ≤ y → y < 1000000000 → 0 ≤ s → s ≤ 1 → 0 ≤ d x y s
  dhi : ∀ x y s, 0 ≤ x → x < 1000000000 → 0 ≤ y → y < 1000000000 → 0 ≤ s → s ≤ 1 → d x y s < 1000000000
  nlo : ∀ x y s, 0 ≤ x → x < 1000000000 → 0 ≤ y → y < 1000000000 → 0 ≤ s → s ≤ 1 → 0 ≤ nx x y s
  nhi : ∀ x y s, 0 ≤ x → x < 1000000000 → 0 ≤ y → y < 1000000000 → 0 ≤ s → s ≤ 1 → nx x y s ≤ 1
theorem stepsS : Steps dS nS := ⟨fun x y s _ _ _ _ _ _ => by unfold dS; omega, fun x y s _ _ _ _ _ _ => by unfold dS; omega, fun x y s _ _ _ _ _ _ => by unfold nS; omega, fun x y s _ _ _ _ _ _ => by unfold nS; omega⟩
theorem stepsD : Steps dD nD := ⟨fun x y s _ _ _ _ _ _ => by unfold dD; omega, fun x y s _ _ _ _ _ _ => by unfold dD; omega, fun x y s _ _ _ _ _ _ => by unfold nD; omega, fun x y s _ _ _ _ _ _ => by unfold nD; omega⟩
def All9 (f : Nat → Int) : Prop := ∀ i, 0 ≤ f i ∧ f i < 1000000000
theorem carr_bd {d nx : Int → Int → Int → Int} (hS : Steps d nx) {f g : Nat → Int} (hf : All9 f) (hg : All9 g) (k : Nat) : 0 ≤ carr nx f g k ∧ carr nx f g k ≤ 1 := by
  induction k with
  | zero => simp [carr]
  | succ k ih => exact ⟨hS.nlo _ _ _ (hf k).1 (hf k).2 (hg k).1 (hg k).2 ih.1 ih.2, hS.nhi _ _ _ (hf k).1 (hf k).2 (hg k).1 (hg k).2 ih.1 ih.2⟩
theorem outs_bd {d nx : Int → Int → Int → Int} (hS : Steps d nx) {f g : Nat → Int} (hf : All9 f) (hg : All9 g) (k : Nat) : All9 (outs d nx f g k) := by
  intro i
  have := carr_bd hS hf hg i
  unfold outs
  split
  · exact ⟨hS.dlo _ _ _ (hf i).1 (hf i).2 (hg i).1 (hg i).2 this.1 this.2, hS.dhi _ _ _ (hf i).1 (hf i).2 (hg i).1 (hg i).2 this.1 this.2⟩
  · omega
theorem limb_all {n : Nat} {f : Nat → Int} (h : Limbs n f) : All9 (limb n f) := by
  intro i
  unfold limb
  split
  · exact h i (by assumption)
  · omega

set_option maxHeartbeats 400000 in
theorem joinS_any (x y s : Int) (c : Nat) (w : World) (hc : w.heap[c]? = some (.cells #[.int .u64 s] 51 (0, 0))) (x0 : 0 ≤ x) (x1 : x < 1000000000) (y0 : 0 ≤ y) (y1 : y < 1000000000) (s0 : 0 ≤ s) (s1 : s ≤ 1) :
    Calls Tryd.prog 40 #[.int .u64 x, .int .u64 y, .pointer (some ⟨c, 0, none⟩)] w fun e w' => e = .returned (.int .u64 (dS x y s)) ∧ w' = w.setCell ⟨c, 0, none⟩ (.int .u64 (nS x y s)) := by
  have cc := cell_of_one hc
  have cf := free_of_one hc
  unfold dS nS
  clear hc
  go_enter Tryd.func40, Tryd.ntmps40
  go_wp2
  go_ret
  exact ⟨rfl, rfl⟩

set_option maxHeartbeats 800000 in
theorem upwardS_any (v0 v1 : Value) (n m N c : Nat) (f g : Nat → Int) (w0 w : World) (hB : Below w0.heap.size w0 w) (h0 : Row w0 v0 n f) (h1 : Row w0 v1 m g) (hf : Limbs n f) (hg : Limbs m g)
    (hc : w.heap[c]? = some (.cells #[.int .u64 0] 51 (0, 0))) (hcB : w0.heap.size ≤ c) (hN : 4 * N ≤ 281474976710656) :
    Calls Tryd.prog 39 #[.int .i64 N, v0, v1, .func (.func 40) #[] #[.pointer (some ⟨c, 0, none⟩)]] w fun e w' => ∃ r, e = .returned r ∧
      (∃ m', Row w' r m' (outs dS nS (limb n f) (limb m g) N) ∧ Trims N (outs dS nS (limb n f) (limb m g) N) m') ∧ Below w0.heap.size w0 w' := by
  have F9 := limb_all hf
  have G9 := limb_all hg
  have hmk := make_row w N hN
  have hown := make_own w w.heap.size N (Nat.le_refl _) (by unfold maxLen; omega)
  have hne : c < w.heap.size := lt_of_block hc
  have hc1 : (w.alloc (.cells (madeCells #[.int .u32 0] N) 39)).heap[c]? = some (.cells #[.int .u64 0] 51 (0, 0)) := by rw [Below.heap_alloc _ _ _ hne]; exact hc
  have hb1 : Below w0.heap.size w0 (w.alloc (.cells (madeCells #[.int .u32 0] N) 39)) := hB.alloc hB.size _
  have HO : Hid (Own (w.alloc (.cells (madeCells #[.int .u32 0] N) 39)) w.heap.size w.heap.size N (fun _ => 0)) := hown
  have HC : Hid ((w.alloc (.cells (madeCells #[.int .u32 0] N) 39)).heap[c]? = some (.cells #[.int .u64 0] 51 (0, 0))) := hc1
  have HB : Hid (Below w0.heap.size w0 (w.alloc (.cells (madeCells #[.int .u32 0] N) 39))) := hb1
  have hz := hB.size
  clear hown hc1 hb1 hc
  go_enter Tryd.func39, Tryd.ntmps39
  go_wp2
  clear hmk
  go_loopw [15] (fun i wr => ∃ k : Nat, k ≤ N ∧ i = .int .i64 k ∧ Hid (Own wr w.heap.size w.heap.size N (outs dS nS (limb n f) (limb m g) k)) ∧ Hid (wr.heap[c]? = some (.cells #[.int .u64 (carr nS (limb n f) (limb m g) k)] 51 (0, 0))) ∧ Hid (Below w0.heap.size w0 wr)) (fun i _ => N - (intOf i).toNat)
  case atStart => exact ⟨0, Nat.zero_le _, rfl, HO.out, HC.out, HB.out⟩
  case round =>
    obtain ⟨k, hk, rfl, HO2, HC2, HB2⟩ := hrel
    by_cases hlt : k < N
    · have hI : (k : Int) < (N : Int) := by omega
      have a1 := limbAt_any v0 n f k wr (h0.below HB2.out) (by unfold maxLen; omega)
      have a2 := limbAt_any v1 m g k wr (h1.below HB2.out) (by unfold maxLen; omega)
      have bd := carr_bd stepsS F9 G9 k
      have a3 := joinS_any (limb n f k) (limb m g k) (carr nS (limb n f) (limb m g) k) c wr HC2.out (F9 k).1 (F9 k).2 (G9 k).1 (G9 k).2 bd.1 bd.2
      have b1 := stepsS.dlo _ _ _ (F9 k).1 (F9 k).2 (G9 k).1 (G9 k).2 bd.1 bd.2
      have b2 := stepsS.dhi _ _ _ (F9 k).1 (F9 k).2 (G9 k).1 (G9 k).2 bd.1 bd.2
      have gb := HO2.out.block
      have HO3 : Hid (Own (wr.setCell ⟨c, 0, none⟩ (.int .u64 (nS (limb n f k) (limb m g k) (carr nS (limb n f) (limb m g) k)))) w.heap.size w.heap.size N (outs dS nS (limb n f) (limb m g) k)) := ownsRow_setCell_below HO2.out (by simpa using hne) _
      have HC3 : Hid ((wr.setCell ⟨c, 0, none⟩ (.int .u64 (nS (limb n f k) (limb m g k) (carr nS (limb n f) (limb m g) k)))).heap[c]? = some (.cells #[.int .u64 (carr nS (limb n f) (limb m g) (k + 1))] 51 (0, 0))) := one_setCell HC2.out
      have HB3 : Hid (Below w0.heap.size w0 (wr.setCell ⟨c, 0, none⟩ (.int .u64 (nS (limb n f k) (limb m g k) (carr nS (limb n f) (limb m g) k))))) := HB2.out.setCell (by simpa using hcB) _
      obtain ⟨w3, hw3⟩ : ∃ w3, w3 = wr.setCell ⟨c, 0, none⟩ (.int .u64 (nS (limb n f k) (limb m g k) (carr nS (limb n f) (limb m g) k))) := ⟨_, rfl⟩
      rw [← hw3] at HO3 HC3 HB3 a3
      have HD : Hid (upd (outs dS nS (limb n f) (limb m g) k) k (dS (limb n f k) (limb m g k) (carr nS (limb n f) (limb m g) k)) = outs dS nS (limb n f) (limb m g) (k + 1)) := outs_succ _ _ _ _ _
      generalize dS (limb n f k) (limb m g k) (carr nS (limb n f) (limb m g) k) = x at *
      have c3 := HO3.out.cell k hlt
      have f3 := HO3.out.free k
      have HO4 : Hid (Own (w3.setCell ⟨w.heap.size, k, none⟩ (.int .u32 x)) w.heap.size w.heap.size N (outs dS nS (limb n f) (limb m g) (k + 1))) := by
        have := HO3.out.stored k x
        rw [HD.out] at this
        exact this
      have HC4 : Hid ((w3.setCell ⟨w.heap.size, k, none⟩ (.int .u32 x)).heap[c]? = some (.cells #[.int .u64 (carr nS (limb n f) (limb m g) (k + 1))] 51 (0, 0))) := by
        show (w3.setCell ⟨w.heap.size, k, none⟩ (.int .u32 x)).heap[c]? = _
        rw [Below.heap_setCell _ _ _ _ (by simp; omega)]; exact HC3.out
      have HB4 : Hid (Below w0.heap.size w0 (w3.setCell ⟨w.heap.size, k, none⟩ (.int .u32 x))) := HB3.out.setCell (by simpa using hz) _
      clear hw3 HO2 HC2 HB2 HO3 HC3 HB3 HD bd F9 G9
      generalize outs dS nS (limb n f) (limb m g) k k = z at *
      generalize limb n f k = x1 at *
      generalize limb m g k = x2 at *
      go_wp2_with fail
      refine a1.mono ?_
      rintro e w' ⟨rfl, rfl⟩
      go_wp2_with fail
      refine a2.mono ?_
      rintro e w' ⟨rfl, rfl⟩
      go_wp2_with fail
      refine a3.mono ?_
      rintro e w' ⟨rfl, rfl⟩
      clear a1 a2 a3
      go_wp2
      go_roundw
      case rel => exact ⟨k + 1, by omega, by go_num, HO4, HC4, HB4⟩
      case measure => simp [intOf]; omega
    · have e : k = N := by omega
      subst e
      have bds := outs_bd stepsS F9 G9 k
      have ht := trimmed_any _ k _ wr (HO2.out.row (fun i => (bds i).1) (fun i => by have := (bds i).2; omega) (by unfold maxLen; omega))
      clear bds
      go_wp2_with fail
      refine ht.mono ?_
      rintro e w' ⟨r, rfl, hr, rfl⟩
      clear ht
      go_wp2
      go_ret
      exact ⟨_, rfl, hr, HB2.out⟩

end Go.Proofs.YtpgdabpohbmodaaDoor
