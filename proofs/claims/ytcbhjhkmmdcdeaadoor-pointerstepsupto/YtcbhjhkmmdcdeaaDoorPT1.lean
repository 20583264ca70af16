/-
  What the small tests of package pointer answer, and the means to speak of a text's bytes. No condition.
-/
import Derived.Test.YtcbhjhkmmdcdeaaDoorPZ
import Derived.Lib.Bytealg
namespace Go.Proofs.YtcbhjhkmmdcdeaaDoor
open Go.RowKit
attribute [local go_sem] setCell_drewN alloc_drewN

theorem len_of (s : ByteArray) : s.data.toList.length = s.size := Array.length_toList
theorem bx_at (s : ByteArray) (i : Nat) (h : i < s.size) : ((s[i]'h).toNat : Int) = bx s.data.toList i := by
  unfold bx
  rw [Array.getElem?_toList, Array.getElem?_eq_getElem (show i < s.data.size from h)]
  rfl
theorem bx_get (l : List UInt8) (i : Nat) (h : i < l.length) : bx l i = ((l[i]'h).toNat : Int) := by
  unfold bx; rw [List.getElem?_eq_getElem h]; rfl
theorem r_bool {a b : Bool} (h : a = b) : Ending.returned (.bool a) = .returned (.bool b) := by rw [h]
theorem r_str {a b : List UInt8} (h : a = b) : Ending.returned (.string (bs a)) = .returned (.string (bs b)) := by rw [h]
theorem piece (s : ByteArray) (a b : Nat) : (s.extract a b).data.toList = (s.data.toList.drop a).take (b - a) := by
  rw [ByteArray.data_extract, Array.toList_extract, List.extract_eq_take_drop]
theorem piece_bs (s : ByteArray) (a b : Nat) : s.extract a b = bs ((s.data.toList.drop a).take (b - a)) := by
  rw [← piece]; exact (bs_self _).symm
theorem pass_in {l : List UInt8} {p : Int → Bool} (n : Nat) : ∀ i, l.length - i ≤ n → ∀ j, i ≤ j → j < pass l p i → p (bx l j) = true := by
  induction n with
  | zero =>
    intro i hn j hj hk
    rw [pass_stop (by simp [hasAt, show ¬ i < l.length by omega])] at hk
    omega
  | succ n ih =>
    intro i hn j hj hk
    cases hh : hasAt l i p
    · rw [pass_stop hh] at hk; omega
    · rw [pass_go hh] at hk
      have hlt := hasAt_lt hh
      by_cases e : j = i
      · subst e; simpa [hasAt, hlt] using hh
      · exact ih (i + 1) (by omega) j (by omega) hk
theorem pass_end {l : List UInt8} {p : Int → Bool} (n : Nat) : ∀ i, l.length - i ≤ n → pass l p i < l.length → p (bx l (pass l p i)) = false := by
  induction n with
  | zero =>
    intro i hn hk
    rw [pass_stop (by simp [hasAt, show ¬ i < l.length by omega])] at hk
    omega
  | succ n ih =>
    intro i hn hk
    cases hh : hasAt l i p
    · rw [pass_stop hh] at hk ⊢
      simpa [hasAt, hk] using hh
    · rw [pass_go hh] at hk ⊢
      exact ih (i + 1) (by have := hasAt_lt hh; omega) hk

/-- From one byte to another. -/
def wi (c a b : Int) : Bool := decide (a ≤ c) && decide (c ≤ b)

set_option maxHeartbeats 400000 in
theorem within_any (c a b : Int) (w : World) :
    Calls Tryd.prog 66 #[.int .u8 c, .int .u8 a, .int .u8 b] w fun e w' => e = .returned (.bool (wi c a b)) ∧ w' = w := by
  by_cases h1 : a ≤ c
  · by_cases h2 : c ≤ b
    · go_enter Tryd.func66, Tryd.ntmps66
      go_wp2
      go_ret
      exact ⟨by simp [wi, h1, h2], rfl⟩
    · go_enter Tryd.func66, Tryd.ntmps66
      go_wp2
      go_ret
      exact ⟨by simp [wi, h1, h2], rfl⟩
  · go_enter Tryd.func66, Tryd.ntmps66
    go_wp2
    go_ret
    exact ⟨by have : decide (a ≤ c) = false := by simpa using h1
              simp [wi, this], rfl⟩

set_option maxHeartbeats 400000 in
theorem isDigit_any (c : Int) (w : World) :
    Calls Tryd.prog 60 #[.int .u8 c] w fun e w' => e = .returned (.bool (wi c 48 57)) ∧ w' = w := by
  have h := within_any c 48 57 w
  go_enter Tryd.func60, Tryd.ntmps60
  go_wp2_with (go_at_call 66; refine h.mono ?_; rintro e w' ⟨rfl, rfl⟩)
  go_ret
  exact ⟨rfl, rfl⟩

/-- What does not stand for itself in a part. -/
def ndT (c : Int) : Bool := c == 126 || c == 47
set_option maxHeartbeats 400000 in
theorem needsTilde_any (c : Int) (w : World) :
    Calls Tryd.prog 31 #[.int .u8 c] w fun e w' => e = .returned (.bool (ndT c)) ∧ w' = w := by
  cases h1 : (c == 126)
  · go_enter Tryd.func31, Tryd.ntmps31
    go_wp2
    go_ret
    exact ⟨by simp [ndT, h1], rfl⟩
  · go_enter Tryd.func31, Tryd.ntmps31
    go_wp2
    go_ret
    exact ⟨by simp [ndT, h1], rfl⟩

set_option maxHeartbeats 400000 in
theorem is1_any (c m : Int) (b : Nat) (w : World) (hb : w.cell? ⟨b, 0, none⟩ = some (.int .u8 m)) :
    Calls Tryd.prog 57 #[.int .u8 c, .pointer (some ⟨b, 0, none⟩)] w fun e w' => e = .returned (.bool (c == m)) ∧ w' = w := by
  go_enter Tryd.func57, Tryd.ntmps57
  go_wp2
  go_ret
  exact ⟨rfl, rfl⟩

set_option maxHeartbeats 400000 in
theorem is_any (m : Int) (w : World) :
    Calls Tryd.prog 38 #[.int .u8 m] w fun e w' => e = .returned (.func (.func 57) #[] #[.pointer (some ⟨w.heap.size, 0, none⟩)]) ∧ w' = w.alloc (.cells #[.int .u8 m] 5) := by
  have hmf : ∀ (fn : Fn) (first cap : Array Value) (w : World), (Instr.makeFunc fn first cap).run Tryd.prog w = .ok (.func fn first cap) w := fun _ _ _ _ => rfl
  go_enter Tryd.func38, Tryd.ntmps38
  go_wp2
  go_ret
  exact ⟨rfl, rfl⟩
end Go.Proofs.YtcbhjhkmmdcdeaaDoor
