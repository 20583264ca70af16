/-
  What dec.digitsAhead, dec.areDigits, dec.nought, dec.Check and ref3.digit, ref3.Check answer: which numbers may be. No condition.
-/
import Derived.Test.YtfhapeinfhjihaaGreatDoorProg
import Derived.Test.YtfhapeinfhjihaaGreatDoorL4
import Derived.WalkKit
import Derived.WalkSpells
import Derived.WalkLawsBesides
import Derived.Deep.QuietTactic
import Derived.BigQuiet
import Derived.Deep.RegionWith
namespace Go.Proofs.YtfhapeinfhjihaaGreatDoor
open Go.RowKit

/-- The byte at a place of a text. -/
def cx (s : ByteArray) (i : Nat) : Int := if h : i < s.size then ((s[i]'h).toNat : Int) else 0
theorem cx_at (s : ByteArray) (i : Nat) (h : i < s.size) : ((s[i]'h).toNat : Int) = cx s i := by simp [cx, h]
theorem len_of (s : ByteArray) : s.data.toList.length = s.size := Array.length_toList
theorem cx_get (s : ByteArray) (i : Nat) (h : i < s.size) : ∃ b : UInt8, s.data.toList[i]? = some b ∧ (b.toNat : Int) = cx s i := by
  refine ⟨s[i]'h, ?_, cx_at s i h⟩
  rw [Array.getElem?_toList]
  exact Array.getElem?_eq_getElem h
theorem cx_bd (s : ByteArray) (i : Nat) : 0 ≤ cx s i ∧ cx s i < 256 := by
  unfold cx
  split
  · rename_i h; have := UInt8.toNat_lt (s[i]'h); omega
  · omega
/-- The digits ahead. -/
theorem tw_len (l : List UInt8) (k : Nat) (hk : k ≤ l.length) (h1 : ∀ (j : Nat) b, j < k → l[j]? = some b → isD b = true) (h2 : ∀ b, l[k]? = some b → isD b = false) : tw l = l.take k ∧ dw l = l.drop k := by
  have e : l = l.take k ++ l.drop k := (List.take_append_drop k l).symm
  have h3 : (l.take k).all isD = true := by
    rw [List.all_eq_true]
    intro x hx
    obtain ⟨j, hj, rfl⟩ := List.getElem_of_mem hx
    rw [List.length_take] at hj
    exact h1 j _ (by omega) (by rw [List.getElem_take]; exact List.getElem?_eq_getElem (by omega))
  have h4 := tw_append (l.take k) (l.drop k) h3 (fun c hc => h2 c (by rw [← hc, List.head?_drop]))
  rw [← e] at h4
  exact h4
theorem r3_bool {a b : Bool} (h : a = b) : Ending.returned (.bool a) = .returned (.bool b) := by rw [h]
theorem r3_int {k : IntKind} {a b : Int} (h : a = b) : Ending.returned (.int k a) = .returned (.int k b) := by rw [h]

/-- What is known of a text whose first k bytes are digits, and no more. -/
def Ahead (s : ByteArray) (k : Nat) : Prop := k ≤ s.size ∧ tw s.data.toList = s.data.toList.take k ∧ dw s.data.toList = s.data.toList.drop k
theorem ahead_of (s : ByteArray) (k : Nat) (hk : k ≤ s.size) (h1 : ∀ j, j < k → 48 ≤ cx s j ∧ cx s j ≤ 57) (h2 : k < s.size → ¬ (48 ≤ cx s k ∧ cx s k ≤ 57)) : Ahead s k := by
  refine ⟨hk, tw_len _ k (by rw [len_of]; exact hk) (fun j b hj hb => ?_) (fun b hb => ?_)⟩
  · obtain ⟨b', hb', hc⟩ := cx_get s j (by omega)
    rw [hb'] at hb
    have hb := Option.some.inj hb
    subst hb
    have := h1 j hj
    rw [isD_iff]; omega
  · by_cases e : k < s.size
    · obtain ⟨b', hb', hc⟩ := cx_get s k e
      rw [hb'] at hb
      have hb := Option.some.inj hb
      subst hb
      have := h2 e
      have : ¬ isD b' = true := by rw [isD_iff]; omega
      simpa using this
    · rw [List.getElem?_eq_none (by rw [len_of]; omega)] at hb; cases hb
theorem Ahead.len {s : ByteArray} {k : Nat} (h : Ahead s k) : (tw s.data.toList).length = k := by rw [h.2.1, List.length_take, len_of]; have := h.1; omega

set_option maxHeartbeats 400000 in
theorem ahead_any (s : ByteArray) (w : World) (hs : s.size ≤ maxLen) :
    Calls Tryz.prog 62 #[.string s] w fun e w' => (∃ k : Nat, e = .returned (.int .i64 k) ∧ Ahead s k) ∧ w = w' := by
  unfold maxLen at hs
  go_enter Tryz.func62, Tryz.ntmps62
  go_wp2
  go_loop [3] (fun n => ∃ k : Nat, k ≤ s.size ∧ n = .int .i64 k ∧ Hid (∀ j, j < k → 48 ≤ cx s j ∧ cx s j ≤ 57)) (fun n => s.size - (intOf n).toNat)
  case atStart => exact ⟨0, Nat.zero_le _, rfl, fun j hj => absurd hj (by omega)⟩
  case round =>
    obtain ⟨k, hk, rfl, HK⟩ := hrel
    by_cases hlt : k < s.size
    · have hI : (k : Int) < (s.size : Int) := by omega
      have hx := cx_at s k hlt
      by_cases h1 : cx s k < 48
      · have HA : Hid (Ahead s k) := ahead_of s k hk HK.out (fun _ => by omega)
        have h1' : decide (48 ≤ cx s k) = false := decide_eq_false (by omega)
        generalize cx s k = x at *
        clear HK
        go_wp2
        go_ret
        exact ⟨⟨k, rfl, HA.out⟩, rfl⟩
      · by_cases h2 : 57 < cx s k
        · have HA : Hid (Ahead s k) := ahead_of s k hk HK.out (fun _ => by omega)
          generalize cx s k = x at *
          clear HK
          go_wp2
          go_ret
          exact ⟨⟨k, rfl, HA.out⟩, rfl⟩
        · have HK2 : Hid (∀ j, j < k + 1 → 48 ≤ cx s j ∧ cx s j ≤ 57) := fun j hj => by
            by_cases e : j = k
            · rw [e]; omega
            · exact HK.out j (by omega)
          clear HK
          obtain ⟨x, hxx⟩ : ∃ x, cx s k = x := ⟨_, rfl⟩
          rw [hxx] at hx h1 h2
          clear hxx
          go_wp2
          go_round
          case rel => exact ⟨k + 1, by omega, by go_num, HK2⟩
          case measure => simp [intOf]; omega
    · have e : k = s.size := by omega
      subst e
      have HA : Hid (Ahead s s.size) := ahead_of s s.size (Nat.le_refl _) HK.out (fun h => absurd h (by omega))
      clear HK
      go_wp2
      go_ret
      exact ⟨⟨s.size, rfl, HA.out⟩, rfl⟩

/-- A digit. -/
def isDI (c : Int) : Bool := decide (48 ≤ c ∧ c ≤ 57)

set_option maxHeartbeats 400000 in
theorem digit_any (c : Int) (w : World) (h0 : 0 ≤ c) (h1 : c < 256) :
    Calls Tryz.prog 34 #[.int .u8 c] w fun e w' => e = .returned (.bool (isDI c)) ∧ w = w' := by
  by_cases a : 48 ≤ c
  · by_cases b : c ≤ 57
    · go_enter Tryz.func34, Tryz.ntmps34
      go_wp2
      go_ret
      exact ⟨r3_bool (decide_eq_true (by omega)).symm, rfl⟩
    · go_enter Tryz.func34, Tryz.ntmps34
      go_wp2
      go_ret
      exact ⟨r3_bool (decide_eq_false (by omega)).symm, rfl⟩
  · go_enter Tryz.func34, Tryz.ntmps34
    go_wp2
    go_ret
    exact ⟨r3_bool (decide_eq_false (by omega)).symm, rfl⟩

theorem head_cx (s : ByteArray) (h : 0 < s.size) : s.data.toList.head? = some 48 ↔ cx s 0 = 48 := by
  obtain ⟨b, hb, hc⟩ := cx_get s 0 h
  rw [List.head?_eq_getElem?, hb, ← hc]
  simp only [Option.some.injEq]
  constructor
  · intro e; rw [e]; rfl
  · intro e; exact UInt8.toNat_inj.1 (by show b.toNat = 48; omega)
theorem last_cx (s : ByteArray) (h : 0 < s.size) : s.data.toList.getLast? = some 48 ↔ cx s (s.size - 1) = 48 := by
  obtain ⟨b, hb, hc⟩ := cx_get s (s.size - 1) (by omega)
  rw [List.getLast?_eq_getElem?, len_of, hb, ← hc]
  simp only [Option.some.injEq]
  constructor
  · intro e; rw [e]; rfl
  · intro e; exact UInt8.toNat_inj.1 (by show b.toNat = 48; omega)
theorem nil_size (s : ByteArray) : s.data.toList = [] ↔ s.size = 0 := by
  rw [← len_of, List.length_eq_zero_iff]
theorem Ahead.all {s : ByteArray} {k : Nat} (h : Ahead s k) : s.data.toList.all isD = true ↔ k = s.size := by
  constructor
  · intro ha
    have := (tw_append s.data.toList [] ha (by simp)).1
    rw [List.append_nil] at this
    have hl := h.len
    rw [this, len_of] at hl
    exact hl.symm
  · intro hk
    have := tw_all s.data.toList
    rw [h.2.1, hk, ← len_of, List.take_length] at this
    exact this
/-- May these be digits. -/
def digB (s : ByteArray) : Bool := decide (DigOK s.data.toList)

set_option maxHeartbeats 800000 in
theorem areDigits_any (s : ByteArray) (w : World) (hs : s.size ≤ maxLen) :
    Calls Tryz.prog 33 #[.string s] w fun e w' => e = .returned (.bool (digB s)) ∧ w = w' := by
  have ha := ahead_any s w hs
  unfold maxLen at hs
  by_cases h0 : s.size = 0
  · have n0 : ((s.size : Int) == 0) = true := by rw [h0]; rfl
    have HD : Hid (digB s = false) := decide_eq_false (fun h => h.1 ((nil_size s).2 h0))
    clear ha h0
    go_enter Tryz.func33, Tryz.ntmps33
    go_wp2
    go_ret
    exact ⟨r3_bool HD.out.symm, rfl⟩
  · have n0 : ((s.size : Int) == 0) = false := beq_eq_false_iff_ne.2 (by omega)
    by_cases h1 : (65536 : Int) < (s.size : Int)
    · have HD : Hid (digB s = false) := decide_eq_false (fun h => by have := h.2.1; rw [len_of] at this; omega)
      clear ha h0
      go_enter Tryz.func33, Tryz.ntmps33
      go_wp2
      go_ret
      exact ⟨r3_bool HD.out.symm, rfl⟩
    · have hp : 0 < s.size := by omega
      have hx0 := cx_at s 0 hp
      have i0 : (0 : Int) < (s.size : Int) := by omega
      by_cases h2 : cx s 0 = 48
      · have HD : Hid (digB s = false) := decide_eq_false (fun h => h.2.2.2.1 ((head_cx s (by omega)).2 h2))
        rw [h2] at hx0
        clear ha h0 h2
        go_enter Tryz.func33, Tryz.ntmps33
        go_wp2
        go_ret
        exact ⟨r3_bool HD.out.symm, rfl⟩
      · have c0 : (cx s 0 == 48) = false := beq_eq_false_iff_ne.2 h2
        have hp1 : s.size - 1 < s.size := by omega
        have hx1 := cx_at s (s.size - 1) hp1
        have ez : ((s.size : Int) - 1).toNat = s.size - 1 := by omega
        have H2 : Hid (¬ cx s 0 = 48) := h2
        by_cases h3 : cx s (s.size - 1) = 48
        · have HD : Hid (digB s = false) := decide_eq_false (fun h => h.2.2.2.2 ((last_cx s (by omega)).2 h3))
          rw [h3] at hx1
          clear ha h0 h2 h3 H2
          generalize cx s 0 = x0 at *
          go_enter Tryz.func33, Tryz.ntmps33
          go_wp2
          go_ret
          exact ⟨r3_bool HD.out.symm, rfl⟩
        · have c1 : (cx s (s.size - 1) == 48) = false := beq_eq_false_iff_ne.2 h3
          have H3 : Hid (¬ cx s (s.size - 1) = 48) := h3
          have HF : Hid (∀ k, Ahead s k → ((k : Int) == (s.size : Int)) = digB s) := fun k hk => by
            unfold digB
            by_cases e : k = s.size
            · rw [decide_eq_true, e]
              · simp
              · exact ⟨fun h => h0 ((nil_size s).1 h), by rw [len_of]; omega, hk.all.2 e, fun h => H2.out ((head_cx s (by omega)).1 h), fun h => H3.out ((last_cx s (by omega)).1 h)⟩
            · rw [decide_eq_false (fun h => e (hk.all.1 h.2.2.1))]
              exact beq_eq_false_iff_ne.2 (by omega)
          clear h0 h2 h3 H2 H3
          generalize cx s 0 = x0 at *
          generalize cx s (s.size - 1) = x1 at *
          go_enter Tryz.func33, Tryz.ntmps33
          go_wp2_with (go_at_call 62; refine ha.mono ?_; rintro e w' ⟨⟨k, rfl, hk⟩, rfl⟩)
          go_ret
          exact ⟨r3_bool (HF.out k hk), rfl⟩

/-- A number as a value. -/
def dv (neg : Bool) (s : ByteArray) (e : Int) : Value := .agg #[.bool neg, .string s, .int .i64 e]
def goodB (neg : Bool) (s : ByteArray) (e : Int) : Bool := decide (Good ⟨neg, s.data.toList, e⟩)
theorem nought_any (w : World) : Calls Tryz.prog 32 #[] w fun e w' => e = .returned (.agg #[.bool false, .string ⟨#[]⟩, .int .i64 0]) ∧ w' = w.alloc (.cells #[.bool false, .string ⟨#[]⟩, .int .i64 0] 23) := by
  go_enter Tryz.func32, Tryz.ntmps32
  go_wp2
  exact bodyPost_ret (v := .agg #[.bool false, .string ⟨#[]⟩, .int .i64 0]) (by simp [results, Tryz.results32, go_sem]) rfl ⟨rfl, rfl⟩
end Go.Proofs.YtfhapeinfhjihaaGreatDoor
