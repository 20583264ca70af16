/-
  What dec.digitsAhead, dec.areDigits, dec.nought, dec.Check and ref3.digit, ref3.Check answer: which numbers may be. No condition.
  json.digitsAhead: how many digits a number has ahead of its exponent. No condition.
  What the small functions of package utf answer: isSurrogate, least, lead, follows. Conditions: the table of greatest code points holds its four numbers.
-/
import Derived.Test.YtlahlnocjfphjaaGreatDoorProg
import Derived.Test.YtlahlnocjfphjaaGreatDoorJoined2
import Derived.WalkKit
import Derived.WalkSpells
import Derived.WalkLawsBesides
import Derived.Deep.QuietTactic
import Derived.BigQuiet
import Derived.Deep.RegionWith
import Derived.Test.YtlahlnocjfphjaaGreatDoorJoined0
import Derived.Laws.BitsAllLaws
namespace Go.Proofs.YtlahlnocjfphjaaGreatDoor
open Go.RowKit

/-- The byte at a place of a text. -/
def cx (s : ByteArray) (i : Nat) : Int := if h : i < s.size then ((s[i]'h).toNat : Int) else 0
theorem cx_at (s : ByteArray) (i : Nat) (h : i < s.size) : ((s[i]'h).toNat : Int) = cx s i := by simp [cx, h]
theorem len_of (s : ByteArray) : s.data.toList.length = s.size := Array.length_toList
theorem cx_get (s : ByteArray) (i : Nat) (h : i < s.size) : ∃ b : UInt8, s.data.toList[i]? = some b ∧ (b.toNat : Int) = cx s i := by
  refine ⟨s[i]'h, ?_, cx_at s i h⟩
  rw [Array.getElem?_toList]
  exact Array.getElem?_eq_getElem h
theorem cx_bd (s : ByteArray) (i : Nat) : 0 ≤ cx s i ∧ cx s i < 256 := by
  unfold cx
  split
  · rename_i h; have := UInt8.toNat_lt (s[i]'h); omega
  · omega
/-- The digits ahead. -/
theorem tw_len (l : List UInt8) (k : Nat) (hk : k ≤ l.length) (h1 : ∀ (j : Nat) b, j < k → l[j]? = some b → isD b = true) (h2 : ∀ b, l[k]? = some b → isD b = false) : tw l = l.take k ∧ dw l = l.drop k := by
  have e : l = l.take k ++ l.drop k := (List.take_append_drop k l).symm
  have h3 : (l.take k).all isD = true := by
    rw [List.all_eq_true]
    intro x hx
    obtain ⟨j, hj, rfl⟩ := List.getElem_of_mem hx
    rw [List.length_take] at hj
    exact h1 j _ (by omega) (by rw [List.getElem_take]; exact List.getElem?_eq_getElem (by omega))
  have h4 := tw_append (l.take k) (l.drop k) h3 (fun c hc => h2 c (by rw [← hc, List.head?_drop]))
  rw [← e] at h4
  exact h4
theorem r3_bool {a b : Bool} (h : a = b) : Ending.returned (.bool a) = .returned (.bool b) := by rw [h]
theorem r3_int {k : IntKind} {a b : Int} (h : a = b) : Ending.returned (.int k a) = .returned (.int k b) := by rw [h]

/-- What is known of a text whose first k bytes are digits, and no more. -/
def Ahead (s : ByteArray) (k : Nat) : Prop := k ≤ s.size ∧ tw s.data.toList = s.data.toList.take k ∧ dw s.data.toList = s.data.toList.drop k
theorem ahead_of (s : ByteArray) (k : Nat) (hk : k ≤ s.size) (h1 : ∀ j, j < k → 48 ≤ cx s j ∧ cx s j ≤ 57) (h2 : k < s.size → ¬ (48 ≤ cx s k ∧ cx s k ≤ 57)) : Ahead s k := by
  refine ⟨hk, tw_len _ k (by rw [len_of]; exact hk) (fun j b hj hb => ?_) (fun b hb => ?_)⟩
  · obtain ⟨b', hb', hc⟩ := cx_get s j (by omega)
    rw [hb'] at hb
    have hb := Option.some.inj hb
    subst hb
    have := h1 j hj
    rw [isD_iff]; omega
  · by_cases e : k < s.size
    · obtain ⟨b', hb', hc⟩ := cx_get s k e
      rw [hb'] at hb
      have hb := Option.some.inj hb
      subst hb
      have := h2 e
      have : ¬ isD b' = true := by rw [isD_iff]; omega
      simpa using this
    · rw [List.getElem?_eq_none (by rw [len_of]; omega)] at hb; cases hb
theorem Ahead.len {s : ByteArray} {k : Nat} (h : Ahead s k) : (tw s.data.toList).length = k := by rw [h.2.1, List.length_take, len_of]; have := h.1; omega

set_option maxHeartbeats 400000 in
theorem ahead_any (s : ByteArray) (w : World) (hs : s.size ≤ maxLen) :
    Calls Tryz.prog 151 #[.string s] w fun e w' => (∃ k : Nat, e = .returned (.int .i64 k) ∧ Ahead s k) ∧ w = w' := by
  unfold maxLen at hs
  go_enter Tryz.func151, Tryz.ntmps151
  go_wp2
  go_loop [3] (fun n => ∃ k : Nat, k ≤ s.size ∧ n = .int .i64 k ∧ Hid (∀ j, j < k → 48 ≤ cx s j ∧ cx s j ≤ 57)) (fun n => s.size - (intOf n).toNat)
  case atStart => exact ⟨0, Nat.zero_le _, rfl, fun j hj => absurd hj (by omega)⟩
  case round =>
    obtain ⟨k, hk, rfl, HK⟩ := hrel
    by_cases hlt : k < s.size
    · have hI : (k : Int) < (s.size : Int) := by omega
      have hx := cx_at s k hlt
      by_cases h1 : cx s k < 48
      · have HA : Hid (Ahead s k) := ahead_of s k hk HK.out (fun _ => by omega)
        have h1' : decide (48 ≤ cx s k) = false := decide_eq_false (by omega)
        generalize cx s k = x at *
        clear HK
        go_wp2
        go_ret
        exact ⟨⟨k, rfl, HA.out⟩, rfl⟩
      · by_cases h2 : 57 < cx s k
        · have HA : Hid (Ahead s k) := ahead_of s k hk HK.out (fun _ => by omega)
          generalize cx s k = x at *
          clear HK
          go_wp2
          go_ret
          exact ⟨⟨k, rfl, HA.out⟩, rfl⟩
        · have HK2 : Hid (∀ j, j < k + 1 → 48 ≤ cx s j ∧ cx s j ≤ 57) := fun j hj => by
            by_cases e : j = k
            · rw [e]; omega
            · exact HK.out j (by omega)
          clear HK
          obtain ⟨x, hxx⟩ : ∃ x, cx s k = x := ⟨_, rfl⟩
          rw [hxx] at hx h1 h2
          clear hxx
          go_wp2
          go_round
          case rel => exact ⟨k + 1, by omega, by go_num, HK2⟩
          case measure => simp [intOf]; omega
    · have e : k = s.size := by omega
      subst e
      have HA : Hid (Ahead s s.size) := ahead_of s s.size (Nat.le_refl _) HK.out (fun h => absurd h (by omega))
      clear HK
      go_wp2
      go_ret
      exact ⟨⟨s.size, rfl, HA.out⟩, rfl⟩

/-- A digit. -/
def isDI (c : Int) : Bool := decide (48 ≤ c ∧ c ≤ 57)

set_option maxHeartbeats 400000 in
theorem digit_any (c : Int) (w : World) (h0 : 0 ≤ c) (h1 : c < 256) :
    Calls Tryz.prog 111 #[.int .u8 c] w fun e w' => e = .returned (.bool (isDI c)) ∧ w = w' := by
  by_cases a : 48 ≤ c
  · by_cases b : c ≤ 57
    · go_enter Tryz.func111, Tryz.ntmps111
      go_wp2
      go_ret
      exact ⟨r3_bool (decide_eq_true (by omega)).symm, rfl⟩
    · go_enter Tryz.func111, Tryz.ntmps111
      go_wp2
      go_ret
      exact ⟨r3_bool (decide_eq_false (by omega)).symm, rfl⟩
  · go_enter Tryz.func111, Tryz.ntmps111
    go_wp2
    go_ret
    exact ⟨r3_bool (decide_eq_false (by omega)).symm, rfl⟩

theorem head_cx (s : ByteArray) (h : 0 < s.size) : s.data.toList.head? = some 48 ↔ cx s 0 = 48 := by
  obtain ⟨b, hb, hc⟩ := cx_get s 0 h
  rw [List.head?_eq_getElem?, hb, ← hc]
  simp only [Option.some.injEq]
  constructor
  · intro e; rw [e]; rfl
  · intro e; exact UInt8.toNat_inj.1 (by show b.toNat = 48; omega)
theorem last_cx (s : ByteArray) (h : 0 < s.size) : s.data.toList.getLast? = some 48 ↔ cx s (s.size - 1) = 48 := by
  obtain ⟨b, hb, hc⟩ := cx_get s (s.size - 1) (by omega)
  rw [List.getLast?_eq_getElem?, len_of, hb, ← hc]
  simp only [Option.some.injEq]
  constructor
  · intro e; rw [e]; rfl
  · intro e; exact UInt8.toNat_inj.1 (by show b.toNat = 48; omega)
theorem nil_size (s : ByteArray) : s.data.toList = [] ↔ s.size = 0 := by
  rw [← len_of, List.length_eq_zero_iff]
theorem Ahead.all {s : ByteArray} {k : Nat} (h : Ahead s k) : s.data.toList.all isD = true ↔ k = s.size := by
  constructor
  · intro ha
    have := (tw_append s.data.toList [] ha (by simp)).1
    rw [List.append_nil] at this
    have hl := h.len
    rw [this, len_of] at hl
    exact hl.symm
  · intro hk
    have := tw_all s.data.toList
    rw [h.2.1, hk, ← len_of, List.take_length] at this
    exact this
/-- May these be digits. -/
def digB (s : ByteArray) : Bool := decide (DigOK s.data.toList)

/-- A number as a value. -/
def dv (neg : Bool) (s : ByteArray) (e : Int) : Value := .agg #[.bool neg, .string s, .int .i64 e]
def goodB (neg : Bool) (s : ByteArray) (e : Int) : Bool := decide (Good ⟨neg, s.data.toList, e⟩)
theorem nought_any (w : World) : Calls Tryz.prog 147 #[] w fun e w' => e = .returned (.agg #[.bool false, .string ⟨#[]⟩, .int .i64 0]) ∧ w' = w.alloc (.cells #[.bool false, .string ⟨#[]⟩, .int .i64 0] 27) := by
  go_enter Tryz.func147, Tryz.ntmps147
  go_wp2
  exact bodyPost_ret (v := .agg #[.bool false, .string ⟨#[]⟩, .int .i64 0]) (by simp [results, Tryz.results147, go_sem]) rfl ⟨rfl, rfl⟩
end Go.Proofs.YtlahlnocjfphjaaGreatDoor

namespace Go.Proofs.YtlahlnocjfphjaaGreatDoor
open Go.RowKit

/-- The digits ahead of an exponent. -/
def daL : List UInt8 → Nat
  | [] => 0
  | c :: l => if c = 101 ∨ c = 69 then 0 else if isD c = true then daL l + 1 else daL l
theorem daL_le (l : List UInt8) : daL l ≤ l.length := by
  induction l with
  | nil => exact Nat.le_refl _
  | cons c l ih =>
    rw [daL]
    split
    · exact Nat.zero_le _
    · split <;> simp only [List.length_cons] <;> omega
theorem da_step (s : ByteArray) (i : Nat) (h : i < s.size) : daL (s.data.toList.drop i) = if cx s i = 101 ∨ cx s i = 69 then 0 else if 48 ≤ cx s i ∧ cx s i ≤ 57 then daL (s.data.toList.drop (i + 1)) + 1 else daL (s.data.toList.drop (i + 1)) := by
  obtain ⟨b, hb, hc⟩ := cx_get s i h
  have hl : i < s.data.toList.length := by rw [len_of]; exact h
  rw [List.drop_eq_getElem_cons hl, daL]
  have e : s.data.toList[i] = b := by rw [List.getElem?_eq_getElem hl] at hb; exact Option.some.inj hb
  rw [e, ← hc]
  have k : ∀ n : UInt8, b = n ↔ (b.toNat : Int) = (n.toNat : Int) := fun n => ⟨fun h => by rw [h], fun h => UInt8.toNat_inj.1 (by omega)⟩
  have k1 := k 101
  have k2 := k 69
  have k3 := isD_iff b
  simp only [k1, k2]
  have c1 : ((101 : UInt8).toNat : Int) = 101 := rfl
  have c2 : ((69 : UInt8).toNat : Int) = 69 := rfl
  rw [c1, c2]
  have e3 : ((48 : Int) ≤ (b.toNat : Int) ∧ (b.toNat : Int) ≤ 57) ↔ isD b = true := by rw [k3]; omega
  simp only [e3]

set_option maxRecDepth 100000 in
set_option maxHeartbeats 1600000 in
theorem digitsAhead_any (s : ByteArray) (w : World) (hs : s.size ≤ maxLen) : Calls Tryz.prog 131 #[.string s] w fun r w' => r = .returned (.int .i64 (daL s.data.toList : Nat)) ∧ w' = w := by
  have hm : (s.size : Int) ≤ 9223372036854775807 := by unfold maxLen at hs; omega
  go_enter Tryz.func131, Tryz.ntmps131
  go_wp2_with fail
  go_loopg [3, 8] s.size (fun g s3 s8 wr => ∃ i n : Nat, i ≤ s.size ∧ n ≤ i ∧ g = s.size - i ∧ s8 = .int .i64 (i : Int) ∧ s3 = .int .i64 (n : Int) ∧ Hid (daL s.data.toList = n + daL (s.data.toList.drop i)) ∧ wr = w)
  case atStart => exact ⟨0, 0, Nat.zero_le _, Nat.le_refl _, rfl, rfl, rfl, (by rw [List.drop_zero, Nat.zero_add]; exact rfl : Hid _), rfl⟩
  case round =>
    obtain ⟨i, n, hi, hn, rfl, rfl, rfl, hh, rfl⟩ := hrel
    by_cases h : i < s.size
    · have hI : (i : Int) < (s.size : Int) := by omega
      have hcx := cx_at s i h
      have hbd := cx_bd s i
      have hst := da_step s i h
      have hh := hh.out
      rw [hst] at hh
      clear hst
      generalize cx s i = c at *
      by_cases h1 : c = 101
      · subst h1
        rw [if_pos (Or.inl rfl)] at hh
        replace hh : Hid (daL s.data.toList = n + 0) := hh
        go_wp2_with fail
        go_ret
        exact ⟨by rw [hh.out]; rfl, rfl⟩
      · by_cases h2 : c = 69
        · subst h2
          rw [if_pos (Or.inr rfl)] at hh
          replace hh : Hid (daL s.data.toList = n + 0) := hh
          go_wp2_with fail
          go_ret
          exact ⟨by rw [hh.out]; rfl, rfl⟩
        · rw [if_neg (by omega)] at hh
          have h1' : (c == 101) = false := beq_eq_false_iff_ne.2 h1
          have h2' : (c == 69) = false := beq_eq_false_iff_ne.2 h2
          by_cases h3 : 48 ≤ c
          · by_cases h4 : c ≤ 57
            · rw [if_pos ⟨h3, h4⟩] at hh
              replace hh : Hid (daL s.data.toList = (n + 1) + daL (s.data.toList.drop (i + 1))) := by show _ = _; omega
              go_wp2_with fail
              go_roundg (s.size - (i + 1))
              case measure => omega
              case rel => exact ⟨i + 1, n + 1, by omega, by omega, rfl, by go_num, by go_num, hh, rfl⟩
            · rw [if_neg (fun h => h4 h.2)] at hh
              replace hh : Hid (daL s.data.toList = n + daL (s.data.toList.drop (i + 1))) := hh
              go_wp2_with fail
              go_roundg (s.size - (i + 1))
              case measure => omega
              case rel => exact ⟨i + 1, n, by omega, by omega, rfl, by go_num, rfl, hh, rfl⟩
          · rw [if_neg (fun h => h3 h.1)] at hh
            replace hh : Hid (daL s.data.toList = n + daL (s.data.toList.drop (i + 1))) := hh
            go_wp2_with fail
            go_roundg (s.size - (i + 1))
            case measure => omega
            case rel => exact ⟨i + 1, n, by omega, by omega, rfl, by go_num, rfl, hh, rfl⟩
    · have hI : ¬ ((i : Int) < (s.size : Int)) := by omega
      go_wp2_with fail
      go_ret
      have hh := hh.out
      rw [List.drop_eq_nil_of_le (by rw [len_of]; omega), daL] at hh
      exact ⟨by rw [hh]; rfl, rfl⟩
end Go.Proofs.YtlahlnocjfphjaaGreatDoor

namespace Go.Proofs.YtlahlnocjfphjaaGreatDoor.Lx
open Go.RowKit

/-- The table of greatest code points, as it lies in memory. -/
structure Tab (w : World) : Prop where
  t0 : w.cell? ⟨2, 0, none⟩ = some (.int .i64 127)
  t1 : w.cell? ⟨2, 1, none⟩ = some (.int .i64 2047)
  t2 : w.cell? ⟨2, 2, none⟩ = some (.int .i64 65535)
  t3 : w.cell? ⟨2, 3, none⟩ = some (.int .i64 1114111)

def surB (p : Int) : Bool := decide (55296 ≤ p) && decide (p ≤ 57343)

set_option maxHeartbeats 400000 in
theorem sur_any (p : Int) (w : World) :
    Calls Tryz.prog 134 #[.int .i64 p] w fun e w' => e = .returned (.bool (surB p)) ∧ w' = w := by
  by_cases h1 : 55296 ≤ p
  · by_cases h2 : p ≤ 57343
    · go_enter Tryz.func134, Tryz.ntmps134
      go_wp2
      go_ret
      exact ⟨by simp [surB, h1, h2], rfl⟩
    · go_enter Tryz.func134, Tryz.ntmps134
      go_wp2
      go_ret
      exact ⟨by simp [surB, h1, h2], rfl⟩
  · go_enter Tryz.func134, Tryz.ntmps134
    go_wp2
    go_ret
    exact ⟨by have : decide (55296 ≤ p) = false := by simpa using h1
              simp [surB, this], rfl⟩

def leastN (n : Int) : Int := if n = 1 then 0 else if n = 2 then 128 else if n = 3 then 2048 else 65536
def greatN (n : Int) : Int := if n = 1 then 127 else if n = 2 then 2047 else if n = 3 then 65535 else 1114111

set_option maxHeartbeats 400000 in
theorem least_any (n : Int) (w : World) (hT : Tab w) (h1 : 1 ≤ n) (h4 : n ≤ 4) :
    Calls Tryz.prog 133 #[.int .i64 n] w fun e w' => e = .returned (.int .i64 (leastN n)) ∧ w' = w := by
  obtain ⟨t0, t1, t2, t3⟩ := hT
  have hn : n = 1 ∨ n = 2 ∨ n = 3 ∨ n = 4 := by omega
  rcases hn with rfl | rfl | rfl | rfl
  all_goals
    go_enter Tryz.func133, Tryz.ntmps133
    go_wp2
    go_ret
    exact ⟨by rfl, rfl⟩

/-- The first byte: how many bytes it announces, and the bits that it gives. -/
def ldN (c : Int) : Int := if c < 128 then 1 else if c < 192 then 0 else if c < 224 then 2 else if c < 240 then 3 else if c < 248 then 4 else 0
def ldB (c : Int) : Int := if c < 128 then c else if c < 192 then 0 else if c < 224 then c % 32 else if c < 240 then c % 16 else if c < 248 then c % 8 else 0

theorem u8mask (c : Int) (m : Nat) (h0 : 0 ≤ c) (h1 : c < 256) (hm : m < 256) : bits .and .u8 c (m : Int) = ((c.toNat &&& m : Nat) : Int) := by
  rw [u8_and c m h0 h1 (by omega) (by omega)]; rfl
theorem u8m31 (c : Int) (h0 : 0 ≤ c) (h1 : c < 256) : bits .and .u8 c 31 = c % 32 := by
  rw [show (31 : Int) = ((31 : Nat) : Int) from rfl, u8mask c 31 h0 h1 (by omega), nat_mask5]; omega
theorem u8m15 (c : Int) (h0 : 0 ≤ c) (h1 : c < 256) : bits .and .u8 c 15 = c % 16 := by
  rw [show (15 : Int) = ((15 : Nat) : Int) from rfl, u8mask c 15 h0 h1 (by omega), nat_mask4]; omega
theorem u8m7 (c : Int) (h0 : 0 ≤ c) (h1 : c < 256) : bits .and .u8 c 7 = c % 8 := by
  rw [show (7 : Int) = ((7 : Nat) : Int) from rfl, u8mask c 7 h0 h1 (by omega), nat_mask3]; omega
theorem u8m63 (c : Int) (h0 : 0 ≤ c) (h1 : c < 256) : bits .and .u8 c 63 = c % 64 := by
  rw [show (63 : Int) = ((63 : Nat) : Int) from rfl, u8mask c 63 h0 h1 (by omega), nat_mask6]; omega

theorem ret2_int {k l : IntKind} {a b c d : Int} (h : a = b) (g : c = d) : Ending.returned (.tuple #[.int k a, .int l c]) = .returned (.tuple #[.int k b, .int l d]) := by rw [h, g]

set_option maxHeartbeats 400000 in
theorem lead_any (c : Int) (w : World) (h0 : 0 ≤ c) (h1 : c < 256) :
    Calls Tryz.prog 120 #[.int .u8 c] w fun e w' => e = .returned (.tuple #[.int .i64 (ldN c), .int .i64 (ldB c)]) ∧ w' = w := by
  go_enter Tryz.func120, Tryz.ntmps120
  go_wp2
  all_goals go_ret2
  all_goals exact ⟨ret2_int (by unfold ldN; split <;> omega) (by unfold ldB; split <;> omega), rfl⟩

def folB (c : Int) : Bool := decide (128 ≤ c) && decide (c ≤ 191)
set_option maxHeartbeats 400000 in
theorem follows_any (c : Int) (w : World) :
    Calls Tryz.prog 122 #[.int .u8 c] w fun e w' => e = .returned (.bool (folB c)) ∧ w' = w := by
  by_cases h1 : 128 ≤ c
  · by_cases h2 : c ≤ 191
    · go_enter Tryz.func122, Tryz.ntmps122
      go_wp2
      go_ret
      exact ⟨by simp [folB, h1, h2], rfl⟩
    · go_enter Tryz.func122, Tryz.ntmps122
      go_wp2
      go_ret
      exact ⟨by simp [folB, h1, h2], rfl⟩
  · go_enter Tryz.func122, Tryz.ntmps122
    go_wp2
    go_ret
    exact ⟨by have : decide (128 ≤ c) = false := by simpa using h1
              simp [folB, this], rfl⟩

def p64 (m : Int) : Int := if m = 0 then 1 else if m = 1 then 64 else if m = 2 then 4096 else 262144
end Go.Proofs.YtlahlnocjfphjaaGreatDoor.Lx
