/-
  A number's text is read as the number; what a text is read as may be; numbers compare as their values do. No condition.
  Numbers stand as their values do, and which number is a multiple of which. No condition.
  What dec.digitsAhead, dec.areDigits, dec.nought, dec.Check and ref3.digit, ref3.Check answer: which numbers may be. No condition.
  json.digitsAhead: how many digits a number has ahead of its exponent. No condition.
  What the small functions of package utf answer: isSurrogate, least, lead, follows. Conditions: the table of greatest code points holds its four numbers.
-/
import Derived.Test.YtjakgdaodlgeaaaGreatDoorJoined0
import Derived.Test.YtjakgdaodlgeaaaGreatDoorProg
import Derived.WalkKit
import Derived.WalkSpells
import Derived.WalkLawsBesides
import Derived.Deep.QuietTactic
import Derived.BigQuiet
import Derived.Deep.RegionWith
import Derived.Laws.BitsAllLaws
namespace Go.Proofs.YtjakgdaodlgeaaaGreatDoor

theorem tw_all (l : List UInt8) : (tw l).all isD = true := by
 induction l with
 | nil => rfl
 | cons c t ih =>
  by_cases h : isD c = true
  ·simp only [tw, List.takeWhile_cons, h, if_true, List.all_cons, Bool.true_and]; exact ih
  ·simp [tw, h]
theorem tw_append (l r : List UInt8) (h : l.all isD = true) (hr : ∀ c, r.head? = some c → isD c = false) : tw (l ++ r) = l ∧ dw (l ++ r) = r := by
 induction l with
 | nil =>
  cases r with
  | nil => exact ⟨rfl, rfl⟩
  | cons c t => have := hr c rfl; simp [tw, dw, this]
 | cons c t ih =>
  simp only [List.all_cons, Bool.and_eq_true] at h
  have := ih h.2
  simp only [List.cons_append, tw, dw, List.takeWhile_cons, List.dropWhile_cons, h.1, if_true]
  exact ⟨by rw [show List.takeWhile isD (t ++ r) = t from this.1], this.2⟩
theorem trimRight_id (l : List UInt8) (h : l.getLast? ≠ some 48) : Lib.trimRightB l 48 = l := by
 unfold Lib.trimRightB
 rw [← List.head?_reverse] at h
 cases e : l.reverse with
 | nil => rw [List.dropWhile_nil]; have := congrArg List.reverse e; simpa using this.symm
 | cons c t =>
  rw [e] at h
  have hc : ¬ c = 48 := by simpa using h
  have : (c == 48) = false := by simpa using hc
  rw [List.dropWhile_cons, this]
  simp only [Bool.false_eq_true, if_false]
  rw [← e, List.reverse_reverse]
theorem trimLeft_id (l : List UInt8) (h : l.head? ≠ some 48) : Lib.trimLeftB l 48 = l := by
 unfold Lib.trimLeftB
 cases l with
 | nil => rfl
 | cons c t =>
  have hc : ¬ c = 48 := by simpa using h
  have : (c == 48) = false := by simpa using hc
  rw [List.dropWhile_cons, this]
  simp
theorem dropWhile_head (l : List UInt8) : (l.dropWhile (· == 48)).head? ≠ some 48 := by
 induction l with
 | nil => simp
 | cons c t ih =>
  by_cases h : c = 48
  ·simp [h]; simpa using ih
  ·simp [h]
theorem trimRight_last (l : List UInt8) : (Lib.trimRightB l 48).getLast? ≠ some 48 := by
 unfold Lib.trimRightB
 rw [List.getLast?_reverse]
 exact dropWhile_head _
theorem trimLeft_last (l : List UInt8) (h : l.getLast? ≠ some 48) : (Lib.trimLeftB l 48).getLast? ≠ some 48 := by
 unfold Lib.trimLeftB
 induction l with
 | nil => simp
 | cons c t ih =>
  by_cases e : c = 48
  ·cases t with
   | nil => subst e; exact absurd rfl h
   | cons d u =>
    have := ih (by simpa using h)
    rw [e, List.dropWhile_cons]; simpa using this
  ·rw [List.dropWhile_cons, show (c == 48) = false by simpa using e]; simpa using h
theorem all_dropWhile (l : List UInt8) (p : UInt8 → Bool) (h : l.all isD = true) : (l.dropWhile p).all isD = true := by
 rw [List.all_eq_true] at h ⊢
 intro x hx
 exact h x ((List.dropWhile_sublist p).subset hx)
theorem all_reverse (l : List UInt8) (h : l.all isD = true) : l.reverse.all isD = true := by
 rw [List.all_reverse]; exact h
def PD (p : P3) : Prop := p.int.all isD = true ∧ p.frac.all isD = true ∧ p.exp.all isD = true
theorem fracL_pd {l f r : List UInt8} (h : fracL l = some (f, r)) : f.all isD = true := by
 unfold fracL at h
 split at h
 ·split at h
  ·cases h
  ·simp only [Option.some.injEq, Prod.mk.injEq] at h; rw [← h.1]; exact tw_all _
 ·simp only [Option.some.injEq, Prod.mk.injEq] at h; rw [← h.1]; rfl
theorem expL_pd {l x r : List UInt8} {m : Bool} (h : expL l = some (m, x, r)) : x.all isD = true := by
 unfold expL at h
 split at h
 ·split at h
  ·cases h
  ·simp only [Option.some.injEq, Prod.mk.injEq] at h; rw [← h.2.1]; exact tw_all _
 ·simp only [Option.some.injEq, Prod.mk.injEq] at h; rw [← h.2.1]; rfl
theorem behindL_pd {neg : Bool} {w l r : List UInt8} {p : P3} (hw : w.all isD = true) (h : behindL neg w l = some (p, r)) : PD p := by
 unfold behindL at h
 split at h
 ·cases h
 ·rename_i f l3 hf
  split at h
  ·cases h
  ·rename_i m x r' hx
   simp only [Option.some.injEq, Prod.mk.injEq] at h
   rw [← h.1]
   exact ⟨hw, fracL_pd hf, expL_pd hx⟩
theorem cutL_pd {l : List UInt8} {p : P3} (h : cutL l = some p) : PD p := by
 unfold cutL at h
 split at h
 ·cases h
 ·unfold wholeL at h
  split at h
  ·cases h
  ·rename_i p' r hb
   split at h
   ·cases h; exact behindL_pd (tw_all _) hb
   ·cases h
theorem value_good {p : P3} {d : D3} {C : Int} (hp : PD p) (h : valueL C p = some d) : Good d := by
 unfold valueL at h
 split at h
 ·cases h
 ·rename_i h1
  split at h
  ·cases h; exact .inl ⟨rfl, rfl, rfl⟩
  ·rename_i h2
   split at h
   ·cases h
   ·rename_i h3
    cases h
    have ha : (allOf p).all isD = true := by unfold allOf; rw [List.all_append, hp.1, hp.2.1]; rfl
    have hu : (upOf p).all isD = true := all_reverse _ (all_dropWhile _ _ (all_reverse _ ha))
    have l1 : (upOf p).length ≤ (allOf p).length := trimRight_le _ _
    have l2 : (dgOf p).length ≤ (upOf p).length := (List.dropWhile_suffix _).length_le
    refine .inr ⟨⟨h2, by show (dgOf p).length ≤ 65536; omega, all_dropWhile _ _ hu, dropWhile_head _, trimLeft_last _ (trimRight_last _)⟩, ?_, ?_⟩
    ·show -1000000 ≤ exOf C p; omega
    ·show exOf C p ≤ 1000000; omega
theorem parse_good {l : List UInt8} (h : (parseL l).1 = 0) : Good (parseL l).2 := by
 unfold parseL at h ⊢
 cases hc : cutL l with
 | none => rw [hc] at h; exact absurd h (by decide)
 | some p =>
  rw [hc] at h
  cases hv : valueL 1131072 p with
  | none => simp only [hv] at h; exact absurd h (by decide)
  | some d => simp only [hv]; exact value_good (cutL_pd hc) hv
theorem parse_bad {l : List UInt8} (h : (parseL l).1 ≠ 0) : (parseL l).2 = zeroD := by
 unfold parseL at h ⊢
 cases hc : cutL l with
 | none => rfl
 | some p =>
  rw [hc] at h
  cases hv : valueL 1131072 p with
  | none => simp only [hv]
  | some d => simp only [hv] at h; exact absurd rfl h
def sufL (e : Int) : List UInt8 := if e = 0 then [] else 101 :: Lib.itoa e
def textL (d : D3) : List UInt8 := if d.dg = [] then [48] else (if d.neg = true then 45 :: d.dg else d.dg) ++ sufL d.ex
end Go.Proofs.YtjakgdaodlgeaaaGreatDoor

namespace Go.Proofs.YtjakgdaodlgeaaaGreatDoor

/-! Multiples -/
end Go.Proofs.YtjakgdaodlgeaaaGreatDoor

namespace Go.Proofs.YtjakgdaodlgeaaaGreatDoor
open Go.RowKit

def cx (s : ByteArray) (i : Nat) : Int := if h : i < s.size then ((s[i]'h).toNat : Int) else 0
theorem cx_at (s : ByteArray) (i : Nat) (h : i < s.size) : ((s[i]'h).toNat : Int) = cx s i := by simp [cx, h]
theorem len_of (s : ByteArray) : s.data.toList.length = s.size := Array.length_toList
theorem cx_get (s : ByteArray) (i : Nat) (h : i < s.size) : ∃ b : UInt8, s.data.toList[i]? = some b ∧ (b.toNat : Int) = cx s i := by
 refine ⟨s[i]'h, ?_, cx_at s i h⟩
 rw [Array.getElem?_toList]
 exact Array.getElem?_eq_getElem h
theorem cx_bd (s : ByteArray) (i : Nat) : 0 ≤ cx s i ∧ cx s i < 256 := by
 unfold cx
 split
 ·rename_i h; have := UInt8.toNat_lt (s[i]'h); omega
 ·omega
theorem tw_len (l : List UInt8) (k : Nat) (hk : k ≤ l.length) (h1 : ∀ (j : Nat) b, j < k → l[j]? = some b → isD b = true) (h2 : ∀ b, l[k]? = some b → isD b = false) : tw l = l.take k ∧ dw l = l.drop k := by
 have e : l = l.take k ++ l.drop k := (List.take_append_drop k l).symm
 have h3 : (l.take k).all isD = true := by
  rw [List.all_eq_true]
  intro x hx
  obtain ⟨j, hj, rfl⟩ := List.getElem_of_mem hx
  rw [List.length_take] at hj
  exact h1 j _ (by omega) (by rw [List.getElem_take]; exact List.getElem?_eq_getElem (by omega))
 have h4 := tw_append (l.take k) (l.drop k) h3 (fun c hc => h2 c (by rw [← hc, List.head?_drop]))
 rw [← e] at h4
 exact h4
def Ahead (s : ByteArray) (k : Nat) : Prop := k ≤ s.size ∧ tw s.data.toList = s.data.toList.take k ∧ dw s.data.toList = s.data.toList.drop k
theorem ahead_of (s : ByteArray) (k : Nat) (hk : k ≤ s.size) (h1 : ∀ j, j < k → 48 ≤ cx s j ∧ cx s j ≤ 57) (h2 : k < s.size → ¬ (48 ≤ cx s k ∧ cx s k ≤ 57)) : Ahead s k := by
 refine ⟨hk, tw_len _ k (by rw [len_of]; exact hk) (fun j b hj hb => ?_) (fun b hb => ?_)⟩
 ·obtain ⟨b', hb', hc⟩ := cx_get s j (by omega)
  rw [hb'] at hb
  have hb := Option.some.inj hb
  subst hb
  have := h1 j hj
  rw [isD_iff]; omega
 ·by_cases e : k < s.size
  ·obtain ⟨b', hb', hc⟩ := cx_get s k e
   rw [hb'] at hb
   have hb := Option.some.inj hb
   subst hb
   have := h2 e
   have : ¬ isD b' = true := by rw [isD_iff]; omega
   simpa using this
  ·rw [List.getElem?_eq_none (by rw [len_of]; omega)] at hb; cases hb
theorem Ahead.len {s : ByteArray} {k : Nat} (h : Ahead s k) : (tw s.data.toList).length = k := by rw [h.2.1, List.length_take, len_of]; have := h.1; omega
set_option maxHeartbeats 400000 in
theorem ahead_any (s : ByteArray) (w : World) (hs : s.size ≤ maxLen) :
  Calls Tryz.prog 151 #[.string s] w fun e w' => (∃ k : Nat, e = .returned (.int .i64 k) ∧ Ahead s k) ∧ w = w' := by
 unfold maxLen at hs
 go_enter Tryz.func151, Tryz.ntmps151
 go_wp2
 go_loop [3] (fun n => ∃ k : Nat, k ≤ s.size ∧ n = .int .i64 k ∧ Hid (∀ j, j < k → 48 ≤ cx s j ∧ cx s j ≤ 57)) (fun n => s.size - (intOf n).toNat)
 case atStart => exact ⟨0, Nat.zero_le _, rfl, fun j hj => absurd hj (by omega)⟩
 case round =>
  obtain ⟨k, hk, rfl, HK⟩ := hrel
  by_cases hlt : k < s.size
  ·have hI : (k : Int) < (s.size : Int) := by omega
   have hx := cx_at s k hlt
   by_cases h1 : cx s k < 48
   ·have HA : Hid (Ahead s k) := ahead_of s k hk HK.out (fun _ => by omega)
    have h1' : decide (48 ≤ cx s k) = false := decide_eq_false (by omega)
    generalize cx s k = x at *
    clear HK
    go_wp2
    go_ret
    exact ⟨⟨k, rfl, HA.out⟩, rfl⟩
   ·by_cases h2 : 57 < cx s k
    ·have HA : Hid (Ahead s k) := ahead_of s k hk HK.out (fun _ => by omega)
     generalize cx s k = x at *
     clear HK
     go_wp2
     go_ret
     exact ⟨⟨k, rfl, HA.out⟩, rfl⟩
    ·have HK2 : Hid (∀ j, j < k + 1 → 48 ≤ cx s j ∧ cx s j ≤ 57) := fun j hj => by
      by_cases e : j = k
      ·rw [e]; omega
      ·exact HK.out j (by omega)
     clear HK
     obtain ⟨x, hxx⟩ : ∃ x, cx s k = x := ⟨_, rfl⟩
     rw [hxx] at hx h1 h2
     clear hxx
     go_wp2
     go_round
     case rel => exact ⟨k + 1, by omega, by go_num, HK2⟩
     case measure => simp [intOf]; omega
  ·have e : k = s.size := by omega
   subst e
   have HA : Hid (Ahead s s.size) := ahead_of s s.size (Nat.le_refl _) HK.out (fun h => absurd h (by omega))
   clear HK
   go_wp2
   go_ret
   exact ⟨⟨s.size, rfl, HA.out⟩, rfl⟩
theorem nil_size (s : ByteArray) : s.data.toList = [] ↔ s.size = 0 := by
 rw [← len_of, List.length_eq_zero_iff]
theorem Ahead.all {s : ByteArray} {k : Nat} (h : Ahead s k) : s.data.toList.all isD = true ↔ k = s.size := by
 constructor
 ·intro ha
  have := (tw_append s.data.toList [] ha (by simp)).1
  rw [List.append_nil] at this
  have hl := h.len
  rw [this, len_of] at hl
  exact hl.symm
 ·intro hk
  have := tw_all s.data.toList
  rw [h.2.1, hk, ← len_of, List.take_length] at this
  exact this
theorem nought_any (w : World) : Calls Tryz.prog 147 #[] w fun e w' => e = .returned (.agg #[.bool false, .string ⟨#[]⟩, .int .i64 0]) ∧ w' = w.alloc (.cells #[.bool false, .string ⟨#[]⟩, .int .i64 0] 27) := by
 go_enter Tryz.func147, Tryz.ntmps147
 go_wp2
 exact bodyPost_ret (v := .agg #[.bool false, .string ⟨#[]⟩, .int .i64 0]) (by simp [results, Tryz.results147, go_sem]) rfl ⟨rfl, rfl⟩
end Go.Proofs.YtjakgdaodlgeaaaGreatDoor

namespace Go.Proofs.YtjakgdaodlgeaaaGreatDoor
open Go.RowKit

def daL : List UInt8 → Nat
 | [] => 0
 | c :: l => if c = 101 ∨ c = 69 then 0 else if isD c = true then daL l + 1 else daL l
theorem daL_le (l : List UInt8) : daL l ≤ l.length := by
 induction l with
 | nil => exact Nat.le_refl _
 | cons c l ih =>
  rw [daL]
  split
  ·exact Nat.zero_le _
  ·split <;> simp only [List.length_cons] <;> omega
theorem da_step (s : ByteArray) (i : Nat) (h : i < s.size) : daL (s.data.toList.drop i) = if cx s i = 101 ∨ cx s i = 69 then 0 else if 48 ≤ cx s i ∧ cx s i ≤ 57 then daL (s.data.toList.drop (i + 1)) + 1 else daL (s.data.toList.drop (i + 1)) := by
 obtain ⟨b, hb, hc⟩ := cx_get s i h
 have hl : i < s.data.toList.length := by rw [len_of]; exact h
 rw [List.drop_eq_getElem_cons hl, daL]
 have e : s.data.toList[i] = b := by rw [List.getElem?_eq_getElem hl] at hb; exact Option.some.inj hb
 rw [e, ← hc]
 have k : ∀ n : UInt8, b = n ↔ (b.toNat : Int) = (n.toNat : Int) := fun n => ⟨fun h => by rw [h], fun h => UInt8.toNat_inj.1 (by omega)⟩
 have k1 := k 101
 have k2 := k 69
 have k3 := isD_iff b
 simp only [k1, k2]
 have c1 : ((101 : UInt8).toNat : Int) = 101 := rfl
 have c2 : ((69 : UInt8).toNat : Int) = 69 := rfl
 rw [c1, c2]
 have e3 : ((48 : Int) ≤ (b.toNat : Int) ∧ (b.toNat : Int) ≤ 57) ↔ isD b = true := by rw [k3]; omega
 simp only [e3]
set_option maxRecDepth 100000 in
set_option maxHeartbeats 1600000 in
theorem digitsAhead_any (s : ByteArray) (w : World) (hs : s.size ≤ maxLen) : Calls Tryz.prog 131 #[.string s] w fun r w' => r = .returned (.int .i64 (daL s.data.toList : Nat)) ∧ w' = w := by
 have hm : (s.size : Int) ≤ 9223372036854775807 := by unfold maxLen at hs; omega
 go_enter Tryz.func131, Tryz.ntmps131
 go_wp2_with fail
 go_loopg [3, 8] s.size (fun g s3 s8 wr => ∃ i n : Nat, i ≤ s.size ∧ n ≤ i ∧ g = s.size - i ∧ s8 = .int .i64 (i : Int) ∧ s3 = .int .i64 (n : Int) ∧ Hid (daL s.data.toList = n + daL (s.data.toList.drop i)) ∧ wr = w)
 case atStart => exact ⟨0, 0, Nat.zero_le _, Nat.le_refl _, rfl, rfl, rfl, (by rw [List.drop_zero, Nat.zero_add]; exact rfl : Hid _), rfl⟩
 case round =>
  obtain ⟨i, n, hi, hn, rfl, rfl, rfl, hh, rfl⟩ := hrel
  by_cases h : i < s.size
  ·have hI : (i : Int) < (s.size : Int) := by omega
   have hcx := cx_at s i h
   have hbd := cx_bd s i
   have hst := da_step s i h
   have hh := hh.out
   rw [hst] at hh
   clear hst
   generalize cx s i = c at *
   by_cases h1 : c = 101
   ·subst h1
    rw [if_pos (Or.inl rfl)] at hh
    replace hh : Hid (daL s.data.toList = n + 0) := hh
    go_wp2_with fail
    go_ret
    exact ⟨by rw [hh.out]; rfl, rfl⟩
   ·by_cases h2 : c = 69
    ·subst h2
     rw [if_pos (Or.inr rfl)] at hh
     replace hh : Hid (daL s.data.toList = n + 0) := hh
     go_wp2_with fail
     go_ret
     exact ⟨by rw [hh.out]; rfl, rfl⟩
    ·rw [if_neg (by omega)] at hh
     have h1' : (c == 101) = false := beq_eq_false_iff_ne.2 h1
     have h2' : (c == 69) = false := beq_eq_false_iff_ne.2 h2
     by_cases h3 : 48 ≤ c
     ·by_cases h4 : c ≤ 57
      ·rw [if_pos ⟨h3, h4⟩] at hh
       replace hh : Hid (daL s.data.toList = (n + 1) + daL (s.data.toList.drop (i + 1))) := by show _ = _; omega
       go_wp2_with fail
       go_roundg (s.size - (i + 1))
       case measure => omega
       case rel => exact ⟨i + 1, n + 1, by omega, by omega, rfl, by go_num, by go_num, hh, rfl⟩
      ·rw [if_neg (fun h => h4 h.2)] at hh
       replace hh : Hid (daL s.data.toList = n + daL (s.data.toList.drop (i + 1))) := hh
       go_wp2_with fail
       go_roundg (s.size - (i + 1))
       case measure => omega
       case rel => exact ⟨i + 1, n, by omega, by omega, rfl, by go_num, rfl, hh, rfl⟩
     ·rw [if_neg (fun h => h3 h.1)] at hh
      replace hh : Hid (daL s.data.toList = n + daL (s.data.toList.drop (i + 1))) := hh
      go_wp2_with fail
      go_roundg (s.size - (i + 1))
      case measure => omega
      case rel => exact ⟨i + 1, n, by omega, by omega, rfl, by go_num, rfl, hh, rfl⟩
  ·have hI : ¬ ((i : Int) < (s.size : Int)) := by omega
   go_wp2_with fail
   go_ret
   have hh := hh.out
   rw [List.drop_eq_nil_of_le (by rw [len_of]; omega), daL] at hh
   exact ⟨by rw [hh]; rfl, rfl⟩
end Go.Proofs.YtjakgdaodlgeaaaGreatDoor

namespace Go.Proofs.YtjakgdaodlgeaaaGreatDoor.Lx
open Go.RowKit

structure Tab (w : World) : Prop where
  t0 : w.cell? ⟨2, 0, none⟩ = some (.int .i64 127)
  t1 : w.cell? ⟨2, 1, none⟩ = some (.int .i64 2047)
  t2 : w.cell? ⟨2, 2, none⟩ = some (.int .i64 65535)
  t3 : w.cell? ⟨2, 3, none⟩ = some (.int .i64 1114111)
def surB (p : Int) : Bool := decide (55296 ≤ p) && decide (p ≤ 57343)
set_option maxHeartbeats 400000 in
theorem sur_any (p : Int) (w : World) :
    Calls Tryz.prog 134 #[.int .i64 p] w fun e w' => e = .returned (.bool (surB p)) ∧ w' = w := by
  by_cases h1 : 55296 ≤ p
  · by_cases h2 : p ≤ 57343
    · go_enter Tryz.func134, Tryz.ntmps134
      go_wp2
      go_ret
      exact ⟨by simp [surB, h1, h2], rfl⟩
    · go_enter Tryz.func134, Tryz.ntmps134
      go_wp2
      go_ret
      exact ⟨by simp [surB, h1, h2], rfl⟩
  · go_enter Tryz.func134, Tryz.ntmps134
    go_wp2
    go_ret
    exact ⟨by have : decide (55296 ≤ p) = false := by simpa using h1
              simp [surB, this], rfl⟩
def leastN (n : Int) : Int := if n = 1 then 0 else if n = 2 then 128 else if n = 3 then 2048 else 65536
def greatN (n : Int) : Int := if n = 1 then 127 else if n = 2 then 2047 else if n = 3 then 65535 else 1114111
set_option maxHeartbeats 400000 in
theorem least_any (n : Int) (w : World) (hT : Tab w) (h1 : 1 ≤ n) (h4 : n ≤ 4) :
    Calls Tryz.prog 133 #[.int .i64 n] w fun e w' => e = .returned (.int .i64 (leastN n)) ∧ w' = w := by
  obtain ⟨t0, t1, t2, t3⟩ := hT
  have hn : n = 1 ∨ n = 2 ∨ n = 3 ∨ n = 4 := by omega
  rcases hn with rfl | rfl | rfl | rfl
  all_goals
    go_enter Tryz.func133, Tryz.ntmps133
    go_wp2
    go_ret
    exact ⟨by rfl, rfl⟩
def ldN (c : Int) : Int := if c < 128 then 1 else if c < 192 then 0 else if c < 224 then 2 else if c < 240 then 3 else if c < 248 then 4 else 0
def ldB (c : Int) : Int := if c < 128 then c else if c < 192 then 0 else if c < 224 then c % 32 else if c < 240 then c % 16 else if c < 248 then c % 8 else 0
theorem ret2_int {k l : IntKind} {a b c d : Int} (h : a = b) (g : c = d) : Ending.returned (.tuple #[.int k a, .int l c]) = .returned (.tuple #[.int k b, .int l d]) := by rw [h, g]
set_option maxHeartbeats 400000 in
theorem lead_any (c : Int) (w : World) (h0 : 0 ≤ c) (h1 : c < 256) :
    Calls Tryz.prog 120 #[.int .u8 c] w fun e w' => e = .returned (.tuple #[.int .i64 (ldN c), .int .i64 (ldB c)]) ∧ w' = w := by
  go_enter Tryz.func120, Tryz.ntmps120
  go_wp2
  all_goals go_ret2
  all_goals exact ⟨ret2_int (by unfold ldN; split <;> omega) (by unfold ldB; split <;> omega), rfl⟩
def folB (c : Int) : Bool := decide (128 ≤ c) && decide (c ≤ 191)
set_option maxHeartbeats 400000 in
theorem follows_any (c : Int) (w : World) :
    Calls Tryz.prog 122 #[.int .u8 c] w fun e w' => e = .returned (.bool (folB c)) ∧ w' = w := by
  by_cases h1 : 128 ≤ c
  · by_cases h2 : c ≤ 191
    · go_enter Tryz.func122, Tryz.ntmps122
      go_wp2
      go_ret
      exact ⟨by simp [folB, h1, h2], rfl⟩
    · go_enter Tryz.func122, Tryz.ntmps122
      go_wp2
      go_ret
      exact ⟨by simp [folB, h1, h2], rfl⟩
  · go_enter Tryz.func122, Tryz.ntmps122
    go_wp2
    go_ret
    exact ⟨by have : decide (128 ≤ c) = false := by simpa using h1
              simp [folB, this], rfl⟩
def p64 (m : Int) : Int := if m = 0 then 1 else if m = 1 then 64 else if m = 2 then 4096 else 262144
end Go.Proofs.YtjakgdaodlgeaaaGreatDoor.Lx
