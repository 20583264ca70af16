/-
  What utf.Put and ref.Put answer: the bytes of a code point behind what stands there. Conditions: the table of greatest code points holds its four numbers; what stands there is at most 2^47 - 4096 bytes long.
  What utf.Put and ref.Put answer: the bytes of a code point behind what stands there. Conditions: the table of greatest code points holds its four numbers; what stands there is at most 2^47 - 4096 bytes long.
  What utf.Pair, lex.hex, lex.someNotLow, lex.someLow and the test of lex.unit answer. Conditions: the table of greatest code points holds its four numbers.
-/
import Derived.Test.YtjdboekanmfgpaaGreatDoorJoined7
import Derived.Test.YtjdboekanmfgpaaGreatDoorJoined9
namespace Go.Proofs.YtjdboekanmfgpaaGreatDoor.Lx
open Go.RowKit

/-- Is it a code point? -/
def ptB (p : Int) : Bool := decide (0 ≤ p ∧ p ≤ 1114111 ∧ ¬ (55296 ≤ p ∧ p ≤ 57343))

set_option maxHeartbeats 400000 in
theorem isPoint_any (p : Int) (w : World) (hT : Tab w) :
  Calls Tryz.prog 236 #[.int .i64 p] w fun e w' => e = .returned (.bool (ptB p)) ∧ w = w' := by
 have t3 := hT.t3
 have hs : ∀ w, Calls Tryz.prog 183 #[.int .i64 p] w fun e w' => e = .returned (.bool (surB p)) ∧ w = w' := fun w => (sur_any p w).mono fun e w' h => ⟨h.1, h.2.symm⟩
 by_cases h1 : 0 ≤ p
 ·by_cases h2 : p ≤ 1114111
  ·have e : (!surB p) = ptB p := by
    rw [Bool.eq_iff_iff, not_sur, ptB, decide_eq_true_iff]; omega
   go_enter Tryz.func236, Tryz.ntmps236
   go_wp2_with (go_at_call 183; refine (hs _).mono ?_; rintro e w' ⟨rfl, rfl⟩)
   go_ret
   exact ⟨ret_bool (by first | exact e | rfl), rfl⟩
  ·have e : false = ptB p := (decide_eq_false (by omega)).symm
   have HE : Hid (false = ptB p) := e
   clear e
   go_enter Tryz.func236, Tryz.ntmps236
   go_wp2_with (go_at_call 183; refine (hs _).mono ?_; rintro e w' ⟨rfl, rfl⟩)
   go_ret
   exact ⟨ret_bool HE.out, rfl⟩
 ·have e : false = ptB p := (decide_eq_false (by omega)).symm
  have HE : Hid (false = ptB p) := e
  clear e
  go_enter Tryz.func236, Tryz.ntmps236
  go_wp2_with (go_at_call 183; refine (hs _).mono ?_; rintro e w' ⟨rfl, rfl⟩)
  go_ret
  exact ⟨ret_bool HE.out, rfl⟩

set_option maxHeartbeats 400000 in
theorem length_any (p : Int) (w : World) (hT : Tab w) :
  Calls Tryz.prog 237 #[.int .i64 p] w fun e w' => e = .returned (.int .i64 (encN p : Nat)) ∧ w = w' := by
 obtain ⟨t0, t1, t2, t3⟩ := hT
 by_cases h1 : p < 128
 ·have HE : Hid (((encN p : Nat) : Int) = 1) := by show _ = _; simp [encN, h1]
  have k : ¬ 127 < p := by omega
  go_enter Tryz.func237, Tryz.ntmps237
  go_wp2
  refine wp_loop_rounds 1 ?_
  rw [rounds_succ]
  go_wp2
  go_ret
  exact ⟨ret_int HE.out.symm, rfl⟩
 ·have k1 : 127 < p := by omega
  by_cases h2 : p < 2048
  ·have HE : Hid (((encN p : Nat) : Int) = 2) := by show _ = _; simp [encN, h1, h2]
   have k : ¬ 2047 < p := by omega
   go_enter Tryz.func237, Tryz.ntmps237
   go_wp2
   refine wp_loop_rounds 2 ?_
   rw [rounds_succ]
   go_wp2
   rw [rounds_succ]
   go_wp2
   go_ret
   exact ⟨ret_int HE.out.symm, rfl⟩
  ·have k2 : 2047 < p := by omega
   by_cases h3 : p < 65536
   ·have HE : Hid (((encN p : Nat) : Int) = 3) := by show _ = _; simp [encN, h1, h2, h3]
    have k : ¬ 65535 < p := by omega
    go_enter Tryz.func237, Tryz.ntmps237
    go_wp2
    refine wp_loop_rounds 3 ?_
    rw [rounds_succ]
    go_wp2
    rw [rounds_succ]
    go_wp2
    rw [rounds_succ]
    go_wp2
    go_ret
    exact ⟨ret_int HE.out.symm, rfl⟩
   ·have HE : Hid (((encN p : Nat) : Int) = 4) := by show _ = _; simp [encN, h1, h2, h3]
    have k : 65535 < p := by omega
    go_enter Tryz.func237, Tryz.ntmps237
    go_wp2
    refine wp_loop_rounds 4 ?_
    rw [rounds_succ]
    go_wp2
    rw [rounds_succ]
    go_wp2
    rw [rounds_succ]
    go_wp2
    rw [rounds_succ]
    go_wp2
    go_ret
    exact ⟨ret_int HE.out.symm, rfl⟩
end Go.Proofs.YtjdboekanmfgpaaGreatDoor.Lx

namespace Go.Proofs.YtjdboekanmfgpaaGreatDoor.Lx
open Go.RowKit

theorem own_mono {w : World} {B B' : Nat} {e : TypeId} {size : Nat} {v : Value} {n : Nat} {xs : List Value} (h : w.ownsRow B e size v n xs) (hB : B' ≤ B) : w.ownsRow B' e size v n xs := by
 obtain ⟨h1, h2⟩ := h
 refine ⟨h1, ?_⟩
 rcases h2 with h2 | ⟨g, cap, cur, a, b, c⟩
 ·exact .inl h2
 ·exact .inr ⟨g, cap, cur, a, by omega, c⟩

theorem ptB_iff (p : Int) : ptB p = true ↔ (0 ≤ p ∧ p ≤ 1114111 ∧ ¬ (55296 ≤ p ∧ p ≤ 57343)) := by rw [ptB, decide_eq_true_iff]

set_option maxHeartbeats 400000 in
theorem put_bad (v0 : Value) (p : Int) (w : World) (hT : Tab w) (hp : ptB p = false) :
  Calls Tryz.prog 222 #[v0, .int .i64 p] w fun e w' => e = .returned (.tuple #[.slice none 0 0, .int .i64 2]) ∧ w = w' := by
 have h := isPoint_any p w hT
 rw [hp] at h
 go_enter Tryz.func222, Tryz.ntmps222
 go_wp2_with (go_at_call 236; refine h.mono ?_; rintro e w' ⟨rfl, rfl⟩)
 go_ret2
 exact ⟨rfl, rfl⟩

/-- The bytes of a code point in a new block. -/
theorem enc_row1 (w : World) (p : Int) (h0 : 0 ≤ p) (h : p < 128) : Row (w.alloc (.cells #[.int .u8 p] 5)) (.slice (some ⟨w.heap.size, 0, none⟩) 1 1) 1 (encF p) := by
 refine .inr ⟨_, _, 1, rfl, by omega, by simp [maxLen], ⟨fun i hi => ?_, encF_lo p h0 (by omega), encF_hi p h0 (by omega)⟩⟩
 match i, hi with
 | 0, _ => simp [encF, h]
theorem enc_row2 (w : World) (p : Int) (h0 : 128 ≤ p) (h : p < 2048) : Row (w.alloc (.cells #[.int .u8 (192 + p / 64), .int .u8 (128 + p % 64)] 5)) (.slice (some ⟨w.heap.size, 0, none⟩) 2 2) 2 (encF p) := by
 refine .inr ⟨_, _, 2, rfl, by omega, by simp [maxLen], ⟨fun i hi => ?_, encF_lo p (by omega) (by omega), encF_hi p (by omega) (by omega)⟩⟩
 have k1 : ¬ p < 128 := by omega
 match i, hi with
 | 0, _ => simp [encF, h, k1]
 | 1, _ => simp [encF, h, k1]
theorem enc_row3 (w : World) (p : Int) (h0 : 2048 ≤ p) (h : p < 65536) : Row (w.alloc (.cells #[.int .u8 (224 + p / 4096), .int .u8 (128 + p / 64 % 64), .int .u8 (128 + p % 64)] 5)) (.slice (some ⟨w.heap.size, 0, none⟩) 3 3) 3 (encF p) := by
 refine .inr ⟨_, _, 3, rfl, by omega, by simp [maxLen], ⟨fun i hi => ?_, encF_lo p (by omega) (by omega), encF_hi p (by omega) (by omega)⟩⟩
 have k1 : ¬ p < 128 := by omega
 have k2 : ¬ p < 2048 := by omega
 match i, hi with
 | 0, _ => simp [encF, h, k1, k2]
 | 1, _ => simp [encF, h, k1, k2]
 | 2, _ => simp [encF, h, k1, k2]
theorem enc_row4 (w : World) (p : Int) (h0 : 65536 ≤ p) (h : p ≤ 1114111) : Row (w.alloc (.cells #[.int .u8 (240 + p / 262144), .int .u8 (128 + p / 4096 % 64), .int .u8 (128 + p / 64 % 64), .int .u8 (128 + p % 64)] 5)) (.slice (some ⟨w.heap.size, 0, none⟩) 4 4) 4 (encF p) := by
 refine .inr ⟨_, _, 4, rfl, by omega, by simp [maxLen], ⟨fun i hi => ?_, encF_lo p (by omega) (by omega), encF_hi p (by omega) (by omega)⟩⟩
 have k1 : ¬ p < 128 := by omega
 have k2 : ¬ p < 2048 := by omega
 have k3 : ¬ p < 65536 := by omega
 match i, hi with
 | 0, _ => simp [encF, k1, k2, k3]
 | 1, _ => simp [encF, k1, k2, k3]
 | 2, _ => simp [encF, k1, k2, k3]
 | 3, _ => simp [encF, k1, k2, k3]

/-- What utf.Put answers of a code point. -/
def PutOk (v0 : Value) (n : Nat) (f : Nat → Int) (p : Int) (w : World) : Prop :=
 Calls Tryz.prog 222 #[v0, .int .i64 p] w fun e w' => ∃ r, e = .returned (.tuple #[r, .int .i64 0]) ∧ w'.ownsRow w.heap.size 5 1 r (n + encN p) (vals (n + encN p) (catF n f (encF p))) ∧ Below w.heap.size w w'

/-- What utf.joined leaves, from the world ahead of the new block. -/
theorem joined_new (v0 v1 : Value) (n m : Nat) (f g : Nat → Int) (w : World) (o : Obj) (h0 : Row w v0 n f) (h1 : Row (w.alloc o) v1 m g) (hb : n + m ≤ 140737488355328) :
  Calls Tryz.prog 238 #[v0, v1] (w.alloc o) fun e w' => ∃ r, e = .returned r ∧ w'.ownsRow w.heap.size 5 1 r (n + m) (vals (n + m) (catF n f g)) ∧ Below w.heap.size w w' := by
 refine (joined_any v0 v1 n m f g (w.alloc o) (h0.alloc o) h1 hb).mono ?_
 rintro e w' ⟨r, h1, h2, h3⟩
 exact ⟨r, h1, own_mono h2 (by simp), ((Below.refl _ _).alloc (Nat.le_refl _) o).trans (h3.mono (by simp))⟩

set_option maxHeartbeats 400000 in
theorem put_ok1 (v0 : Value) (n : Nat) (f : Nat → Int) (p : Int) (w : World) (hT : Tab w) (hp : ptB p = true) (hR : Row w v0 n f) (hb : n + 4 ≤ 140737488355328) (h : p < 128) : PutOk v0 n f p w := by
 obtain ⟨q0, q1, q2⟩ := (ptB_iff p).1 hp
 have hi := isPoint_any p w hT
 have hl := length_any p w hT
 have e : encN p = 1 := by simp [encN, h]
 have hj := joined_new v0 _ n 1 f (encF p) w _ hR (enc_row1 w p q0 h) (by omega)
 unfold PutOk
 rw [e] at hl ⊢
 rw [hp] at hi
 clear e hp
 go_enter Tryz.func222, Tryz.ntmps222
 go_wp2_with (first | (go_at_call 236; refine hi.mono ?_; rintro e w' ⟨rfl, rfl⟩) | (go_at_call 237; refine hl.mono ?_; rintro e w' ⟨rfl, rfl⟩) | (go_at_call 238; refine hj.mono ?_; rintro e w' ⟨r, rfl, ho, hbl⟩))
 go_ret2
 exact ⟨_, rfl, ho, hbl⟩

set_option maxHeartbeats 400000 in
theorem put_ok2 (v0 : Value) (n : Nat) (f : Nat → Int) (p : Int) (w : World) (hT : Tab w) (hp : ptB p = true) (hR : Row w v0 n f) (hb : n + 4 ≤ 140737488355328) (h0 : 128 ≤ p) (h : p < 2048) : PutOk v0 n f p w := by
 have hi := isPoint_any p w hT
 have hl := length_any p w hT
 have k : ¬ p < 128 := by omega
 have e : encN p = 2 := by simp [encN, h, k]
 have hj := joined_new v0 _ n 2 f (encF p) w _ hR (enc_row2 w p h0 h) (by omega)
 have hf := follower_any p w (by omega) (by omega)
 have e2 := or192 (p / 64) (by omega) (by omega)
 unfold PutOk
 rw [e] at hl ⊢
 rw [hp] at hi
 clear e hp
 go_enter Tryz.func222, Tryz.ntmps222
 go_wp2_with (first | (go_at_call 236; refine hi.mono ?_; rintro e w' ⟨rfl, rfl⟩) | (go_at_call 237; refine hl.mono ?_; rintro e w' ⟨rfl, rfl⟩) | (go_at_call 239; refine hf.mono ?_; rintro e w' ⟨rfl, rfl⟩))
 refine hj.mono ?_
 rintro e w' ⟨r, rfl, ho, hbl⟩
 go_wp2
 go_ret2
 exact ⟨_, rfl, ho, hbl⟩

set_option maxHeartbeats 400000 in
theorem put_ok3 (v0 : Value) (n : Nat) (f : Nat → Int) (p : Int) (w : World) (hT : Tab w) (hp : ptB p = true) (hR : Row w v0 n f) (hb : n + 4 ≤ 140737488355328) (h0 : 2048 ≤ p) (h : p < 65536) : PutOk v0 n f p w := by
 have hi := isPoint_any p w hT
 have hl := length_any p w hT
 have k1 : ¬ p < 128 := by omega
 have k2 : ¬ p < 2048 := by omega
 have e : encN p = 3 := by simp [encN, h, k1, k2]
 have hj := joined_new v0 _ n 3 f (encF p) w _ hR (enc_row3 w p h0 h) (by omega)
 have hf := follower_any p w (by omega) (by omega)
 have hf6 := follower_any (p / 64) w (by omega) (by omega)
 have e2 := or224 (p / 4096) (by omega) (by omega)
 unfold PutOk
 rw [e] at hl ⊢
 rw [hp] at hi
 clear e hp
 go_enter Tryz.func222, Tryz.ntmps222
 go_wp2_with (first | (go_at_call 236; refine hi.mono ?_; rintro e w' ⟨rfl, rfl⟩) | (go_at_call 237; refine hl.mono ?_; rintro e w' ⟨rfl, rfl⟩) | (go_at_call 239; fail))
 refine hf6.mono ?_
 rintro e w' ⟨rfl, rfl⟩
 go_wp2_with fail
 refine hf.mono ?_
 rintro e w' ⟨rfl, rfl⟩
 go_wp2_with fail
 refine hj.mono ?_
 rintro e w' ⟨r, rfl, ho, hbl⟩
 go_wp2
 go_ret2
 exact ⟨_, rfl, ho, hbl⟩

set_option maxHeartbeats 400000 in
theorem put_ok4 (v0 : Value) (n : Nat) (f : Nat → Int) (p : Int) (w : World) (hT : Tab w) (hp : ptB p = true) (hR : Row w v0 n f) (hb : n + 4 ≤ 140737488355328) (h0 : 65536 ≤ p) : PutOk v0 n f p w := by
 obtain ⟨q0, q1, q2⟩ := (ptB_iff p).1 hp
 have hi := isPoint_any p w hT
 have hl := length_any p w hT
 have k1 : ¬ p < 128 := by omega
 have k2 : ¬ p < 2048 := by omega
 have k3 : ¬ p < 65536 := by omega
 have e : encN p = 4 := by simp [encN, k1, k2, k3]
 have hj := joined_new v0 _ n 4 f (encF p) w _ hR (enc_row4 w p h0 q1) (by omega)
 have hf := follower_any p w (by omega) (by omega)
 have hf6 := follower_any (p / 64) w (by omega) (by omega)
 have hf12 := follower_any (p / 4096) w (by omega) (by omega)
 have e2 := or240 (p / 262144) (by omega) (by omega)
 unfold PutOk
 rw [e] at hl ⊢
 rw [hp] at hi
 clear e hp
 go_enter Tryz.func222, Tryz.ntmps222
 go_wp2_with (first | (go_at_call 236; refine hi.mono ?_; rintro e w' ⟨rfl, rfl⟩) | (go_at_call 237; refine hl.mono ?_; rintro e w' ⟨rfl, rfl⟩) | (go_at_call 239; fail))
 refine hf12.mono ?_
 rintro e w' ⟨rfl, rfl⟩
 go_wp2_with fail
 refine hf6.mono ?_
 rintro e w' ⟨rfl, rfl⟩
 go_wp2_with fail
 refine hf.mono ?_
 rintro e w' ⟨rfl, rfl⟩
 go_wp2_with fail
 refine hj.mono ?_
 rintro e w' ⟨r, rfl, ho, hbl⟩
 go_wp2
 go_ret2
 exact ⟨_, rfl, ho, hbl⟩

theorem put_ok (v0 : Value) (n : Nat) (f : Nat → Int) (p : Int) (w : World) (hT : Tab w) (hp : ptB p = true) (hR : Row w v0 n f) (hb : n + 4 ≤ 140737488355328) : PutOk v0 n f p w := by
 by_cases h1 : p < 128
 ·exact put_ok1 v0 n f p w hT hp hR hb h1
 ·by_cases h2 : p < 2048
  ·exact put_ok2 v0 n f p w hT hp hR hb (by omega) h2
  ·by_cases h3 : p < 65536
   ·exact put_ok3 v0 n f p w hT hp hR hb (by omega) h3
   ·exact put_ok4 v0 n f p w hT hp hR hb (by omega)
end Go.Proofs.YtjdboekanmfgpaaGreatDoor.Lx

namespace Go.Proofs.YtjdboekanmfgpaaGreatDoor.Lx
open Go.RowKit
attribute [local go_sem] setCell_drewN alloc_drewN

theorem Tab.below {w w' : World} (h : Tab w) (hb : Below w.heap.size w w') : Tab w' :=
 ⟨by rw [hb.cell (cell_lt h.t0)]; exact h.t0, by rw [hb.cell (cell_lt h.t1)]; exact h.t1, by rw [hb.cell (cell_lt h.t2)]; exact h.t2, by rw [hb.cell (cell_lt h.t3)]; exact h.t3⟩
theorem least4 (w : World) (hT : Tab w) : Calls Tryz.prog 182 #[.int .i64 4] w fun e w' => e = .returned (.int .i64 65536) ∧ w = w' :=
 (least_any 4 w hT (by omega) (by omega)).mono fun e w' h => ⟨h.1, h.2.symm⟩
set_option maxHeartbeats 400000 in
theorem pair_ok (h l : Int) (w : World) (hT : Tab w) (h1 : 55296 ≤ h) (h2 : h ≤ 56319) (h3 : 56320 ≤ l) (h4 : l ≤ 57343) :
  Calls Tryz.prog 235 #[.int .i64 h, .int .i64 l] w fun e w' => e = .returned (.tuple #[.int .i64 (65536 + (h - 55296) * 1024 + (l - 56320)), .int .i64 0]) ∧ w' = w := by
 go_enter Tryz.func235, Tryz.ntmps235
 go_wp2_with (go_at_call 182; refine (least4 _ hT).mono ?_; rintro e w' ⟨rfl, rfl⟩)
 go_ret2
 exact ⟨rfl, rfl⟩

def hexB (c : Int) : Bool := digitB c || (decide (97 ≤ c) && decide (c ≤ 102)) || (decide (65 ≤ c) && decide (c ≤ 70))
def hexV (c : Int) : Int := if digitB c = true then c - 48 else if 97 ≤ c ∧ c ≤ 102 then c - 87 else if 65 ≤ c ∧ c ≤ 70 then c - 55 else 0
theorem hexV_bd (c : Int) : 0 ≤ hexV c ∧ hexV c < 16 := by
 unfold hexV digitB
 split
 ·rename_i h; simp at h; omega
 ·split
  ·omega
  ·split <;> omega
theorem isDigit_eq (c : Int) (w : World) : Calls Tryz.prog 177 #[.int .u8 c] w fun r w' => r = .returned (.bool (digitB c)) ∧ w' = w := by
 have h1 := within_any c 48 57 w
 rw [show (decide (48 ≤ c) && decide (c ≤ 57)) = digitB c from rfl] at h1
 generalize digitB c = x at *
 go_enter Tryz.func177, Tryz.ntmps177
 go_wp2_with (go_at_call 192; with_reducible refine h1.mono ?_; rintro r w' ⟨rfl, rfl⟩)
 go_ret
 exact ⟨rfl, rfl⟩
theorem r_hx {a b : Int} {c d : Bool} (h : a = b) (g : c = d) : Ending.returned (.tuple #[.int .i64 a, .bool c]) = .returned (.tuple #[.int .i64 b, .bool d]) := by rw [h, g]

set_option maxHeartbeats 800000 in
theorem hex_any (c : Int) (w : World) (h0 : 0 ≤ c) (h1 : c < 256) :
  Calls Tryz.prog 233 #[.int .u8 c] w fun r w' => r = .returned (.tuple #[.int .i64 (hexV c), .bool (hexB c)]) ∧ w' = w := by
 have d1 := isDigit_eq c w
 have d2 := within_any c 97 102 w
 have d3 := within_any c 65 70 w
 by_cases a : 48 ≤ c ∧ c ≤ 57
 ·have e : digitB c = true := by simp [digitB, a]
  have HR : Hid (hexV c = c - 48 ∧ hexB c = true) := by show _ ∧ _; simp [hexV, hexB, e]
  rw [e] at d1
  clear e d2 d3
  obtain ⟨a1, a2⟩ := a
  go_enter Tryz.func233, Tryz.ntmps233
  go_wp2_with (go_at_call 177; refine d1.mono ?_; rintro r w' ⟨rfl, rfl⟩)
  go_ret2
  exact ⟨r_hx HR.out.1.symm HR.out.2.symm, rfl⟩
 ·have e : digitB c = false := by simp [digitB]; omega
  rw [e] at d1
  by_cases b : 97 ≤ c ∧ c ≤ 102
  ·have HR : Hid (hexV c = c - 97 + 10 ∧ hexB c = true) := by show _ ∧ _; simp [hexV, hexB, e, b]; omega
   have e2 : (decide (97 ≤ c) && decide (c ≤ 102)) = true := by simp [b]
   rw [e2] at d2
   clear e d3 e2 a
   obtain ⟨a1, a2⟩ := b
   go_enter Tryz.func233, Tryz.ntmps233
   go_wp2_with (first | (go_at_call 177; refine d1.mono ?_; rintro r w' ⟨rfl, rfl⟩) | (go_at_call 192; with_reducible refine d2.mono ?_; rintro r w' ⟨rfl, rfl⟩))
   go_ret2
   exact ⟨r_hx HR.out.1.symm HR.out.2.symm, rfl⟩
  ·have e2 : (decide (97 ≤ c) && decide (c ≤ 102)) = false := by simp; omega
   rw [e2] at d2
   by_cases g : 65 ≤ c ∧ c ≤ 70
   ·have HR : Hid (hexV c = c - 65 + 10 ∧ hexB c = true) := by show _ ∧ _; simp [hexV, hexB, e, b, g]; omega
    have e3 : (decide (65 ≤ c) && decide (c ≤ 70)) = true := by simp [g]
    rw [e3] at d3
    clear e e2 e3 a b
    obtain ⟨a1, a2⟩ := g
    go_enter Tryz.func233, Tryz.ntmps233
    go_wp2_with (first | (go_at_call 177; refine d1.mono ?_; rintro r w' ⟨rfl, rfl⟩) | (go_at_call 192; with_reducible refine d2.mono ?_; rintro r w' ⟨rfl, rfl⟩) | (go_at_call 192; with_reducible refine d3.mono ?_; rintro r w' ⟨rfl, rfl⟩))
    go_ret2
    exact ⟨r_hx HR.out.1.symm HR.out.2.symm, rfl⟩
   ·have HR : Hid (hexV c = 0 ∧ hexB c = false) := by
     show _ ∧ _
     have e3 : (decide (65 ≤ c) && decide (c ≤ 70)) = false := by simp; omega
     simp [hexV, hexB, e, b, g, e2, e3]
    have e3 : (decide (65 ≤ c) && decide (c ≤ 70)) = false := by simp; omega
    rw [e3] at d3
    clear e e2 e3 a b g
    go_enter Tryz.func233, Tryz.ntmps233
    go_wp2_with (first | (go_at_call 177; refine d1.mono ?_; rintro r w' ⟨rfl, rfl⟩) | (go_at_call 192; with_reducible refine d2.mono ?_; rintro r w' ⟨rfl, rfl⟩) | (go_at_call 192; with_reducible refine d3.mono ?_; rintro r w' ⟨rfl, rfl⟩))
    go_ret2
    exact ⟨r_hx HR.out.1.symm HR.out.2.symm, rfl⟩

def notLowB (a b : Int) : Bool := decide (a < 56320) || decide (57343 < b)
def lowB (a b : Int) : Bool := decide (a ≤ 57343) && decide (56320 ≤ b)
theorem notLow_any (a b : Int) (w : World) : Calls Tryz.prog 220 #[.int .i64 a, .int .i64 b] w fun r w' => r = .returned (.bool (notLowB a b)) ∧ w' = w := by
 by_cases h : a < 56320
 ·have HR : Hid (notLowB a b = true) := by show _ = _; simp [notLowB, h]
  go_enter Tryz.func220, Tryz.ntmps220
  go_wp2
  go_ret
  exact ⟨r_bool HR.out.symm, rfl⟩
 ·have HR : Hid (notLowB a b = decide (57343 < b)) := by show _ = _; simp [notLowB, h]
  have hd : decide (a < 56320) = false := decide_eq_false h
  go_enter Tryz.func220, Tryz.ntmps220
  go_wp2
  go_ret
  exact ⟨r_bool HR.out.symm, rfl⟩
theorem low_any (a b : Int) (w : World) : Calls Tryz.prog 234 #[.int .i64 a, .int .i64 b] w fun r w' => r = .returned (.bool (lowB a b)) ∧ w' = w := by
 by_cases h : a ≤ 57343
 ·have HR : Hid (lowB a b = decide (56320 ≤ b)) := by show _ = _; simp [lowB, h]
  go_enter Tryz.func234, Tryz.ntmps234
  go_wp2
  go_ret
  exact ⟨r_bool HR.out.symm, rfl⟩
 ·have HR : Hid (lowB a b = false) := by show _ = _; simp [lowB, h]
  have hd : decide (a ≤ 57343) = false := decide_eq_false h
  go_enter Tryz.func234, Tryz.ntmps234
  go_wp2
  go_ret
  exact ⟨r_bool HR.out.symm, rfl⟩

theorem or_i64 (x y i : Nat) (X Y : Int) (hX : X = x) (hY : Y = y) (hx : x % 2 ^ i = 0) (hy : y < 2 ^ i) (h : x + y < 4611686018427387904) : bits .or .i64 X Y = X + Y := by
 subst hX hY
 rw [i64_or_nat x y i hx hy h]; omega
end Go.Proofs.YtjdboekanmfgpaaGreatDoor.Lx
