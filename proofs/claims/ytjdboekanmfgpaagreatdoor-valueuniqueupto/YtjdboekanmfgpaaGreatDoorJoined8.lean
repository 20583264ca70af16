/-
  What lex.among, lex.Blank, lex.within, lex.isDigit, lex.isPlain, lex.badAt and lex.standsAt answer. No condition but that the bytes lie in memory.
  What lex.passed answers, and lex.taken at a test of one sign: the first place whose byte fails the test; the place behind a byte that stands it. Conditions: the bytes lie in memory, at most 2^48 of them.
-/
import Derived.Test.YtjdboekanmfgpaaGreatDoorJoined7
namespace Go.Proofs.YtjdboekanmfgpaaGreatDoor.Lx
open Go.RowKit
attribute [local go_sem] setCell_drewN alloc_drewN

theorem bl_a {a w : World} (h : Below a.heap.size a w) (o : Obj) : Below a.heap.size a (w.alloc o) := h.alloc h.size o
theorem bl_d {B : Nat} {a w : World} (h : Below B a w) : Below B a w.drew := ⟨h.os, h.tape, h.output, h.size, h.block⟩
theorem bl_n {B : Nat} {a w : World} (h : Below B a w) (n : Nat) : Below B a (w.drewN n) := ⟨h.os, h.tape, h.output, h.size, h.block⟩
theorem bl_s {a w : World} (h : Below a.heap.size a w) {b o : Nat} (hb : a.heap.size ≤ b) (v : Value) : Below a.heap.size a (w.setCell ⟨b, o, none⟩ v) := h.setCell hb v
theorem bl_t {a w w2 : World} (h : Below a.heap.size a w) (h2 : Below w.heap.size w w2) : Below a.heap.size a w2 := h.trans (h2.mono h.size)
theorem r_val {a b : Value} (h : a = b) : Ending.returned a = .returned b := by rw [h]

theorem r_bool {a b : Bool} (h : a = b) : Ending.returned (.bool a) = .returned (.bool b) := by rw [h]

/-- Is a number among others? -/
def anyF (c : Int) (n : Nat) (f : Nat → Int) : Bool := (List.range n).any fun i => c == f i
theorem anyF_hit {c : Int} {n : Nat} {f : Nat → Int} {k : Nat} (hk : k < n) (h : c = f k) : anyF c n f = true := by
 unfold anyF
 rw [List.any_eq_true]
 exact ⟨k, List.mem_range.2 hk, by simp [h]⟩
theorem anyF_miss {c : Int} {n : Nat} {f : Nat → Int} (h : ∀ i, i < n → f i ≠ c) : anyF c n f = false := by
 unfold anyF
 rw [List.any_eq_false]
 intro i hi
 have := h i (List.mem_range.1 hi)
 simpa using fun e : c = f i => this e.symm

set_option maxHeartbeats 400000 in
theorem among_any (c : Int) (v : Value) (n : Nat) (f : Nat → Int) (w : World) (hR : Row w v n f) :
  Calls Tryz.prog 163 #[.int .u8 c, v] w fun r w' => r = .returned (.bool (anyF c n f)) ∧ w' = w := by
 rcases hR with ⟨rfl, a, cap, rfl, _⟩ | ⟨b, off, cap, rfl, hc, hm, hL⟩
 ·go_enter Tryz.func163, Tryz.ntmps163
  go_wp2
  refine wp_loop_rounds 1 ?_
  rw [rounds_succ]
  go_wp2
  go_ret
  exact ⟨rfl, rfl⟩
 ·unfold maxLen at hm
  have hnI : (n : Int) ≤ 9223372036854775807 := by omega
  go_enter Tryz.func163, Tryz.ntmps163
  go_wp2
  go_loop [9] (fun t => ∃ k : Nat, k ≤ n ∧ t = .int .i64 k ∧ Hid (∀ i, i < k → f i ≠ c)) (fun t => n - (intOf t).toNat)
  case atStart => exact ⟨0, Nat.zero_le _, rfl, fun i hi => by omega⟩
  case round =>
   obtain ⟨k, hk, rfl, H⟩ := hrel
   by_cases hlt : k < n
   ·have hcell := hL.cell k hlt
    have hI : (k : Int) < (n : Int) := by omega
    by_cases he : c = f k
    ·have HR : Hid (anyF c n f = true) := anyF_hit hlt he
     rw [← he] at hcell
     clear H he
     go_wp2
     go_ret
     exact ⟨r_bool HR.out.symm, rfl⟩
    ·have H2 : Hid (∀ i, i < k + 1 → f i ≠ c) := fun i hi => by
      by_cases e : i = k
      ·subst e; exact fun h => he h.symm
      ·exact H.out i (by omega)
     have hne : (c == f k) = false := beq_eq_false_iff_ne.2 he
     clear H he
     generalize f k = x at *
     go_wp2
     go_round
     case rel => exact ⟨k + 1, by omega, by go_num, H2⟩
     case measure => simp [intOf]; omega
   ·have hI : ¬ (k : Int) < (n : Int) := by omega
    have ek : k = n := by omega
    have HR : Hid (anyF c n f = false) := anyF_miss (by rw [← ek]; exact H.out)
    clear H
    go_wp2
    go_ret
    exact ⟨r_bool HR.out.symm, rfl⟩

theorem row_lit (w : World) (cs : Array Value) (n : Nat) (f : Nat → Int) (ty : TypeId) (hn : cs.size = n) (hm : n ≤ 1000) (lo : ∀ i, 0 ≤ f i) (hi : ∀ i, f i < 256) (h : ∀ i, i < n → cs[i]? = some (.int .u8 (f i))) :
  Row (w.alloc (.cells cs ty)) (.slice (some ⟨w.heap.size, 0, none⟩) n n) n f :=
 .inr ⟨w.heap.size, 0, n, rfl, Nat.le_refl _, by unfold maxLen; omega, ⟨fun i hi => by rw [World.cell?_alloc_at _ _ _ _ rfl]; simpa using h i hi, lo, hi⟩⟩

theorem row_ws (w : World) (ws : List UInt8) (ty : TypeId) (hm : ws.length ≤ 1000) : Row (w.alloc (.cells (ws.map fun c => Value.int .u8 (c.toNat : Nat)).toArray ty)) (.slice (some ⟨w.heap.size, 0, none⟩) ws.length ws.length) ws.length (bx ws) :=
 row_lit w _ _ _ ty (by simp) hm (bx_lo ws) (bx_hi ws) (fun i hi => by simp [bx, hi])

theorem anyF_ws (c : Int) (ws : List UInt8) : anyF c ws.length (bx ws) = ws.any fun d => c == (d.toNat : Int) := by
 rw [Bool.eq_iff_iff]
 unfold anyF
 rw [List.any_eq_true, List.any_eq_true]
 constructor
 ·rintro ⟨i, hi, h⟩
  have hi' := List.mem_range.1 hi
  exact ⟨ws[i], List.getElem_mem hi', by simpa [bx, hi'] using h⟩
 ·rintro ⟨d, hd, h⟩
  obtain ⟨i, hi, rfl⟩ := List.getElem_of_mem hd
  exact ⟨i, List.mem_range.2 hi, by simpa [bx, hi] using h⟩
/-- lex.among of what stands in a literal. -/
theorem among_ws (c : Int) (ws : List UInt8) (w : World) (cs : Array Value) (n : Nat) (x : Bool) (hc : cs = (ws.map fun c => Value.int .u8 (c.toNat : Nat)).toArray) (hn : n = ws.length) (hm : ws.length ≤ 1000) (hx : (ws.any fun d => c == (d.toNat : Int)) = x) :
  Calls Tryz.prog 163 #[.int .u8 c, .slice (some ⟨w.heap.size, 0, none⟩) n n] (w.alloc (.cells cs 5)) fun r w' => r = .returned (.bool x) ∧ w' = w.alloc (.cells cs 5) := by
 subst hc hn hx
 rw [← anyF_ws]
 exact among_any c _ _ _ _ (row_ws w ws 5 hm)

set_option maxHeartbeats 400000 in
theorem blank_any (c : Int) (w : World) :
  Calls Tryz.prog 157 #[.int .u8 c] w fun r w' => r = .returned (.bool (blankB c)) ∧ Below w.heap.size w w' := by
 have h1 := among_ws c [9, 10, 13, 32] w #[.int .u8 9, .int .u8 10, .int .u8 13, .int .u8 32] 4 (blankB c) rfl rfl (by decide) (by simp [blankB, Bool.or_assoc])
 generalize blankB c = x at *
 go_enter Tryz.func157, Tryz.ntmps157
 go_wp2_with (go_at_call 163; refine h1.mono ?_; rintro r w' ⟨rfl, rfl⟩)
 go_ret
 exact ⟨rfl, bl_a (Below.refl _ _) _⟩

set_option maxHeartbeats 400000 in
theorem within_any (c a b : Int) (w : World) :
  Calls Tryz.prog 192 #[.int .u8 c, .int .u8 a, .int .u8 b] w fun r w' => r = .returned (.bool (decide (a ≤ c) && decide (c ≤ b))) ∧ w' = w := by
 by_cases h : a ≤ c
 ·have HR : Hid ((decide (a ≤ c) && decide (c ≤ b)) = decide (c ≤ b)) := by show _ = _; simp [h]
  go_enter Tryz.func192, Tryz.ntmps192
  go_wp2
  go_ret
  exact ⟨r_bool HR.out.symm, rfl⟩
 ·have HR : Hid ((decide (a ≤ c) && decide (c ≤ b)) = false) := by show _ = _; simp [h]
  go_enter Tryz.func192, Tryz.ntmps192
  go_wp2
  go_ret
  exact ⟨r_bool HR.out.symm, rfl⟩
theorem isDigit_any (c : Int) (w : World) :
  Calls Tryz.prog 177 #[.int .u8 c] w fun r w' => r = .returned (.bool (digitB c)) ∧ Below w.heap.size w w' := by
 have h1 := within_any c 48 57 w
 rw [show (decide (48 ≤ c) && decide (c ≤ 57)) = digitB c from rfl] at h1
 generalize digitB c = x at *
 go_enter Tryz.func177, Tryz.ntmps177
 go_wp2_with (go_at_call 192; refine h1.mono ?_; rintro r w' ⟨rfl, rfl⟩)
 go_ret
 exact ⟨rfl, Below.refl _ _⟩

set_option maxHeartbeats 400000 in
theorem isPlain_any (c : Int) (w : World) :
  Calls Tryz.prog 139 #[.int .u8 c] w fun r w' => r = .returned (.bool (plainB c)) ∧ Below w.heap.size w w' := by
 have h1 := among_ws c [34, 92] w #[.int .u8 34, .int .u8 92] 2 (c == 34 || c == 92) rfl rfl (by decide) (by simp)
 by_cases h : 32 ≤ c
 ·have HR : Hid (plainB c = !(c == 34 || c == 92)) := by show _ = _; simp [plainB, h]
  generalize (c == 34 || c == 92) = x at *
  go_enter Tryz.func139, Tryz.ntmps139
  go_wp2_with (go_at_call 163; refine h1.mono ?_; rintro r w' ⟨rfl, rfl⟩)
  go_ret
  exact ⟨r_bool HR.out.symm, bl_a (Below.refl _ _) _⟩
 ·have HR : Hid (plainB c = false) := by show _ = _; simp [plainB, h]
  clear h1
  go_enter Tryz.func139, Tryz.ntmps139
  go_wp2
  go_ret
  exact ⟨r_bool HR.out.symm, Below.refl _ _⟩

theorem badAt_any (i : Nat) (w : World) (h : i ≤ 281474976710656) :
  Calls Tryz.prog 180 #[.int .i64 i] w fun r w' => r = .returned (errV (i + 1)) ∧ w' = w := by
 have hI : (i : Int) ≤ 281474976710656 := by omega
 have HR : Hid (errV (i + 1) = .iface 184 (.agg #[.int .i64 ((i : Int) + 1)])) := by show _ = _; simp [errV]
 go_enter Tryz.func180, Tryz.ntmps180
 go_wp2
 go_ret
 exact ⟨r_val HR.out.symm, rfl⟩

set_option maxHeartbeats 400000 in
theorem standsAt_any (l : List UInt8) (i : Nat) (v u : Value) (n : Nat) (f : Nat → Int) (p : Int → Bool) (w : World) (hB : Byt w v l) (hU : Row w u n f) (hi : i ≤ l.length) (hm : l.length ≤ 281474976710656) (hp : ∀ c, anyF c n f = p c) :
  Calls Tryz.prog 194 #[v, .int .i64 i, u] w fun r w' => r = .returned (.bool (hasAt l i p)) ∧ w' = w := by
 obtain ⟨a, cap, rfl, hlm⟩ := hB.shape
 clear hlm
 have hlI : (l.length : Int) ≤ 281474976710656 := by omega
 by_cases h : i < l.length
 ·rcases hB with ⟨h0, _⟩ | ⟨b, off, cap, e, hc, hm, hL⟩
  ·omega
  ·cases e
   have hcell := hL.cell i h
   have h1 := among_any (bx l i) u n f w hU
   rw [hp] at h1
   have HR : Hid (hasAt l i p = p (bx l i)) := by show _ = _; simp [hasAt, h]
   have hI : (i : Int) < (l.length : Int) := by omega
   generalize p (bx l i) = x at *
   generalize bx l i = c at *
   clear hU hp hL
   go_enter Tryz.func194, Tryz.ntmps194
   go_wp2_with (go_at_call 163; refine h1.mono ?_; rintro r w' ⟨rfl, rfl⟩)
   go_ret
   exact ⟨r_bool HR.out.symm, rfl⟩
 ·have hI : ¬ (i : Int) < (l.length : Int) := by omega
  have HR : Hid (hasAt l i p = false) := by show _ = _; simp [hasAt, h]
  clear hU hp hB
  go_enter Tryz.func194, Tryz.ntmps194
  go_wp2
  go_ret
  exact ⟨r_bool HR.out.symm, rfl⟩
end Go.Proofs.YtjdboekanmfgpaaGreatDoor.Lx

namespace Go.Proofs.YtjdboekanmfgpaaGreatDoor.Lx
open Go.RowKit
attribute [local go_sem] setCell_drewN alloc_drewN

theorem Byt.below {w w' : World} {v : Value} {l : List UInt8} (h : Byt w v l) (hb : Below w.heap.size w w') : Byt w' v l := Row.below h hb
theorem hasAt_out {l : List UInt8} {i : Nat} (p : Int → Bool) (h : ¬ i < l.length) : hasAt l i p = false := by simp [hasAt, h]
theorem hasAt_in {l : List UInt8} {i : Nat} (p : Int → Bool) (h : i < l.length) : hasAt l i p = p (bx l i) := by simp [hasAt, h]
theorem r_pl {a b : Value} (h : a = b) : Ending.returned a = .returned b := by rw [h]

set_option maxHeartbeats 400000 in
theorem passed_blank (l : List UInt8) (i : Nat) (v : Value) (w : World) (hB : Byt w v l) (hi : i ≤ l.length) (hm : l.length ≤ 281474976710656) :
  Calls Tryz.prog 138 #[v, .int .i64 i, .func (.func 157) #[] #[]] w fun r w' => r = .returned (.int .i64 (pass l blankB i : Nat)) ∧ Below w.heap.size w w' := by
 have hmI : (l.length : Int) ≤ 281474976710656 := by omega
 rcases hB with ⟨h0, a, cap, rfl, _⟩ | ⟨b, off, cap, rfl, hc, hm', hL⟩
 ·have hi0 : i = 0 := by omega
  subst hi0
  have HR : Hid (pass l blankB 0 = 0) := pass_stop (hasAt_out _ (by omega))
  clear h0 hmI hm
  go_enter Tryz.func138, Tryz.ntmps138
  go_wp2
  refine wp_loop_rounds 1 ?_
  rw [rounds_succ]
  go_wp2
  go_ret
  exact ⟨ret_int (by rw [HR.out]), Below.refl _ _⟩
 ·clear hc hm'
  go_enter Tryz.func138, Tryz.ntmps138
  go_wp2
  go_loopw [1] (fun t wr => ∃ k : Nat, k ≤ l.length ∧ t = .int .i64 k ∧ Hid (pass l blankB k = pass l blankB i) ∧ Below w.heap.size w wr) (fun t _ => l.length - (intOf t).toNat)
  case atStart => exact ⟨i, hi, rfl, rfl, Below.refl _ _⟩
  case round =>
   obtain ⟨k, hk, rfl, HP, hbel⟩ := hrel
   by_cases hlt : k < l.length
   ·have hcell : wr.cell? ⟨b, off + k, none⟩ = some (.int .u8 (bx l k)) := by rw [hbel.cell (cell_lt (hL.cell k hlt))]; exact hL.cell k hlt
    have hI : (k : Int) < (l.length : Int) := by omega
    have h1 := blank_any (bx l k) wr
    have hq := hasAt_in (l := l) blankB hlt
    cases hp : blankB (bx l k)
    ·rw [hp] at h1 hq
     have HR : Hid (pass l blankB i = k) := by show _ = _; rw [← HP.out, pass_stop hq]
     clear HP hq hp
     generalize bx l k = c at *
     go_wp2_with (go_at_call 157; refine h1.mono ?_; rintro r w2 ⟨rfl, hb2⟩)
     go_ret
     exact ⟨ret_int (by rw [HR.out]), bl_t hbel hb2⟩
    ·rw [hp] at h1 hq
     have HR : Hid (pass l blankB (k + 1) = pass l blankB i) := by show _ = _; rw [← HP.out, pass_go hq]
     clear HP hq hp
     generalize bx l k = c at *
     go_wp2_with (go_at_call 157; refine h1.mono ?_; rintro r w2 ⟨rfl, hb2⟩)
     go_roundw
     case rel => exact ⟨k + 1, by omega, by go_num, HR, bl_t hbel hb2⟩
     case measure => simp [intOf]; omega
   ·have hI : ¬ (k : Int) < (l.length : Int) := by omega
    have HR : Hid (pass l blankB i = k) := by show _ = _; rw [← HP.out, pass_stop (hasAt_out _ hlt)]
    clear HP
    go_wp2
    go_ret
    exact ⟨ret_int (by rw [HR.out]), hbel⟩

set_option maxHeartbeats 400000 in
theorem passed_digit (l : List UInt8) (i : Nat) (v : Value) (w : World) (hB : Byt w v l) (hi : i ≤ l.length) (hm : l.length ≤ 281474976710656) :
  Calls Tryz.prog 138 #[v, .int .i64 i, .func (.func 177) #[] #[]] w fun r w' => r = .returned (.int .i64 (pass l digitB i : Nat)) ∧ Below w.heap.size w w' := by
 have hmI : (l.length : Int) ≤ 281474976710656 := by omega
 rcases hB with ⟨h0, a, cap, rfl, _⟩ | ⟨b, off, cap, rfl, hc, hm', hL⟩
 ·have hi0 : i = 0 := by omega
  subst hi0
  have HR : Hid (pass l digitB 0 = 0) := pass_stop (hasAt_out _ (by omega))
  clear h0 hmI hm
  go_enter Tryz.func138, Tryz.ntmps138
  go_wp2
  refine wp_loop_rounds 1 ?_
  rw [rounds_succ]
  go_wp2
  go_ret
  exact ⟨ret_int (by rw [HR.out]), Below.refl _ _⟩
 ·clear hc hm'
  go_enter Tryz.func138, Tryz.ntmps138
  go_wp2
  go_loopw [1] (fun t wr => ∃ k : Nat, k ≤ l.length ∧ t = .int .i64 k ∧ Hid (pass l digitB k = pass l digitB i) ∧ Below w.heap.size w wr) (fun t _ => l.length - (intOf t).toNat)
  case atStart => exact ⟨i, hi, rfl, rfl, Below.refl _ _⟩
  case round =>
   obtain ⟨k, hk, rfl, HP, hbel⟩ := hrel
   by_cases hlt : k < l.length
   ·have hcell : wr.cell? ⟨b, off + k, none⟩ = some (.int .u8 (bx l k)) := by rw [hbel.cell (cell_lt (hL.cell k hlt))]; exact hL.cell k hlt
    have hI : (k : Int) < (l.length : Int) := by omega
    have h1 := isDigit_any (bx l k) wr
    have hq := hasAt_in (l := l) digitB hlt
    cases hp : digitB (bx l k)
    ·rw [hp] at h1 hq
     have HR : Hid (pass l digitB i = k) := by show _ = _; rw [← HP.out, pass_stop hq]
     clear HP hq hp
     generalize bx l k = c at *
     go_wp2_with (go_at_call 177; refine h1.mono ?_; rintro r w2 ⟨rfl, hb2⟩)
     go_ret
     exact ⟨ret_int (by rw [HR.out]), bl_t hbel hb2⟩
    ·rw [hp] at h1 hq
     have HR : Hid (pass l digitB (k + 1) = pass l digitB i) := by show _ = _; rw [← HP.out, pass_go hq]
     clear HP hq hp
     generalize bx l k = c at *
     go_wp2_with (go_at_call 177; refine h1.mono ?_; rintro r w2 ⟨rfl, hb2⟩)
     go_roundw
     case rel => exact ⟨k + 1, by omega, by go_num, HR, bl_t hbel hb2⟩
     case measure => simp [intOf]; omega
   ·have hI : ¬ (k : Int) < (l.length : Int) := by omega
    have HR : Hid (pass l digitB i = k) := by show _ = _; rw [← HP.out, pass_stop (hasAt_out _ hlt)]
    clear HP
    go_wp2
    go_ret
    exact ⟨ret_int (by rw [HR.out]), hbel⟩

set_option maxHeartbeats 400000 in
theorem passed_plain (l : List UInt8) (i : Nat) (v : Value) (w : World) (hB : Byt w v l) (hi : i ≤ l.length) (hm : l.length ≤ 281474976710656) :
  Calls Tryz.prog 138 #[v, .int .i64 i, .func (.func 139) #[] #[]] w fun r w' => r = .returned (.int .i64 (pass l plainB i : Nat)) ∧ Below w.heap.size w w' := by
 have hmI : (l.length : Int) ≤ 281474976710656 := by omega
 rcases hB with ⟨h0, a, cap, rfl, _⟩ | ⟨b, off, cap, rfl, hc, hm', hL⟩
 ·have hi0 : i = 0 := by omega
  subst hi0
  have HR : Hid (pass l plainB 0 = 0) := pass_stop (hasAt_out _ (by omega))
  clear h0 hmI hm
  go_enter Tryz.func138, Tryz.ntmps138
  go_wp2
  refine wp_loop_rounds 1 ?_
  rw [rounds_succ]
  go_wp2
  go_ret
  exact ⟨ret_int (by rw [HR.out]), Below.refl _ _⟩
 ·clear hc hm'
  go_enter Tryz.func138, Tryz.ntmps138
  go_wp2
  go_loopw [1] (fun t wr => ∃ k : Nat, k ≤ l.length ∧ t = .int .i64 k ∧ Hid (pass l plainB k = pass l plainB i) ∧ Below w.heap.size w wr) (fun t _ => l.length - (intOf t).toNat)
  case atStart => exact ⟨i, hi, rfl, rfl, Below.refl _ _⟩
  case round =>
   obtain ⟨k, hk, rfl, HP, hbel⟩ := hrel
   by_cases hlt : k < l.length
   ·have hcell : wr.cell? ⟨b, off + k, none⟩ = some (.int .u8 (bx l k)) := by rw [hbel.cell (cell_lt (hL.cell k hlt))]; exact hL.cell k hlt
    have hI : (k : Int) < (l.length : Int) := by omega
    have h1 := isPlain_any (bx l k) wr
    have hq := hasAt_in (l := l) plainB hlt
    cases hp : plainB (bx l k)
    ·rw [hp] at h1 hq
     have HR : Hid (pass l plainB i = k) := by show _ = _; rw [← HP.out, pass_stop hq]
     clear HP hq hp
     generalize bx l k = c at *
     go_wp2_with (go_at_call 139; refine h1.mono ?_; rintro r w2 ⟨rfl, hb2⟩)
     go_ret
     exact ⟨ret_int (by rw [HR.out]), bl_t hbel hb2⟩
    ·rw [hp] at h1 hq
     have HR : Hid (pass l plainB (k + 1) = pass l plainB i) := by show _ = _; rw [← HP.out, pass_go hq]
     clear HP hq hp
     generalize bx l k = c at *
     go_wp2_with (go_at_call 139; refine h1.mono ?_; rintro r w2 ⟨rfl, hb2⟩)
     go_roundw
     case rel => exact ⟨k + 1, by omega, by go_num, HR, bl_t hbel hb2⟩
     case measure => simp [intOf]; omega
   ·have hI : ¬ (k : Int) < (l.length : Int) := by omega
    have HR : Hid (pass l plainB i = k) := by show _ = _; rw [← HP.out, pass_stop (hasAt_out _ hlt)]
    clear HP
    go_wp2
    go_ret
    exact ⟨ret_int (by rw [HR.out]), hbel⟩

set_option maxHeartbeats 400000 in
theorem taken_digit  (l : List UInt8) (i : Nat) (v : Value) (p : Int → Bool) (w : World) (hB : Byt w v l) (hi : i ≤ l.length) (hm : l.length ≤ 281474976710656)
  (hf : ∀ c, Calls Tryz.prog 177 #[.int .u8 c] w fun r w' => r = .returned (.bool (p c)) ∧ Below w.heap.size w w') :
  Calls Tryz.prog 207 #[v, .int .i64 i, .func (.func 177) #[] #[]] w fun r w' => r = .returned (plV (takenL l i p)) ∧ Below w.heap.size w w' := by
 have hmI : (l.length : Int) ≤ 281474976710656 := by omega
 have g1 := fun w => badAt_any i w (by omega)
 by_cases hlt : i < l.length
 ·rcases hB with ⟨h0, _⟩ | ⟨b, off, cap, rfl, hc, hm', hL⟩
  ·omega
  ·have hcell := hL.cell i hlt
   have hI : (i : Int) < (l.length : Int) := by omega
   have h1 := hf (bx l i)
   cases hp : p (bx l i)
   ·rw [hp] at h1
    have HR : Hid (takenL l i p = .error (i + 1)) := by show _ = _; simp [takenL, hasAt_in p hlt, hp]
    clear hp hL hf hc hm'
    generalize bx l i = c at *
    go_enter Tryz.func207, Tryz.ntmps207
    go_wp2_with (first | (go_at_call 177; refine h1.mono ?_; rintro r w2 ⟨rfl, hb2⟩) | (go_at_call 180; refine (g1 _).mono ?_; rintro r w3 ⟨rfl, rfl⟩))
    go_ret2
    exact ⟨r_pl (by rw [HR.out]; rfl), hb2⟩
   ·rw [hp] at h1
    have HR : Hid (takenL l i p = .ok (i + 1)) := by show _ = _; simp [takenL, hasAt_in p hlt, hp]
    clear hp hL hf hc hm' g1
    generalize bx l i = c at *
    go_enter Tryz.func207, Tryz.ntmps207
    go_wp2_with (go_at_call 177; refine h1.mono ?_; rintro r w2 ⟨rfl, hb2⟩)
    go_ret2
    exact ⟨r_pl (by rw [HR.out]; simp [plV]), hb2⟩
 ·have hI : ¬ (i : Int) < (l.length : Int) := by omega
  have HR : Hid (takenL l i p = .error (i + 1)) := by show _ = _; simp [takenL, hasAt_out p hlt]
  obtain ⟨a, cap, rfl, _⟩ := hB.shape
  clear hB hf
  go_enter Tryz.func207, Tryz.ntmps207
  go_wp2_with (go_at_call 180; refine (g1 _).mono ?_; rintro r w3 ⟨rfl, rfl⟩)
  go_ret2
  exact ⟨r_pl (by rw [HR.out]; rfl), Below.refl _ _⟩

set_option maxHeartbeats 400000 in
theorem taken_slash  (l : List UInt8) (i : Nat) (v : Value) (p : Int → Bool) (w : World) (hB : Byt w v l) (hi : i ≤ l.length) (hm : l.length ≤ 281474976710656)
  (hf : ∀ c, Calls Tryz.prog 209 #[.int .u8 c] w fun r w' => r = .returned (.bool (p c)) ∧ Below w.heap.size w w') :
  Calls Tryz.prog 207 #[v, .int .i64 i, .func (.func 209) #[] #[]] w fun r w' => r = .returned (plV (takenL l i p)) ∧ Below w.heap.size w w' := by
 have hmI : (l.length : Int) ≤ 281474976710656 := by omega
 have g1 := fun w => badAt_any i w (by omega)
 by_cases hlt : i < l.length
 ·rcases hB with ⟨h0, _⟩ | ⟨b, off, cap, rfl, hc, hm', hL⟩
  ·omega
  ·have hcell := hL.cell i hlt
   have hI : (i : Int) < (l.length : Int) := by omega
   have h1 := hf (bx l i)
   cases hp : p (bx l i)
   ·rw [hp] at h1
    have HR : Hid (takenL l i p = .error (i + 1)) := by show _ = _; simp [takenL, hasAt_in p hlt, hp]
    clear hp hL hf hc hm'
    generalize bx l i = c at *
    go_enter Tryz.func207, Tryz.ntmps207
    go_wp2_with (first | (go_at_call 209; refine h1.mono ?_; rintro r w2 ⟨rfl, hb2⟩) | (go_at_call 180; refine (g1 _).mono ?_; rintro r w3 ⟨rfl, rfl⟩))
    go_ret2
    exact ⟨r_pl (by rw [HR.out]; rfl), hb2⟩
   ·rw [hp] at h1
    have HR : Hid (takenL l i p = .ok (i + 1)) := by show _ = _; simp [takenL, hasAt_in p hlt, hp]
    clear hp hL hf hc hm' g1
    generalize bx l i = c at *
    go_enter Tryz.func207, Tryz.ntmps207
    go_wp2_with (go_at_call 209; refine h1.mono ?_; rintro r w2 ⟨rfl, hb2⟩)
    go_ret2
    exact ⟨r_pl (by rw [HR.out]; simp [plV]), hb2⟩
 ·have hI : ¬ (i : Int) < (l.length : Int) := by omega
  have HR : Hid (takenL l i p = .error (i + 1)) := by show _ = _; simp [takenL, hasAt_out p hlt]
  obtain ⟨a, cap, rfl, _⟩ := hB.shape
  clear hB hf
  go_enter Tryz.func207, Tryz.ntmps207
  go_wp2_with (go_at_call 180; refine (g1 _).mono ?_; rintro r w3 ⟨rfl, rfl⟩)
  go_ret2
  exact ⟨r_pl (by rw [HR.out]; rfl), Below.refl _ _⟩
end Go.Proofs.YtjdboekanmfgpaaGreatDoor.Lx
