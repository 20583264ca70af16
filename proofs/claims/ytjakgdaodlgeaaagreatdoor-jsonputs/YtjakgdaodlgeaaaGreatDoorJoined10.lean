/-
  What lex.taken answers with the test of lex.unit, and lex.unit: the number that four digits of 16 make. Conditions: the bytes lie in memory, at most 2^48 of them.
  What lex.unit answers: the number that four digits of 16 make, or where it is bad. Conditions: the bytes lie in memory, at most 2^48 of them.
-/
import Derived.Test.YtjakgdaodlgeaaaGreatDoorJoined9
namespace Go.Proofs.YtjakgdaodlgeaaaGreatDoor.Lx
open Go.RowKit
attribute [local go_sem] setCell_drewN alloc_drewN

def wantB (low : Bool) (a b : Int) : Bool := if low = true then lowB a b else notLowB a b
def stepU (low : Bool) (val : Nat) (sh : Nat) (c : Int) : Bool := hexB c && wantB low (((val : Int) * 16 + hexV c) * 2 ^ sh) (((val : Int) * 16 + hexV c) * 2 ^ sh + (2 ^ sh - 1))
def valU (val : Nat) (c : Int) : Nat := val * 16 + (hexV c).toNat
theorem valU_int (val : Nat) (c : Int) : (valU val c : Int) = (val : Int) * 16 + hexV c := by
 have := hexV_bd c
 unfold valU; omega
def unitF (l : List UInt8) (low : Bool) : Nat → Nat → Nat → Except Nat (Nat × Nat)
 | 0, i, val => .ok (val, i)
 | k + 1, i, val => if hasAt l i (stepU low val (4 * k)) = true then unitF l low k (i + 1) (valU val (bx l i)) else .error (i + 1)
def unitL (l : List UInt8) (low : Bool) (i : Nat) : Except Nat (Nat × Nat) := unitF l low 4 i 0
theorem unitF_le {l : List UInt8} {low : Bool} (k : Nat) : ∀ {i val : Nat} {r : Nat × Nat}, unitF l low k i val = .ok r → r.2 = i + k ∧ (i ≤ l.length → r.2 ≤ l.length) := by
 induction k with
 | zero => intro i val r h; simp [unitF] at h; subst h; exact ⟨rfl, id⟩
 | succ k ih =>
  intro i val r h
  simp only [unitF] at h
  split at h
  ·rename_i g
   have g1 := hasAt_lt g
   have := ih h
   exact ⟨by omega, fun _ => this.2 (by omega)⟩
  ·cases h
theorem valU_lt {val : Nat} {c : Int} {m : Nat} (h : val < m) : valU val c < m * 16 := by
 have := hexV_bd c
 unfold valU; omega
theorem unitF_lt {l : List UInt8} {low : Bool} (k : Nat) : ∀ {i val m : Nat} {r : Nat × Nat}, val < m → unitF l low k i val = .ok r → r.1 < m * 16 ^ k := by
 induction k with
 | zero => intro i val m r hv h; simp [unitF] at h; subst h; simpa using hv
 | succ k ih =>
  intro i val m r hv h
  simp only [unitF] at h
  split at h
  ·have := ih (valU_lt (c := bx l i) hv) h
   rw [Nat.pow_succ, Nat.mul_comm (16 ^ k) 16, ← Nat.mul_assoc]; exact this
  ·cases h
theorem unit1_any (low : Bool) (k : Nat) (hk : k < 4) (c : Int) (a b d val : Nat) (w : World) (h0 : 0 ≤ c) (h1 : c < 256) (hv : val < 4096) (ha : w.cell? ⟨a, 0, none⟩ = some (.int .i64 val)) (hfa : w.frozen? ⟨a, 0, none⟩ = false) (hb : w.cell? ⟨b, 0, none⟩ = some (.int .i64 (4 * k : Nat)))
  (hd : w.cell? ⟨d, 0, none⟩ = some (.func (.func (if low = true then 125 else 115)) #[] #[])) (hab : a ≠ b) (had : a ≠ d) :
  Calls Tryz.prog 123 #[.int .u8 c, .pointer (some ⟨a, 0, none⟩), .pointer (some ⟨b, 0, none⟩), .pointer (some ⟨d, 0, none⟩)] w fun r w' => r = .returned (.bool (stepU low val (4 * k) c)) ∧ ∃ n, w' = (w.setCell ⟨a, 0, none⟩ (.int .i64 (valU val c : Nat))).drewN n := by
 rw [valU_int]
 unfold stepU wantB
 have e : k = 0 ∨ k = 1 ∨ k = 2 ∨ k = 3 := by omega
 cases low
 ·rcases e with rfl | rfl | rfl | rfl
  ·have g := unit1_n0 c a b d val w h0 h1 hv ha hfa hb hd hab had
   simpa using g
  ·exact unit1_n4 c a b d val w h0 h1 hv ha hfa hb hd hab had
  ·exact unit1_n8 c a b d val w h0 h1 hv ha hfa hb hd hab had
  ·exact unit1_n12 c a b d val w h0 h1 hv ha hfa hb hd hab had
 ·rcases e with rfl | rfl | rfl | rfl
  ·have g := unit1_l0 c a b d val w h0 h1 hv ha hfa hb hd hab had
   simpa using g
  ·exact unit1_l4 c a b d val w h0 h1 hv ha hfa hb hd hab had
  ·exact unit1_l8 c a b d val w h0 h1 hv ha hfa hb hd hab had
  ·exact unit1_l12 c a b d val w h0 h1 hv ha hfa hb hd hab had
set_option maxHeartbeats 400000 in
theorem taken_unit (a b d : Nat) (g : Int → Int) (l : List UInt8) (i : Nat) (v : Value) (p : Int → Bool) (w : World) (hB : Byt w v l) (hi : i ≤ l.length) (hm : l.length ≤ 281474976710656)
  (hf : ∀ c, 0 ≤ c → c < 256 → Calls Tryz.prog 123 #[.int .u8 c, .pointer (some ⟨a, 0, none⟩), .pointer (some ⟨b, 0, none⟩), .pointer (some ⟨d, 0, none⟩)] w fun r w' => r = .returned (.bool (p c)) ∧ ∃ n, w' = (w.setCell ⟨a, 0, none⟩ (.int .i64 (g c))).drewN n) :
  Calls Tryz.prog 93 #[v, .int .i64 i, .func (.func 123) #[] #[.pointer (some ⟨a, 0, none⟩), .pointer (some ⟨b, 0, none⟩), .pointer (some ⟨d, 0, none⟩)]] w fun r w' => r = .returned (plV (takenL l i p)) ∧ ((i < l.length ∧ ∃ n, w' = (w.setCell ⟨a, 0, none⟩ (.int .i64 (g (bx l i)))).drewN n) ∨ (¬ i < l.length ∧ w' = w)) := by
 have hmI : (l.length : Int) ≤ 281474976710656 := by omega
 have g1 := fun w => badAt_any i w (by omega)
 by_cases hlt : i < l.length
 ·rcases hB with ⟨h0, _⟩ | ⟨bb, off, cap, rfl, hc, hm', hL⟩
  ·omega
  ·have hcell := hL.cell i hlt
   have hI : (i : Int) < (l.length : Int) := by omega
   have h1 := hf (bx l i) (bx_lo l i) (bx_hi l i)
   have HG : Hid (i < l.length) := hlt
   obtain ⟨y, hy⟩ : ∃ y, g (bx l i) = y := ⟨_, rfl⟩
   rw [hy] at h1 ⊢
   clear hy
   cases hp : p (bx l i)
   ·rw [hp] at h1
    have HR : Hid (takenL l i p = .error (i + 1)) := by show _ = _; simp [takenL, hasAt_in p hlt, hp]
    clear hp hL hf hc hm'
    generalize bx l i = c at *
    go_enter Tryz.func93, Tryz.ntmps93
    go_wp2_with (first | (go_at_call 123; refine h1.mono ?_; rintro r w2 ⟨rfl, q, rfl⟩) | (go_at_call 48; refine (g1 _).mono ?_; rintro r w3 ⟨rfl, rfl⟩))
    go_ret2
    exact ⟨r_pl (by rw [HR.out]; rfl), .inl ⟨HG.out, _, rfl⟩⟩
   ·rw [hp] at h1
    have HR : Hid (takenL l i p = .ok (i + 1)) := by show _ = _; simp [takenL, hasAt_in p hlt, hp]
    clear hp hL hf hc hm' g1
    generalize bx l i = c at *
    go_enter Tryz.func93, Tryz.ntmps93
    go_wp2_with (go_at_call 123; refine h1.mono ?_; rintro r w2 ⟨rfl, q, rfl⟩)
    go_ret2
    exact ⟨r_pl (by rw [HR.out]; simp [plV]), .inl ⟨HG.out, _, rfl⟩⟩
 ·have hI : ¬ (i : Int) < (l.length : Int) := by omega
  have HR : Hid (takenL l i p = .error (i + 1)) := by show _ = _; simp [takenL, hasAt_out p hlt]
  have HL : Hid (¬ i < l.length) := hlt
  obtain ⟨ad, cap, rfl, _⟩ := hB.shape
  clear hB hf
  go_enter Tryz.func93, Tryz.ntmps93
  go_wp2_with (go_at_call 48; refine (g1 _).mono ?_; rintro r w3 ⟨rfl, rfl⟩)
  go_ret2
  exact ⟨r_pl (by rw [HR.out]; rfl), .inr ⟨HL.out, rfl⟩⟩
end Go.Proofs.YtjakgdaodlgeaaaGreatDoor.Lx

namespace Go.Proofs.YtjakgdaodlgeaaaGreatDoor.Lx
open Go.RowKit
attribute [local go_sem] setCell_drewN alloc_drewN

def unV : Except Nat (Nat × Nat) → Value
 | .ok r => .tuple #[.int .i64 r.1, .int .i64 r.2, .nilIface]
 | .error n => .tuple #[.int .i64 0, .int .i64 0, errV n]
theorem pow16 {j val : Nat} (hj : j < 4) (h : val * 16 ^ (j + 1) < 65536) : val < 4096 := by
 have e : j = 0 ∨ j = 1 ∨ j = 2 ∨ j = 3 := by omega
 rcases e with rfl | rfl | rfl | rfl
 ·have h' : val * 16 < 65536 := h
  omega
 ·have h' : val * 256 < 65536 := h
  omega
 ·have h' : val * 4096 < 65536 := h
  omega
 ·have h' : val * 65536 < 65536 := h
  omega
set_option maxRecDepth 100000 in
theorem pow16' {j val : Nat} {c : Int} (hj : j < 4) (h : val * 16 ^ (j + 1) < 65536) : valU val c * 16 ^ j < 65536 := by
 have := hexV_bd c
 have e : j = 0 ∨ j = 1 ∨ j = 2 ∨ j = 3 := by omega
 unfold valU
 rcases e with rfl | rfl | rfl | rfl
 ·have h' : val * 16 < 65536 := h
  rw [show (16 : Nat) ^ 0 = 1 from rfl]
  omega
 ·have h' : val * 256 < 65536 := h
  rw [show (16 : Nat) ^ 1 = 16 from rfl]
  omega
 ·have h' : val * 4096 < 65536 := h
  rw [show (16 : Nat) ^ 2 = 256 from rfl]
  omega
 ·have h' : val * 65536 < 65536 := h
  rw [show (16 : Nat) ^ 3 = 4096 from rfl]
  omega
set_option maxRecDepth 100000 in
set_option maxHeartbeats 1600000 in
theorem unit_false (l : List UInt8) (i : Nat) (v : Value) (w : World) (hB : Byt w v l) (hi : i ≤ l.length) (hm : l.length ≤ 281474976710656) :
  Calls Tryz.prog 114 #[v, .int .i64 i, .func (.func 115) #[] #[]] w fun r w' => r = .returned (unV (unitL l false i)) ∧ Below w.heap.size w w' := by
 have hiI : (i : Int) ≤ 281474976710656 := by omega
 go_enter Tryz.func114, Tryz.ntmps114
 go_wp2
 go_loopw [1, 10] (fun t u wr => ∃ j k val B : Nat, j + k = 4 ∧ t = .int .i64 ((i : Int) + (k : Int)) ∧ u = .pointer (some ⟨B, 0, none⟩) ∧ i + k ≤ l.length ∧ w.heap.size + 2 ≤ B ∧ B < wr.heap.size ∧ val * 16 ^ j < 65536 ∧ wr.cell? ⟨w.heap.size, 0, none⟩ = some (.func (.func 115) #[] #[]) ∧ wr.cell? ⟨w.heap.size + 1, 0, none⟩ = some (.int .i64 val) ∧ wr.frozen? ⟨w.heap.size + 1, 0, none⟩ = false ∧ wr.cell? ⟨B, 0, none⟩ = some (.int .i64 (4 * (j : Int) - 4)) ∧ wr.frozen? ⟨B, 0, none⟩ = false ∧ Hid (unitF l false j (i + k) val = unitL l false i) ∧ Below w.heap.size w wr) (fun t _ _ => i + 4 - (intOf t).toNat)
 case atStart => exact ⟨4, 0, 0, w.heap.size + 2, rfl, by simp, rfl, by omega, by omega, by simp, by simp, by simp [go_sem], by simp [go_sem], by simp [go_sem], by simp [go_sem], by simp [go_sem], rfl, (by with_reducible repeat (first | exact Below.refl _ _ | refine bl_a ?_ _ | refine bl_s ?_ (by omega) _))⟩
 case round =>
  obtain ⟨j, k, val, B, hjk, rfl, rfl, hil, hBl, hBs, hvl, c0, c1, f1, cB, fB, HP, hbel⟩ := hrel
  cases j with
  | zero =>
   have HR : Hid (unitL l false i = .ok (val, i + k)) := by show _ = _; rw [← HP.out]; rfl
   clear HP hB
   go_wp2
   go_ret3
   exact ⟨r_pl (by rw [HR.out]; simp [unV]), hbel⟩
  | succ j =>
   have e4 : (4 * ((j + 1 : Nat) : Int) - 4) = ((4 * j : Nat) : Int) := by omega
   rw [e4] at cB
   have hj0 : (0 : Int) ≤ ((4 * j : Nat) : Int) := by omega
   have hj12 : ((4 * j : Nat) : Int) ≤ 12 := by omega
   have h1 := taken_unit (w.heap.size + 1) B w.heap.size (fun c => (valU val c : Nat)) l (i + k) v (stepU false val (4 * j)) wr (hB.below hbel) hil hm (fun c hc0 hc1 => unit1_any false j (by omega) c _ _ _ val wr hc0 hc1 (pow16 (by omega) hvl) c1 f1 cB c0 (by omega) (by omega))
   have e0 : ((i + k : Nat) : Int) = (i : Int) + (k : Int) := by omega
   rw [e0] at h1
   obtain ⟨x, hx⟩ : ∃ x, ((4 * j : Nat) : Int) = x := ⟨_, rfl⟩
   have HX : Hid (((4 * j : Nat) : Int) = x) := hx
   rw [hx] at cB hj0 hj12
   clear hx e4
   cases h : hasAt l (i + k) (stepU false val (4 * j))
   ·have e : takenL l (i + k) (stepU false val (4 * j)) = .error (i + k + 1) := by simp [takenL, h]
    have HR : Hid (unitL l false i = .error (i + k + 1)) := by show _ = _; rw [← HP.out, unitF, h]; rfl
    rw [e] at h1
    simp only [plV, errV] at h1
    clear h e HP hB
    go_wp2_with (go_at_call 93; refine h1.mono ?_; rintro r w2 ⟨rfl, hb2⟩)
    go_ret3
    refine ⟨r_pl (by rw [HR.out]; rfl), ?_⟩
    rcases hb2 with ⟨_, q, rfl⟩ | ⟨_, rfl⟩
    ·exact bl_n (bl_s hbel (by omega) _) _
    ·exact hbel
   ·have e : takenL l (i + k) (stepU false val (4 * j)) = .ok (i + k + 1) := by simp [takenL, h]
    have hl := hasAt_lt h
    have HR : Hid (unitF l false j (i + (k + 1)) (valU val (bx l (i + k))) = unitL l false i) := by show _ = _; rw [← HP.out, unitF, h]; rfl
    have hv2 := pow16' (c := bx l (i + k)) (j := j) (by omega) hvl
    rw [e] at h1
    simp only [plV] at h1
    clear h e HP hB
    generalize valU val (bx l (i + k)) = val2 at *
    have cB2 : (wr.setCell ⟨w.heap.size + 1, 0, none⟩ (.int .i64 val2)).cell? ⟨B, 0, none⟩ = some (.int .i64 x) := (World.cell?_setCell_other _ _ _ _ (by simp <;> omega)).trans cB
    have c02 : (wr.setCell ⟨w.heap.size + 1, 0, none⟩ (.int .i64 val2)).cell? ⟨w.heap.size, 0, none⟩ = some (.func (.func 115) #[] #[]) := (World.cell?_setCell_other _ _ _ _ (by simp <;> omega)).trans c0
    have c12 : (wr.setCell ⟨w.heap.size + 1, 0, none⟩ (.int .i64 val2)).cell? ⟨w.heap.size + 1, 0, none⟩ = some (.int .i64 val2) := World.cell?_setCell_same _ _ _ c1
    have f12 : (wr.setCell ⟨w.heap.size + 1, 0, none⟩ (.int .i64 val2)).frozen? ⟨w.heap.size + 1, 0, none⟩ = false := (World.frozen?_setCell _ _ _ _).trans f1
    have z2 : (wr.setCell ⟨w.heap.size + 1, 0, none⟩ (.int .i64 val2)).heap.size = wr.heap.size := by simp
    have b2 : Below w.heap.size w (wr.setCell ⟨w.heap.size + 1, 0, none⟩ (.int .i64 val2)) := bl_s hbel (by omega) _
    go_wp2_with (go_at_call 93; refine h1.mono ?_; rintro r w2 ⟨rfl, hb2⟩; obtain ⟨q, rfl⟩ : ∃ q, w2 = (wr.setCell ⟨w.heap.size + 1, 0, none⟩ (.int .i64 val2)).drewN q := by (rcases hb2 with ⟨_, h⟩ | ⟨h, _⟩; exact h; exact absurd hl h))
    generalize wr.setCell ⟨w.heap.size + 1, 0, none⟩ (.int .i64 val2) = W at *
    go_roundw
    case rel =>
     refine ⟨j, k + 1, val2, _, by omega, by go_num, rfl, by omega, by omega, by simp <;> omega, hv2, ?_, ?_, ?_, ?_, ?_, HR, bl_n (bl_a b2 _) _⟩
     ·rw [World.cell?_drewN, World.cell?_alloc_past _ _ _ (by omega)]; exact c02
     ·rw [World.cell?_drewN, World.cell?_alloc_past _ _ _ (by omega)]; exact c12
     ·show (W.alloc _).frozen? _ = false
      rw [World.frozen?_alloc_past _ _ _ (by omega)]; exact f12
     ·rw [World.cell?_drewN, World.cell?_alloc_at _ _ _ _ z2.symm]
      have := HX.out
      exact congrArg some (congrArg (Value.int .i64) (by omega))
     ·show (W.alloc _).frozen? _ = false
      rw [← z2]; simp [go_sem]
    case measure => simp [intOf]; omega
set_option maxRecDepth 100000 in
set_option maxHeartbeats 1600000 in
theorem unit_true (l : List UInt8) (i : Nat) (v : Value) (w : World) (hB : Byt w v l) (hi : i ≤ l.length) (hm : l.length ≤ 281474976710656) :
  Calls Tryz.prog 114 #[v, .int .i64 i, .func (.func 125) #[] #[]] w fun r w' => r = .returned (unV (unitL l true i)) ∧ Below w.heap.size w w' := by
 have hiI : (i : Int) ≤ 281474976710656 := by omega
 go_enter Tryz.func114, Tryz.ntmps114
 go_wp2
 go_loopw [1, 10] (fun t u wr => ∃ j k val B : Nat, j + k = 4 ∧ t = .int .i64 ((i : Int) + (k : Int)) ∧ u = .pointer (some ⟨B, 0, none⟩) ∧ i + k ≤ l.length ∧ w.heap.size + 2 ≤ B ∧ B < wr.heap.size ∧ val * 16 ^ j < 65536 ∧ wr.cell? ⟨w.heap.size, 0, none⟩ = some (.func (.func 125) #[] #[]) ∧ wr.cell? ⟨w.heap.size + 1, 0, none⟩ = some (.int .i64 val) ∧ wr.frozen? ⟨w.heap.size + 1, 0, none⟩ = false ∧ wr.cell? ⟨B, 0, none⟩ = some (.int .i64 (4 * (j : Int) - 4)) ∧ wr.frozen? ⟨B, 0, none⟩ = false ∧ Hid (unitF l true j (i + k) val = unitL l true i) ∧ Below w.heap.size w wr) (fun t _ _ => i + 4 - (intOf t).toNat)
 case atStart => exact ⟨4, 0, 0, w.heap.size + 2, rfl, by simp, rfl, by omega, by omega, by simp, by simp, by simp [go_sem], by simp [go_sem], by simp [go_sem], by simp [go_sem], by simp [go_sem], rfl, (by with_reducible repeat (first | exact Below.refl _ _ | refine bl_a ?_ _ | refine bl_s ?_ (by omega) _))⟩
 case round =>
  obtain ⟨j, k, val, B, hjk, rfl, rfl, hil, hBl, hBs, hvl, c0, c1, f1, cB, fB, HP, hbel⟩ := hrel
  cases j with
  | zero =>
   have HR : Hid (unitL l true i = .ok (val, i + k)) := by show _ = _; rw [← HP.out]; rfl
   clear HP hB
   go_wp2
   go_ret3
   exact ⟨r_pl (by rw [HR.out]; simp [unV]), hbel⟩
  | succ j =>
   have e4 : (4 * ((j + 1 : Nat) : Int) - 4) = ((4 * j : Nat) : Int) := by omega
   rw [e4] at cB
   have hj0 : (0 : Int) ≤ ((4 * j : Nat) : Int) := by omega
   have hj12 : ((4 * j : Nat) : Int) ≤ 12 := by omega
   have h1 := taken_unit (w.heap.size + 1) B w.heap.size (fun c => (valU val c : Nat)) l (i + k) v (stepU true val (4 * j)) wr (hB.below hbel) hil hm (fun c hc0 hc1 => unit1_any true j (by omega) c _ _ _ val wr hc0 hc1 (pow16 (by omega) hvl) c1 f1 cB c0 (by omega) (by omega))
   have e0 : ((i + k : Nat) : Int) = (i : Int) + (k : Int) := by omega
   rw [e0] at h1
   obtain ⟨x, hx⟩ : ∃ x, ((4 * j : Nat) : Int) = x := ⟨_, rfl⟩
   have HX : Hid (((4 * j : Nat) : Int) = x) := hx
   rw [hx] at cB hj0 hj12
   clear hx e4
   cases h : hasAt l (i + k) (stepU true val (4 * j))
   ·have e : takenL l (i + k) (stepU true val (4 * j)) = .error (i + k + 1) := by simp [takenL, h]
    have HR : Hid (unitL l true i = .error (i + k + 1)) := by show _ = _; rw [← HP.out, unitF, h]; rfl
    rw [e] at h1
    simp only [plV, errV] at h1
    clear h e HP hB
    go_wp2_with (go_at_call 93; refine h1.mono ?_; rintro r w2 ⟨rfl, hb2⟩)
    go_ret3
    refine ⟨r_pl (by rw [HR.out]; rfl), ?_⟩
    rcases hb2 with ⟨_, q, rfl⟩ | ⟨_, rfl⟩
    ·exact bl_n (bl_s hbel (by omega) _) _
    ·exact hbel
   ·have e : takenL l (i + k) (stepU true val (4 * j)) = .ok (i + k + 1) := by simp [takenL, h]
    have hl := hasAt_lt h
    have HR : Hid (unitF l true j (i + (k + 1)) (valU val (bx l (i + k))) = unitL l true i) := by show _ = _; rw [← HP.out, unitF, h]; rfl
    have hv2 := pow16' (c := bx l (i + k)) (j := j) (by omega) hvl
    rw [e] at h1
    simp only [plV] at h1
    clear h e HP hB
    generalize valU val (bx l (i + k)) = val2 at *
    have cB2 : (wr.setCell ⟨w.heap.size + 1, 0, none⟩ (.int .i64 val2)).cell? ⟨B, 0, none⟩ = some (.int .i64 x) := (World.cell?_setCell_other _ _ _ _ (by simp <;> omega)).trans cB
    have c02 : (wr.setCell ⟨w.heap.size + 1, 0, none⟩ (.int .i64 val2)).cell? ⟨w.heap.size, 0, none⟩ = some (.func (.func 125) #[] #[]) := (World.cell?_setCell_other _ _ _ _ (by simp <;> omega)).trans c0
    have c12 : (wr.setCell ⟨w.heap.size + 1, 0, none⟩ (.int .i64 val2)).cell? ⟨w.heap.size + 1, 0, none⟩ = some (.int .i64 val2) := World.cell?_setCell_same _ _ _ c1
    have f12 : (wr.setCell ⟨w.heap.size + 1, 0, none⟩ (.int .i64 val2)).frozen? ⟨w.heap.size + 1, 0, none⟩ = false := (World.frozen?_setCell _ _ _ _).trans f1
    have z2 : (wr.setCell ⟨w.heap.size + 1, 0, none⟩ (.int .i64 val2)).heap.size = wr.heap.size := by simp
    have b2 : Below w.heap.size w (wr.setCell ⟨w.heap.size + 1, 0, none⟩ (.int .i64 val2)) := bl_s hbel (by omega) _
    go_wp2_with (go_at_call 93; refine h1.mono ?_; rintro r w2 ⟨rfl, hb2⟩; obtain ⟨q, rfl⟩ : ∃ q, w2 = (wr.setCell ⟨w.heap.size + 1, 0, none⟩ (.int .i64 val2)).drewN q := by (rcases hb2 with ⟨_, h⟩ | ⟨h, _⟩; exact h; exact absurd hl h))
    generalize wr.setCell ⟨w.heap.size + 1, 0, none⟩ (.int .i64 val2) = W at *
    go_roundw
    case rel =>
     refine ⟨j, k + 1, val2, _, by omega, by go_num, rfl, by omega, by omega, by simp <;> omega, hv2, ?_, ?_, ?_, ?_, ?_, HR, bl_n (bl_a b2 _) _⟩
     ·rw [World.cell?_drewN, World.cell?_alloc_past _ _ _ (by omega)]; exact c02
     ·rw [World.cell?_drewN, World.cell?_alloc_past _ _ _ (by omega)]; exact c12
     ·show (W.alloc _).frozen? _ = false
      rw [World.frozen?_alloc_past _ _ _ (by omega)]; exact f12
     ·rw [World.cell?_drewN, World.cell?_alloc_at _ _ _ _ z2.symm]
      have := HX.out
      exact congrArg some (congrArg (Value.int .i64) (by omega))
     ·show (W.alloc _).frozen? _ = false
      rw [← z2]; simp [go_sem]
    case measure => simp [intOf]; omega
end Go.Proofs.YtjakgdaodlgeaaaGreatDoor.Lx
