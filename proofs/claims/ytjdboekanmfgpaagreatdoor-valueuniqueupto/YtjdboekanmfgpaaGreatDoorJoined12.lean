/-
  What lex.unit answers: the number that four digits of 16 make, or where it is bad. Conditions: the bytes lie in memory, at most 2^48 of them.
  What lex.pair and lex.point answer: the code point that is escaped, as UTF-8, or where it is bad. Conditions: the bytes lie in memory, at most 2^48 of them; the table of greatest code points holds its four numbers.
-/
import Derived.Test.YtjdboekanmfgpaaGreatDoorJoined11
namespace Go.Proofs.YtjdboekanmfgpaaGreatDoor.Lx
open Go.RowKit
attribute [local go_sem] setCell_drewN alloc_drewN

/-- A number and a place, or the error, as they are returned. -/
def unV : Except Nat (Nat × Nat) → Value
 | .ok r => .tuple #[.int .i64 r.1, .int .i64 r.2, .nilIface]
 | .error n => .tuple #[.int .i64 0, .int .i64 0, errV n]
theorem pow16 {j val : Nat} (hj : j < 4) (h : val * 16 ^ (j + 1) < 65536) : val < 4096 := by
 have e : j = 0 ∨ j = 1 ∨ j = 2 ∨ j = 3 := by omega
 rcases e with rfl | rfl | rfl | rfl
 ·have h' : val * 16 < 65536 := h
  omega
 ·have h' : val * 256 < 65536 := h
  omega
 ·have h' : val * 4096 < 65536 := h
  omega
 ·have h' : val * 65536 < 65536 := h
  omega
set_option maxRecDepth 100000 in
theorem pow16' {j val : Nat} {c : Int} (hj : j < 4) (h : val * 16 ^ (j + 1) < 65536) : valU val c * 16 ^ j < 65536 := by
 have := hexV_bd c
 have e : j = 0 ∨ j = 1 ∨ j = 2 ∨ j = 3 := by omega
 unfold valU
 rcases e with rfl | rfl | rfl | rfl
 ·have h' : val * 16 < 65536 := h
  rw [show (16 : Nat) ^ 0 = 1 from rfl]
  omega
 ·have h' : val * 256 < 65536 := h
  rw [show (16 : Nat) ^ 1 = 16 from rfl]
  omega
 ·have h' : val * 4096 < 65536 := h
  rw [show (16 : Nat) ^ 2 = 256 from rfl]
  omega
 ·have h' : val * 65536 < 65536 := h
  rw [show (16 : Nat) ^ 3 = 4096 from rfl]
  omega

set_option maxRecDepth 100000 in
set_option maxHeartbeats 1600000 in
theorem unit_false (l : List UInt8) (i : Nat) (v : Value) (w : World) (hB : Byt w v l) (hi : i ≤ l.length) (hm : l.length ≤ 281474976710656) :
  Calls Tryz.prog 219 #[v, .int .i64 i, .func (.func 220) #[] #[]] w fun r w' => r = .returned (unV (unitL l false i)) ∧ Below w.heap.size w w' := by
 have hiI : (i : Int) ≤ 281474976710656 := by omega
 go_enter Tryz.func219, Tryz.ntmps219
 go_wp2
 go_loopw [1, 10] (fun t u wr => ∃ j k val B : Nat, j + k = 4 ∧ t = .int .i64 ((i : Int) + (k : Int)) ∧ u = .pointer (some ⟨B, 0, none⟩) ∧ i + k ≤ l.length ∧ w.heap.size + 2 ≤ B ∧ B < wr.heap.size ∧ val * 16 ^ j < 65536 ∧ wr.cell? ⟨w.heap.size, 0, none⟩ = some (.func (.func 220) #[] #[]) ∧ wr.cell? ⟨w.heap.size + 1, 0, none⟩ = some (.int .i64 val) ∧ wr.frozen? ⟨w.heap.size + 1, 0, none⟩ = false ∧ wr.cell? ⟨B, 0, none⟩ = some (.int .i64 (4 * (j : Int) - 4)) ∧ wr.frozen? ⟨B, 0, none⟩ = false ∧ Hid (unitF l false j (i + k) val = unitL l false i) ∧ Below w.heap.size w wr) (fun t _ _ => i + 4 - (intOf t).toNat)
 case atStart => exact ⟨4, 0, 0, w.heap.size + 2, rfl, by simp, rfl, by omega, by omega, by simp, by simp, by simp [go_sem], by simp [go_sem], by simp [go_sem], by simp [go_sem], by simp [go_sem], rfl, (by with_reducible repeat (first | exact Below.refl _ _ | refine bl_a ?_ _ | refine bl_s ?_ (by omega) _))⟩
 case round =>
  obtain ⟨j, k, val, B, hjk, rfl, rfl, hil, hBl, hBs, hvl, c0, c1, f1, cB, fB, HP, hbel⟩ := hrel
  cases j with
  | zero =>
   have HR : Hid (unitL l false i = .ok (val, i + k)) := by show _ = _; rw [← HP.out]; rfl
   clear HP hB
   go_wp2
   go_ret3
   exact ⟨r_pl (by rw [HR.out]; simp [unV]), hbel⟩
  | succ j =>
   have e4 : (4 * ((j + 1 : Nat) : Int) - 4) = ((4 * j : Nat) : Int) := by omega
   rw [e4] at cB
   have hj0 : (0 : Int) ≤ ((4 * j : Nat) : Int) := by omega
   have hj12 : ((4 * j : Nat) : Int) ≤ 12 := by omega
   have h1 := taken_unit (w.heap.size + 1) B w.heap.size (fun c => (valU val c : Nat)) l (i + k) v (stepU false val (4 * j)) wr (hB.below hbel) hil hm (fun c hc0 hc1 => unit1_any false j (by omega) c _ _ _ val wr hc0 hc1 (pow16 (by omega) hvl) c1 f1 cB c0 (by omega) (by omega))
   have e0 : ((i + k : Nat) : Int) = (i : Int) + (k : Int) := by omega
   rw [e0] at h1
   obtain ⟨x, hx⟩ : ∃ x, ((4 * j : Nat) : Int) = x := ⟨_, rfl⟩
   have HX : Hid (((4 * j : Nat) : Int) = x) := hx
   rw [hx] at cB hj0 hj12
   clear hx e4
   cases h : hasAt l (i + k) (stepU false val (4 * j))
   ·have e : takenL l (i + k) (stepU false val (4 * j)) = .error (i + k + 1) := by simp [takenL, h]
    have HR : Hid (unitL l false i = .error (i + k + 1)) := by show _ = _; rw [← HP.out, unitF, h]; rfl
    rw [e] at h1
    simp only [plV, errV] at h1
    clear h e HP hB
    go_wp2_with (go_at_call 207; refine h1.mono ?_; rintro r w2 ⟨rfl, hb2⟩)
    go_ret3
    refine ⟨r_pl (by rw [HR.out]; rfl), ?_⟩
    rcases hb2 with ⟨_, q, rfl⟩ | ⟨_, rfl⟩
    ·exact bl_n (bl_s hbel (by omega) _) _
    ·exact hbel
   ·have e : takenL l (i + k) (stepU false val (4 * j)) = .ok (i + k + 1) := by simp [takenL, h]
    have hl := hasAt_lt h
    have HR : Hid (unitF l false j (i + (k + 1)) (valU val (bx l (i + k))) = unitL l false i) := by show _ = _; rw [← HP.out, unitF, h]; rfl
    have hv2 := pow16' (c := bx l (i + k)) (j := j) (by omega) hvl
    rw [e] at h1
    simp only [plV] at h1
    clear h e HP hB
    generalize valU val (bx l (i + k)) = val2 at *
    have cB2 : (wr.setCell ⟨w.heap.size + 1, 0, none⟩ (.int .i64 val2)).cell? ⟨B, 0, none⟩ = some (.int .i64 x) := (World.cell?_setCell_other _ _ _ _ (by simp <;> omega)).trans cB
    have c02 : (wr.setCell ⟨w.heap.size + 1, 0, none⟩ (.int .i64 val2)).cell? ⟨w.heap.size, 0, none⟩ = some (.func (.func 220) #[] #[]) := (World.cell?_setCell_other _ _ _ _ (by simp <;> omega)).trans c0
    have c12 : (wr.setCell ⟨w.heap.size + 1, 0, none⟩ (.int .i64 val2)).cell? ⟨w.heap.size + 1, 0, none⟩ = some (.int .i64 val2) := World.cell?_setCell_same _ _ _ c1
    have f12 : (wr.setCell ⟨w.heap.size + 1, 0, none⟩ (.int .i64 val2)).frozen? ⟨w.heap.size + 1, 0, none⟩ = false := (World.frozen?_setCell _ _ _ _).trans f1
    have z2 : (wr.setCell ⟨w.heap.size + 1, 0, none⟩ (.int .i64 val2)).heap.size = wr.heap.size := by simp
    have b2 : Below w.heap.size w (wr.setCell ⟨w.heap.size + 1, 0, none⟩ (.int .i64 val2)) := bl_s hbel (by omega) _
    go_wp2_with (go_at_call 207; refine h1.mono ?_; rintro r w2 ⟨rfl, hb2⟩; obtain ⟨q, rfl⟩ : ∃ q, w2 = (wr.setCell ⟨w.heap.size + 1, 0, none⟩ (.int .i64 val2)).drewN q := by (rcases hb2 with ⟨_, h⟩ | ⟨h, _⟩; exact h; exact absurd hl h))
    generalize wr.setCell ⟨w.heap.size + 1, 0, none⟩ (.int .i64 val2) = W at *
    go_roundw
    case rel =>
     refine ⟨j, k + 1, val2, _, by omega, by go_num, rfl, by omega, by omega, by simp <;> omega, hv2, ?_, ?_, ?_, ?_, ?_, HR, bl_n (bl_a b2 _) _⟩
     ·rw [World.cell?_drewN, World.cell?_alloc_past _ _ _ (by omega)]; exact c02
     ·rw [World.cell?_drewN, World.cell?_alloc_past _ _ _ (by omega)]; exact c12
     ·show (W.alloc _).frozen? _ = false
      rw [World.frozen?_alloc_past _ _ _ (by omega)]; exact f12
     ·rw [World.cell?_drewN, World.cell?_alloc_at _ _ _ _ z2.symm]
      have := HX.out
      exact congrArg some (congrArg (Value.int .i64) (by omega))
     ·show (W.alloc _).frozen? _ = false
      rw [← z2]; simp [go_sem]
    case measure => simp [intOf]; omega

set_option maxRecDepth 100000 in
set_option maxHeartbeats 1600000 in
theorem unit_true (l : List UInt8) (i : Nat) (v : Value) (w : World) (hB : Byt w v l) (hi : i ≤ l.length) (hm : l.length ≤ 281474976710656) :
  Calls Tryz.prog 219 #[v, .int .i64 i, .func (.func 234) #[] #[]] w fun r w' => r = .returned (unV (unitL l true i)) ∧ Below w.heap.size w w' := by
 have hiI : (i : Int) ≤ 281474976710656 := by omega
 go_enter Tryz.func219, Tryz.ntmps219
 go_wp2
 go_loopw [1, 10] (fun t u wr => ∃ j k val B : Nat, j + k = 4 ∧ t = .int .i64 ((i : Int) + (k : Int)) ∧ u = .pointer (some ⟨B, 0, none⟩) ∧ i + k ≤ l.length ∧ w.heap.size + 2 ≤ B ∧ B < wr.heap.size ∧ val * 16 ^ j < 65536 ∧ wr.cell? ⟨w.heap.size, 0, none⟩ = some (.func (.func 234) #[] #[]) ∧ wr.cell? ⟨w.heap.size + 1, 0, none⟩ = some (.int .i64 val) ∧ wr.frozen? ⟨w.heap.size + 1, 0, none⟩ = false ∧ wr.cell? ⟨B, 0, none⟩ = some (.int .i64 (4 * (j : Int) - 4)) ∧ wr.frozen? ⟨B, 0, none⟩ = false ∧ Hid (unitF l true j (i + k) val = unitL l true i) ∧ Below w.heap.size w wr) (fun t _ _ => i + 4 - (intOf t).toNat)
 case atStart => exact ⟨4, 0, 0, w.heap.size + 2, rfl, by simp, rfl, by omega, by omega, by simp, by simp, by simp [go_sem], by simp [go_sem], by simp [go_sem], by simp [go_sem], by simp [go_sem], rfl, (by with_reducible repeat (first | exact Below.refl _ _ | refine bl_a ?_ _ | refine bl_s ?_ (by omega) _))⟩
 case round =>
  obtain ⟨j, k, val, B, hjk, rfl, rfl, hil, hBl, hBs, hvl, c0, c1, f1, cB, fB, HP, hbel⟩ := hrel
  cases j with
  | zero =>
   have HR : Hid (unitL l true i = .ok (val, i + k)) := by show _ = _; rw [← HP.out]; rfl
   clear HP hB
   go_wp2
   go_ret3
   exact ⟨r_pl (by rw [HR.out]; simp [unV]), hbel⟩
  | succ j =>
   have e4 : (4 * ((j + 1 : Nat) : Int) - 4) = ((4 * j : Nat) : Int) := by omega
   rw [e4] at cB
   have hj0 : (0 : Int) ≤ ((4 * j : Nat) : Int) := by omega
   have hj12 : ((4 * j : Nat) : Int) ≤ 12 := by omega
   have h1 := taken_unit (w.heap.size + 1) B w.heap.size (fun c => (valU val c : Nat)) l (i + k) v (stepU true val (4 * j)) wr (hB.below hbel) hil hm (fun c hc0 hc1 => unit1_any true j (by omega) c _ _ _ val wr hc0 hc1 (pow16 (by omega) hvl) c1 f1 cB c0 (by omega) (by omega))
   have e0 : ((i + k : Nat) : Int) = (i : Int) + (k : Int) := by omega
   rw [e0] at h1
   obtain ⟨x, hx⟩ : ∃ x, ((4 * j : Nat) : Int) = x := ⟨_, rfl⟩
   have HX : Hid (((4 * j : Nat) : Int) = x) := hx
   rw [hx] at cB hj0 hj12
   clear hx e4
   cases h : hasAt l (i + k) (stepU true val (4 * j))
   ·have e : takenL l (i + k) (stepU true val (4 * j)) = .error (i + k + 1) := by simp [takenL, h]
    have HR : Hid (unitL l true i = .error (i + k + 1)) := by show _ = _; rw [← HP.out, unitF, h]; rfl
    rw [e] at h1
    simp only [plV, errV] at h1
    clear h e HP hB
    go_wp2_with (go_at_call 207; refine h1.mono ?_; rintro r w2 ⟨rfl, hb2⟩)
    go_ret3
    refine ⟨r_pl (by rw [HR.out]; rfl), ?_⟩
    rcases hb2 with ⟨_, q, rfl⟩ | ⟨_, rfl⟩
    ·exact bl_n (bl_s hbel (by omega) _) _
    ·exact hbel
   ·have e : takenL l (i + k) (stepU true val (4 * j)) = .ok (i + k + 1) := by simp [takenL, h]
    have hl := hasAt_lt h
    have HR : Hid (unitF l true j (i + (k + 1)) (valU val (bx l (i + k))) = unitL l true i) := by show _ = _; rw [← HP.out, unitF, h]; rfl
    have hv2 := pow16' (c := bx l (i + k)) (j := j) (by omega) hvl
    rw [e] at h1
    simp only [plV] at h1
    clear h e HP hB
    generalize valU val (bx l (i + k)) = val2 at *
    have cB2 : (wr.setCell ⟨w.heap.size + 1, 0, none⟩ (.int .i64 val2)).cell? ⟨B, 0, none⟩ = some (.int .i64 x) := (World.cell?_setCell_other _ _ _ _ (by simp <;> omega)).trans cB
    have c02 : (wr.setCell ⟨w.heap.size + 1, 0, none⟩ (.int .i64 val2)).cell? ⟨w.heap.size, 0, none⟩ = some (.func (.func 234) #[] #[]) := (World.cell?_setCell_other _ _ _ _ (by simp <;> omega)).trans c0
    have c12 : (wr.setCell ⟨w.heap.size + 1, 0, none⟩ (.int .i64 val2)).cell? ⟨w.heap.size + 1, 0, none⟩ = some (.int .i64 val2) := World.cell?_setCell_same _ _ _ c1
    have f12 : (wr.setCell ⟨w.heap.size + 1, 0, none⟩ (.int .i64 val2)).frozen? ⟨w.heap.size + 1, 0, none⟩ = false := (World.frozen?_setCell _ _ _ _).trans f1
    have z2 : (wr.setCell ⟨w.heap.size + 1, 0, none⟩ (.int .i64 val2)).heap.size = wr.heap.size := by simp
    have b2 : Below w.heap.size w (wr.setCell ⟨w.heap.size + 1, 0, none⟩ (.int .i64 val2)) := bl_s hbel (by omega) _
    go_wp2_with (go_at_call 207; refine h1.mono ?_; rintro r w2 ⟨rfl, hb2⟩; obtain ⟨q, rfl⟩ : ∃ q, w2 = (wr.setCell ⟨w.heap.size + 1, 0, none⟩ (.int .i64 val2)).drewN q := by (rcases hb2 with ⟨_, h⟩ | ⟨h, _⟩; exact h; exact absurd hl h))
    generalize wr.setCell ⟨w.heap.size + 1, 0, none⟩ (.int .i64 val2) = W at *
    go_roundw
    case rel =>
     refine ⟨j, k + 1, val2, _, by omega, by go_num, rfl, by omega, by omega, by simp <;> omega, hv2, ?_, ?_, ?_, ?_, ?_, HR, bl_n (bl_a b2 _) _⟩
     ·rw [World.cell?_drewN, World.cell?_alloc_past _ _ _ (by omega)]; exact c02
     ·rw [World.cell?_drewN, World.cell?_alloc_past _ _ _ (by omega)]; exact c12
     ·show (W.alloc _).frozen? _ = false
      rw [World.frozen?_alloc_past _ _ _ (by omega)]; exact f12
     ·rw [World.cell?_drewN, World.cell?_alloc_at _ _ _ _ z2.symm]
      have := HX.out
      exact congrArg some (congrArg (Value.int .i64) (by omega))
     ·show (W.alloc _).frozen? _ = false
      rw [← z2]; simp [go_sem]
    case measure => simp [intOf]; omega
end Go.Proofs.YtjdboekanmfgpaaGreatDoor.Lx

namespace Go.Proofs.YtjdboekanmfgpaaGreatDoor.Lx
open Go.RowKit
attribute [local go_sem] setCell_drewN alloc_drewN

theorem unitF_low {l : List UInt8} (k : Nat) : ∀ {i val : Nat} {r : Nat × Nat}, unitF l true (k + 1) i val = .ok r → 56320 ≤ r.1 ∧ r.1 ≤ 57343 := by
 induction k with
 | zero =>
  intro i val r h
  simp only [unitF] at h
  split at h
  ·rename_i g
   cases h
   have g2 : stepU true val (4 * 0) (bx l i) = true := by simp [hasAt] at g; exact g.2
   have e := valU_int val (bx l i)
   simp [stepU, wantB, lowB] at g2
   constructor
   ·show 56320 ≤ valU val (bx l i); omega
   ·show valU val (bx l i) ≤ 57343; omega
  ·cases h
 | succ k ih =>
  intro i val r h
  simp only [unitF] at h
  split at h
  ·exact ih h
  ·cases h
theorem unitF_not {l : List UInt8} (k : Nat) : ∀ {i val : Nat} {r : Nat × Nat}, unitF l false (k + 1) i val = .ok r → r.1 < 56320 ∨ 57343 < r.1 := by
 induction k with
 | zero =>
  intro i val r h
  simp only [unitF] at h
  split at h
  ·rename_i g
   cases h
   have g2 : stepU false val (4 * 0) (bx l i) = true := by simp [hasAt] at g; exact g.2
   have e := valU_int val (bx l i)
   simp [stepU, wantB, notLowB] at g2
   show valU val (bx l i) < 56320 ∨ 57343 < valU val (bx l i)
   omega
  ·cases h
 | succ k ih =>
  intro i val r h
  simp only [unitF] at h
  split at h
  ·exact ih h
  ·cases h
theorem unitL_low {l : List UInt8} {i : Nat} {r : Nat × Nat} (h : unitL l true i = .ok r) : 56320 ≤ r.1 ∧ r.1 ≤ 57343 := unitF_low 3 h
theorem unitL_not {l : List UInt8} {i : Nat} {r : Nat × Nat} (h : unitL l false i = .ok r) : (r.1 < 56320 ∨ 57343 < r.1) ∧ r.1 < 65536 := ⟨unitF_not 3 h, by have := unitF_lt 4 (m := 1) (by omega) h; simpa using this⟩
theorem unitL_le {l : List UInt8} {low : Bool} {i : Nat} {r : Nat × Nat} (h : unitL l low i = .ok r) : r.2 = i + 4 ∧ (i ≤ l.length → r.2 ≤ l.length) := unitF_le 4 h

def pairL (l : List UInt8) (i : Nat) (high : Nat) : Except Nat (Nat × Nat) :=
 match spelledL l i [92, 117] with
 | .error n => .error n
 | .ok j => match unitL l true j with
  | .error n => .error n
  | .ok r => .ok (65536 + (high - 55296) * 1024 + (r.1 - 56320), r.2)
theorem r_un {a b : Value} (h : a = b) : Ending.returned a = .returned b := by rw [h]

set_option maxRecDepth 100000 in
set_option maxHeartbeats 800000 in
theorem pair_lex (l : List UInt8) (i high : Nat) (v : Value) (w : World) (hT : Tab w) (hB : Byt w v l) (hi : i ≤ l.length) (hm : l.length ≤ 281474976710656) (h1 : 55296 ≤ high) (h2 : high ≤ 56319) :
  Calls Tryz.prog 221 #[v, .int .i64 i, .int .i64 high] w fun r w' => r = .returned (unV (pairL l i high)) ∧ Below w.heap.size w w' := by
 have g1 := spelled_any l i v ⟨#[92, 117]⟩ w hB hi hm (by decide)
 rw [show (ByteArray.mk #[92, 117]).data.toList = [92, 117] from rfl] at g1
 unfold pairL
 cases hs : spelledL l i [92, 117] with
 | error n =>
  rw [hs] at g1
  simp only [plV, errV] at g1
  clear hs
  go_enter Tryz.func221, Tryz.ntmps221
  go_wp2_with (go_at_call 191; refine g1.mono ?_; rintro r w2 ⟨rfl, hb2⟩)
  go_ret3
  exact ⟨rfl, hb2⟩
 | ok j =>
  rw [hs] at g1
  simp only [plV] at g1
  have hj := (spelledL_le _ hs).2 hi
  have g2 := fun w' (hb : Below w.heap.size w w') => unit_true l j v w' (hB.below hb) hj hm
  clear hs
  simp only
  cases hu : unitL l true j with
  | error n =>
   rw [hu] at g2
   simp only [unV, errV] at g2
   clear hu
   go_enter Tryz.func221, Tryz.ntmps221
   go_wp2_with (first | (go_at_call 191; refine g1.mono ?_; rintro r w2 ⟨rfl, hb2⟩) | (go_at_call 219; refine (g2 _ hb2).mono ?_; rintro r w3 ⟨rfl, hb3⟩))
   go_ret3
   exact ⟨rfl, bl_t hb2 hb3⟩
  | ok r =>
   rw [hu] at g2
   simp only [unV] at g2
   have hr := unitL_low hu
   obtain ⟨lo, e⟩ := r
   simp only at g2 hr ⊢
   have g3 := fun w' (hb : Below w.heap.size w w') => pair_ok high lo w' (hT.below hb) (by omega) (by omega) (by omega) (by omega)
   have HR : Hid ((65536 + ((high : Int) - 55296) * 1024 + ((lo : Int) - 56320)) = ((65536 + (high - 55296) * 1024 + (lo - 56320) : Nat) : Int)) := by show _ = _; omega
   clear hu hr h1 h2
   go_enter Tryz.func221, Tryz.ntmps221
   go_wp2_with (first | (go_at_call 191; refine g1.mono ?_; rintro r w2 ⟨rfl, hb2⟩) | (go_at_call 219; refine (g2 _ hb2).mono ?_; rintro r w3 ⟨rfl, hb3⟩) | (go_at_call 235; refine (g3 _ (bl_t hb2 hb3)).mono ?_; rintro r w4 ⟨rfl, rfl⟩))
   go_ret3
   exact ⟨r_un (by rw [HR.out]; rfl), bl_t hb2 hb3⟩

/-- A code point's bytes. -/
def encL (p : Nat) : List UInt8 := (List.range (encN p)).map fun i => UInt8.ofNat (encF p i).toNat
theorem encL_length (p : Nat) : (encL p).length = encN p := by simp [encL]
theorem encN_le (p : Int) : 1 ≤ encN p ∧ encN p ≤ 4 := by
 unfold encN; repeat' split
 all_goals omega
theorem bx_enc (p : Nat) (hp : p ≤ 1114111) (i : Nat) (hi : i < encN p) : bx (encL p) i = encF p i := by
 have a := encF_lo p (by omega) (by omega) i
 have b := encF_hi p (by omega) (by omega) i
 simp [bx, encL, hi]
 omega
theorem Row.congr {w : World} {v : Value} {n : Nat} {f g : Nat → Int} (h : Row w v n f) (lo : ∀ i, 0 ≤ g i) (hi : ∀ i, g i < 256) (e : ∀ i, i < n → f i = g i) : Row w v n g := by
 rcases h with h | ⟨b, off, cap, rfl, hc, hm, hL⟩
 ·exact .inl h
 ·exact .inr ⟨b, off, cap, rfl, hc, hm, ⟨fun i hi => by rw [hL.cell i hi, e i hi], lo, hi⟩⟩
/-- utf.Put(nil, p). -/
theorem put_nil (p : Nat) (w : World) (hT : Tab w) (hp : p < 55296 ∨ 57343 < p) (h1 : p ≤ 1114111) :
  Calls Tryz.prog 222 #[.slice none 0 0, .int .i64 p] w fun e w' => ∃ r, e = .returned (.tuple #[r, .int .i64 0]) ∧ Byt w' r (encL p) ∧ Below w.heap.size w w' := by
 have h := put_ok (.slice none 0 0) 0 (fun _ => 0) (p : Int) w hT (by simp [ptB]; omega) (.inl ⟨rfl, none, 0, rfl, fun _ => rfl⟩) (by omega)
 unfold PutOk at h
 refine h.mono ?_
 rintro e w' ⟨r, rfl, ho, hb⟩
 refine ⟨r, rfl, ?_, hb⟩
 have e0 : catF 0 (fun _ => 0) (encF (p : Int)) = encF (p : Int) := by funext i; simp [catF]
 rw [e0, Nat.zero_add] at ho
 have hR := Row.of_own (encF_lo p (by omega) (by omega)) (encF_hi p (by omega) (by omega)) ho
 unfold Byt
 rw [encL_length]
 exact hR.congr (bx_lo _) (bx_hi _) (fun i hi => (bx_enc p h1 i hi).symm)

/-- Bytes and a place, or the error. -/
abbrev Bp := Except Nat (List UInt8 × Nat)
def bpPost (r : Bp) (e : Ending) (w : World) : Prop :=
 match r with
 | .ok (t, k) => ∃ v', e = .returned (.tuple #[v', .int .i64 k, .nilIface]) ∧ Byt w v' t
 | .error n => e = .returned (.tuple #[.slice none 0 0, .int .i64 0, errV n])
def pointL (l : List UInt8) (i : Nat) : Bp :=
 match unitL l false i with
 | .error n => .error n
 | .ok r => if 55296 ≤ r.1 ∧ r.1 ≤ 56319 then (match pairL l r.2 r.1 with | .error n => .error n | .ok q => .ok (encL q.1, q.2)) else .ok (encL r.1, r.2)
set_option maxRecDepth 100000 in
theorem pairL_le {l : List UInt8} {i high : Nat} {r : Nat × Nat} (h : pairL l i high = .ok r) (h1 : 55296 ≤ high) (h2 : high ≤ 56319) : 65536 ≤ r.1 ∧ r.1 ≤ 1114111 ∧ r.2 = i + 6 ∧ (i ≤ l.length → r.2 ≤ l.length) := by
 unfold pairL at h
 cases hs : spelledL l i [92, 117] with
 | error n => rw [hs] at h; cases h
 | ok j =>
  rw [hs] at h
  simp only at h
  have a := spelledL_le _ hs
  cases hu : unitL l true j with
  | error n => rw [hu] at h; cases h
  | ok q =>
   rw [hu] at h
   have b := unitL_le hu
   have c := unitL_low hu
   have h' := Except.ok.inj h
   subst h'
   simp at a ⊢
   refine ⟨by omega, by omega, by omega, fun hi => b.2 (a.2 hi)⟩

set_option maxRecDepth 100000 in
set_option maxHeartbeats 12800000 in
theorem point_any (l : List UInt8) (i : Nat) (v : Value) (w : World) (hT : Tab w) (hB : Byt w v l) (hi : i ≤ l.length) (hm : l.length ≤ 281474976710656) :
  Calls Tryz.prog 210 #[v, .int .i64 i] w fun r w' => bpPost (pointL l i) r w' ∧ Below w.heap.size w w' := by
 have g1 := unit_false l i v w hB hi hm
 unfold pointL
 cases hu : unitL l false i with
 | error n =>
  rw [hu] at g1
  simp only [unV, errV] at g1
  clear hu
  go_enter Tryz.func210, Tryz.ntmps210
  go_wp2_with (go_at_call 219; refine g1.mono ?_; rintro r w2 ⟨rfl, hb2⟩)
  go_ret3
  exact ⟨rfl, hb2⟩
 | ok r =>
  rw [hu] at g1
  simp only [unV] at g1
  have hr := unitL_not hu
  have hl := unitL_le hu
  obtain ⟨p, j⟩ := r
  simp only at g1 hr hl ⊢
  clear hu
  by_cases hh : 55296 ≤ p ∧ p ≤ 56319
  ·rw [if_pos hh]
   have g2 := fun w' (hb : Below w.heap.size w w') => pair_lex l j p v w' (hT.below hb) (hB.below hb) (hl.2 hi) hm hh.1 hh.2
   obtain ⟨a1, a2⟩ := hh
   have a1I : (55296 : Int) ≤ (p : Int) := by omega
   have a2I : (p : Int) ≤ 56319 := by omega
   cases hq : pairL l j p with
   | error n =>
    rw [hq] at g2
    simp only [unV, errV] at g2
    clear hq a1 a2 hr hl
    go_enter Tryz.func210, Tryz.ntmps210
    go_wp2_with (first | (go_at_call 219; refine g1.mono ?_; rintro r w2 ⟨rfl, hb2⟩) | (go_at_call 221; refine (g2 _ hb2).mono ?_; rintro r w3 ⟨rfl, hb3⟩))
    go_ret3
    exact ⟨rfl, bl_t hb2 hb3⟩
   | ok q =>
    rw [hq] at g2
    simp only [unV] at g2
    have b := pairL_le hq a1 a2
    obtain ⟨q, e⟩ := q
    simp only at g2 b ⊢
    have g3 := fun w' (hb : Below w.heap.size w w') => put_nil q w' (hT.below hb) (by omega) (by omega)
    clear hq a1 a2 hr hl b
    go_enter Tryz.func210, Tryz.ntmps210
    go_wp2_with (first | (go_at_call 219; refine g1.mono ?_; rintro r w2 ⟨rfl, hb2⟩) | (go_at_call 221; refine (g2 _ hb2).mono ?_; rintro r w3 ⟨rfl, hb3⟩) | (go_at_call 222; refine (g3 _ (bl_t hb2 hb3)).mono ?_; rintro r w4 ⟨v4, rfl, hv4, hb4⟩))
    go_ret3
    exact ⟨⟨v4, rfl, hv4⟩, bl_t (bl_t hb2 hb3) hb4⟩
  ·rw [if_neg hh]
   have g3 := fun w' (hb : Below w.heap.size w w') => put_nil p w' (hT.below hb) (by omega) (by omega)
   by_cases a1 : 55296 ≤ p
   ·have a1I : (55296 : Int) ≤ (p : Int) := by omega
    have a2I : (56319 : Int) < (p : Int) := by omega
    have hd : decide ((p : Int) ≤ 56319) = false := decide_eq_false (by omega)
    clear hh hr hl a1
    go_enter Tryz.func210, Tryz.ntmps210
    go_wp2_with (first | (go_at_call 219; refine g1.mono ?_; rintro r w2 ⟨rfl, hb2⟩) | (go_at_call 222; refine (g3 _ hb2).mono ?_; rintro r w4 ⟨v4, rfl, hv4, hb4⟩))
    go_ret3
    exact ⟨⟨v4, rfl, hv4⟩, bl_t hb2 hb4⟩
   ·have a1I : (p : Int) < (55296 : Int) := by omega
    have hd : decide ((55296 : Int) ≤ (p : Int)) = false := decide_eq_false (by omega)
    clear hh hr hl a1
    go_enter Tryz.func210, Tryz.ntmps210
    go_wp2_with (first | (go_at_call 219; refine g1.mono ?_; rintro r w2 ⟨rfl, hb2⟩) | (go_at_call 222; refine (g3 _ hb2).mono ?_; rintro r w4 ⟨v4, rfl, hv4, hb4⟩))
    go_ret3
    exact ⟨⟨v4, rfl, hv4⟩, bl_t hb2 hb4⟩
end Go.Proofs.YtjdboekanmfgpaaGreatDoor.Lx
