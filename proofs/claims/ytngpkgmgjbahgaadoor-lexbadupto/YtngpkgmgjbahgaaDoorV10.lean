/-
  What lex.unit answers: the number that four digits of 16 make, or where it is bad. Conditions: the bytes lie in memory, at most 2^48 of them.
-/
import Derived.Test.YtngpkgmgjbahgaaDoorV9
namespace Go.Proofs.YtngpkgmgjbahgaaDoor
open Go.RowKit
attribute [local go_sem] setCell_drewN alloc_drewN

/-- A number and a place, or the error, as they are returned. -/
def unV : Except Nat (Nat × Nat) → Value
  | .ok r => .tuple #[.int .i64 r.1, .int .i64 r.2, .nilIface]
  | .error n => .tuple #[.int .i64 0, .int .i64 0, errV n]
theorem pow16 {j val : Nat} (hj : j < 4) (h : val * 16 ^ (j + 1) < 65536) : val < 4096 := by
  have e : j = 0 ∨ j = 1 ∨ j = 2 ∨ j = 3 := by omega
  rcases e with rfl | rfl | rfl | rfl
  · have h' : val * 16 < 65536 := h
    omega
  · have h' : val * 256 < 65536 := h
    omega
  · have h' : val * 4096 < 65536 := h
    omega
  · have h' : val * 65536 < 65536 := h
    omega
set_option maxRecDepth 100000 in
theorem pow16' {j val : Nat} {c : Int} (hj : j < 4) (h : val * 16 ^ (j + 1) < 65536) : valU val c * 16 ^ j < 65536 := by
  have := hexV_bd c
  have e : j = 0 ∨ j = 1 ∨ j = 2 ∨ j = 3 := by omega
  unfold valU
  rcases e with rfl | rfl | rfl | rfl
  · have h' : val * 16 < 65536 := h
    rw [show (16 : Nat) ^ 0 = 1 from rfl]
    omega
  · have h' : val * 256 < 65536 := h
    rw [show (16 : Nat) ^ 1 = 16 from rfl]
    omega
  · have h' : val * 4096 < 65536 := h
    rw [show (16 : Nat) ^ 2 = 256 from rfl]
    omega
  · have h' : val * 65536 < 65536 := h
    rw [show (16 : Nat) ^ 3 = 4096 from rfl]
    omega

set_option maxRecDepth 100000 in
set_option maxHeartbeats 1600000 in
theorem unit_false (l : List UInt8) (i : Nat) (v : Value) (w : World) (hB : Byt w v l) (hi : i ≤ l.length) (hm : l.length ≤ 281474976710656) :
    Calls Tryd.prog 42 #[v, .int .i64 i, .func (.func 43) #[] #[]] w fun r w' => r = .returned (unV (unitL l false i)) ∧ Below w.heap.size w w' := by
  have hiI : (i : Int) ≤ 281474976710656 := by omega
  go_enter Tryd.func42, Tryd.ntmps42
  go_wp2
  go_loopw [1, 10] (fun t u wr => ∃ j k val B : Nat, j + k = 4 ∧ t = .int .i64 ((i : Int) + (k : Int)) ∧ u = .pointer (some ⟨B, 0, none⟩) ∧ i + k ≤ l.length ∧ w.heap.size + 2 ≤ B ∧ B < wr.heap.size ∧ val * 16 ^ j < 65536 ∧ wr.cell? ⟨w.heap.size, 0, none⟩ = some (.func (.func 43) #[] #[]) ∧ wr.cell? ⟨w.heap.size + 1, 0, none⟩ = some (.int .i64 val) ∧ wr.frozen? ⟨w.heap.size + 1, 0, none⟩ = false ∧ wr.cell? ⟨B, 0, none⟩ = some (.int .i64 (4 * (j : Int) - 4)) ∧ wr.frozen? ⟨B, 0, none⟩ = false ∧ Hid (unitF l false j (i + k) val = unitL l false i) ∧ Below w.heap.size w wr) (fun t _ _ => i + 4 - (intOf t).toNat)
  case atStart => exact ⟨4, 0, 0, w.heap.size + 2, rfl, by simp, rfl, by omega, by omega, by simp, by simp, by simp [go_sem], by simp [go_sem], by simp [go_sem], by simp [go_sem], by simp [go_sem], rfl, (by with_reducible repeat (first | exact Below.refl _ _ | refine bl_a ?_ _ | refine bl_s ?_ (by omega) _))⟩
  case round =>
    obtain ⟨j, k, val, B, hjk, rfl, rfl, hil, hBl, hBs, hvl, c0, c1, f1, cB, fB, HP, hbel⟩ := hrel
    cases j with
    | zero =>
      have HR : Hid (unitL l false i = .ok (val, i + k)) := by show _ = _; rw [← HP.out]; rfl
      clear HP hB
      go_wp2
      go_ret3
      exact ⟨r_pl (by rw [HR.out]; simp [unV]), hbel⟩
    | succ j =>
      have e4 : (4 * ((j + 1 : Nat) : Int) - 4) = ((4 * j : Nat) : Int) := by omega
      rw [e4] at cB
      have hj0 : (0 : Int) ≤ ((4 * j : Nat) : Int) := by omega
      have hj12 : ((4 * j : Nat) : Int) ≤ 12 := by omega
      have h1 := taken_unit (w.heap.size + 1) B w.heap.size (fun c => (valU val c : Nat)) l (i + k) v (stepU false val (4 * j)) wr (hB.below hbel) hil hm (fun c hc0 hc1 => unit1_any false j (by omega) c _ _ _ val wr hc0 hc1 (pow16 (by omega) hvl) c1 f1 cB c0 (by omega) (by omega))
      have e0 : ((i + k : Nat) : Int) = (i : Int) + (k : Int) := by omega
      rw [e0] at h1
      obtain ⟨x, hx⟩ : ∃ x, ((4 * j : Nat) : Int) = x := ⟨_, rfl⟩
      have HX : Hid (((4 * j : Nat) : Int) = x) := hx
      rw [hx] at cB hj0 hj12
      clear hx e4
      cases h : hasAt l (i + k) (stepU false val (4 * j))
      · have e : takenL l (i + k) (stepU false val (4 * j)) = .error (i + k + 1) := by simp [takenL, h]
        have HR : Hid (unitL l false i = .error (i + k + 1)) := by show _ = _; rw [← HP.out, unitF, h]; rfl
        rw [e] at h1
        simp only [plV, errV] at h1
        clear h e HP hB
        go_wp2_with (go_at_call 30; refine h1.mono ?_; rintro r w2 ⟨rfl, hb2⟩)
        go_ret3
        refine ⟨r_pl (by rw [HR.out]; rfl), ?_⟩
        rcases hb2 with ⟨_, q, rfl⟩ | ⟨_, rfl⟩
        · exact bl_n (bl_s hbel (by omega) _) _
        · exact hbel
      · have e : takenL l (i + k) (stepU false val (4 * j)) = .ok (i + k + 1) := by simp [takenL, h]
        have hl := hasAt_lt h
        have HR : Hid (unitF l false j (i + (k + 1)) (valU val (bx l (i + k))) = unitL l false i) := by show _ = _; rw [← HP.out, unitF, h]; rfl
        have hv2 := pow16' (c := bx l (i + k)) (j := j) (by omega) hvl
        rw [e] at h1
        simp only [plV] at h1
        clear h e HP hB
        generalize valU val (bx l (i + k)) = val2 at *
        have cB2 : (wr.setCell ⟨w.heap.size + 1, 0, none⟩ (.int .i64 val2)).cell? ⟨B, 0, none⟩ = some (.int .i64 x) := (World.cell?_setCell_other _ _ _ _ (by simp <;> omega)).trans cB
        have c02 : (wr.setCell ⟨w.heap.size + 1, 0, none⟩ (.int .i64 val2)).cell? ⟨w.heap.size, 0, none⟩ = some (.func (.func 43) #[] #[]) := (World.cell?_setCell_other _ _ _ _ (by simp <;> omega)).trans c0
        have c12 : (wr.setCell ⟨w.heap.size + 1, 0, none⟩ (.int .i64 val2)).cell? ⟨w.heap.size + 1, 0, none⟩ = some (.int .i64 val2) := World.cell?_setCell_same _ _ _ c1
        have f12 : (wr.setCell ⟨w.heap.size + 1, 0, none⟩ (.int .i64 val2)).frozen? ⟨w.heap.size + 1, 0, none⟩ = false := (World.frozen?_setCell _ _ _ _).trans f1
        have z2 : (wr.setCell ⟨w.heap.size + 1, 0, none⟩ (.int .i64 val2)).heap.size = wr.heap.size := by simp
        have b2 : Below w.heap.size w (wr.setCell ⟨w.heap.size + 1, 0, none⟩ (.int .i64 val2)) := bl_s hbel (by omega) _
        go_wp2_with (go_at_call 30; refine h1.mono ?_; rintro r w2 ⟨rfl, hb2⟩; obtain ⟨q, rfl⟩ : ∃ q, w2 = (wr.setCell ⟨w.heap.size + 1, 0, none⟩ (.int .i64 val2)).drewN q := by (rcases hb2 with ⟨_, h⟩ | ⟨h, _⟩; exact h; exact absurd hl h))
        generalize wr.setCell ⟨w.heap.size + 1, 0, none⟩ (.int .i64 val2) = W at *
        go_roundw
        case rel =>
          refine ⟨j, k + 1, val2, _, by omega, by go_num, rfl, by omega, by omega, by simp <;> omega, hv2, ?_, ?_, ?_, ?_, ?_, HR, bl_n (bl_a b2 _) _⟩
          · rw [World.cell?_drewN, World.cell?_alloc_past _ _ _ (by omega)]; exact c02
          · rw [World.cell?_drewN, World.cell?_alloc_past _ _ _ (by omega)]; exact c12
          · show (W.alloc _).frozen? _ = false
            rw [World.frozen?_alloc_past _ _ _ (by omega)]; exact f12
          · rw [World.cell?_drewN, World.cell?_alloc_at _ _ _ _ z2.symm]
            have := HX.out
            exact congrArg some (congrArg (Value.int .i64) (by omega))
          · show (W.alloc _).frozen? _ = false
            rw [← z2]; simp [go_sem]
        case measure => simp [intOf]; omega

set_option maxRecDepth 100000 in
set_option maxHeartbeats 1600000 in
theorem unit_true (l : List UInt8) (i : Nat) (v : Value) (w : World) (hB : Byt w v l) (hi : i ≤ l.length) (hm : l.length ≤ 281474976710656) :
    Calls Tryd.prog 42 #[v, .int .i64 i, .func (.func 51) #[] #[]] w fun r w' => r = .returned (unV (unitL l true i)) ∧ Below w.heap.size w w' := by
  have hiI : (i : Int) ≤ 281474976710656 := by omega
  go_enter Tryd.func42, Tryd.ntmps42
  go_wp2
  go_loopw [1, 10] (fun t u wr => ∃ j k val B : Nat, j + k = 4 ∧ t = .int .i64 ((i : Int) + (k : Int)) ∧ u = .pointer (some ⟨B, 0, none⟩) ∧ i + k ≤ l.length ∧ w.heap.size + 2 ≤ B ∧ B < wr.heap.size ∧ val * 16 ^ j < 65536 ∧ wr.cell? ⟨w.heap.size, 0, none⟩ = some (.func (.func 51) #[] #[]) ∧ wr.cell? ⟨w.heap.size + 1, 0, none⟩ = some (.int .i64 val) ∧ wr.frozen? ⟨w.heap.size + 1, 0, none⟩ = false ∧ wr.cell? ⟨B, 0, none⟩ = some (.int .i64 (4 * (j : Int) - 4)) ∧ wr.frozen? ⟨B, 0, none⟩ = false ∧ Hid (unitF l true j (i + k) val = unitL l true i) ∧ Below w.heap.size w wr) (fun t _ _ => i + 4 - (intOf t).toNat)
  case atStart => exact ⟨4, 0, 0, w.heap.size + 2, rfl, by simp, rfl, by omega, by omega, by simp, by simp, by simp [go_sem], by simp [go_sem], by simp [go_sem], by simp [go_sem], by simp [go_sem], rfl, (by with_reducible repeat (first | exact Below.refl _ _ | refine bl_a ?_ _ | refine bl_s ?_ (by omega) _))⟩
  case round =>
    obtain ⟨j, k, val, B, hjk, rfl, rfl, hil, hBl, hBs, hvl, c0, c1, f1, cB, fB, HP, hbel⟩ := hrel
    cases j with
    | zero =>
      have HR : Hid (unitL l true i = .ok (val, i + k)) := by show _ = _; rw [← HP.out]; rfl
      clear HP hB
      go_wp2
      go_ret3
      exact ⟨r_pl (by rw [HR.out]; simp [unV]), hbel⟩
    | succ j =>
      have e4 : (4 * ((j + 1 : Nat) : Int) - 4) = ((4 * j : Nat) : Int) := by omega
      rw [e4] at cB
      have hj0 : (0 : Int) ≤ ((4 * j : Nat) : Int) := by omega
      have hj12 : ((4 * j : Nat) : Int) ≤ 12 := by omega
      have h1 := taken_unit (w.heap.size + 1) B w.heap.size (fun c => (valU val c : Nat)) l (i + k) v (stepU true val (4 * j)) wr (hB.below hbel) hil hm (fun c hc0 hc1 => unit1_any true j (by omega) c _ _ _ val wr hc0 hc1 (pow16 (by omega) hvl) c1 f1 cB c0 (by omega) (by omega))
      have e0 : ((i + k : Nat) : Int) = (i : Int) + (k : Int) := by omega
      rw [e0] at h1
      obtain ⟨x, hx⟩ : ∃ x, ((4 * j : Nat) : Int) = x := ⟨_, rfl⟩
      have HX : Hid (((4 * j : Nat) : Int) = x) := hx
      rw [hx] at cB hj0 hj12
      clear hx e4
      cases h : hasAt l (i + k) (stepU true val (4 * j))
      · have e : takenL l (i + k) (stepU true val (4 * j)) = .error (i + k + 1) := by simp [takenL, h]
        have HR : Hid (unitL l true i = .error (i + k + 1)) := by show _ = _; rw [← HP.out, unitF, h]; rfl
        rw [e] at h1
        simp only [plV, errV] at h1
        clear h e HP hB
        go_wp2_with (go_at_call 30; refine h1.mono ?_; rintro r w2 ⟨rfl, hb2⟩)
        go_ret3
        refine ⟨r_pl (by rw [HR.out]; rfl), ?_⟩
        rcases hb2 with ⟨_, q, rfl⟩ | ⟨_, rfl⟩
        · exact bl_n (bl_s hbel (by omega) _) _
        · exact hbel
      · have e : takenL l (i + k) (stepU true val (4 * j)) = .ok (i + k + 1) := by simp [takenL, h]
        have hl := hasAt_lt h
        have HR : Hid (unitF l true j (i + (k + 1)) (valU val (bx l (i + k))) = unitL l true i) := by show _ = _; rw [← HP.out, unitF, h]; rfl
        have hv2 := pow16' (c := bx l (i + k)) (j := j) (by omega) hvl
        rw [e] at h1
        simp only [plV] at h1
        clear h e HP hB
        generalize valU val (bx l (i + k)) = val2 at *
        have cB2 : (wr.setCell ⟨w.heap.size + 1, 0, none⟩ (.int .i64 val2)).cell? ⟨B, 0, none⟩ = some (.int .i64 x) := (World.cell?_setCell_other _ _ _ _ (by simp <;> omega)).trans cB
        have c02 : (wr.setCell ⟨w.heap.size + 1, 0, none⟩ (.int .i64 val2)).cell? ⟨w.heap.size, 0, none⟩ = some (.func (.func 51) #[] #[]) := (World.cell?_setCell_other _ _ _ _ (by simp <;> omega)).trans c0
        have c12 : (wr.setCell ⟨w.heap.size + 1, 0, none⟩ (.int .i64 val2)).cell? ⟨w.heap.size + 1, 0, none⟩ = some (.int .i64 val2) := World.cell?_setCell_same _ _ _ c1
        have f12 : (wr.setCell ⟨w.heap.size + 1, 0, none⟩ (.int .i64 val2)).frozen? ⟨w.heap.size + 1, 0, none⟩ = false := (World.frozen?_setCell _ _ _ _).trans f1
        have z2 : (wr.setCell ⟨w.heap.size + 1, 0, none⟩ (.int .i64 val2)).heap.size = wr.heap.size := by simp
        have b2 : Below w.heap.size w (wr.setCell ⟨w.heap.size + 1, 0, none⟩ (.int .i64 val2)) := bl_s hbel (by omega) _
        go_wp2_with (go_at_call 30; refine h1.mono ?_; rintro r w2 ⟨rfl, hb2⟩; obtain ⟨q, rfl⟩ : ∃ q, w2 = (wr.setCell ⟨w.heap.size + 1, 0, none⟩ (.int .i64 val2)).drewN q := by (rcases hb2 with ⟨_, h⟩ | ⟨h, _⟩; exact h; exact absurd hl h))
        generalize wr.setCell ⟨w.heap.size + 1, 0, none⟩ (.int .i64 val2) = W at *
        go_roundw
        case rel =>
          refine ⟨j, k + 1, val2, _, by omega, by go_num, rfl, by omega, by omega, by simp <;> omega, hv2, ?_, ?_, ?_, ?_, ?_, HR, bl_n (bl_a b2 _) _⟩
          · rw [World.cell?_drewN, World.cell?_alloc_past _ _ _ (by omega)]; exact c02
          · rw [World.cell?_drewN, World.cell?_alloc_past _ _ _ (by omega)]; exact c12
          · show (W.alloc _).frozen? _ = false
            rw [World.frozen?_alloc_past _ _ _ (by omega)]; exact f12
          · rw [World.cell?_drewN, World.cell?_alloc_at _ _ _ _ z2.symm]
            have := HX.out
            exact congrArg some (congrArg (Value.int .i64) (by omega))
          · show (W.alloc _).frozen? _ = false
            rw [← z2]; simp [go_sem]
        case measure => simp [intOf]; omega
end Go.Proofs.YtngpkgmgjbahgaaDoor
