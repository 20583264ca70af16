/-
  Worlds that differ in some blocks and in new ones alone; the reader's ten cells; (*reader).blanks: what it passes over. Conditions: the bytes lie ahead of the reader, at most 2^47 of them.
-/
import Derived.Test.YtjakgdaodlgeaaaGreatDoorJoined1
import Derived.Test.YtjakgdaodlgeaaaGreatDoorJoined5
import Derived.Deep.RegionHeld3
namespace Go.Proofs.YtjakgdaodlgeaaaGreatDoor
open Go.RowKit
open Lx (Byt Row bx pass blankB hasAt pass_go pass_stop hasAt_in hasAt_out)

theorem vb_d {B : Nat} {a w : World} (h : Below B a w) : Below B a w.drew := ⟨h.os, h.tape, h.output, h.size, h.block⟩
structure But (X : Nat → Prop) (w w' : World) : Prop where
 os : w'.os = w.os
 tape : w'.tape = w.tape
 output : w'.output = w.output
 size : w.heap.size ≤ w'.heap.size
 block : ∀ k, k < w.heap.size → ¬ X k → w'.heap[k]? = w.heap[k]?
theorem But.refl (X : Nat → Prop) (w : World) : But X w w := ⟨rfl, rfl, rfl, Nat.le_refl _, fun _ _ _ => rfl⟩
theorem But.trans {X : Nat → Prop} {a b c : World} (h : But X a b) (k : But X b c) : But X a c :=
 ⟨k.os.trans h.os, k.tape.trans h.tape, k.output.trans h.output, Nat.le_trans h.size k.size, fun i hi hx => (k.block i (Nat.lt_of_lt_of_le hi h.size) hx).trans (h.block i hi hx)⟩
theorem But.mono {X Y : Nat → Prop} {a b : World} (h : But X a b) (hxy : ∀ k, X k → Y k) : But Y a b := ⟨h.os, h.tape, h.output, h.size, fun k hk hy => h.block k hk (fun hx => hy (hxy k hx))⟩
theorem But.ofBelow {X : Nat → Prop} {a b : World} (h : Below a.heap.size a b) : But X a b := ⟨h.os, h.tape, h.output, h.size, fun k hk _ => h.block k hk⟩
theorem But.below {X : Nat → Prop} {a b c : World} (h : But X a b) (k : Below b.heap.size b c) : But X a c := h.trans (But.ofBelow k)
theorem But.alloc {X : Nat → Prop} {a w : World} (h : But X a w) (o : Obj) : But X a (w.alloc o) := h.below (vb_a (Below.refl _ _) o)
theorem But.drew {X : Nat → Prop} {a w : World} (h : But X a w) : But X a w.drew := ⟨h.os, h.tape, h.output, h.size, h.block⟩
theorem But.set {X : Nat → Prop} {a w : World} (h : But X a w) {p : Addr} (hp : X p.block ∨ a.heap.size ≤ p.block) (u : Value) : But X a (w.setCell p u) :=
 ⟨h.os, h.tape, h.output, by have := h.size; simpa [World.setCell] using this, fun k hk hx => (Below.heap_setCell _ _ _ _ (by rcases hp with hp | hp; exact fun e => hx (e ▸ hp); omega)).trans (h.block k hk hx)⟩
theorem But.ahead {X : Nat → Prop} {W a b : World} (hW : Below W.heap.size W a) (h : But X a b) (hX : ∀ k, X k → W.heap.size ≤ k) : Below W.heap.size W b :=
 ⟨h.os.trans hW.os, h.tape.trans hW.tape, h.output.trans hW.output, Nat.le_trans hW.size h.size, fun k hk => (h.block k (Nat.lt_of_lt_of_le hk hW.size) (fun hx => absurd (hX k hx) (by omega))).trans (hW.block k hk)⟩
def Rd (w : World) (rb : Nat) (F : Nat → Value) : Prop := ∀ j, j < 10 → w.cell? ⟨rb, j, none⟩ = some (F j) ∧ w.frozen? ⟨rb, j, none⟩ = false
def upd (F : Nat → Value) (i : Nat) (v : Value) : Nat → Value := fun j => if j = i then v else F j
theorem upd_same (F : Nat → Value) (i : Nat) (v : Value) : upd F i v i = v := if_pos rfl
theorem upd_other (F : Nat → Value) {i j : Nat} (v : Value) (h : j ≠ i) : upd F i v j = F j := if_neg h
theorem Rd.lt {w : World} {rb : Nat} {F : Nat → Value} (h : Rd w rb F) : rb < w.heap.size := World.block_lt_of_cell? w _ (h 0 (by omega)).1
theorem Rd.below {w w' : World} {rb : Nat} {F : Nat → Value} (h : Rd w rb F) (hb : Below w.heap.size w w') : Rd w' rb F := fun j hj =>
 ⟨(hb.cell (p := ⟨rb, j, none⟩) h.lt).trans (h j hj).1, (hb.frozen (p := ⟨rb, j, none⟩) h.lt).trans (h j hj).2⟩
theorem Rd.set {w : World} {rb : Nat} {F : Nat → Value} (h : Rd w rb F) {i : Nat} (hi : i < 10) (v : Value) : Rd (w.setCell ⟨rb, i, none⟩ v) rb (upd F i v) := fun j hj => by
 refine ⟨?_, by rw [World.frozen?_setCell]; exact (h j hj).2⟩
 by_cases e : j = i
 ·subst e
  rw [upd_same]
  exact World.cell?_setCell_same _ _ _ (h j hj).1
 ·rw [upd_other _ _ e, World.cell?_setCell_other _ _ _ _ (by intro h; injection h with _ h2 _; exact e h2.symm)]
  exact (h j hj).1
theorem upd_upd (F : Nat → Value) (i : Nat) (u v : Value) : upd (upd F i u) i v = upd F i v := by
 funext j; unfold upd; split <;> simp_all
set_option maxRecDepth 100000 in
set_option maxHeartbeats 1600000 in
theorem blanks_any (l : List UInt8) (v : Value) (W w : World) (rb i : Nat) (F : Nat → Value) (hB : Byt W v l) (hm : l.length ≤ 140737488351232) (hW : Below W.heap.size W w) (hrb : W.heap.size ≤ rb) (hR : Rd w rb F) (h0 : F 0 = v) (h1 : F 1 = .int .i64 (i : Int)) (hi : i ≤ l.length) :
  Calls Tryz.prog 81 #[.pointer (some ⟨rb, 0, none⟩)] w fun r w' => r = .returned (.tuple #[]) ∧ But (· = rb) w w' ∧ Rd w' rb (upd F 1 (.int .i64 (pass l blankB i : Nat))) := by
 have hmI : (l.length : Int) ≤ 140737488351232 := by omega
 go_enter Tryz.func81, Tryz.ntmps81
 go_wp2_with fail
 go_loopg [] (l.length - i) (fun g wr => ∃ k : Nat, k ≤ l.length ∧ g = l.length - k ∧ Hid (pass l blankB k = pass l blankB i) ∧ But (· = rb) w wr ∧ Rd wr rb (upd F 1 (.int .i64 (k : Int))))
 case atStart => exact ⟨i, hi, rfl, rfl, But.refl _ _, fun j hj => by rw [show upd F 1 (.int .i64 (i : Int)) j = F j by unfold upd; split; (rename_i e; rw [e, h1]); rfl]; exact hR j hj⟩
 case round =>
  obtain ⟨k, hk, rfl, HP, hbut, hRr⟩ := hrel
  have q0 : wr.cell? ⟨rb, 0, none⟩ = some v := by have := (hRr 0 (by omega)).1; rw [upd_other _ _ (by omega), h0] at this; exact this
  have q1 : wr.cell? ⟨rb, 1, none⟩ = some (.int .i64 (k : Int)) := (hRr 1 (by omega)).1
  have q2 := (hRr 1 (by omega)).2
  have hBr : Byt wr v l := hB.below (But.ahead hW hbut (fun x hx => by subst hx; exact hrb))
  by_cases hlt : k < l.length
  ·rcases hBr with ⟨hz, _⟩ | ⟨b, off, cap, rfl, hc, hm', hL⟩
   ·omega
   have hcell : wr.cell? ⟨b, off + k, none⟩ = some (.int .u8 (bx l k)) := hL.cell k hlt
   have hI : (k : Int) < (l.length : Int) := by omega
   have c1 := fun w => Lx.blank_any (bx l k) w
   have hq := hasAt_in (l := l) blankB hlt
   cases hp : blankB (bx l k)
   ·rw [hp] at c1 hq
    have HR : Hid (pass l blankB i = k) := by show _ = _; rw [← HP.out, pass_stop hq]
    have HS : Hid (But (· = rb) w wr ∧ Rd wr rb (upd F 1 (.int .i64 (k : Int)))) := ⟨hbut, hRr⟩
    clear HP hq hp hRr hbut hL hR hB hW
    generalize bx l k = c at *
    have hS : ∀ w', Below wr.heap.size wr w' → w'.cell? ⟨rb, 0, none⟩ = some (.slice (some ⟨b, off, none⟩) l.length cap) ∧ w'.cell? ⟨rb, 1, none⟩ = some (.int .i64 (k : Int)) ∧ w'.cell? ⟨b, off + k, none⟩ = some (.int .u8 c) := fun w' hb =>
     ⟨(hb.cell (p := ⟨rb, 0, none⟩) (World.block_lt_of_cell? wr _ q0)).trans q0, (hb.cell (p := ⟨rb, 1, none⟩) (World.block_lt_of_cell? wr _ q1)).trans q1, (hb.cell (p := ⟨b, off + k, none⟩) (World.block_lt_of_cell? wr _ hcell)).trans hcell⟩
    go_wp2_with fail
    go_region_held3 (fun w' => w'.cell? ⟨rb, 0, none⟩ = some (.slice (some ⟨b, off, none⟩) l.length cap) ∧ w'.cell? ⟨rb, 1, none⟩ = some (.int .i64 (k : Int)) ∧ w'.cell? ⟨b, off + k, none⟩ = some (.int .u8 c)) (first | (refine hS _ ?_; with_reducible repeat (first | exact Below.refl _ _ | refine vb_t ?_ hb2 | refine vb_d ?_)) | fail) (first | (go_at_call 29; refine (c1 _).mono ?_; rintro r w2 ⟨rfl, hb2⟩))
    all_goals
     go_wp2_with fail
     obtain ⟨hs1, hs2⟩ := HS.out
     have hb3 : Below wr.heap.size wr w2 := by with_reducible repeat (first | exact hb2 | exact Below.refl _ _ | refine vb_t ?_ hb2 | refine vb_d ?_)
     refine bodyPost_end (v := .tuple #[]) ?_ rfl ?_
     all_goals first | exact ⟨rfl, hs1.below hb3, by rw [HR.out]; exact hs2.below hb3⟩ | (simp [results, Tryz.results81, go_sem])
   ·rw [hp] at c1 hq
    have HR : Hid (pass l blankB (k + 1) = pass l blankB i) := by show _ = _; rw [← HP.out, pass_go hq]
    have HS : Hid (But (· = rb) w wr ∧ Rd wr rb (upd F 1 (.int .i64 (k : Int)))) := ⟨hbut, hRr⟩
    clear HP hq hp hRr hbut hL hR hB hW
    generalize bx l k = c at *
    have hS : ∀ w', Below wr.heap.size wr w' → w'.cell? ⟨rb, 0, none⟩ = some (.slice (some ⟨b, off, none⟩) l.length cap) ∧ w'.cell? ⟨rb, 1, none⟩ = some (.int .i64 (k : Int)) ∧ w'.cell? ⟨b, off + k, none⟩ = some (.int .u8 c) := fun w' hb =>
     ⟨(hb.cell (p := ⟨rb, 0, none⟩) (World.block_lt_of_cell? wr _ q0)).trans q0, (hb.cell (p := ⟨rb, 1, none⟩) (World.block_lt_of_cell? wr _ q1)).trans q1, (hb.cell (p := ⟨b, off + k, none⟩) (World.block_lt_of_cell? wr _ hcell)).trans hcell⟩
    go_wp2_with fail
    go_region_held3 (fun w' => w'.cell? ⟨rb, 0, none⟩ = some (.slice (some ⟨b, off, none⟩) l.length cap) ∧ w'.cell? ⟨rb, 1, none⟩ = some (.int .i64 (k : Int)) ∧ w'.cell? ⟨b, off + k, none⟩ = some (.int .u8 c)) (first | (refine hS _ ?_; with_reducible repeat (first | exact Below.refl _ _ | refine vb_t ?_ hb2 | refine vb_d ?_)) | fail) (first | (go_at_call 29; refine (c1 _).mono ?_; rintro r w2 ⟨rfl, hb2⟩))
    all_goals
     have hb3 : Below wr.heap.size wr w2 := by with_reducible repeat (first | exact hb2 | exact Below.refl _ _ | refine vb_t ?_ hb2 | refine vb_d ?_)
     obtain ⟨hs1, hs2⟩ := HS.out
     have r1 : w2.cell? ⟨rb, 1, none⟩ = some (.int .i64 (k : Int)) := (hS w2 hb3).2.1
     have r2 : w2.frozen? ⟨rb, 1, none⟩ = false := ((hs2.below hb3) 1 (by omega)).2
     have HS2 : Hid (But (· = rb) w w2 ∧ Rd w2 rb (upd F 1 (.int .i64 (k : Int)))) := ⟨hs1.below hb3, hs2.below hb3⟩
     clear hs1 hs2 hS HS
     go_wp2_with fail
     go_roundg (l.length - (k + 1))
     case measure => omega
     case rel =>
      obtain ⟨hs1, hs2⟩ := HS2.out
      have hs3 := hs2.set (i := 1) (by omega) (.int .i64 ((k : Int) + 1))
      rw [upd_upd] at hs3
      exact ⟨k + 1, by omega, rfl, HR, hs1.set (Or.inl rfl) _, hs3⟩
  ·have hI : ¬ ((k : Int) < (l.length : Int)) := by omega
   obtain ⟨aa, cap, rfl, _⟩ := hBr.shape
   have HR : Hid (pass l blankB i = k) := by show _ = _; rw [← HP.out, pass_stop (hasAt_out _ hlt)]
   have HS : Hid (But (· = rb) w wr ∧ Rd wr rb (upd F 1 (.int .i64 (k : Int)))) := ⟨hbut, hRr⟩
   clear HP hRr hbut hR hB hW
   go_wp2_with fail
   go_region
   all_goals
    go_wp2_with fail
    obtain ⟨hs1, hs2⟩ := HS.out
    refine bodyPost_end (v := .tuple #[]) ?_ rfl ?_
    all_goals first | exact ⟨rfl, hs1.drew, by rw [HR.out]; exact hs2.below (vb_d (Below.refl _ _))⟩ | (simp [results, Tryz.results81, go_sem])
end Go.Proofs.YtjakgdaodlgeaaaGreatDoor
