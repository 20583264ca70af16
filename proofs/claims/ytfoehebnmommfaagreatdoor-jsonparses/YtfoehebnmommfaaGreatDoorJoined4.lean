/-
  Worlds that differ in some blocks and in new ones alone; the reader's ten cells; (*reader).blanks: what it passes over. Conditions: the bytes lie ahead of the reader, at most 2^47 of them.
  What lex.digits, lex.whole, lex.exponent and lex.spelled answer. Conditions: the bytes lie in memory, at most 2^48 of them.
-/
import Derived.Test.YtfoehebnmommfaaGreatDoorJoined1
import Derived.Test.YtfoehebnmommfaaGreatDoorJoined3
import Derived.Deep.RegionHeld3
namespace Go.Proofs.YtfoehebnmommfaaGreatDoor
open Go.RowKit
open Lx (Byt Row bx pass blankB hasAt pass_go pass_stop hasAt_in hasAt_out)

theorem vb_d {B : Nat} {a w : World} (h : Below B a w) : Below B a w.drew := ⟨h.os, h.tape, h.output, h.size, h.block⟩
structure But (X : Nat → Prop) (w w' : World) : Prop where
 os : w'.os = w.os
 tape : w'.tape = w.tape
 output : w'.output = w.output
 size : w.heap.size ≤ w'.heap.size
 block : ∀ k, k < w.heap.size → ¬ X k → w'.heap[k]? = w.heap[k]?
theorem But.refl (X : Nat → Prop) (w : World) : But X w w := ⟨rfl, rfl, rfl, Nat.le_refl _, fun _ _ _ => rfl⟩
theorem But.trans {X : Nat → Prop} {a b c : World} (h : But X a b) (k : But X b c) : But X a c :=
 ⟨k.os.trans h.os, k.tape.trans h.tape, k.output.trans h.output, Nat.le_trans h.size k.size, fun i hi hx => (k.block i (Nat.lt_of_lt_of_le hi h.size) hx).trans (h.block i hi hx)⟩
theorem But.mono {X Y : Nat → Prop} {a b : World} (h : But X a b) (hxy : ∀ k, X k → Y k) : But Y a b := ⟨h.os, h.tape, h.output, h.size, fun k hk hy => h.block k hk (fun hx => hy (hxy k hx))⟩
theorem But.ofBelow {X : Nat → Prop} {a b : World} (h : Below a.heap.size a b) : But X a b := ⟨h.os, h.tape, h.output, h.size, fun k hk _ => h.block k hk⟩
theorem But.below {X : Nat → Prop} {a b c : World} (h : But X a b) (k : Below b.heap.size b c) : But X a c := h.trans (But.ofBelow k)
theorem But.alloc {X : Nat → Prop} {a w : World} (h : But X a w) (o : Obj) : But X a (w.alloc o) := h.below (vb_a (Below.refl _ _) o)
theorem But.drew {X : Nat → Prop} {a w : World} (h : But X a w) : But X a w.drew := ⟨h.os, h.tape, h.output, h.size, h.block⟩
theorem But.set {X : Nat → Prop} {a w : World} (h : But X a w) {p : Addr} (hp : X p.block ∨ a.heap.size ≤ p.block) (u : Value) : But X a (w.setCell p u) :=
 ⟨h.os, h.tape, h.output, by have := h.size; simpa [World.setCell] using this, fun k hk hx => (Below.heap_setCell _ _ _ _ (by rcases hp with hp | hp; exact fun e => hx (e ▸ hp); omega)).trans (h.block k hk hx)⟩
theorem But.ahead {X : Nat → Prop} {W a b : World} (hW : Below W.heap.size W a) (h : But X a b) (hX : ∀ k, X k → W.heap.size ≤ k) : Below W.heap.size W b :=
 ⟨h.os.trans hW.os, h.tape.trans hW.tape, h.output.trans hW.output, Nat.le_trans hW.size h.size, fun k hk => (h.block k (Nat.lt_of_lt_of_le hk hW.size) (fun hx => absurd (hX k hx) (by omega))).trans (hW.block k hk)⟩
def Rd (w : World) (rb : Nat) (F : Nat → Value) : Prop := ∀ j, j < 10 → w.cell? ⟨rb, j, none⟩ = some (F j) ∧ w.frozen? ⟨rb, j, none⟩ = false
def upd (F : Nat → Value) (i : Nat) (v : Value) : Nat → Value := fun j => if j = i then v else F j
theorem upd_same (F : Nat → Value) (i : Nat) (v : Value) : upd F i v i = v := if_pos rfl
theorem upd_other (F : Nat → Value) {i j : Nat} (v : Value) (h : j ≠ i) : upd F i v j = F j := if_neg h
theorem Rd.lt {w : World} {rb : Nat} {F : Nat → Value} (h : Rd w rb F) : rb < w.heap.size := World.block_lt_of_cell? w _ (h 0 (by omega)).1
theorem Rd.below {w w' : World} {rb : Nat} {F : Nat → Value} (h : Rd w rb F) (hb : Below w.heap.size w w') : Rd w' rb F := fun j hj =>
 ⟨(hb.cell (p := ⟨rb, j, none⟩) h.lt).trans (h j hj).1, (hb.frozen (p := ⟨rb, j, none⟩) h.lt).trans (h j hj).2⟩
theorem Rd.set {w : World} {rb : Nat} {F : Nat → Value} (h : Rd w rb F) {i : Nat} (hi : i < 10) (v : Value) : Rd (w.setCell ⟨rb, i, none⟩ v) rb (upd F i v) := fun j hj => by
 refine ⟨?_, by rw [World.frozen?_setCell]; exact (h j hj).2⟩
 by_cases e : j = i
 ·subst e
  rw [upd_same]
  exact World.cell?_setCell_same _ _ _ (h j hj).1
 ·rw [upd_other _ _ e, World.cell?_setCell_other _ _ _ _ (by intro h; injection h with _ h2 _; exact e h2.symm)]
  exact (h j hj).1
theorem upd_upd (F : Nat → Value) (i : Nat) (u v : Value) : upd (upd F i u) i v = upd F i v := by
 funext j; unfold upd; split <;> simp_all
set_option maxRecDepth 100000 in
set_option maxHeartbeats 1600000 in
theorem blanks_any (l : List UInt8) (v : Value) (W w : World) (rb i : Nat) (F : Nat → Value) (hB : Byt W v l) (hm : l.length ≤ 140737488351232) (hW : Below W.heap.size W w) (hrb : W.heap.size ≤ rb) (hR : Rd w rb F) (h0 : F 0 = v) (h1 : F 1 = .int .i64 (i : Int)) (hi : i ≤ l.length) :
  Calls Tryz.prog 81 #[.pointer (some ⟨rb, 0, none⟩)] w fun r w' => r = .returned (.tuple #[]) ∧ But (· = rb) w w' ∧ Rd w' rb (upd F 1 (.int .i64 (pass l blankB i : Nat))) := by
 have hmI : (l.length : Int) ≤ 140737488351232 := by omega
 go_enter Tryz.func81, Tryz.ntmps81
 go_wp2_with fail
 go_loopg [] (l.length - i) (fun g wr => ∃ k : Nat, k ≤ l.length ∧ g = l.length - k ∧ Hid (pass l blankB k = pass l blankB i) ∧ But (· = rb) w wr ∧ Rd wr rb (upd F 1 (.int .i64 (k : Int))))
 case atStart => exact ⟨i, hi, rfl, rfl, But.refl _ _, fun j hj => by rw [show upd F 1 (.int .i64 (i : Int)) j = F j by unfold upd; split; (rename_i e; rw [e, h1]); rfl]; exact hR j hj⟩
 case round =>
  obtain ⟨k, hk, rfl, HP, hbut, hRr⟩ := hrel
  have q0 : wr.cell? ⟨rb, 0, none⟩ = some v := by have := (hRr 0 (by omega)).1; rw [upd_other _ _ (by omega), h0] at this; exact this
  have q1 : wr.cell? ⟨rb, 1, none⟩ = some (.int .i64 (k : Int)) := (hRr 1 (by omega)).1
  have q2 := (hRr 1 (by omega)).2
  have hBr : Byt wr v l := hB.below (But.ahead hW hbut (fun x hx => by subst hx; exact hrb))
  by_cases hlt : k < l.length
  ·rcases hBr with ⟨hz, _⟩ | ⟨b, off, cap, rfl, hc, hm', hL⟩
   ·omega
   have hcell : wr.cell? ⟨b, off + k, none⟩ = some (.int .u8 (bx l k)) := hL.cell k hlt
   have hI : (k : Int) < (l.length : Int) := by omega
   have c1 := fun w => Lx.blank_any (bx l k) w
   have hq := hasAt_in (l := l) blankB hlt
   cases hp : blankB (bx l k)
   ·rw [hp] at c1 hq
    have HR : Hid (pass l blankB i = k) := by show _ = _; rw [← HP.out, pass_stop hq]
    have HS : Hid (But (· = rb) w wr ∧ Rd wr rb (upd F 1 (.int .i64 (k : Int)))) := ⟨hbut, hRr⟩
    clear HP hq hp hRr hbut hL hR hB hW
    generalize bx l k = c at *
    have hS : ∀ w', Below wr.heap.size wr w' → w'.cell? ⟨rb, 0, none⟩ = some (.slice (some ⟨b, off, none⟩) l.length cap) ∧ w'.cell? ⟨rb, 1, none⟩ = some (.int .i64 (k : Int)) ∧ w'.cell? ⟨b, off + k, none⟩ = some (.int .u8 c) := fun w' hb =>
     ⟨(hb.cell (p := ⟨rb, 0, none⟩) (World.block_lt_of_cell? wr _ q0)).trans q0, (hb.cell (p := ⟨rb, 1, none⟩) (World.block_lt_of_cell? wr _ q1)).trans q1, (hb.cell (p := ⟨b, off + k, none⟩) (World.block_lt_of_cell? wr _ hcell)).trans hcell⟩
    go_wp2_with fail
    go_region_held3 (fun w' => w'.cell? ⟨rb, 0, none⟩ = some (.slice (some ⟨b, off, none⟩) l.length cap) ∧ w'.cell? ⟨rb, 1, none⟩ = some (.int .i64 (k : Int)) ∧ w'.cell? ⟨b, off + k, none⟩ = some (.int .u8 c)) (first | (refine hS _ ?_; with_reducible repeat (first | exact Below.refl _ _ | refine vb_t ?_ hb2 | refine vb_d ?_)) | fail) (first | (go_at_call 29; refine (c1 _).mono ?_; rintro r w2 ⟨rfl, hb2⟩))
    all_goals
     go_wp2_with fail
     obtain ⟨hs1, hs2⟩ := HS.out
     have hb3 : Below wr.heap.size wr w2 := by with_reducible repeat (first | exact hb2 | exact Below.refl _ _ | refine vb_t ?_ hb2 | refine vb_d ?_)
     refine bodyPost_end (v := .tuple #[]) ?_ rfl ?_
     all_goals first | exact ⟨rfl, hs1.below hb3, by rw [HR.out]; exact hs2.below hb3⟩ | (simp [results, Tryz.results81, go_sem])
   ·rw [hp] at c1 hq
    have HR : Hid (pass l blankB (k + 1) = pass l blankB i) := by show _ = _; rw [← HP.out, pass_go hq]
    have HS : Hid (But (· = rb) w wr ∧ Rd wr rb (upd F 1 (.int .i64 (k : Int)))) := ⟨hbut, hRr⟩
    clear HP hq hp hRr hbut hL hR hB hW
    generalize bx l k = c at *
    have hS : ∀ w', Below wr.heap.size wr w' → w'.cell? ⟨rb, 0, none⟩ = some (.slice (some ⟨b, off, none⟩) l.length cap) ∧ w'.cell? ⟨rb, 1, none⟩ = some (.int .i64 (k : Int)) ∧ w'.cell? ⟨b, off + k, none⟩ = some (.int .u8 c) := fun w' hb =>
     ⟨(hb.cell (p := ⟨rb, 0, none⟩) (World.block_lt_of_cell? wr _ q0)).trans q0, (hb.cell (p := ⟨rb, 1, none⟩) (World.block_lt_of_cell? wr _ q1)).trans q1, (hb.cell (p := ⟨b, off + k, none⟩) (World.block_lt_of_cell? wr _ hcell)).trans hcell⟩
    go_wp2_with fail
    go_region_held3 (fun w' => w'.cell? ⟨rb, 0, none⟩ = some (.slice (some ⟨b, off, none⟩) l.length cap) ∧ w'.cell? ⟨rb, 1, none⟩ = some (.int .i64 (k : Int)) ∧ w'.cell? ⟨b, off + k, none⟩ = some (.int .u8 c)) (first | (refine hS _ ?_; with_reducible repeat (first | exact Below.refl _ _ | refine vb_t ?_ hb2 | refine vb_d ?_)) | fail) (first | (go_at_call 29; refine (c1 _).mono ?_; rintro r w2 ⟨rfl, hb2⟩))
    all_goals
     have hb3 : Below wr.heap.size wr w2 := by with_reducible repeat (first | exact hb2 | exact Below.refl _ _ | refine vb_t ?_ hb2 | refine vb_d ?_)
     obtain ⟨hs1, hs2⟩ := HS.out
     have r1 : w2.cell? ⟨rb, 1, none⟩ = some (.int .i64 (k : Int)) := (hS w2 hb3).2.1
     have r2 : w2.frozen? ⟨rb, 1, none⟩ = false := ((hs2.below hb3) 1 (by omega)).2
     have HS2 : Hid (But (· = rb) w w2 ∧ Rd w2 rb (upd F 1 (.int .i64 (k : Int)))) := ⟨hs1.below hb3, hs2.below hb3⟩
     clear hs1 hs2 hS HS
     go_wp2_with fail
     go_roundg (l.length - (k + 1))
     case measure => omega
     case rel =>
      obtain ⟨hs1, hs2⟩ := HS2.out
      have hs3 := hs2.set (i := 1) (by omega) (.int .i64 ((k : Int) + 1))
      rw [upd_upd] at hs3
      exact ⟨k + 1, by omega, rfl, HR, hs1.set (Or.inl rfl) _, hs3⟩
  ·have hI : ¬ ((k : Int) < (l.length : Int)) := by omega
   obtain ⟨aa, cap, rfl, _⟩ := hBr.shape
   have HR : Hid (pass l blankB i = k) := by show _ = _; rw [← HP.out, pass_stop (hasAt_out _ hlt)]
   have HS : Hid (But (· = rb) w wr ∧ Rd wr rb (upd F 1 (.int .i64 (k : Int)))) := ⟨hbut, hRr⟩
   clear HP hRr hbut hR hB hW
   go_wp2_with fail
   go_region
   all_goals
    go_wp2_with fail
    obtain ⟨hs1, hs2⟩ := HS.out
    refine bodyPost_end (v := .tuple #[]) ?_ rfl ?_
    all_goals first | exact ⟨rfl, hs1.drew, by rw [HR.out]; exact hs2.below (vb_d (Below.refl _ _))⟩ | (simp [results, Tryz.results81, go_sem])
end Go.Proofs.YtfoehebnmommfaaGreatDoor

namespace Go.Proofs.YtfoehebnmommfaaGreatDoor.Lx
open Go.RowKit
attribute [local go_sem] setCell_drewN alloc_drewN

theorem stands_ws (l : List UInt8) (i : Nat) (v : Value) (ws : List UInt8) (cs : Array Value) (n : Nat) (p : Int → Bool) (x : Bool) (w : World) (hc : cs = (ws.map fun c => Value.int .u8 (c.toNat : Nat)).toArray) (hn : n = ws.length) (hw : ws.length ≤ 1000)
  (b : Nat) (hb : w.heap.size = b) (hB : Byt w v l) (hi : i ≤ l.length) (hm : l.length ≤ 281474976710656) (hp : ∀ c, (ws.any fun d => c == (d.toNat : Int)) = p c) (hx : hasAt l i p = x) :
  Calls Tryz.prog 69 #[v, .int .i64 i, .slice (some ⟨b, 0, none⟩) n n] (w.alloc (.cells cs 5)) fun r w' => r = .returned (.bool x) ∧ w' = w.alloc (.cells cs 5) := by
 subst hc hn hx hb
 exact standsAt_any l i v _ _ _ p _ (Row.alloc hB _) (row_ws w ws 5 hw) hi hm (fun c => by rw [anyF_ws, hp])
set_option maxHeartbeats 400000 in
theorem digits_any (l : List UInt8) (i : Nat) (v : Value) (w : World) (hB : Byt w v l) (hi : i ≤ l.length) (hm : l.length ≤ 281474976710656) :
  Calls Tryz.prog 70 #[v, .int .i64 i] w fun r w' => r = .returned (plV (digitsL l i)) ∧ Below w.heap.size w w' := by
 have h1 := taken_digit l i v digitB w hB hi hm (fun c => isDigit_any c w)
 cases h : hasAt l i digitB
 ·have e : takenL l i digitB = .error (i + 1) := by simp [takenL, h]
  have HR : Hid (digitsL l i = .error (i + 1)) := by show _ = _; simp [digitsL, h]
  rw [e] at h1
  simp only [plV, errV] at h1
  clear h e
  go_enter Tryz.func70, Tryz.ntmps70
  go_wp2_with (go_at_call 93; refine h1.mono ?_; rintro r w2 ⟨rfl, hb2⟩)
  go_ret2
  exact ⟨r_pl (by rw [HR.out]; rfl), hb2⟩
 ·have hl := hasAt_lt h
  have e : takenL l i digitB = .ok (i + 1) := by simp [takenL, h]
  have HR : Hid (digitsL l i = .ok (pass l digitB (i + 1))) := by show _ = _; simp [digitsL, h]
  rw [e] at h1
  simp only [plV] at h1
  have h2 := fun w' (hb : Below w.heap.size w w') => passed_digit l (i + 1) v w' (hB.below hb) hl hm
  clear h e
  go_enter Tryz.func70, Tryz.ntmps70
  go_wp2_with (first | (go_at_call 93; refine h1.mono ?_; rintro r w2 ⟨rfl, hb2⟩) | (go_at_call 28; refine (h2 _ hb2).mono ?_; rintro r w3 ⟨rfl, hb3⟩))
  go_ret2
  exact ⟨r_pl (by rw [HR.out]; rfl), bl_t hb2 hb3⟩
set_option maxHeartbeats 800000 in
theorem whole_any (l : List UInt8) (i : Nat) (v : Value) (w : World) (hB : Byt w v l) (hi : i ≤ l.length) (hm : l.length ≤ 281474976710656) :
  Calls Tryz.prog 68 #[v, .int .i64 i] w fun r w' => r = .returned (plV (wholeL l i)) ∧ Below w.heap.size w w' := by
 have hiI : (i : Int) ≤ 281474976710656 := by omega
 cases h : hasAt l i (· == 45)
 ·have ea : aft l i (· == 45) = i := by simp [aft, h]
  have s1 := fun (w' : World) (b' : Nat) (hk : w'.heap.size = b') (hb : Byt w' v l) => (show Calls Tryz.prog 69 #[v, .int .i64 (i : Int), .slice (some ⟨b', 0, none⟩) 1 1] (w'.alloc (.cells #[.int .u8 45] 5)) fun r w2 => r = .returned (.bool false) ∧ w2 = w'.alloc (.cells #[.int .u8 45] 5) from by have := stands_ws l i v [45] #[.int .u8 45] 1 (· == 45) false w' rfl rfl (by decide) b' hk hb (by omega) hm (fun c => by simp) (by assumption); simpa using this)
  cases h2 : hasAt l i (· == 48)
  ·have s2 := fun (w' : World) (b' : Nat) (hk : w'.heap.size = b') (hb : Byt w' v l) => (show Calls Tryz.prog 69 #[v, .int .i64 (i : Int), .slice (some ⟨b', 0, none⟩) 1 1] (w'.alloc (.cells #[.int .u8 48] 5)) fun r w2 => r = .returned (.bool false) ∧ w2 = w'.alloc (.cells #[.int .u8 48] 5) from by have := stands_ws l i v [48] #[.int .u8 48] 1 (· == 48) false w' rfl rfl (by decide) b' hk hb (by omega) hm (fun c => by simp) (by assumption); simpa using this)
   have HR : Hid (wholeL l i = digitsL l i) := by show _ = _; simp [wholeL, ea, h2]
   have h3 := fun w' (hb : Byt w' v l) => (show Calls Tryz.prog 70 #[v, .int .i64 (i : Int)] w' fun r w2 => r = .returned (plV (digitsL l i)) ∧ Below w'.heap.size w' w2 from by have := digits_any l i v w' hb (by omega) hm; simpa using this)
   clear h h2 ea
   cases hd : digitsL l i with
   | error n =>
    rw [hd] at h3
    simp only [plV, errV] at h3
    have hB1 : Byt (w.alloc (.cells #[.int .u8 45] 5)) v l := Row.alloc hB _
    have hB2 : Byt ((w.alloc (.cells #[.int .u8 45] 5)).alloc (.cells #[.int .u8 48] 5)) v l := Row.alloc hB1 _
    go_enter Tryz.func68, Tryz.ntmps68
    go_wp2_with (first | (go_at_call 69; with_reducible refine (s1 _ _ rfl hB).mono ?_; rintro r w2 ⟨rfl, rfl⟩) | (go_at_call 69; with_reducible refine (s2 _ _ (by simp) hB1).mono ?_; rintro r w2 ⟨rfl, rfl⟩) | (go_at_call 70; refine (h3 _ hB2).mono ?_; rintro r w3 ⟨rfl, hb3⟩))
    go_ret2
    exact ⟨r_pl (by rw [HR.out, hd]; rfl), bl_t (bl_a (bl_a (Below.refl _ _) _) _) hb3⟩
   | ok k =>
    rw [hd] at h3
    simp only [plV] at h3
    have hB1 : Byt (w.alloc (.cells #[.int .u8 45] 5)) v l := Row.alloc hB _
    have hB2 : Byt ((w.alloc (.cells #[.int .u8 45] 5)).alloc (.cells #[.int .u8 48] 5)) v l := Row.alloc hB1 _
    go_enter Tryz.func68, Tryz.ntmps68
    go_wp2_with (first | (go_at_call 69; with_reducible refine (s1 _ _ rfl hB).mono ?_; rintro r w2 ⟨rfl, rfl⟩) | (go_at_call 69; with_reducible refine (s2 _ _ (by simp) hB1).mono ?_; rintro r w2 ⟨rfl, rfl⟩) | (go_at_call 70; refine (h3 _ hB2).mono ?_; rintro r w3 ⟨rfl, hb3⟩))
    go_ret2
    exact ⟨r_pl (by rw [HR.out, hd]; rfl), bl_t (bl_a (bl_a (Below.refl _ _) _) _) hb3⟩
  ·have s2 := fun (w' : World) (b' : Nat) (hk : w'.heap.size = b') (hb : Byt w' v l) => (show Calls Tryz.prog 69 #[v, .int .i64 (i : Int), .slice (some ⟨b', 0, none⟩) 1 1] (w'.alloc (.cells #[.int .u8 48] 5)) fun r w2 => r = .returned (.bool true) ∧ w2 = w'.alloc (.cells #[.int .u8 48] 5) from by have := stands_ws l i v [48] #[.int .u8 48] 1 (· == 48) true w' rfl rfl (by decide) b' hk hb (by omega) hm (fun c => by simp) (by assumption); simpa using this)
   have HR : Hid (wholeL l i = .ok (i + 1)) := by show _ = _; simp [wholeL, ea, h2]
   have hl2 := hasAt_lt h2
   have hB1 : Byt (w.alloc (.cells #[.int .u8 45] 5)) v l := Row.alloc hB _
   clear h h2 ea
   go_enter Tryz.func68, Tryz.ntmps68
   go_wp2_with (first | (go_at_call 69; with_reducible refine (s1 _ _ rfl hB).mono ?_; rintro r w2 ⟨rfl, rfl⟩) | (go_at_call 69; with_reducible refine (s2 _ _ (by simp) hB1).mono ?_; rintro r w2 ⟨rfl, rfl⟩))
   go_ret2
   exact ⟨r_pl (by rw [HR.out]; simp [plV]), bl_a (bl_a (Below.refl _ _) _) _⟩
 ·have ea : aft l i (· == 45) = (i + 1) := by simp [aft, h]
  have hl := hasAt_lt h
  have s1 := fun (w' : World) (b' : Nat) (hk : w'.heap.size = b') (hb : Byt w' v l) => (show Calls Tryz.prog 69 #[v, .int .i64 (i : Int), .slice (some ⟨b', 0, none⟩) 1 1] (w'.alloc (.cells #[.int .u8 45] 5)) fun r w2 => r = .returned (.bool true) ∧ w2 = w'.alloc (.cells #[.int .u8 45] 5) from by have := stands_ws l i v [45] #[.int .u8 45] 1 (· == 45) true w' rfl rfl (by decide) b' hk hb (by omega) hm (fun c => by simp) (by assumption); simpa using this)
  cases h2 : hasAt l (i + 1) (· == 48)
  ·have s2 := fun (w' : World) (b' : Nat) (hk : w'.heap.size = b') (hb : Byt w' v l) => (show Calls Tryz.prog 69 #[v, .int .i64 ((i : Int) + 1), .slice (some ⟨b', 0, none⟩) 1 1] (w'.alloc (.cells #[.int .u8 48] 5)) fun r w2 => r = .returned (.bool false) ∧ w2 = w'.alloc (.cells #[.int .u8 48] 5) from by have := stands_ws l (i + 1) v [48] #[.int .u8 48] 1 (· == 48) false w' rfl rfl (by decide) b' hk hb (by omega) hm (fun c => by simp) (by assumption); simpa using this)
   have HR : Hid (wholeL l i = digitsL l (i + 1)) := by show _ = _; simp [wholeL, ea, h2]
   have h3 := fun w' (hb : Byt w' v l) => (show Calls Tryz.prog 70 #[v, .int .i64 ((i : Int) + 1)] w' fun r w2 => r = .returned (plV (digitsL l (i + 1))) ∧ Below w'.heap.size w' w2 from by have := digits_any l (i + 1) v w' hb (by omega) hm; simpa using this)
   clear h h2 ea
   cases hd : digitsL l (i + 1) with
   | error n =>
    rw [hd] at h3
    simp only [plV, errV] at h3
    have hB1 : Byt (w.alloc (.cells #[.int .u8 45] 5)) v l := Row.alloc hB _
    have hB2 : Byt ((w.alloc (.cells #[.int .u8 45] 5)).alloc (.cells #[.int .u8 48] 5)) v l := Row.alloc hB1 _
    go_enter Tryz.func68, Tryz.ntmps68
    go_wp2_with (first | (go_at_call 69; with_reducible refine (s1 _ _ rfl hB).mono ?_; rintro r w2 ⟨rfl, rfl⟩) | (go_at_call 69; with_reducible refine (s2 _ _ (by simp) hB1).mono ?_; rintro r w2 ⟨rfl, rfl⟩) | (go_at_call 70; refine (h3 _ hB2).mono ?_; rintro r w3 ⟨rfl, hb3⟩))
    go_ret2
    exact ⟨r_pl (by rw [HR.out, hd]; rfl), bl_t (bl_a (bl_a (Below.refl _ _) _) _) hb3⟩
   | ok k =>
    rw [hd] at h3
    simp only [plV] at h3
    have hB1 : Byt (w.alloc (.cells #[.int .u8 45] 5)) v l := Row.alloc hB _
    have hB2 : Byt ((w.alloc (.cells #[.int .u8 45] 5)).alloc (.cells #[.int .u8 48] 5)) v l := Row.alloc hB1 _
    go_enter Tryz.func68, Tryz.ntmps68
    go_wp2_with (first | (go_at_call 69; with_reducible refine (s1 _ _ rfl hB).mono ?_; rintro r w2 ⟨rfl, rfl⟩) | (go_at_call 69; with_reducible refine (s2 _ _ (by simp) hB1).mono ?_; rintro r w2 ⟨rfl, rfl⟩) | (go_at_call 70; refine (h3 _ hB2).mono ?_; rintro r w3 ⟨rfl, hb3⟩))
    go_ret2
    exact ⟨r_pl (by rw [HR.out, hd]; rfl), bl_t (bl_a (bl_a (Below.refl _ _) _) _) hb3⟩
  ·have s2 := fun (w' : World) (b' : Nat) (hk : w'.heap.size = b') (hb : Byt w' v l) => (show Calls Tryz.prog 69 #[v, .int .i64 ((i : Int) + 1), .slice (some ⟨b', 0, none⟩) 1 1] (w'.alloc (.cells #[.int .u8 48] 5)) fun r w2 => r = .returned (.bool true) ∧ w2 = w'.alloc (.cells #[.int .u8 48] 5) from by have := stands_ws l (i + 1) v [48] #[.int .u8 48] 1 (· == 48) true w' rfl rfl (by decide) b' hk hb (by omega) hm (fun c => by simp) (by assumption); simpa using this)
   have HR : Hid (wholeL l i = .ok ((i + 1) + 1)) := by show _ = _; simp [wholeL, ea, h2]
   have hl2 := hasAt_lt h2
   have hB1 : Byt (w.alloc (.cells #[.int .u8 45] 5)) v l := Row.alloc hB _
   clear h h2 ea
   go_enter Tryz.func68, Tryz.ntmps68
   go_wp2_with (first | (go_at_call 69; with_reducible refine (s1 _ _ rfl hB).mono ?_; rintro r w2 ⟨rfl, rfl⟩) | (go_at_call 69; with_reducible refine (s2 _ _ (by simp) hB1).mono ?_; rintro r w2 ⟨rfl, rfl⟩))
   go_ret2
   exact ⟨r_pl (by rw [HR.out]; simp [plV]), bl_a (bl_a (Below.refl _ _) _) _⟩
set_option maxHeartbeats 800000 in
theorem exponent_any (l : List UInt8) (i : Nat) (v : Value) (w : World) (hB : Byt w v l) (hi : i ≤ l.length) (hm : l.length ≤ 281474976710656) :
  Calls Tryz.prog 71 #[v, .int .i64 i] w fun r w' => r = .returned (plV (exponentL l i)) ∧ Below w.heap.size w w' := by
 have hiI : (i : Int) ≤ 281474976710656 := by omega
 have hB1 : Byt (w.alloc (.cells #[.int .u8 43, .int .u8 45] 5)) v l := Row.alloc hB _
 cases h : hasAt l i (fun c => c == 43 || c == 45)
 ·have ea : aft l i (fun c => c == 43 || c == 45) = i := by simp [aft, h]
  have s1 := fun (w' : World) (b' : Nat) (hk : w'.heap.size = b') (hb : Byt w' v l) => (show Calls Tryz.prog 69 #[v, .int .i64 (i : Int), .slice (some ⟨b', 0, none⟩) 2 2] (w'.alloc (.cells #[.int .u8 43, .int .u8 45] 5)) fun r w2 => r = .returned (.bool false) ∧ w2 = w'.alloc (.cells #[.int .u8 43, .int .u8 45] 5) from by have := stands_ws l i v [43, 45] #[.int .u8 43, .int .u8 45] 2 (fun c => c == 43 || c == 45) false w' rfl rfl (by decide) b' hk hb (by omega) hm (fun c => by simp) (by assumption); simpa using this)
  have HR : Hid (exponentL l i = digitsL l i) := by show _ = _; simp [exponentL, ea]
  have h3 := fun w' (hb : Byt w' v l) => (show Calls Tryz.prog 70 #[v, .int .i64 (i : Int)] w' fun r w2 => r = .returned (plV (digitsL l i)) ∧ Below w'.heap.size w' w2 from by have := digits_any l i v w' hb (by omega) hm; simpa using this)
  clear h ea
  cases hd : digitsL l i with
  | error n =>
   rw [hd] at h3
   simp only [plV, errV] at h3
   go_enter Tryz.func71, Tryz.ntmps71
   go_wp2_with (first | (go_at_call 69; with_reducible refine (s1 _ _ rfl hB).mono ?_; rintro r w2 ⟨rfl, rfl⟩) | (go_at_call 70; refine (h3 _ hB1).mono ?_; rintro r w3 ⟨rfl, hb3⟩))
   go_ret2
   exact ⟨r_pl (by rw [HR.out, hd]; rfl), bl_t (bl_a (Below.refl _ _) _) hb3⟩
  | ok k =>
   rw [hd] at h3
   simp only [plV] at h3
   go_enter Tryz.func71, Tryz.ntmps71
   go_wp2_with (first | (go_at_call 69; with_reducible refine (s1 _ _ rfl hB).mono ?_; rintro r w2 ⟨rfl, rfl⟩) | (go_at_call 70; refine (h3 _ hB1).mono ?_; rintro r w3 ⟨rfl, hb3⟩))
   go_ret2
   exact ⟨r_pl (by rw [HR.out, hd]; rfl), bl_t (bl_a (Below.refl _ _) _) hb3⟩
 ·have ea : aft l i (fun c => c == 43 || c == 45) = (i + 1) := by simp [aft, h]
  have hl := hasAt_lt h
  have s1 := fun (w' : World) (b' : Nat) (hk : w'.heap.size = b') (hb : Byt w' v l) => (show Calls Tryz.prog 69 #[v, .int .i64 (i : Int), .slice (some ⟨b', 0, none⟩) 2 2] (w'.alloc (.cells #[.int .u8 43, .int .u8 45] 5)) fun r w2 => r = .returned (.bool true) ∧ w2 = w'.alloc (.cells #[.int .u8 43, .int .u8 45] 5) from by have := stands_ws l i v [43, 45] #[.int .u8 43, .int .u8 45] 2 (fun c => c == 43 || c == 45) true w' rfl rfl (by decide) b' hk hb (by omega) hm (fun c => by simp) (by assumption); simpa using this)
  have HR : Hid (exponentL l i = digitsL l (i + 1)) := by show _ = _; simp [exponentL, ea]
  have h3 := fun w' (hb : Byt w' v l) => (show Calls Tryz.prog 70 #[v, .int .i64 ((i : Int) + 1)] w' fun r w2 => r = .returned (plV (digitsL l (i + 1))) ∧ Below w'.heap.size w' w2 from by have := digits_any l (i + 1) v w' hb (by omega) hm; simpa using this)
  clear h ea
  cases hd : digitsL l (i + 1) with
  | error n =>
   rw [hd] at h3
   simp only [plV, errV] at h3
   go_enter Tryz.func71, Tryz.ntmps71
   go_wp2_with (first | (go_at_call 69; with_reducible refine (s1 _ _ rfl hB).mono ?_; rintro r w2 ⟨rfl, rfl⟩) | (go_at_call 70; refine (h3 _ hB1).mono ?_; rintro r w3 ⟨rfl, hb3⟩))
   go_ret2
   exact ⟨r_pl (by rw [HR.out, hd]; rfl), bl_t (bl_a (Below.refl _ _) _) hb3⟩
  | ok k =>
   rw [hd] at h3
   simp only [plV] at h3
   go_enter Tryz.func71, Tryz.ntmps71
   go_wp2_with (first | (go_at_call 69; with_reducible refine (s1 _ _ rfl hB).mono ?_; rintro r w2 ⟨rfl, rfl⟩) | (go_at_call 70; refine (h3 _ hB1).mono ?_; rintro r w3 ⟨rfl, hb3⟩))
   go_ret2
   exact ⟨r_pl (by rw [HR.out, hd]; rfl), bl_t (bl_a (Below.refl _ _) _) hb3⟩
def cx (s : ByteArray) (i : Nat) : Int := if h : i < s.size then ((s[i]'h).toNat : Int) else 0
theorem cx_at (s : ByteArray) (i : Nat) (h : i < s.size) : ((s[i]'h).toNat : Int) = cx s i := by simp [cx, h]
set_option maxHeartbeats 400000 in
theorem letter_any (c : Int) (a b : Nat) (s : ByteArray) (k : Nat) (w : World) (ha : w.cell? ⟨a, 0, none⟩ = some (.string s)) (hb : w.cell? ⟨b, 0, none⟩ = some (.int .i64 k)) (hk : k < s.size) :
  Calls Tryz.prog 94 #[.int .u8 c, .pointer (some ⟨a, 0, none⟩), .pointer (some ⟨b, 0, none⟩)] w fun r w' => r = .returned (.bool (c == cx s k)) ∧ Below w.heap.size w w' := by
 have hx := cx_at s k hk
 have hkI : (k : Int) < (s.size : Int) := by omega
 generalize cx s k = x at *
 go_enter Tryz.func94, Tryz.ntmps94
 go_wp2
 go_ret
 exact ⟨rfl, Below.refl _ _⟩
set_option maxHeartbeats 400000 in
theorem taken_letter (a b : Nat) (l : List UInt8) (i : Nat) (v : Value) (p : Int → Bool) (w : World) (hB : Byt w v l) (hi : i ≤ l.length) (hm : l.length ≤ 281474976710656)
  (hf : ∀ c, Calls Tryz.prog 94 #[.int .u8 c, .pointer (some ⟨a, 0, none⟩), .pointer (some ⟨b, 0, none⟩)] w fun r w' => r = .returned (.bool (p c)) ∧ Below w.heap.size w w') :
  Calls Tryz.prog 93 #[v, .int .i64 i, .func (.func 94) #[] #[.pointer (some ⟨a, 0, none⟩), .pointer (some ⟨b, 0, none⟩)]] w fun r w' => r = .returned (plV (takenL l i p)) ∧ Below w.heap.size w w' := by
 have hmI : (l.length : Int) ≤ 281474976710656 := by omega
 have g1 := fun w => badAt_any i w (by omega)
 by_cases hlt : i < l.length
 ·rcases hB with ⟨h0, _⟩ | ⟨bb, off, cap, rfl, hc, hm', hL⟩
  ·omega
  ·have hcell := hL.cell i hlt
   have hI : (i : Int) < (l.length : Int) := by omega
   have h1 := hf (bx l i)
   cases hp : p (bx l i)
   ·rw [hp] at h1
    have HR : Hid (takenL l i p = .error (i + 1)) := by show _ = _; simp [takenL, hasAt_in p hlt, hp]
    clear hp hL hf hc hm'
    generalize bx l i = c at *
    go_enter Tryz.func93, Tryz.ntmps93
    go_wp2_with (first | (go_at_call 94; refine h1.mono ?_; rintro r w2 ⟨rfl, hb2⟩) | (go_at_call 48; refine (g1 _).mono ?_; rintro r w3 ⟨rfl, rfl⟩))
    go_ret2
    exact ⟨r_pl (by rw [HR.out]; rfl), hb2⟩
   ·rw [hp] at h1
    have HR : Hid (takenL l i p = .ok (i + 1)) := by show _ = _; simp [takenL, hasAt_in p hlt, hp]
    clear hp hL hf hc hm' g1
    generalize bx l i = c at *
    go_enter Tryz.func93, Tryz.ntmps93
    go_wp2_with (go_at_call 94; refine h1.mono ?_; rintro r w2 ⟨rfl, hb2⟩)
    go_ret2
    exact ⟨r_pl (by rw [HR.out]; simp [plV]), hb2⟩
 ·have hI : ¬ (i : Int) < (l.length : Int) := by omega
  have HR : Hid (takenL l i p = .error (i + 1)) := by show _ = _; simp [takenL, hasAt_out p hlt]
  obtain ⟨a, cap, rfl, _⟩ := hB.shape
  clear hB hf
  go_enter Tryz.func93, Tryz.ntmps93
  go_wp2_with (go_at_call 48; refine (g1 _).mono ?_; rintro r w3 ⟨rfl, rfl⟩)
  go_ret2
  exact ⟨r_pl (by rw [HR.out]; rfl), Below.refl _ _⟩
end Go.Proofs.YtfoehebnmommfaaGreatDoor.Lx
