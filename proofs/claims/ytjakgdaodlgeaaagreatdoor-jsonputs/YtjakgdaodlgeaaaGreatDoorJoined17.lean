/-
  (*reader).take: the next token, where it begins with one of these bytes; else the panic with its verdict. Conditions: the bytes lie ahead of the reader, at most 2^47 - 4096 of them; lex's tables as they are laid.
  (*reader).take: the token.
  What dec.Check and ref3.Check answer: whether a number may be. No condition.
-/
import Derived.Test.YtjakgdaodlgeaaaGreatDoorJoined6
import Derived.Test.YtjakgdaodlgeaaaGreatDoorJoined16
import Derived.Test.YtjakgdaodlgeaaaGreatDoorJoined1
import Derived.Laws.StructEq
namespace Go.Proofs.YtjakgdaodlgeaaaGreatDoor
open Go.RowKit
open Lx (Byt Row bx pass blankB hasAt pass_go pass_stop hasAt_in hasAt_out)

theorem keepTd {w w' : World} (h : Below (w.alloc (.cells #[.int .i64 0, .string ⟨#[]⟩, .int .i64 0, .int .i64 0] 50)).drew.drew.heap.size (w.alloc (.cells #[.int .i64 0, .string ⟨#[]⟩, .int .i64 0, .int .i64 0] 50)).drew.drew w') :
  (∀ o, w'.cell? ⟨w.heap.size, o, none⟩ = #[Value.int .i64 0, .string ⟨#[]⟩, .int .i64 0, .int .i64 0][o]?) ∧ (∀ o, w'.frozen? ⟨w.heap.size, o, none⟩ = false) ∧ w.heap.size < w'.heap.size := Lx.keepT (w := w) ⟨h.os, h.tape, h.output, h.size, h.block⟩
theorem hid_intro {p : Prop} (h : p) : Hid p := h
def may (fs : ByteArray) (c : Int) : Bool := decide (0 ≤ Lib.indexByte fs.data.toList c.toNat.toUInt8)
def takeL (fs : ByteArray) (l : List UInt8) (j : Nat) : Except Nat Lx.Tok := if hasAt l j (may fs) = true then Lx.nextL l j else .error (j + 1)
def stopE (r n : Int) : Ending := .panicked [{ v := .iface 34 (verdV r n), recovered := false }]
def TakeR (x : Except Nat Lx.Tok) (rb : Nat) (F : Nat → Value) (r : Ending) (w' : World) : Prop :=
 match x with
 | .ok t => r = .returned (Lx.tokV t) ∧ Rd w' rb (upd F 1 (.int .i64 (t.to : Nat)))
 | .error n => r = stopE 3 (n : Nat)
set_option maxRecDepth 100000 in
set_option maxHeartbeats 1600000 in
theorem take_end (l : List UInt8) (v : Value) (W w : World) (rb i : Nat) (F : Nat → Value) (fs : ByteArray) (hB : Byt W v l) (hm : l.length ≤ 140737488351232) (hW : Below W.heap.size W w) (hrb : W.heap.size ≤ rb) (hR : Rd w rb F) (h0 : F 0 = v) (h1 : F 1 = .int .i64 (i : Int)) (hi : i ≤ l.length)
  (hp : ¬ pass l blankB i < l.length) :
  Calls Tryz.prog 51 #[.pointer (some ⟨rb, 0, none⟩), .string fs] w fun r w' => But (· = rb) w w' ∧ r = stopE 3 ((pass l blankB i + 1 : Nat) : Int) := by
 have hA : Below w.heap.size w (w.alloc (.cells #[.int .i64 0, .string ⟨#[]⟩, .int .i64 0, .int .i64 0] 50)) := vb_a (Below.refl _ _) _
 have cb := blanks_any l v W _ rb i F hB hm (hW.trans (hA.mono hW.size)) hrb (hR.below hA) h0 h1 hi
 have hple : pass l blankB i ≤ l.length := Lx.pass_le hi
 obtain ⟨aa, cap, rfl, _⟩ := hB.shape
 generalize pass l blankB i = j at *
 have hI : ((j : Int) == (l.length : Int)) = true := by simp; omega
 have cm := fun w => malformed_any ((j : Int) + 1) w
 go_enter Tryz.func51, Tryz.ntmps51
 go_wp2_with fail
 refine cb.mono ?_
 rintro r w1 ⟨rfl, hb1, hr1⟩
 have q0 : w1.cell? ⟨rb, 0, none⟩ = some (.slice aa l.length cap) := by have := (hr1 0 (by omega)).1; rw [upd_other _ _ (by omega), h0] at this; exact this
 have q1 : w1.cell? ⟨rb, 1, none⟩ = some (.int .i64 (j : Int)) := (hr1 1 (by omega)).1
 go_wp2_with fail
 go_region
 have hmI : (j : Int) + 1 ≤ 9223372036854775807 := by omega
 go_wp2_with (go_at_call 83; refine (cm _).mono ?_; rintro r w2 ⟨rfl, hb2⟩)
 exact ⟨rfl, (((But.ofBelow hA).trans hb1).drew).below hb2, rfl⟩
set_option maxRecDepth 100000 in
set_option maxHeartbeats 3200000 in
theorem take_no (l : List UInt8) (v : Value) (W w : World) (rb i : Nat) (F : Nat → Value) (fs : ByteArray) (hB : Byt W v l) (hm : l.length ≤ 140737488351232) (hW : Below W.heap.size W w) (hrb : W.heap.size ≤ rb) (hR : Rd w rb F) (h0 : F 0 = v) (h1 : F 1 = .int .i64 (i : Int)) (hi : i ≤ l.length)
  (hp : pass l blankB i < l.length) (hy : may fs (bx l (pass l blankB i)) = false) :
  Calls Tryz.prog 51 #[.pointer (some ⟨rb, 0, none⟩), .string fs] w fun r w' => But (· = rb) w w' ∧ r = stopE 3 ((pass l blankB i + 1 : Nat) : Int) := by
 have hA : Below w.heap.size w (w.alloc (.cells #[.int .i64 0, .string ⟨#[]⟩, .int .i64 0, .int .i64 0] 50)) := vb_a (Below.refl _ _) _
 have hWA := hW.trans (hA.mono hW.size)
 have cb := blanks_any l v W _ rb i F hB hm hWA hrb (hR.below hA) h0 h1 hi
 generalize pass l blankB i = j at *
 have hI : ((j : Int) == (l.length : Int)) = false := by simp; omega
 have hmI : (j : Int) + 1 ≤ 9223372036854775807 := by omega
 have cm := fun w => malformed_any ((j : Int) + 1) w
 have cx := fun w => Tryz.strings_IndexByte fs (bx l j) w
 have hneg : Lib.indexByte fs.data.toList (bx l j).toNat.toUInt8 < 0 := by simpa [may] using hy
 go_enter Tryz.func51, Tryz.ntmps51
 go_wp2_with fail
 refine cb.mono ?_
 rintro r w1 ⟨rfl, hb1, hr1⟩
 have hB1 : Byt w1 v l := hB.below (But.ahead hWA hb1 (fun x hx => by subst hx; exact hrb))
 rcases hB1 with ⟨hz, _⟩ | ⟨b, off, cap, rfl, hc, hm', hL⟩
 ·omega
 have q0 : w1.cell? ⟨rb, 0, none⟩ = some (.slice (some ⟨b, off, none⟩) l.length cap) := by have := (hr1 0 (by omega)).1; rw [upd_other _ _ (by omega), h0] at this; exact this
 have q1 : w1.cell? ⟨rb, 1, none⟩ = some (.int .i64 (j : Int)) := (hr1 1 (by omega)).1
 have hcell : w1.cell? ⟨b, off + j, none⟩ = some (.int .u8 (bx l j)) := hL.cell j hp
 have hjI : (j : Int) < (l.length : Int) := by omega
 generalize Lib.indexByte fs.data.toList (bx l j).toNat.toUInt8 = X at *
 generalize bx l j = c at *
 clear hL hr1 cb hR hB hW hy
 go_wp2_with fail
 go_region_held3 (fun w' => w'.cell? ⟨rb, 0, none⟩ = some (.slice (some ⟨b, off, none⟩) l.length cap) ∧ w'.cell? ⟨rb, 1, none⟩ = some (.int .i64 (j : Int)) ∧ w'.cell? ⟨b, off + j, none⟩ = some (.int .u8 c)) (first | exact ⟨q0, q1, hcell⟩ | fail) (first | (go_at_call 82; refine (cx _).mono ?_; rintro r w2 ⟨rfl, rfl⟩))
 all_goals
  go_wp2_with (go_at_call 83; refine (cm _).mono ?_; rintro r w2 ⟨rfl, hb2⟩)
  exact ⟨rfl, (((But.ofBelow hA).trans hb1).drew).below hb2, rfl⟩
set_option maxRecDepth 100000 in
set_option maxHeartbeats 3200000 in
theorem take_bad (l : List UInt8) (v : Value) (W w : World) (rb i : Nat) (F : Nat → Value) (fs : ByteArray) (hE : Lx.Env W) (hB : Byt W v l) (hm : l.length ≤ 140737488351232) (hW : Below W.heap.size W w) (hrb : W.heap.size ≤ rb) (hR : Rd w rb F) (h0 : F 0 = v) (h1 : F 1 = .int .i64 (i : Int)) (hi : i ≤ l.length)
  (hp : pass l blankB i < l.length) (hy : may fs (bx l (pass l blankB i)) = true) (n : Nat) (hn : Lx.nextL l (pass l blankB i) = .error n) :
  Calls Tryz.prog 51 #[.pointer (some ⟨rb, 0, none⟩), .string fs] w fun r w' => But (· = rb) w w' ∧ r = stopE 3 (n : Int) := by
 have hA : Below w.heap.size w (w.alloc (.cells #[.int .i64 0, .string ⟨#[]⟩, .int .i64 0, .int .i64 0] 50)) := vb_a (Below.refl _ _) _
 have hWA := hW.trans (hA.mono hW.size)
 have cb := blanks_any l v W _ rb i F hB hm hWA hrb (hR.below hA) h0 h1 hi
 generalize pass l blankB i = j at *
 have hI : ((j : Int) == (l.length : Int)) = false := by simp; omega
 have hmI : (j : Int) + 1 ≤ 9223372036854775807 := by omega
 have cm := fun w => malformed_any ((j : Int) + 1) w
 have cx := fun w => Tryz.strings_IndexByte fs (bx l j) w
 have hneg : ¬ (Lib.indexByte fs.data.toList (bx l j).toNat.toUInt8 < 0) := by simpa [may] using hy
 go_enter Tryz.func51, Tryz.ntmps51
 go_wp2_with fail
 refine cb.mono ?_
 rintro r w1 ⟨rfl, hb1, hr1⟩
 have hW1 := But.ahead hWA hb1 (fun x hx => by subst hx; exact hrb)
 have cn := fun w' (hb : Below w1.heap.size w1 w') => Lx.next_any l j v w' (hE.below (hW1.trans (hb.mono hW1.size))) (hB.below (hW1.trans (hb.mono hW1.size))) (by omega) hm
 rw [hn] at cn
 simp only [Lx.nxV, Lx.tokV] at cn
 have hB1 : Byt w1 v l := hB.below (But.ahead hWA hb1 (fun x hx => by subst hx; exact hrb))
 rcases hB1 with ⟨hz, _⟩ | ⟨b, off, cap, rfl, hc, hm', hL⟩
 ·omega
 have q0 : w1.cell? ⟨rb, 0, none⟩ = some (.slice (some ⟨b, off, none⟩) l.length cap) := by have := (hr1 0 (by omega)).1; rw [upd_other _ _ (by omega), h0] at this; exact this
 have q1 : w1.cell? ⟨rb, 1, none⟩ = some (.int .i64 (j : Int)) := (hr1 1 (by omega)).1
 have hcell : w1.cell? ⟨b, off + j, none⟩ = some (.int .u8 (bx l j)) := hL.cell j hp
 have hjI : (j : Int) < (l.length : Int) := by omega
 generalize Lib.indexByte fs.data.toList (bx l j).toNat.toUInt8 = X at *
 generalize bx l j = c at *
 clear hL hr1 cb hR hB hW hy hn hW1 hWA hE h0 h1
 go_wp2_with fail
 go_region_held3 (fun w' => w'.cell? ⟨rb, 0, none⟩ = some (.slice (some ⟨b, off, none⟩) l.length cap) ∧ w'.cell? ⟨rb, 1, none⟩ = some (.int .i64 (j : Int)) ∧ w'.cell? ⟨b, off + j, none⟩ = some (.int .u8 c)) (first | exact ⟨q0, q1, hcell⟩ | fail) (first | (go_at_call 82; refine (cx _).mono ?_; rintro r w2 ⟨rfl, rfl⟩))
 all_goals
  rename_i hHeld
  have hd : decide (X < 0) = false := decide_eq_false (by omega)
  rw [hd]
  clear hneg hd hHeld cx
  go_wp2_with fail
  have hS : ∀ w', Below w1.heap.size w1 w' → w'.cell? ⟨rb, 0, none⟩ = some (.slice (some ⟨b, off, none⟩) l.length cap) ∧ w'.cell? ⟨rb, 1, none⟩ = some (.int .i64 (j : Int)) ∧ rb < w'.heap.size := fun w' hb =>
   ⟨(hb.cell (p := ⟨rb, 0, none⟩) (World.block_lt_of_cell? w1 _ q0)).trans q0, (hb.cell (p := ⟨rb, 1, none⟩) (World.block_lt_of_cell? w1 _ q1)).trans q1, Nat.lt_of_lt_of_le (World.block_lt_of_cell? w1 _ q0) hb.size⟩
  have HB := hid_intro ((But.ofBelow hA).trans hb1)
  clear hcell hm' hc hb1 hA cm
  have hrl : rb < w1.heap.size := World.block_lt_of_cell? w1 _ q0
  have HC := hid_intro cn
  have HS := hid_intro hS
  clear cn hS hi hrb hm hp
  clear hI hjI hmI
  go_region_held3 (fun w' => w'.cell? ⟨rb, 0, none⟩ = some (.slice (some ⟨b, off, none⟩) l.length cap) ∧ w'.cell? ⟨rb, 1, none⟩ = some (.int .i64 (j : Int)) ∧ rb < w'.heap.size) (first | (refine HS.out _ ?_; with_reducible repeat (first | exact Below.refl _ _ | refine vb_t ?_ hb2 | refine vb_d ?_ | refine vb_a ?_ _ | refine vb_s ?_ (by first | exact Nat.le_refl _ | exact hb2.size | exact Nat.le_of_succ_le hb2.size | (have := hb2.size; simp at this; omega)) _)) | fail) (first | (go_at_call 17; refine (HC.out w1.drew.drew (vb_d (vb_d (Below.refl _ _)))).mono ?_; rintro r w2 ⟨rfl, hb2⟩) | (go_at_call 17; refine (HC.out (w1.alloc (.cells #[.int .i64 0, .string ⟨#[]⟩, .int .i64 0, .int .i64 0] 50)).drew.drew (vb_d (vb_d (vb_a (Below.refl _ _) _)))).mono ?_; rintro r w2 ⟨rfl, hb2⟩; obtain ⟨kc, kf, kz⟩ := keepTd hb2))
  all_goals
   have cmn := fun w => malformed_any (n : Int) w
   go_wp2_with (go_at_call 83; refine (cmn _).mono ?_; rintro r w3 ⟨rfl, hb3⟩)
   refine ⟨rfl, But.below HB.out (vb_t ?_ hb3), rfl⟩
   with_reducible repeat (first | exact Below.refl _ _ | refine vb_t ?_ hb2 | refine vb_d ?_ | refine vb_a ?_ _ | refine vb_s ?_ (by first | exact Nat.le_refl _ | exact hb2.size | exact Nat.le_of_succ_le hb2.size | (have := hb2.size; simp at this; omega)) _)
end Go.Proofs.YtjakgdaodlgeaaaGreatDoor

namespace Go.Proofs.YtjakgdaodlgeaaaGreatDoor
open Go.RowKit
open Lx (Byt Row bx pass blankB hasAt pass_go pass_stop hasAt_in hasAt_out)

theorem But.setr {rb o : Nat} {a w : World} (h : But (· = rb) a w) (u : Value) : But (· = rb) a (w.setCell ⟨rb, o, none⟩ u) := h.set (Or.inl rfl) u
theorem Rd.al {w : World} {rb : Nat} {F : Nat → Value} (h : Rd w rb F) (o : Obj) : Rd (w.alloc o) rb F := h.below (vb_a (Below.refl _ _) o)
theorem Rd.oth {w : World} {rb : Nat} {F : Nat → Value} (h : Rd w rb F) {b o : Nat} (hb : b ≠ rb) (v : Value) : Rd (w.setCell ⟨b, o, none⟩ v) rb F := fun j hj =>
 ⟨(World.cell?_setCell_other _ _ _ _ (by intro e; injection e with e1; exact hb e1)).trans (h j hj).1, by rw [World.frozen?_setCell]; exact (h j hj).2⟩
theorem Rd.setu {w : World} {rb : Nat} {F : Nat → Value} {x : Value} (h : Rd w rb (upd F 1 x)) (y : Value) : Rd (w.setCell ⟨rb, 1, none⟩ y) rb (upd F 1 y) := by
 have := h.set (i := 1) (by omega) y
 rwa [upd_upd] at this
set_option maxRecDepth 100000 in
set_option maxHeartbeats 3200000 in
theorem take_ok (l : List UInt8) (v : Value) (W w : World) (rb i : Nat) (F : Nat → Value) (fs : ByteArray) (hE : Lx.Env W) (hB : Byt W v l) (hm : l.length ≤ 140737488351232) (hW : Below W.heap.size W w) (hrb : W.heap.size ≤ rb) (hR : Rd w rb F) (h0 : F 0 = v) (h1 : F 1 = .int .i64 (i : Int)) (hi : i ≤ l.length)
  (hp : pass l blankB i < l.length) (hy : may fs (bx l (pass l blankB i)) = true) (kind : Nat) (text : List UInt8) (fr te : Nat) (hn : Lx.nextL l (pass l blankB i) = .ok ⟨kind, text, fr, te⟩) :
  Calls Tryz.prog 51 #[.pointer (some ⟨rb, 0, none⟩), .string fs] w fun r w' => (But (· = rb) w w' ∧ Rd w' rb (upd F 1 (.int .i64 (te : Nat)))) ∧ r = .returned (Lx.tokV ⟨kind, text, fr, te⟩) := by
 have hA : Below w.heap.size w (w.alloc (.cells #[.int .i64 0, .string ⟨#[]⟩, .int .i64 0, .int .i64 0] 50)) := vb_a (Below.refl _ _) _
 have hWA := hW.trans (hA.mono hW.size)
 have hrw := hR.lt
 have cb := blanks_any l v W _ rb i F hB hm hWA hrb (hR.below hA) h0 h1 hi
 generalize pass l blankB i = j at *
 have hI : ((j : Int) == (l.length : Int)) = false := by simp; omega
 have hmI : (j : Int) + 1 ≤ 9223372036854775807 := by omega
 have cm := fun w => malformed_any ((j : Int) + 1) w
 have cx := fun w => Tryz.strings_IndexByte fs (bx l j) w
 have hneg : ¬ (Lib.indexByte fs.data.toList (bx l j).toNat.toUInt8 < 0) := by simpa [may] using hy
 simp only [Lx.tokV]
 obtain ⟨tx, htx⟩ : ∃ tx : ByteArray, (⟨text.toArray⟩ : ByteArray) = tx := ⟨_, rfl⟩
 rw [htx]
 go_enter Tryz.func51, Tryz.ntmps51
 go_wp2_with fail
 refine cb.mono ?_
 rintro r w1 ⟨rfl, hb1, hr1⟩
 have hW1 := But.ahead hWA hb1 (fun x hx => by subst hx; exact hrb)
 have cn := fun w' (hb : Below w1.heap.size w1 w') => Lx.next_any l j v w' (hE.below (hW1.trans (hb.mono hW1.size))) (hB.below (hW1.trans (hb.mono hW1.size))) (by omega) hm
 rw [hn] at cn
 simp only [Lx.nxV, Lx.tokV, htx] at cn
 clear htx
 have hB1 : Byt w1 v l := hB.below (But.ahead hWA hb1 (fun x hx => by subst hx; exact hrb))
 rcases hB1 with ⟨hz, _⟩ | ⟨b, off, cap, rfl, hc, hm', hL⟩
 ·omega
 have q0 : w1.cell? ⟨rb, 0, none⟩ = some (.slice (some ⟨b, off, none⟩) l.length cap) := by have := (hr1 0 (by omega)).1; rw [upd_other _ _ (by omega), h0] at this; exact this
 have q1 : w1.cell? ⟨rb, 1, none⟩ = some (.int .i64 (j : Int)) := (hr1 1 (by omega)).1
 have hcell : w1.cell? ⟨b, off + j, none⟩ = some (.int .u8 (bx l j)) := hL.cell j hp
 have hjI : (j : Int) < (l.length : Int) := by omega
 have hpl := (hb1.block w.heap.size (by simp) (fun e => absurd hrw (by omega)))
 have k1 : ∀ o, w1.cell? ⟨w.heap.size, o, none⟩ = #[Value.int .i64 0, .string ⟨#[]⟩, .int .i64 0, .int .i64 0][o]? := fun o => (World.cell?_of_block (w := w.alloc _) hpl).trans (by simp [go_sem])
 have f1 : ∀ o, w1.frozen? ⟨w.heap.size, o, none⟩ = false := fun o => (World.frozen?_of_block (w := w.alloc _) hpl).trans (by simp [go_sem])
 have z1 : w.heap.size < w1.heap.size := Nat.lt_of_lt_of_le (by simp) hb1.size
 have HR := hid_intro hr1
 have HF := hid_intro (And.intro k1 (And.intro f1 (And.intro z1 hrw)))
 clear k1 f1 hpl
 generalize Lib.indexByte fs.data.toList (bx l j).toNat.toUInt8 = X at *
 generalize bx l j = c at *
 clear hL hr1 cb hR hB hW hy hn hW1 hWA hE h0 h1 z1 hrw
 go_wp2_with fail
 go_region_held3 (fun w' => w'.cell? ⟨rb, 0, none⟩ = some (.slice (some ⟨b, off, none⟩) l.length cap) ∧ w'.cell? ⟨rb, 1, none⟩ = some (.int .i64 (j : Int)) ∧ w'.cell? ⟨b, off + j, none⟩ = some (.int .u8 c)) (first | exact ⟨q0, q1, hcell⟩ | fail) (first | (go_at_call 82; refine (cx _).mono ?_; rintro r w2 ⟨rfl, rfl⟩))
 all_goals
  rename_i hHeld
  have hd : decide (X < 0) = false := decide_eq_false (by omega)
  rw [hd]
  clear hneg hd hHeld cx
  go_wp2_with fail
  have hS : ∀ w', Below w1.heap.size w1 w' → w'.cell? ⟨rb, 0, none⟩ = some (.slice (some ⟨b, off, none⟩) l.length cap) ∧ w'.cell? ⟨rb, 1, none⟩ = some (.int .i64 (j : Int)) ∧ rb < w'.heap.size := fun w' hb =>
   ⟨(hb.cell (p := ⟨rb, 0, none⟩) (World.block_lt_of_cell? w1 _ q0)).trans q0, (hb.cell (p := ⟨rb, 1, none⟩) (World.block_lt_of_cell? w1 _ q1)).trans q1, Nat.lt_of_lt_of_le (World.block_lt_of_cell? w1 _ q0) hb.size⟩
  have HB := hid_intro ((But.ofBelow hA).trans hb1)
  clear hcell hm' hc hb1 hA cm
  have hrl : rb < w1.heap.size := World.block_lt_of_cell? w1 _ q0
  have HC := hid_intro cn
  have HS := hid_intro hS
  clear cn hS hi hrb hm hp
  clear hI hjI hmI
  go_region_held3 (fun w' => w'.cell? ⟨rb, 0, none⟩ = some (.slice (some ⟨b, off, none⟩) l.length cap) ∧ w'.cell? ⟨rb, 1, none⟩ = some (.int .i64 (j : Int)) ∧ rb < w'.heap.size) (first | (refine HS.out _ ?_; with_reducible repeat (first | exact Below.refl _ _ | refine vb_t ?_ hb2 | refine vb_d ?_ | refine vb_a ?_ _ | refine vb_s ?_ (by first | exact Nat.le_refl _ | exact hb2.size | exact Nat.le_of_succ_le hb2.size | (have := hb2.size; simp at this; omega)) _)) | fail) (first | (go_at_call 17; refine (HC.out w1.drew.drew (vb_d (vb_d (Below.refl _ _)))).mono ?_; rintro r w2 ⟨rfl, hb2⟩) | (go_at_call 17; refine (HC.out (w1.alloc (.cells #[.int .i64 0, .string ⟨#[]⟩, .int .i64 0, .int .i64 0] 50)).drew.drew (vb_d (vb_d (vb_a (Below.refl _ _) _)))).mono ?_; rintro r w2 ⟨rfl, hb2⟩; obtain ⟨kc, kf, kz⟩ := keepTd hb2))
  all_goals
   have hbw : Below w1.heap.size w1 w2 := by with_reducible repeat (first | exact Below.refl _ _ | refine vb_t ?_ hb2 | refine vb_d ?_ | refine vb_a ?_ _)
   obtain ⟨k1, f1, z1, hrw⟩ := HF.out
   have r1 : w2.cell? ⟨rb, 1, none⟩ = some (.int .i64 (j : Int)) := ((HR.out.below hbw) 1 (by omega)).1
   have r2 : w2.frozen? ⟨rb, 1, none⟩ = false := ((HR.out.below hbw) 1 (by omega)).2
   have k2 : ∀ o, w2.cell? ⟨w.heap.size, o, none⟩ = #[Value.int .i64 0, .string ⟨#[]⟩, .int .i64 0, .int .i64 0][o]? := fun o => (hbw.cell (p := ⟨w.heap.size, o, none⟩) z1).trans (k1 o)
   have f2 : ∀ o, w2.frozen? ⟨w.heap.size, o, none⟩ = false := fun o => (hbw.frozen (p := ⟨w.heap.size, o, none⟩) z1).trans (f1 o)
   have z2 := hbw.size
   have n1 : w1.heap.size ≠ rb := by omega
   have n2 : w2.heap.size ≠ rb := by omega
   have n3 : w.heap.size ≠ rb := by omega
   have n4 : w1.heap.size ≠ w.heap.size := by omega
   have n5 : w2.heap.size ≠ w.heap.size := by omega
   have n1' := n1.symm
   have n2' := n2.symm
   have n3' := n3.symm
   have n4' := n4.symm
   have n5' := n5.symm
   have y1 : rb < w2.heap.size := by omega
   have y2 : w.heap.size < w2.heap.size := by omega
   have HB2 := hid_intro (HB.out.below hbw)
   have HRb := hid_intro (HR.out.below hbw)
   have HZ := hid_intro (Nat.le_of_lt z1)
   clear k1 f1 hbw q0 q1 HC HS hrl z1 hrw z2
   go_wp2_with fail
   refine bodyPost_ret (v := .agg #[.int .i64 (kind : Nat), .string tx, .int .i64 (fr : Nat), .int .i64 (te : Nat)]) ?_ rfl ⟨⟨?_, ?_⟩, rfl⟩
   ·first | (simp [results, Tryz.results51, go_sem, k2]; done) | (simp [results, Tryz.results51, go_sem, k2, y2]; done)
   ·with_reducible repeat (first | exact HB2.out | refine But.alloc ?_ _ | refine But.setr ?_ _ | refine But.set ?_ (Or.inr (Nat.le_refl _)) _ | refine But.set ?_ (Or.inr HZ.out) _)
   ·with_reducible repeat (first | exact HRb.out | refine Rd.al ?_ _ | refine Rd.setu (x := .int .i64 (j : Int)) ?_ _ | refine Rd.oth ?_ n3 _ | refine Rd.oth ?_ n1 _)
theorem take_any (l : List UInt8) (v : Value) (W w : World) (rb i : Nat) (F : Nat → Value) (fs : ByteArray) (hE : Lx.Env W) (hB : Byt W v l) (hm : l.length ≤ 140737488351232) (hW : Below W.heap.size W w) (hrb : W.heap.size ≤ rb) (hR : Rd w rb F) (h0 : F 0 = v) (h1 : F 1 = .int .i64 (i : Int)) (hi : i ≤ l.length) :
  Calls Tryz.prog 51 #[.pointer (some ⟨rb, 0, none⟩), .string fs] w fun r w' => But (· = rb) w w' ∧ TakeR (takeL fs l (pass l blankB i)) rb F r w' := by
 by_cases hp : pass l blankB i < l.length
 ·cases hy : may fs (bx l (pass l blankB i)) with
  | false =>
   have e : takeL fs l (pass l blankB i) = .error (pass l blankB i + 1) := by rw [takeL, hasAt_in _ hp, hy]; rfl
   rw [e]
   exact take_no l v W w rb i F fs hB hm hW hrb hR h0 h1 hi hp hy
  | true =>
   have e : takeL fs l (pass l blankB i) = Lx.nextL l (pass l blankB i) := by rw [takeL, hasAt_in _ hp, hy, if_pos rfl]
   rw [e]
   cases hn : Lx.nextL l (pass l blankB i) with
   | error n => exact take_bad l v W w rb i F fs hE hB hm hW hrb hR h0 h1 hi hp hy n hn
   | ok t =>
    obtain ⟨kind, text, fr, te⟩ := t
    exact (take_ok l v W w rb i F fs hE hB hm hW hrb hR h0 h1 hi hp hy kind text fr te hn).mono fun r w' h => ⟨h.1.1, h.2, h.1.2⟩
 ·have e : takeL fs l (pass l blankB i) = .error (pass l blankB i + 1) := by rw [takeL, hasAt_out _ hp]; rfl
  rw [e]
  exact take_end l v W w rb i F fs hB hm hW hrb hR h0 h1 hi hp
end Go.Proofs.YtjakgdaodlgeaaaGreatDoor

namespace Go.Proofs.YtjakgdaodlgeaaaGreatDoor
open Go.RowKit

theorem bl_a {a w : World} (h : Below a.heap.size a w) (o : Obj) : Below a.heap.size a (w.alloc o) := h.alloc h.size o
theorem bl_d {B : Nat} {a w : World} (h : Below B a w) : Below B a w.drew := ⟨h.os, h.tape, h.output, h.size, h.block⟩
theorem bl_n {B : Nat} {a w : World} (h : Below B a w) (n : Nat) : Below B a (w.drewN n) := ⟨h.os, h.tape, h.output, h.size, h.block⟩
theorem bl_s {a w : World} (h : Below a.heap.size a w) {b o : Nat} (hb : a.heap.size ≤ b) (v : Value) : Below a.heap.size a (w.setCell ⟨b, o, none⟩ v) := h.setCell hb v
theorem bl_t {a w w2 : World} (h : Below a.heap.size a w) (h2 : Below w.heap.size w w2) : Below a.heap.size a w2 := h.trans (h2.mono h.size)
end Go.Proofs.YtjakgdaodlgeaaaGreatDoor
