/-
  LexEnds answers true for every bytes, whatever is put behind a token. Conditions: the bytes lie in memory, at most 2^20 of them; the table of greatest code points and errors.errorType as they are laid.
-/
import Derived.Test.YtpeoepcfiejpmaaDoorW1
namespace Go.Proofs.YtpeoepcfiejpmaaDoor
open Go.RowKit
attribute [local go_sem] setCell_drewN alloc_drewN

theorem own_empty (W : World) (b : Nat) (hb : W.heap.size = b) : (W.alloc (.cells #[] 5)).ownsRow b 5 1 (.slice (some ⟨b, 0, none⟩) 0 0) 0 (cellsL []) := by
  subst hb
  exact World.ownsRow_made W #[] 0 (Nat.le_refl _) (by simp [maxLen]) rfl
theorem byt_take {w : World} {b off cap : Nat} {l : List UInt8} (h : Lies w b off l.length (bx l)) (hc : l.length ≤ cap) (hm : cap ≤ maxLen) {e : Nat} (he : e ≤ l.length) : Row w (.slice (some ⟨b, off, none⟩) e cap) e (bx (l.take e)) :=
  .inr ⟨b, off, cap, rfl, by omega, hm, ⟨fun i hi => by rw [h.cell i (by omega)]; simp [bx, List.getElem?_take_of_lt hi], bx_lo _, bx_hi _⟩⟩

set_option maxRecDepth 100000 in
set_option maxHeartbeats 1600000 in
theorem ends_bad (l : List UInt8) (v0 v1 : Value) (n : Nat) (w : World) (hE : Env w) (hB : Byt w v0 l) (hl : l.length ≤ 1048576) (hr : nextL l 0 = .error n) :
    Calls Tryd.prog 7 #[v0, v1] w fun r w' => r = .returned (.bool true) ∧ Below w.heap.size w w' := by
  have g1 := next_any l 0 v0 w hE hB (Nat.zero_le _) (by omega)
  rw [hr] at g1
  simp only [nxV, tokV] at g1
  have g9 := fun w' (hb : Below w.heap.size w w') => heads4_any w' (hE.below hb)
  clear hr hB hl
  go_enter Tryd.func7, Tryd.ntmps7
  go_wp2_with (first | (go_at_call 9; refine g1.mono ?_; rintro r w1 ⟨rfl, hb1⟩) | (go_at_call 11; refine (g9 _ (bl_a hb1 _)).mono ?_; rintro r w2 ⟨rfl, hb2⟩))
  go_ret
  exact ⟨rfl, bl_t (bl_a hb1 _) hb2⟩

set_option maxRecDepth 100000 in
set_option maxHeartbeats 1600000 in
theorem ends_pass (l : List UInt8) (v0 v1 : Value) (kind fr to : Nat) (text : List UInt8) (w : World) (hE : Env w) (hB : Byt w v0 l) (hl : l.length ≤ 1048576) (hr : nextL l 0 = .ok ⟨kind, text, fr, to⟩) (hk : kind = 0 ∨ kind = 2) :
    Calls Tryd.prog 7 #[v0, v1] w fun r w' => r = .returned (.bool true) ∧ Below w.heap.size w w' := by
  have g1 := next_any l 0 v0 w hE hB (Nat.zero_le _) (by omega)
  rw [hr] at g1
  simp only [nxV, tokV] at g1
  have g9 := fun w' (hb : Below w.heap.size w w') => heads4_any w' (hE.below hb)
  clear hr hB hl
  rcases hk with rfl | rfl
  all_goals
    go_enter Tryd.func7, Tryd.ntmps7
    go_wp2_with (first | (go_at_call 9; refine g1.mono ?_; rintro r w1 ⟨rfl, hb1⟩) | (go_at_call 11; refine (g9 _ (bl_a hb1 _)).mono ?_; rintro r w2 ⟨rfl, hb2⟩))
    go_ret
    exact ⟨rfl, bl_t (bl_a hb1 _) hb2⟩

set_option maxRecDepth 100000 in
set_option maxHeartbeats 3200000 in
theorem ends_main (l more : List UInt8) (v0 v1 : Value) (kind fr to : Nat) (text : List UInt8) (w : World) (hE : Env w) (hB : Byt w v0 l) (hM : Byt w v1 more) (hl : l.length ≤ 1048576) (hm : more.length ≤ 1048576) (hr : nextL l 0 = .ok ⟨kind, text, fr, to⟩) (h0 : kind ≠ 0) (h2 : kind ≠ 2) :
    Calls Tryd.prog 7 #[v0, v1] w fun r w' => r = .returned (.bool true) ∧ Below w.heap.size w w' := by
  obtain ⟨t0, tl, hr2⟩ := next_ends more hr h0 h2
  simp only at t0 tl hr2
  have g1 := next_any l 0 v0 w hE hB (Nat.zero_le _) (by omega)
  rw [hr] at g1
  simp only [nxV, tokV] at g1
  have g2 := fun (w' : World) (v' : Value) (hb : Below w.heap.size w w') (hv : Byt w' v' (l.take to ++ more)) => next_any _ 0 v' w' (hE.below hb) hv (Nat.zero_le _) (by simp; omega)
  rw [hr2] at g2
  simp only [nxV, tokV] at g2
  have g9 := fun w' (hb : Below w.heap.size w w') => heads4_any w' (hE.below hb)
  have q1 := eqIn_tok (kind : Nat) ⟨text.toArray⟩ (fr : Nat) (to : Nat) (kind : Nat) ⟨text.toArray⟩ (fr : Nat) (to : Nat)
  rw [show eqT (kind : Nat) ⟨text.toArray⟩ (fr : Nat) (to : Nat) (kind : Nat) ⟨text.toArray⟩ (fr : Nat) (to : Nat) = true from decide_eq_true ⟨rfl, rfl, rfl, rfl⟩] at q1
  have e0 : (((kind : Nat) : Int) == 0) = false := beq_eq_false_iff_ne.2 (by omega)
  have e2 : (((kind : Nat) : Int) == 2) = false := beq_eq_false_iff_ne.2 (by omega)
  rcases hB with ⟨h, _⟩ | ⟨bb, off, cap, rfl, hc, hmx, hL⟩
  · omega
  have htk := fun (w' : World) (hb : Below w.heap.size w w') => Row.below (byt_take hL hc hmx tl) hb
  have htl : (l.take to).length = to := by simp; omega
  have htI : (0 : Int) ≤ (to : Int) := by omega
  have htcI : (to : Int) ≤ (cap : Int) := by omega
  have hcI : (cap : Int) ≤ 9223372036854775807 := by unfold maxLen at hmx; omega
  have HB : Hid (to ≤ 1048576 ∧ more.length ≤ 1048576) := ⟨by omega, hm⟩
  clear hr hr2 hL hl hm hc hmx h0 h2 t0 tl
  go_enter Tryd.func7, Tryd.ntmps7
  go_wp2_with fail
  refine g1.mono ?_
  rintro r w1 ⟨rfl, hb1⟩
  have hbA := bl_a (bl_a hb1 (.cells #[.int .i64 (kind : Nat), .string ⟨text.toArray⟩, .int .i64 (fr : Nat), .int .i64 (to : Nat)] 25)) (.cells #[] 5)
  have hs := htk _ hbA
  have own0 := own_empty (w1.alloc (.cells #[.int .i64 (kind : Nat), .string ⟨text.toArray⟩, .int .i64 (fr : Nat), .int .i64 (to : Nat)] 25)) (w1.heap.size + 1) (by simp)
  go_wp2_with (at_builtin; refine wpList_append_row rfl (.tmp 31) (.tmp 35) rfl _ _ _ _ rfl own0 _ to (bx (l.take to)) rfl hs ?_ ?_ ?_)
  · have := HB.out; omega
  · simp
  · intro v3 w3 hown3 hgrow3
    have hbT : Below (w1.alloc (.cells #[.int .i64 (kind : Nat), .string ⟨text.toArray⟩, .int .i64 (fr : Nat), .int .i64 (to : Nat)] 25)).heap.size (w1.alloc (.cells #[.int .i64 (kind : Nat), .string ⟨text.toArray⟩, .int .i64 (fr : Nat), .int .i64 (to : Nat)] 25)) ((w1.alloc (.cells #[.int .i64 (kind : Nat), .string ⟨text.toArray⟩, .int .i64 (fr : Nat), .int .i64 (to : Nat)] 25)).alloc (.cells #[] 5)) := bl_a (Below.refl _ _) _
    have hb3 := hbT.grown hgrow3 (by simp) (fun j hj => by have := (own0.lt j hj).1; simpa using this)
    have own3 := own_cat (a := []) (n := 0) rfl htl.symm (by simpa using hown3)
    rw [List.nil_append, htl] at own3
    have hM3 := hM.below (bl_t (bl_a hb1 (.cells #[.int .i64 (kind : Nat), .string ⟨text.toArray⟩, .int .i64 (fr : Nat), .int .i64 (to : Nat)] 25)) hb3)
    clear own0 hgrow3 hown3 hs hbA
    go_wp2_with (at_builtin; refine wpList_append_row rfl (.tmp 36) (.tmp 37) rfl _ _ _ _ rfl own3 _ more.length (bx more) rfl hM3 ?_ ?_ ?_)
    · have := HB.out; omega
    · have := hb3.size; simpa using this
    · intro v4 w4 hown4 hgrow4
      have hb4 := hb3.grown hgrow4 hb3.size (fun j hj => by have := (own3.lt j hj).1; simpa using this)
      have own4 := own_cat htl.symm rfl hown4
      have hv4 := own_byt own4
      have hbw := bl_t (bl_a hb1 (.cells #[.int .i64 (kind : Nat), .string ⟨text.toArray⟩, .int .i64 (fr : Nat), .int .i64 (to : Nat)] 25)) hb4
      clear own3 hgrow4 hown4 own4 hM3
      go_wp2_with fail
      refine (g2 _ _ hbw hv4).mono ?_
      rintro r w5 ⟨rfl, hb5⟩
      have hb55 := bl_t hb4 hb5
      obtain ⟨kc, kz⟩ := keepC (bl_a hb55 (.cells #[.int .i64 (kind : Nat), .string ⟨text.toArray⟩, .int .i64 (fr : Nat), .int .i64 (to : Nat)] 25))
      have hbw5 := bl_a (bl_t hbw hb5) (.cells #[.int .i64 (kind : Nat), .string ⟨text.toArray⟩, .int .i64 (fr : Nat), .int .i64 (to : Nat)] 25)
      go_wp2_with (go_at_call 11; refine (g9 _ hbw5).mono ?_; rintro r w6 ⟨rfl, hb6⟩)
      go_ret
      exact ⟨rfl, bl_t hbw5 hb6⟩

theorem ends_walk (l more : List UInt8) (v0 v1 : Value) (w : World) (hE : Env w) (hB : Byt w v0 l) (hM : Byt w v1 more) (hl : l.length ≤ 1048576) (hm : more.length ≤ 1048576) :
    Calls Tryd.prog 7 #[v0, v1] w fun r w' => r = .returned (.bool true) ∧ Below w.heap.size w w' := by
  cases hr : nextL l 0 with
  | error n => exact ends_bad l v0 v1 n w hE hB hl hr
  | ok t =>
    obtain ⟨kind, text, fr, to⟩ := t
    by_cases h0 : kind = 0
    · exact ends_pass l v0 v1 kind fr to text w hE hB hl hr (.inl h0)
    · by_cases h2 : kind = 2
      · exact ends_pass l v0 v1 kind fr to text w hE hB hl hr (.inr h2)
      · exact ends_main l more v0 v1 kind fr to text w hE hB hM hl hm hr h0 h2
end Go.Proofs.YtpeoepcfiejpmaaDoor
