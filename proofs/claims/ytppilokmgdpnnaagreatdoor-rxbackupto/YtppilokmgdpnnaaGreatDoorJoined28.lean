/-
  The counter over rows of trees. Conditions: each tree's own count is known.
  What the writer's methods write of a tree, each by the method that it calls. Conditions: at most 2^46 bytes are written; the tree lies below the writer.
-/
import Derived.Test.YtppilokmgdpnnaaGreatDoorJoined27
import Derived.Deep.RegionHeld3
namespace Go.Proofs.YtppilokmgdpnnaaGreatDoor
open Go.RowKit
attribute [local go_sem] setCell_drewN alloc_drewN

/-- A tree's six cells are of their kinds. -/
def Six (g : Nat → Value) : Prop := ∃ k a n c lo hi z a' n' c', g 0 = .int .i64 k ∧ g 1 = .slice a n c ∧ g 2 = .int .i64 lo ∧ g 3 = .int .i64 hi ∧ g 4 = .bool z ∧ g 5 = .slice a' n' c'
theorem XI.six {w : World} {X : Nat → Prop} {t : RX} {f : Nat → Value} (h : XI w X t f) : Six f := by
  cases h with
  | mk ao cap G f0 f1 f2 f3 f4 f5 hc hw hl hr =>
    obtain ⟨a, c, e, _⟩ := f1.shape
    exact ⟨_, a, _, c, _, _, _, ao, _, cap, f0, e, f2, f3, f4, f5⟩

end Go.Proofs.YtppilokmgdpnnaaGreatDoor

namespace Go.Proofs.YtppilokmgdpnnaaGreatDoor
open Go.RowKit Go.Sort
attribute [local go_sem] setCell_drewN alloc_drewN

/-- What was written, and what is kept. -/
structure SW (wb : Nat) (nv : Value) (out : List UInt8) (w w' : World) : Prop where
  ws : WS wb nv w' out
  bel : Below wb w w'
  oth : Lib.OthersKept 5 (some wb) w w'
theorem oth_bel {w w' : World} {b : Option Nat} (hb : Below w.heap.size w w') : Lib.OthersKept 5 b w w' := fun k o hk _ _ => by
  rw [hb.block k (Array.getElem?_eq_some_iff.1 hk).1]; exact hk
theorem SW.start {wb : Nat} {nv : Value} {out : List UInt8} {w : World} (h : WS wb nv w out) : SW wb nv out w w := ⟨h, Below.refl _ _, Lib.OthersKept.refl _ _ _⟩
theorem SW.on {wb : Nat} {nv : Value} {out : List UInt8} {w w1 w2 : World} (h : SW wb nv out w w1) (hb : Below w1.heap.size w1 w2) : SW wb nv out w w2 :=
  ⟨h.ws.below hb, h.bel.trans (hb.mono (Nat.le_of_lt h.ws.lt)), h.oth.trans (oth_bel hb)⟩
theorem SW.trans {wb : Nat} {nv : Value} {out out2 : List UInt8} {w w1 w2 : World} (h : SW wb nv out w w1) (h2 : SW wb nv out2 w1 w2) : SW wb nv out2 w w2 :=
  ⟨h2.ws, h.bel.trans h2.bel, h.oth.trans h2.oth⟩
theorem SW.base {wb : Nat} {nv : Value} {out : List UInt8} {w0 w w1 : World} (h : SW wb nv out w w1) (h0 : Below w0.heap.size w0 w) (hs : w0.heap.size ≤ wb) : Below w0.heap.size w0 w1 := h0.trans (h.bel.mono hs)
/-- A tree in a box. -/
def BX6 (w : World) (b : Nat) (k : Int) (a : Option Addr) (n c : Nat) (lo hi : Int) (z : Bool) (a' : Option Addr) (n' c' : Nat) : Prop := w.heap[b]? = some (.cells #[.int .i64 k, .slice a n c, .int .i64 lo, .int .i64 hi, .bool z, .slice a' n' c'] 26 (0, 0))
theorem BX6.bk {w : World} {b : Nat} {k : Int} {a : Option Addr} {n c : Nat} {lo hi : Int} {z : Bool} {a' : Option Addr} {n' c' : Nat} (h : BX6 w b k a n c lo hi z a' n' c') : Bk w b #[.int .i64 k, .slice a n c, .int .i64 lo, .int .i64 hi, .bool z, .slice a' n' c'] := ⟨_, h⟩
theorem BX6.new (w : World) (k : Int) (a : Option Addr) (n c : Nat) (lo hi : Int) (z : Bool) (a' : Option Addr) (n' c' : Nat) : BX6 (w.alloc (.cells #[.int .i64 k, .slice a n c, .int .i64 lo, .int .i64 hi, .bool z, .slice a' n' c'] 26)) w.heap.size k a n c lo hi z a' n' c' := by
  unfold BX6; show (w.heap.push _)[w.heap.size]? = _; simp
theorem BX6.sw {w w' : World} {b wb : Nat} {nv : Value} {out : List UInt8} {k : Int} {a : Option Addr} {n c : Nat} {lo hi : Int} {z : Bool} {a' : Option Addr} {n' c' : Nat} (h : BX6 w b k a n c lo hi z a' n' c') (hs : SW wb nv out w w') (hne : b ≠ wb) : BX6 w' b k a n c lo hi z a' n' c' :=
  hs.oth b _ h (by simpa using hne) (fun c fz e => by injection e with _ e2 _; revert e2; decide)
theorem BX6.bel {w w' : World} {b : Nat} {k : Int} {a : Option Addr} {n c : Nat} {lo hi : Int} {z : Bool} {a' : Option Addr} {n' c' : Nat} (h : BX6 w b k a n c lo hi z a' n' c') (hb : Below w.heap.size w w') : BX6 w' b k a n c lo hi z a' n' c' := by
  have := h.bk.lt
  unfold BX6 at *; rw [hb.block b this]; exact h
/-- What a writer's call does: it writes T. -/
def WrOK (fn : FuncId) (w0 : World) (wb : Nat) (nv : Value) (f : Nat → Value) (T : List UInt8) : Prop :=
  ∀ (w : World) (out : List UInt8), WS wb nv w out → Below w0.heap.size w0 w → out.length + T.length ≤ 70368744177664 →
    Calls Tryz.prog fn #[.pointer (some ⟨wb, 0, none⟩), xa f] w fun r w' => r = .returned (.tuple #[]) ∧ SW wb nv (out ++ T) w w'
theorem puts (wb : Nat) (nv : Value) (out s : List UInt8) (w : World) (hW : WS wb nv w out) (hl : out.length + s.length ≤ 70368744177664) :
    Calls Tryz.prog 22 #[.pointer (some ⟨wb, 0, none⟩), .string (bsx s)] w fun r w' => r = .returned (.tuple #[]) ∧ SW wb nv (out ++ s) w w' :=
  (put_any wb nv out s w hW hl).mono fun _ _ h => ⟨h.1, h.2.1, h.2.2.1, h.2.2.2⟩
theorem sw_box {wb : Nat} {nv : Value} {out : List UInt8} {w : World} (h : WS wb nv w out) (o : Obj) : SW wb nv out w (w.alloc o) := (SW.start h).on (vb_a (Below.refl _ _) _)
set_option maxRecDepth 100000 in
set_option maxHeartbeats 800000 in
theorem pattern_row (w0 : World) (wb : Nat) (nv : Value) (t : RX) (f : Nat → Value) (X : Nat → Prop) (T : List UInt8) (hw : w0.heap.size ≤ wb) (hx : XI w0 X t f) (hk : t.kind ≠ 4) (h : WrOK 21 w0 wb nv f T) : WrOK 14 w0 wb nv f T := by
  intro w out hW hb0 hl
  cases hx with
  | mk ao cap G f0 f1 f2 f3 f4 f5 hc hw' hlie hr =>
  rename_i k r lo hi z s
  obtain ⟨a1, c1, e1, _⟩ := f1.shape
  have exa : xa f = .agg #[.int .i64 k, .slice a1 r.length c1, .int .i64 lo, .int .i64 hi, .bool z, .slice ao s.length cap] := by unfold xa; rw [f0, e1, f2, f3, f4, f5]
  have hk4 : (k == 4) = false := by simpa [RX.kind] using hk
  obtain ⟨P, hP⟩ : ∃ P : Ending → World → Prop, P = fun r w' => r = .returned (.tuple #[]) ∧ SW wb nv (out ++ T) w w' := ⟨_, rfl⟩
  rw [← hP]
  have HP := hid_intro hP
  have HB := hid_intro (sw_box hW (.cells #[.int .i64 k, .slice a1 r.length c1, .int .i64 lo, .int .i64 hi, .bool z, .slice ao s.length cap] 26))
  have HC := hid_intro (h _ out HB.out.ws (HB.out.base hb0 hw) hl)
  rw [exa] at HC ⊢
  clear hP hW hb0 hl h hr hlie f0 f1 f2 f3 f4 f5 e1 exa hc hw' hk
  go_enter Tryz.func14, Tryz.ntmps14
  go_wp2_with fail
  refine HC.out.mono ?_; rintro r' w1 ⟨rfl, hs1⟩
  go_wp2_with fail
  go_end0
  rw [HP.out]
  exact ⟨rfl, HB.out.trans hs1⟩
set_option maxRecDepth 100000 in
set_option maxHeartbeats 800000 in
theorem row_term (w0 : World) (wb : Nat) (nv : Value) (t : RX) (f : Nat → Value) (X : Nat → Prop) (T : List UInt8) (hw : w0.heap.size ≤ wb) (hx : XI w0 X t f) (hk : t.kind ≠ 1 ∧ t.kind ≠ 3) (h : WrOK 35 w0 wb nv f T) : WrOK 21 w0 wb nv f T := by
  intro w out hW hb0 hl
  cases hx with
  | mk ao cap G f0 f1 f2 f3 f4 f5 hc hw' hlie hr =>
  rename_i k r lo hi z s
  obtain ⟨a1, c1, e1, _⟩ := f1.shape
  have exa : xa f = .agg #[.int .i64 k, .slice a1 r.length c1, .int .i64 lo, .int .i64 hi, .bool z, .slice ao s.length cap] := by unfold xa; rw [f0, e1, f2, f3, f4, f5]
  have hk1 : (k == 1) = false := by simpa [RX.kind] using hk.1
  have hk3 : (k == 3) = false := by simpa [RX.kind] using hk.2
  obtain ⟨P, hP⟩ : ∃ P : Ending → World → Prop, P = fun r w' => r = .returned (.tuple #[]) ∧ SW wb nv (out ++ T) w w' := ⟨_, rfl⟩
  rw [← hP]
  have HP := hid_intro hP
  have HB := hid_intro (sw_box hW (.cells #[.int .i64 k, .slice a1 r.length c1, .int .i64 lo, .int .i64 hi, .bool z, .slice ao s.length cap] 26))
  have HC := hid_intro (h _ out HB.out.ws (HB.out.base hb0 hw) hl)
  rw [exa] at HC ⊢
  clear hP hW hb0 hl h hr hlie f0 f1 f2 f3 f4 f5 e1 exa hc hw' hk
  go_enter Tryz.func21, Tryz.ntmps21
  go_wp2_with fail
  refine HC.out.mono ?_; rintro r' w1 ⟨rfl, hs1⟩
  go_wp2_with fail
  go_end0
  rw [HP.out]
  exact ⟨rfl, HB.out.trans hs1⟩
set_option maxRecDepth 100000 in
set_option maxHeartbeats 800000 in
theorem term_atom (w0 : World) (wb : Nat) (nv : Value) (t : RX) (f : Nat → Value) (X : Nat → Prop) (T : List UInt8) (hw : w0.heap.size ≤ wb) (hx : XI w0 X t f) (hk : t.kind ≠ 5 ∧ t.kind ≠ 6 ∧ t.kind ≠ 7 ∧ t.kind ≠ 8 ∧ t.kind ≠ 9) (h : WrOK 44 w0 wb nv f T) : WrOK 35 w0 wb nv f T := by
  intro w out hW hb0 hl
  cases hx with
  | mk ao cap G f0 f1 f2 f3 f4 f5 hc hw' hlie hr =>
  rename_i k r lo hi z s
  obtain ⟨a1, c1, e1, _⟩ := f1.shape
  have exa : xa f = .agg #[.int .i64 k, .slice a1 r.length c1, .int .i64 lo, .int .i64 hi, .bool z, .slice ao s.length cap] := by unfold xa; rw [f0, e1, f2, f3, f4, f5]
  have hk5 : (k == 5) = false := by simpa [RX.kind] using hk.1
  have hk6 : (k == 6) = false := by simpa [RX.kind] using hk.2.1
  have hk7 : (k == 7) = false := by simpa [RX.kind] using hk.2.2.1
  have hk8 : (k == 8) = false := by simpa [RX.kind] using hk.2.2.2.1
  have hk9 : (k == 9) = false := by simpa [RX.kind] using hk.2.2.2.2
  obtain ⟨P, hP⟩ : ∃ P : Ending → World → Prop, P = fun r w' => r = .returned (.tuple #[]) ∧ SW wb nv (out ++ T) w w' := ⟨_, rfl⟩
  rw [← hP]
  have HP := hid_intro hP
  have HB := hid_intro (sw_box hW (.cells #[.int .i64 k, .slice a1 r.length c1, .int .i64 lo, .int .i64 hi, .bool z, .slice ao s.length cap] 26))
  have HC := hid_intro (h _ out HB.out.ws (HB.out.base hb0 hw) hl)
  rw [exa] at HC ⊢
  clear hP hW hb0 hl h hr hlie f0 f1 f2 f3 f4 f5 e1 exa hc hw' hk
  go_enter Tryz.func35, Tryz.ntmps35
  go_wp2_with fail
  refine HC.out.mono ?_; rintro r' w1 ⟨rfl, hs1⟩
  go_wp2_with fail
  go_end0
  rw [HP.out]
  exact ⟨rfl, HB.out.trans hs1⟩
set_option maxRecDepth 100000 in
set_option maxHeartbeats 1600000 in
theorem atom_pat (w0 : World) (wb : Nat) (nv : Value) (t : RX) (f : Nat → Value) (X : Nat → Prop) (T : List UInt8) (hw : w0.heap.size ≤ wb) (hx : XI w0 X t f) (hk : t.kind ≠ 2) (h : WrOK 14 w0 wb nv f T) : WrOK 44 w0 wb nv f (40 :: (T ++ [41])) := by
  intro w out hW hb0 hl
  cases hx with
  | mk ao cap G f0 f1 f2 f3 f4 f5 hc hw' hlie hr =>
  rename_i k r lo hi z s
  obtain ⟨a1, c1, e1, _⟩ := f1.shape
  have exa : xa f = .agg #[.int .i64 k, .slice a1 r.length c1, .int .i64 lo, .int .i64 hi, .bool z, .slice ao s.length cap] := by unfold xa; rw [f0, e1, f2, f3, f4, f5]
  have hk2 : (k == 2) = false := by simpa [RX.kind] using hk
  obtain ⟨P, hP⟩ : ∃ P : Ending → World → Prop, P = fun r w' => r = .returned (.tuple #[]) ∧ SW wb nv (out ++ 40 :: (T ++ [41])) w w' := ⟨_, rfl⟩
  rw [← hP]
  have HP := hid_intro hP
  have HB := hid_intro (sw_box hW (.cells #[.int .i64 k, .slice a1 r.length c1, .int .i64 lo, .int .i64 hi, .bool z, .slice ao s.length cap] 26))
  have hl' : out.length + (T.length + 2) ≤ 70368744177664 := by simpa using hl
  have H1 := hid_intro (puts wb nv out [40] _ HB.out.ws (by simp; omega))
  have HBX := hid_intro (BX6.new w k a1 r.length c1 lo hi z ao s.length cap)
  have hne : w.heap.size ≠ wb := Nat.ne_of_gt hW.lt
  have H2 : Hid (∀ w1, SW wb nv (out ++ [40]) w w1 → Calls Tryz.prog 14 #[.pointer (some ⟨wb, 0, none⟩), xa f] w1 fun r w' => r = .returned (.tuple #[]) ∧ SW wb nv (out ++ [40] ++ T) w1 w') := hid_intro (fun w1 hs => h w1 _ hs.ws (hs.base hb0 hw) (by simp; omega))
  have H3 : Hid (∀ w1, SW wb nv (out ++ [40] ++ T) w w1 → Calls Tryz.prog 22 #[.pointer (some ⟨wb, 0, none⟩), .string ⟨#[41]⟩] w1 fun r w' => r = .returned (.tuple #[]) ∧ SW wb nv (out ++ [40] ++ T ++ [41]) w1 w') := hid_intro (fun w1 hs => puts wb nv _ [41] w1 hs.ws (by simp; omega))
  have HE : Hid (out ++ 40 :: (T ++ [41]) = out ++ [40] ++ T ++ [41]) := hid_intro (by simp)
  rw [exa] at H2 ⊢
  clear hP hW hb0 hl hl' h hr hlie f0 f1 f2 f3 f4 f5 e1 exa hc hw' hk
  go_enter Tryz.func44, Tryz.ntmps44
  go_wp2_with fail
  refine H1.out.mono ?_; rintro r' w1 ⟨rfl, hs1⟩
  have S1 := hid_intro (HB.out.trans hs1)
  obtain ⟨x0, x1, x2, x3, x4, x5⟩ := (HBX.out.sw hs1 hne).bk.c6
  clear hs1
  go_wp2_with fail
  refine (H2.out w1 S1.out).mono ?_; rintro r' w2 ⟨rfl, hs2⟩
  have S2 := hid_intro (S1.out.trans hs2)
  clear hs2 x0 x1 x2 x3 x4 x5
  go_wp2_with fail
  refine (H3.out w2 S2.out).mono ?_; rintro r' w3 ⟨rfl, hs3⟩
  go_wp2_with fail
  go_end0
  rw [HP.out, HE.out]
  exact ⟨rfl, S2.out.trans hs3⟩
set_option maxRecDepth 100000 in
set_option maxHeartbeats 1600000 in
theorem atom_set (w0 : World) (wb : Nat) (nv : Value) (n : List (List UInt8 × List (Int × Int))) (t : RX) (f : Nat → Value) (X : Nat → Prop) (r : List (Int × Int)) (s : List RX) (lo hi : Int) (z : Bool) (hw : w0.heap.size ≤ wb) (ht : t = .mk 2 r lo hi z s) (hx : XI w0 X t f) (hT : TX w0) (hN : NS w0 n nv) (hok : ∀ x ∈ r, okR x) (hlr : r.length ≤ 1073741823) : WrOK 44 w0 wb nv f (setL n r) := by
  subst ht
  intro w out hW hb0 hl
  cases hx with
  | mk ao cap G f0 f1 f2 f3 f4 f5 hc hw' hlie hr =>
  obtain ⟨a1, c1, e1, _⟩ := f1.shape
  have exa : xa f = .agg #[.int .i64 2, .slice a1 r.length c1, .int .i64 lo, .int .i64 hi, .bool z, .slice ao s.length cap] := by unfold xa; rw [f0, e1, f2, f3, f4, f5]
  obtain ⟨P, hP⟩ : ∃ P : Ending → World → Prop, P = fun r' w' => r' = .returned (.tuple #[]) ∧ SW wb nv (out ++ setL n r) w w' := ⟨_, rfl⟩
  rw [← hP]
  have HP := hid_intro hP
  have HB := hid_intro (sw_box hW (.cells #[.int .i64 2, .slice a1 r.length c1, .int .i64 lo, .int .i64 hi, .bool z, .slice ao s.length cap] 26))
  have hb1 := HB.out.base hb0 hw
  have H1 := hid_intro (set_any n nv wb r (f 1) _ X (hT.below hb1) (f1.kept hb1) (hN.kept hb1) HB.out.ws.named hok hlr)
  have H2 : Hid (∀ w1, Below (w.alloc (.cells #[.int .i64 2, .slice a1 r.length c1, .int .i64 lo, .int .i64 hi, .bool z, .slice ao s.length cap] 26)).heap.size (w.alloc (.cells #[.int .i64 2, .slice a1 r.length c1, .int .i64 lo, .int .i64 hi, .bool z, .slice ao s.length cap] 26)) w1 → Calls Tryz.prog 22 #[.pointer (some ⟨wb, 0, none⟩), .string (bsx (setL n r))] w1 fun r' w' => r' = .returned (.tuple #[]) ∧ SW wb nv (out ++ setL n r) w w') := hid_intro (fun w1 hb => (puts wb nv out (setL n r) w1 (HB.out.ws.below hb) hl).mono fun _ _ h => ⟨h.1, (HB.out.on hb).trans h.2⟩)
  rw [e1] at H1
  rw [exa]
  clear hP hW hb0 hl hr hlie f0 f1 f2 f3 f4 f5 e1 exa hc hw' hb1 hT hN hok hlr
  generalize setL n r = T at *
  go_enter Tryz.func44, Tryz.ntmps44
  go_wp2_with fail
  refine H1.out.mono ?_; rintro r' w1 ⟨rfl, hb1⟩
  have H3 := hid_intro (H2.out w1 hb1)
  clear hb1
  go_wp2_with fail
  refine H3.out.mono ?_; rintro r' w2 ⟨rfl, hs2⟩
  go_wp2_with fail
  go_end0
  rw [HP.out]
  exact ⟨rfl, hs2⟩
end Go.Proofs.YtppilokmgdpnnaaGreatDoor
