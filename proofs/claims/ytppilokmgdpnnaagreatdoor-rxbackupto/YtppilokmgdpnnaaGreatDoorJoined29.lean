/-
  What the writer's methods write of a sign, a repeat, a row and a choice. Conditions: as FI's.
-/
import Derived.Test.YtppilokmgdpnnaaGreatDoorJoined28
namespace Go.Proofs.YtppilokmgdpnnaaGreatDoor
open Go.RowKit Go.Sort
attribute [local go_sem] setCell_drewN alloc_drewN

set_option maxRecDepth 100000 in
set_option maxHeartbeats 800000 in
theorem term_6 (w0 : World) (wb : Nat) (nv : Value) (f : Nat → Value) (X : Nat → Prop) (r : List (Int × Int)) (s : List RX) (lo hi : Int) (z : Bool) (hx : XI w0 X (.mk 6 r lo hi z s) f) : WrOK 35 w0 wb nv f [94] := by
  intro w out hW hb0 hl
  cases hx with
  | mk ao cap G f0 f1 f2 f3 f4 f5 hc hw' hlie hr =>
  obtain ⟨a1, c1, e1, _⟩ := f1.shape
  have exa : xa f = .agg #[.int .i64 6, .slice a1 r.length c1, .int .i64 lo, .int .i64 hi, .bool z, .slice ao s.length cap] := by unfold xa; rw [f0, e1, f2, f3, f4, f5]
  obtain ⟨P, hP⟩ : ∃ P : Ending → World → Prop, P = fun r' w' => r' = .returned (.tuple #[]) ∧ SW wb nv (out ++ [94]) w w' := ⟨_, rfl⟩
  rw [← hP]
  have HP := hid_intro hP
  have HB := hid_intro (sw_box hW (.cells #[.int .i64 6, .slice a1 r.length c1, .int .i64 lo, .int .i64 hi, .bool z, .slice ao s.length cap] 26))
  have H1 := hid_intro (puts wb nv out [94] _ HB.out.ws hl)
  rw [exa]
  clear hP hW hb0 hl hr hlie f0 f1 f2 f3 f4 f5 e1 exa hc hw'
  go_enter Tryz.func35, Tryz.ntmps35
  go_wp2_with fail
  refine H1.out.mono ?_; rintro r' w1 ⟨rfl, hs1⟩
  go_wp2_with fail
  go_end0
  rw [HP.out]
  exact ⟨rfl, HB.out.trans hs1⟩
set_option maxRecDepth 100000 in
set_option maxHeartbeats 800000 in
theorem term_7 (w0 : World) (wb : Nat) (nv : Value) (f : Nat → Value) (X : Nat → Prop) (r : List (Int × Int)) (s : List RX) (lo hi : Int) (z : Bool) (hx : XI w0 X (.mk 7 r lo hi z s) f) : WrOK 35 w0 wb nv f [36] := by
  intro w out hW hb0 hl
  cases hx with
  | mk ao cap G f0 f1 f2 f3 f4 f5 hc hw' hlie hr =>
  obtain ⟨a1, c1, e1, _⟩ := f1.shape
  have exa : xa f = .agg #[.int .i64 7, .slice a1 r.length c1, .int .i64 lo, .int .i64 hi, .bool z, .slice ao s.length cap] := by unfold xa; rw [f0, e1, f2, f3, f4, f5]
  obtain ⟨P, hP⟩ : ∃ P : Ending → World → Prop, P = fun r' w' => r' = .returned (.tuple #[]) ∧ SW wb nv (out ++ [36]) w w' := ⟨_, rfl⟩
  rw [← hP]
  have HP := hid_intro hP
  have HB := hid_intro (sw_box hW (.cells #[.int .i64 7, .slice a1 r.length c1, .int .i64 lo, .int .i64 hi, .bool z, .slice ao s.length cap] 26))
  have H1 := hid_intro (puts wb nv out [36] _ HB.out.ws hl)
  rw [exa]
  clear hP hW hb0 hl hr hlie f0 f1 f2 f3 f4 f5 e1 exa hc hw'
  go_enter Tryz.func35, Tryz.ntmps35
  go_wp2_with fail
  refine H1.out.mono ?_; rintro r' w1 ⟨rfl, hs1⟩
  go_wp2_with fail
  go_end0
  rw [HP.out]
  exact ⟨rfl, HB.out.trans hs1⟩
set_option maxRecDepth 100000 in
set_option maxHeartbeats 800000 in
theorem term_8 (w0 : World) (wb : Nat) (nv : Value) (f : Nat → Value) (X : Nat → Prop) (r : List (Int × Int)) (s : List RX) (lo hi : Int) (z : Bool) (hx : XI w0 X (.mk 8 r lo hi z s) f) : WrOK 35 w0 wb nv f [92, 98] := by
  intro w out hW hb0 hl
  cases hx with
  | mk ao cap G f0 f1 f2 f3 f4 f5 hc hw' hlie hr =>
  obtain ⟨a1, c1, e1, _⟩ := f1.shape
  have exa : xa f = .agg #[.int .i64 8, .slice a1 r.length c1, .int .i64 lo, .int .i64 hi, .bool z, .slice ao s.length cap] := by unfold xa; rw [f0, e1, f2, f3, f4, f5]
  obtain ⟨P, hP⟩ : ∃ P : Ending → World → Prop, P = fun r' w' => r' = .returned (.tuple #[]) ∧ SW wb nv (out ++ [92, 98]) w w' := ⟨_, rfl⟩
  rw [← hP]
  have HP := hid_intro hP
  have HB := hid_intro (sw_box hW (.cells #[.int .i64 8, .slice a1 r.length c1, .int .i64 lo, .int .i64 hi, .bool z, .slice ao s.length cap] 26))
  have H1 := hid_intro (puts wb nv out [92, 98] _ HB.out.ws hl)
  rw [exa]
  clear hP hW hb0 hl hr hlie f0 f1 f2 f3 f4 f5 e1 exa hc hw'
  go_enter Tryz.func35, Tryz.ntmps35
  go_wp2_with fail
  refine H1.out.mono ?_; rintro r' w1 ⟨rfl, hs1⟩
  go_wp2_with fail
  go_end0
  rw [HP.out]
  exact ⟨rfl, HB.out.trans hs1⟩
set_option maxRecDepth 100000 in
set_option maxHeartbeats 800000 in
theorem term_9 (w0 : World) (wb : Nat) (nv : Value) (f : Nat → Value) (X : Nat → Prop) (r : List (Int × Int)) (s : List RX) (lo hi : Int) (z : Bool) (hx : XI w0 X (.mk 9 r lo hi z s) f) : WrOK 35 w0 wb nv f [92, 66] := by
  intro w out hW hb0 hl
  cases hx with
  | mk ao cap G f0 f1 f2 f3 f4 f5 hc hw' hlie hr =>
  obtain ⟨a1, c1, e1, _⟩ := f1.shape
  have exa : xa f = .agg #[.int .i64 9, .slice a1 r.length c1, .int .i64 lo, .int .i64 hi, .bool z, .slice ao s.length cap] := by unfold xa; rw [f0, e1, f2, f3, f4, f5]
  obtain ⟨P, hP⟩ : ∃ P : Ending → World → Prop, P = fun r' w' => r' = .returned (.tuple #[]) ∧ SW wb nv (out ++ [92, 66]) w w' := ⟨_, rfl⟩
  rw [← hP]
  have HP := hid_intro hP
  have HB := hid_intro (sw_box hW (.cells #[.int .i64 9, .slice a1 r.length c1, .int .i64 lo, .int .i64 hi, .bool z, .slice ao s.length cap] 26))
  have H1 := hid_intro (puts wb nv out [92, 66] _ HB.out.ws hl)
  rw [exa]
  clear hP hW hb0 hl hr hlie f0 f1 f2 f3 f4 f5 e1 exa hc hw'
  go_enter Tryz.func35, Tryz.ntmps35
  go_wp2_with fail
  refine H1.out.mono ?_; rintro r' w1 ⟨rfl, hs1⟩
  go_wp2_with fail
  go_end0
  rw [HP.out]
  exact ⟨rfl, HB.out.trans hs1⟩
set_option maxRecDepth 100000 in
set_option maxHeartbeats 800000 in
theorem row_empty (w0 : World) (wb : Nat) (nv : Value) (f : Nat → Value) (X : Nat → Prop) (r : List (Int × Int)) (s : List RX) (lo hi : Int) (z : Bool) (hx : XI w0 X (.mk 1 r lo hi z s) f) : WrOK 21 w0 wb nv f [] := by
  intro w out hW hb0 hl
  cases hx with
  | mk ao cap G f0 f1 f2 f3 f4 f5 hc hw' hlie hr =>
  obtain ⟨a1, c1, e1, _⟩ := f1.shape
  have exa : xa f = .agg #[.int .i64 1, .slice a1 r.length c1, .int .i64 lo, .int .i64 hi, .bool z, .slice ao s.length cap] := by unfold xa; rw [f0, e1, f2, f3, f4, f5]
  obtain ⟨P, hP⟩ : ∃ P : Ending → World → Prop, P = fun r' w' => r' = .returned (.tuple #[]) ∧ SW wb nv (out ++ []) w w' := ⟨_, rfl⟩
  rw [← hP]
  have HP := hid_intro hP
  have HB := hid_intro (sw_box hW (.cells #[.int .i64 1, .slice a1 r.length c1, .int .i64 lo, .int .i64 hi, .bool z, .slice ao s.length cap] 26))
  rw [exa]
  clear hP hW hb0 hl hr hlie f0 f1 f2 f3 f4 f5 e1 exa hc hw'
  go_enter Tryz.func21, Tryz.ntmps21
  go_wp2_with fail
  go_end0
  rw [HP.out, List.append_nil]
  exact ⟨rfl, HB.out⟩
set_option maxRecDepth 100000 in
set_option maxHeartbeats 1600000 in
theorem term_repeat (w0 : World) (wb : Nat) (nv : Value) (f : Nat → Value) (X : Nat → Prop) (r : List (Int × Int)) (x : RX) (lo hi : Int) (z : Bool) (hw : w0.heap.size ≤ wb) (hx : XI w0 X (.mk 5 r lo hi z [x]) f) (hT : TX w0) (hlo : 0 ≤ lo ∧ lo ≤ 1000) (hhi : hi = -1 ∨ (lo ≤ hi ∧ hi ≤ 1000)) (T : List UInt8)
    (h : ∀ g, XI w0 X x g → WrOK 44 w0 wb nv g T) : WrOK 35 w0 wb nv f (T ++ countT lo hi z) := by
  intro w out hW hb0 hl
  cases hx with
  | mk ao cap G f0 f1 f2 f3 f4 f5 hc hw' hlie hr =>
  obtain ⟨a1, c1, e1, _⟩ := f1.shape
  have exa : xa f = .agg #[.int .i64 5, .slice a1 r.length c1, .int .i64 lo, .int .i64 hi, .bool z, .slice ao 1 cap] := by unfold xa; rw [f0, e1, f2, f3, f4, f5]; rfl
  rcases hlie with hlie | ⟨b, off, rfl, hXb, hcell⟩
  · simp at hlie
  have hx0 := hr 0 (by simp)
  simp only [List.getElem_cons_zero] at hx0
  have HA := hid_intro (h (G 0) hx0)
  obtain ⟨P, hP⟩ : ∃ P : Ending → World → Prop, P = fun r' w' => r' = .returned (.tuple #[]) ∧ SW wb nv (out ++ (T ++ countT lo hi z)) w w' := ⟨_, rfl⟩
  rw [← hP]
  have HP := hid_intro hP
  have HB := hid_intro (sw_box hW (.cells #[.int .i64 5, .slice a1 r.length c1, .int .i64 lo, .int .i64 hi, .bool z, .slice (some ⟨b, off, none⟩) 1 cap] 26))
  have hb1 := HB.out.base hb0 hw
  rw [List.length_append] at hl
  have g : ∀ j, j < 6 → (w.alloc (.cells #[.int .i64 5, .slice a1 r.length c1, .int .i64 lo, .int .i64 hi, .bool z, .slice (some ⟨b, off, none⟩) 1 cap] 26)).cell? ⟨b, off + j, none⟩ = some (G 0 j) := fun j hj => by
    have := hcell 0 (by simp) j hj
    rw [Nat.zero_mul, Nat.add_zero] at this
    exact bcell this hb1
  have g0 := g 0 (by omega)
  have g1 := g 1 (by omega)
  have g2 := g 2 (by omega)
  have g3 := g 3 (by omega)
  have g4 := g 4 (by omega)
  have g5 := g 5 (by omega)
  rw [Nat.add_zero] at g0
  have H1 := hid_intro (HA.out _ out HB.out.ws hb1 (by omega))
  obtain ⟨q0, q1, q2, q3, q4, q5, q6, q7, q8, q9, d0, d1, d2, d3, d4, d5⟩ := hx0.six
  unfold xa at H1
  rw [d0] at g0 H1
  rw [d1] at g1 H1
  rw [d2] at g2 H1
  rw [d3] at g3 H1
  rw [d4] at g4 H1
  rw [d5] at g5 H1
  have hne : w.heap.size ≠ wb := Nat.ne_of_gt hW.lt
  have HBX := hid_intro (BX6.new w 5 a1 r.length c1 lo hi z (some ⟨b, off, none⟩) 1 cap)
  have H2 : Hid (∀ w1, SW wb nv (out ++ T) w w1 → Calls Tryz.prog 45 #[.agg #[.int .i64 5, .slice a1 r.length c1, .int .i64 lo, .int .i64 hi, .bool z, .slice (some ⟨b, off, none⟩) 1 cap]] w1 fun r' w' => r' = .returned (.string (bsx (countT lo hi z))) ∧ Below w1.heap.size w1 w') := hid_intro (fun w1 hs => countT_any 5 a1 _ r.length c1 1 cap lo hi z w1 (hT.below (hs.base hb0 hw)) hlo hhi)
  have H3 : Hid (∀ w1, SW wb nv (out ++ T) w w1 → Calls Tryz.prog 22 #[.pointer (some ⟨wb, 0, none⟩), .string (bsx (countT lo hi z))] w1 fun r' w' => r' = .returned (.tuple #[]) ∧ SW wb nv (out ++ T ++ countT lo hi z) w1 w') := hid_intro (fun w1 hs => puts wb nv _ _ w1 hs.ws (by rw [List.length_append]; omega))
  have HE : Hid (out ++ (T ++ countT lo hi z) = out ++ T ++ countT lo hi z) := hid_intro (by simp)
  rw [exa]
  clear hP hW hb0 hl hr f0 f1 f2 f3 f4 f5 e1 exa hc hw' hb1 hT hlo hhi g d0 d1 d2 d3 d4 d5 hcell HA hx0
  generalize countT lo hi z = C at *
  go_enter Tryz.func35, Tryz.ntmps35
  go_wp2_with fail
  refine H1.out.mono ?_; rintro r' w1 ⟨rfl, hs1⟩
  have S1 := hid_intro (HB.out.trans hs1)
  obtain ⟨x0, x1, x2, x3, x4, x5⟩ := (HBX.out.sw hs1 hne).bk.c6
  clear hs1 g0 g1 g2 g3 g4 g5
  go_wp2_with fail
  refine (H2.out w1 S1.out).mono ?_; rintro r' w2 ⟨rfl, hb2⟩
  have S2 := hid_intro (S1.out.on hb2)
  clear hb2 x0 x1 x2 x3 x4 x5
  go_wp2_with fail
  refine (H3.out w2 S2.out).mono ?_; rintro r' w3 ⟨rfl, hs3⟩
  go_wp2_with fail
  go_end0
  rw [HP.out, HE.out]
  exact ⟨rfl, S2.out.trans hs3⟩
theorem flat_take (s : List RX) (F : RX → List UInt8) (j : Nat) (h : j < s.length) : ((s.take (j + 1)).map F).flatten = ((s.take j).map F).flatten ++ F s[j] := by
  rw [List.take_succ_eq_append_getElem h, List.map_append, List.flatten_append]; simp only [List.map_cons, List.map_nil, List.flatten_cons, List.flatten_nil, List.append_nil]
theorem flat_le (s : List RX) (F : RX → List UInt8) (j : Nat) (h : j < s.length) : ((s.take j).map F).flatten.length + (F s[j]).length ≤ (s.map F).flatten.length := by
  have e : (s.map F).flatten = ((s.take (j + 1)).map F).flatten ++ ((s.drop (j + 1)).map F).flatten := by rw [← List.flatten_append, ← List.map_append, List.take_append_drop]
  rw [e, flat_take s F j h, List.length_append, List.length_append]; omega
set_option maxRecDepth 100000 in
set_option maxHeartbeats 3200000 in
theorem row_seq (w0 : World) (wb : Nat) (nv : Value) (f : Nat → Value) (X : Nat → Prop) (r : List (Int × Int)) (s : List RX) (lo hi : Int) (z : Bool) (hw : w0.heap.size ≤ wb) (hx : XI w0 X (.mk 3 r lo hi z s) f) (F : RX → List UInt8)
    (h : ∀ x ∈ s, ∀ g, XI w0 X x g → WrOK 35 w0 wb nv g (F x)) : WrOK 21 w0 wb nv f (s.map F).flatten := by
  intro w out hW hb0 hl
  cases hx with
  | mk ao cap G f0 f1 f2 f3 f4 f5 hc hw' hlie hr =>
  obtain ⟨a1, c1, e1, _⟩ := f1.shape
  have exa : xa f = .agg #[.int .i64 3, .slice a1 r.length c1, .int .i64 lo, .int .i64 hi, .bool z, .slice ao s.length cap] := by unfold xa; rw [f0, e1, f2, f3, f4, f5]
  obtain ⟨P, hP⟩ : ∃ P : Ending → World → Prop, P = fun r' w' => r' = .returned (.tuple #[]) ∧ SW wb nv (out ++ (s.map F).flatten) w w' := ⟨_, rfl⟩
  rw [← hP]
  have HP := hid_intro hP
  have HB := hid_intro (sw_box hW (.cells #[.int .i64 3, .slice a1 r.length c1, .int .i64 lo, .int .i64 hi, .bool z, .slice ao s.length cap] 26))
  have hlI : (s.length : Int) ≤ 9223372036854775807 := by have := hc.1; have := hc.2; unfold maxLen at this; omega
  have HL : Hid (∀ w', Below w0.heap.size w0 w' → (s = [] ∨ ∃ b off, ao = some ⟨b, off, none⟩ ∧ ∀ i, i < s.length → ∀ j, j < 6 → w'.cell? ⟨b, off + i * 6 + j, none⟩ = some (G i j))) := hid_intro (fun w' hb => by
    rcases hlie with hl | ⟨b, off, h1, _, h3⟩
    · exact .inl hl
    · exact .inr ⟨b, off, h1, fun i hi j hj => bcell (h3 i hi j hj) hb⟩)
  have HI : Hid (∀ w1 j (hj : j < s.length), SW wb nv (out ++ ((s.take j).map F).flatten) w w1 → Calls Tryz.prog 35 #[.pointer (some ⟨wb, 0, none⟩), .agg #[G j 0, G j 1, G j 2, G j 3, G j 4, G j 5]] w1 fun r' w' => r' = .returned (.tuple #[]) ∧ SW wb nv (out ++ ((s.take (j + 1)).map F).flatten) w1 w') := hid_intro (fun w1 j hj hs => by
    have := h s[j] (List.getElem_mem hj) (G j) (hr j hj) w1 _ hs.ws (hs.base hb0 hw) (by rw [List.length_append]; have := flat_le s F j hj; omega)
    rw [flat_take s F j hj, ← List.append_assoc]
    exact this)
  have HBase : Hid (∀ w1 o, SW wb nv o w w1 → Below w0.heap.size w0 w1) := hid_intro (fun w1 o hs => hs.base hb0 hw)
  have HSix := hid_intro (fun i h => (hr i h).six)
  rw [exa]
  clear hP hW hb0 hl hr hlie f0 f1 f2 f3 f4 f5 e1 exa hc hw' h
  go_enter Tryz.func21, Tryz.ntmps21
  go_wp2_with fail
  go_loopg [18] s.length (fun me s18 wr => ∃ j : Nat, j ≤ s.length ∧ me = s.length - j ∧ s18 = .int .i64 (j : Int) ∧ Hid (SW wb nv (out ++ ((s.take j).map F).flatten) w wr))
  case atStart => exact ⟨0, Nat.zero_le _, rfl, rfl, hid_intro (by simpa using HB.out)⟩
  case round =>
    obtain ⟨j, hj, rfl, rfl, HZ⟩ := hrel
    by_cases hlt : j < s.length
    · have hJ : (j : Int) < (s.length : Int) := by omega
      obtain ⟨b, off, rfl, h3⟩ := (HL.out wr (HBase.out wr _ HZ.out)).resolve_left (fun e => by rw [e] at hlt; exact absurd hlt (by simp))
      have g0 : wr.cell? ⟨b, off + j * 6, none⟩ = some (G j 0) := h3 j hlt 0 (by omega)
      have g1 := h3 j hlt 1 (by omega)
      have g2 := h3 j hlt 2 (by omega)
      have g3 := h3 j hlt 3 (by omega)
      have g4 := h3 j hlt 4 (by omega)
      have g5 := h3 j hlt 5 (by omega)
      have HC := hid_intro (fun w' (hb : SW wb nv (out ++ ((s.take j).map F).flatten) w w') => HI.out w' j hlt hb)
      obtain ⟨x0, x1, x2, x3, x4, x5, x6, x7, x8, x9, e0, e1, e2, e3, e4, e5⟩ := HSix.out j hlt
      rw [e0] at g0 HC
      rw [e1] at g1 HC
      rw [e2] at g2 HC
      rw [e3] at g3 HC
      rw [e4] at g4 HC
      rw [e5] at g5 HC
      have HS := hid_intro (HZ.out.on (vb_a (Below.refl _ _) (.cells #[.int .i64 x0, .slice x1 x2 x3, .int .i64 x4, .int .i64 x5, .bool x6, .slice x7 x8 x9] 26)))
      have HC2 := hid_intro (HC.out _ HS.out)
      clear e0 e1 e2 e3 e4 e5 HSix HL HI h3 HC
      go_wp2_with fail
      refine HC2.out.mono ?_; rintro r' w3 ⟨rfl, hs3⟩
      have HN := hid_intro (HS.out.trans hs3)
      clear hs3 g0 g1 g2 g3 g4 g5
      go_wp2_with fail
      go_roundg (s.length - (j + 1))
      case measure => omega
      case rel => exact ⟨j + 1, by omega, rfl, by simp, HN⟩
    · have hJ : ¬ (j : Int) < (s.length : Int) := by omega
      have HE : Hid (s.take j = s) := hid_intro (List.take_of_length_le (by omega))
      clear HL HI HSix
      go_wp2_with fail
      go_end0
      rw [HP.out]
      have := HZ.out
      rw [HE.out] at this
      exact ⟨rfl, this⟩
/-- A choice's bytes, as far as it has come. -/
def altB (s : List RX) (F : RX → List UInt8) : List UInt8 := match s with
  | [] => []
  | x :: xs => F x ++ (xs.map fun y => 124 :: F y).flatten
theorem altB_take (s : List RX) (F : RX → List UInt8) (j : Nat) (h : j < s.length) : altB (s.take (j + 1)) F = altB (s.take j) F ++ (if j = 0 then [] else [124]) ++ F s[j] := by
  cases s with
  | nil => simp at h
  | cons x xs =>
    cases j with
    | zero => simp [altB]
    | succ j =>
      have hj : j < xs.length := by simpa using h
      have e : ∀ i, altB ((x :: xs).take (i + 1)) F = F x ++ ((xs.take i).map fun y => 124 :: F y).flatten := fun i => by rw [List.take_succ_cons]; rfl
      rw [e, e, flat_take xs (fun y => 124 :: F y) j hj]
      simp
theorem altB_le (s : List RX) (F : RX → List UInt8) (j : Nat) (h : j < s.length) : (altB (s.take j) F).length + ((if j = 0 then [] else [124] : List UInt8)).length + (F s[j]).length ≤ (altB s F).length := by
  have key : ∀ i, i ≤ s.length → (altB (s.take i) F).length ≤ (altB s F).length := fun i hi => by
    cases s with
    | nil => simp
    | cons x xs =>
      cases i with
      | zero => simp [altB]
      | succ i =>
        have e : altB ((x :: xs).take (i + 1)) F = F x ++ ((xs.take i).map fun y => 124 :: F y).flatten := by rw [List.take_succ_cons]; rfl
        have e2 : altB (x :: xs) F = F x ++ ((xs.take i).map fun y => 124 :: F y).flatten ++ ((xs.drop i).map fun y => 124 :: F y).flatten := by
          show F x ++ (xs.map fun y => 124 :: F y).flatten = _
          rw [List.append_assoc, ← List.flatten_append, ← List.map_append, List.take_append_drop]
        rw [e, e2, List.length_append, List.length_append, List.length_append]; omega
  have := key (j + 1) (by omega)
  rw [altB_take s F j h, List.length_append, List.length_append] at this
  exact this
set_option maxRecDepth 100000 in
set_option maxHeartbeats 3200000 in
theorem pattern_alt (w0 : World) (wb : Nat) (nv : Value) (f : Nat → Value) (X : Nat → Prop) (r : List (Int × Int)) (s : List RX) (lo hi : Int) (z : Bool) (hw : w0.heap.size ≤ wb) (hx : XI w0 X (.mk 4 r lo hi z s) f) (F : RX → List UInt8)
    (h : ∀ x ∈ s, ∀ g, XI w0 X x g → WrOK 21 w0 wb nv g (F x)) : WrOK 14 w0 wb nv f (altB s F) := by
  intro w out hW hb0 hl
  cases hx with
  | mk ao cap G f0 f1 f2 f3 f4 f5 hc hw' hlie hr =>
  obtain ⟨a1, c1, e1, _⟩ := f1.shape
  have exa : xa f = .agg #[.int .i64 4, .slice a1 r.length c1, .int .i64 lo, .int .i64 hi, .bool z, .slice ao s.length cap] := by unfold xa; rw [f0, e1, f2, f3, f4, f5]
  obtain ⟨P, hP⟩ : ∃ P : Ending → World → Prop, P = fun r' w' => r' = .returned (.tuple #[]) ∧ SW wb nv (out ++ altB s F) w w' := ⟨_, rfl⟩
  rw [← hP]
  have HP := hid_intro hP
  have HB := hid_intro (sw_box hW (.cells #[.int .i64 4, .slice a1 r.length c1, .int .i64 lo, .int .i64 hi, .bool z, .slice ao s.length cap] 26))
  have hlI : (s.length : Int) ≤ 9223372036854775807 := by have := hc.1; have := hc.2; unfold maxLen at this; omega
  have HL : Hid (∀ w', Below w0.heap.size w0 w' → (s = [] ∨ ∃ b off, ao = some ⟨b, off, none⟩ ∧ ∀ i, i < s.length → ∀ j, j < 6 → w'.cell? ⟨b, off + i * 6 + j, none⟩ = some (G i j))) := hid_intro (fun w' hb => by
    rcases hlie with hl | ⟨b, off, h1, _, h3⟩
    · exact .inl hl
    · exact .inr ⟨b, off, h1, fun i hi j hj => bcell (h3 i hi j hj) hb⟩)
  have HI : Hid (∀ w1 j (hj : j < s.length), SW wb nv (out ++ altB (s.take j) F ++ (if j = 0 then [] else [124])) w w1 → Calls Tryz.prog 21 #[.pointer (some ⟨wb, 0, none⟩), .agg #[G j 0, G j 1, G j 2, G j 3, G j 4, G j 5]] w1 fun r' w' => r' = .returned (.tuple #[]) ∧ SW wb nv (out ++ altB (s.take (j + 1)) F) w1 w') := hid_intro (fun w1 j hj hs => by
    have := h s[j] (List.getElem_mem hj) (G j) (hr j hj) w1 _ hs.ws (hs.base hb0 hw) (by rw [List.length_append, List.length_append]; have := altB_le s F j hj; omega)
    rw [altB_take s F j hj, ← List.append_assoc, ← List.append_assoc]
    exact this)
  have HBar : Hid (∀ w1 j, 0 < j → j < s.length → SW wb nv (out ++ altB (s.take j) F) w w1 → Calls Tryz.prog 22 #[.pointer (some ⟨wb, 0, none⟩), .string ⟨#[124]⟩] w1 fun r' w' => r' = .returned (.tuple #[]) ∧ SW wb nv (out ++ altB (s.take j) F ++ (if j = 0 then [] else [124])) w1 w') := hid_intro (fun w1 j h0 hj hs => by
    rw [if_neg (by omega)]
    exact puts wb nv _ [124] w1 hs.ws (by have := altB_le s F j hj; rw [if_neg (by omega)] at this; rw [List.length_append]; simp at this ⊢; omega))
  have HBase : Hid (∀ w1 o, SW wb nv o w w1 → Below w0.heap.size w0 w1) := hid_intro (fun w1 o hs => hs.base hb0 hw)
  have HSix := hid_intro (fun i h => (hr i h).six)
  rw [exa]
  clear hP hW hb0 hl hr hlie f0 f1 f2 f3 f4 f5 e1 exa hc hw' h
  go_enter Tryz.func14, Tryz.ntmps14
  go_wp2_with fail
  go_loopg [15] s.length (fun me s15 wr => ∃ j : Nat, j ≤ s.length ∧ me = s.length - j ∧ s15 = .int .i64 (j : Int) ∧ Hid (SW wb nv (out ++ altB (s.take j) F) w wr))
  case atStart => exact ⟨0, Nat.zero_le _, rfl, rfl, hid_intro (by simpa [altB] using HB.out)⟩
  case round =>
    obtain ⟨j, hj, rfl, rfl, HZ⟩ := hrel
    by_cases hlt : j < s.length
    · have hJ : (j : Int) < (s.length : Int) := by omega
      obtain ⟨b, off, rfl, h3⟩ := (HL.out wr (HBase.out wr _ HZ.out)).resolve_left (fun e => by rw [e] at hlt; exact absurd hlt (by simp))
      have g0 : wr.cell? ⟨b, off + j * 6, none⟩ = some (G j 0) := h3 j hlt 0 (by omega)
      have g1 := h3 j hlt 1 (by omega)
      have g2 := h3 j hlt 2 (by omega)
      have g3 := h3 j hlt 3 (by omega)
      have g4 := h3 j hlt 4 (by omega)
      have g5 := h3 j hlt 5 (by omega)
      have HC := hid_intro (fun w' (hb : SW wb nv (out ++ altB (s.take j) F ++ (if j = 0 then [] else [124])) w w') => HI.out w' j hlt hb)
      obtain ⟨x0, x1, x2, x3, x4, x5, x6, x7, x8, x9, e0, e1, e2, e3, e4, e5⟩ := HSix.out j hlt
      rw [e0] at g0 HC
      rw [e1] at g1 HC
      rw [e2] at g2 HC
      rw [e3] at g3 HC
      rw [e4] at g4 HC
      rw [e5] at g5 HC
      have HS := hid_intro (HZ.out.on (vb_a (Below.refl _ _) (.cells #[.int .i64 x0, .slice x1 x2 x3, .int .i64 x4, .int .i64 x5, .bool x6, .slice x7 x8 x9] 26)))
      have HBX := hid_intro (BX6.new wr x0 x1 x2 x3 x4 x5 x6 x7 x8 x9)
      have HNE : Hid (wr.heap.size ≠ wb) := hid_intro (Nat.ne_of_gt HZ.out.ws.lt)
      by_cases h0 : j = 0
      · have HC2 := hid_intro (HC.out _ (by rw [if_pos h0, List.append_nil]; exact HS.out))
        have hj0 : ¬ (0 : Int) < (j : Int) := by omega
        clear e0 e1 e2 e3 e4 e5 HSix HL HI h3 HC h0
        go_wp2_with fail
        refine HC2.out.mono ?_; rintro r' w3 ⟨rfl, hs3⟩
        have HN := hid_intro (HS.out.trans hs3)
        clear hs3 g0 g1 g2 g3 g4 g5
        go_wp2_with fail
        go_roundg (s.length - (j + 1))
        case measure => omega
        case rel => exact ⟨j + 1, by omega, rfl, by simp, HN⟩
      · have hj0 : (0 : Int) < (j : Int) := by omega
        have HB2 := hid_intro (HBar.out _ j (by omega) hlt HS.out)
        clear e0 e1 e2 e3 e4 e5 HSix HL HI h3 h0
        go_wp2_with fail
        refine HB2.out.mono ?_; rintro r' w2 ⟨rfl, hs2⟩
        have S2 := hid_intro (HS.out.trans hs2)
        obtain ⟨y0, y1, y2, y3, y4, y5⟩ := (HBX.out.sw hs2 HNE.out).bk.c6
        have HC2 := hid_intro (HC.out _ S2.out)
        clear hs2 g0 g1 g2 g3 g4 g5 HC
        go_wp2_with fail
        refine HC2.out.mono ?_; rintro r' w3 ⟨rfl, hs3⟩
        have HN := hid_intro (S2.out.trans hs3)
        clear hs3 y0 y1 y2 y3 y4 y5
        go_wp2_with fail
        go_roundg (s.length - (j + 1))
        case measure => omega
        case rel => exact ⟨j + 1, by omega, rfl, by simp, HN⟩
    · have hJ : ¬ (j : Int) < (s.length : Int) := by omega
      have HE : Hid (s.take j = s) := hid_intro (List.take_of_length_le (by omega))
      clear HL HI HSix
      go_wp2_with fail
      go_end0
      rw [HP.out]
      have := HZ.out
      rw [HE.out] at this
      exact ⟨rfl, this⟩
end Go.Proofs.YtppilokmgdpnnaaGreatDoor
