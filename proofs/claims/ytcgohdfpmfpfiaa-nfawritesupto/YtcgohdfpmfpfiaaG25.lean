/-
  A part so many times, and any number of times. Conditions: there is room.
  A part any number of times. Conditions: there is room.
-/
import Derived.Test.YtcgohdfpmfpfiaaXB8
namespace Go.Proofs.Ytcgohdfpmfpfiaa
open Go.RowKit
attribute [local go_sem] setCell_drewN alloc_drewN

/-- All that is known while a count is compiled. -/
def Run (wb w : World) (lb sb cap : Nat) (y : RX) (A Bl R Pb : Nat) (fv : Value) (Z : List Nat) (L : List ST) : Prop :=
  Oft wb w lb sb cap y A Bl R Pb fv ∧ (∃ st, OSt w sb A R y L st) ∧ LZ w lb sb cap (A :: R :: Z) L
/-- The blocks that are written. -/
def four (lb sb A R : Nat) : Nat → Prop := fun b => two lb sb b ∨ b = A ∨ b = R
theorem Run.below {wb w w' : World} {lb sb cap : Nat} {y : RX} {A Bl R Pb : Nat} {fv : Value} {Z : List Nat} {L : List ST} (h : Run wb w lb sb cap y A Bl R Pb fv Z L) (hb : Below w.heap.size w w') : Run wb w' lb sb cap y A Bl R Pb fv Z L := by
  obtain ⟨h1, ⟨st, h2⟩, h3⟩ := h
  exact ⟨h1.after (But.ofBelow hb) h2.cells.1 h2.cells.2, ⟨st, h2.but (X := fun _ => False) (But.ofBelow hb) (fun h => h) (fun h => h) (fun _ _ => rfl) (Nat.le_refl _)⟩, h3.below hb⟩
theorem Run.more {wb w w' : World} {lb sb cap : Nat} {y : RX} {A Bl R Pb : Nat} {fv : Value} {Z : List Nat} {L T : List ST} (h : Run wb w lb sb cap y A Bl R Pb fv Z L) (hl : LZ w' lb sb cap (A :: R :: Z) (L ++ T)) (hb : But (two lb sb) w w') : Run wb w' lb sb cap y A Bl R Pb fv Z (L ++ T) := by
  obtain ⟨h1, ⟨st, h2⟩, h3⟩ := h
  exact ⟨h1.after hb h2.cells.1 h2.cells.2, ⟨st, h2.but hb h1.nA.1 h1.nA.2 (fun i hi => List.getElem?_append_left hi) (by simp)⟩, hl⟩
theorem run_call (wb : World) (lb sb cap : Nat) (y : RX) (hy : YOK y) (A Bl R Pb : Nat) (fv : Value) (Z : List Nat) (L : List ST) (w : World) (h : Run wb w lb sb cap y A Bl R Pb fv Z L) (hroom : L.length + szX y ≤ cap) :
    Calls Try.prog 58 #[.pointer (some ⟨A, 0, none⟩), .pointer (some ⟨Bl, 0, none⟩), .pointer (some ⟨R, 0, none⟩), .pointer (some ⟨Pb, 0, none⟩)] w fun e w' => e = .returned (.tuple #[]) ∧ Run wb w' lb sb cap y A Bl R Pb fv Z (L ++ bld y L.length) ∧ But (four lb sb A R) w w' := by
  obtain ⟨h1, ⟨st, h2⟩, h3⟩ := h
  exact (oft1_any wb lb sb cap y hy A Bl R Pb fv Z L w h1 st h2 h3 hroom).mono fun e w' ⟨q1, q2, q3, ⟨a, q4⟩, q5⟩ => ⟨q1, ⟨q3, ⟨some a, q4⟩, q2⟩, q5⟩
theorem rep_nil (g : Nat → List ST) (q : Nat) (hg : ∀ n, g n = []) : ∀ c n, rep g q n c = []
  | 0, _ => rfl
  | c + 1, n => by rw [rep, hg, rep_nil g q hg c]; rfl
set_option maxRecDepth 100000 in
set_option maxHeartbeats 3200000 in
theorem listTimes_any (wb : World) (lb sb cap : Nat) (y : RX) (hy : YOK y) (A Bl R Pb : Nat) (fv : Value) (Z : List Nat) (L : List ST) (w : World) (h : Run wb w lb sb cap y A Bl R Pb fv Z L) (n : Nat) (hn : n ≤ 1000) (hroom : L.length + n * szX y ≤ cap) :
    Calls Try.prog 48 #[.pointer (some ⟨lb, 0, none⟩), .int .i64 (n : Int), .func (.func 58) #[] #[.pointer (some ⟨A, 0, none⟩), .pointer (some ⟨Bl, 0, none⟩), .pointer (some ⟨R, 0, none⟩), .pointer (some ⟨Pb, 0, none⟩)]] w fun e w' => e = .returned (.tuple #[]) ∧ Run wb w' lb sb cap y A Bl R Pb fv Z (L ++ rep (bld y) (szX y) L.length n) ∧ But (four lb sb A R) w w' := by
  obtain ⟨P, hP⟩ : ∃ P : Ending → World → Prop, P = fun e w' => e = .returned (.tuple #[]) ∧ Run wb w' lb sb cap y A Bl R Pb fv Z (L ++ rep (bld y) (szX y) L.length n) ∧ But (four lb sb A R) w w' := ⟨_, rfl⟩
  rw [← hP]
  have HP := hid_intro hP
  clear hP
  have hcs : ∀ i, (L ++ rep (bld y) (szX y) L.length i).length = L.length + i * szX y := fun i => by rw [List.length_append, rep_len _ _ hy.len]
  have HNX : Hid (∀ w' L', LZ w' lb sb cap (A :: R :: Z) L' → Calls Try.prog 55 #[.pointer (some ⟨lb, 0, none⟩)] w' fun e w2 => e = .returned (.int .i64 (L'.length : Int)) ∧ Below w'.heap.size w' w2) := hid_intro (fun w' L' h => nextZ_any lb sb cap _ L' w' h)
  have HRC := hid_intro (fun L' w' (h : Run wb w' lb sb cap y A Bl R Pb fv Z L') hr => run_call wb lb sb cap y hy A Bl R Pb fv Z L' w' h hr)
  have HH := hid_intro h
  have HM := hid_intro (And.intro hroom (And.intro hcs (And.intro hn hy)))
  have hnI : (n : Int) ≤ 1000 := by omega
  clear h hroom hcs hn hy
  go_enter Try.func48, Try.ntmps48
  go_wp2_with fail
  go_loopg [8] n (fun m s8 wr => ∃ i : Nat, i ≤ n ∧ m = n - i ∧ s8 = .int .i64 (i : Int) ∧ Hid (Run wb wr lb sb cap y A Bl R Pb fv Z (L ++ rep (bld y) (szX y) L.length i) ∧ But (four lb sb A R) w wr))
  case atStart => exact ⟨0, Nat.zero_le _, rfl, rfl, by simpa [rep] using HH.out, But.refl _ _⟩
  case round =>
    obtain ⟨i, hi, rfl, rfl, HZ⟩ := hrel
    by_cases hlt : i < n
    · have hJ : (i : Int) < (n : Int) := by omega
      have hmul : (i + 1) * szX y ≤ n * szX y := Nat.mul_le_mul_right _ (by omega)
      rw [Nat.succ_mul] at hmul
      have hnx := HNX.out wr _ HZ.out.1.2.2
      rw [HM.out.2.1] at hnx
      obtain ⟨n1, hn1⟩ : ∃ n1 : Int, ((L.length + i * szX y : Nat) : Int) = n1 := ⟨_, rfl⟩
      obtain ⟨n2, hn2⟩ : ∃ n2 : Int, ((L.length + i * szX y + szX y : Nat) : Int) = n2 := ⟨_, rfl⟩
      rw [hn1] at hnx
      have HN12 := hid_intro (And.intro hn1 hn2)
      clear hn1 hn2
      have HML := hid_intro hmul
      clear hmul
      go_wp2_with fail
      refine hnx.mono ?_; rintro e w1 ⟨rfl, hb1⟩
      have hcall := HRC.out _ w1 (HZ.out.1.below hb1) (by rw [HM.out.2.1]; have := HM.out.1; have := HML.out; omega)
      rw [HM.out.2.1] at hcall
      have HB1 := hid_intro hb1
      clear hnx hb1
      go_wp2_with fail
      refine hcall.mono ?_; rintro e w2 ⟨rfl, hrun2, hbt2⟩
      have hnx2 := HNX.out w2 _ hrun2.2.2
      have el : ((L ++ rep (bld y) (szX y) L.length i) ++ bld y (L.length + i * szX y)).length = L.length + i * szX y + szX y := by rw [List.length_append, HM.out.2.1, HM.out.2.2.2.len]
      rw [el, HN12.out.2] at hnx2
      have HR2 := hid_intro hrun2
      have HB2 := hid_intro ((HZ.out.2.below HB1.out).trans hbt2)
      clear hcall hrun2 hbt2 el
      by_cases h0 : szX y = 0
      · have hnil : ∀ n, bld y n = [] := fun n => List.eq_nil_of_length_eq_zero (by rw [HM.out.2.2.2.len, h0])
        have HNL := hid_intro hnil
        have he : n2 = n1 := by have := HN12.out; omega
        subst he
        clear hnil h0
        go_wp2_with fail
        refine hnx2.mono ?_; rintro e w3 ⟨rfl, hb3⟩
        have HN4 : Hid (Run wb w3 lb sb cap y A Bl R Pb fv Z (L ++ rep (bld y) (szX y) L.length n) ∧ But (four lb sb A R) w w3) := hid_intro ⟨by
          have h := HR2.out.below hb3
          rw [rep_nil _ _ HNL.out, HNL.out, List.append_nil] at h
          rw [rep_nil _ _ HNL.out]; exact h, HB2.out.below hb3⟩
        clear hb3 hnx2
        go_wp2_with fail
        refine bodyPost_ret (v := .tuple #[]) (results_none rfl _ _ _) rfl ?_
        rw [HP.out]
        exact ⟨rfl, HN4.out⟩
      · have hne : ¬ n2 = n1 := by have := HN12.out; omega
        have HN3 : Hid (Run wb w2 lb sb cap y A Bl R Pb fv Z (L ++ rep (bld y) (szX y) L.length (i + 1))) := hid_intro (by
          rw [rep_snoc, ← List.append_assoc]; exact HR2.out)
        clear h0
        go_wp2_with fail
        refine hnx2.mono ?_; rintro e w3 ⟨rfl, hb3⟩
        have HN4 := hid_intro (And.intro (HN3.out.below hb3) (HB2.out.below hb3))
        clear hb3 hnx2
        go_wp2_with fail
        go_roundg (n - (i + 1))
        case measure => omega
        case rel => exact ⟨i + 1, by omega, rfl, by simp, HN4⟩
    · have hJ : ¬ (i : Int) < (n : Int) := by omega
      have hin : i = n := by omega
      go_wp2_with fail
      go_end0
      rw [HP.out]
      have := HZ.out
      rw [hin] at this
      exact ⟨rfl, this⟩
end Go.Proofs.Ytcgohdfpmfpfiaa

namespace Go.Proofs.Ytcgohdfpmfpfiaa
open Go.RowKit
attribute [local go_sem] setCell_drewN alloc_drewN

theorem Cap.butX {w w' : World} {lb sb p q i : Nat} {X : Nat → Prop} (h : Cap w lb sb p q i) (hb : But X w w') (hp : ¬ X p) (hq : ¬ X q) : Cap w' lb sb p q i :=
  ⟨cell_but h.1 hp hb, cell_but h.2.1 hq hb, h.2.2⟩
theorem Run.lt {wb w : World} {lb sb cap : Nat} {y : RX} {A Bl R Pb : Nat} {fv : Value} {Z : List Nat} {L : List ST} (h : Run wb w lb sb cap y A Bl R Pb fv Z L) : A < w.heap.size ∧ R < w.heap.size := by
  obtain ⟨h1, ⟨st, h2⟩, h3⟩ := h
  obtain ⟨⟨_, c1⟩, ⟨_, c2⟩⟩ := h2.cells
  exact ⟨World.block_lt_of_cell? w _ c1, World.block_lt_of_cell? w _ c2⟩
theorem four_not {lb sb A R p n : Nat} (h : ¬ two lb sb p) (hA : A < n) (hR : R < n) (hp : n ≤ p) : ¬ four lb sb A R p := fun e => by
  rcases e with e | e | e
  · exact h e
  · omega
  · omega
set_option maxRecDepth 100000 in
set_option maxHeartbeats 3200000 in
theorem loop_any (wb : World) (lb sb cap : Nat) (y : RX) (hy : YOK y) (A Bl R Pb : Nat) (fv : Value) (Z : List Nat) (L : List ST) (w : World) (h : Run wb w lb sb cap y A Bl R Pb fv Z L) (hroom : L.length + szX y + 2 ≤ cap) :
    Calls Try.prog 49 #[.pointer (some ⟨lb, 0, none⟩), .func (.func 58) #[] #[.pointer (some ⟨A, 0, none⟩), .pointer (some ⟨Bl, 0, none⟩), .pointer (some ⟨R, 0, none⟩), .pointer (some ⟨Pb, 0, none⟩)]] w fun e w' => e = .returned (.tuple #[]) ∧ LZ w' lb sb cap (A :: R :: Z) (L ++ (⟨2, [], (L.length : Int) + 1, ((L.length + (szX y + 2) : Nat) : Int)⟩ :: bld y (L.length + 1) ++ [⟨2, [], (L.length : Int), (L.length : Int)⟩])) ∧ But (four lb sb A R) w w' := by
  obtain ⟨P, hP⟩ : ∃ P : Ending → World → Prop, P = fun e w' => e = .returned (.tuple #[]) ∧ LZ w' lb sb cap (A :: R :: Z) (L ++ (⟨2, [], (L.length : Int) + 1, ((L.length + (szX y + 2) : Nat) : Int)⟩ :: bld y (L.length + 1) ++ [⟨2, [], (L.length : Int), (L.length : Int)⟩])) ∧ But (four lb sb A R) w w' := ⟨_, rfl⟩
  rw [← hP]
  have HP := hid_intro hP
  clear hP
  have hnx := nextZ_any lb sb cap _ L w h.2.2
  have HH := hid_intro h
  have HM := hid_intro (And.intro hroom hy)
  clear h hroom hy
  go_enter Try.func49, Try.ntmps49
  go_wp2_with fail
  refine hnx.mono ?_; rintro e w1 ⟨rfl, hb1⟩
  have hr1 := HH.out.below hb1
  have hfork := forkZ_any lb sb cap _ L w1 hr1.2.2 (by have := HM.out.1; omega)
  have HR1 := hid_intro hr1
  have HB1 := hid_intro hb1
  clear hnx hb1 hr1
  go_wp2_with fail
  refine hfork.mono ?_; rintro e w2 ⟨p0, q0, rfl, hp0, hq0, hcap2, hls2, hbt2⟩
  have hr2 := HR1.out.more hls2 hbt2
  have hcall := run_call wb lb sb cap y HM.out.2 A Bl R Pb fv Z _ w2 hr2 (by rw [List.length_append]; simp; have := HM.out.1; omega)
  have e1 : (L ++ [⟨2, [], (L.length : Int) + 1, 0⟩] : List ST).length = L.length + 1 := by simp
  rw [e1] at hcall
  have hn0 : ¬ four lb sb A R p0 ∧ ¬ four lb sb A R q0 := ⟨four_not hcap2.2.2.1 HR1.out.lt.1 HR1.out.lt.2 hp0, four_not hcap2.2.2.2 HR1.out.lt.1 HR1.out.lt.2 hq0⟩
  have HC2 := hid_intro (And.intro hcap2 hn0)
  have HB2 := hid_intro ((But.ofBelow (X := four lb sb A R) HB1.out).trans (hbt2.wide (fun b hb => Or.inl hb)))
  clear hfork hls2 hbt2 hr2 hcap2 hp0 hq0 hn0 e1
  go_wp2_with fail
  refine hcall.mono ?_; rintro e w3 ⟨rfl, hr3, hbt3⟩
  have hlen3 : (L ++ [⟨2, [], (L.length : Int) + 1, 0⟩] ++ bld y (L.length + 1) : List ST).length = L.length + 1 + szX y := by rw [List.length_append, HM.out.2.len]; simp
  have hjb := jumpBack_any lb sb cap _ _ w3 hr3.2.2 (by rw [hlen3]; have := HM.out.1; omega) (L.length : Int)
  have HC3 := hid_intro (HC2.out.1.butX hbt3 HC2.out.2.1 HC2.out.2.2)
  have HB3 := hid_intro (HB2.out.trans hbt3)
  clear hcall hr3 hbt3 hlen3
  go_wp2_with fail
  refine hjb.mono ?_; rintro e w4 ⟨rfl, hls4, hbt4⟩
  have hc := fork1Z_any lb sb cap p0 q0 L.length _ _ w4 hls4 (HC3.out.but hbt4) (by simp)
  have HB4 := hid_intro (HB3.out.trans (hbt4.wide (fun b hb => Or.inl hb)))
  clear hjb hls4 hbt4
  go_wp2_with fail
  refine hc.mono ?_; rintro e w5 ⟨rfl, hls5, hbt5⟩
  have HF : Hid (LZ w5 lb sb cap (A :: R :: Z) (L ++ (⟨2, [], (L.length : Int) + 1, ((L.length + (szX y + 2) : Nat) : Int)⟩ :: bld y (L.length + 1) ++ [⟨2, [], (L.length : Int), (L.length : Int)⟩])) ∧ But (four lb sb A R) w w5) := hid_intro ⟨by
    have e4 : (L ++ [⟨2, [], (L.length : Int) + 1, 0⟩] ++ bld y (L.length + 1) ++ [⟨2, [], (L.length : Int), (L.length : Int)⟩] : List ST) = L ++ ⟨2, [], (L.length : Int) + 1, 0⟩ :: (bld y (L.length + 1) ++ [⟨2, [], (L.length : Int), (L.length : Int)⟩]) := by simp
    rw [e4, setB_at] at hls5
    have e5 : ((L ++ ⟨2, [], (L.length : Int) + 1, 0⟩ :: (bld y (L.length + 1) ++ [⟨2, [], (L.length : Int), (L.length : Int)⟩]) : List ST).length : Int) = ((L.length + (szX y + 2) : Nat) : Int) := by
      simp only [List.length_append, List.length_cons, List.length_nil, HM.out.2.len]
    rw [e5] at hls5
    exact hls5, HB4.out.trans (hbt5.wide (fun b hb => Or.inl hb))⟩
  clear hc hls5 hbt5
  go_wp2_with fail
  go_end0
  rw [HP.out]
  exact ⟨rfl, HF.out⟩
end Go.Proofs.Ytcgohdfpmfpfiaa
