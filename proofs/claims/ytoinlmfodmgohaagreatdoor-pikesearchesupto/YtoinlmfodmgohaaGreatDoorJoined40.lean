/-
  A part any number of times. Conditions: there is room.
  A part that may come, so many times. Conditions: there is room.
  A part that may come, so many times: compiled. Conditions: there is room.
-/
import Derived.Test.YtoinlmfodmgohaaGreatDoorJoined39
import Derived.Test.YtoinlmfodmgohaaGreatDoorJoined6
import Derived.Laws.EntriesVeiled
namespace Go.Proofs.YtoinlmfodmgohaaGreatDoor
open Go.RowKit
attribute [local go_sem] setCell_drewN alloc_drewN

theorem Cap.butX {w w' : World} {lb sb p q i : Nat} {X : Nat → Prop} (h : Cap w lb sb p q i) (hb : But X w w') (hp : ¬ X p) (hq : ¬ X q) : Cap w' lb sb p q i :=
  ⟨cell_but h.1 hp hb, cell_but h.2.1 hq hb, h.2.2⟩
theorem Run.lt {wb w : World} {lb sb cap : Nat} {y : RX} {A Bl R Pb : Nat} {fv : Value} {Z : List Nat} {L : List ST} (h : Run wb w lb sb cap y A Bl R Pb fv Z L) : A < w.heap.size ∧ R < w.heap.size := by
  obtain ⟨h1, ⟨st, h2⟩, h3⟩ := h
  obtain ⟨⟨_, c1⟩, ⟨_, c2⟩⟩ := h2.cells
  exact ⟨World.block_lt_of_cell? w _ c1, World.block_lt_of_cell? w _ c2⟩
theorem four_not {lb sb A R p n : Nat} (h : ¬ two lb sb p) (hA : A < n) (hR : R < n) (hp : n ≤ p) : ¬ four lb sb A R p := fun e => by
  rcases e with e | e | e
  · exact h e
  · omega
  · omega
set_option maxRecDepth 100000 in
set_option maxHeartbeats 3200000 in
theorem loop_any (wb : World) (lb sb cap : Nat) (y : RX) (hy : YOK y) (A Bl R Pb : Nat) (fv : Value) (Z : List Nat) (L : List ST) (w : World) (h : Run wb w lb sb cap y A Bl R Pb fv Z L) (hroom : L.length + szX y + 2 ≤ cap) :
    Calls Tryz.prog 114 #[.pointer (some ⟨lb, 0, none⟩), .func (.func 132) #[] #[.pointer (some ⟨A, 0, none⟩), .pointer (some ⟨Bl, 0, none⟩), .pointer (some ⟨R, 0, none⟩), .pointer (some ⟨Pb, 0, none⟩)]] w fun e w' => e = .returned (.tuple #[]) ∧ LZ w' lb sb cap (A :: R :: Z) (L ++ (⟨2, [], (L.length : Int) + 1, ((L.length + (szX y + 2) : Nat) : Int)⟩ :: bld y (L.length + 1) ++ [⟨2, [], (L.length : Int), (L.length : Int)⟩])) ∧ But (four lb sb A R) w w' := by
  obtain ⟨P, hP⟩ : ∃ P : Ending → World → Prop, P = fun e w' => e = .returned (.tuple #[]) ∧ LZ w' lb sb cap (A :: R :: Z) (L ++ (⟨2, [], (L.length : Int) + 1, ((L.length + (szX y + 2) : Nat) : Int)⟩ :: bld y (L.length + 1) ++ [⟨2, [], (L.length : Int), (L.length : Int)⟩])) ∧ But (four lb sb A R) w w' := ⟨_, rfl⟩
  rw [← hP]
  have HP := hid_intro hP
  clear hP
  have hnx := nextZ_any lb sb cap _ L w h.2.2
  have HH := hid_intro h
  have HM := hid_intro (And.intro hroom hy)
  clear h hroom hy
  go_enter Tryz.func114, Tryz.ntmps114
  go_wp2_with fail
  refine hnx.mono ?_; rintro e w1 ⟨rfl, hb1⟩
  have hr1 := HH.out.below hb1
  have hfork := forkZ_any lb sb cap _ L w1 hr1.2.2 (by have := HM.out.1; omega)
  have HR1 := hid_intro hr1
  have HB1 := hid_intro hb1
  clear hnx hb1 hr1
  go_wp2_with fail
  refine hfork.mono ?_; rintro e w2 ⟨p0, q0, rfl, hp0, hq0, hcap2, hls2, hbt2⟩
  have hr2 := HR1.out.more hls2 hbt2
  have hcall := run_call wb lb sb cap y HM.out.2 A Bl R Pb fv Z _ w2 hr2 (by rw [List.length_append]; simp; have := HM.out.1; omega)
  have e1 : (L ++ [⟨2, [], (L.length : Int) + 1, 0⟩] : List ST).length = L.length + 1 := by simp
  rw [e1] at hcall
  have hn0 : ¬ four lb sb A R p0 ∧ ¬ four lb sb A R q0 := ⟨four_not hcap2.2.2.1 HR1.out.lt.1 HR1.out.lt.2 hp0, four_not hcap2.2.2.2 HR1.out.lt.1 HR1.out.lt.2 hq0⟩
  have HC2 := hid_intro (And.intro hcap2 hn0)
  have HB2 := hid_intro ((But.ofBelow (X := four lb sb A R) HB1.out).trans (hbt2.wide (fun b hb => Or.inl hb)))
  clear hfork hls2 hbt2 hr2 hcap2 hp0 hq0 hn0 e1
  go_wp2_with fail
  refine hcall.mono ?_; rintro e w3 ⟨rfl, hr3, hbt3⟩
  have hlen3 : (L ++ [⟨2, [], (L.length : Int) + 1, 0⟩] ++ bld y (L.length + 1) : List ST).length = L.length + 1 + szX y := by rw [List.length_append, HM.out.2.len]; simp
  have hjb := jumpBack_any lb sb cap _ _ w3 hr3.2.2 (by rw [hlen3]; have := HM.out.1; omega) (L.length : Int)
  have HC3 := hid_intro (HC2.out.1.butX hbt3 HC2.out.2.1 HC2.out.2.2)
  have HB3 := hid_intro (HB2.out.trans hbt3)
  clear hcall hr3 hbt3 hlen3
  go_wp2_with fail
  refine hjb.mono ?_; rintro e w4 ⟨rfl, hls4, hbt4⟩
  have hc := fork1Z_any lb sb cap p0 q0 L.length _ _ w4 hls4 (HC3.out.but hbt4) (by simp)
  have HB4 := hid_intro (HB3.out.trans (hbt4.wide (fun b hb => Or.inl hb)))
  clear hjb hls4 hbt4
  go_wp2_with fail
  refine hc.mono ?_; rintro e w5 ⟨rfl, hls5, hbt5⟩
  have HF : Hid (LZ w5 lb sb cap (A :: R :: Z) (L ++ (⟨2, [], (L.length : Int) + 1, ((L.length + (szX y + 2) : Nat) : Int)⟩ :: bld y (L.length + 1) ++ [⟨2, [], (L.length : Int), (L.length : Int)⟩])) ∧ But (four lb sb A R) w w5) := hid_intro ⟨by
    have e4 : (L ++ [⟨2, [], (L.length : Int) + 1, 0⟩] ++ bld y (L.length + 1) ++ [⟨2, [], (L.length : Int), (L.length : Int)⟩] : List ST) = L ++ ⟨2, [], (L.length : Int) + 1, 0⟩ :: (bld y (L.length + 1) ++ [⟨2, [], (L.length : Int), (L.length : Int)⟩]) := by simp
    rw [e4, setB_at] at hls5
    have e5 : ((L ++ ⟨2, [], (L.length : Int) + 1, 0⟩ :: (bld y (L.length + 1) ++ [⟨2, [], (L.length : Int), (L.length : Int)⟩]) : List ST).length : Int) = ((L.length + (szX y + 2) : Nat) : Int) := by
      simp only [List.length_append, List.length_cons, List.length_nil, HM.out.2.len]
    rw [e5] at hls5
    exact hls5, HB4.out.trans (hbt5.wide (fun b hb => Or.inl hb))⟩
  clear hc hls5 hbt5
  go_wp2_with fail
  go_end0
  rw [HP.out]
  exact ⟨rfl, HF.out⟩
end Go.Proofs.YtoinlmfodmgohaaGreatDoor

namespace Go.Proofs.YtoinlmfodmgohaaGreatDoor
open Go.RowKit
attribute [local go_sem] setCell_drewN alloc_drewN

/-- The part so many times behind forks, the first k of them turned to e. -/
def perM (y : RX) (e : Nat) : Nat → Nat → Nat → List ST
  | 0, _, _ => []
  | c + 1, n, k => (⟨2, [], (n : Int) + 1, if k = 0 then 0 else (e : Int)⟩ :: bld y (n + 1)) ++ perM y e c (n + (szX y + 1)) (k - 1)
theorem perM_len (y : RX) (hy : ∀ n, (bld y n).length = szX y) (e : Nat) : ∀ c n k, (perM y e c n k).length = c * (szX y + 1)
  | 0, _, _ => by simp [perM]
  | c + 1, n, k => by rw [perM, List.length_append, perM_len y hy e c, List.length_cons, hy, Nat.succ_mul]; omega
theorem perM_rep (y : RX) (e : Nat) : ∀ c n, perM y e c n c = rep (fun p => ⟨2, [], (p : Int) + 1, (e : Int)⟩ :: bld y (p + 1)) (szX y + 1) n c
  | 0, _ => rfl
  | c + 1, n => by rw [perM, rep, if_neg (by omega), Nat.add_sub_cancel, perM_rep y e c]
theorem perM_snoc (y : RX) (e : Nat) : ∀ c n, perM y e (c + 1) n 0 = perM y e c n 0 ++ (⟨2, [], ((n + c * (szX y + 1) : Nat) : Int) + 1, 0⟩ :: bld y (n + c * (szX y + 1) + 1))
  | 0, n => by simp [perM]
  | c + 1, n => by
    rw [perM, Nat.zero_sub, perM_snoc y e c (n + (szX y + 1)), perM, Nat.zero_sub, List.append_assoc]
    have e1 : n + (szX y + 1) + c * (szX y + 1) = n + (c + 1) * (szX y + 1) := by rw [Nat.succ_mul]; omega
    rw [e1]
theorem perM_turn (y : RX) (hy : ∀ n, (bld y n).length = szX y) (e : Nat) : ∀ c n k, k < c → ∃ a, (perM y e c n k)[k * (szX y + 1)]? = some ⟨2, [], a, 0⟩ ∧ (perM y e c n k).set (k * (szX y + 1)) ⟨2, [], a, (e : Int)⟩ = perM y e c n (k + 1)
  | 0, _, k, h => by simp at h
  | c + 1, n, 0, _ => by
    refine ⟨(n : Int) + 1, ?_, ?_⟩
    · rw [Nat.zero_mul, perM]; rfl
    · rw [Nat.zero_mul, perM, perM, if_pos rfl, if_neg (by omega)]; rfl
  | c + 1, n, k + 1, h => by
    obtain ⟨a, h1, h2⟩ := perM_turn y hy e c (n + (szX y + 1)) k (by omega)
    have hl : (⟨2, [], (n : Int) + 1, (e : Int)⟩ :: bld y (n + 1) : List ST).length = szX y + 1 := by rw [List.length_cons, hy]
    refine ⟨a, ?_, ?_⟩
    · rw [perM, if_neg (by omega), Nat.succ_mul, List.getElem?_append_right (by rw [hl]; omega), hl, Nat.add_sub_cancel, Nat.add_sub_cancel]; exact h1
    · rw [perM, perM, if_neg (by omega), if_neg (by omega), Nat.succ_mul, List.set_append_right _ _ (by rw [hl]; omega), hl, Nat.add_sub_cancel, Nat.add_sub_cancel, h2]; rfl
theorem setB_per (L : List ST) (y : RX) (hy : ∀ n, (bld y n).length = szX y) (e c k : Nat) (hk : k < c) (he : (L ++ perM y e c L.length k).length = e) :
    setB (L ++ perM y e c L.length k) (L.length + k * (szX y + 1)) = L ++ perM y e c L.length (k + 1) := by
  obtain ⟨a, h1, h2⟩ := perM_turn y hy e c L.length k hk
  unfold setB
  rw [he]
  have hsa : sa (L ++ perM y e c L.length k) (L.length + k * (szX y + 1)) = ⟨2, [], a, 0⟩ := by
    unfold sa
    rw [List.getD_eq_getElem?_getD, List.getElem?_append_right (Nat.le_add_right _ _), Nat.add_sub_cancel_left, h1]; rfl
  rw [hsa, List.set_append_right _ _ (Nat.le_add_right _ _), Nat.add_sub_cancel_left]
  have : (ST.goB ⟨2, [], a, 0⟩ (e : Int)) = ⟨2, [], a, (e : Int)⟩ := rfl
  rw [this, h2]
theorem make_fn (w : World) (c : Nat) (hc : c ≤ 65536) : (Instr.makeSlice 140 (.int .i64 (c : Int)) (.int .i64 (c : Int))).run Tryz.prog w = .ok (.slice (some ⟨w.heap.size, 0, none⟩) c c) (w.alloc (.cells (madeCells #[.nilFunc] (c * 1)) 1)) := by
  obtain ⟨i0, hi, hz0, hz1, hz2⟩ := info_parts infoFn
  have := run_make (P := Tryz.prog) w 140 1 i0 .nilFunc Tryz.underlying140 hi hz0 .i64 .i64 (c : Int) (c : Int) (by omega) (by omega) (by rw [hz2]; omega) (by omega)
  rw [hz1] at this
  simpa [Value.cells] using this
/-- A change in other blocks alone. -/
theorem Oft.butX {wb w w' : World} {lb sb cap : Nat} {y : RX} {A Bl R Pb : Nat} {fv : Value} {X : Nat → Prop} (h : Oft wb w lb sb cap y A Bl R Pb fv) (hb : But X w w') (hX : ∀ b, X b → wb.heap.size ≤ b ∧ b ≠ A ∧ b ≠ R ∧ b ≠ Bl ∧ b ≠ Pb) (hA : ∃ v, w.cell? ⟨A, 0, none⟩ = some v) (hR : ∃ v, w.cell? ⟨R, 0, none⟩ = some v) : Oft wb w' lb sb cap y A Bl R Pb fv := by
  obtain ⟨va, hA⟩ := hA
  obtain ⟨vr, hR⟩ := hR
  exact ⟨⟨hb.os.trans h.but.os, hb.tape.trans h.but.tape, hb.output.trans h.but.output, Nat.le_trans h.but.size hb.size, fun k hk hn => (hb.block k (Nat.lt_of_lt_of_le hk h.but.size) (fun hx => by have := (hX k hx).1; omega)).trans (h.but.block k hk hn)⟩, h.fn,
    cell_but h.cl (fun hx => (hX _ hx).2.2.2.1 rfl) hb, cell_but h.cp (fun hx => (hX _ hx).2.2.2.2 rfl) hb, frz_but hA h.zA (fun hx => (hX _ hx).2.1 rfl) hb, frz_but hR h.zR (fun hx => (hX _ hx).2.2.1 rfl) hb, h.nl, h.np, h.d, h.ge, h.lt⟩
theorem Run.butX {wb w w' : World} {lb sb cap : Nat} {y : RX} {A Bl R Pb : Nat} {fv : Value} {Z : List Nat} {L : List ST} {X : Nat → Prop} (h : Run wb w lb sb cap y A Bl R Pb fv Z L) (hb : But X w w') (hX : ∀ b, X b → (wb.heap.size ≤ b ∧ b ≠ A ∧ b ≠ R ∧ b ≠ Bl ∧ b ≠ Pb) ∧ b ∈ Z) : Run wb w' lb sb cap y A Bl R Pb fv Z L := by
  obtain ⟨h1, ⟨st, h2⟩, h3⟩ := h
  exact ⟨h1.butX hb (fun b hx => (hX b hx).1) h2.cells.1 h2.cells.2, ⟨st, h2.but hb (fun hx => (hX _ hx).1.2.1 rfl) (fun hx => (hX _ hx).1.2.2.1 rfl) (fun _ _ => rfl) (Nat.le_refl _)⟩, h3.carry hb (fun b hx => Or.inl (by simp [(hX b hx).2]))⟩
/-- The forks that wait. -/
def WaitB (w : World) (lb sb A R bb : Nat) (cs : Array Value) (n q i : Nat) : Prop :=
  ∀ k, k < i → ∃ p1 q1, cs[k]? = some (.func (.func 130) #[] #[.pointer (some ⟨p1, 0, none⟩), .pointer (some ⟨q1, 0, none⟩)]) ∧ Cap w lb sb p1 q1 (n + k * (q + 1)) ∧ (¬ four lb sb A R p1 ∧ p1 ≠ bb) ∧ ¬ four lb sb A R q1 ∧ q1 ≠ bb
theorem WaitB.but {w w' : World} {lb sb A R bb : Nat} {cs : Array Value} {n q i : Nat} {X : Nat → Prop} (h : WaitB w lb sb A R bb cs n q i) (hb : But X w w') (hX : ∀ b, X b → four lb sb A R b ∨ b = bb) : WaitB w' lb sb A R bb cs n q i := fun k hk => by
  obtain ⟨p1, q1, h1, h2, h3, h4⟩ := h k hk
  exact ⟨p1, q1, h1, h2.butX hb (fun hx => by rcases hX _ hx with e | e; exact h3.1 e; exact h3.2 e) (fun hx => by rcases hX _ hx with e | e; exact h4.1 e; exact h4.2 e), h3, h4⟩
end Go.Proofs.YtoinlmfodmgohaaGreatDoor

namespace Go.Proofs.YtoinlmfodmgohaaGreatDoor
open Go.RowKit
attribute [local go_sem] setCell_drewN alloc_drewN

set_option maxRecDepth 100000 in
set_option maxHeartbeats 6400000 in
theorem perhaps_any (wb : World) (lb sb cap : Nat) (y : RX) (hy : YOK y) (A Bl R Pb : Nat) (fv : Value) (Z : List Nat) (L : List ST) (w : World) (h : Run wb w lb sb cap y A Bl R Pb fv Z L) (n : Nat) (hn : n ≤ 1000) (hroom : L.length + n * (szX y + 1) ≤ cap) :
    Calls Tryz.prog 115 #[.pointer (some ⟨lb, 0, none⟩), .int .i64 (n : Int), .func (.func 132) #[] #[.pointer (some ⟨A, 0, none⟩), .pointer (some ⟨Bl, 0, none⟩), .pointer (some ⟨R, 0, none⟩), .pointer (some ⟨Pb, 0, none⟩)]] w fun e w' => e = .returned (.tuple #[]) ∧ LZ w' lb sb cap (A :: R :: Z) (L ++ rep (fun p => ⟨2, [], (p : Int) + 1, ((L.length + n * (szX y + 1) : Nat) : Int)⟩ :: bld y (p + 1)) (szX y + 1) L.length n) ∧ But (four lb sb A R) w w' := by
  obtain ⟨E, hE⟩ : ∃ E, L.length + n * (szX y + 1) = E := ⟨_, rfl⟩
  rw [hE, ← perM_rep y E n L.length]
  obtain ⟨P, hP⟩ : ∃ P : Ending → World → Prop, P = fun e w' => e = .returned (.tuple #[]) ∧ LZ w' lb sb cap (A :: R :: Z) (L ++ perM y E n L.length n) ∧ But (four lb sb A R) w w' := ⟨_, rfl⟩
  rw [← hP]
  have HP := hid_intro hP
  clear hP
  have hlt := h.2.2.lt
  have hAR := h.lt
  have hBl : Bl < w.heap.size := World.block_lt_of_cell? w _ h.1.cl
  have hPb : Pb < w.heap.size := World.block_lt_of_cell? w _ h.1.cp
  have hwb := h.1.but.size
  have hmk := make_fn w n (by omega)
  obtain ⟨cs0, hcs0⟩ : ∃ cs0, madeCells #[.nilFunc] (n * 1) = cs0 := ⟨_, rfl⟩
  have hsz0 : cs0.size = n := by rw [← hcs0, size_madeCells, Nat.mul_one]
  rw [hcs0] at hmk
  obtain ⟨V, hV⟩ : ∃ V, w.alloc (.cells cs0 1) = V := ⟨_, rfl⟩
  rw [hV] at hmk
  have hbV : Below w.heap.size w V := hV ▸ vb_a (Below.refl _ _) _
  have hVs : w.heap.size < V.heap.size := by rw [← hV]; simp
  have kV : Bk V w.heap.size cs0 := hV ▸ Bk.new _ _ _
  have hrV : Run wb V lb sb cap y A Bl R Pb fv (w.heap.size :: Z) L := by
    have h1 := h.below hbV
    exact ⟨h1.1, h1.2.1, (h.2.2.apart hbV w.heap.size (Nat.le_refl _) hVs).sub (fun z hz => by simp only [List.mem_cons] at hz ⊢; rcases hz with hz | hz | hz | hz <;> simp [hz])⟩
  obtain ⟨bb, hbb⟩ : ∃ bb, w.heap.size = bb := ⟨_, rfl⟩
  have hnf : ¬ four lb sb A R bb := fun e => by rcases e with (e | e) | e | e <;> omega
  rw [hbb] at kV hrV hmk
  have HV0 := hid_intro (And.intro hsz0 (And.intro kV (And.intro hrV hbV)))
  have HM := hid_intro (And.intro hroom (And.intro hy (And.intro hn (And.intro hE (And.intro hnf (And.intro hbb (And.intro (And.intro hwb (And.intro hAR (And.intro hBl hPb))) hlt)))))))
  have hnI : (n : Int) ≤ 1000 := by omega
  clear h hroom hn hE hbV kV hrV hsz0 hcs0 hVs hy hnf hlt hAR hBl hPb hwb hV hbb
  go_enter Tryz.func115, Tryz.ntmps115
  go_wp2_with fail
  clear hmk
  go_loopg [13] n (fun m s13 wr => ∃ (i : Nat) (cs : Array Value), i ≤ n ∧ m = n - i ∧ s13 = .int .i64 (i : Int) ∧ Hid (cs.size = n ∧ Bk wr bb cs ∧ WaitB wr lb sb A R bb cs L.length (szX y) i ∧ Run wb wr lb sb cap y A Bl R Pb fv (bb :: Z) (L ++ perM y E i L.length 0) ∧ But (four lb sb A R) w wr))
  case atStart => exact ⟨0, cs0, Nat.zero_le _, rfl, rfl, HV0.out.1, HV0.out.2.1, fun k hk => absurd hk (by omega), by simpa [perM] using HV0.out.2.2.1, But.ofBelow HV0.out.2.2.2⟩
  case round =>
    obtain ⟨i, cs, hi, rfl, rfl, HZ⟩ := hrel
    by_cases hlt : i < n
    · have hJ : (i : Int) < (n : Int) := by omega
      have hmul : (i + 1) * (szX y + 1) ≤ n * (szX y + 1) := Nat.mul_le_mul_right _ (by omega)
      rw [Nat.succ_mul] at hmul
      have hll : (L ++ perM y E i L.length 0).length = L.length + i * (szX y + 1) := by rw [List.length_append, perM_len y HM.out.2.1.len]
      have hfork := forkZ_any lb sb cap _ _ wr HZ.out.2.2.2.1.2.2 (by rw [hll]; have := HM.out.1; omega)
      have HLL := hid_intro (And.intro hll hmul)
      clear hll hmul
      go_wp2_with fail
      refine hfork.mono ?_; rintro e w1 ⟨p0, q0, rfl, hp0, hq0, hcap1, hls1, hbt1⟩
      have hr1 := HZ.out.2.2.2.1.more hls1 hbt1
      have hbb2 : ¬ two lb sb bb := fun e => HM.out.2.2.2.2.1 (Or.inl e)
      have k1 := HZ.out.2.1.but hbt1 hbb2
      have hci : i < cs.size := by have := HZ.out.1; omega
      have d1 : w1.cell? ⟨bb, i, none⟩ = some cs[i] := (k1.cell i).trans (Array.getElem?_eq_getElem hci)
      have z1 := k1.frz i
      obtain ⟨W2, hW2⟩ : ∃ W2, w1.setCell ⟨bb, i, none⟩ (.func (.func 130) #[] #[.pointer (some ⟨p0, 0, none⟩), .pointer (some ⟨q0, 0, none⟩)]) = W2 := ⟨_, rfl⟩
      have hb2 : But (fun b => b = bb) w1 W2 := hW2 ▸ But.setS (But.refl _ _) i _
      have k2 : Bk W2 bb (cs.setIfInBounds i (.func (.func 130) #[] #[.pointer (some ⟨p0, 0, none⟩), .pointer (some ⟨q0, 0, none⟩)])) := hW2 ▸ k1.set i _ rfl
      have hltr := HZ.out.2.2.2.1.lt
      have hbbr : bb < wr.heap.size := HZ.out.2.1.lt
      have hr2 := hr1.butX hb2 (fun b e => by
        subst e
        have hm := HM.out.2.2.2.2.2.2.1
        have hb := HM.out.2.2.2.2.2.1
        exact ⟨by omega, by simp⟩)
      have hcall := run_call wb lb sb cap y HM.out.2.1 A Bl R Pb fv (bb :: Z) _ W2 hr2 (by rw [List.length_append, HLL.out.1]; simp; have := HM.out.1; have := HLL.out.2; omega)
      have hn0 : (¬ four lb sb A R p0 ∧ p0 ≠ bb) ∧ ¬ four lb sb A R q0 ∧ q0 ≠ bb := ⟨⟨four_not hcap1.2.2.1 hltr.1 hltr.2 hp0, by omega⟩, four_not hcap1.2.2.2 hltr.1 hltr.2 hq0, by omega⟩
      have hw2 : WaitB W2 lb sb A R bb (cs.setIfInBounds i (.func (.func 130) #[] #[.pointer (some ⟨p0, 0, none⟩), .pointer (some ⟨q0, 0, none⟩)])) L.length (szX y) (i + 1) := fun k hk => by
        by_cases e : k = i
        · subst e
          refine ⟨p0, q0, by rw [Array.getElem?_setIfInBounds, if_pos rfl, if_pos hci], ?_, hn0⟩
          have := hcap1.butX hb2 (fun e => hn0.1.2 e) (fun e => hn0.2.2 e)
          rw [HLL.out.1] at this
          exact this
        · obtain ⟨p1, q1, h1, h2, h3, h4⟩ := ((HZ.out.2.2.1.but hbt1 (fun b hb => Or.inl (Or.inl hb))).but hb2 (fun b hb => Or.inr hb)) k (by omega)
          exact ⟨p1, q1, by rw [Array.getElem?_setIfInBounds, if_neg (fun h => e h.symm)]; exact h1, h2, h3, h4⟩
      have hs2 : (cs.setIfInBounds i (.func (.func 130) #[] #[.pointer (some ⟨p0, 0, none⟩), .pointer (some ⟨q0, 0, none⟩)])).size = n := by rw [Array.size_setIfInBounds]; exact HZ.out.1
      have hbw : But (four lb sb A R) w W2 := by
        have hb1 := HZ.out.2.2.2.2.trans (hbt1.wide (fun b hb => Or.inl hb))
        rw [← hW2]
        exact hb1.set (Or.inr (by have := HM.out.2.2.2.2.2.1; show w.heap.size ≤ bb; omega)) _
      have HW2 := hid_intro hW2
      have H2 := hid_intro (And.intro hs2 (And.intro k2 (And.intro hw2 hbw)))
      clear hW2 hb2 k2 hr2 hn0 hw2 hs2 hbw hr1 hls1 hbt1 hcap1 hp0 hq0 k1 hfork hltr hbbr hbb2
      generalize cs[i] = ci at d1
      clear hci
      go_wp2_with fail
      rw [HW2.out]
      refine hcall.mono ?_; rintro e w3 ⟨rfl, hr3, hbt3⟩
      have HN : Hid ((cs.setIfInBounds i (.func (.func 130) #[] #[.pointer (some ⟨p0, 0, none⟩), .pointer (some ⟨q0, 0, none⟩)])).size = n ∧ Bk w3 bb (cs.setIfInBounds i (.func (.func 130) #[] #[.pointer (some ⟨p0, 0, none⟩), .pointer (some ⟨q0, 0, none⟩)])) ∧ WaitB w3 lb sb A R bb (cs.setIfInBounds i (.func (.func 130) #[] #[.pointer (some ⟨p0, 0, none⟩), .pointer (some ⟨q0, 0, none⟩)])) L.length (szX y) (i + 1) ∧ Run wb w3 lb sb cap y A Bl R Pb fv (bb :: Z) (L ++ perM y E (i + 1) L.length 0) ∧ But (four lb sb A R) w w3) := hid_intro
        ⟨H2.out.1, H2.out.2.1.but hbt3 HM.out.2.2.2.2.1, H2.out.2.2.1.but hbt3 (fun b hb => Or.inl hb), by
          rw [HLL.out.1] at hr3
          have e3 : (L ++ perM y E i L.length 0 ++ [⟨2, [], ((L.length + i * (szX y + 1) : Nat) : Int) + 1, 0⟩] : List ST).length = L.length + i * (szX y + 1) + 1 := by rw [List.length_append, HLL.out.1]; rfl
          rw [e3] at hr3
          rw [perM_snoc]
          have e4 : (L ++ (perM y E i L.length 0 ++ ⟨2, [], ((L.length + i * (szX y + 1) : Nat) : Int) + 1, 0⟩ :: bld y (L.length + i * (szX y + 1) + 1)) : List ST) = L ++ perM y E i L.length 0 ++ [⟨2, [], ((L.length + i * (szX y + 1) : Nat) : Int) + 1, 0⟩] ++ bld y (L.length + i * (szX y + 1) + 1) := by simp
          rw [e4]
          exact hr3, H2.out.2.2.2.trans hbt3⟩
      clear hcall hr3 hbt3 H2 HW2 d1 z1
      go_wp2_with fail
      go_roundg (n - (i + 1))
      case measure => omega
      case rel => exact ⟨i + 1, _, by omega, rfl, by simp, HN⟩
    · have hJ : ¬ (i : Int) < (n : Int) := by omega
      obtain rfl : i = n := by omega
      go_wp2_with fail
      go_loopg [26] i (fun m s26 wx => ∃ k : Nat, k ≤ i ∧ m = i - k ∧ s26 = .int .i64 (k : Int) ∧ Hid (LZ wx lb sb cap (A :: R :: bb :: Z) (L ++ perM y E i L.length k) ∧ But (two lb sb) wr wx))
      case atStart => exact ⟨0, Nat.zero_le _, rfl, rfl, HZ.out.2.2.2.1.2.2, But.refl _ _⟩
      case round =>
        obtain ⟨k, hk, rfl, rfl, HE⟩ := hrel
        by_cases hkt : k < i
        · have hK : (k : Int) < (i : Int) := by omega
          have hbb2 : ¬ two lb sb bb := fun e => HM.out.2.2.2.2.1 (Or.inl e)
          have kx := HZ.out.2.1.but HE.out.2 hbb2
          obtain ⟨p1, q1, f1, f2, _⟩ := (HZ.out.2.2.1.but HE.out.2 (fun b hb => Or.inl (Or.inl hb))) k hkt
          have cf := (kx.cell k).trans f1
          have hlt1 : (L ++ perM y E i L.length k).length = E := by rw [List.length_append, perM_len y HM.out.2.1.len]; exact HM.out.2.2.2.1
          have hidx : L.length + k * (szX y + 1) < (L ++ perM y E i L.length k).length := by
            obtain ⟨a, h1, _⟩ := perM_turn y HM.out.2.1.len E i L.length k hkt
            have := (List.getElem?_eq_some_iff.1 h1).1
            rw [List.length_append]; omega
          have hcall := fork1Z_any lb sb cap p1 q1 _ _ _ _ HE.out.1 f2 hidx
          rw [setB_per L y HM.out.2.1.len E i k hkt hlt1] at hcall
          clear f1 f2 kx hlt1 hidx hbb2
          go_wp2_with fail
          refine hcall.mono ?_; rintro e w6 ⟨rfl, hls6, hbt6⟩
          have HE2 := hid_intro (And.intro hls6 (HE.out.2.trans hbt6))
          clear hcall hls6 hbt6 cf
          go_wp2_with fail
          go_roundg (i - (k + 1))
          case measure => omega
          case rel => exact ⟨k + 1, by omega, rfl, by simp, HE2⟩
        · have hK : ¬ (k : Int) < (i : Int) := by omega
          obtain rfl : k = i := by omega
          go_wp2_with fail
          go_end0
          rw [HP.out]
          exact ⟨rfl, HE.out.1.sub (fun z hz => by simp only [List.mem_cons] at hz ⊢; rcases hz with hz | hz | hz <;> simp [hz]), HZ.out.2.2.2.2.trans (HE.out.2.wide (fun b hb => Or.inl hb))⟩
end Go.Proofs.YtoinlmfodmgohaaGreatDoor
