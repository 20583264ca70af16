/-
  A part that may come, so many times. Conditions: there is room.
-/
import Derived.Test.YtcgohdfpmfpfiaaG25
namespace Go.Proofs.Ytcgohdfpmfpfiaa
open Go.RowKit
attribute [local go_sem] setCell_drewN alloc_drewN

/-- The part so many times behind forks, the first k of them turned to e. -/
def perM (y : RX) (e : Nat) : Nat → Nat → Nat → List ST
  | 0, _, _ => []
  | c + 1, n, k => (⟨2, [], (n : Int) + 1, if k = 0 then 0 else (e : Int)⟩ :: bld y (n + 1)) ++ perM y e c (n + (szX y + 1)) (k - 1)
theorem perM_len (y : RX) (hy : ∀ n, (bld y n).length = szX y) (e : Nat) : ∀ c n k, (perM y e c n k).length = c * (szX y + 1)
  | 0, _, _ => by simp [perM]
  | c + 1, n, k => by rw [perM, List.length_append, perM_len y hy e c, List.length_cons, hy, Nat.succ_mul]; omega
theorem perM_rep (y : RX) (e : Nat) : ∀ c n, perM y e c n c = rep (fun p => ⟨2, [], (p : Int) + 1, (e : Int)⟩ :: bld y (p + 1)) (szX y + 1) n c
  | 0, _ => rfl
  | c + 1, n => by rw [perM, rep, if_neg (by omega), Nat.add_sub_cancel, perM_rep y e c]
theorem perM_snoc (y : RX) (e : Nat) : ∀ c n, perM y e (c + 1) n 0 = perM y e c n 0 ++ (⟨2, [], ((n + c * (szX y + 1) : Nat) : Int) + 1, 0⟩ :: bld y (n + c * (szX y + 1) + 1))
  | 0, n => by simp [perM]
  | c + 1, n => by
    rw [perM, Nat.zero_sub, perM_snoc y e c (n + (szX y + 1)), perM, Nat.zero_sub, List.append_assoc]
    have e1 : n + (szX y + 1) + c * (szX y + 1) = n + (c + 1) * (szX y + 1) := by rw [Nat.succ_mul]; omega
    rw [e1]
theorem perM_turn (y : RX) (hy : ∀ n, (bld y n).length = szX y) (e : Nat) : ∀ c n k, k < c → ∃ a, (perM y e c n k)[k * (szX y + 1)]? = some ⟨2, [], a, 0⟩ ∧ (perM y e c n k).set (k * (szX y + 1)) ⟨2, [], a, (e : Int)⟩ = perM y e c n (k + 1)
  | 0, _, k, h => by simp at h
  | c + 1, n, 0, _ => by
    refine ⟨(n : Int) + 1, ?_, ?_⟩
    · rw [Nat.zero_mul, perM]; rfl
    · rw [Nat.zero_mul, perM, perM, if_pos rfl, if_neg (by omega)]; rfl
  | c + 1, n, k + 1, h => by
    obtain ⟨a, h1, h2⟩ := perM_turn y hy e c (n + (szX y + 1)) k (by omega)
    have hl : (⟨2, [], (n : Int) + 1, (e : Int)⟩ :: bld y (n + 1) : List ST).length = szX y + 1 := by rw [List.length_cons, hy]
    refine ⟨a, ?_, ?_⟩
    · rw [perM, if_neg (by omega), Nat.succ_mul, List.getElem?_append_right (by rw [hl]; omega), hl, Nat.add_sub_cancel, Nat.add_sub_cancel]; exact h1
    · rw [perM, perM, if_neg (by omega), if_neg (by omega), Nat.succ_mul, List.set_append_right _ _ (by rw [hl]; omega), hl, Nat.add_sub_cancel, Nat.add_sub_cancel, h2]; rfl
theorem setB_per (L : List ST) (y : RX) (hy : ∀ n, (bld y n).length = szX y) (e c k : Nat) (hk : k < c) (he : (L ++ perM y e c L.length k).length = e) :
    setB (L ++ perM y e c L.length k) (L.length + k * (szX y + 1)) = L ++ perM y e c L.length (k + 1) := by
  obtain ⟨a, h1, h2⟩ := perM_turn y hy e c L.length k hk
  unfold setB
  rw [he]
  have hsa : sa (L ++ perM y e c L.length k) (L.length + k * (szX y + 1)) = ⟨2, [], a, 0⟩ := by
    unfold sa
    rw [List.getD_eq_getElem?_getD, List.getElem?_append_right (Nat.le_add_right _ _), Nat.add_sub_cancel_left, h1]; rfl
  rw [hsa, List.set_append_right _ _ (Nat.le_add_right _ _), Nat.add_sub_cancel_left]
  have : (ST.goB ⟨2, [], a, 0⟩ (e : Int)) = ⟨2, [], a, (e : Int)⟩ := rfl
  rw [this, h2]
theorem make_fn (w : World) (c : Nat) (hc : c ≤ 65536) : (Instr.makeSlice 68 (.int .i64 (c : Int)) (.int .i64 (c : Int))).run Try.prog w = .ok (.slice (some ⟨w.heap.size, 0, none⟩) c c) (w.alloc (.cells (madeCells #[.nilFunc] (c * 1)) 1)) := by
  obtain ⟨i0, hi, hz0, hz1, hz2⟩ := info_parts infoFn
  have := run_make (P := Try.prog) w 68 1 i0 .nilFunc Try.underlying68 hi hz0 .i64 .i64 (c : Int) (c : Int) (by omega) (by omega) (by rw [hz2]; omega) (by omega)
  rw [hz1] at this
  simpa [Value.cells] using this
/-- A change in other blocks alone. -/
theorem Oft.butX {wb w w' : World} {lb sb cap : Nat} {y : RX} {A Bl R Pb : Nat} {fv : Value} {X : Nat → Prop} (h : Oft wb w lb sb cap y A Bl R Pb fv) (hb : But X w w') (hX : ∀ b, X b → wb.heap.size ≤ b ∧ b ≠ A ∧ b ≠ R ∧ b ≠ Bl ∧ b ≠ Pb) (hA : ∃ v, w.cell? ⟨A, 0, none⟩ = some v) (hR : ∃ v, w.cell? ⟨R, 0, none⟩ = some v) : Oft wb w' lb sb cap y A Bl R Pb fv := by
  obtain ⟨va, hA⟩ := hA
  obtain ⟨vr, hR⟩ := hR
  exact ⟨⟨hb.os.trans h.but.os, hb.tape.trans h.but.tape, hb.output.trans h.but.output, Nat.le_trans h.but.size hb.size, fun k hk hn => (hb.block k (Nat.lt_of_lt_of_le hk h.but.size) (fun hx => by have := (hX k hx).1; omega)).trans (h.but.block k hk hn)⟩, h.fn,
    cell_but h.cl (fun hx => (hX _ hx).2.2.2.1 rfl) hb, cell_but h.cp (fun hx => (hX _ hx).2.2.2.2 rfl) hb, frz_but hA h.zA (fun hx => (hX _ hx).2.1 rfl) hb, frz_but hR h.zR (fun hx => (hX _ hx).2.2.1 rfl) hb, h.nl, h.np, h.d, h.ge, h.lt⟩
theorem Run.butX {wb w w' : World} {lb sb cap : Nat} {y : RX} {A Bl R Pb : Nat} {fv : Value} {Z : List Nat} {L : List ST} {X : Nat → Prop} (h : Run wb w lb sb cap y A Bl R Pb fv Z L) (hb : But X w w') (hX : ∀ b, X b → (wb.heap.size ≤ b ∧ b ≠ A ∧ b ≠ R ∧ b ≠ Bl ∧ b ≠ Pb) ∧ b ∈ Z) : Run wb w' lb sb cap y A Bl R Pb fv Z L := by
  obtain ⟨h1, ⟨st, h2⟩, h3⟩ := h
  exact ⟨h1.butX hb (fun b hx => (hX b hx).1) h2.cells.1 h2.cells.2, ⟨st, h2.but hb (fun hx => (hX _ hx).1.2.1 rfl) (fun hx => (hX _ hx).1.2.2.1 rfl) (fun _ _ => rfl) (Nat.le_refl _)⟩, h3.carry hb (fun b hx => Or.inl (by simp [(hX b hx).2]))⟩
/-- The forks that wait. -/
def WaitB (w : World) (lb sb A R bb : Nat) (cs : Array Value) (n q i : Nat) : Prop :=
  ∀ k, k < i → ∃ p1 q1, cs[k]? = some (.func (.func 56) #[] #[.pointer (some ⟨p1, 0, none⟩), .pointer (some ⟨q1, 0, none⟩)]) ∧ Cap w lb sb p1 q1 (n + k * (q + 1)) ∧ (¬ four lb sb A R p1 ∧ p1 ≠ bb) ∧ ¬ four lb sb A R q1 ∧ q1 ≠ bb
theorem WaitB.but {w w' : World} {lb sb A R bb : Nat} {cs : Array Value} {n q i : Nat} {X : Nat → Prop} (h : WaitB w lb sb A R bb cs n q i) (hb : But X w w') (hX : ∀ b, X b → four lb sb A R b ∨ b = bb) : WaitB w' lb sb A R bb cs n q i := fun k hk => by
  obtain ⟨p1, q1, h1, h2, h3, h4⟩ := h k hk
  exact ⟨p1, q1, h1, h2.butX hb (fun hx => by rcases hX _ hx with e | e; exact h3.1 e; exact h3.2 e) (fun hx => by rcases hX _ hx with e | e; exact h4.1 e; exact h4.2 e), h3, h4⟩
theorem Bk.but {w w' : World} {b : Nat} {cs : Array Value} {X : Nat → Prop} (h : Bk w b cs) (hb : But X w w') (hn : ¬ X b) : Bk w' b cs := by
  obtain ⟨T, e⟩ := h
  exact ⟨T, (hb.block b (Bk.lt ⟨T, e⟩) hn).trans e⟩
end Go.Proofs.Ytcgohdfpmfpfiaa
