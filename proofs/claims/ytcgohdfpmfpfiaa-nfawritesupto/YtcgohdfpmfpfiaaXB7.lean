/-
  A part that is compiled the first time alone, and put again from then on. Conditions: there is room.
-/
import Derived.Test.YtcgohdfpmfpfiaaXB6
namespace Go.Proofs.Ytcgohdfpmfpfiaa
open Go.RowKit
attribute [local go_sem] setCell_drewN alloc_drewN

set_option maxRecDepth 100000 in
set_option maxHeartbeats 1600000 in
theorem fromZ_any (lb sb cap : Nat) (Z : List Nat) (L : List ST) (w : World) (h : LZ w lb sb cap Z L) (a : Nat) (ha : a ≤ L.length) :
    Calls Try.prog 28 #[.pointer (some ⟨lb, 0, none⟩), .int .i64 (a : Int)] w fun e w' => e = .returned (.slice (some ⟨sb, rof (L.length - a) a, none⟩) (L.length - a) (L.length - a)) ∧ Below w.heap.size w w' := by
  have hc := h.cell.1
  have hlen := h.len
  have hLI : (L.length : Int) ≤ (cap : Int) := by omega
  have haI : (a : Int) ≤ (L.length : Int) := by omega
  have haN : (0 : Int) ≤ (a : Int) := by omega
  clear h
  by_cases hq : L.length - a = 0
  · have hea : L.length = a := by omega
    rw [hq]
    have er : rof 0 a = 0 := rfl
    rw [er]
    rw [hea] at hc
    have hcI : (a : Int) ≤ (cap : Int) := by omega
    clear hlen hLI haI hq er
    go_enter Try.func28, Try.ntmps28
    go_wp2_with fail
    go_quiet (fail)
    all_goals
      go_wp2_with fail
      go_ret
      exact ⟨rfl, by with_reducible repeat (first | exact Below.refl _ _ | refine vb_d ?_ | refine vb_n ?_ _)⟩
  · have er : rof (L.length - a) a = a * 4 := if_neg hq
    have hne : ¬ L.length - a = 0 := hq
    rw [er]
    clear er hq
    go_enter Try.func28, Try.ntmps28
    go_wp2_with fail
    go_quiet (fail)
    all_goals
      go_wp2_with fail
      go_ret
      exact ⟨rfl, by with_reducible repeat (first | exact Below.refl _ _ | refine vb_d ?_ | refine vb_n ?_ _)⟩
/-- A part as 'often' keeps it: the place of its row, the list, the row, the part itself. -/
structure Oft (wb w : World) (lb sb cap : Nat) (y : RX) (A Bl R Pb : Nat) (fv : Value) : Prop where
  but : But (two lb sb) wb w
  fn : FnOK wb lb sb cap y fv
  cl : w.cell? ⟨Bl, 0, none⟩ = some (.pointer (some ⟨lb, 0, none⟩))
  cp : w.cell? ⟨Pb, 0, none⟩ = some fv
  zA : w.frozen? ⟨A, 0, none⟩ = false
  zR : w.frozen? ⟨R, 0, none⟩ = false
  nl : ¬ two lb sb Bl
  np : ¬ two lb sb Pb
  d : A ≠ R ∧ A ≠ Bl ∧ A ≠ Pb ∧ R ≠ Bl ∧ R ≠ Pb
  ge : wb.heap.size ≤ A ∧ wb.heap.size ≤ R
  lt : lb < wb.heap.size ∧ sb < wb.heap.size
theorem Oft.nA {wb w : World} {lb sb cap : Nat} {y : RX} {A Bl R Pb : Nat} {fv : Value} (h : Oft wb w lb sb cap y A Bl R Pb fv) : ¬ two lb sb A ∧ ¬ two lb sb R := by
  have := h.ge; have := h.lt
  exact ⟨fun e => by rcases e with e | e <;> omega, fun e => by rcases e with e | e <;> omega⟩
theorem frz_but {w w' : World} {X : Nat → Prop} {b o : Nat} {v : Value} (hc : w.cell? ⟨b, o, none⟩ = some v) (h : w.frozen? ⟨b, o, none⟩ = false) (hn : ¬ X b) (hb : But X w w') : w'.frozen? ⟨b, o, none⟩ = false := by
  have e := hb.block b (World.block_lt_of_cell? w _ hc) hn
  rw [← h]; simp only [World.frozen?, e]
/-- Its state: not compiled yet, or its row stands at a place. -/
def OSt (w : World) (sb A R : Nat) (y : RX) (L : List ST) : Option Nat → Prop
  | none => w.cell? ⟨A, 0, none⟩ = some (.int .i64 (-1)) ∧ w.cell? ⟨R, 0, none⟩ = some (.slice none 0 0)
  | some a => w.cell? ⟨A, 0, none⟩ = some (.int .i64 (a : Int)) ∧ w.cell? ⟨R, 0, none⟩ = some (.slice (some ⟨sb, rof (szX y) a, none⟩) (szX y) (szX y)) ∧ a + szX y ≤ L.length ∧ (L.drop a).take (szX y) = bld y a
/-- What the states of a part are. -/
structure YOK (y : RX) : Prop where
  len : ∀ n, (bld y n).length = szX y
  good : ∀ M n, n + szX y ≤ M → ∀ s ∈ bld y n, GoodS M s
  rl : ∀ n, ∀ s ∈ bld y n, s.r.length ≤ 1099511627776
theorem OSt.cells {w : World} {sb A R : Nat} {y : RX} {L : List ST} {st : Option Nat} (h : OSt w sb A R y L st) : (∃ v, w.cell? ⟨A, 0, none⟩ = some v) ∧ ∃ v, w.cell? ⟨R, 0, none⟩ = some v := by
  cases st with
  | none => exact ⟨⟨_, h.1⟩, ⟨_, h.2⟩⟩
  | some a => exact ⟨⟨_, h.1⟩, ⟨_, h.2.1⟩⟩
theorem OSt.but {w w' : World} {sb A R : Nat} {y : RX} {L L' : List ST} {st : Option Nat} {X : Nat → Prop} (h : OSt w sb A R y L st) (hb : But X w w') (hA : ¬ X A) (hR : ¬ X R) (hL : ∀ i, i < L.length → L'[i]? = L[i]?) (hl : L.length ≤ L'.length) : OSt w' sb A R y L' st := by
  cases st with
  | none => exact ⟨cell_but h.1 hA hb, cell_but h.2 hR hb⟩
  | some a =>
    obtain ⟨h1, h2, h3, h4⟩ := h
    refine ⟨cell_but h1 hA hb, cell_but h2 hR hb, by omega, ?_⟩
    rw [← h4]
    apply List.ext_getElem?
    intro i
    rw [List.getElem?_take, List.getElem?_take]
    split
    · rw [List.getElem?_drop, List.getElem?_drop, hL _ (by omega)]
    · rfl
theorem Oft.after {wb w w' : World} {lb sb cap : Nat} {y : RX} {A Bl R Pb : Nat} {fv : Value} (h : Oft wb w lb sb cap y A Bl R Pb fv) (hb : But (two lb sb) w w') (hA : ∃ v, w.cell? ⟨A, 0, none⟩ = some v) (hR : ∃ v, w.cell? ⟨R, 0, none⟩ = some v) : Oft wb w' lb sb cap y A Bl R Pb fv := by
  obtain ⟨va, hA⟩ := hA
  obtain ⟨vr, hR⟩ := hR
  exact ⟨h.but.trans hb, h.fn, cell_but h.cl h.nl hb, cell_but h.cp h.np hb, frz_but hA h.zA h.nA.1 hb, frz_but hR h.zR h.nA.2 hb, h.nl, h.np, h.d, h.ge, h.lt⟩
/-- A store into the place or the row. -/
theorem Oft.store {wb w : World} {lb sb cap : Nat} {y : RX} {A Bl R Pb : Nat} {fv : Value} (h : Oft wb w lb sb cap y A Bl R Pb fv) (x : Nat) (hx : x = A ∨ x = R) (v : Value) : Oft wb (w.setCell ⟨x, 0, none⟩ v) lb sb cap y A Bl R Pb fv := by
  have hd := h.d
  have oth : ∀ b, b ≠ x → (w.setCell ⟨x, 0, none⟩ v).cell? ⟨b, 0, none⟩ = w.cell? ⟨b, 0, none⟩ := fun b hb => World.cell?_setCell_other _ _ _ _ (by intro e; injection e with e; exact hb e.symm)
  refine ⟨h.but.set (Or.inr (by have := h.ge; rcases hx with e | e <;> (subst e; first | exact this.1 | exact this.2))) _, h.fn, ?_, ?_, by rw [World.frozen?_setCell]; exact h.zA, by rw [World.frozen?_setCell]; exact h.zR, h.nl, h.np, h.d, h.ge, h.lt⟩
  · rw [oth Bl (by rcases hx with e | e <;> (subst e; first | exact fun e => hd.2.1 e.symm | exact fun e => hd.2.2.2.1 e.symm))]; exact h.cl
  · rw [oth Pb (by rcases hx with e | e <;> (subst e; first | exact fun e => hd.2.2.1 e.symm | exact fun e => hd.2.2.2.2 e.symm))]; exact h.cp
theorem LZ.storeZ {w : World} {lb sb cap : Nat} {Z : List Nat} {L : List ST} (h : LZ w lb sb cap Z L) (x : Nat) (hx : x ∈ Z) (v : Value) : LZ (w.setCell ⟨x, 0, none⟩ v) lb sb cap Z L :=
  h.carry (Y := fun b => b = x) (But.setS (But.refl _ _) 0 v) (fun b e => Or.inl (by rw [e]; exact hx))
/-- What the call of it leaves. -/
def OPost (wb : World) (lb sb cap : Nat) (y : RX) (A Bl R Pb : Nat) (fv : Value) (Z : List Nat) (L : List ST) (w : World) (e : Ending) (w' : World) : Prop :=
  e = .returned (.tuple #[]) ∧ LZ w' lb sb cap (A :: R :: Z) (L ++ bld y L.length) ∧ Oft wb w' lb sb cap y A Bl R Pb fv ∧ (∃ a, OSt w' sb A R y (L ++ bld y L.length) (some a)) ∧ But (fun b => two lb sb b ∨ b = A ∨ b = R) w w'
theorem But.wide {X Y : Nat → Prop} {w w' : World} (h : But X w w') (hx : ∀ b, X b → Y b) : But Y w w' := ⟨h.os, h.tape, h.output, h.size, fun k hk hy => h.block k hk (fun hx' => hy (hx k hx'))⟩
set_option maxRecDepth 100000 in
set_option maxHeartbeats 3200000 in
theorem oft1_some (wb : World) (lb sb cap : Nat) (y : RX) (hy : YOK y) (A Bl R Pb : Nat) (fv : Value) (Z : List Nat) (L : List ST) (w : World) (ho : Oft wb w lb sb cap y A Bl R Pb fv) (a : Nat) (hs : OSt w sb A R y L (some a)) (h : LZ w lb sb cap (A :: R :: Z) L) (hroom : L.length + szX y ≤ cap) :
    Calls Try.prog 58 #[.pointer (some ⟨A, 0, none⟩), .pointer (some ⟨Bl, 0, none⟩), .pointer (some ⟨R, 0, none⟩), .pointer (some ⟨Pb, 0, none⟩)] w (OPost wb lb sb cap y A Bl R Pb fv Z L w) := by
  obtain ⟨c1, c2, h3, h4⟩ := hs
  have c3 := ho.cl
  have hlen := h.len
  have hag := again_any lb sb cap (A :: R :: Z) L w h a (szX y) h3 hroom (by
    rw [h4]
    intro s hsm
    have hg := hy.good L.length a h3 s hsm
    obtain ⟨_, _, g3, g4, g5, g6, _⟩ := hg
    exact ⟨g3, by omega, g5, by omega, hy.rl a s hsm⟩)
  have hsh : ((L.drop a).take (szX y)).map (shiftS ((L.length : Int) - (a : Int))) = bld y L.length := by
    have := bld_shift (L.length - a) y a
    rw [show a + (L.length - a) = L.length by omega] at this
    rw [h4, this]
    congr 2
    omega
  rw [hsh] at hag
  have hpost : ∀ w', LZ w' lb sb cap (A :: R :: Z) (L ++ bld y L.length) → But (two lb sb) w w' → OPost wb lb sb cap y A Bl R Pb fv Z L w (.returned (.tuple #[])) w' := fun w' h1 h2 =>
    ⟨rfl, h1, ho.after h2 ⟨_, c1⟩ ⟨_, c2⟩, ⟨a, OSt.but (st := some a) (L := L) ⟨c1, c2, h3, h4⟩ h2 ho.nA.1 ho.nA.2 (fun i hi => List.getElem?_append_left hi) (by simp)⟩, h2.wide (fun b hb => Or.inl hb)⟩
  have HPO := hid_intro hpost
  have haI : (0 : Int) ≤ (a : Int) := by omega
  generalize OPost wb lb sb cap y A Bl R Pb fv Z L w = P at *
  clear hpost hsh h4 h3 hlen h hroom ho hy
  go_enter Try.func58, Try.ntmps58
  go_wp2_with fail
  refine hag.mono ?_; rintro e w1 ⟨rfl, hls, hbt⟩
  go_wp2_with fail
  go_end0
  exact HPO.out w1 hls hbt
end Go.Proofs.Ytcgohdfpmfpfiaa
