/-
  A part that is compiled the first time alone, and put again from then on. Conditions: there is room.
  A part that is compiled the first time alone: its first call; how it is made; a jump back. Conditions: there is room.
  A part so many times, and any number of times. Conditions: there is room.
-/
import Derived.Test.YtoinlmfodmgohaaGreatDoorJoined38
namespace Go.Proofs.YtoinlmfodmgohaaGreatDoor
open Go.RowKit
attribute [local go_sem] setCell_drewN alloc_drewN

set_option maxRecDepth 100000 in
set_option maxHeartbeats 1600000 in
theorem fromZ_any (lb sb cap : Nat) (Z : List Nat) (L : List ST) (w : World) (h : LZ w lb sb cap Z L) (a : Nat) (ha : a ≤ L.length) :
    Calls Tryz.prog 52 #[.pointer (some ⟨lb, 0, none⟩), .int .i64 (a : Int)] w fun e w' => e = .returned (.slice (some ⟨sb, rof (L.length - a) a, none⟩) (L.length - a) (L.length - a)) ∧ Below w.heap.size w w' := by
  have hc := h.cell.1
  have hlen := h.len
  have hLI : (L.length : Int) ≤ (cap : Int) := by omega
  have haI : (a : Int) ≤ (L.length : Int) := by omega
  have haN : (0 : Int) ≤ (a : Int) := by omega
  clear h
  by_cases hq : L.length - a = 0
  · have hea : L.length = a := by omega
    rw [hq]
    have er : rof 0 a = 0 := rfl
    rw [er]
    rw [hea] at hc
    have hcI : (a : Int) ≤ (cap : Int) := by omega
    clear hlen hLI haI hq er
    go_enter Tryz.func52, Tryz.ntmps52
    go_wp2_with fail
    go_quiet (fail)
    all_goals
      go_wp2_with fail
      go_ret
      exact ⟨rfl, by with_reducible repeat (first | exact Below.refl _ _ | refine vb_d ?_ | refine vb_n ?_ _)⟩
  · have er : rof (L.length - a) a = a * 4 := if_neg hq
    have hne : ¬ L.length - a = 0 := hq
    rw [er]
    clear er hq
    go_enter Tryz.func52, Tryz.ntmps52
    go_wp2_with fail
    go_quiet (fail)
    all_goals
      go_wp2_with fail
      go_ret
      exact ⟨rfl, by with_reducible repeat (first | exact Below.refl _ _ | refine vb_d ?_ | refine vb_n ?_ _)⟩
/-- A part as 'often' keeps it: the place of its row, the list, the row, the part itself. -/
structure Oft (wb w : World) (lb sb cap : Nat) (y : RX) (A Bl R Pb : Nat) (fv : Value) : Prop where
  but : But (two lb sb) wb w
  fn : FnOK wb lb sb cap y fv
  cl : w.cell? ⟨Bl, 0, none⟩ = some (.pointer (some ⟨lb, 0, none⟩))
  cp : w.cell? ⟨Pb, 0, none⟩ = some fv
  zA : w.frozen? ⟨A, 0, none⟩ = false
  zR : w.frozen? ⟨R, 0, none⟩ = false
  nl : ¬ two lb sb Bl
  np : ¬ two lb sb Pb
  d : A ≠ R ∧ A ≠ Bl ∧ A ≠ Pb ∧ R ≠ Bl ∧ R ≠ Pb
  ge : wb.heap.size ≤ A ∧ wb.heap.size ≤ R
  lt : lb < wb.heap.size ∧ sb < wb.heap.size
theorem Oft.nA {wb w : World} {lb sb cap : Nat} {y : RX} {A Bl R Pb : Nat} {fv : Value} (h : Oft wb w lb sb cap y A Bl R Pb fv) : ¬ two lb sb A ∧ ¬ two lb sb R := by
  have := h.ge; have := h.lt
  exact ⟨fun e => by rcases e with e | e <;> omega, fun e => by rcases e with e | e <;> omega⟩
theorem frz_but {w w' : World} {X : Nat → Prop} {b o : Nat} {v : Value} (hc : w.cell? ⟨b, o, none⟩ = some v) (h : w.frozen? ⟨b, o, none⟩ = false) (hn : ¬ X b) (hb : But X w w') : w'.frozen? ⟨b, o, none⟩ = false := by
  have e := hb.block b (World.block_lt_of_cell? w _ hc) hn
  rw [← h]; simp only [World.frozen?, e]
/-- Its state: not compiled yet, or its row stands at a place. -/
def OSt (w : World) (sb A R : Nat) (y : RX) (L : List ST) : Option Nat → Prop
  | none => w.cell? ⟨A, 0, none⟩ = some (.int .i64 (-1)) ∧ w.cell? ⟨R, 0, none⟩ = some (.slice none 0 0)
  | some a => w.cell? ⟨A, 0, none⟩ = some (.int .i64 (a : Int)) ∧ w.cell? ⟨R, 0, none⟩ = some (.slice (some ⟨sb, rof (szX y) a, none⟩) (szX y) (szX y)) ∧ a + szX y ≤ L.length ∧ (L.drop a).take (szX y) = bld y a
/-- What the states of a part are. -/
structure YOK (y : RX) : Prop where
  len : ∀ n, (bld y n).length = szX y
  good : ∀ M n, n + szX y ≤ M → ∀ s ∈ bld y n, GoodS M s
  rl : ∀ n, ∀ s ∈ bld y n, s.r.length ≤ 1099511627776
theorem OSt.cells {w : World} {sb A R : Nat} {y : RX} {L : List ST} {st : Option Nat} (h : OSt w sb A R y L st) : (∃ v, w.cell? ⟨A, 0, none⟩ = some v) ∧ ∃ v, w.cell? ⟨R, 0, none⟩ = some v := by
  cases st with
  | none => exact ⟨⟨_, h.1⟩, ⟨_, h.2⟩⟩
  | some a => exact ⟨⟨_, h.1⟩, ⟨_, h.2.1⟩⟩
theorem OSt.but {w w' : World} {sb A R : Nat} {y : RX} {L L' : List ST} {st : Option Nat} {X : Nat → Prop} (h : OSt w sb A R y L st) (hb : But X w w') (hA : ¬ X A) (hR : ¬ X R) (hL : ∀ i, i < L.length → L'[i]? = L[i]?) (hl : L.length ≤ L'.length) : OSt w' sb A R y L' st := by
  cases st with
  | none => exact ⟨cell_but h.1 hA hb, cell_but h.2 hR hb⟩
  | some a =>
    obtain ⟨h1, h2, h3, h4⟩ := h
    refine ⟨cell_but h1 hA hb, cell_but h2 hR hb, by omega, ?_⟩
    rw [← h4]
    apply List.ext_getElem?
    intro i
    rw [List.getElem?_take, List.getElem?_take]
    split
    · rw [List.getElem?_drop, List.getElem?_drop, hL _ (by omega)]
    · rfl
theorem Oft.after {wb w w' : World} {lb sb cap : Nat} {y : RX} {A Bl R Pb : Nat} {fv : Value} (h : Oft wb w lb sb cap y A Bl R Pb fv) (hb : But (two lb sb) w w') (hA : ∃ v, w.cell? ⟨A, 0, none⟩ = some v) (hR : ∃ v, w.cell? ⟨R, 0, none⟩ = some v) : Oft wb w' lb sb cap y A Bl R Pb fv := by
  obtain ⟨va, hA⟩ := hA
  obtain ⟨vr, hR⟩ := hR
  exact ⟨h.but.trans hb, h.fn, cell_but h.cl h.nl hb, cell_but h.cp h.np hb, frz_but hA h.zA h.nA.1 hb, frz_but hR h.zR h.nA.2 hb, h.nl, h.np, h.d, h.ge, h.lt⟩
/-- A store into the place or the row. -/
theorem Oft.store {wb w : World} {lb sb cap : Nat} {y : RX} {A Bl R Pb : Nat} {fv : Value} (h : Oft wb w lb sb cap y A Bl R Pb fv) (x : Nat) (hx : x = A ∨ x = R) (v : Value) : Oft wb (w.setCell ⟨x, 0, none⟩ v) lb sb cap y A Bl R Pb fv := by
  have hd := h.d
  have oth : ∀ b, b ≠ x → (w.setCell ⟨x, 0, none⟩ v).cell? ⟨b, 0, none⟩ = w.cell? ⟨b, 0, none⟩ := fun b hb => World.cell?_setCell_other _ _ _ _ (by intro e; injection e with e; exact hb e.symm)
  refine ⟨h.but.set (Or.inr (by have := h.ge; rcases hx with e | e <;> (subst e; first | exact this.1 | exact this.2))) _, h.fn, ?_, ?_, by rw [World.frozen?_setCell]; exact h.zA, by rw [World.frozen?_setCell]; exact h.zR, h.nl, h.np, h.d, h.ge, h.lt⟩
  · rw [oth Bl (by rcases hx with e | e <;> (subst e; first | exact fun e => hd.2.1 e.symm | exact fun e => hd.2.2.2.1 e.symm))]; exact h.cl
  · rw [oth Pb (by rcases hx with e | e <;> (subst e; first | exact fun e => hd.2.2.1 e.symm | exact fun e => hd.2.2.2.2 e.symm))]; exact h.cp
theorem LZ.storeZ {w : World} {lb sb cap : Nat} {Z : List Nat} {L : List ST} (h : LZ w lb sb cap Z L) (x : Nat) (hx : x ∈ Z) (v : Value) : LZ (w.setCell ⟨x, 0, none⟩ v) lb sb cap Z L :=
  h.carry (Y := fun b => b = x) (But.setS (But.refl _ _) 0 v) (fun b e => Or.inl (by rw [e]; exact hx))
/-- What the call of it leaves. -/
def OPost (wb : World) (lb sb cap : Nat) (y : RX) (A Bl R Pb : Nat) (fv : Value) (Z : List Nat) (L : List ST) (w : World) (e : Ending) (w' : World) : Prop :=
  e = .returned (.tuple #[]) ∧ LZ w' lb sb cap (A :: R :: Z) (L ++ bld y L.length) ∧ Oft wb w' lb sb cap y A Bl R Pb fv ∧ (∃ a, OSt w' sb A R y (L ++ bld y L.length) (some a)) ∧ But (fun b => two lb sb b ∨ b = A ∨ b = R) w w'
theorem But.wide {X Y : Nat → Prop} {w w' : World} (h : But X w w') (hx : ∀ b, X b → Y b) : But Y w w' := ⟨h.os, h.tape, h.output, h.size, fun k hk hy => h.block k hk (fun hx' => hy (hx k hx'))⟩
set_option maxRecDepth 100000 in
set_option maxHeartbeats 3200000 in
theorem oft1_some (wb : World) (lb sb cap : Nat) (y : RX) (hy : YOK y) (A Bl R Pb : Nat) (fv : Value) (Z : List Nat) (L : List ST) (w : World) (ho : Oft wb w lb sb cap y A Bl R Pb fv) (a : Nat) (hs : OSt w sb A R y L (some a)) (h : LZ w lb sb cap (A :: R :: Z) L) (hroom : L.length + szX y ≤ cap) :
    Calls Tryz.prog 132 #[.pointer (some ⟨A, 0, none⟩), .pointer (some ⟨Bl, 0, none⟩), .pointer (some ⟨R, 0, none⟩), .pointer (some ⟨Pb, 0, none⟩)] w (OPost wb lb sb cap y A Bl R Pb fv Z L w) := by
  obtain ⟨c1, c2, h3, h4⟩ := hs
  have c3 := ho.cl
  have hlen := h.len
  have hag := again_any lb sb cap (A :: R :: Z) L w h a (szX y) h3 hroom (by
    rw [h4]
    intro s hsm
    have hg := hy.good L.length a h3 s hsm
    obtain ⟨_, _, g3, g4, g5, g6, _⟩ := hg
    exact ⟨g3, by omega, g5, by omega, hy.rl a s hsm⟩)
  have hsh : ((L.drop a).take (szX y)).map (shiftS ((L.length : Int) - (a : Int))) = bld y L.length := by
    have := bld_shift (L.length - a) y a
    rw [show a + (L.length - a) = L.length by omega] at this
    rw [h4, this]
    congr 2
    omega
  rw [hsh] at hag
  have hpost : ∀ w', LZ w' lb sb cap (A :: R :: Z) (L ++ bld y L.length) → But (two lb sb) w w' → OPost wb lb sb cap y A Bl R Pb fv Z L w (.returned (.tuple #[])) w' := fun w' h1 h2 =>
    ⟨rfl, h1, ho.after h2 ⟨_, c1⟩ ⟨_, c2⟩, ⟨a, OSt.but (st := some a) (L := L) ⟨c1, c2, h3, h4⟩ h2 ho.nA.1 ho.nA.2 (fun i hi => List.getElem?_append_left hi) (by simp)⟩, h2.wide (fun b hb => Or.inl hb)⟩
  have HPO := hid_intro hpost
  have haI : (0 : Int) ≤ (a : Int) := by omega
  generalize OPost wb lb sb cap y A Bl R Pb fv Z L w = P at *
  clear hpost hsh h4 h3 hlen h hroom ho hy
  go_enter Tryz.func132, Tryz.ntmps132
  go_wp2_with fail
  refine hag.mono ?_; rintro e w1 ⟨rfl, hls, hbt⟩
  go_wp2_with fail
  go_end0
  exact HPO.out w1 hls hbt
end Go.Proofs.YtoinlmfodmgohaaGreatDoor

namespace Go.Proofs.YtoinlmfodmgohaaGreatDoor
open Go.RowKit
attribute [local go_sem] setCell_drewN alloc_drewN

theorem LZ.apartN {w w' : World} {lb sb cap : Nat} {Z : List Nat} {L : List ST} (h : LZ w lb sb cap Z L) (hb : Below w.heap.size w w') (N : List Nat) (hN : ∀ z ∈ N, w.heap.size ≤ z ∧ z < w'.heap.size) : LZ w' lb sb cap (N ++ Z) L := by
  have hlt := h.lt
  obtain ⟨M, e0, e1, e2, e3, e4, e5, e6, e7⟩ := h.below hb
  obtain ⟨M', f0, f1, f2, f3, f4, f5, f6, f7⟩ := h
  have hM : ∀ p ∈ M', RI w' (thr lb sb (N ++ Z)) p.1.r p.2 := fun p hp => (f5 p hp).carry (fun b hx hl => ⟨hb.block b hl, fun hy => by
    rcases hy with hy | hy | hy
    · exact hx (Or.inl hy)
    · exact hx (Or.inr (Or.inl hy))
    · rcases List.mem_append.1 hy with hy | hy
      · have := (hN b hy).1; omega
      · exact hx (Or.inr (Or.inr hy))⟩)
  have ho : w'.ownsRow 0 94 4 (.slice (some ⟨sb, 0, none⟩) L.length cap) L.length (flatS M') := f4.kept (row := none) ⟨hb.os, hb.tape, hb.output, hb.size, fun b hl _ => hb.block b hl⟩ (Or.inr (fun e => by cases e))
  exact ⟨M', f0, e1, e2, e3, ho, hM, e6, fun y hy => by
    rcases List.mem_append.1 hy with hy | hy
    · have := hN y hy; exact ⟨this.2, by omega, by omega⟩
    · exact e7 y hy⟩
/-- A last state, in a region that does not draw. -/
theorem wpList_append_stZ {w : World} {ops : Array Oper} {rest : List Oper} {o : Oper} {a : Act} {Q : Exit → Act → World → Prop} (hgd : o.guard = none) (s x : Operand)
    (ho : o.op = .call { callee := .builtin .append, args := #[s, x], argTypes := #[24, 24] }) (sb n cap : Nat) (xs : List Value) (hs : a.eval s = .slice (some ⟨sb, 0, none⟩) n cap)
    (c0 c1 c2 c3 : Value) (t : Nat) (ht : w.heap.size = t) (hx : a.eval x = .slice (some ⟨t, 0, none⟩) 1 1) (hroom : n + 1 ≤ cap) (hone : c0.oneCell' = true ∧ c1.oneCell' = true ∧ c2.oneCell' = true ∧ c3.oneCell' = true)
    (hown : w.ownsRow 0 94 4 (.slice (some ⟨sb, 0, none⟩) n cap) n xs)
    (h : ∀ w', w'.ownsRow 0 94 4 (.slice (some ⟨sb, 0, none⟩) (n + 1) cap) (n + 1) (xs ++ [c0, c1, c2, c3]) → (w.alloc (.cells #[c0, c1, c2, c3] 94)).grownBy w' (some sb) → wpList Tryz.prog ops Q rest (a.put o.dst (.slice (some ⟨sb, 0, none⟩) (n + 1) cap)) w') :
    wpList Tryz.prog ops Q (o :: rest) a (w.alloc (.cells #[c0, c1, c2, c3] 94)) := by
  subst ht
  obtain ⟨i0, hi, hz0, hz1, hz2⟩ := info_parts infoState
  have hT : Bk (w.alloc (.cells #[c0, c1, c2, c3] 94)) w.heap.size #[c0, c1, c2, c3] := Bk.new _ _ _
  exact wpList_append_fits _ hgd s x 24 ho 0 94 i0 4 Tryz.underlying24 hi hz1 sb n cap xs hs (hown.alloc _) ⟨w.heap.size, 0, none⟩ 1 1 [c0, c1, c2, c3] hx rfl (fun j u hj => by
    rw [add_at, hT.cell]
    match j, hj with
    | 0, hj => exact hj
    | 1, hj => exact hj
    | 2, hj => exact hj
    | 3, hj => exact hj) (fun u hu => by
    simp at hu
    rcases hu with rfl | rfl | rfl | rfl
    · exact hone.1
    · exact hone.2.1
    · exact hone.2.2.1
    · exact hone.2.2.2) hroom h
set_option maxRecDepth 100000 in
set_option maxHeartbeats 3200000 in
theorem oft1_none (wb : World) (lb sb cap : Nat) (y : RX) (hy : YOK y) (A Bl R Pb : Nat) (fv : Value) (Z : List Nat) (L : List ST) (w : World) (ho : Oft wb w lb sb cap y A Bl R Pb fv) (hs : OSt w sb A R y L none) (h : LZ w lb sb cap (A :: R :: Z) L) (hroom : L.length + szX y ≤ cap) :
    Calls Tryz.prog 132 #[.pointer (some ⟨A, 0, none⟩), .pointer (some ⟨Bl, 0, none⟩), .pointer (some ⟨R, 0, none⟩), .pointer (some ⟨Pb, 0, none⟩)] w (OPost wb lb sb cap y A Bl R Pb fv Z L w) := by
  obtain ⟨c1, c2⟩ := hs
  have c3 := ho.cl
  have hnx := nextZ_any lb sb cap (A :: R :: Z) L w h
  obtain ⟨fnum, caps, rfl, hent, hcall⟩ := ho.fn
  have HYO := hid_intro hy
  have HO := hid_intro ho
  have HH := hid_intro h
  have HRO := hid_intro hroom
  have HC := hid_intro (And.intro c1 c2)
  have HCL := hid_intro hcall
  obtain ⟨P, hP⟩ : ∃ P, P = OPost wb lb sb cap y A Bl R Pb (.func (.func fnum) #[] caps) Z L w := ⟨_, rfl⟩
  rw [← hP]
  have HP := hid_intro hP
  clear hP ho h hroom hy hcall
  go_enter Tryz.func132, Tryz.ntmps132
  go_wp2_with fail
  refine hnx.mono ?_; rintro e w1 ⟨rfl, hb1⟩
  have hA1 : w1.cell? ⟨A, 0, none⟩ = some (.int .i64 (-1)) := cell_but HC.out.1 HO.out.nA.1 (But.ofBelow hb1)
  have ho1 := HO.out.after (But.ofBelow hb1) ⟨_, HC.out.1⟩ ⟨_, HC.out.2⟩
  have hzA := ho1.zA
  obtain ⟨W2, hW2⟩ : ∃ W2, w1.setCell ⟨A, 0, none⟩ (.int .i64 (L.length : Int)) = W2 := ⟨_, rfl⟩
  have ho2 : Oft wb W2 lb sb cap y A Bl R Pb (.func (.func fnum) #[] caps) := hW2 ▸ ho1.store A (Or.inl rfl) _
  have hls2 : LZ W2 lb sb cap (A :: R :: Z) L := hW2 ▸ (HH.out.below hb1).storeZ A (by simp) _
  have hb2 : But (fun b => two lb sb b ∨ b = A ∨ b = R) w W2 := hW2 ▸ (But.set (But.ofBelow hb1) (Or.inl (Or.inr (Or.inl rfl))) _)
  have a2 : W2.cell? ⟨A, 0, none⟩ = some (.int .i64 (L.length : Int)) := by rw [← hW2, World.cell?_setCell_same _ _ _ hA1]
  have r2 : W2.cell? ⟨R, 0, none⟩ = some (.slice none 0 0) := by
    rw [← hW2, World.cell?_setCell_other _ _ _ _ (by intro e; injection e with e; exact HO.out.d.1 e)]
    exact cell_but HC.out.2 HO.out.nA.2 (But.ofBelow hb1)
  have hc2 := HCL.out W2 (A :: R :: Z) L ho2.but hls2 HRO.out
  have p2 := ho2.cp
  have HO2 := hid_intro ho2
  have HB2 := hid_intro hb2
  have HA2 := hid_intro (And.intro a2 r2)
  clear hnx hb1 ho1 hls2 hb2 a2 r2 ho2 c1 c2 c3
  go_wp2_with fail
  refine hc2.mono ?_; rintro e w3 ⟨rfl, hls3, hbt3⟩
  have ho3 := HO2.out.after hbt3 ⟨_, HA2.out.1⟩ ⟨_, HA2.out.2⟩
  have a3 := cell_but HA2.out.1 HO2.out.nA.1 hbt3
  have r3 := cell_but HA2.out.2 HO2.out.nA.2 hbt3
  have l3 := ho3.cl
  have hfr := fromZ_any lb sb cap _ _ w3 hls3 L.length (by simp)
  have HL3 := hid_intro hls3
  have HO3 := hid_intro ho3
  have HAR3 := hid_intro (And.intro a3 r3)
  have HB3 := hid_intro hbt3
  clear hc2 hls3 hbt3 ho3 r3 p2 hA1 hzA hW2
  go_wp2_with fail
  refine hfr.mono ?_; rintro e w4 ⟨rfl, hb4⟩
  have r4 := cell_but HAR3.out.2 HO3.out.nA.2 (But.ofBelow hb4)
  have ho4 := HO3.out.after (But.ofBelow hb4) ⟨_, HAR3.out.1⟩ ⟨_, HAR3.out.2⟩
  have hzR := ho4.zR
  have HR4 := hid_intro r4
  have HO4 := hid_intro ho4
  have HB4 := hid_intro hb4
  clear hfr hb4 ho4 a3 l3
  go_wp2_with fail
  go_end0
  rw [HP.out]
  have hlen := HYO.out.len L.length
  rw [hlen]
  refine ⟨rfl, (HL3.out.below HB4.out).storeZ R (by simp) _, HO4.out.store R (Or.inr rfl) _, ⟨L.length, ?_, ?_, ?_, ?_⟩, ?_⟩
  · rw [World.cell?_setCell_other _ _ _ _ (by intro e; injection e with e; exact HO4.out.d.1 e.symm)]
    exact cell_but HAR3.out.1 HO3.out.nA.1 (But.ofBelow HB4.out)
  · rw [World.cell?_setCell_same _ _ _ HR4.out]
  · rw [List.length_append, hlen]; exact Nat.le_refl _
  · rw [List.drop_left, List.take_of_length_le (by rw [hlen]; exact Nat.le_refl _)]
  · exact ((HB2.out.trans (HB3.out.wide (fun b hb => Or.inl hb))).below HB4.out).set (Or.inl (Or.inr (Or.inr rfl))) _
/-- .. in whatever state. -/
theorem oft1_any (wb : World) (lb sb cap : Nat) (y : RX) (hy : YOK y) (A Bl R Pb : Nat) (fv : Value) (Z : List Nat) (L : List ST) (w : World) (ho : Oft wb w lb sb cap y A Bl R Pb fv) (st : Option Nat) (hs : OSt w sb A R y L st) (h : LZ w lb sb cap (A :: R :: Z) L) (hroom : L.length + szX y ≤ cap) :
    Calls Tryz.prog 132 #[.pointer (some ⟨A, 0, none⟩), .pointer (some ⟨Bl, 0, none⟩), .pointer (some ⟨R, 0, none⟩), .pointer (some ⟨Pb, 0, none⟩)] w (OPost wb lb sb cap y A Bl R Pb fv Z L w) := by
  cases st with
  | none => exact oft1_none wb lb sb cap y hy A Bl R Pb fv Z L w ho hs h hroom
  | some a => exact oft1_some wb lb sb cap y hy A Bl R Pb fv Z L w ho a hs h hroom
set_option maxRecDepth 100000 in
set_option maxHeartbeats 1600000 in
theorem often_any (lb sb cap : Nat) (y : RX) (fv : Value) (Z : List Nat) (L : List ST) (w : World) (hf : FnOK w lb sb cap y fv) (h : LZ w lb sb cap Z L) :
    Calls Tryz.prog 112 #[.pointer (some ⟨lb, 0, none⟩), fv] w fun e w' => ∃ A Bl R Pb, e = .returned (.func (.func 132) #[] #[.pointer (some ⟨A, 0, none⟩), .pointer (some ⟨Bl, 0, none⟩), .pointer (some ⟨R, 0, none⟩), .pointer (some ⟨Pb, 0, none⟩)]) ∧ Oft w w' lb sb cap y A Bl R Pb fv ∧ OSt w' sb A R y L none ∧ LZ w' lb sb cap (A :: R :: Z) L ∧ Below w.heap.size w w' := by
  have hlt := h.lt
  have hff := hf
  obtain ⟨fnum, caps, rfl, _, _⟩ := hf
  obtain ⟨W, hW⟩ : ∃ W, (((w.alloc (.cells #[.pointer (some ⟨lb, 0, none⟩)] 88)).alloc (.cells #[.func (.func fnum) #[] caps] 1)).alloc (.cells #[.slice none 0 0] 24)).alloc (.cells #[.int .i64 (-1)] 3) = W := ⟨_, rfl⟩
  have hbW : Below w.heap.size w W := hW ▸ vb_a (vb_a (vb_a (vb_a (Below.refl _ _) _) _) _) _
  have hsz : W.heap.size = w.heap.size + 4 := by rw [← hW]; simp
  have k1 : Bk W w.heap.size #[.pointer (some ⟨lb, 0, none⟩)] := hW ▸ (((Bk.new _ _ _).al _).al _).al _
  have k2 : Bk W (w.heap.size + 1) #[.func (.func fnum) #[] caps] := hW ▸ ((Bk.new' _ _ _ _ (by simp)).al _).al _
  have k3 : Bk W (w.heap.size + 2) #[.slice none 0 0] := hW ▸ (Bk.new' _ _ _ _ (by simp)).al _
  have k4 : Bk W (w.heap.size + 3) #[.int .i64 (-1)] := hW ▸ Bk.new' _ _ _ _ (by simp)
  have ho : Oft w W lb sb cap y (w.heap.size + 3) w.heap.size (w.heap.size + 2) (w.heap.size + 1) (.func (.func fnum) #[] caps) :=
    ⟨But.ofBelow hbW, hff, k1.cell 0, k2.cell 0, k4.frz 0, k3.frz 0, fun e => by rcases e with e | e <;> omega, fun e => by rcases e with e | e <;> omega, by omega, by omega, hlt⟩
  have hls : LZ W lb sb cap ((w.heap.size + 3) :: (w.heap.size + 2) :: Z) L := h.apartN hbW [w.heap.size + 3, w.heap.size + 2] (fun z hz => by simp at hz; omega)
  have hst : OSt W sb (w.heap.size + 3) (w.heap.size + 2) y L none := ⟨k4.cell 0, k3.cell 0⟩
  have HF := hid_intro (And.intro ho (And.intro hst (And.intro hls hbW)))
  have HW := hid_intro hW
  have hmf : ∀ (fn : Fn) (first cap : Array Value) (w : World), (Instr.makeFunc fn first cap).run Tryz.prog w = .ok (.func fn first cap) w := fun _ _ _ _ => rfl
  clear ho hst hls hbW k1 k2 k3 k4 hsz hW hlt hff h
  go_enter Tryz.func112, Tryz.ntmps112
  go_wp2_with fail
  go_ret
  rw [HW.out]
  exact ⟨_, _, _, _, rfl, HF.out⟩
set_option maxRecDepth 100000 in
set_option maxHeartbeats 1600000 in
theorem jumpBack_any (lb sb cap : Nat) (Z : List Nat) (L : List ST) (w : World) (h : LZ w lb sb cap Z L) (hroom : L.length + 1 ≤ cap) (to : Int) :
    Calls Tryz.prog 134 #[.pointer (some ⟨lb, 0, none⟩), .int .i64 to] w fun e w' => e = .returned (.tuple #[]) ∧ LZ w' lb sb cap Z (L ++ [⟨2, [], to, to⟩]) ∧ But (two lb sb) w w' := by
  obtain ⟨l0, z0⟩ := h.cell
  have HH := hid_intro h
  have hlt := h.lt
  have hne := h.ne
  obtain ⟨M, hM, _, _, _, hown, hRs, _, _⟩ := h
  have HM := hid_intro (And.intro hM hRs)
  have HKEEP : Hid (∀ w6, (w.alloc (.cells #[.int .i64 2, .slice none 0 0, .int .i64 to, .int .i64 to] 94)).grownBy w6 (some sb) → w6.cell? ⟨lb, 0, none⟩ = some (.slice (some ⟨sb, 0, none⟩) L.length cap) ∧ w6.frozen? ⟨lb, 0, none⟩ = false) := hid_intro (fun w6 hg => by
    have e : w6.heap[lb]? = w.heap[lb]? := (hg.block _ (by simp; omega) (fun e => hne (by injection e))).trans ((vb_a (Below.refl _ _) _).block _ hlt.1)
    exact ⟨(World.cell?_of_block (w := w) (w' := w6) e).trans l0, by rw [← z0]; simp only [World.frozen?, e]⟩)
  clear hM hRs hlt hne
  go_enter Tryz.func134, Tryz.ntmps134
  go_wp2_with (at_builtin; refine wpList_append_stZ rfl _ _ rfl sb L.length cap (flatS M) rfl (.int .i64 2) (.slice none 0 0) (.int .i64 to) (.int .i64 to) _ rfl rfl hroom ⟨rfl, rfl, rfl, rfl⟩ hown ?_; intro w6 ho6 hg6; obtain ⟨l6, z6⟩ := HKEEP.out w6 hg6)
  have hput := LZ.put (w := w) (lb := lb) (sb := sb) (cap := cap) (Z := Z) (L := L) ⟨2, [], to, to⟩ (.slice none 0 0) M HM.out.1 HH.out HM.out.2 (vb_a (Below.refl _ _) _) hg6 ho6 (Or.inr ⟨rfl, rfl⟩)
  go_wp2_with fail
  go_end0
  exact ⟨rfl, hput⟩
end Go.Proofs.YtoinlmfodmgohaaGreatDoor

namespace Go.Proofs.YtoinlmfodmgohaaGreatDoor
open Go.RowKit
attribute [local go_sem] setCell_drewN alloc_drewN

/-- All that is known while a count is compiled. -/
def Run (wb w : World) (lb sb cap : Nat) (y : RX) (A Bl R Pb : Nat) (fv : Value) (Z : List Nat) (L : List ST) : Prop :=
  Oft wb w lb sb cap y A Bl R Pb fv ∧ (∃ st, OSt w sb A R y L st) ∧ LZ w lb sb cap (A :: R :: Z) L
/-- The blocks that are written. -/
def four (lb sb A R : Nat) : Nat → Prop := fun b => two lb sb b ∨ b = A ∨ b = R
theorem Run.below {wb w w' : World} {lb sb cap : Nat} {y : RX} {A Bl R Pb : Nat} {fv : Value} {Z : List Nat} {L : List ST} (h : Run wb w lb sb cap y A Bl R Pb fv Z L) (hb : Below w.heap.size w w') : Run wb w' lb sb cap y A Bl R Pb fv Z L := by
  obtain ⟨h1, ⟨st, h2⟩, h3⟩ := h
  exact ⟨h1.after (But.ofBelow hb) h2.cells.1 h2.cells.2, ⟨st, h2.but (X := fun _ => False) (But.ofBelow hb) (fun h => h) (fun h => h) (fun _ _ => rfl) (Nat.le_refl _)⟩, h3.below hb⟩
theorem Run.more {wb w w' : World} {lb sb cap : Nat} {y : RX} {A Bl R Pb : Nat} {fv : Value} {Z : List Nat} {L T : List ST} (h : Run wb w lb sb cap y A Bl R Pb fv Z L) (hl : LZ w' lb sb cap (A :: R :: Z) (L ++ T)) (hb : But (two lb sb) w w') : Run wb w' lb sb cap y A Bl R Pb fv Z (L ++ T) := by
  obtain ⟨h1, ⟨st, h2⟩, h3⟩ := h
  exact ⟨h1.after hb h2.cells.1 h2.cells.2, ⟨st, h2.but hb h1.nA.1 h1.nA.2 (fun i hi => List.getElem?_append_left hi) (by simp)⟩, hl⟩
theorem run_call (wb : World) (lb sb cap : Nat) (y : RX) (hy : YOK y) (A Bl R Pb : Nat) (fv : Value) (Z : List Nat) (L : List ST) (w : World) (h : Run wb w lb sb cap y A Bl R Pb fv Z L) (hroom : L.length + szX y ≤ cap) :
    Calls Tryz.prog 132 #[.pointer (some ⟨A, 0, none⟩), .pointer (some ⟨Bl, 0, none⟩), .pointer (some ⟨R, 0, none⟩), .pointer (some ⟨Pb, 0, none⟩)] w fun e w' => e = .returned (.tuple #[]) ∧ Run wb w' lb sb cap y A Bl R Pb fv Z (L ++ bld y L.length) ∧ But (four lb sb A R) w w' := by
  obtain ⟨h1, ⟨st, h2⟩, h3⟩ := h
  exact (oft1_any wb lb sb cap y hy A Bl R Pb fv Z L w h1 st h2 h3 hroom).mono fun e w' ⟨q1, q2, q3, ⟨a, q4⟩, q5⟩ => ⟨q1, ⟨q3, ⟨some a, q4⟩, q2⟩, q5⟩
theorem rep_nil (g : Nat → List ST) (q : Nat) (hg : ∀ n, g n = []) : ∀ c n, rep g q n c = []
  | 0, _ => rfl
  | c + 1, n => by rw [rep, hg, rep_nil g q hg c]; rfl
set_option maxRecDepth 100000 in
set_option maxHeartbeats 3200000 in
theorem listTimes_any (wb : World) (lb sb cap : Nat) (y : RX) (hy : YOK y) (A Bl R Pb : Nat) (fv : Value) (Z : List Nat) (L : List ST) (w : World) (h : Run wb w lb sb cap y A Bl R Pb fv Z L) (n : Nat) (hn : n ≤ 1000) (hroom : L.length + n * szX y ≤ cap) :
    Calls Tryz.prog 113 #[.pointer (some ⟨lb, 0, none⟩), .int .i64 (n : Int), .func (.func 132) #[] #[.pointer (some ⟨A, 0, none⟩), .pointer (some ⟨Bl, 0, none⟩), .pointer (some ⟨R, 0, none⟩), .pointer (some ⟨Pb, 0, none⟩)]] w fun e w' => e = .returned (.tuple #[]) ∧ Run wb w' lb sb cap y A Bl R Pb fv Z (L ++ rep (bld y) (szX y) L.length n) ∧ But (four lb sb A R) w w' := by
  obtain ⟨P, hP⟩ : ∃ P : Ending → World → Prop, P = fun e w' => e = .returned (.tuple #[]) ∧ Run wb w' lb sb cap y A Bl R Pb fv Z (L ++ rep (bld y) (szX y) L.length n) ∧ But (four lb sb A R) w w' := ⟨_, rfl⟩
  rw [← hP]
  have HP := hid_intro hP
  clear hP
  have hcs : ∀ i, (L ++ rep (bld y) (szX y) L.length i).length = L.length + i * szX y := fun i => by rw [List.length_append, rep_len _ _ hy.len]
  have HNX : Hid (∀ w' L', LZ w' lb sb cap (A :: R :: Z) L' → Calls Tryz.prog 129 #[.pointer (some ⟨lb, 0, none⟩)] w' fun e w2 => e = .returned (.int .i64 (L'.length : Int)) ∧ Below w'.heap.size w' w2) := hid_intro (fun w' L' h => nextZ_any lb sb cap _ L' w' h)
  have HRC := hid_intro (fun L' w' (h : Run wb w' lb sb cap y A Bl R Pb fv Z L') hr => run_call wb lb sb cap y hy A Bl R Pb fv Z L' w' h hr)
  have HH := hid_intro h
  have HM := hid_intro (And.intro hroom (And.intro hcs (And.intro hn hy)))
  have hnI : (n : Int) ≤ 1000 := by omega
  clear h hroom hcs hn hy
  go_enter Tryz.func113, Tryz.ntmps113
  go_wp2_with fail
  go_loopg [8] n (fun m s8 wr => ∃ i : Nat, i ≤ n ∧ m = n - i ∧ s8 = .int .i64 (i : Int) ∧ Hid (Run wb wr lb sb cap y A Bl R Pb fv Z (L ++ rep (bld y) (szX y) L.length i) ∧ But (four lb sb A R) w wr))
  case atStart => exact ⟨0, Nat.zero_le _, rfl, rfl, by simpa [rep] using HH.out, But.refl _ _⟩
  case round =>
    obtain ⟨i, hi, rfl, rfl, HZ⟩ := hrel
    by_cases hlt : i < n
    · have hJ : (i : Int) < (n : Int) := by omega
      have hmul : (i + 1) * szX y ≤ n * szX y := Nat.mul_le_mul_right _ (by omega)
      rw [Nat.succ_mul] at hmul
      have hnx := HNX.out wr _ HZ.out.1.2.2
      rw [HM.out.2.1] at hnx
      obtain ⟨n1, hn1⟩ : ∃ n1 : Int, ((L.length + i * szX y : Nat) : Int) = n1 := ⟨_, rfl⟩
      obtain ⟨n2, hn2⟩ : ∃ n2 : Int, ((L.length + i * szX y + szX y : Nat) : Int) = n2 := ⟨_, rfl⟩
      rw [hn1] at hnx
      have HN12 := hid_intro (And.intro hn1 hn2)
      clear hn1 hn2
      have HML := hid_intro hmul
      clear hmul
      go_wp2_with fail
      refine hnx.mono ?_; rintro e w1 ⟨rfl, hb1⟩
      have hcall := HRC.out _ w1 (HZ.out.1.below hb1) (by rw [HM.out.2.1]; have := HM.out.1; have := HML.out; omega)
      rw [HM.out.2.1] at hcall
      have HB1 := hid_intro hb1
      clear hnx hb1
      go_wp2_with fail
      refine hcall.mono ?_; rintro e w2 ⟨rfl, hrun2, hbt2⟩
      have hnx2 := HNX.out w2 _ hrun2.2.2
      have el : ((L ++ rep (bld y) (szX y) L.length i) ++ bld y (L.length + i * szX y)).length = L.length + i * szX y + szX y := by rw [List.length_append, HM.out.2.1, HM.out.2.2.2.len]
      rw [el, HN12.out.2] at hnx2
      have HR2 := hid_intro hrun2
      have HB2 := hid_intro ((HZ.out.2.below HB1.out).trans hbt2)
      clear hcall hrun2 hbt2 el
      by_cases h0 : szX y = 0
      · have hnil : ∀ n, bld y n = [] := fun n => List.eq_nil_of_length_eq_zero (by rw [HM.out.2.2.2.len, h0])
        have HNL := hid_intro hnil
        have he : n2 = n1 := by have := HN12.out; omega
        subst he
        clear hnil h0
        go_wp2_with fail
        refine hnx2.mono ?_; rintro e w3 ⟨rfl, hb3⟩
        have HN4 : Hid (Run wb w3 lb sb cap y A Bl R Pb fv Z (L ++ rep (bld y) (szX y) L.length n) ∧ But (four lb sb A R) w w3) := hid_intro ⟨by
          have h := HR2.out.below hb3
          rw [rep_nil _ _ HNL.out, HNL.out, List.append_nil] at h
          rw [rep_nil _ _ HNL.out]; exact h, HB2.out.below hb3⟩
        clear hb3 hnx2
        go_wp2_with fail
        refine bodyPost_ret (v := .tuple #[]) (results_none rfl _ _ _) rfl ?_
        rw [HP.out]
        exact ⟨rfl, HN4.out⟩
      · have hne : ¬ n2 = n1 := by have := HN12.out; omega
        have HN3 : Hid (Run wb w2 lb sb cap y A Bl R Pb fv Z (L ++ rep (bld y) (szX y) L.length (i + 1))) := hid_intro (by
          rw [rep_snoc, ← List.append_assoc]; exact HR2.out)
        clear h0
        go_wp2_with fail
        refine hnx2.mono ?_; rintro e w3 ⟨rfl, hb3⟩
        have HN4 := hid_intro (And.intro (HN3.out.below hb3) (HB2.out.below hb3))
        clear hb3 hnx2
        go_wp2_with fail
        go_roundg (n - (i + 1))
        case measure => omega
        case rel => exact ⟨i + 1, by omega, rfl, by simp, HN4⟩
    · have hJ : ¬ (i : Int) < (n : Int) := by omega
      have hin : i = n := by omega
      go_wp2_with fail
      go_end0
      rw [HP.out]
      have := HZ.out
      rw [hin] at this
      exact ⟨rfl, this⟩
end Go.Proofs.YtoinlmfodmgohaaGreatDoor
