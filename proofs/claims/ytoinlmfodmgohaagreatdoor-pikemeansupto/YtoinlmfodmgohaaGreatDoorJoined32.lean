/-
  A part that is compiled the first time alone: its first call; how it is made; a jump back. Conditions: there is room.
  A part so many times, and any number of times. Conditions: there is room.
  A part any number of times. Conditions: there is room.
  A part that may come, so many times. Conditions: there is room.
-/
import Derived.Test.YtoinlmfodmgohaaGreatDoorJoined31
import Derived.Test.YtoinlmfodmgohaaGreatDoorJoined5
namespace Go.Proofs.YtoinlmfodmgohaaGreatDoor
open Go.RowKit
attribute [local go_sem] setCell_drewN alloc_drewN

theorem LZ.apartN {w w' : World} {lb sb cap : Nat} {Z : List Nat} {L : List ST} (h : LZ w lb sb cap Z L) (hb : Below w.heap.size w w') (N : List Nat) (hN : ∀ z ∈ N, w.heap.size ≤ z ∧ z < w'.heap.size) : LZ w' lb sb cap (N ++ Z) L := by
  have hlt := h.lt
  obtain ⟨M, e0, e1, e2, e3, e4, e5, e6, e7⟩ := h.below hb
  obtain ⟨M', f0, f1, f2, f3, f4, f5, f6, f7⟩ := h
  have hM : ∀ p ∈ M', RI w' (thr lb sb (N ++ Z)) p.1.r p.2 := fun p hp => (f5 p hp).carry (fun b hx hl => ⟨hb.block b hl, fun hy => by
    rcases hy with hy | hy | hy
    · exact hx (Or.inl hy)
    · exact hx (Or.inr (Or.inl hy))
    · rcases List.mem_append.1 hy with hy | hy
      · have := (hN b hy).1; omega
      · exact hx (Or.inr (Or.inr hy))⟩)
  have ho : w'.ownsRow 0 94 4 (.slice (some ⟨sb, 0, none⟩) L.length cap) L.length (flatS M') := f4.kept (row := none) ⟨hb.os, hb.tape, hb.output, hb.size, fun b hl _ => hb.block b hl⟩ (Or.inr (fun e => by cases e))
  exact ⟨M', f0, e1, e2, e3, ho, hM, e6, fun y hy => by
    rcases List.mem_append.1 hy with hy | hy
    · have := hN y hy; exact ⟨this.2, by omega, by omega⟩
    · exact e7 y hy⟩
/-- A last state, in a region that does not draw. -/
theorem wpList_append_stZ {w : World} {ops : Array Oper} {rest : List Oper} {o : Oper} {a : Act} {Q : Exit → Act → World → Prop} (hgd : o.guard = none) (s x : Operand)
    (ho : o.op = .call { callee := .builtin .append, args := #[s, x], argTypes := #[24, 24] }) (sb n cap : Nat) (xs : List Value) (hs : a.eval s = .slice (some ⟨sb, 0, none⟩) n cap)
    (c0 c1 c2 c3 : Value) (t : Nat) (ht : w.heap.size = t) (hx : a.eval x = .slice (some ⟨t, 0, none⟩) 1 1) (hroom : n + 1 ≤ cap) (hone : c0.oneCell' = true ∧ c1.oneCell' = true ∧ c2.oneCell' = true ∧ c3.oneCell' = true)
    (hown : w.ownsRow 0 94 4 (.slice (some ⟨sb, 0, none⟩) n cap) n xs)
    (h : ∀ w', w'.ownsRow 0 94 4 (.slice (some ⟨sb, 0, none⟩) (n + 1) cap) (n + 1) (xs ++ [c0, c1, c2, c3]) → (w.alloc (.cells #[c0, c1, c2, c3] 94)).grownBy w' (some sb) → wpList Tryz.prog ops Q rest (a.put o.dst (.slice (some ⟨sb, 0, none⟩) (n + 1) cap)) w') :
    wpList Tryz.prog ops Q (o :: rest) a (w.alloc (.cells #[c0, c1, c2, c3] 94)) := by
  subst ht
  obtain ⟨i0, hi, hz0, hz1, hz2⟩ := info_parts infoState
  have hT : Bk (w.alloc (.cells #[c0, c1, c2, c3] 94)) w.heap.size #[c0, c1, c2, c3] := Bk.new _ _ _
  exact wpList_append_fits _ hgd s x 24 ho 0 94 i0 4 Tryz.underlying24 hi hz1 sb n cap xs hs (hown.alloc _) ⟨w.heap.size, 0, none⟩ 1 1 [c0, c1, c2, c3] hx rfl (fun j u hj => by
    rw [add_at, hT.cell]
    match j, hj with
    | 0, hj => exact hj
    | 1, hj => exact hj
    | 2, hj => exact hj
    | 3, hj => exact hj) (fun u hu => by
    simp at hu
    rcases hu with rfl | rfl | rfl | rfl
    · exact hone.1
    · exact hone.2.1
    · exact hone.2.2.1
    · exact hone.2.2.2) hroom h
set_option maxRecDepth 100000 in
set_option maxHeartbeats 3200000 in
theorem oft1_none (wb : World) (lb sb cap : Nat) (y : RX) (hy : YOK y) (A Bl R Pb : Nat) (fv : Value) (Z : List Nat) (L : List ST) (w : World) (ho : Oft wb w lb sb cap y A Bl R Pb fv) (hs : OSt w sb A R y L none) (h : LZ w lb sb cap (A :: R :: Z) L) (hroom : L.length + szX y ≤ cap) :
    Calls Tryz.prog 132 #[.pointer (some ⟨A, 0, none⟩), .pointer (some ⟨Bl, 0, none⟩), .pointer (some ⟨R, 0, none⟩), .pointer (some ⟨Pb, 0, none⟩)] w (OPost wb lb sb cap y A Bl R Pb fv Z L w) := by
  obtain ⟨c1, c2⟩ := hs
  have c3 := ho.cl
  have hnx := nextZ_any lb sb cap (A :: R :: Z) L w h
  obtain ⟨fnum, caps, rfl, hent, hcall⟩ := ho.fn
  have HYO := hid_intro hy
  have HO := hid_intro ho
  have HH := hid_intro h
  have HRO := hid_intro hroom
  have HC := hid_intro (And.intro c1 c2)
  have HCL := hid_intro hcall
  obtain ⟨P, hP⟩ : ∃ P, P = OPost wb lb sb cap y A Bl R Pb (.func (.func fnum) #[] caps) Z L w := ⟨_, rfl⟩
  rw [← hP]
  have HP := hid_intro hP
  clear hP ho h hroom hy hcall
  go_enter Tryz.func132, Tryz.ntmps132
  go_wp2_with fail
  refine hnx.mono ?_; rintro e w1 ⟨rfl, hb1⟩
  have hA1 : w1.cell? ⟨A, 0, none⟩ = some (.int .i64 (-1)) := cell_but HC.out.1 HO.out.nA.1 (But.ofBelow hb1)
  have ho1 := HO.out.after (But.ofBelow hb1) ⟨_, HC.out.1⟩ ⟨_, HC.out.2⟩
  have hzA := ho1.zA
  obtain ⟨W2, hW2⟩ : ∃ W2, w1.setCell ⟨A, 0, none⟩ (.int .i64 (L.length : Int)) = W2 := ⟨_, rfl⟩
  have ho2 : Oft wb W2 lb sb cap y A Bl R Pb (.func (.func fnum) #[] caps) := hW2 ▸ ho1.store A (Or.inl rfl) _
  have hls2 : LZ W2 lb sb cap (A :: R :: Z) L := hW2 ▸ (HH.out.below hb1).storeZ A (by simp) _
  have hb2 : But (fun b => two lb sb b ∨ b = A ∨ b = R) w W2 := hW2 ▸ (But.set (But.ofBelow hb1) (Or.inl (Or.inr (Or.inl rfl))) _)
  have a2 : W2.cell? ⟨A, 0, none⟩ = some (.int .i64 (L.length : Int)) := by rw [← hW2, World.cell?_setCell_same _ _ _ hA1]
  have r2 : W2.cell? ⟨R, 0, none⟩ = some (.slice none 0 0) := by
    rw [← hW2, World.cell?_setCell_other _ _ _ _ (by intro e; injection e with e; exact HO.out.d.1 e)]
    exact cell_but HC.out.2 HO.out.nA.2 (But.ofBelow hb1)
  have hc2 := HCL.out W2 (A :: R :: Z) L ho2.but hls2 HRO.out
  have p2 := ho2.cp
  have HO2 := hid_intro ho2
  have HB2 := hid_intro hb2
  have HA2 := hid_intro (And.intro a2 r2)
  clear hnx hb1 ho1 hls2 hb2 a2 r2 ho2 c1 c2 c3
  go_wp2_with fail
  refine hc2.mono ?_; rintro e w3 ⟨rfl, hls3, hbt3⟩
  have ho3 := HO2.out.after hbt3 ⟨_, HA2.out.1⟩ ⟨_, HA2.out.2⟩
  have a3 := cell_but HA2.out.1 HO2.out.nA.1 hbt3
  have r3 := cell_but HA2.out.2 HO2.out.nA.2 hbt3
  have l3 := ho3.cl
  have hfr := fromZ_any lb sb cap _ _ w3 hls3 L.length (by simp)
  have HL3 := hid_intro hls3
  have HO3 := hid_intro ho3
  have HAR3 := hid_intro (And.intro a3 r3)
  have HB3 := hid_intro hbt3
  clear hc2 hls3 hbt3 ho3 r3 p2 hA1 hzA hW2
  go_wp2_with fail
  refine hfr.mono ?_; rintro e w4 ⟨rfl, hb4⟩
  have r4 := cell_but HAR3.out.2 HO3.out.nA.2 (But.ofBelow hb4)
  have ho4 := HO3.out.after (But.ofBelow hb4) ⟨_, HAR3.out.1⟩ ⟨_, HAR3.out.2⟩
  have hzR := ho4.zR
  have HR4 := hid_intro r4
  have HO4 := hid_intro ho4
  have HB4 := hid_intro hb4
  clear hfr hb4 ho4 a3 l3
  go_wp2_with fail
  go_end0
  rw [HP.out]
  have hlen := HYO.out.len L.length
  rw [hlen]
  refine ⟨rfl, (HL3.out.below HB4.out).storeZ R (by simp) _, HO4.out.store R (Or.inr rfl) _, ⟨L.length, ?_, ?_, ?_, ?_⟩, ?_⟩
  · rw [World.cell?_setCell_other _ _ _ _ (by intro e; injection e with e; exact HO4.out.d.1 e.symm)]
    exact cell_but HAR3.out.1 HO3.out.nA.1 (But.ofBelow HB4.out)
  · rw [World.cell?_setCell_same _ _ _ HR4.out]
  · rw [List.length_append, hlen]; exact Nat.le_refl _
  · rw [List.drop_left, List.take_of_length_le (by rw [hlen]; exact Nat.le_refl _)]
  · exact ((HB2.out.trans (HB3.out.wide (fun b hb => Or.inl hb))).below HB4.out).set (Or.inl (Or.inr (Or.inr rfl))) _
/-- .. in whatever state. -/
theorem oft1_any (wb : World) (lb sb cap : Nat) (y : RX) (hy : YOK y) (A Bl R Pb : Nat) (fv : Value) (Z : List Nat) (L : List ST) (w : World) (ho : Oft wb w lb sb cap y A Bl R Pb fv) (st : Option Nat) (hs : OSt w sb A R y L st) (h : LZ w lb sb cap (A :: R :: Z) L) (hroom : L.length + szX y ≤ cap) :
    Calls Tryz.prog 132 #[.pointer (some ⟨A, 0, none⟩), .pointer (some ⟨Bl, 0, none⟩), .pointer (some ⟨R, 0, none⟩), .pointer (some ⟨Pb, 0, none⟩)] w (OPost wb lb sb cap y A Bl R Pb fv Z L w) := by
  cases st with
  | none => exact oft1_none wb lb sb cap y hy A Bl R Pb fv Z L w ho hs h hroom
  | some a => exact oft1_some wb lb sb cap y hy A Bl R Pb fv Z L w ho a hs h hroom
set_option maxRecDepth 100000 in
set_option maxHeartbeats 1600000 in
theorem often_any (lb sb cap : Nat) (y : RX) (fv : Value) (Z : List Nat) (L : List ST) (w : World) (hf : FnOK w lb sb cap y fv) (h : LZ w lb sb cap Z L) :
    Calls Tryz.prog 112 #[.pointer (some ⟨lb, 0, none⟩), fv] w fun e w' => ∃ A Bl R Pb, e = .returned (.func (.func 132) #[] #[.pointer (some ⟨A, 0, none⟩), .pointer (some ⟨Bl, 0, none⟩), .pointer (some ⟨R, 0, none⟩), .pointer (some ⟨Pb, 0, none⟩)]) ∧ Oft w w' lb sb cap y A Bl R Pb fv ∧ OSt w' sb A R y L none ∧ LZ w' lb sb cap (A :: R :: Z) L ∧ Below w.heap.size w w' := by
  have hlt := h.lt
  have hff := hf
  obtain ⟨fnum, caps, rfl, _, _⟩ := hf
  obtain ⟨W, hW⟩ : ∃ W, (((w.alloc (.cells #[.pointer (some ⟨lb, 0, none⟩)] 88)).alloc (.cells #[.func (.func fnum) #[] caps] 1)).alloc (.cells #[.slice none 0 0] 24)).alloc (.cells #[.int .i64 (-1)] 3) = W := ⟨_, rfl⟩
  have hbW : Below w.heap.size w W := hW ▸ vb_a (vb_a (vb_a (vb_a (Below.refl _ _) _) _) _) _
  have hsz : W.heap.size = w.heap.size + 4 := by rw [← hW]; simp
  have k1 : Bk W w.heap.size #[.pointer (some ⟨lb, 0, none⟩)] := hW ▸ (((Bk.new _ _ _).al _).al _).al _
  have k2 : Bk W (w.heap.size + 1) #[.func (.func fnum) #[] caps] := hW ▸ ((Bk.new' _ _ _ _ (by simp)).al _).al _
  have k3 : Bk W (w.heap.size + 2) #[.slice none 0 0] := hW ▸ (Bk.new' _ _ _ _ (by simp)).al _
  have k4 : Bk W (w.heap.size + 3) #[.int .i64 (-1)] := hW ▸ Bk.new' _ _ _ _ (by simp)
  have ho : Oft w W lb sb cap y (w.heap.size + 3) w.heap.size (w.heap.size + 2) (w.heap.size + 1) (.func (.func fnum) #[] caps) :=
    ⟨But.ofBelow hbW, hff, k1.cell 0, k2.cell 0, k4.frz 0, k3.frz 0, fun e => by rcases e with e | e <;> omega, fun e => by rcases e with e | e <;> omega, by omega, by omega, hlt⟩
  have hls : LZ W lb sb cap ((w.heap.size + 3) :: (w.heap.size + 2) :: Z) L := h.apartN hbW [w.heap.size + 3, w.heap.size + 2] (fun z hz => by simp at hz; omega)
  have hst : OSt W sb (w.heap.size + 3) (w.heap.size + 2) y L none := ⟨k4.cell 0, k3.cell 0⟩
  have HF := hid_intro (And.intro ho (And.intro hst (And.intro hls hbW)))
  have HW := hid_intro hW
  have hmf : ∀ (fn : Fn) (first cap : Array Value) (w : World), (Instr.makeFunc fn first cap).run Tryz.prog w = .ok (.func fn first cap) w := fun _ _ _ _ => rfl
  clear ho hst hls hbW k1 k2 k3 k4 hsz hW hlt hff h
  go_enter Tryz.func112, Tryz.ntmps112
  go_wp2_with fail
  go_ret
  rw [HW.out]
  exact ⟨_, _, _, _, rfl, HF.out⟩
set_option maxRecDepth 100000 in
set_option maxHeartbeats 1600000 in
theorem jumpBack_any (lb sb cap : Nat) (Z : List Nat) (L : List ST) (w : World) (h : LZ w lb sb cap Z L) (hroom : L.length + 1 ≤ cap) (to : Int) :
    Calls Tryz.prog 134 #[.pointer (some ⟨lb, 0, none⟩), .int .i64 to] w fun e w' => e = .returned (.tuple #[]) ∧ LZ w' lb sb cap Z (L ++ [⟨2, [], to, to⟩]) ∧ But (two lb sb) w w' := by
  obtain ⟨l0, z0⟩ := h.cell
  have HH := hid_intro h
  have hlt := h.lt
  have hne := h.ne
  obtain ⟨M, hM, _, _, _, hown, hRs, _, _⟩ := h
  have HM := hid_intro (And.intro hM hRs)
  have HKEEP : Hid (∀ w6, (w.alloc (.cells #[.int .i64 2, .slice none 0 0, .int .i64 to, .int .i64 to] 94)).grownBy w6 (some sb) → w6.cell? ⟨lb, 0, none⟩ = some (.slice (some ⟨sb, 0, none⟩) L.length cap) ∧ w6.frozen? ⟨lb, 0, none⟩ = false) := hid_intro (fun w6 hg => by
    have e : w6.heap[lb]? = w.heap[lb]? := (hg.block _ (by simp; omega) (fun e => hne (by injection e))).trans ((vb_a (Below.refl _ _) _).block _ hlt.1)
    exact ⟨(World.cell?_of_block (w := w) (w' := w6) e).trans l0, by rw [← z0]; simp only [World.frozen?, e]⟩)
  clear hM hRs hlt hne
  go_enter Tryz.func134, Tryz.ntmps134
  go_wp2_with (at_builtin; refine wpList_append_stZ rfl _ _ rfl sb L.length cap (flatS M) rfl (.int .i64 2) (.slice none 0 0) (.int .i64 to) (.int .i64 to) _ rfl rfl hroom ⟨rfl, rfl, rfl, rfl⟩ hown ?_; intro w6 ho6 hg6; obtain ⟨l6, z6⟩ := HKEEP.out w6 hg6)
  have hput := LZ.put (w := w) (lb := lb) (sb := sb) (cap := cap) (Z := Z) (L := L) ⟨2, [], to, to⟩ (.slice none 0 0) M HM.out.1 HH.out HM.out.2 (vb_a (Below.refl _ _) _) hg6 ho6 (Or.inr ⟨rfl, rfl⟩)
  go_wp2_with fail
  go_end0
  exact ⟨rfl, hput⟩
end Go.Proofs.YtoinlmfodmgohaaGreatDoor

namespace Go.Proofs.YtoinlmfodmgohaaGreatDoor
open Go.RowKit
attribute [local go_sem] setCell_drewN alloc_drewN

/-- All that is known while a count is compiled. -/
def Run (wb w : World) (lb sb cap : Nat) (y : RX) (A Bl R Pb : Nat) (fv : Value) (Z : List Nat) (L : List ST) : Prop :=
  Oft wb w lb sb cap y A Bl R Pb fv ∧ (∃ st, OSt w sb A R y L st) ∧ LZ w lb sb cap (A :: R :: Z) L
/-- The blocks that are written. -/
def four (lb sb A R : Nat) : Nat → Prop := fun b => two lb sb b ∨ b = A ∨ b = R
theorem Run.below {wb w w' : World} {lb sb cap : Nat} {y : RX} {A Bl R Pb : Nat} {fv : Value} {Z : List Nat} {L : List ST} (h : Run wb w lb sb cap y A Bl R Pb fv Z L) (hb : Below w.heap.size w w') : Run wb w' lb sb cap y A Bl R Pb fv Z L := by
  obtain ⟨h1, ⟨st, h2⟩, h3⟩ := h
  exact ⟨h1.after (But.ofBelow hb) h2.cells.1 h2.cells.2, ⟨st, h2.but (X := fun _ => False) (But.ofBelow hb) (fun h => h) (fun h => h) (fun _ _ => rfl) (Nat.le_refl _)⟩, h3.below hb⟩
theorem Run.more {wb w w' : World} {lb sb cap : Nat} {y : RX} {A Bl R Pb : Nat} {fv : Value} {Z : List Nat} {L T : List ST} (h : Run wb w lb sb cap y A Bl R Pb fv Z L) (hl : LZ w' lb sb cap (A :: R :: Z) (L ++ T)) (hb : But (two lb sb) w w') : Run wb w' lb sb cap y A Bl R Pb fv Z (L ++ T) := by
  obtain ⟨h1, ⟨st, h2⟩, h3⟩ := h
  exact ⟨h1.after hb h2.cells.1 h2.cells.2, ⟨st, h2.but hb h1.nA.1 h1.nA.2 (fun i hi => List.getElem?_append_left hi) (by simp)⟩, hl⟩
theorem run_call (wb : World) (lb sb cap : Nat) (y : RX) (hy : YOK y) (A Bl R Pb : Nat) (fv : Value) (Z : List Nat) (L : List ST) (w : World) (h : Run wb w lb sb cap y A Bl R Pb fv Z L) (hroom : L.length + szX y ≤ cap) :
    Calls Tryz.prog 132 #[.pointer (some ⟨A, 0, none⟩), .pointer (some ⟨Bl, 0, none⟩), .pointer (some ⟨R, 0, none⟩), .pointer (some ⟨Pb, 0, none⟩)] w fun e w' => e = .returned (.tuple #[]) ∧ Run wb w' lb sb cap y A Bl R Pb fv Z (L ++ bld y L.length) ∧ But (four lb sb A R) w w' := by
  obtain ⟨h1, ⟨st, h2⟩, h3⟩ := h
  exact (oft1_any wb lb sb cap y hy A Bl R Pb fv Z L w h1 st h2 h3 hroom).mono fun e w' ⟨q1, q2, q3, ⟨a, q4⟩, q5⟩ => ⟨q1, ⟨q3, ⟨some a, q4⟩, q2⟩, q5⟩
theorem rep_nil (g : Nat → List ST) (q : Nat) (hg : ∀ n, g n = []) : ∀ c n, rep g q n c = []
  | 0, _ => rfl
  | c + 1, n => by rw [rep, hg, rep_nil g q hg c]; rfl
set_option maxRecDepth 100000 in
set_option maxHeartbeats 3200000 in
theorem listTimes_any (wb : World) (lb sb cap : Nat) (y : RX) (hy : YOK y) (A Bl R Pb : Nat) (fv : Value) (Z : List Nat) (L : List ST) (w : World) (h : Run wb w lb sb cap y A Bl R Pb fv Z L) (n : Nat) (hn : n ≤ 1000) (hroom : L.length + n * szX y ≤ cap) :
    Calls Tryz.prog 113 #[.pointer (some ⟨lb, 0, none⟩), .int .i64 (n : Int), .func (.func 132) #[] #[.pointer (some ⟨A, 0, none⟩), .pointer (some ⟨Bl, 0, none⟩), .pointer (some ⟨R, 0, none⟩), .pointer (some ⟨Pb, 0, none⟩)]] w fun e w' => e = .returned (.tuple #[]) ∧ Run wb w' lb sb cap y A Bl R Pb fv Z (L ++ rep (bld y) (szX y) L.length n) ∧ But (four lb sb A R) w w' := by
  obtain ⟨P, hP⟩ : ∃ P : Ending → World → Prop, P = fun e w' => e = .returned (.tuple #[]) ∧ Run wb w' lb sb cap y A Bl R Pb fv Z (L ++ rep (bld y) (szX y) L.length n) ∧ But (four lb sb A R) w w' := ⟨_, rfl⟩
  rw [← hP]
  have HP := hid_intro hP
  clear hP
  have hcs : ∀ i, (L ++ rep (bld y) (szX y) L.length i).length = L.length + i * szX y := fun i => by rw [List.length_append, rep_len _ _ hy.len]
  have HNX : Hid (∀ w' L', LZ w' lb sb cap (A :: R :: Z) L' → Calls Tryz.prog 129 #[.pointer (some ⟨lb, 0, none⟩)] w' fun e w2 => e = .returned (.int .i64 (L'.length : Int)) ∧ Below w'.heap.size w' w2) := hid_intro (fun w' L' h => nextZ_any lb sb cap _ L' w' h)
  have HRC := hid_intro (fun L' w' (h : Run wb w' lb sb cap y A Bl R Pb fv Z L') hr => run_call wb lb sb cap y hy A Bl R Pb fv Z L' w' h hr)
  have HH := hid_intro h
  have HM := hid_intro (And.intro hroom (And.intro hcs (And.intro hn hy)))
  have hnI : (n : Int) ≤ 1000 := by omega
  clear h hroom hcs hn hy
  go_enter Tryz.func113, Tryz.ntmps113
  go_wp2_with fail
  go_loopg [8] n (fun m s8 wr => ∃ i : Nat, i ≤ n ∧ m = n - i ∧ s8 = .int .i64 (i : Int) ∧ Hid (Run wb wr lb sb cap y A Bl R Pb fv Z (L ++ rep (bld y) (szX y) L.length i) ∧ But (four lb sb A R) w wr))
  case atStart => exact ⟨0, Nat.zero_le _, rfl, rfl, by simpa [rep] using HH.out, But.refl _ _⟩
  case round =>
    obtain ⟨i, hi, rfl, rfl, HZ⟩ := hrel
    by_cases hlt : i < n
    · have hJ : (i : Int) < (n : Int) := by omega
      have hmul : (i + 1) * szX y ≤ n * szX y := Nat.mul_le_mul_right _ (by omega)
      rw [Nat.succ_mul] at hmul
      have hnx := HNX.out wr _ HZ.out.1.2.2
      rw [HM.out.2.1] at hnx
      obtain ⟨n1, hn1⟩ : ∃ n1 : Int, ((L.length + i * szX y : Nat) : Int) = n1 := ⟨_, rfl⟩
      obtain ⟨n2, hn2⟩ : ∃ n2 : Int, ((L.length + i * szX y + szX y : Nat) : Int) = n2 := ⟨_, rfl⟩
      rw [hn1] at hnx
      have HN12 := hid_intro (And.intro hn1 hn2)
      clear hn1 hn2
      have HML := hid_intro hmul
      clear hmul
      go_wp2_with fail
      refine hnx.mono ?_; rintro e w1 ⟨rfl, hb1⟩
      have hcall := HRC.out _ w1 (HZ.out.1.below hb1) (by rw [HM.out.2.1]; have := HM.out.1; have := HML.out; omega)
      rw [HM.out.2.1] at hcall
      have HB1 := hid_intro hb1
      clear hnx hb1
      go_wp2_with fail
      refine hcall.mono ?_; rintro e w2 ⟨rfl, hrun2, hbt2⟩
      have hnx2 := HNX.out w2 _ hrun2.2.2
      have el : ((L ++ rep (bld y) (szX y) L.length i) ++ bld y (L.length + i * szX y)).length = L.length + i * szX y + szX y := by rw [List.length_append, HM.out.2.1, HM.out.2.2.2.len]
      rw [el, HN12.out.2] at hnx2
      have HR2 := hid_intro hrun2
      have HB2 := hid_intro ((HZ.out.2.below HB1.out).trans hbt2)
      clear hcall hrun2 hbt2 el
      by_cases h0 : szX y = 0
      · have hnil : ∀ n, bld y n = [] := fun n => List.eq_nil_of_length_eq_zero (by rw [HM.out.2.2.2.len, h0])
        have HNL := hid_intro hnil
        have he : n2 = n1 := by have := HN12.out; omega
        subst he
        clear hnil h0
        go_wp2_with fail
        refine hnx2.mono ?_; rintro e w3 ⟨rfl, hb3⟩
        have HN4 : Hid (Run wb w3 lb sb cap y A Bl R Pb fv Z (L ++ rep (bld y) (szX y) L.length n) ∧ But (four lb sb A R) w w3) := hid_intro ⟨by
          have h := HR2.out.below hb3
          rw [rep_nil _ _ HNL.out, HNL.out, List.append_nil] at h
          rw [rep_nil _ _ HNL.out]; exact h, HB2.out.below hb3⟩
        clear hb3 hnx2
        go_wp2_with fail
        refine bodyPost_ret (v := .tuple #[]) (results_none rfl _ _ _) rfl ?_
        rw [HP.out]
        exact ⟨rfl, HN4.out⟩
      · have hne : ¬ n2 = n1 := by have := HN12.out; omega
        have HN3 : Hid (Run wb w2 lb sb cap y A Bl R Pb fv Z (L ++ rep (bld y) (szX y) L.length (i + 1))) := hid_intro (by
          rw [rep_snoc, ← List.append_assoc]; exact HR2.out)
        clear h0
        go_wp2_with fail
        refine hnx2.mono ?_; rintro e w3 ⟨rfl, hb3⟩
        have HN4 := hid_intro (And.intro (HN3.out.below hb3) (HB2.out.below hb3))
        clear hb3 hnx2
        go_wp2_with fail
        go_roundg (n - (i + 1))
        case measure => omega
        case rel => exact ⟨i + 1, by omega, rfl, by simp, HN4⟩
    · have hJ : ¬ (i : Int) < (n : Int) := by omega
      have hin : i = n := by omega
      go_wp2_with fail
      go_end0
      rw [HP.out]
      have := HZ.out
      rw [hin] at this
      exact ⟨rfl, this⟩
end Go.Proofs.YtoinlmfodmgohaaGreatDoor

namespace Go.Proofs.YtoinlmfodmgohaaGreatDoor
open Go.RowKit
attribute [local go_sem] setCell_drewN alloc_drewN

theorem Cap.butX {w w' : World} {lb sb p q i : Nat} {X : Nat → Prop} (h : Cap w lb sb p q i) (hb : But X w w') (hp : ¬ X p) (hq : ¬ X q) : Cap w' lb sb p q i :=
  ⟨cell_but h.1 hp hb, cell_but h.2.1 hq hb, h.2.2⟩
theorem Run.lt {wb w : World} {lb sb cap : Nat} {y : RX} {A Bl R Pb : Nat} {fv : Value} {Z : List Nat} {L : List ST} (h : Run wb w lb sb cap y A Bl R Pb fv Z L) : A < w.heap.size ∧ R < w.heap.size := by
  obtain ⟨h1, ⟨st, h2⟩, h3⟩ := h
  obtain ⟨⟨_, c1⟩, ⟨_, c2⟩⟩ := h2.cells
  exact ⟨World.block_lt_of_cell? w _ c1, World.block_lt_of_cell? w _ c2⟩
theorem four_not {lb sb A R p n : Nat} (h : ¬ two lb sb p) (hA : A < n) (hR : R < n) (hp : n ≤ p) : ¬ four lb sb A R p := fun e => by
  rcases e with e | e | e
  · exact h e
  · omega
  · omega
set_option maxRecDepth 100000 in
set_option maxHeartbeats 3200000 in
theorem loop_any (wb : World) (lb sb cap : Nat) (y : RX) (hy : YOK y) (A Bl R Pb : Nat) (fv : Value) (Z : List Nat) (L : List ST) (w : World) (h : Run wb w lb sb cap y A Bl R Pb fv Z L) (hroom : L.length + szX y + 2 ≤ cap) :
    Calls Tryz.prog 114 #[.pointer (some ⟨lb, 0, none⟩), .func (.func 132) #[] #[.pointer (some ⟨A, 0, none⟩), .pointer (some ⟨Bl, 0, none⟩), .pointer (some ⟨R, 0, none⟩), .pointer (some ⟨Pb, 0, none⟩)]] w fun e w' => e = .returned (.tuple #[]) ∧ LZ w' lb sb cap (A :: R :: Z) (L ++ (⟨2, [], (L.length : Int) + 1, ((L.length + (szX y + 2) : Nat) : Int)⟩ :: bld y (L.length + 1) ++ [⟨2, [], (L.length : Int), (L.length : Int)⟩])) ∧ But (four lb sb A R) w w' := by
  obtain ⟨P, hP⟩ : ∃ P : Ending → World → Prop, P = fun e w' => e = .returned (.tuple #[]) ∧ LZ w' lb sb cap (A :: R :: Z) (L ++ (⟨2, [], (L.length : Int) + 1, ((L.length + (szX y + 2) : Nat) : Int)⟩ :: bld y (L.length + 1) ++ [⟨2, [], (L.length : Int), (L.length : Int)⟩])) ∧ But (four lb sb A R) w w' := ⟨_, rfl⟩
  rw [← hP]
  have HP := hid_intro hP
  clear hP
  have hnx := nextZ_any lb sb cap _ L w h.2.2
  have HH := hid_intro h
  have HM := hid_intro (And.intro hroom hy)
  clear h hroom hy
  go_enter Tryz.func114, Tryz.ntmps114
  go_wp2_with fail
  refine hnx.mono ?_; rintro e w1 ⟨rfl, hb1⟩
  have hr1 := HH.out.below hb1
  have hfork := forkZ_any lb sb cap _ L w1 hr1.2.2 (by have := HM.out.1; omega)
  have HR1 := hid_intro hr1
  have HB1 := hid_intro hb1
  clear hnx hb1 hr1
  go_wp2_with fail
  refine hfork.mono ?_; rintro e w2 ⟨p0, q0, rfl, hp0, hq0, hcap2, hls2, hbt2⟩
  have hr2 := HR1.out.more hls2 hbt2
  have hcall := run_call wb lb sb cap y HM.out.2 A Bl R Pb fv Z _ w2 hr2 (by rw [List.length_append]; simp; have := HM.out.1; omega)
  have e1 : (L ++ [⟨2, [], (L.length : Int) + 1, 0⟩] : List ST).length = L.length + 1 := by simp
  rw [e1] at hcall
  have hn0 : ¬ four lb sb A R p0 ∧ ¬ four lb sb A R q0 := ⟨four_not hcap2.2.2.1 HR1.out.lt.1 HR1.out.lt.2 hp0, four_not hcap2.2.2.2 HR1.out.lt.1 HR1.out.lt.2 hq0⟩
  have HC2 := hid_intro (And.intro hcap2 hn0)
  have HB2 := hid_intro ((But.ofBelow (X := four lb sb A R) HB1.out).trans (hbt2.wide (fun b hb => Or.inl hb)))
  clear hfork hls2 hbt2 hr2 hcap2 hp0 hq0 hn0 e1
  go_wp2_with fail
  refine hcall.mono ?_; rintro e w3 ⟨rfl, hr3, hbt3⟩
  have hlen3 : (L ++ [⟨2, [], (L.length : Int) + 1, 0⟩] ++ bld y (L.length + 1) : List ST).length = L.length + 1 + szX y := by rw [List.length_append, HM.out.2.len]; simp
  have hjb := jumpBack_any lb sb cap _ _ w3 hr3.2.2 (by rw [hlen3]; have := HM.out.1; omega) (L.length : Int)
  have HC3 := hid_intro (HC2.out.1.butX hbt3 HC2.out.2.1 HC2.out.2.2)
  have HB3 := hid_intro (HB2.out.trans hbt3)
  clear hcall hr3 hbt3 hlen3
  go_wp2_with fail
  refine hjb.mono ?_; rintro e w4 ⟨rfl, hls4, hbt4⟩
  have hc := fork1Z_any lb sb cap p0 q0 L.length _ _ w4 hls4 (HC3.out.but hbt4) (by simp)
  have HB4 := hid_intro (HB3.out.trans (hbt4.wide (fun b hb => Or.inl hb)))
  clear hjb hls4 hbt4
  go_wp2_with fail
  refine hc.mono ?_; rintro e w5 ⟨rfl, hls5, hbt5⟩
  have HF : Hid (LZ w5 lb sb cap (A :: R :: Z) (L ++ (⟨2, [], (L.length : Int) + 1, ((L.length + (szX y + 2) : Nat) : Int)⟩ :: bld y (L.length + 1) ++ [⟨2, [], (L.length : Int), (L.length : Int)⟩])) ∧ But (four lb sb A R) w w5) := hid_intro ⟨by
    have e4 : (L ++ [⟨2, [], (L.length : Int) + 1, 0⟩] ++ bld y (L.length + 1) ++ [⟨2, [], (L.length : Int), (L.length : Int)⟩] : List ST) = L ++ ⟨2, [], (L.length : Int) + 1, 0⟩ :: (bld y (L.length + 1) ++ [⟨2, [], (L.length : Int), (L.length : Int)⟩]) := by simp
    rw [e4, setB_at] at hls5
    have e5 : ((L ++ ⟨2, [], (L.length : Int) + 1, 0⟩ :: (bld y (L.length + 1) ++ [⟨2, [], (L.length : Int), (L.length : Int)⟩]) : List ST).length : Int) = ((L.length + (szX y + 2) : Nat) : Int) := by
      simp only [List.length_append, List.length_cons, List.length_nil, HM.out.2.len]
    rw [e5] at hls5
    exact hls5, HB4.out.trans (hbt5.wide (fun b hb => Or.inl hb))⟩
  clear hc hls5 hbt5
  go_wp2_with fail
  go_end0
  rw [HP.out]
  exact ⟨rfl, HF.out⟩
end Go.Proofs.YtoinlmfodmgohaaGreatDoor

namespace Go.Proofs.YtoinlmfodmgohaaGreatDoor
open Go.RowKit
attribute [local go_sem] setCell_drewN alloc_drewN

/-- The part so many times behind forks, the first k of them turned to e. -/
def perM (y : RX) (e : Nat) : Nat → Nat → Nat → List ST
  | 0, _, _ => []
  | c + 1, n, k => (⟨2, [], (n : Int) + 1, if k = 0 then 0 else (e : Int)⟩ :: bld y (n + 1)) ++ perM y e c (n + (szX y + 1)) (k - 1)
theorem perM_len (y : RX) (hy : ∀ n, (bld y n).length = szX y) (e : Nat) : ∀ c n k, (perM y e c n k).length = c * (szX y + 1)
  | 0, _, _ => by simp [perM]
  | c + 1, n, k => by rw [perM, List.length_append, perM_len y hy e c, List.length_cons, hy, Nat.succ_mul]; omega
theorem perM_rep (y : RX) (e : Nat) : ∀ c n, perM y e c n c = rep (fun p => ⟨2, [], (p : Int) + 1, (e : Int)⟩ :: bld y (p + 1)) (szX y + 1) n c
  | 0, _ => rfl
  | c + 1, n => by rw [perM, rep, if_neg (by omega), Nat.add_sub_cancel, perM_rep y e c]
theorem perM_snoc (y : RX) (e : Nat) : ∀ c n, perM y e (c + 1) n 0 = perM y e c n 0 ++ (⟨2, [], ((n + c * (szX y + 1) : Nat) : Int) + 1, 0⟩ :: bld y (n + c * (szX y + 1) + 1))
  | 0, n => by simp [perM]
  | c + 1, n => by
    rw [perM, Nat.zero_sub, perM_snoc y e c (n + (szX y + 1)), perM, Nat.zero_sub, List.append_assoc]
    have e1 : n + (szX y + 1) + c * (szX y + 1) = n + (c + 1) * (szX y + 1) := by rw [Nat.succ_mul]; omega
    rw [e1]
theorem perM_turn (y : RX) (hy : ∀ n, (bld y n).length = szX y) (e : Nat) : ∀ c n k, k < c → ∃ a, (perM y e c n k)[k * (szX y + 1)]? = some ⟨2, [], a, 0⟩ ∧ (perM y e c n k).set (k * (szX y + 1)) ⟨2, [], a, (e : Int)⟩ = perM y e c n (k + 1)
  | 0, _, k, h => by simp at h
  | c + 1, n, 0, _ => by
    refine ⟨(n : Int) + 1, ?_, ?_⟩
    · rw [Nat.zero_mul, perM]; rfl
    · rw [Nat.zero_mul, perM, perM, if_pos rfl, if_neg (by omega)]; rfl
  | c + 1, n, k + 1, h => by
    obtain ⟨a, h1, h2⟩ := perM_turn y hy e c (n + (szX y + 1)) k (by omega)
    have hl : (⟨2, [], (n : Int) + 1, (e : Int)⟩ :: bld y (n + 1) : List ST).length = szX y + 1 := by rw [List.length_cons, hy]
    refine ⟨a, ?_, ?_⟩
    · rw [perM, if_neg (by omega), Nat.succ_mul, List.getElem?_append_right (by rw [hl]; omega), hl, Nat.add_sub_cancel, Nat.add_sub_cancel]; exact h1
    · rw [perM, perM, if_neg (by omega), if_neg (by omega), Nat.succ_mul, List.set_append_right _ _ (by rw [hl]; omega), hl, Nat.add_sub_cancel, Nat.add_sub_cancel, h2]; rfl
theorem setB_per (L : List ST) (y : RX) (hy : ∀ n, (bld y n).length = szX y) (e c k : Nat) (hk : k < c) (he : (L ++ perM y e c L.length k).length = e) :
    setB (L ++ perM y e c L.length k) (L.length + k * (szX y + 1)) = L ++ perM y e c L.length (k + 1) := by
  obtain ⟨a, h1, h2⟩ := perM_turn y hy e c L.length k hk
  unfold setB
  rw [he]
  have hsa : sa (L ++ perM y e c L.length k) (L.length + k * (szX y + 1)) = ⟨2, [], a, 0⟩ := by
    unfold sa
    rw [List.getD_eq_getElem?_getD, List.getElem?_append_right (Nat.le_add_right _ _), Nat.add_sub_cancel_left, h1]; rfl
  rw [hsa, List.set_append_right _ _ (Nat.le_add_right _ _), Nat.add_sub_cancel_left]
  have : (ST.goB ⟨2, [], a, 0⟩ (e : Int)) = ⟨2, [], a, (e : Int)⟩ := rfl
  rw [this, h2]
theorem make_fn (w : World) (c : Nat) (hc : c ≤ 65536) : (Instr.makeSlice 140 (.int .i64 (c : Int)) (.int .i64 (c : Int))).run Tryz.prog w = .ok (.slice (some ⟨w.heap.size, 0, none⟩) c c) (w.alloc (.cells (madeCells #[.nilFunc] (c * 1)) 1)) := by
  obtain ⟨i0, hi, hz0, hz1, hz2⟩ := info_parts infoFn
  have := run_make (P := Tryz.prog) w 140 1 i0 .nilFunc Tryz.underlying140 hi hz0 .i64 .i64 (c : Int) (c : Int) (by omega) (by omega) (by rw [hz2]; omega) (by omega)
  rw [hz1] at this
  simpa [Value.cells] using this
/-- A change in other blocks alone. -/
theorem Oft.butX {wb w w' : World} {lb sb cap : Nat} {y : RX} {A Bl R Pb : Nat} {fv : Value} {X : Nat → Prop} (h : Oft wb w lb sb cap y A Bl R Pb fv) (hb : But X w w') (hX : ∀ b, X b → wb.heap.size ≤ b ∧ b ≠ A ∧ b ≠ R ∧ b ≠ Bl ∧ b ≠ Pb) (hA : ∃ v, w.cell? ⟨A, 0, none⟩ = some v) (hR : ∃ v, w.cell? ⟨R, 0, none⟩ = some v) : Oft wb w' lb sb cap y A Bl R Pb fv := by
  obtain ⟨va, hA⟩ := hA
  obtain ⟨vr, hR⟩ := hR
  exact ⟨⟨hb.os.trans h.but.os, hb.tape.trans h.but.tape, hb.output.trans h.but.output, Nat.le_trans h.but.size hb.size, fun k hk hn => (hb.block k (Nat.lt_of_lt_of_le hk h.but.size) (fun hx => by have := (hX k hx).1; omega)).trans (h.but.block k hk hn)⟩, h.fn,
    cell_but h.cl (fun hx => (hX _ hx).2.2.2.1 rfl) hb, cell_but h.cp (fun hx => (hX _ hx).2.2.2.2 rfl) hb, frz_but hA h.zA (fun hx => (hX _ hx).2.1 rfl) hb, frz_but hR h.zR (fun hx => (hX _ hx).2.2.1 rfl) hb, h.nl, h.np, h.d, h.ge, h.lt⟩
theorem Run.butX {wb w w' : World} {lb sb cap : Nat} {y : RX} {A Bl R Pb : Nat} {fv : Value} {Z : List Nat} {L : List ST} {X : Nat → Prop} (h : Run wb w lb sb cap y A Bl R Pb fv Z L) (hb : But X w w') (hX : ∀ b, X b → (wb.heap.size ≤ b ∧ b ≠ A ∧ b ≠ R ∧ b ≠ Bl ∧ b ≠ Pb) ∧ b ∈ Z) : Run wb w' lb sb cap y A Bl R Pb fv Z L := by
  obtain ⟨h1, ⟨st, h2⟩, h3⟩ := h
  exact ⟨h1.butX hb (fun b hx => (hX b hx).1) h2.cells.1 h2.cells.2, ⟨st, h2.but hb (fun hx => (hX _ hx).1.2.1 rfl) (fun hx => (hX _ hx).1.2.2.1 rfl) (fun _ _ => rfl) (Nat.le_refl _)⟩, h3.carry hb (fun b hx => Or.inl (by simp [(hX b hx).2]))⟩
/-- The forks that wait. -/
def WaitB (w : World) (lb sb A R bb : Nat) (cs : Array Value) (n q i : Nat) : Prop :=
  ∀ k, k < i → ∃ p1 q1, cs[k]? = some (.func (.func 130) #[] #[.pointer (some ⟨p1, 0, none⟩), .pointer (some ⟨q1, 0, none⟩)]) ∧ Cap w lb sb p1 q1 (n + k * (q + 1)) ∧ (¬ four lb sb A R p1 ∧ p1 ≠ bb) ∧ ¬ four lb sb A R q1 ∧ q1 ≠ bb
theorem WaitB.but {w w' : World} {lb sb A R bb : Nat} {cs : Array Value} {n q i : Nat} {X : Nat → Prop} (h : WaitB w lb sb A R bb cs n q i) (hb : But X w w') (hX : ∀ b, X b → four lb sb A R b ∨ b = bb) : WaitB w' lb sb A R bb cs n q i := fun k hk => by
  obtain ⟨p1, q1, h1, h2, h3, h4⟩ := h k hk
  exact ⟨p1, q1, h1, h2.butX hb (fun hx => by rcases hX _ hx with e | e; exact h3.1 e; exact h3.2 e) (fun hx => by rcases hX _ hx with e | e; exact h4.1 e; exact h4.2 e), h3, h4⟩
end Go.Proofs.YtoinlmfodmgohaaGreatDoor
