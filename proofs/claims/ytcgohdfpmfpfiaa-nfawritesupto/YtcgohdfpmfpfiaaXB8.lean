/-
  A part that is compiled the first time alone: its first call; how it is made; a jump back. Conditions: there is room.
-/
import Derived.Test.YtcgohdfpmfpfiaaXB7
namespace Go.Proofs.Ytcgohdfpmfpfiaa
open Go.RowKit
attribute [local go_sem] setCell_drewN alloc_drewN

theorem LZ.apartN {w w' : World} {lb sb cap : Nat} {Z : List Nat} {L : List ST} (h : LZ w lb sb cap Z L) (hb : Below w.heap.size w w') (N : List Nat) (hN : ∀ z ∈ N, w.heap.size ≤ z ∧ z < w'.heap.size) : LZ w' lb sb cap (N ++ Z) L := by
  have hlt := h.lt
  obtain ⟨M, e0, e1, e2, e3, e4, e5, e6, e7⟩ := h.below hb
  obtain ⟨M', f0, f1, f2, f3, f4, f5, f6, f7⟩ := h
  have hM : ∀ p ∈ M', RI w' (thr lb sb (N ++ Z)) p.1.r p.2 := fun p hp => (f5 p hp).carry (fun b hx hl => ⟨hb.block b hl, fun hy => by
    rcases hy with hy | hy | hy
    · exact hx (Or.inl hy)
    · exact hx (Or.inr (Or.inl hy))
    · rcases List.mem_append.1 hy with hy | hy
      · have := (hN b hy).1; omega
      · exact hx (Or.inr (Or.inr hy))⟩)
  have ho : w'.ownsRow 0 40 4 (.slice (some ⟨sb, 0, none⟩) L.length cap) L.length (flatS M') := f4.kept (row := none) ⟨hb.os, hb.tape, hb.output, hb.size, fun b hl _ => hb.block b hl⟩ (Or.inr (fun e => by cases e))
  exact ⟨M', f0, e1, e2, e3, ho, hM, e6, fun y hy => by
    rcases List.mem_append.1 hy with hy | hy
    · have := hN y hy; exact ⟨this.2, by omega, by omega⟩
    · exact e7 y hy⟩
/-- A last state, in a region that does not draw. -/
theorem wpList_append_stZ {w : World} {ops : Array Oper} {rest : List Oper} {o : Oper} {a : Act} {Q : Exit → Act → World → Prop} (hgd : o.guard = none) (s x : Operand)
    (ho : o.op = .call { callee := .builtin .append, args := #[s, x], argTypes := #[22, 22] }) (sb n cap : Nat) (xs : List Value) (hs : a.eval s = .slice (some ⟨sb, 0, none⟩) n cap)
    (c0 c1 c2 c3 : Value) (t : Nat) (ht : w.heap.size = t) (hx : a.eval x = .slice (some ⟨t, 0, none⟩) 1 1) (hroom : n + 1 ≤ cap) (hone : c0.oneCell' = true ∧ c1.oneCell' = true ∧ c2.oneCell' = true ∧ c3.oneCell' = true)
    (hown : w.ownsRow 0 40 4 (.slice (some ⟨sb, 0, none⟩) n cap) n xs)
    (h : ∀ w', w'.ownsRow 0 40 4 (.slice (some ⟨sb, 0, none⟩) (n + 1) cap) (n + 1) (xs ++ [c0, c1, c2, c3]) → (w.alloc (.cells #[c0, c1, c2, c3] 40)).grownBy w' (some sb) → wpList Try.prog ops Q rest (a.put o.dst (.slice (some ⟨sb, 0, none⟩) (n + 1) cap)) w') :
    wpList Try.prog ops Q (o :: rest) a (w.alloc (.cells #[c0, c1, c2, c3] 40)) := by
  subst ht
  obtain ⟨i0, hi, hz0, hz1, hz2⟩ := info_parts infoState
  have hT : Bk (w.alloc (.cells #[c0, c1, c2, c3] 40)) w.heap.size #[c0, c1, c2, c3] := Bk.new _ _ _
  exact wpList_append_fits _ hgd s x 22 ho 0 40 i0 4 Try.underlying22 hi hz1 sb n cap xs hs (hown.alloc _) ⟨w.heap.size, 0, none⟩ 1 1 [c0, c1, c2, c3] hx rfl (fun j u hj => by
    rw [add_at, hT.cell]
    match j, hj with
    | 0, hj => exact hj
    | 1, hj => exact hj
    | 2, hj => exact hj
    | 3, hj => exact hj) (fun u hu => by
    simp at hu
    rcases hu with rfl | rfl | rfl | rfl
    · exact hone.1
    · exact hone.2.1
    · exact hone.2.2.1
    · exact hone.2.2.2) hroom h
set_option maxRecDepth 100000 in
set_option maxHeartbeats 3200000 in
theorem oft1_none (wb : World) (lb sb cap : Nat) (y : RX) (hy : YOK y) (A Bl R Pb : Nat) (fv : Value) (Z : List Nat) (L : List ST) (w : World) (ho : Oft wb w lb sb cap y A Bl R Pb fv) (hs : OSt w sb A R y L none) (h : LZ w lb sb cap (A :: R :: Z) L) (hroom : L.length + szX y ≤ cap) :
    Calls Try.prog 58 #[.pointer (some ⟨A, 0, none⟩), .pointer (some ⟨Bl, 0, none⟩), .pointer (some ⟨R, 0, none⟩), .pointer (some ⟨Pb, 0, none⟩)] w (OPost wb lb sb cap y A Bl R Pb fv Z L w) := by
  obtain ⟨c1, c2⟩ := hs
  have c3 := ho.cl
  have hnx := nextZ_any lb sb cap (A :: R :: Z) L w h
  obtain ⟨fnum, caps, rfl, hent, hcall⟩ := ho.fn
  have HYO := hid_intro hy
  have HO := hid_intro ho
  have HH := hid_intro h
  have HRO := hid_intro hroom
  have HC := hid_intro (And.intro c1 c2)
  have HCL := hid_intro hcall
  obtain ⟨P, hP⟩ : ∃ P, P = OPost wb lb sb cap y A Bl R Pb (.func (.func fnum) #[] caps) Z L w := ⟨_, rfl⟩
  rw [← hP]
  have HP := hid_intro hP
  clear hP ho h hroom hy hcall
  go_enter Try.func58, Try.ntmps58
  go_wp2_with fail
  refine hnx.mono ?_; rintro e w1 ⟨rfl, hb1⟩
  have hA1 : w1.cell? ⟨A, 0, none⟩ = some (.int .i64 (-1)) := cell_but HC.out.1 HO.out.nA.1 (But.ofBelow hb1)
  have ho1 := HO.out.after (But.ofBelow hb1) ⟨_, HC.out.1⟩ ⟨_, HC.out.2⟩
  have hzA := ho1.zA
  obtain ⟨W2, hW2⟩ : ∃ W2, w1.setCell ⟨A, 0, none⟩ (.int .i64 (L.length : Int)) = W2 := ⟨_, rfl⟩
  have ho2 : Oft wb W2 lb sb cap y A Bl R Pb (.func (.func fnum) #[] caps) := hW2 ▸ ho1.store A (Or.inl rfl) _
  have hls2 : LZ W2 lb sb cap (A :: R :: Z) L := hW2 ▸ (HH.out.below hb1).storeZ A (by simp) _
  have hb2 : But (fun b => two lb sb b ∨ b = A ∨ b = R) w W2 := hW2 ▸ (But.set (But.ofBelow hb1) (Or.inl (Or.inr (Or.inl rfl))) _)
  have a2 : W2.cell? ⟨A, 0, none⟩ = some (.int .i64 (L.length : Int)) := by rw [← hW2, World.cell?_setCell_same _ _ _ hA1]
  have r2 : W2.cell? ⟨R, 0, none⟩ = some (.slice none 0 0) := by
    rw [← hW2, World.cell?_setCell_other _ _ _ _ (by intro e; injection e with e; exact HO.out.d.1 e)]
    exact cell_but HC.out.2 HO.out.nA.2 (But.ofBelow hb1)
  have hc2 := HCL.out W2 (A :: R :: Z) L ho2.but hls2 HRO.out
  have p2 := ho2.cp
  have HO2 := hid_intro ho2
  have HB2 := hid_intro hb2
  have HA2 := hid_intro (And.intro a2 r2)
  clear hnx hb1 ho1 hls2 hb2 a2 r2 ho2 c1 c2 c3
  go_wp2_with fail
  refine hc2.mono ?_; rintro e w3 ⟨rfl, hls3, hbt3⟩
  have ho3 := HO2.out.after hbt3 ⟨_, HA2.out.1⟩ ⟨_, HA2.out.2⟩
  have a3 := cell_but HA2.out.1 HO2.out.nA.1 hbt3
  have r3 := cell_but HA2.out.2 HO2.out.nA.2 hbt3
  have l3 := ho3.cl
  have hfr := fromZ_any lb sb cap _ _ w3 hls3 L.length (by simp)
  have HL3 := hid_intro hls3
  have HO3 := hid_intro ho3
  have HAR3 := hid_intro (And.intro a3 r3)
  have HB3 := hid_intro hbt3
  clear hc2 hls3 hbt3 ho3 r3 p2 hA1 hzA hW2
  go_wp2_with fail
  refine hfr.mono ?_; rintro e w4 ⟨rfl, hb4⟩
  have r4 := cell_but HAR3.out.2 HO3.out.nA.2 (But.ofBelow hb4)
  have ho4 := HO3.out.after (But.ofBelow hb4) ⟨_, HAR3.out.1⟩ ⟨_, HAR3.out.2⟩
  have hzR := ho4.zR
  have HR4 := hid_intro r4
  have HO4 := hid_intro ho4
  have HB4 := hid_intro hb4
  clear hfr hb4 ho4 a3 l3
  go_wp2_with fail
  go_end0
  rw [HP.out]
  have hlen := HYO.out.len L.length
  rw [hlen]
  refine ⟨rfl, (HL3.out.below HB4.out).storeZ R (by simp) _, HO4.out.store R (Or.inr rfl) _, ⟨L.length, ?_, ?_, ?_, ?_⟩, ?_⟩
  · rw [World.cell?_setCell_other _ _ _ _ (by intro e; injection e with e; exact HO4.out.d.1 e.symm)]
    exact cell_but HAR3.out.1 HO3.out.nA.1 (But.ofBelow HB4.out)
  · rw [World.cell?_setCell_same _ _ _ HR4.out]
  · rw [List.length_append, hlen]; exact Nat.le_refl _
  · rw [List.drop_left, List.take_of_length_le (by rw [hlen]; exact Nat.le_refl _)]
  · exact ((HB2.out.trans (HB3.out.wide (fun b hb => Or.inl hb))).below HB4.out).set (Or.inl (Or.inr (Or.inr rfl))) _
/-- .. in whatever state. -/
theorem oft1_any (wb : World) (lb sb cap : Nat) (y : RX) (hy : YOK y) (A Bl R Pb : Nat) (fv : Value) (Z : List Nat) (L : List ST) (w : World) (ho : Oft wb w lb sb cap y A Bl R Pb fv) (st : Option Nat) (hs : OSt w sb A R y L st) (h : LZ w lb sb cap (A :: R :: Z) L) (hroom : L.length + szX y ≤ cap) :
    Calls Try.prog 58 #[.pointer (some ⟨A, 0, none⟩), .pointer (some ⟨Bl, 0, none⟩), .pointer (some ⟨R, 0, none⟩), .pointer (some ⟨Pb, 0, none⟩)] w (OPost wb lb sb cap y A Bl R Pb fv Z L w) := by
  cases st with
  | none => exact oft1_none wb lb sb cap y hy A Bl R Pb fv Z L w ho hs h hroom
  | some a => exact oft1_some wb lb sb cap y hy A Bl R Pb fv Z L w ho a hs h hroom
set_option maxRecDepth 100000 in
set_option maxHeartbeats 1600000 in
theorem often_any (lb sb cap : Nat) (y : RX) (fv : Value) (Z : List Nat) (L : List ST) (w : World) (hf : FnOK w lb sb cap y fv) (h : LZ w lb sb cap Z L) :
    Calls Try.prog 47 #[.pointer (some ⟨lb, 0, none⟩), fv] w fun e w' => ∃ A Bl R Pb, e = .returned (.func (.func 58) #[] #[.pointer (some ⟨A, 0, none⟩), .pointer (some ⟨Bl, 0, none⟩), .pointer (some ⟨R, 0, none⟩), .pointer (some ⟨Pb, 0, none⟩)]) ∧ Oft w w' lb sb cap y A Bl R Pb fv ∧ OSt w' sb A R y L none ∧ LZ w' lb sb cap (A :: R :: Z) L ∧ Below w.heap.size w w' := by
  have hlt := h.lt
  have hff := hf
  obtain ⟨fnum, caps, rfl, _, _⟩ := hf
  obtain ⟨W, hW⟩ : ∃ W, (((w.alloc (.cells #[.pointer (some ⟨lb, 0, none⟩)] 58)).alloc (.cells #[.func (.func fnum) #[] caps] 1)).alloc (.cells #[.slice none 0 0] 22)).alloc (.cells #[.int .i64 (-1)] 3) = W := ⟨_, rfl⟩
  have hbW : Below w.heap.size w W := hW ▸ vb_a (vb_a (vb_a (vb_a (Below.refl _ _) _) _) _) _
  have hsz : W.heap.size = w.heap.size + 4 := by rw [← hW]; simp
  have k1 : Bk W w.heap.size #[.pointer (some ⟨lb, 0, none⟩)] := hW ▸ (((Bk.new _ _ _).al _).al _).al _
  have k2 : Bk W (w.heap.size + 1) #[.func (.func fnum) #[] caps] := hW ▸ ((Bk.new' _ _ _ _ (by simp)).al _).al _
  have k3 : Bk W (w.heap.size + 2) #[.slice none 0 0] := hW ▸ (Bk.new' _ _ _ _ (by simp)).al _
  have k4 : Bk W (w.heap.size + 3) #[.int .i64 (-1)] := hW ▸ Bk.new' _ _ _ _ (by simp)
  have ho : Oft w W lb sb cap y (w.heap.size + 3) w.heap.size (w.heap.size + 2) (w.heap.size + 1) (.func (.func fnum) #[] caps) :=
    ⟨But.ofBelow hbW, hff, k1.cell 0, k2.cell 0, k4.frz 0, k3.frz 0, fun e => by rcases e with e | e <;> omega, fun e => by rcases e with e | e <;> omega, by omega, by omega, hlt⟩
  have hls : LZ W lb sb cap ((w.heap.size + 3) :: (w.heap.size + 2) :: Z) L := h.apartN hbW [w.heap.size + 3, w.heap.size + 2] (fun z hz => by simp at hz; omega)
  have hst : OSt W sb (w.heap.size + 3) (w.heap.size + 2) y L none := ⟨k4.cell 0, k3.cell 0⟩
  have HF := hid_intro (And.intro ho (And.intro hst (And.intro hls hbW)))
  have HW := hid_intro hW
  have hmf : ∀ (fn : Fn) (first cap : Array Value) (w : World), (Instr.makeFunc fn first cap).run Try.prog w = .ok (.func fn first cap) w := fun _ _ _ _ => rfl
  clear ho hst hls hbW k1 k2 k3 k4 hsz hW hlt hff h
  go_enter Try.func47, Try.ntmps47
  go_wp2_with fail
  go_ret
  rw [HW.out]
  exact ⟨_, _, _, _, rfl, HF.out⟩
set_option maxRecDepth 100000 in
set_option maxHeartbeats 1600000 in
theorem jumpBack_any (lb sb cap : Nat) (Z : List Nat) (L : List ST) (w : World) (h : LZ w lb sb cap Z L) (hroom : L.length + 1 ≤ cap) (to : Int) :
    Calls Try.prog 60 #[.pointer (some ⟨lb, 0, none⟩), .int .i64 to] w fun e w' => e = .returned (.tuple #[]) ∧ LZ w' lb sb cap Z (L ++ [⟨2, [], to, to⟩]) ∧ But (two lb sb) w w' := by
  obtain ⟨l0, z0⟩ := h.cell
  have HH := hid_intro h
  have hlt := h.lt
  have hne := h.ne
  obtain ⟨M, hM, _, _, _, hown, hRs, _, _⟩ := h
  have HM := hid_intro (And.intro hM hRs)
  have HKEEP : Hid (∀ w6, (w.alloc (.cells #[.int .i64 2, .slice none 0 0, .int .i64 to, .int .i64 to] 40)).grownBy w6 (some sb) → w6.cell? ⟨lb, 0, none⟩ = some (.slice (some ⟨sb, 0, none⟩) L.length cap) ∧ w6.frozen? ⟨lb, 0, none⟩ = false) := hid_intro (fun w6 hg => by
    have e : w6.heap[lb]? = w.heap[lb]? := (hg.block _ (by simp; omega) (fun e => hne (by injection e))).trans ((vb_a (Below.refl _ _) _).block _ hlt.1)
    exact ⟨(World.cell?_of_block (w := w) (w' := w6) e).trans l0, by rw [← z0]; simp only [World.frozen?, e]⟩)
  clear hM hRs hlt hne
  go_enter Try.func60, Try.ntmps60
  go_wp2_with (at_builtin; refine wpList_append_stZ rfl _ _ rfl sb L.length cap (flatS M) rfl (.int .i64 2) (.slice none 0 0) (.int .i64 to) (.int .i64 to) _ rfl rfl hroom ⟨rfl, rfl, rfl, rfl⟩ hown ?_; intro w6 ho6 hg6; obtain ⟨l6, z6⟩ := HKEEP.out w6 hg6)
  have hput := LZ.put (w := w) (lb := lb) (sb := sb) (cap := cap) (Z := Z) (L := L) ⟨2, [], to, to⟩ (.slice none 0 0) M HM.out.1 HH.out HM.out.2 (vb_a (Below.refl _ _) _) hg6 ho6 (Or.inr ⟨rfl, rfl⟩)
  go_wp2_with fail
  go_end0
  exact ⟨rfl, hput⟩
end Go.Proofs.Ytcgohdfpmfpfiaa
