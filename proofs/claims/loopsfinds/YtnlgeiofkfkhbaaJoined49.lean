/-
  The document's Ranks of a number below 0, and of any; Any. Conditions: n and the edges are at most 2^20.
-/
import Derived.Test.YtnlgeiofkfkhbaaJoined48
namespace Go.Proofs.Ytnlgeiofkfkhbaa
open Go.RowKit Go.Maps Lg
attribute [local go_sem] setCell_drewN alloc_drewN

theorem cnt_neg {n : Int} (hn : n < 0) (e : Ed) : cnt n e = false := by
 cases h : cnt n e with
 | false => rfl
 | true => have := cnt_in h; omega
theorem prs_neg {n : Int} (hn : n < 0) (E : List Ed) : prs n E = [] := by
 unfold prs
 rw [List.map_eq_nil_iff, List.filter_eq_nil_iff]
 intro e _
 rw [cnt_neg hn]; simp

set_option maxRecDepth 100000 in
set_option maxHeartbeats 3200000 in
theorem rranks_neg (n : Int) (hn : n < 0) (E : List Ed) (hEl : E.length ≤ 1048576) (v : Value) (w : World) (hE : EdI w v E) :
  Calls Try.prog 15 #[.int .i64 n, v] w fun r w' => RkA n E w.heap.size r w' ∧ Below w.heap.size w w' := by
 obtain ⟨P, hP⟩ : ∃ P : Ending → World → Prop, P = fun r w' => RkA n E w.heap.size r w' ∧ Below w.heap.size w w' := ⟨_, rfl⟩
 rw [← hP]
 have HP := hid_intro hP
 have hmax : max n 0 = 0 := by omega
 have hge : ¬ (0 : Int) ≤ n := by omega
 have hle : n ≤ 0 := by omega
 have hEI : (E.length : Int) ≤ 1048576 := by omega
 have HA : Hid (RkA n E w.heap.size = fun r w' => ∃ v, r = .returned (.tuple #[v, .bool true]) ∧ OwnI w' w.heap.size v []) := hid_intro (by
  funext r w'
  unfold RkA
  rw [prs_neg hn, show n.toNat = 0 by omega]
  rfl)
 have HC : Hid (∀ (e : Ed) (w' : World), Calls Try.prog 25 #[.int .i64 n, .agg #[.int .i64 e.f, .int .i64 e.t, .string e.wd, .bool e.s, .string e.dy]] w' fun r w2 => r = .returned (.bool false) ∧ Below w'.heap.size w' w2) := hid_intro (fun e w' => by
  have := counts_any n e w'
  rw [cnt_neg hn] at this
  exact this)
 obtain ⟨eo, ec, rfl, hc1, hc2, hrow⟩ := hE
 have HROW := hid_intro hrow
 clear hP hn hEl hc1 hc2 hrow
 go_enter Try.func15, Try.ntmps15
 go_wp2_with (at_make; refine wpList_make_i rfl _ _ rfl w.heap.size 0 rfl rfl (Nat.zero_le _) (Nat.le_refl _) ?_; intro w1 ho1 hg1 _; have HO1 := hid_intro ho1; have HB1 : Hid (Below w.heap.size w w1) := hid_intro ((Below.refl _ _).grown hg1 (Nat.le_refl _) (fun b e => by cases e)); clear ho1 hg1)
 go_loopg [7, 8, 9] (0) (fun g s7 s8 s9 wr => g = 0 ∧ s7 = .int .i64 0 ∧ Hid (Below w.heap.size w wr ∧ OwnI wr w.heap.size (.slice (some ⟨w.heap.size, 0, none⟩) 0 0) []))
 case atStart => exact ⟨rfl, rfl, hid_intro ⟨HB1.out, HO1.out⟩⟩
 case round =>
  obtain ⟨rfl, rfl, HI⟩ := hrel
  go_wp2_with fail
  go_loopg [8, 9] (E.length) (fun g s8 s9 wq => ∃ (i : Nat), g = E.length - i ∧ s8 = .bool true ∧ s9 = .int .i64 (i : Int) ∧ Hid (Below w.heap.size w wq ∧ i ≤ E.length ∧ OwnI wq w.heap.size (.slice (some ⟨w.heap.size, 0, none⟩) 0 0) []))
  case atStart => exact ⟨0, rfl, rfl, rfl, hid_intro ⟨HI.out.1, Nat.zero_le _, HI.out.2⟩⟩
  case round =>
   obtain ⟨i, rfl, rfl, rfl, HQ⟩ := hrel
   by_cases hi : i < E.length
   ·have hiI : (i : Int) < (E.length : Int) := by omega
    have HLI : Hid (i < E.length) := hid_intro hi
    obtain ⟨bb, off, rfl, hbl, hcell⟩ := HROW.out.resolve_left (fun e => by rw [e] at hi; exact absurd hi (by simp))
    have HCC := hid_intro (fun w' => HC.out E[i] w')
    obtain ⟨k0, k1, k2, k3, k4⟩ := hcell i hi
    replace k0 := (HQ.out.1.cell (p := ⟨bb, off + i * 5, none⟩) hbl).trans k0
    replace k1 := (HQ.out.1.cell (p := ⟨bb, off + i * 5 + 1, none⟩) hbl).trans k1
    replace k2 := (HQ.out.1.cell (p := ⟨bb, off + i * 5 + 2, none⟩) hbl).trans k2
    replace k3 := (HQ.out.1.cell (p := ⟨bb, off + i * 5 + 3, none⟩) hbl).trans k3
    replace k4 := (HQ.out.1.cell (p := ⟨bb, off + i * 5 + 4, none⟩) hbl).trans k4
    clear hcell HROW HC
    generalize E[i] = ed at *
    obtain ⟨ef, et, wd, sv, dy⟩ := ed
    dsimp only at HCC k0 k1 k2 k3 k4
    have HBX : Hid (Bk (wr.alloc (.cells #[.int .i64 ef, .int .i64 et, .string wd, .bool sv, .string dy] 32)) wr.heap.size #[.int .i64 ef, .int .i64 et, .string wd, .bool sv, .string dy]) := hid_intro (Bk.new _ _ _)
    have HC2 : Hid (∀ w', Below (wr.alloc (.cells #[.int .i64 ef, .int .i64 et, .string wd, .bool sv, .string dy] 32)).heap.size (wr.alloc (.cells #[.int .i64 ef, .int .i64 et, .string wd, .bool sv, .string dy] 32)) w' → Calls Try.prog 25 #[.int .i64 n, .agg #[.int .i64 ef, .int .i64 et, .string wd, .bool sv, .string dy]] w' fun r w2 => r = .returned (.bool false) ∧ Below (wr.alloc (.cells #[.int .i64 ef, .int .i64 et, .string wd, .bool sv, .string dy] 32)).heap.size (wr.alloc (.cells #[.int .i64 ef, .int .i64 et, .string wd, .bool sv, .string dy] 32)) w2) := hid_intro (fun w' hb => (HCC.out w').mono fun r w2 hr => ⟨hr.1, vb_t hb hr.2⟩)
    have HOX : Hid (∀ w', Below (wr.alloc (.cells #[.int .i64 ef, .int .i64 et, .string wd, .bool sv, .string dy] 32)).heap.size (wr.alloc (.cells #[.int .i64 ef, .int .i64 et, .string wd, .bool sv, .string dy] 32)) w' → Below wr.heap.size wr w') := hid_intro (fun w' hb => vb_t (vb_a (Below.refl _ _) _) hb)
    have hc := Below.refl (wr.alloc (.cells #[.int .i64 ef, .int .i64 et, .string wd, .bool sv, .string dy] 32)).heap.size (wr.alloc (.cells #[.int .i64 ef, .int .i64 et, .string wd, .bool sv, .string dy] 32))
    have b0 := HBX.out.cell 0
    have b1 := HBX.out.cell 1
    have b2 := HBX.out.cell 2
    have b3 := HBX.out.cell 3
    have b4 := HBX.out.cell 4
    simp only [List.getElem?_toArray, List.getElem?_cons_zero, List.getElem?_cons_succ] at b0 b1 b2 b3 b4
    clear hi
    go_wp2_with fail
    refine wp_region_any (by kernel_rfl) ?_
    try (change wpAny _ _ _ _ _ _ _ (World.drew _))
    refine wpAny_take (i := 0) (oi := ({ dst := some 30, op := Op.move (Operand.tmp 0), type := 3, pos := "ref.go:38", after := #[], guard := none } : Oper)) (v := .int .i64 n) rfl (by kernel_rfl) (by kernel_rfl) (by kernel_rfl) (fun _ _ _ h => h) (Or.inl ⟨by rfl, by intro w; go_simp⟩) ?_
    refine wpAny_ready (rs := [1]) (by kernel_rfl) (by simp) ?_
    refine AllReady.cons (o := ({ dst := some 31, op := Op.load 32 (Operand.tmp 10), type := 32, pos := "ref.go:38", after := #[], guard := none } : Oper)) rfl (fun K hK => ?_) AllReady.nil
    go_simp
    refine hK _ _ ?_
    clear hK K
    refine wpAny_ready (rs := [2]) (by kernel_rfl) (by simp) ?_
    refine AllReady.cons (o := ({ dst := some 32, op := Op.call { callee := Callee.value (Operand.func 25), args := #[Operand.tmp 30, Operand.tmp 31], argTypes := #[3, 32] }, type := 4, pos := "ref.go:38", after := #[{ on := 0, ground := Ground.data }, { on := 1, ground := Ground.data }], guard := none } : Oper)) rfl (fun K hK => ?_) AllReady.nil
    go_simp
    refine (HC2.out _ ?_).mono ?_
    ·with_reducible repeat (first | exact hc | refine vb_d ?_)
    rintro r8 w8 ⟨rfl, hc⟩
    refine hK _ _ ?_
    clear hK K
    refine wpAny_take (i := 3) (oi := ({ dst := some 33, op := Op.move (Operand.tmp 32), type := 4, pos := "ref.go:38", after := #[{ on := 2, ground := Ground.data }, { on := 2, ground := Ground.chain }], guard := none } : Oper)) (v := .bool false) rfl (by kernel_rfl) (by kernel_rfl) (by kernel_rfl) (fun _ _ _ h => h) (Or.inl ⟨by rfl, by intro w; go_simp⟩) ?_
    refine wpAny_take (i := 4) (oi := ({ dst := some 34, op := Op.move (Operand.tmp 6), type := 23, pos := "ref.go:38", after := #[{ on := 3, ground := Ground.guard }], guard := some (3, true) } : Oper)) (v := undef) rfl (by kernel_rfl) (by kernel_rfl) (by kernel_rfl) (fun _ _ _ h => h) (Or.inr ⟨by kernel_rfl, rfl⟩) ?_
    refine wpAny_take (i := 5) (oi := ({ dst := some 35, op := Op.fieldAddr 32 (Operand.tmp 10) 0, type := 0, pos := "ref.go:38", after := #[{ on := 3, ground := Ground.guard }], guard := some (3, true) } : Oper)) (v := undef) rfl (by kernel_rfl) (by kernel_rfl) (by kernel_rfl) (fun _ _ _ h => h) (Or.inr ⟨by kernel_rfl, rfl⟩) ?_
    refine wpAny_take (i := 6) (oi := ({ dst := some 36, op := Op.load 3 (Operand.tmp 35), type := 3, pos := "ref.go:38", after := #[{ on := 5, ground := Ground.data }, { on := 3, ground := Ground.guard }], guard := some (3, true) } : Oper)) (v := undef) rfl (by kernel_rfl) (by kernel_rfl) (by kernel_rfl) (fun _ _ _ h => h) (Or.inr ⟨by kernel_rfl, rfl⟩) ?_
    refine wpAny_take (i := 7) (oi := ({ dst := some 37, op := Op.indexAddr 23 (Operand.tmp 34) (Operand.tmp 36), type := 0, pos := "ref.go:38", after := #[{ on := 4, ground := Ground.data }, { on := 6, ground := Ground.data }, { on := 3, ground := Ground.guard }], guard := some (3, true) } : Oper)) (v := undef) rfl (by kernel_rfl) (by kernel_rfl) (by kernel_rfl) (fun _ _ _ h => h) (Or.inr ⟨by kernel_rfl, rfl⟩) ?_
    refine wpAny_take (i := 8) (oi := ({ dst := some 38, op := Op.load 3 (Operand.tmp 37), type := 3, pos := "ref.go:38", after := #[{ on := 7, ground := Ground.data }, { on := 3, ground := Ground.guard }], guard := some (3, true) } : Oper)) (v := undef) rfl (by kernel_rfl) (by kernel_rfl) (by kernel_rfl) (fun _ _ _ h => h) (Or.inr ⟨by kernel_rfl, rfl⟩) ?_
    refine wpAny_take (i := 9) (oi := ({ dst := some 39, op := Op.move (Operand.tmp 6), type := 23, pos := "ref.go:38", after := #[{ on := 3, ground := Ground.guard }], guard := some (3, true) } : Oper)) (v := undef) rfl (by kernel_rfl) (by kernel_rfl) (by kernel_rfl) (fun _ _ _ h => h) (Or.inr ⟨by kernel_rfl, rfl⟩) ?_
    refine wpAny_take (i := 10) (oi := ({ dst := some 40, op := Op.fieldAddr 32 (Operand.tmp 10) 1, type := 0, pos := "ref.go:38", after := #[{ on := 3, ground := Ground.guard }], guard := some (3, true) } : Oper)) (v := undef) rfl (by kernel_rfl) (by kernel_rfl) (by kernel_rfl) (fun _ _ _ h => h) (Or.inr ⟨by kernel_rfl, rfl⟩) ?_
    refine wpAny_take (i := 11) (oi := ({ dst := some 41, op := Op.load 3 (Operand.tmp 40), type := 3, pos := "ref.go:38", after := #[{ on := 10, ground := Ground.data }, { on := 3, ground := Ground.guard }], guard := some (3, true) } : Oper)) (v := undef) rfl (by kernel_rfl) (by kernel_rfl) (by kernel_rfl) (fun _ _ _ h => h) (Or.inr ⟨by kernel_rfl, rfl⟩) ?_
    refine wpAny_take (i := 12) (oi := ({ dst := some 42, op := Op.indexAddr 23 (Operand.tmp 39) (Operand.tmp 41), type := 0, pos := "ref.go:38", after := #[{ on := 9, ground := Ground.data }, { on := 11, ground := Ground.data }, { on := 3, ground := Ground.guard }], guard := some (3, true) } : Oper)) (v := undef) rfl (by kernel_rfl) (by kernel_rfl) (by kernel_rfl) (fun _ _ _ h => h) (Or.inr ⟨by kernel_rfl, rfl⟩) ?_
    refine wpAny_take (i := 13) (oi := ({ dst := some 43, op := Op.load 3 (Operand.tmp 42), type := 3, pos := "ref.go:38", after := #[{ on := 12, ground := Ground.data }, { on := 3, ground := Ground.guard }], guard := some (3, true) } : Oper)) (v := undef) rfl (by kernel_rfl) (by kernel_rfl) (by kernel_rfl) (fun _ _ _ h => h) (Or.inr ⟨by kernel_rfl, rfl⟩) ?_
    refine wpAny_take (i := 14) (oi := ({ dst := some 44, op := Op.binOp BinOp.add 3 (Operand.tmp 43) (Operand.const (Value.int IntKind.i64 1)) 3, type := 3, pos := "ref.go:38", after := #[{ on := 13, ground := Ground.data }, { on := 3, ground := Ground.guard }], guard := some (3, true) } : Oper)) (v := undef) rfl (by kernel_rfl) (by kernel_rfl) (by kernel_rfl) (fun _ _ _ h => h) (Or.inr ⟨by kernel_rfl, rfl⟩) ?_
    refine wpAny_take (i := 15) (oi := ({ dst := some 45, op := Op.binOp BinOp.lss 3 (Operand.tmp 38) (Operand.tmp 44) 3, type := 4, pos := "ref.go:38", after := #[{ on := 8, ground := Ground.data }, { on := 14, ground := Ground.data }, { on := 3, ground := Ground.guard }], guard := some (3, true) } : Oper)) (v := undef) rfl (by kernel_rfl) (by kernel_rfl) (by kernel_rfl) (fun _ _ _ h => h) (Or.inr ⟨by kernel_rfl, rfl⟩) ?_
    simp only [Act.put, List.setIfInBounds_toArray, List.set_cons_zero, List.set_cons_succ]
    refine wpAny_take (i := 16) (oi := ({ dst := some 46, op := Op.pick (Operand.tmp 33) (Operand.tmp 45) (Operand.const (Value.bool false)), type := 4, pos := "ref.go:38", after := #[{ on := 3, ground := Ground.data }, { on := 15, ground := Ground.data }], guard := none } : Oper)) (v := .bool false) rfl (by kernel_rfl) (by kernel_rfl) (by kernel_rfl) (fun _ _ _ h => h) (Or.inl ⟨by rfl, by intro w; go_simp⟩) ?_
    refine wpAny_done (by kernel_rfl) ?_ _
    go_wp2_with fail
    go_roundg (E.length - (i + 1))
    case measure => have := HLI.out; omega
    case rel => exact ⟨i + 1, rfl, rfl, by go_num, hid_intro ⟨vb_t HQ.out.1 (HOX.out _ hc), HLI.out, HQ.out.2.2.bel (HOX.out _ hc)⟩⟩
   ·have hiI : ¬ (i : Int) < (E.length : Int) := by omega
    go_wp2_with fail
    rw [HP.out]
    refine ⟨?_, HQ.out.1⟩
    rw [HA.out]
    exact ⟨_, rfl, HQ.out.2.2⟩

/-- Ranks of whatever number. -/
theorem rranks_all (n : Int) (hn : n ≤ 1048576) (E : List Ed) (hEl : E.length ≤ 1048576) (v : Value) (w : World) (hE : EdI w v E) :
  Calls Try.prog 15 #[.int .i64 n, v] w fun r w' => RkA n E w.heap.size r w' ∧ Below w.heap.size w w' := by
 by_cases h : n < 0
 ·exact rranks_neg n h E hEl v w hE
 ·exact rranks_any n (by omega) hn E hEl v w hE

set_option maxRecDepth 100000 in
theorem rany_any (n : Int) (hn : n ≤ 1048576) (E : List Ed) (hEl : E.length ≤ 1048576) (v : Value) (w : World) (hE : EdI w v E) :
  Calls Try.prog 11 #[.int .i64 n, v] w fun r w' => r = .returned (.bool (Lg.raised (prs n E) (n.toNat + 1) (fun _ => 0)).isNone) ∧ Below w.heap.size w w' := by
 obtain ⟨P, hP⟩ : ∃ P : Ending → World → Prop, P = fun r w' => r = .returned (.bool (Lg.raised (prs n E) (n.toNat + 1) (fun _ => 0)).isNone) ∧ Below w.heap.size w w' := ⟨_, rfl⟩
 rw [← hP]
 have HP := hid_intro hP
 have HR := hid_intro (rranks_all n hn E hEl v w hE)
 unfold RkA at HR
 obtain ⟨eo, ec, rfl, _⟩ := hE
 generalize Lg.raised (prs n E) (n.toNat + 1) (fun _ => 0) = x at *
 clear hP hn hEl
 go_enter Try.func11, Try.ntmps11
 go_wp2_with fail
 refine HR.out.mono ?_
 rintro r w1 ⟨h1, hb1⟩
 cases x with
 | none =>
  have h1 : r = .returned (.tuple #[.slice none 0 0, .bool false]) := h1
  subst h1
  go_wp2_with fail
  rw [HP.out]
  exact ⟨rfl, hb1⟩
 | some M =>
  obtain ⟨v1, h1, _⟩ := (show ∃ v, r = .returned (.tuple #[v, .bool true]) ∧ OwnI w1 w.heap.size v (outL M n.toNat) from h1)
  subst h1
  go_wp2_with fail
  rw [HP.out]
  exact ⟨rfl, hb1⟩
end Go.Proofs.Ytnlgeiofkfkhbaa
