/-
  The document's Ranks and Any. Conditions: n and the edges are at most 2^20.
-/
import Derived.Test.YtnlgeiofkfkhbaaJoined27
import Derived.Deep.RegionLaw
import Derived.BigRegion
namespace Go.Proofs.Ytnlgeiofkfkhbaa
open Go.RowKit Go.Maps Lg
attribute [local go_sem] setCell_drewN alloc_drewN

/-- What Ranks answers. -/
def RkA (n : Int) (E : List Ed) (B : Nat) (r : Ending) (w' : World) : Prop :=
 match Lg.raised (prs n E) (n.toNat + 1) (fun _ => 0) with
 | none => r = .returned (.tuple #[.slice none 0 0, .bool false])
 | some M => ∃ v, r = .returned (.tuple #[v, .bool true]) ∧ OwnI w' B v (outL M n.toNat)
/-- Where its rounds stand. -/
structure RkI (n : Int) (E : List Ed) (N r : Nat) (L : Nat → Nat) (w wr : World) : Prop where
 bel : Below w.heap.size w wr
 le : r ≤ N + 1
 ra : Lg.raised (prs n E) (N + 1) (fun _ => 0) = Lg.raised (prs n E) (N + 1 - r) L
 b : ∀ x, L x ≤ r * 1048576
 ow : OwnI wr w.heap.size (.slice (some ⟨w.heap.size, 0, none⟩) N N) (outL L N)
/-- .. and a round's edges. -/
structure RkE (n : Int) (E : List Ed) (N r i : Nat) (L M : Nat → Nat) (s : Bool) (w wr : World) : Prop where
 bel : Below w.heap.size w wr
 le : i ≤ E.length
 rn : Rn n E L (r * 1048576) i M s
 ow : OwnI wr w.heap.size (.slice (some ⟨w.heap.size, 0, none⟩) N N) (outL M N)

theorem RkE.dw {n : Int} {E : List Ed} {N r i : Nat} {L M : Nat → Nat} {s : Bool} {w wr : World} (h : RkE n E N r i L M s w wr) : RkE n E N r i L M s w wr.drew := ⟨vb_d h.bel, h.le, h.rn, h.ow⟩

set_option maxRecDepth 100000 in
set_option maxHeartbeats 3200000 in
theorem rranks_any (n : Int) (hn0 : 0 ≤ n) (hn : n ≤ 1048576) (E : List Ed) (hEl : E.length ≤ 1048576) (v : Value) (w : World) (hE : EdI w v E) :
  Calls Try.prog 15 #[.int .i64 n, v] w fun r w' => RkA n E w.heap.size r w' ∧ Below w.heap.size w w' := by
 obtain ⟨P, hP⟩ : ∃ P : Ending → World → Prop, P = fun r w' => RkA n E w.heap.size r w' ∧ Below w.heap.size w w' := ⟨_, rfl⟩
 rw [← hP]
 have HP := hid_intro hP
 obtain ⟨N, rfl⟩ : ∃ N : Nat, n = (N : Int) := ⟨n.toNat, by omega⟩
 have hmax : max (N : Int) 0 = (N : Int) := by omega
 have hge : (0 : Int) ≤ (N : Int) := by omega
 have hNI : (N : Int) ≤ 1048576 := by omega
 have HN : Hid (N ≤ 1048576 ∧ E.length ≤ 1048576) := hid_intro ⟨by omega, hEl⟩
 have hEI : (E.length : Int) ≤ 1048576 := by omega
 have HE := hid_intro hE
 have HC : Hid (∀ (e : Ed) (w' : World), Calls Try.prog 25 #[.int .i64 (N : Int), .agg #[.int .i64 e.f, .int .i64 e.t, .string e.wd, .bool e.s, .string e.dy]] w' fun r w2 => r = .returned (.bool (cnt N e)) ∧ Below w'.heap.size w' w2) := hid_intro (fun e w' => counts_any N e w')
 obtain ⟨eo, ec, rfl, hc1, hc2, hrow⟩ := hE
 have HROW := hid_intro hrow
 clear hP hn hn0 hEl hc1 hc2 hrow
 go_enter Try.func15, Try.ntmps15
 go_wp2_with (at_make; refine wpList_make_i rfl _ _ rfl w.heap.size N rfl rfl (by have := HN.out; omega) (Nat.le_refl _) ?_; intro w1 ho1 hg1 _; have HO1 := hid_intro ho1; have HB1 : Hid (Below w.heap.size w w1) := hid_intro ((Below.refl _ _).grown hg1 (Nat.le_refl _) (fun b e => by cases e)); clear ho1 hg1)
 go_loopg [7, 8, 9] (N + 1) (fun g s7 s8 s9 wr => ∃ (r : Nat) (L : Nat → Nat), g = N + 1 - r ∧ s7 = .int .i64 (r : Int) ∧ Hid (RkI N E N r L w wr))
 case atStart => exact ⟨0, fun _ => 0, rfl, rfl, hid_intro ⟨HB1.out, Nat.zero_le _, rfl, fun x => Nat.zero_le _, by rw [outL_0]; exact HO1.out⟩⟩
 case round =>
  obtain ⟨r, L, rfl, rfl, HI⟩ := hrel
  by_cases hlt : r ≤ N
  ·have hI : (r : Int) ≤ (N : Int) := by omega
   have HR : Hid (r ≤ N) := hid_intro hlt
   clear hlt
   go_wp2_with fail
   go_loopg [8, 9] (E.length) (fun g s8 s9 wq => ∃ (i : Nat) (s : Bool) (M : Nat → Nat), g = E.length - i ∧ s8 = .bool s ∧ s9 = .int .i64 (i : Int) ∧ Hid (RkE N E N r i L M s w wq))
   case atStart => exact ⟨0, true, L, rfl, rfl, rfl, hid_intro ⟨HI.out.bel, Nat.zero_le _, Rn.start HI.out.b, HI.out.ow⟩⟩
   case round =>
    obtain ⟨i, s, M, rfl, rfl, rfl, HQ⟩ := hrel
    by_cases hi : i < E.length
    ·have hiI : (i : Int) < (E.length : Int) := by omega
     have HLI : Hid (i < E.length) := hid_intro hi
     obtain ⟨bb, off, rfl, hbl, hcell⟩ := HROW.out.resolve_left (fun e => by rw [e] at hi; exact absurd hi (by simp))
     have HNO := hid_intro (fun h => HQ.out.rn.no hi h)
     have HKE := hid_intro (fun h1 h2 => HQ.out.rn.keep hi h1 h2)
     have HST := hid_intro (fun h1 h2 => HQ.out.rn.set hi h1 h2)
     have HCC := hid_intro (fun w' => HC.out E[i] w')
     obtain ⟨k0, k1, k2, k3, k4⟩ := hcell i hi
     replace k0 := (HQ.out.bel.cell (p := ⟨bb, off + i * 5, none⟩) hbl).trans k0
     replace k1 := (HQ.out.bel.cell (p := ⟨bb, off + i * 5 + 1, none⟩) hbl).trans k1
     replace k2 := (HQ.out.bel.cell (p := ⟨bb, off + i * 5 + 2, none⟩) hbl).trans k2
     replace k3 := (HQ.out.bel.cell (p := ⟨bb, off + i * 5 + 3, none⟩) hbl).trans k3
     replace k4 := (HQ.out.bel.cell (p := ⟨bb, off + i * 5 + 4, none⟩) hbl).trans k4
     clear hcell HROW HC HE
     generalize E[i] = ed at *
     obtain ⟨ef, et, wd, sv, dy⟩ := ed
     dsimp only at HNO HKE HST HCC k0 k1 k2 k3 k4
     cases hcn : cnt N ⟨ef, et, wd, sv, dy⟩ with
     | false =>
      rw [hcn] at HCC
      have HRN := hid_intro (HNO.out hcn)
      clear hcn hi HNO HKE HST
      have HBX : Hid (Bk (wr.alloc (.cells #[.int .i64 ef, .int .i64 et, .string wd, .bool sv, .string dy] 32)) wr.heap.size #[.int .i64 ef, .int .i64 et, .string wd, .bool sv, .string dy]) := hid_intro (Bk.new _ _ _)
      have HS : Hid (∀ w', Below (wr.alloc (.cells #[.int .i64 ef, .int .i64 et, .string wd, .bool sv, .string dy] 32)).heap.size (wr.alloc (.cells #[.int .i64 ef, .int .i64 et, .string wd, .bool sv, .string dy] 32)) w' → w'.cell? ⟨wr.heap.size, 0, none⟩ = some (.int .i64 ef) ∧ w'.cell? ⟨wr.heap.size, 1, none⟩ = some (.int .i64 et) ∧ w'.cell? ⟨wr.heap.size, 2, none⟩ = some (.string wd) ∧ w'.cell? ⟨wr.heap.size, 3, none⟩ = some (.bool sv) ∧ w'.cell? ⟨wr.heap.size, 4, none⟩ = some (.string dy)) := hid_intro (fun w' hb => ⟨(HBX.out.bel hb).cell 0, (HBX.out.bel hb).cell 1, (HBX.out.bel hb).cell 2, (HBX.out.bel hb).cell 3, (HBX.out.bel hb).cell 4⟩)
      have HC2 : Hid (∀ w', Below (wr.alloc (.cells #[.int .i64 ef, .int .i64 et, .string wd, .bool sv, .string dy] 32)).heap.size (wr.alloc (.cells #[.int .i64 ef, .int .i64 et, .string wd, .bool sv, .string dy] 32)) w' → Calls Try.prog 25 #[.int .i64 (N : Int), .agg #[.int .i64 ef, .int .i64 et, .string wd, .bool sv, .string dy]] w' fun r w2 => r = .returned (.bool false) ∧ Below (wr.alloc (.cells #[.int .i64 ef, .int .i64 et, .string wd, .bool sv, .string dy] 32)).heap.size (wr.alloc (.cells #[.int .i64 ef, .int .i64 et, .string wd, .bool sv, .string dy] 32)) w2) := hid_intro (fun w' hb => (HCC.out w').mono fun r w2 hr => ⟨hr.1, vb_t hb hr.2⟩)
      have HOX : Hid (∀ w', Below (wr.alloc (.cells #[.int .i64 ef, .int .i64 et, .string wd, .bool sv, .string dy] 32)).heap.size (wr.alloc (.cells #[.int .i64 ef, .int .i64 et, .string wd, .bool sv, .string dy] 32)) w' → Below wr.heap.size wr w') := hid_intro (fun w' hb => vb_t (vb_a (Below.refl _ _) _) hb)
      have hc := Below.refl (wr.alloc (.cells #[.int .i64 ef, .int .i64 et, .string wd, .bool sv, .string dy] 32)).heap.size (wr.alloc (.cells #[.int .i64 ef, .int .i64 et, .string wd, .bool sv, .string dy] 32))
      obtain ⟨b0, b1, b2, b3, b4⟩ := (HS.out _ hc)
      go_wp2_with fail
      refine wp_region_any (by kernel_rfl) ?_
      try (change wpAny _ _ _ _ _ _ _ (World.drew _))
      refine wpAny_take (i := 0) (oi := ({ dst := some 30, op := Op.move (Operand.tmp 0), type := 3, pos := "ref.go:38", after := #[], guard := none } : Oper)) (v := .int .i64 (N : Int)) rfl (by kernel_rfl) (by kernel_rfl) (by kernel_rfl) (fun _ _ _ h => h) (Or.inl ⟨by rfl, by intro w; go_simp⟩) ?_
      refine wpAny_ready (rs := [1]) (by kernel_rfl) (by simp) ?_
      refine AllReady.cons (o := ({ dst := some 31, op := Op.load 32 (Operand.tmp 10), type := 32, pos := "ref.go:38", after := #[], guard := none } : Oper)) rfl (fun K hK => ?_) AllReady.nil
      go_simp
      refine hK _ _ ?_
      clear hK K
      refine wpAny_ready (rs := [2]) (by kernel_rfl) (by simp) ?_
      refine AllReady.cons (o := ({ dst := some 32, op := Op.call { callee := Callee.value (Operand.func 25), args := #[Operand.tmp 30, Operand.tmp 31], argTypes := #[3, 32] }, type := 4, pos := "ref.go:38", after := #[{ on := 0, ground := Ground.data }, { on := 1, ground := Ground.data }], guard := none } : Oper)) rfl (fun K hK => ?_) AllReady.nil
      go_simp
      refine (HC2.out _ ?_).mono ?_
      ·with_reducible repeat (first | exact hc | refine vb_d ?_)
      rintro r8 w8 ⟨rfl, hc⟩
      refine hK _ _ ?_
      clear hK K
      refine wpAny_take (i := 3) (oi := ({ dst := some 33, op := Op.move (Operand.tmp 32), type := 4, pos := "ref.go:38", after := #[{ on := 2, ground := Ground.data }, { on := 2, ground := Ground.chain }], guard := none } : Oper)) (v := .bool false) rfl (by kernel_rfl) (by kernel_rfl) (by kernel_rfl) (fun _ _ _ h => h) (Or.inl ⟨by rfl, by intro w; go_simp⟩) ?_
      refine wpAny_take (i := 4) (oi := ({ dst := some 34, op := Op.move (Operand.tmp 6), type := 23, pos := "ref.go:38", after := #[{ on := 3, ground := Ground.guard }], guard := some (3, true) } : Oper)) (v := undef) rfl (by kernel_rfl) (by kernel_rfl) (by kernel_rfl) (fun _ _ _ h => h) (Or.inr ⟨by kernel_rfl, rfl⟩) ?_
      refine wpAny_take (i := 5) (oi := ({ dst := some 35, op := Op.fieldAddr 32 (Operand.tmp 10) 0, type := 0, pos := "ref.go:38", after := #[{ on := 3, ground := Ground.guard }], guard := some (3, true) } : Oper)) (v := undef) rfl (by kernel_rfl) (by kernel_rfl) (by kernel_rfl) (fun _ _ _ h => h) (Or.inr ⟨by kernel_rfl, rfl⟩) ?_
      refine wpAny_take (i := 6) (oi := ({ dst := some 36, op := Op.load 3 (Operand.tmp 35), type := 3, pos := "ref.go:38", after := #[{ on := 5, ground := Ground.data }, { on := 3, ground := Ground.guard }], guard := some (3, true) } : Oper)) (v := undef) rfl (by kernel_rfl) (by kernel_rfl) (by kernel_rfl) (fun _ _ _ h => h) (Or.inr ⟨by kernel_rfl, rfl⟩) ?_
      refine wpAny_take (i := 7) (oi := ({ dst := some 37, op := Op.indexAddr 23 (Operand.tmp 34) (Operand.tmp 36), type := 0, pos := "ref.go:38", after := #[{ on := 4, ground := Ground.data }, { on := 6, ground := Ground.data }, { on := 3, ground := Ground.guard }], guard := some (3, true) } : Oper)) (v := undef) rfl (by kernel_rfl) (by kernel_rfl) (by kernel_rfl) (fun _ _ _ h => h) (Or.inr ⟨by kernel_rfl, rfl⟩) ?_
      refine wpAny_take (i := 8) (oi := ({ dst := some 38, op := Op.load 3 (Operand.tmp 37), type := 3, pos := "ref.go:38", after := #[{ on := 7, ground := Ground.data }, { on := 3, ground := Ground.guard }], guard := some (3, true) } : Oper)) (v := undef) rfl (by kernel_rfl) (by kernel_rfl) (by kernel_rfl) (fun _ _ _ h => h) (Or.inr ⟨by kernel_rfl, rfl⟩) ?_
      refine wpAny_take (i := 9) (oi := ({ dst := some 39, op := Op.move (Operand.tmp 6), type := 23, pos := "ref.go:38", after := #[{ on := 3, ground := Ground.guard }], guard := some (3, true) } : Oper)) (v := undef) rfl (by kernel_rfl) (by kernel_rfl) (by kernel_rfl) (fun _ _ _ h => h) (Or.inr ⟨by kernel_rfl, rfl⟩) ?_
      refine wpAny_take (i := 10) (oi := ({ dst := some 40, op := Op.fieldAddr 32 (Operand.tmp 10) 1, type := 0, pos := "ref.go:38", after := #[{ on := 3, ground := Ground.guard }], guard := some (3, true) } : Oper)) (v := undef) rfl (by kernel_rfl) (by kernel_rfl) (by kernel_rfl) (fun _ _ _ h => h) (Or.inr ⟨by kernel_rfl, rfl⟩) ?_
      refine wpAny_take (i := 11) (oi := ({ dst := some 41, op := Op.load 3 (Operand.tmp 40), type := 3, pos := "ref.go:38", after := #[{ on := 10, ground := Ground.data }, { on := 3, ground := Ground.guard }], guard := some (3, true) } : Oper)) (v := undef) rfl (by kernel_rfl) (by kernel_rfl) (by kernel_rfl) (fun _ _ _ h => h) (Or.inr ⟨by kernel_rfl, rfl⟩) ?_
      refine wpAny_take (i := 12) (oi := ({ dst := some 42, op := Op.indexAddr 23 (Operand.tmp 39) (Operand.tmp 41), type := 0, pos := "ref.go:38", after := #[{ on := 9, ground := Ground.data }, { on := 11, ground := Ground.data }, { on := 3, ground := Ground.guard }], guard := some (3, true) } : Oper)) (v := undef) rfl (by kernel_rfl) (by kernel_rfl) (by kernel_rfl) (fun _ _ _ h => h) (Or.inr ⟨by kernel_rfl, rfl⟩) ?_
      refine wpAny_take (i := 13) (oi := ({ dst := some 43, op := Op.load 3 (Operand.tmp 42), type := 3, pos := "ref.go:38", after := #[{ on := 12, ground := Ground.data }, { on := 3, ground := Ground.guard }], guard := some (3, true) } : Oper)) (v := undef) rfl (by kernel_rfl) (by kernel_rfl) (by kernel_rfl) (fun _ _ _ h => h) (Or.inr ⟨by kernel_rfl, rfl⟩) ?_
      refine wpAny_take (i := 14) (oi := ({ dst := some 44, op := Op.binOp BinOp.add 3 (Operand.tmp 43) (Operand.const (Value.int IntKind.i64 1)) 3, type := 3, pos := "ref.go:38", after := #[{ on := 13, ground := Ground.data }, { on := 3, ground := Ground.guard }], guard := some (3, true) } : Oper)) (v := undef) rfl (by kernel_rfl) (by kernel_rfl) (by kernel_rfl) (fun _ _ _ h => h) (Or.inr ⟨by kernel_rfl, rfl⟩) ?_
      refine wpAny_take (i := 15) (oi := ({ dst := some 45, op := Op.binOp BinOp.lss 3 (Operand.tmp 38) (Operand.tmp 44) 3, type := 4, pos := "ref.go:38", after := #[{ on := 8, ground := Ground.data }, { on := 14, ground := Ground.data }, { on := 3, ground := Ground.guard }], guard := some (3, true) } : Oper)) (v := undef) rfl (by kernel_rfl) (by kernel_rfl) (by kernel_rfl) (fun _ _ _ h => h) (Or.inr ⟨by kernel_rfl, rfl⟩) ?_
      simp only [Act.put, List.setIfInBounds_toArray, List.set_cons_zero, List.set_cons_succ]
      refine wpAny_take (i := 16) (oi := ({ dst := some 46, op := Op.pick (Operand.tmp 33) (Operand.tmp 45) (Operand.const (Value.bool false)), type := 4, pos := "ref.go:38", after := #[{ on := 3, ground := Ground.data }, { on := 15, ground := Ground.data }], guard := none } : Oper)) (v := .bool false) rfl (by kernel_rfl) (by kernel_rfl) (by kernel_rfl) (fun _ _ _ h => h) (Or.inl ⟨by rfl, by intro w; go_simp⟩) ?_
      refine wpAny_done (by kernel_rfl) ?_ _
      all_goals
       go_wp2_with fail
       go_roundg (E.length - (i + 1))
       case measure => have := HLI.out; omega
       case rel => exact ⟨i + 1, s, M, rfl, rfl, by go_num, hid_intro ⟨vb_t HQ.out.bel (HOX.out _ (by with_reducible repeat (first | exact hc | refine vb_d ?_ | refine vb_n ?_ _))), HLI.out, HRN.out, HQ.out.ow.bel (HOX.out _ (by with_reducible repeat (first | exact hc | refine vb_d ?_ | refine vb_n ?_ _)))⟩⟩
     | true =>
      have hin := cnt_in hcn
      dsimp only at hin
      obtain ⟨f, rfl⟩ : ∃ f : Nat, ef = (f : Int) := ⟨ef.toNat, by omega⟩
      obtain ⟨t, rfl⟩ : ∃ t : Nat, et = (t : Int) := ⟨et.toNat, by omega⟩
      rw [hcn] at HCC
      have hfI : (f : Int) < (N : Int) := by omega
      have htI : (t : Int) < (N : Int) := by omega
      have HFT : Hid (f < N ∧ t < N) := hid_intro ⟨by omega, by omega⟩
      have HMB : Hid (M f ≤ 2199023255552 ∧ M t ≤ 2199023255552) := hid_intro ⟨by have h1 := HQ.out.rn.b f; have h2 := HQ.out.le; have h3 := HN.out; have h4 := HR.out; have h5 : r * 1048576 ≤ 1048576 * 1048576 := Nat.mul_le_mul_right _ (by omega); omega, by have h1 := HQ.out.rn.b t; have h2 := HQ.out.le; have h3 := HN.out; have h4 := HR.out; have h5 : r * 1048576 ≤ 1048576 * 1048576 := Nat.mul_le_mul_right _ (by omega); omega⟩
      have hmI : (M t : Int) ≤ 2199023255552 := by have := HMB.out.2; omega
      have hwM : IntKind.i64.wrap ((M t : Int) + 1) = (M t : Int) + 1 := by simp [IntKind.wrap, IntKind.bits, IntKind.signed]; omega
      have HOL : Hid (w.heap.size < wr.heap.size) := hid_intro (HQ.out.ow.lt rfl).2
      have HOF : Hid (∀ w', Below wr.heap.size wr w' → w'.cell? ⟨w.heap.size, f, none⟩ = some (.int .i64 (M f : Int)) ∧ w'.cell? ⟨w.heap.size, t, none⟩ = some (.int .i64 (M t : Int)) ∧ w'.frozen? ⟨w.heap.size, f, none⟩ = false) := hid_intro (fun w' hb => by
       have o := HQ.out.ow.bel hb
       have h1 := o.at (outL_len M N).symm (j := f) (by rw [outL_len]; exact HFT.out.1)
       have h2 := o.at (outL_len M N).symm (j := t) (by rw [outL_len]; exact HFT.out.2)
       rw [outL_at M HFT.out.1] at h1
       rw [outL_at M HFT.out.2] at h2
       exact ⟨h1.1, h2.1, h1.2⟩)
      have HK2 := hid_intro (fun h => HKE.out hcn h)
      have HS2 := hid_intro (fun h => HST.out hcn h)
      dsimp only [Int.toNat_natCast] at HK2 HS2
      clear hin hcn hi HNO HKE HST
      have HBX : Hid (Bk (wr.alloc (.cells #[.int .i64 (f : Int), .int .i64 (t : Int), .string wd, .bool sv, .string dy] 32)) wr.heap.size #[.int .i64 (f : Int), .int .i64 (t : Int), .string wd, .bool sv, .string dy]) := hid_intro (Bk.new _ _ _)
      have HS : Hid (∀ w', Below (wr.alloc (.cells #[.int .i64 (f : Int), .int .i64 (t : Int), .string wd, .bool sv, .string dy] 32)).heap.size (wr.alloc (.cells #[.int .i64 (f : Int), .int .i64 (t : Int), .string wd, .bool sv, .string dy] 32)) w' → w'.cell? ⟨wr.heap.size, 0, none⟩ = some (.int .i64 (f : Int)) ∧ w'.cell? ⟨wr.heap.size, 1, none⟩ = some (.int .i64 (t : Int)) ∧ w'.cell? ⟨wr.heap.size, 2, none⟩ = some (.string wd) ∧ w'.cell? ⟨wr.heap.size, 3, none⟩ = some (.bool sv) ∧ w'.cell? ⟨wr.heap.size, 4, none⟩ = some (.string dy) ∧ w'.cell? ⟨w.heap.size, f, none⟩ = some (.int .i64 (M f : Int)) ∧ w'.cell? ⟨w.heap.size, t, none⟩ = some (.int .i64 (M t : Int))) := hid_intro (fun w' hb => ⟨(HBX.out.bel hb).cell 0, (HBX.out.bel hb).cell 1, (HBX.out.bel hb).cell 2, (HBX.out.bel hb).cell 3, (HBX.out.bel hb).cell 4, (HOF.out w' (vb_t (vb_a (Below.refl _ _) _) hb)).1, (HOF.out w' (vb_t (vb_a (Below.refl _ _) _) hb)).2.1⟩)
      have HC2 : Hid (∀ w', Below (wr.alloc (.cells #[.int .i64 (f : Int), .int .i64 (t : Int), .string wd, .bool sv, .string dy] 32)).heap.size (wr.alloc (.cells #[.int .i64 (f : Int), .int .i64 (t : Int), .string wd, .bool sv, .string dy] 32)) w' → Calls Try.prog 25 #[.int .i64 (N : Int), .agg #[.int .i64 (f : Int), .int .i64 (t : Int), .string wd, .bool sv, .string dy]] w' fun r w2 => r = .returned (.bool true) ∧ Below (wr.alloc (.cells #[.int .i64 (f : Int), .int .i64 (t : Int), .string wd, .bool sv, .string dy] 32)).heap.size (wr.alloc (.cells #[.int .i64 (f : Int), .int .i64 (t : Int), .string wd, .bool sv, .string dy] 32)) w2) := hid_intro (fun w' hb => (HCC.out w').mono fun r w2 hr => ⟨hr.1, vb_t hb hr.2⟩)
      have HOX : Hid (∀ w', Below (wr.alloc (.cells #[.int .i64 (f : Int), .int .i64 (t : Int), .string wd, .bool sv, .string dy] 32)).heap.size (wr.alloc (.cells #[.int .i64 (f : Int), .int .i64 (t : Int), .string wd, .bool sv, .string dy] 32)) w' → Below wr.heap.size wr w') := hid_intro (fun w' hb => vb_t (vb_a (Below.refl _ _) _) hb)
      have hc := Below.refl (wr.alloc (.cells #[.int .i64 (f : Int), .int .i64 (t : Int), .string wd, .bool sv, .string dy] 32)).heap.size (wr.alloc (.cells #[.int .i64 (f : Int), .int .i64 (t : Int), .string wd, .bool sv, .string dy] 32))
      obtain ⟨b0, b1, b2, b3, b4, b5, b6⟩ := (HS.out _ hc)
      by_cases hk : M f < M t + 1
      ·have hkI : (M f : Int) < (M t : Int) + 1 := by omega
       have hkb : decide ((M f : Int) < (M t : Int) + 1) = true := decide_eq_true hkI
       have HRN := hid_intro (HS2.out hk)
       clear hk
       go_wp2_with fail
       go_region_held3 (fun w' => w'.cell? ⟨wr.heap.size, 0, none⟩ = some (.int .i64 (f : Int)) ∧ w'.cell? ⟨wr.heap.size, 1, none⟩ = some (.int .i64 (t : Int)) ∧ w'.cell? ⟨wr.heap.size, 2, none⟩ = some (.string wd) ∧ w'.cell? ⟨wr.heap.size, 3, none⟩ = some (.bool sv) ∧ w'.cell? ⟨wr.heap.size, 4, none⟩ = some (.string dy) ∧ w'.cell? ⟨w.heap.size, f, none⟩ = some (.int .i64 (M f : Int)) ∧ w'.cell? ⟨w.heap.size, t, none⟩ = some (.int .i64 (M t : Int))) (first | (refine HS.out _ ?_; (with_reducible repeat (first | exact hc | refine vb_d ?_)); done) | fail) (first | (go_at_call 25; refine (HC2.out _ ?_).mono ?_; (with_reducible repeat (first | exact hc | refine vb_d ?_)); rintro r8 w8 ⟨rfl, hc⟩) | fail)
       all_goals
        obtain ⟨c0, c1, c2, c3, c4, c5, c6⟩ := HS.out _ hc
        have z5 := (HOF.out _ (HOX.out _ hc)).2.2
        have HFIN : Hid (RkE N E N r (i + 1) L (upd1 M f (M t + 1)) false w (w8.setCell ⟨w.heap.size, f, none⟩ (.int .i64 ((M t : Int) + 1)))) := hid_intro (by
         have o := (HQ.out.ow.bel (HOX.out _ hc)).put (outL_len M N).symm f ((M t : Int) + 1) (by unfold I64; have := HMB.out.2; omega)
         rw [show ((M t : Int) + 1) = ((M t + 1 : Nat) : Int) by omega, outL_set] at o
         have bb := vb_t HQ.out.bel (HOX.out _ hc)
         exact ⟨bb.grown o.2 bb.size (fun b e => by injection e with e; omega), HLI.out, HRN.out, o.1⟩)
        go_wp2_with fail
        go_region
        all_goals
         go_wp2_with fail
         go_roundg (E.length - (i + 1))
         case measure => have := HLI.out; omega
         case rel => exact ⟨i + 1, false, upd1 M f (M t + 1), rfl, rfl, by go_num, hid_intro (by with_reducible repeat (first | exact HFIN.out | refine RkE.dw ?_))⟩
      ·have hkI : ¬ (M f : Int) < (M t : Int) + 1 := by omega
       have hkb : decide ((M f : Int) < (M t : Int) + 1) = false := decide_eq_false hkI
       have HRN := hid_intro (HK2.out hk)
       clear hk
       go_wp2_with fail
       go_region_held3 (fun w' => w'.cell? ⟨wr.heap.size, 0, none⟩ = some (.int .i64 (f : Int)) ∧ w'.cell? ⟨wr.heap.size, 1, none⟩ = some (.int .i64 (t : Int)) ∧ w'.cell? ⟨wr.heap.size, 2, none⟩ = some (.string wd) ∧ w'.cell? ⟨wr.heap.size, 3, none⟩ = some (.bool sv) ∧ w'.cell? ⟨wr.heap.size, 4, none⟩ = some (.string dy) ∧ w'.cell? ⟨w.heap.size, f, none⟩ = some (.int .i64 (M f : Int)) ∧ w'.cell? ⟨w.heap.size, t, none⟩ = some (.int .i64 (M t : Int))) (first | (refine HS.out _ ?_; (with_reducible repeat (first | exact hc | refine vb_d ?_)); done) | fail) (first | (go_at_call 25; refine (HC2.out _ ?_).mono ?_; (with_reducible repeat (first | exact hc | refine vb_d ?_)); rintro r8 w8 ⟨rfl, hc⟩) | fail)
       all_goals
        go_wp2_with fail
        go_roundg (E.length - (i + 1))
        case measure => have := HLI.out; omega
        case rel => exact ⟨i + 1, s, M, rfl, rfl, by go_num, hid_intro ⟨vb_t HQ.out.bel (HOX.out _ (by with_reducible repeat (first | exact hc | refine vb_d ?_ | refine vb_n ?_ _))), HLI.out, HRN.out, HQ.out.ow.bel (HOX.out _ (by with_reducible repeat (first | exact hc | refine vb_d ?_ | refine vb_n ?_ _)))⟩⟩
    ·have hiI : ¬ (i : Int) < (E.length : Int) := by omega
     cases s with
     | true =>
      have HY := hid_intro (HQ.out.rn.yes (k := N - r) (by omega))
      have HA := hid_intro (HI.out.ra)
      go_wp2_with fail
      rw [HP.out]
      refine ⟨?_, HQ.out.bel⟩
      unfold RkA
      rw [Int.toNat_natCast, HA.out, show N + 1 - r = N - r + 1 by have := HR.out; omega, HY.out.2]
      exact ⟨_, rfl, by rw [← HY.out.1]; exact HQ.out.ow⟩
     | false =>
      have HX : Hid (RkI N E N (r + 1) M w wr) := hid_intro ⟨HQ.out.bel, by have := HR.out; omega, by
       rw [HI.out.ra, show N + 1 - r = N - r + 1 by have := HR.out; omega, HQ.out.rn.more (by omega)]
       congr 1
       omega, fun x => by
       have h1 := HQ.out.rn.b x
       have h2 := HQ.out.le
       have h3 := HN.out.2
       omega, HQ.out.ow⟩
      have hr20 : (r : Int) ≤ 1048576 := by omega
      go_wp2_with fail
      go_roundg (N + 1 - (r + 1))
      case measure => have := HR.out; omega
      case rel => exact ⟨r + 1, M, rfl, by go_num, HX⟩
  ·have hI : ¬ (r : Int) ≤ (N : Int) := by omega
   have HA : Hid (Lg.raised (prs N E) (N + 1) (fun _ => 0) = none) := hid_intro (by rw [HI.out.ra, show N + 1 - r = 0 by omega]; rfl)
   go_wp2_with fail
   rw [HP.out]
   refine ⟨?_, HI.out.bel⟩
   unfold RkA
   rw [Int.toNat_natCast, HA.out]
end Go.Proofs.Ytnlgeiofkfkhbaa
