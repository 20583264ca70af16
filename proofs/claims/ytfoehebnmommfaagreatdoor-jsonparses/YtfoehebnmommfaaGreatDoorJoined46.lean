/-
  JsonReads answers true for every bytes and limits. Conditions: the tables as they are laid.
  How json's walks become rows and cards: what the listed variables give; bytes and limits that come in as arguments. Conditions: none of its own.
-/
import Derived.Test.YtfoehebnmommfaaGreatDoorJoined44
import Derived.Test.YtfoehebnmommfaaGreatDoorJoined45
import Derived.Test.YtfoehebnmommfaaGreatDoorJoined41
import Derived.Test.YtfoehebnmommfaaGreatDoorJoined20
import Derived.Test.YtfoehebnmommfaaGreatDoorCards
import Derived.Test.YtfoehebnmommfaaGreatDoorTie
import Derived.ProofKit
import Derived.OpenShut
import Derived.ShutString
import Derived.ChangeOld
import Derived.Below
import Derived.Deep.DeepHandedRow
import Derived.Deep.Strs
import Derived.Lib.LaidTab
import Derived.LaidLaws
import Derived.LaidHandle
import Derived.LaidSub
import Derived.SizedLaws
namespace Go.Proofs.YtfoehebnmommfaaGreatDoor
open Go.RowKit Go.Maps
attribute [local go_sem] setCell_drewN alloc_drewN

theorem vi_free5 {w w' : World} {X : Nat → Prop} {x : JV} {f : Nat → Value} (h : VI w X x f) (hb : Below w.heap.size w w') : VI w' (fun _ => False) x f := h.carry fun b _ hlt => ⟨hb.block b hlt, id⟩
theorem eqIn_lim (b1 b2 b3 b4 b5 : Int) (w : World) :
  (Op.equalIn 10000 24 (.agg #[.int .i64 b1, .int .i64 b2, .int .i64 b3, .int .i64 b4, .int .i64 b5]) (.agg #[.int .i64 b1, .int .i64 b2, .int .i64 b3, .int .i64 b4, .int .i64 b5])).run Tryz.prog w = .ok true w := by
 have u3 := Tryz.underlying3
 have a3 := Tryz.isAgg3
 have z3 := Tryz.sizeOf3
 have hS : Tryz.prog.underlying 24 = some (.struct (Tryz.prog.fieldsOf 24)) := by kernel_rfl
 have hp : Tryz.prog.stoodInHeld 24 = false := by kernel_rfl
 rw [show (10000 : Nat) = 9999 + 1 from rfl, run_equalIn_agg w 9999 24 _ _ hS hp]
 simp only [Program.fieldsOf, Tryz.underlying24]
 go_simp
set_option maxRecDepth 100000 in
set_option maxHeartbeats 3200000 in
theorem jreads_walk (l : List UInt8) (v : Value) (a1 a2 a3 a4 a5 : Int) (w : World) (a : Addr) (hE : Lx.Env w) (hD : Env w a) (hB : Lx.Byt w v l) :
  Calls Tryz.prog 3 #[v, limV a1 a2 a3 a4 a5] w fun r w' => r = .returned (.bool true) ∧ Below w.heap.size w w' := by
 obtain ⟨P, hP⟩ : ∃ P : Ending → World → Prop, P = fun r w' => r = .returned (.bool true) ∧ Below w.heap.size w w' := ⟨_, rfl⟩
 rw [← hP]
 have HP := hid_intro hP
 obtain ⟨A0, hA0⟩ : ∃ A0, w.alloc (.cells #[.int .i64 a1, .int .i64 a2, .int .i64 a3, .int .i64 a4, .int .i64 a5] 24) = A0 := ⟨_, rfl⟩
 have HB0 : Hid (Below w.heap.size w A0) := hid_intro (hA0 ▸ vb_a (Below.refl _ _) _)
 have kL : Bj A0 w.heap.size #[.int .i64 a1, .int .i64 a2, .int .i64 a3, .int .i64 a4, .int .i64 a5] := hA0 ▸ Bj.new _ _ _
 have HKL := hid_intro kL
 have l0 := kL.cell 0
 have l1 := kL.cell 1
 have l2 := kL.cell 2
 have l3 := kL.cell 3
 have l4 := kL.cell 4
 simp only [List.getElem?_toArray, List.getElem?_cons_zero, List.getElem?_cons_succ] at l0 l1 l2 l3 l4
 have HR1 := hid_intro ((read_any l v a1 a2 a3 a4 a5 A0 a (hE.below HB0.out) (hD.below HB0.out) (hB.below HB0.out)).mono fun r w' hr => hr.one)
 have HR2 := hid_intro (fun (w' : World) (hb : Below w.heap.size w w') => (rread_any l v a1 a2 a3 a4 a5 w' (hB.below hb)).mono fun r w' hr => hr.one)
 have HH := hid_intro (fun (w' : World) (hb : Below w.heap.size w w') => heads_any w' a (hE.below hb) (hD.below hb))
 obtain ⟨ao, cap, rfl⟩ := byt_shape hB
 unfold limV at HR1 HR2 ⊢
 have HBO := hid_intro (fun (w' : World) => bound_any a1 a2 a3 a4 a5 w')
 have HBR := hid_intro (fun (w' : World) => rBound_any a1 a2 a3 a4 a5 w')
 unfold limV at HBO HBR
 generalize judgedS l (bm a1 a2 a3) = X at *
 generalize hq : verJ X = q at *
 obtain ⟨q1, q2⟩ := q
 have v1 : ∀ w, (Op.equalIn 10000 34 (.agg #[.int .i64 q1, .int .i64 q2]) (.agg #[.int .i64 q1, .int .i64 q2])).run Tryz.prog w = .ok true w := fun w => by rw [eqIn_verd]; simp
 generalize boundedL a1 10000 = b1 at *
 generalize boundedL a2 65536 = b2 at *
 generalize boundedL a3 1000000 = b3 at *
 generalize boundedL a4 65536 = b4 at *
 generalize boundedL a5 16384 = b5 at *
 have v2 := eqIn_lim b1 b2 b3 b4 b5
 clear hP hE hD hB kL hq
 go_enter Tryz.func3, Tryz.ntmps3
 go_wp2_with fail
 refine HR1.out.mono ?_; rintro r1 w1 ⟨hb1, f1, rfl, hv1⟩
 obtain ⟨k1, n1, g1, e1, t1, a1_, m1, c1, s1, o1, d1, hva1, _⟩ := hv1.lit
 rw [hva1]
 obtain ⟨A1, hA1⟩ : ∃ A1, ((w1.alloc (.cells #[.int .i64 k1, .bool n1, .string g1, .int .i64 e1, .string t1, .slice a1_ m1 c1, .slice s1 o1 d1] 31)).alloc (.cells #[.int .i64 q1, .int .i64 q2] 34)) = A1 := ⟨_, rfl⟩
 have hs1 : Below w1.heap.size w1 A1 := hA1 ▸ vb_a (vb_a (Below.refl _ _) _) _
 have hb01 := vb_t (vb_t HB0.out hb1) hs1
 have hx1 : Bj A1 w1.heap.size #[.int .i64 k1, .bool n1, .string g1, .int .i64 e1, .string t1, .slice a1_ m1 c1, .slice s1 o1 d1] := hA1 ▸ (Bj.new _ _ _).al _
 have hy1 : Bj A1 (w1.heap.size + 1) #[.int .i64 q1, .int .i64 q2] := hA1 ▸ Bj.new' _ _ _ _ (by simp)
 have kL1 := HKL.out.bel (vb_t hb1 hs1)
 have j0 := kL1.cell 0
 have j1 := kL1.cell 1
 have j2 := kL1.cell 2
 have j3 := kL1.cell 3
 have j4 := kL1.cell 4
 simp only [List.getElem?_toArray, List.getElem?_cons_zero, List.getElem?_cons_succ] at j0 j1 j2 j3 j4
 go_wp2_with fail
 refine (HR2.out A1 hb01).mono ?_; rintro r2 w2 ⟨hb2, f2, rfl, hv2⟩
 obtain ⟨k2, n2, g2, e2, t2, a2_, m2, c2, s2, o2, d2, hva2, _⟩ := hv2.lit
 rw [hva2]
 obtain ⟨A2, hA2⟩ : ∃ A2, ((w2.alloc (.cells #[.int .i64 k2, .bool n2, .string g2, .int .i64 e2, .string t2, .slice a2_ m2 c2, .slice s2 o2 d2] 31)).alloc (.cells #[.int .i64 q1, .int .i64 q2] 34)) = A2 := ⟨_, rfl⟩
 have hs2 : Below w2.heap.size w2 A2 := hA2 ▸ vb_a (vb_a (Below.refl _ _) _) _
 have hb12 : Below A1.heap.size A1 A2 := vb_t hb2 hs2
 have hb02 : Below w.heap.size w A2 := vb_t hb01 hb12
 have hx2 : Bj A2 w2.heap.size #[.int .i64 k2, .bool n2, .string g2, .int .i64 e2, .string t2, .slice a2_ m2 c2, .slice s2 o2 d2] := hA2 ▸ (Bj.new _ _ _).al _
 have hy2 : Bj A2 (w2.heap.size + 1) #[.int .i64 q1, .int .i64 q2] := hA2 ▸ Bj.new' _ _ _ _ (by simp)
 have kx1 := hx1.bel hb12
 have ky1 := hy1.bel hb12
 have kl2 := kL1.bel hb12
 have hc := Below.refl A2.heap.size A2
 have HS : Hid (∀ w', Below A2.heap.size A2 w' → (w'.cell? ⟨w1.heap.size, 0, none⟩ = some (.int .i64 k1) ∧ w'.cell? ⟨w1.heap.size, 1, none⟩ = some (.bool n1) ∧ w'.cell? ⟨w1.heap.size, 2, none⟩ = some (.string g1) ∧ w'.cell? ⟨w1.heap.size, 3, none⟩ = some (.int .i64 e1) ∧ w'.cell? ⟨w1.heap.size, 4, none⟩ = some (.string t1) ∧ w'.cell? ⟨w1.heap.size, 5, none⟩ = some (.slice a1_ m1 c1) ∧ w'.cell? ⟨w1.heap.size, 6, none⟩ = some (.slice s1 o1 d1)) ∧ (w'.cell? ⟨w2.heap.size, 0, none⟩ = some (.int .i64 k2) ∧ w'.cell? ⟨w2.heap.size, 1, none⟩ = some (.bool n2) ∧ w'.cell? ⟨w2.heap.size, 2, none⟩ = some (.string g2) ∧ w'.cell? ⟨w2.heap.size, 3, none⟩ = some (.int .i64 e2) ∧ w'.cell? ⟨w2.heap.size, 4, none⟩ = some (.string t2) ∧ w'.cell? ⟨w2.heap.size, 5, none⟩ = some (.slice a2_ m2 c2) ∧ w'.cell? ⟨w2.heap.size, 6, none⟩ = some (.slice s2 o2 d2)) ∧ (w'.cell? ⟨w1.heap.size + 1, 0, none⟩ = some (.int .i64 q1) ∧ w'.cell? ⟨w1.heap.size + 1, 1, none⟩ = some (.int .i64 q2) ∧ w'.cell? ⟨w2.heap.size + 1, 0, none⟩ = some (.int .i64 q1) ∧ w'.cell? ⟨w2.heap.size + 1, 1, none⟩ = some (.int .i64 q2)) ∧ (w'.cell? ⟨w.heap.size, 0, none⟩ = some (.int .i64 a1) ∧ w'.cell? ⟨w.heap.size, 1, none⟩ = some (.int .i64 a2) ∧ w'.cell? ⟨w.heap.size, 2, none⟩ = some (.int .i64 a3) ∧ w'.cell? ⟨w.heap.size, 3, none⟩ = some (.int .i64 a4) ∧ w'.cell? ⟨w.heap.size, 4, none⟩ = some (.int .i64 a5))) := hid_intro (fun w' hb => ⟨(kx1.bel hb).c7, (hx2.bel hb).c7, ⟨(ky1.bel hb).cell 0, (ky1.bel hb).cell 1, (hy2.bel hb).cell 0, (hy2.bel hb).cell 1⟩, ⟨(kl2.bel hb).cell 0, (kl2.bel hb).cell 1, (kl2.bel hb).cell 2, (kl2.bel hb).cell 3, (kl2.bel hb).cell 4⟩⟩)
 have HSM : Hid (∀ w', Below A2.heap.size A2 w' → Calls Tryz.prog 11 #[.agg #[.int .i64 k1, .bool n1, .string g1, .int .i64 e1, .string t1, .slice a1_ m1 c1, .slice s1 o1 d1], .agg #[.int .i64 k2, .bool n2, .string g2, .int .i64 e2, .string t2, .slice a2_ m2 c2, .slice s2 o2 d2]] w' (fun r w3 => r = .returned (.bool true) ∧ Below A2.heap.size A2 w3)) := hid_intro (fun w' hb => by
  have := same_refl (valJ X) f1 f2 w' (vi_free5 hv1 (vb_t hs1 (vb_t hb12 hb))) (vi_free5 hv2 (vb_t hs2 hb))
  rw [hva1, hva2] at this
  exact this.mono fun r w3 hr => ⟨hr.1, vb_t hb hr.2⟩)
 have HHD : Hid (∀ w', Below A2.heap.size A2 w' → Calls Tryz.prog 14 #[] w' (fun r w3 => r = .returned (.bool true) ∧ Below A2.heap.size A2 w3)) := hid_intro (fun w' hb => (HH.out w' (vb_t hb02 hb)).mono fun r w3 hr => ⟨hr.1, vb_t hb hr.2⟩)
 have HB1 : Hid (∀ w', Below A2.heap.size A2 w' → Calls Tryz.prog 12 #[.agg #[.int .i64 a1, .int .i64 a2, .int .i64 a3, .int .i64 a4, .int .i64 a5]] w' (fun r w3 => r = .returned (.agg #[.int .i64 b1, .int .i64 b2, .int .i64 b3, .int .i64 b4, .int .i64 b5]) ∧ Below A2.heap.size A2 w3)) := hid_intro (fun w' hb => (HBO.out w').mono fun r w3 hr => ⟨hr.1, vb_t hb hr.2⟩)
 have HB2 : Hid (∀ w', Below A2.heap.size A2 w' → Calls Tryz.prog 13 #[.agg #[.int .i64 a1, .int .i64 a2, .int .i64 a3, .int .i64 a4, .int .i64 a5]] w' (fun r w3 => r = .returned (.agg #[.int .i64 b1, .int .i64 b2, .int .i64 b3, .int .i64 b4, .int .i64 b5]) ∧ Below A2.heap.size A2 w3)) := hid_intro (fun w' hb => (HBR.out w').mono fun r w3 hr => ⟨hr.1, vb_t hb hr.2⟩)
 have HB02 := hid_intro hb02
 clear hx1 hy1 hx2 hy2 hb12 hb02 hs1 hs2 hb01 hb1 hb2 HR1 HR2 HH HB0 hva1 hva2 hv1 hv2 kx1 ky1 kl2 kL1 HBO HBR j0 j1 j2 j3 j4 l0 l1 l2 l3 l4
 go_wp2_with fail
 go_region_held3 (fun w' => (w'.cell? ⟨w1.heap.size, 0, none⟩ = some (.int .i64 k1) ∧ w'.cell? ⟨w1.heap.size, 1, none⟩ = some (.bool n1) ∧ w'.cell? ⟨w1.heap.size, 2, none⟩ = some (.string g1) ∧ w'.cell? ⟨w1.heap.size, 3, none⟩ = some (.int .i64 e1) ∧ w'.cell? ⟨w1.heap.size, 4, none⟩ = some (.string t1) ∧ w'.cell? ⟨w1.heap.size, 5, none⟩ = some (.slice a1_ m1 c1) ∧ w'.cell? ⟨w1.heap.size, 6, none⟩ = some (.slice s1 o1 d1)) ∧ (w'.cell? ⟨w2.heap.size, 0, none⟩ = some (.int .i64 k2) ∧ w'.cell? ⟨w2.heap.size, 1, none⟩ = some (.bool n2) ∧ w'.cell? ⟨w2.heap.size, 2, none⟩ = some (.string g2) ∧ w'.cell? ⟨w2.heap.size, 3, none⟩ = some (.int .i64 e2) ∧ w'.cell? ⟨w2.heap.size, 4, none⟩ = some (.string t2) ∧ w'.cell? ⟨w2.heap.size, 5, none⟩ = some (.slice a2_ m2 c2) ∧ w'.cell? ⟨w2.heap.size, 6, none⟩ = some (.slice s2 o2 d2)) ∧ (w'.cell? ⟨w1.heap.size + 1, 0, none⟩ = some (.int .i64 q1) ∧ w'.cell? ⟨w1.heap.size + 1, 1, none⟩ = some (.int .i64 q2) ∧ w'.cell? ⟨w2.heap.size + 1, 0, none⟩ = some (.int .i64 q1) ∧ w'.cell? ⟨w2.heap.size + 1, 1, none⟩ = some (.int .i64 q2)) ∧ (w'.cell? ⟨w.heap.size, 0, none⟩ = some (.int .i64 a1) ∧ w'.cell? ⟨w.heap.size, 1, none⟩ = some (.int .i64 a2) ∧ w'.cell? ⟨w.heap.size, 2, none⟩ = some (.int .i64 a3) ∧ w'.cell? ⟨w.heap.size, 3, none⟩ = some (.int .i64 a4) ∧ w'.cell? ⟨w.heap.size, 4, none⟩ = some (.int .i64 a5))) (first | (refine HS.out _ ?_; (with_reducible repeat (first | exact hc | refine vb_d ?_)); done) | fail) (first | (go_at_call 11; refine (HSM.out _ ?_).mono ?_; (with_reducible repeat (first | exact hc | refine vb_d ?_)); rintro r3 w3 ⟨rfl, hc⟩) | (go_at_call 12; refine (HB1.out _ ?_).mono ?_; (with_reducible repeat (first | exact hc | refine vb_d ?_)); rintro r4 w4 ⟨rfl, hc⟩) | (go_at_call 13; refine (HB2.out _ ?_).mono ?_; (with_reducible repeat (first | exact hc | refine vb_d ?_)); rintro r5 w5 ⟨rfl, hc⟩) | (go_at_call 14; refine (HHD.out _ ?_).mono ?_; (with_reducible repeat (first | exact hc | refine vb_d ?_)); rintro r6 w6 ⟨rfl, hc⟩) | fail)
 all_goals
  go_wp2_with fail
  rw [HP.out]
  refine ⟨rfl, vb_t HB02.out ?_⟩
  with_reducible repeat (first | exact hc | refine vb_d ?_)
end Go.Proofs.YtfoehebnmommfaaGreatDoor

namespace Go.Proofs.YtfoehebnmommfaaGreatDoor
open Go.ChangeShapes Go.WideShapes Go.ChangeAt Go.RowKit Go.Deep
open Go.ChangeMaps (open_string shut_string)

theorem own : ownKnob Tryz.prog.godebug = none := by kernel_rfl
theorem laidOut : laidOutB Tryz.prog = true := by kernel_rfl
theorem gLarge : Tryz.prog.globalNamed "caliper/dec.errLarge" = some 3 := by kernel_rfl
theorem gLargeType : (Tryz.prog.globals[3]?).map (·.type) = some 69 := by kernel_rfl
theorem gEt : Tryz.prog.globalNamed "errors.errorType" = some 0 := by kernel_rfl
theorem cellsES : Tryz.prog.cellsOf 254 = 1 := by kernel_rfl
theorem cellsStr : Tryz.prog.cellsOf 9 = 1 := by kernel_rfl
theorem cellsInt : Tryz.prog.cellsOf 3 = 1 := by kernel_rfl
theorem starES : "*" ++ "errors.errorString" = "*errors.errorString" := by decide
theorem rowES (u : TypeId) (h : Tryz.prog.typeName? 3 u = some "*errors.errorString") : u = 235 :=
 typeName_ptr_named (nm := "errors.errorString") (by rw [starES]; kernel_rfl) (by kernel_rfl) (by decide) u (by rw [starES]; exact h)
theorem rtypeRow : (Tryz.prog.cutTypes.find? (·.1 == "internal/reflectlite.rtype")).map (·.2) = some 152 := by kernel_rfl
theorem typesSize : Tryz.prog.types.size = 266 := by kernel_rfl
theorem oneError : ((List.range 266).filter fun t => Tryz.prog.rowNamed t [101, 114, 114, 111, 114]) = [69] := by kernel_rfl
theorem handleError : typeHandle Tryz.prog 69 = .pointer (some ⟨6, 69, none⟩) := by kernel_rfl
theorem gTab : Tryz.prog.globalNamed "caliper/utf.greatest" = some 2 := by kernel_rfl
theorem gTabType : (Tryz.prog.globals[2]?).map (·.type) = some 191 := by kernel_rfl
theorem cells4 : Tryz.prog.cellsOf 191 = 4 := by kernel_rfl
def listed : List (String × DataW Unit) := Rows.jsonReadsRow.laid
set_option maxRecDepth 100000 in
theorem env_of_laid {W : World} (h : laidMetH Tryz.prog listed W) : ∃ a, Lx.Env W ∧ Env W a := by
 have h1 : laidMet Tryz.prog [("caliper/utf.greatest", Rows.laid_caliper_utf_greatest)] W := h.filter (fun x => x.1 == "caliper/utf.greatest")
 have ht : Lib.TabIs Tryz.prog W "caliper/utf.greatest" .i64 [127, 2047, 65535, 1114111] := Lib.tabIs_of_head (rest := []) gTab gTabType Tryz.underlying191 Tryz.underlying3 cellsInt cells4 h1
 have h2 : laidMet Tryz.prog [("caliper/dec.errLarge", Rows.laid_caliper_dec_errLarge)] W := h.filter (fun x => x.1 == "caliper/dec.errLarge")
 have h3 : laidMet Tryz.prog [] W ∧ handlesMet Tryz.prog [("errors.errorType", Rows.laid_errors_errorType)] W := h.filter (fun x => x.1 == "errors.errorType")
 obtain ⟨name, u, ty, e1, e2, e3, e4, e5⟩ := h3.2 _ (List.mem_singleton.2 rfl)
 have en : name = [101, 114, 114, 111, 114] := (Option.some.inj e1).symm
 subst en
 obtain rfl := Option.some.inj (rtypeRow.symm.trans e2)
 have hm : ty ∈ (List.range 266).filter fun t => Tryz.prog.rowNamed t [101, 114, 114, 111, 114] := List.mem_filter.2 ⟨List.mem_range.2 (by rw [← typesSize]; exact e3), e4⟩
 rw [oneError] at hm
 obtain rfl := List.mem_singleton.1 hm
 rw [handleError] at e5
 have ce : W.cell? ⟨0, 0, none⟩ = some (.iface 152 (.agg #[.pointer (some ⟨6, 69, none⟩)])) := by simpa using World.var?_cell gEt e5 0
 obtain ⟨ps, ⟨g', t', cs, fuel, p, q, hg', ht', hvar, hd, hq, hps⟩, hnd, hok⟩ := h2
 obtain rfl := Option.some.inj (gLarge.symm.trans hg')
 have hty : t' = 69 := by
  have := gLargeType
  rw [ht'] at this
  simpa using this
 subst hty
 have hv := fun (u : TypeId) (v : Value) (hc : cs.toList = [.iface u v]) => (show W.cell? ⟨3, 0, none⟩ = some (.iface u v) by
  have e : cs = #[.iface u v] := by
   obtain ⟨l⟩ := cs
   simp only at hc
   rw [hc]
  rw [e] at hvar
  simpa using World.var?_cell gLarge hvar 0)
 obtain ⟨a, s, hcs, _⟩ := errorString_of_trod Tryz.underlying69 rowES Tryz.underlying235 Tryz.underlying254 rfl rfl Tryz.underlying9 cellsES cellsStr hd (fun u v hc => by
  refine (hok 3 0 ?_).2 u v (hv u v hc)
  have e : cs = #[.iface u v] := by
   obtain ⟨l⟩ := cs
   simp only at hc
   rw [hc]
  rw [hps, e]
  simp [MemPlace.row])
 have cl := hv _ _ hcs
 exact ⟨a, ⟨⟨ht.cell gTab 0 (by decide), ht.cell gTab 1 (by decide), ht.cell gTab 2 (by decide), ht.cell gTab 3 (by decide)⟩, World.block_lt_of_cell? W _ ce, ce⟩, ⟨⟨World.block_lt_of_cell? W _ cl, cl⟩, World.block_lt_of_cell? W _ ce, ce⟩⟩
theorem cellsU8 : Tryz.prog.cellsOf 5 = 1 := by kernel_rfl
theorem row_byt {W : World} {v : Value} {n : Nat} {f : Nat → Int} (h : Lx.Row W v n f) (lo : ∀ i, 0 ≤ f i) (up : ∀ i, f i < 256) : ∃ l : List UInt8, l.length = n ∧ Lx.Byt W v l := by
 refine ⟨(List.range n).map fun i => UInt8.ofNat (f i).toNat, by simp, ?_⟩
 unfold Lx.Byt
 rw [List.length_map, List.length_range]
 refine h.congr (Lx.bx_lo _) (Lx.bx_hi _) (fun i hi => ?_)
 have a := lo i
 have b := up i
 simp [Lx.bx, hi]
 omega
set_option maxRecDepth 100000 in
theorem open_bytes {H : Type} {enc : TypeId × Value → H} {W : World} {base : Nat} {v : Value} {d : DataW H} {p : List MemPlace} (hv : Value.okWide Tryz.prog W .any base 22 v)
  (h : DataW.Trod enc Tryz.prog W 0 (fun _ => true) true 22 v d p) :
  ∃ l : List UInt8, Lx.Byt W v l ∧ (l.length = 0 ∨ ∃ elems spare, d = .slice elems spare ∧ elems.length = l.length) := by
 obtain ⟨a0, len0, cap0, rfl⟩ := okWide_slice Tryz.underlying22 hv
 obtain ⟨fuel, hf⟩ := h
 rcases open_ints Tryz.underlying22 Tryz.underlying5 cellsU8 hf with ⟨hcs, _⟩ | ⟨x, l, c, zs, hcs, _, hl, hm, hz, hx, hcell, hwz⟩
 ·simp [Value.cells] at hcs
  obtain ⟨rfl, rfl, rfl⟩ := hcs
  exact ⟨[], .inl ⟨rfl, none, 0, rfl, fun _ => rfl⟩, .inl rfl⟩
 ·simp [Value.cells] at hcs
  obtain ⟨rfl, rfl, rfl⟩ := hcs
  simp only [if_true] at hz
  have hb : ∀ i, 0 ≤ zs.getD i 0 ∧ zs.getD i 0 < 256 := by
   intro i
   by_cases k : i < zs.length
   ·have e : zs.getD i 0 = zs[i] := by rw [List.getD_eq_getElem?_getD, List.getElem?_eq_getElem k]; rfl
    have := bounds_u8 (hwz zs[i] (List.getElem_mem k))
    rw [e]; omega
   ·have e : zs.getD i 0 = 0 := by rw [List.getD_eq_getElem?_getD, List.getElem?_eq_none (by omega)]; rfl
    rw [e]; omega
  by_cases h0 : len0 = 0
  ·subst h0
   exact ⟨[], .inl ⟨rfl, some x, cap0, rfl, fun e => by cases e⟩, .inl rfl⟩
  ·obtain ⟨b, off, spot⟩ := x
   have hc := hcell 0 (by omega)
   have hspot : spot = none := by simpa [Addr.add] using World.cell?_spot hc
   subst hspot
   obtain ⟨r, hr, hB⟩ := row_byt (W := W) (v := .slice (some ⟨b, off, none⟩) len0 cap0) (n := len0) (f := fun i => zs.getD i 0) (.inr ⟨b, off, cap0, rfl, hl, hm, ⟨fun i hi => by
    have := hcell i (by omega)
    rw [Lx.add_at] at this
    exact this, fun i => (hb i).1, fun i => (hb i).2⟩⟩) (fun i => (hb i).1) (fun i => (hb i).2)
   refine ⟨r, hB, .inr ?_⟩
   rw [hr]
   obtain ⟨rfl, _⟩ := Prod.mk.inj hx
   exact ⟨_, _, rfl, by simp [lits]; omega⟩
theorem cellsLim : Tryz.prog.cellsOf 24 = 5 := by kernel_rfl
set_option maxRecDepth 100000 in
theorem open_lim {H : Type} {enc : TypeId × Value → H} {W : World} {base : Nat} {v : Value} {d : DataW H} {p : List MemPlace} (hv : Value.okWide Tryz.prog W .any base 24 v)
  (h : DataW.Trod enc Tryz.prog W 0 (fun _ => true) true 24 v d p) :
  ∃ a1 a2 a3 a4 a5, v = limV a1 a2 a3 a4 a5 := by
 obtain ⟨cs, rfl, hsz⟩ := okWide_struct Tryz.underlying24 hv
 rw [cellsLim] at hsz
 obtain ⟨c0, c1, c2, c3, c4, rfl⟩ : ∃ c0 c1 c2 c3 c4, cs = #[c0, c1, c2, c3, c4] := by
  obtain ⟨l⟩ := cs
  match l, hsz with
  | [a, b, c, d, e], _ => exact ⟨a, b, c, d, e, rfl⟩
 obtain ⟨fuel, hf⟩ := h
 have hf : DataW.trod enc Tryz.prog W 0 (fun _ => true) true fuel 24 [c0, c1, c2, c3, c4] = some (d, p) := hf
 obtain ⟨y0, y1, y2, y3, y4, m, _, _, _, t0, t1, t2, t3, t4⟩ := trod_struct5 Tryz.underlying24 hf
 simp only [cellsInt, List.drop, List.take] at t0 t1 t2 t3 t4
 obtain ⟨x0, h0, _, _⟩ := DataW.trod_int Tryz.underlying3 t0
 obtain ⟨x1, h1, _, _⟩ := DataW.trod_int Tryz.underlying3 t1
 obtain ⟨x2, h2, _, _⟩ := DataW.trod_int Tryz.underlying3 t2
 obtain ⟨x3, h3, _, _⟩ := DataW.trod_int Tryz.underlying3 t3
 obtain ⟨x4, h4, _, _⟩ := DataW.trod_int Tryz.underlying3 t4
 simp only [List.cons.injEq, and_true] at h0 h1 h2 h3 h4
 subst h0 h1 h2 h3 h4
 exact ⟨x0, x1, x2, x3, x4, rfl⟩
end Go.Proofs.YtfoehebnmommfaaGreatDoor
