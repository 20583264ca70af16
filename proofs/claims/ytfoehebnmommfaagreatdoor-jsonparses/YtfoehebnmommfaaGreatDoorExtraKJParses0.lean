/-
  json.Parse and ref5.Parse. Conditions: the tables as they are laid.
  JsonParses answers true for every bytes. Conditions: the tables as they are laid.
-/
import Derived.Test.YtfoehebnmommfaaGreatDoorJoined44
import Derived.Test.YtfoehebnmommfaaGreatDoorJoined45
import Derived.Deep.RegionHeld3
import Derived.BigRegion
namespace Go.Proofs.YtfoehebnmommfaaGreatDoor
open Go.RowKit Go.Maps
attribute [local go_sem] setCell_drewN alloc_drewN

def parN (x : Except (Int × Int) JV) : Int × Int := match x with
 | .ok _ => (0, 0)
 | .error p => if p.1 = 3 then (p.2, 50) else if p.2 = 1 then (0, 51) else (0, 31)
def PaR (x : Except (Int × Int) JV) (w : World) (r : Ending) (w' : World) : Prop :=
 Below w.heap.size w w' ∧ ∃ f, r = .returned (.tuple #[va f, .int .i64 (parN x).1, .int .i64 (parN x).2]) ∧ VI w' (· < w.heap.size) (valJ x) f
theorem judged_kind {l : List UInt8} {m : LM} {p : Int × Int} (h : judgedS l m = .error p) : p.1 = 3 ∨ p.1 = 4 := by
 unfold judgedS at h
 repeat' split at h
 all_goals first | (injection h with h; rw [← h]; first | exact Or.inl rfl | exact Or.inr rfl) | cases h
theorem PaR.fin {x : Except (Int × Int) JV} {w w1 w' : World} {f : Nat → Value} {b1 b2 : Int} (hb : Below w.heap.size w w1) (hbx : But (· = w.heap.size) w1 w') (hv : VI w1 (· < w.heap.size + 1) (valJ x) f) (hn : parN x = (b1, b2)) : PaR x w (.returned (.tuple #[va f, .int .i64 b1, .int .i64 b2])) w' :=
 ⟨but_ahead hb hbx (fun k hk => by omega), f, by rw [hn], hv.carry fun b hb1 hlt => ⟨hbx.block b hlt (fun e => hb1 (by have e : b = w.heap.size := e; show b < w.heap.size + 1; omega)), fun e => hb1 (by have e : b < w.heap.size := e; show b < w.heap.size + 1; omega)⟩⟩
theorem va_zero : va (fS 0 false ⟨#[]⟩ 0 ⟨#[]⟩) = .agg #[.int .i64 0, .bool false, .string ⟨#[]⟩, .int .i64 0, .string ⟨#[]⟩, .slice none 0 0, .slice none 0 0] := rfl
theorem vi_zero (w : World) (X : Nat → Prop) : VI w X (zeroJ 0) (fS 0 false ⟨#[]⟩ 0 ⟨#[]⟩) := vi_fS _ _ 0 false ⟨#[]⟩ 0 ⟨#[]⟩ (wf_of (by omega) (by omega)) (wf_of (by omega) (by omega)) (by decide) (by decide)
set_option maxRecDepth 100000 in
set_option maxHeartbeats 3200000 in
theorem jparse_any (l : List UInt8) (v : Value) (w : World) (a : Addr) (hE : Lx.Env w) (hD : Env w a) (hB : Lx.Byt w v l) :
  Calls Tryz.prog 15 #[v] w (PaR (judgedS l (bm 0 0 0)) w) := by
 obtain ⟨P, hP⟩ : ∃ P, P = PaR (judgedS l (bm 0 0 0)) w := ⟨_, rfl⟩
 rw [← hP]
 have HP := hid_intro hP
 obtain ⟨A0, hA0⟩ : ∃ A0, w.alloc (.cells #[.int .i64 0, .bool false, .string ⟨#[]⟩, .int .i64 0, .string ⟨#[]⟩, .slice none 0 0, .slice none 0 0] 31) = A0 := ⟨_, rfl⟩
 have hb0 : Below w.heap.size w A0 := hA0 ▸ vb_a (Below.refl _ _) _
 have HB0 := hid_intro hb0
 have hsz : A0.heap.size = w.heap.size + 1 := by rw [← hA0]; simp
 have HSZ := hid_intro hsz
 have HKZ : Hid (Bj A0 w.heap.size #[.int .i64 0, .bool false, .string ⟨#[]⟩, .int .i64 0, .string ⟨#[]⟩, .slice none 0 0, .slice none 0 0]) := hid_intro (hA0 ▸ Bj.new _ _ _)
 have HR := hid_intro ((read_any l v 0 0 0 0 0 A0 a (hE.below hb0) (hD.below hb0) (hB.below hb0)))
 obtain ⟨ao, cap, rfl⟩ := byt_shape hB
 unfold limV at HR
 have HKD := hid_intro (fun p => judged_kind (l := l) (m := bm 0 0 0) (p := p))
 generalize judgedS l (bm 0 0 0) = X at *
 clear hP hE hD hB hb0 hsz
 go_enter Tryz.func15, Tryz.ntmps15
 go_wp2_with fail
 refine HR.out.mono ?_; rintro r w1 hr
 have hw1 := hr.1
 cases hX : X with
 | ok y =>
  rw [hX] at hr HP
  obtain ⟨_, f1, rfl, hv1⟩ := hr
  obtain ⟨k1, n1, g1, e1, t1, a1_, m1, cc1, s1, o1, d1, hva1, _⟩ := hv1.lit
  rw [hva1]
  obtain ⟨A1, hA1⟩ : ∃ A1, ((w1.alloc (.cells #[.int .i64 k1, .bool n1, .string g1, .int .i64 e1, .string t1, .slice a1_ m1 cc1, .slice s1 o1 d1] 31)).alloc (.cells #[.int .i64 1, .int .i64 0] 34)) = A1 := ⟨_, rfl⟩
  have hs1 : Below w1.heap.size w1 A1 := hA1 ▸ vb_a (vb_a (Below.refl _ _) _) _
  have hx1 : Bj A1 w1.heap.size #[.int .i64 k1, .bool n1, .string g1, .int .i64 e1, .string t1, .slice a1_ m1 cc1, .slice s1 o1 d1] := hA1 ▸ (Bj.new _ _ _).al _
  have hy1 : Bj A1 (w1.heap.size + 1) #[.int .i64 1, .int .i64 0] := hA1 ▸ Bj.new' _ _ _ _ (by simp)
  have hz1 := (HKZ.out.bel hw1).bel hs1
  have HY1 := hid_intro hy1
  have HB1 : Hid (Below w.heap.size w A1) := hid_intro (vb_t (vb_t HB0.out hw1) hs1)
  have hc := Below.refl A1.heap.size A1
  have HS : Hid (∀ w', Below A1.heap.size A1 w' → w'.cell? ⟨w1.heap.size + 1, 0, none⟩ = some (.int .i64 1) ∧ w'.cell? ⟨w1.heap.size + 1, 1, none⟩ = some (.int .i64 0)) := hid_intro (fun w' hb => ⟨(HY1.out.bel hb).cell 0, (HY1.out.bel hb).cell 1⟩)
  have HEX : Hid (∀ w', Below A1.heap.size A1 w' → Calls Tryz.prog 26 #[.int .i64 1] w' (fun r w3 => r = .returned (.agg #[.int .i64 4, .int .i64 1]) ∧ Below A1.heap.size A1 w3)) := hid_intro (fun w' hb => (exceeded_any 1 w').mono fun r w3 hr => ⟨hr.1, vb_t hb hr.2⟩)
  have HX1 := hid_intro hx1
  have HZ1 := hid_intro hz1
  have hwne : w.heap.size ≠ w1.heap.size := by have := hw1.size; have := HSZ.out; omega
  have hwne2 : w.heap.size ≠ w1.heap.size + 1 := by have := hw1.size; have := HSZ.out; omega
  have hwne3 : w1.heap.size ≠ w.heap.size := Ne.symm hwne
  have hwne4 : w1.heap.size + 1 ≠ w.heap.size := Ne.symm hwne2
  obtain ⟨y0, y1⟩ := hy1.c2
  obtain ⟨x0, x1, x2, x3, x4, x5, x6⟩ := hx1.c7
  obtain ⟨c0, c1, c2, c3, c4, c5, c6⟩ := hz1.c7
  obtain ⟨z0, z1, z2, z3, z4, z5, z6⟩ := hz1.z7
  have HVA := hid_intro hva1
  have HV1 : Hid (∀ w', Below A1.heap.size A1 w' → VI w' (· < w.heap.size + 1) (valJ (.ok y)) f1) := hid_intro (fun w' hb => hv1.carry fun b hb1 hlt => ⟨(vb_t hs1 hb).block b hlt, fun e => hb1 (by have := HSZ.out; show b < A0.heap.size; omega)⟩)
  have v1 : ∀ w, (Op.equalIn 10000 34 (.agg #[.int .i64 1, .int .i64 0]) (.agg #[.int .i64 4, .int .i64 1])).run Tryz.prog w = .ok false w := fun w => by rw [eqIn_verd]; rfl
  subst hA1
  clear hva1 hv1 hX hw1 hs1 hx1 hy1 hz1 HR HKD HKZ
  go_wp2_with fail
  go_region_held3 (fun w' => w'.cell? ⟨w1.heap.size + 1, 0, none⟩ = some (.int .i64 1) ∧ w'.cell? ⟨w1.heap.size + 1, 1, none⟩ = some (.int .i64 0)) (first | (refine HS.out _ ?_; (with_reducible repeat (first | exact hc | refine vb_d ?_)); done) | fail) (first | (go_at_call 26; refine (HEX.out _ ?_).mono ?_; (with_reducible repeat (first | exact hc | refine vb_d ?_)); rintro r3 w3 ⟨rfl, hc⟩; clear y0 y1 x0 x1 x2 x3 x4 x5 x6 c0 c1 c2 c3 c4 c5 c6 z0 z1 z2 z3 z4 z5 z6; obtain ⟨y0, y1⟩ := HS.out _ hc; obtain ⟨x0, x1, x2, x3, x4, x5, x6⟩ := (HX1.out.bel hc).c7; obtain ⟨c0, c1, c2, c3, c4, c5, c6⟩ := (HZ1.out.bel hc).c7; obtain ⟨z0, z1, z2, z3, z4, z5, z6⟩ := (HZ1.out.bel hc).z7) | fail)
  all_goals
   go_wp2_with fail
   refine bodyPost_ret (v := .tuple #[.agg #[.int .i64 k1, .bool n1, .string g1, .int .i64 e1, .string t1, .slice a1_ m1 cc1, .slice s1 o1 d1], .int .i64 0, .int .i64 0]) (by simp [results, Tryz.results15, go_sem, c0, c1, c2, c3, c4, c5, c6]) rfl ?_
   rw [← HVA.out]
   rw [HP.out]
   exact PaR.fin (w1 := w3) (vb_t HB1.out hc) (by with_reducible repeat (first | refine R5.butN ?_ _ | refine But.drew ?_ | refine But.setr ?_ _ | exact But.refl _ _)) (HV1.out _ hc) rfl
 | error p =>
  rw [hX] at hr HP
  have hk := HKD.out p hX
  obtain ⟨p1, p2⟩ := p
  obtain ⟨_, hr⟩ := hr
  replace hr : r = .returned (.tuple #[.agg #[.int .i64 0, .bool false, .string ⟨#[]⟩, .int .i64 0, .string ⟨#[]⟩, .slice none 0 0, .slice none 0 0], .agg #[.int .i64 p1, .int .i64 p2]]) := hr
  subst hr
  rcases hk with hk | hk
  ·replace hk : p1 = 3 := hk
   subst hk
   obtain ⟨A1, hA1⟩ : ∃ A1, ((w1.alloc (.cells #[.int .i64 0, .bool false, .string ⟨#[]⟩, .int .i64 0, .string ⟨#[]⟩, .slice none 0 0, .slice none 0 0] 31)).alloc (.cells #[.int .i64 3, .int .i64 p2] 34)) = A1 := ⟨_, rfl⟩
   have hs1 : Below w1.heap.size w1 A1 := hA1 ▸ vb_a (vb_a (Below.refl _ _) _) _
   have hx1 : Bj A1 w1.heap.size #[.int .i64 0, .bool false, .string ⟨#[]⟩, .int .i64 0, .string ⟨#[]⟩, .slice none 0 0, .slice none 0 0] := hA1 ▸ (Bj.new _ _ _).al _
   have hy1 : Bj A1 (w1.heap.size + 1) #[.int .i64 3, .int .i64 p2] := hA1 ▸ Bj.new' _ _ _ _ (by simp)
   have hz1 := (HKZ.out.bel hw1).bel hs1
   have HY1 := hid_intro hy1
   have HB1 : Hid (Below w.heap.size w A1) := hid_intro (vb_t (vb_t HB0.out hw1) hs1)
   have hc := Below.refl A1.heap.size A1
   have HS : Hid (∀ w', Below A1.heap.size A1 w' → w'.cell? ⟨w1.heap.size + 1, 0, none⟩ = some (.int .i64 3) ∧ w'.cell? ⟨w1.heap.size + 1, 1, none⟩ = some (.int .i64 p2)) := hid_intro (fun w' hb => ⟨(HY1.out.bel hb).cell 0, (HY1.out.bel hb).cell 1⟩)
   have HEX : Hid (∀ w', Below A1.heap.size A1 w' → Calls Tryz.prog 26 #[.int .i64 1] w' (fun r w3 => r = .returned (.agg #[.int .i64 4, .int .i64 1]) ∧ Below A1.heap.size A1 w3)) := hid_intro (fun w' hb => (exceeded_any 1 w').mono fun r w3 hr => ⟨hr.1, vb_t hb hr.2⟩)
   have HX1 := hid_intro hx1
   have HZ1 := hid_intro hz1
   have hwne : w.heap.size ≠ w1.heap.size := by have := hw1.size; have := HSZ.out; omega
   have hwne2 : w.heap.size ≠ w1.heap.size + 1 := by have := hw1.size; have := HSZ.out; omega
   have hwne3 : w1.heap.size ≠ w.heap.size := Ne.symm hwne
   have hwne4 : w1.heap.size + 1 ≠ w.heap.size := Ne.symm hwne2
   obtain ⟨y0, y1⟩ := hy1.c2
   obtain ⟨x0, x1, x2, x3, x4, x5, x6⟩ := hx1.c7
   obtain ⟨c0, c1, c2, c3, c4, c5, c6⟩ := hz1.c7
   obtain ⟨z0, z1, z2, z3, z4, z5, z6⟩ := hz1.z7
   have hn : parN (.error (3, p2)) = (p2, 50) := by simp [parN]
   have HNN := hid_intro hn
   subst hA1
   clear hX hw1 hs1 hx1 hy1 hz1 HR HKD HKZ hn HEX
   go_wp2_with fail
   go_region
   all_goals
    go_wp2_with fail
    refine bodyPost_ret (v := .tuple #[.agg #[.int .i64 0, .bool false, .string ⟨#[]⟩, .int .i64 0, .string ⟨#[]⟩, .slice none 0 0, .slice none 0 0], .int .i64 p2, .int .i64 50]) (by simp [results, Tryz.results15, go_sem, c0, c1, c2, c3, c4, c5, c6]) rfl ?_
    rw [← va_zero]
    rw [HP.out]
    exact PaR.fin HB1.out (by with_reducible repeat (first | refine R5.butN ?_ _ | refine But.drew ?_ | refine But.setr ?_ _ | exact But.refl _ _)) (vi_zero _ _) HNN.out
  ·replace hk : p1 = 4 := hk
   subst hk
   obtain ⟨A1, hA1⟩ : ∃ A1, ((w1.alloc (.cells #[.int .i64 0, .bool false, .string ⟨#[]⟩, .int .i64 0, .string ⟨#[]⟩, .slice none 0 0, .slice none 0 0] 31)).alloc (.cells #[.int .i64 4, .int .i64 p2] 34)) = A1 := ⟨_, rfl⟩
   have hs1 : Below w1.heap.size w1 A1 := hA1 ▸ vb_a (vb_a (Below.refl _ _) _) _
   have hx1 : Bj A1 w1.heap.size #[.int .i64 0, .bool false, .string ⟨#[]⟩, .int .i64 0, .string ⟨#[]⟩, .slice none 0 0, .slice none 0 0] := hA1 ▸ (Bj.new _ _ _).al _
   have hy1 : Bj A1 (w1.heap.size + 1) #[.int .i64 4, .int .i64 p2] := hA1 ▸ Bj.new' _ _ _ _ (by simp)
   have hz1 := (HKZ.out.bel hw1).bel hs1
   have HY1 := hid_intro hy1
   have HB1 : Hid (Below w.heap.size w A1) := hid_intro (vb_t (vb_t HB0.out hw1) hs1)
   have hc := Below.refl A1.heap.size A1
   have HS : Hid (∀ w', Below A1.heap.size A1 w' → w'.cell? ⟨w1.heap.size + 1, 0, none⟩ = some (.int .i64 4) ∧ w'.cell? ⟨w1.heap.size + 1, 1, none⟩ = some (.int .i64 p2)) := hid_intro (fun w' hb => ⟨(HY1.out.bel hb).cell 0, (HY1.out.bel hb).cell 1⟩)
   have HEX : Hid (∀ w', Below A1.heap.size A1 w' → Calls Tryz.prog 26 #[.int .i64 1] w' (fun r w3 => r = .returned (.agg #[.int .i64 4, .int .i64 1]) ∧ Below A1.heap.size A1 w3)) := hid_intro (fun w' hb => (exceeded_any 1 w').mono fun r w3 hr => ⟨hr.1, vb_t hb hr.2⟩)
   have HX1 := hid_intro hx1
   have HZ1 := hid_intro hz1
   have hwne : w.heap.size ≠ w1.heap.size := by have := hw1.size; have := HSZ.out; omega
   have hwne2 : w.heap.size ≠ w1.heap.size + 1 := by have := hw1.size; have := HSZ.out; omega
   have hwne3 : w1.heap.size ≠ w.heap.size := Ne.symm hwne
   have hwne4 : w1.heap.size + 1 ≠ w.heap.size := Ne.symm hwne2
   obtain ⟨y0, y1⟩ := hy1.c2
   obtain ⟨x0, x1, x2, x3, x4, x5, x6⟩ := hx1.c7
   obtain ⟨c0, c1, c2, c3, c4, c5, c6⟩ := hz1.c7
   obtain ⟨z0, z1, z2, z3, z4, z5, z6⟩ := hz1.z7
   by_cases h1 : p2 = 1
   ·subst h1
    have hn : parN (.error (4, 1)) = (0, 51) := rfl
    have HNN := hid_intro hn
    have v1 : ∀ w, (Op.equalIn 10000 34 (.agg #[.int .i64 4, .int .i64 1]) (.agg #[.int .i64 4, .int .i64 1])).run Tryz.prog w = .ok true w := fun w => by rw [eqIn_verd]; rfl
    subst hA1
    clear hX hw1 hs1 hx1 hy1 hz1 HR HKD HKZ hn
    go_wp2_with fail
    go_region_held3 (fun w' => w'.cell? ⟨w1.heap.size + 1, 0, none⟩ = some (.int .i64 4) ∧ w'.cell? ⟨w1.heap.size + 1, 1, none⟩ = some (.int .i64 1)) (first | (refine HS.out _ ?_; (with_reducible repeat (first | exact hc | refine vb_d ?_)); done) | fail) (first | (go_at_call 26; refine (HEX.out _ ?_).mono ?_; (with_reducible repeat (first | exact hc | refine vb_d ?_)); rintro r3 w3 ⟨rfl, hc⟩; clear y0 y1 x0 x1 x2 x3 x4 x5 x6 c0 c1 c2 c3 c4 c5 c6 z0 z1 z2 z3 z4 z5 z6; obtain ⟨y0, y1⟩ := HS.out _ hc; obtain ⟨x0, x1, x2, x3, x4, x5, x6⟩ := (HX1.out.bel hc).c7; obtain ⟨c0, c1, c2, c3, c4, c5, c6⟩ := (HZ1.out.bel hc).c7; obtain ⟨z0, z1, z2, z3, z4, z5, z6⟩ := (HZ1.out.bel hc).z7) | fail)
    all_goals
     go_wp2_with fail
     refine bodyPost_ret (v := .tuple #[.agg #[.int .i64 0, .bool false, .string ⟨#[]⟩, .int .i64 0, .string ⟨#[]⟩, .slice none 0 0, .slice none 0 0], .int .i64 0, .int .i64 51]) (by simp [results, Tryz.results15, go_sem, c0, c1, c2, c3, c4, c5, c6]) rfl ?_
     rw [← va_zero]
     rw [HP.out]
     exact PaR.fin (w1 := w3) (vb_t HB1.out hc) (by with_reducible repeat (first | refine R5.butN ?_ _ | refine But.drew ?_ | refine But.setr ?_ _ | exact But.refl _ _)) (vi_zero _ _) HNN.out
   ·have hn : parN (.error (4, p2)) = (0, 31) := by simp [parN, h1]
    have HNN := hid_intro hn
    have h1b : (p2 == 1) = false := by simp [h1]
    have v1 : ∀ w, (Op.equalIn 10000 34 (.agg #[.int .i64 4, .int .i64 p2]) (.agg #[.int .i64 4, .int .i64 1])).run Tryz.prog w = .ok false w := fun w => by rw [eqIn_verd]; simp [h1]
    subst hA1
    clear hX hw1 hs1 hx1 hy1 hz1 HR HKD HKZ hn h1
    go_wp2_with fail
    go_region_held3 (fun w' => w'.cell? ⟨w1.heap.size + 1, 0, none⟩ = some (.int .i64 4) ∧ w'.cell? ⟨w1.heap.size + 1, 1, none⟩ = some (.int .i64 p2)) (first | (refine HS.out _ ?_; (with_reducible repeat (first | exact hc | refine vb_d ?_)); done) | fail) (first | (go_at_call 26; refine (HEX.out _ ?_).mono ?_; (with_reducible repeat (first | exact hc | refine vb_d ?_)); rintro r3 w3 ⟨rfl, hc⟩; clear y0 y1 x0 x1 x2 x3 x4 x5 x6 c0 c1 c2 c3 c4 c5 c6 z0 z1 z2 z3 z4 z5 z6; obtain ⟨y0, y1⟩ := HS.out _ hc; obtain ⟨x0, x1, x2, x3, x4, x5, x6⟩ := (HX1.out.bel hc).c7; obtain ⟨c0, c1, c2, c3, c4, c5, c6⟩ := (HZ1.out.bel hc).c7; obtain ⟨z0, z1, z2, z3, z4, z5, z6⟩ := (HZ1.out.bel hc).z7) | fail)
    all_goals
     go_wp2_with fail
     refine bodyPost_ret (v := .tuple #[.agg #[.int .i64 0, .bool false, .string ⟨#[]⟩, .int .i64 0, .string ⟨#[]⟩, .slice none 0 0, .slice none 0 0], .int .i64 0, .int .i64 31]) (by simp [results, Tryz.results15, go_sem, c0, c1, c2, c3, c4, c5, c6]) rfl ?_
     rw [← va_zero]
     rw [HP.out]
     exact PaR.fin (w1 := w3) (vb_t HB1.out hc) (by with_reducible repeat (first | refine R5.butN ?_ _ | refine But.drew ?_ | refine But.setr ?_ _ | exact But.refl _ _)) (vi_zero _ _) HNN.out
set_option maxRecDepth 100000 in
set_option maxHeartbeats 3200000 in
theorem rparse5_any (l : List UInt8) (v : Value) (w : World) (hB : Lx.Byt w v l) :
  Calls Tryz.prog 16 #[v] w (PaR (judgedS l (bm 0 0 0)) w) := by
 obtain ⟨P, hP⟩ : ∃ P, P = PaR (judgedS l (bm 0 0 0)) w := ⟨_, rfl⟩
 rw [← hP]
 have HP := hid_intro hP
 obtain ⟨A0, hA0⟩ : ∃ A0, w.alloc (.cells #[.int .i64 0, .bool false, .string ⟨#[]⟩, .int .i64 0, .string ⟨#[]⟩, .slice none 0 0, .slice none 0 0] 31) = A0 := ⟨_, rfl⟩
 have hb0 : Below w.heap.size w A0 := hA0 ▸ vb_a (Below.refl _ _) _
 have HB0 := hid_intro hb0
 have hsz : A0.heap.size = w.heap.size + 1 := by rw [← hA0]; simp
 have HSZ := hid_intro hsz
 have HKZ : Hid (Bj A0 w.heap.size #[.int .i64 0, .bool false, .string ⟨#[]⟩, .int .i64 0, .string ⟨#[]⟩, .slice none 0 0, .slice none 0 0]) := hid_intro (hA0 ▸ Bj.new _ _ _)
 have HR := hid_intro ((rread_any l v 0 0 0 0 0 A0 (hB.below hb0)))
 obtain ⟨ao, cap, rfl⟩ := byt_shape hB
 unfold limV at HR
 have HKD := hid_intro (fun p => judged_kind (l := l) (m := bm 0 0 0) (p := p))
 generalize judgedS l (bm 0 0 0) = X at *
 clear hP hB hb0 hsz
 go_enter Tryz.func16, Tryz.ntmps16
 go_wp2_with fail
 refine HR.out.mono ?_; rintro r w1 hr
 have hw1 := hr.1
 cases hX : X with
 | ok y =>
  rw [hX] at hr HP
  obtain ⟨_, f1, rfl, hv1⟩ := hr
  obtain ⟨k1, n1, g1, e1, t1, a1_, m1, cc1, s1, o1, d1, hva1, _⟩ := hv1.lit
  rw [hva1]
  obtain ⟨A1, hA1⟩ : ∃ A1, ((w1.alloc (.cells #[.int .i64 k1, .bool n1, .string g1, .int .i64 e1, .string t1, .slice a1_ m1 cc1, .slice s1 o1 d1] 31)).alloc (.cells #[.int .i64 1, .int .i64 0] 34)) = A1 := ⟨_, rfl⟩
  have hs1 : Below w1.heap.size w1 A1 := hA1 ▸ vb_a (vb_a (Below.refl _ _) _) _
  have hx1 : Bj A1 w1.heap.size #[.int .i64 k1, .bool n1, .string g1, .int .i64 e1, .string t1, .slice a1_ m1 cc1, .slice s1 o1 d1] := hA1 ▸ (Bj.new _ _ _).al _
  have hy1 : Bj A1 (w1.heap.size + 1) #[.int .i64 1, .int .i64 0] := hA1 ▸ Bj.new' _ _ _ _ (by simp)
  have hz1 := (HKZ.out.bel hw1).bel hs1
  have HY1 := hid_intro hy1
  have HB1 : Hid (Below w.heap.size w A1) := hid_intro (vb_t (vb_t HB0.out hw1) hs1)
  have hc := Below.refl A1.heap.size A1
  have HS : Hid (∀ w', Below A1.heap.size A1 w' → w'.cell? ⟨w1.heap.size + 1, 0, none⟩ = some (.int .i64 1) ∧ w'.cell? ⟨w1.heap.size + 1, 1, none⟩ = some (.int .i64 0)) := hid_intro (fun w' hb => ⟨(HY1.out.bel hb).cell 0, (HY1.out.bel hb).cell 1⟩)
  have HEX : Hid (∀ w', Below A1.heap.size A1 w' → Calls Tryz.prog 26 #[.int .i64 1] w' (fun r w3 => r = .returned (.agg #[.int .i64 4, .int .i64 1]) ∧ Below A1.heap.size A1 w3)) := hid_intro (fun w' hb => (exceeded_any 1 w').mono fun r w3 hr => ⟨hr.1, vb_t hb hr.2⟩)
  have HX1 := hid_intro hx1
  have HZ1 := hid_intro hz1
  have hwne : w.heap.size ≠ w1.heap.size := by have := hw1.size; have := HSZ.out; omega
  have hwne2 : w.heap.size ≠ w1.heap.size + 1 := by have := hw1.size; have := HSZ.out; omega
  have hwne3 : w1.heap.size ≠ w.heap.size := Ne.symm hwne
  have hwne4 : w1.heap.size + 1 ≠ w.heap.size := Ne.symm hwne2
  obtain ⟨y0, y1⟩ := hy1.c2
  obtain ⟨x0, x1, x2, x3, x4, x5, x6⟩ := hx1.c7
  obtain ⟨c0, c1, c2, c3, c4, c5, c6⟩ := hz1.c7
  obtain ⟨z0, z1, z2, z3, z4, z5, z6⟩ := hz1.z7
  have HVA := hid_intro hva1
  have HV1 : Hid (∀ w', Below A1.heap.size A1 w' → VI w' (· < w.heap.size + 1) (valJ (.ok y)) f1) := hid_intro (fun w' hb => hv1.carry fun b hb1 hlt => ⟨(vb_t hs1 hb).block b hlt, fun e => hb1 (by have := HSZ.out; show b < A0.heap.size; omega)⟩)
  have v1 : ∀ w, (Op.equalIn 10000 34 (.agg #[.int .i64 1, .int .i64 0]) (.agg #[.int .i64 4, .int .i64 1])).run Tryz.prog w = .ok false w := fun w => by rw [eqIn_verd]; rfl
  subst hA1
  clear hva1 hv1 hX hw1 hs1 hx1 hy1 hz1 HR HKD HKZ
  go_wp2_with fail
  refine bodyPost_ret (v := .tuple #[.agg #[.int .i64 k1, .bool n1, .string g1, .int .i64 e1, .string t1, .slice a1_ m1 cc1, .slice s1 o1 d1], .int .i64 0, .int .i64 0]) (by simp [results, Tryz.results16, go_sem, c0, c1, c2, c3, c4, c5, c6]) rfl ?_
  rw [← HVA.out]
  rw [HP.out]
  exact PaR.fin HB1.out (by with_reducible repeat (first | refine R5.butN ?_ _ | refine But.drew ?_ | refine But.setr ?_ _ | exact But.refl _ _)) (HV1.out _ (Below.refl _ _)) rfl
 | error p =>
  rw [hX] at hr HP
  have hk := HKD.out p hX
  obtain ⟨p1, p2⟩ := p
  obtain ⟨_, hr⟩ := hr
  replace hr : r = .returned (.tuple #[.agg #[.int .i64 0, .bool false, .string ⟨#[]⟩, .int .i64 0, .string ⟨#[]⟩, .slice none 0 0, .slice none 0 0], .agg #[.int .i64 p1, .int .i64 p2]]) := hr
  subst hr
  rcases hk with hk | hk
  ·replace hk : p1 = 3 := hk
   subst hk
   obtain ⟨A1, hA1⟩ : ∃ A1, ((w1.alloc (.cells #[.int .i64 0, .bool false, .string ⟨#[]⟩, .int .i64 0, .string ⟨#[]⟩, .slice none 0 0, .slice none 0 0] 31)).alloc (.cells #[.int .i64 3, .int .i64 p2] 34)) = A1 := ⟨_, rfl⟩
   have hs1 : Below w1.heap.size w1 A1 := hA1 ▸ vb_a (vb_a (Below.refl _ _) _) _
   have hx1 : Bj A1 w1.heap.size #[.int .i64 0, .bool false, .string ⟨#[]⟩, .int .i64 0, .string ⟨#[]⟩, .slice none 0 0, .slice none 0 0] := hA1 ▸ (Bj.new _ _ _).al _
   have hy1 : Bj A1 (w1.heap.size + 1) #[.int .i64 3, .int .i64 p2] := hA1 ▸ Bj.new' _ _ _ _ (by simp)
   have hz1 := (HKZ.out.bel hw1).bel hs1
   have HY1 := hid_intro hy1
   have HB1 : Hid (Below w.heap.size w A1) := hid_intro (vb_t (vb_t HB0.out hw1) hs1)
   have hc := Below.refl A1.heap.size A1
   have HS : Hid (∀ w', Below A1.heap.size A1 w' → w'.cell? ⟨w1.heap.size + 1, 0, none⟩ = some (.int .i64 3) ∧ w'.cell? ⟨w1.heap.size + 1, 1, none⟩ = some (.int .i64 p2)) := hid_intro (fun w' hb => ⟨(HY1.out.bel hb).cell 0, (HY1.out.bel hb).cell 1⟩)
   have HEX : Hid (∀ w', Below A1.heap.size A1 w' → Calls Tryz.prog 26 #[.int .i64 1] w' (fun r w3 => r = .returned (.agg #[.int .i64 4, .int .i64 1]) ∧ Below A1.heap.size A1 w3)) := hid_intro (fun w' hb => (exceeded_any 1 w').mono fun r w3 hr => ⟨hr.1, vb_t hb hr.2⟩)
   have HX1 := hid_intro hx1
   have HZ1 := hid_intro hz1
   have hwne : w.heap.size ≠ w1.heap.size := by have := hw1.size; have := HSZ.out; omega
   have hwne2 : w.heap.size ≠ w1.heap.size + 1 := by have := hw1.size; have := HSZ.out; omega
   have hwne3 : w1.heap.size ≠ w.heap.size := Ne.symm hwne
   have hwne4 : w1.heap.size + 1 ≠ w.heap.size := Ne.symm hwne2
   obtain ⟨y0, y1⟩ := hy1.c2
   obtain ⟨x0, x1, x2, x3, x4, x5, x6⟩ := hx1.c7
   obtain ⟨c0, c1, c2, c3, c4, c5, c6⟩ := hz1.c7
   obtain ⟨z0, z1, z2, z3, z4, z5, z6⟩ := hz1.z7
   have hn : parN (.error (3, p2)) = (p2, 50) := by simp [parN]
   have HNN := hid_intro hn
   subst hA1
   clear hX hw1 hs1 hx1 hy1 hz1 HR HKD HKZ hn HEX
   go_wp2_with fail
   go_region
   all_goals
    go_wp2_with fail
    refine bodyPost_ret (v := .tuple #[.agg #[.int .i64 0, .bool false, .string ⟨#[]⟩, .int .i64 0, .string ⟨#[]⟩, .slice none 0 0, .slice none 0 0], .int .i64 p2, .int .i64 50]) (by simp [results, Tryz.results16, go_sem, c0, c1, c2, c3, c4, c5, c6]) rfl ?_
    rw [← va_zero]
    rw [HP.out]
    exact PaR.fin HB1.out (by with_reducible repeat (first | refine R5.butN ?_ _ | refine But.drew ?_ | refine But.setr ?_ _ | exact But.refl _ _)) (vi_zero _ _) HNN.out
  ·replace hk : p1 = 4 := hk
   subst hk
   obtain ⟨A1, hA1⟩ : ∃ A1, ((w1.alloc (.cells #[.int .i64 0, .bool false, .string ⟨#[]⟩, .int .i64 0, .string ⟨#[]⟩, .slice none 0 0, .slice none 0 0] 31)).alloc (.cells #[.int .i64 4, .int .i64 p2] 34)) = A1 := ⟨_, rfl⟩
   have hs1 : Below w1.heap.size w1 A1 := hA1 ▸ vb_a (vb_a (Below.refl _ _) _) _
   have hx1 : Bj A1 w1.heap.size #[.int .i64 0, .bool false, .string ⟨#[]⟩, .int .i64 0, .string ⟨#[]⟩, .slice none 0 0, .slice none 0 0] := hA1 ▸ (Bj.new _ _ _).al _
   have hy1 : Bj A1 (w1.heap.size + 1) #[.int .i64 4, .int .i64 p2] := hA1 ▸ Bj.new' _ _ _ _ (by simp)
   have hz1 := (HKZ.out.bel hw1).bel hs1
   have HY1 := hid_intro hy1
   have HB1 : Hid (Below w.heap.size w A1) := hid_intro (vb_t (vb_t HB0.out hw1) hs1)
   have hc := Below.refl A1.heap.size A1
   have HS : Hid (∀ w', Below A1.heap.size A1 w' → w'.cell? ⟨w1.heap.size + 1, 0, none⟩ = some (.int .i64 4) ∧ w'.cell? ⟨w1.heap.size + 1, 1, none⟩ = some (.int .i64 p2)) := hid_intro (fun w' hb => ⟨(HY1.out.bel hb).cell 0, (HY1.out.bel hb).cell 1⟩)
   have HEX : Hid (∀ w', Below A1.heap.size A1 w' → Calls Tryz.prog 26 #[.int .i64 1] w' (fun r w3 => r = .returned (.agg #[.int .i64 4, .int .i64 1]) ∧ Below A1.heap.size A1 w3)) := hid_intro (fun w' hb => (exceeded_any 1 w').mono fun r w3 hr => ⟨hr.1, vb_t hb hr.2⟩)
   have HX1 := hid_intro hx1
   have HZ1 := hid_intro hz1
   have hwne : w.heap.size ≠ w1.heap.size := by have := hw1.size; have := HSZ.out; omega
   have hwne2 : w.heap.size ≠ w1.heap.size + 1 := by have := hw1.size; have := HSZ.out; omega
   have hwne3 : w1.heap.size ≠ w.heap.size := Ne.symm hwne
   have hwne4 : w1.heap.size + 1 ≠ w.heap.size := Ne.symm hwne2
   obtain ⟨y0, y1⟩ := hy1.c2
   obtain ⟨x0, x1, x2, x3, x4, x5, x6⟩ := hx1.c7
   obtain ⟨c0, c1, c2, c3, c4, c5, c6⟩ := hz1.c7
   obtain ⟨z0, z1, z2, z3, z4, z5, z6⟩ := hz1.z7
   by_cases h1 : p2 = 1
   ·subst h1
    have hn : parN (.error (4, 1)) = (0, 51) := rfl
    have HNN := hid_intro hn
    have v1 : ∀ w, (Op.equalIn 10000 34 (.agg #[.int .i64 4, .int .i64 1]) (.agg #[.int .i64 4, .int .i64 1])).run Tryz.prog w = .ok true w := fun w => by rw [eqIn_verd]; rfl
    subst hA1
    clear hX hw1 hs1 hx1 hy1 hz1 HR HKD HKZ hn
    go_wp2_with fail
    refine bodyPost_ret (v := .tuple #[.agg #[.int .i64 0, .bool false, .string ⟨#[]⟩, .int .i64 0, .string ⟨#[]⟩, .slice none 0 0, .slice none 0 0], .int .i64 0, .int .i64 51]) (by simp [results, Tryz.results16, go_sem, c0, c1, c2, c3, c4, c5, c6]) rfl ?_
    rw [← va_zero]
    rw [HP.out]
    exact PaR.fin HB1.out (by with_reducible repeat (first | refine R5.butN ?_ _ | refine But.drew ?_ | refine But.setr ?_ _ | exact But.refl _ _)) (vi_zero _ _) HNN.out
   ·have hn : parN (.error (4, p2)) = (0, 31) := by simp [parN, h1]
    have HNN := hid_intro hn
    have h1b : (p2 == 1) = false := by simp [h1]
    have v1 : ∀ w, (Op.equalIn 10000 34 (.agg #[.int .i64 4, .int .i64 p2]) (.agg #[.int .i64 4, .int .i64 1])).run Tryz.prog w = .ok false w := fun w => by rw [eqIn_verd]; simp [h1]
    subst hA1
    clear hX hw1 hs1 hx1 hy1 hz1 HR HKD HKZ hn h1
    go_wp2_with fail
    refine bodyPost_ret (v := .tuple #[.agg #[.int .i64 0, .bool false, .string ⟨#[]⟩, .int .i64 0, .string ⟨#[]⟩, .slice none 0 0, .slice none 0 0], .int .i64 0, .int .i64 31]) (by simp [results, Tryz.results16, go_sem, c0, c1, c2, c3, c4, c5, c6]) rfl ?_
    rw [← va_zero]
    rw [HP.out]
    exact PaR.fin HB1.out (by with_reducible repeat (first | refine R5.butN ?_ _ | refine But.drew ?_ | refine But.setr ?_ _ | exact But.refl _ _)) (vi_zero _ _) HNN.out
end Go.Proofs.YtfoehebnmommfaaGreatDoor

namespace Go.Proofs.YtfoehebnmommfaaGreatDoor
open Go.RowKit Go.Maps
attribute [local go_sem] setCell_drewN alloc_drewN

theorem vi_free6 {w w' : World} {X : Nat → Prop} {x : JV} {f : Nat → Value} (h : VI w X x f) (hb : Below w.heap.size w w') : VI w' (fun _ => False) x f := h.carry fun b _ hlt => ⟨hb.block b hlt, id⟩
set_option maxRecDepth 100000 in
set_option maxHeartbeats 3200000 in
theorem jparses_walk (l : List UInt8) (v : Value) (w : World) (a : Addr) (hE : Lx.Env w) (hD : Env w a) (hB : Lx.Byt w v l) :
  Calls Tryz.prog 4 #[v] w fun r w' => r = .returned (.bool true) ∧ Below w.heap.size w w' := by
 obtain ⟨P, hP⟩ : ∃ P : Ending → World → Prop, P = fun r w' => r = .returned (.bool true) ∧ Below w.heap.size w w' := ⟨_, rfl⟩
 rw [← hP]
 have HP := hid_intro hP
 have HR1 := hid_intro (jparse_any l v w a hE hD hB)
 have HR2 := hid_intro (fun (w' : World) (hb : Below w.heap.size w w') => rparse5_any l v w' (hB.below hb))
 have HH := hid_intro (fun (w' : World) (hb : Below w.heap.size w w') => heads_any w' a (hE.below hb) (hD.below hb))
 obtain ⟨ao, cap, rfl⟩ := byt_shape hB
 generalize judgedS l (bm 0 0 0) = X at *
 unfold PaR at HR1 HR2
 generalize hq : parN X = q at *
 obtain ⟨q1, q2⟩ := q
 have v1 : (q1 == q1) = true := by simp
 have v2 : (q2 == q2) = true := by simp
 clear hP hE hD hB hq
 go_enter Tryz.func4, Tryz.ntmps4
 go_wp2_with fail
 refine HR1.out.mono ?_; rintro r1 w1 ⟨hb1, f1, rfl, hv1⟩
 obtain ⟨k1, n1, g1, e1, t1, a1_, m1, c1, s1, o1, d1, hva1, _⟩ := hv1.lit
 rw [hva1]
 obtain ⟨A1, hA1⟩ : ∃ A1, (w1.alloc (.cells #[.int .i64 k1, .bool n1, .string g1, .int .i64 e1, .string t1, .slice a1_ m1 c1, .slice s1 o1 d1] 31)) = A1 := ⟨_, rfl⟩
 have hs1 : Below w1.heap.size w1 A1 := hA1 ▸ vb_a (Below.refl _ _) _
 have hb01 := vb_t hb1 hs1
 have hx1 : Bj A1 w1.heap.size #[.int .i64 k1, .bool n1, .string g1, .int .i64 e1, .string t1, .slice a1_ m1 c1, .slice s1 o1 d1] := hA1 ▸ Bj.new _ _ _
 go_wp2_with fail
 refine (HR2.out A1 hb01).mono ?_; rintro r2 w2 ⟨hb2, f2, rfl, hv2⟩
 obtain ⟨k2, n2, g2, e2, t2, a2_, m2, c2, s2, o2, d2, hva2, _⟩ := hv2.lit
 rw [hva2]
 obtain ⟨A2, hA2⟩ : ∃ A2, (w2.alloc (.cells #[.int .i64 k2, .bool n2, .string g2, .int .i64 e2, .string t2, .slice a2_ m2 c2, .slice s2 o2 d2] 31)) = A2 := ⟨_, rfl⟩
 have hs2 : Below w2.heap.size w2 A2 := hA2 ▸ vb_a (Below.refl _ _) _
 have hb12 : Below A1.heap.size A1 A2 := vb_t hb2 hs2
 have hb02 : Below w.heap.size w A2 := vb_t hb01 hb12
 have hx2 : Bj A2 w2.heap.size #[.int .i64 k2, .bool n2, .string g2, .int .i64 e2, .string t2, .slice a2_ m2 c2, .slice s2 o2 d2] := hA2 ▸ Bj.new _ _ _
 obtain ⟨x0, x1, x2, x3, x4, x5, x6⟩ := (hx1.bel hb12).c7
 obtain ⟨z0, z1, z2, z3, z4, z5, z6⟩ := hx2.c7
 have hc := Below.refl A2.heap.size A2
 have HSM : Hid (∀ w', Below A2.heap.size A2 w' → Calls Tryz.prog 11 #[.agg #[.int .i64 k1, .bool n1, .string g1, .int .i64 e1, .string t1, .slice a1_ m1 c1, .slice s1 o1 d1], .agg #[.int .i64 k2, .bool n2, .string g2, .int .i64 e2, .string t2, .slice a2_ m2 c2, .slice s2 o2 d2]] w' (fun r w3 => r = .returned (.bool true) ∧ Below A2.heap.size A2 w3)) := hid_intro (fun w' hb => by
  have := same_refl (valJ X) f1 f2 w' (vi_free6 hv1 (vb_t hs1 (vb_t hb12 hb))) (vi_free6 hv2 (vb_t hs2 hb))
  rw [hva1, hva2] at this
  exact this.mono fun r w3 hr => ⟨hr.1, vb_t hb hr.2⟩)
 have HHD : Hid (∀ w', Below A2.heap.size A2 w' → Calls Tryz.prog 14 #[] w' (fun r w3 => r = .returned (.bool true) ∧ Below A2.heap.size A2 w3)) := hid_intro (fun w' hb => (HH.out w' (vb_t hb02 hb)).mono fun r w3 hr => ⟨hr.1, vb_t hb hr.2⟩)
 have HB02 := hid_intro hb02
 clear hx1 hx2 hb12 hb02 hs1 hs2 hb01 hb1 hb2 HR1 HR2 HH hva1 hva2 hv1 hv2
 go_wp2_with (first | (go_at_call 11; refine (HSM.out _ ?_).mono ?_; (with_reducible repeat (first | exact hc | refine vb_d ?_)); rintro r3 w3 ⟨rfl, hc⟩) | (go_at_call 14; refine (HHD.out _ ?_).mono ?_; (with_reducible repeat (first | exact hc | refine vb_d ?_)); rintro r6 w6 ⟨rfl, hc⟩))
 rw [HP.out]
 exact ⟨rfl, vb_t HB02.out hc⟩
end Go.Proofs.YtfoehebnmommfaaGreatDoor
