/-
  What (parts).number answers of digits in range. Conditions: the parts are digits.
  What dec.read answers. Conditions: the sentinel lies in its variable.
  errors.As at a target of the package's own error type, and errors.Is at its one sentinel: Go's own text, walked. Conditions: the variable errors.errorType as the library lays it.
-/
import Derived.Test.YtjakgdaodlgeaaaGreatDoorJoined19
import Derived.Test.YtjakgdaodlgeaaaGreatDoorJoined18
import Derived.LaidEql
import Derived.Stop.Asserts
import Derived.RowKitTokens
namespace Go.Proofs.YtjakgdaodlgeaaaGreatDoor
open Go.RowKit
attribute [local go_sem] setCell_drewN alloc_drewN

set_option maxRecDepth 100000 in
set_option maxHeartbeats 1600000 in
theorem number_ok (p : P3) (w : World) (h : (allOf p).length ≤ 65536) (hz : dgOf p ≠ []) (hd : p.exp.all isD = true) (hx : p.exp.length ≤ maxLen) (r1 : ¬ exOf 1131072 p < -1000000) (r2 : ¬ 1000000 < exOf 1131072 p) :
  Calls Tryz.prog 138 #[pv p] w fun e w' => e = .returned (.tuple #[.agg #[.bool p.neg, .string (bs (dgOf p)), .int .i64 (exOf 1131072 p)], .nilIface]) ∧ Below w.heap.size w w' := by
 have hl : ¬ (65536 : Int) < ((bs p.int).size : Int) + ((bs p.frac).size : Int) := by unfold allOf at h; rw [List.length_append] at h; rw [bs_size, bs_size]; omega
 have h1 := fun w => trimR (bs (allOf p)) w (by rw [bs_size]; omega)
 have h2 := fun w => trimL (bs (upOf p)) w
 rw [bs_list] at h1 h2
 rw [show Lib.trimRightB (allOf p) 48 = upOf p from rfl] at h1
 rw [show Lib.trimLeftB (upOf p) 48 = dgOf p from rfl] at h2
 have h3 := fun w => shift_any p.neg (bs p.int) (bs p.frac) p.minus (bs p.exp) w (by rw [bs_size]; exact hx) (by rw [bs_list]; exact hd)
 rw [capN_all] at h3
 have ha : bs p.int ++ bs p.frac = bs (allOf p) := bs_append _ _
 have he : (bs (dgOf p)).toList.isEmpty = false := by rw [toList_bs]; cases hq : dgOf p with
  | nil => exact absurd hq hz
  | cons c t => rfl
 obtain ⟨e1, e2⟩ := expOf_bd p hd
 have lu : ((bs (upOf p)).size : Int) ≤ 65536 := by have : (upOf p).length ≤ (allOf p).length := trimRight_le _ _; rw [bs_size]; omega
 have la : ((bs (allOf p)).size : Int) ≤ 65536 := by rw [bs_size]; omega
 have lb : ((bs p.frac).size : Int) ≤ 65536 := by unfold allOf at h; rw [List.length_append] at h; rw [bs_size]; omega
 have hX : expOf 1131072 p - ((bs p.frac).size : Int) + ((bs (allOf p)).size : Int) - ((bs (upOf p)).size : Int) = exOf 1131072 p := by unfold exOf; rw [bs_size, bs_size, bs_size]
 have ld : (dgOf p).length ≤ (allOf p).length := Nat.le_trans (List.dropWhile_suffix _).length_le (trimRight_le _ _)
 have h4 := fun w => clone_any (bs (dgOf p)) w (by rw [bs_size]; omega)
 clear h hz hd hx ld
 unfold pv
 generalize bs (upOf p) = U at *
 generalize bs (allOf p) = A at *
 generalize bs (dgOf p) = D at *
 generalize bs p.int = a at *
 generalize bs p.frac = b at *
 generalize bs p.exp = x at *
 generalize expOf 1131072 p = E at *
 generalize exOf 1131072 p = X at *
 go_enter Tryz.func138, Tryz.ntmps138
 go_wp2_with (first | (go_at_call 145; refine (h1 _).mono ?_; rintro e w' ⟨rfl, rfl⟩) | (go_at_call 146; refine (h2 _).mono ?_; rintro e w' ⟨rfl, rfl⟩))
 go_region_with (go_at_call 148; refine (h3 _).mono ?_; rintro r w' ⟨rfl, rfl⟩)
 all_goals (try go_wp2_with fail)
 all_goals go_region_with (go_at_call 149; refine (h4 _).mono ?_; rintro r w' ⟨rfl, hb⟩; obtain ⟨hc, hf⟩ := bcell hb; have hz := hb.size; simp at hz)
 all_goals (try go_wp2)
 all_goals (refine bodyPost_ret (v := .tuple #[.agg #[.bool p.neg, .string D, .int .i64 X], .nilIface]) ?_ rfl ?_)
 all_goals first | (exact ⟨rfl, (by with_reducible repeat (first | exact Below.refl _ _ | refine bl_t ?_ hb | refine bl_d ?_ | refine bl_n ?_ _ | refine bl_a ?_ _ | refine bl_s ?_ (by omega) _))⟩) | (simp [results, Tryz.results138, go_sem, hc])
end Go.Proofs.YtjakgdaodlgeaaaGreatDoor

namespace Go.Proofs.YtjakgdaodlgeaaaGreatDoor
open Go.RowKit
attribute [local go_sem] setCell_drewN alloc_drewN

def Gl (w : World) (gv : Value) : Prop := 3 < w.heap.size ∧ w.cell? ⟨3, 0, none⟩ = some gv
theorem Gl.below {w w' : World} {gv : Value} (h : Gl w gv) (hb : Below w.heap.size w w') : Gl w' gv :=
 ⟨Nat.lt_of_lt_of_le h.1 hb.size, (hb.cell (p := ⟨3, 0, none⟩) h.1).trans h.2⟩
theorem Gl.alloc {w : World} {gv : Value} (h : Gl w gv) (o : Obj) : Gl (w.alloc o) gv := h.below (bl_a (Below.refl _ _) o)
theorem number_val (p : P3) (gv : Value) (w : World) (hG : Gl w gv) (hp : PD p) (hs : p.int.length + p.frac.length ≤ maxLen) (hx : p.exp.length ≤ maxLen) :
  Calls Tryz.prog 138 #[pv p] w fun e w' => e = .returned (.tuple #[d3 ((valueL 1131072 p).getD zeroD), if (valueL 1131072 p).isSome = true then .nilIface else gv]) ∧ Below w.heap.size w w' := by
 have h0 : 3 < w.heap.size := hG.1
 unfold valueL
 by_cases h1 : 65536 < (allOf p).length
 ·rw [if_pos h1]; exact number_long p gv w h0 hG.2 hs h1
 ·rw [if_neg h1]
  by_cases h2 : dgOf p = []
  ·rw [if_pos h2]; exact number_zero p w (by omega) h2
  ·rw [if_neg h2]
   by_cases h3 : exOf 1131072 p < -1000000 ∨ 1000000 < exOf 1131072 p
   ·rw [if_pos h3]; exact number_far p gv w h0 hG.2 (by omega) h2 hp.2.2 hx h3
   ·rw [if_neg h3]; exact number_ok p w (by omega) h2 hp.2.2 hx (fun g => h3 (.inl g)) (fun g => h3 (.inr g))
set_option maxRecDepth 100000 in
set_option maxHeartbeats 800000 in
theorem read_no (l : List UInt8) (w : World) (hs : l.length ≤ maxLen) (h : splitL l = none) :
  Calls Tryz.prog 135 #[.string (bs l)] w fun e w' => (∃ n, e = .returned (.tuple #[zv, .iface 195 (.agg #[.int .i64 n])])) ∧ Below w.heap.size w w' := by
 have h1 := fun w => split_no l w hs h
 simp only [pv] at h1
 clear h hs
 go_enter Tryz.func135, Tryz.ntmps135
 go_wp2_with (go_at_call 137; refine (h1 _).mono ?_; rintro e w' ⟨⟨p, r, o, rfl, rfl⟩, hb⟩; obtain ⟨hc, hf⟩ := bcell hb; have hz : w.heap.size < w'.heap.size := by have := hb.size; simp at this; omega)
 have hk1 : ∀ o, w'.cell? ⟨w.heap.size, o, none⟩ = (w.alloc (.cells #[.bool false, .string ⟨#[]⟩, .int .i64 0] 27)).cell? ⟨w.heap.size, o, none⟩ := fun o => hc w.heap.size o (by simp)
 refine bodyPost_ret (v := .tuple #[.agg #[.bool false, .string ⟨#[]⟩, .int .i64 0], .iface 195 (.agg #[.int .i64 (wrap64 (((bs l).size : Int) - ((bs r).size : Int)))])]) ?_ rfl ?_
 all_goals first | (exact ⟨⟨_, rfl⟩, (by with_reducible repeat (first | exact Below.refl _ _ | refine bl_t ?_ hb | refine bl_d ?_ | refine bl_n ?_ _ | refine bl_a ?_ _ | refine bl_s ?_ (by omega) _))⟩) | (simp [results, Tryz.results135, go_sem, hz, hk1])
set_option maxRecDepth 100000 in
set_option maxHeartbeats 800000 in
theorem read_left (l : List UInt8) (P : P3) (c : UInt8) (r : List UInt8) (w : World) (hs : l.length ≤ maxLen) (h : splitL l = some (P, c :: r)) :
  Calls Tryz.prog 135 #[.string (bs l)] w fun e w' => (∃ n, e = .returned (.tuple #[zv, .iface 195 (.agg #[.int .i64 n])])) ∧ Below w.heap.size w w' := by
 have h1 := fun w => split_yes l P (c :: r) w hs h
 have hn : (bs (c :: r)).toList.isEmpty = false := by rw [toList_bs]; rfl
 clear h hs
 generalize bs (c :: r) = R at *
 unfold pv at h1
 go_enter Tryz.func135, Tryz.ntmps135
 go_wp2_with (go_at_call 137; refine (h1 _).mono ?_; rintro e w' ⟨rfl, hb⟩; obtain ⟨hc, hf⟩ := bcell hb; have hz : w.heap.size < w'.heap.size := by have := hb.size; simp at this; omega)
 have hk1 : ∀ o, w'.cell? ⟨w.heap.size, o, none⟩ = (w.alloc (.cells #[.bool false, .string ⟨#[]⟩, .int .i64 0] 27)).cell? ⟨w.heap.size, o, none⟩ := fun o => hc w.heap.size o (by simp)
 refine bodyPost_ret (v := .tuple #[.agg #[.bool false, .string ⟨#[]⟩, .int .i64 0], .iface 195 (.agg #[.int .i64 (wrap64 (((bs l).size : Int) - (R.size : Int)))])]) ?_ rfl ?_
 all_goals first | (exact ⟨⟨_, rfl⟩, (by with_reducible repeat (first | exact Below.refl _ _ | refine bl_t ?_ hb | refine bl_d ?_ | refine bl_n ?_ _ | refine bl_a ?_ _ | refine bl_s ?_ (by omega) _))⟩) | (simp [results, Tryz.results135, go_sem, hz, hk1])
set_option maxRecDepth 100000 in
set_option maxHeartbeats 800000 in
theorem read_parts (l : List UInt8) (p : P3) (gv : Value) (w : World) (hG : Gl w gv) (hs : l.length ≤ maxLen) (h : splitL l = some (p, [])) (hp : PD p) (hl : p.int.length + p.frac.length ≤ maxLen) (hx : p.exp.length ≤ maxLen) :
  Calls Tryz.prog 135 #[.string (bs l)] w fun e w' => e = .returned (.tuple #[d3 ((valueL 1131072 p).getD zeroD), if (valueL 1131072 p).isSome = true then .nilIface else gv]) ∧ Below w.heap.size w w' := by
 have h1 := fun w => split_yes l p [] w hs h
 have h2 := fun w hG => number_val p gv w hG hp hl hx
 have hn : (bs []).toList = [] := toList_bs []
 clear h hs hl hx hp
 generalize (valueL 1131072 p).getD zeroD = d at *
 generalize (if (valueL 1131072 p).isSome = true then Value.nilIface else gv) = ev at *
 generalize bs [] = R at *
 unfold pv at h1 h2
 unfold d3 at h2 ⊢
 go_enter Tryz.func135, Tryz.ntmps135
 go_wp2_with (first | (go_at_call 137; refine (h1 _).mono ?_; rintro e w' ⟨rfl, hb⟩; obtain ⟨hc, hf⟩ := bcell hb; have hz : w.heap.size < w'.heap.size := by have := hb.size; simp at this; omega) | (go_at_call 138; refine (h2 _ (((hG.alloc _).below hb).alloc _)).mono ?_; rintro e w2 ⟨rfl, hb2⟩; obtain ⟨hc2, hf2⟩ := bcell hb2; have hz2 : w'.heap.size < w2.heap.size := by have := hb2.size; simp at this; omega))
 have hk : ∀ o, w2.cell? ⟨w.heap.size, o, none⟩ = (w.alloc (.cells #[.bool false, .string ⟨#[]⟩, .int .i64 0] 27)).cell? ⟨w.heap.size, o, none⟩ := fun o => by
  rw [hc2 w.heap.size o (by simp only [World.size_alloc]; omega), World.cell?_alloc_lt _ _ ⟨w.heap.size, o, none⟩ hz, hc w.heap.size o (by simp)]
 refine bodyPost_ret (v := .tuple #[.agg #[.bool d.neg, .string (bs d.dg), .int .i64 d.ex], ev]) ?_ rfl ?_
 all_goals first | (exact ⟨rfl, (by with_reducible repeat (first | exact Below.refl _ _ | refine bl_t ?_ hb2 | refine bl_t ?_ hb | refine bl_d ?_ | refine bl_n ?_ _ | refine bl_a ?_ _ | refine bl_s ?_ (by omega) _))⟩) | (simp [results, Tryz.results135, go_sem, hk])
end Go.Proofs.YtjakgdaodlgeaaaGreatDoor

namespace Go.Proofs.YtjakgdaodlgeaaaGreatDoor
open Go.RowKit Go.Extern.Stop Go.Stop Go.Extern

theorem as_nil (t : Value) (w : World) :
  Calls Tryz.prog 49 #[.nilIface, t] w fun e w' => e = .returned (.bool false) ∧ w' = w := by
 go_enter Tryz.func49, Tryz.ntmps49
 go_wp2
 go_ret
 exact ⟨rfl, rfl⟩
theorem valueOfP (t : Addr) (w : World) : (ReflectliteValue.unpack (.iface 196 (.pointer (some t)))).run Tryz.prog w
  = .ok (.agg #[.pointer (some ⟨6, 196, none⟩), .pointer (some ⟨w.heap.size, 0, none⟩), .int .u64 150]) (w.alloc (.cells #[.pointer (some t)] 196)) := by kernel_rfl
theorem typeP (a : Addr) (w : World) : (ReflectliteValue.methodAny (ReflectliteValue.valueError "reflectlite.Value.Type" 0) (fun t _ _ _ => ReflectliteType.toType t) #[.agg #[.pointer (some ⟨6, 196, none⟩), .pointer (some a), .int .u64 150]]).run Tryz.prog w
  = .ok (.iface 152 (.agg #[.pointer (some ⟨6, 196, none⟩)])) w := by kernel_rfl
theorem methodKind (h : Value) (w : World) : (Go.method 366 152 (.agg #[h]) "Kind").run Tryz.prog w = .ok (185, h) w := by kernel_rfl
theorem kindP (w : World) : ((ReflectliteType.abiMethod fun t => (fun a : Nat => Value.int IntKind.u8 (a : Int)) <$> Rtype.kind t) #[.pointer (some ⟨6, 196, none⟩)]).run Tryz.prog w = .ok (.int .u8 22) w := by kernel_rfl
theorem kindN (w : World) : ((ReflectliteType.abiMethod fun t => (fun a : Nat => Value.int IntKind.u8 (a : Int)) <$> Rtype.kind t) #[.pointer (some ⟨6, 195, none⟩)]).run Tryz.prog w = .ok (.int .u8 25) w := by kernel_rfl
theorem rlm (z : Sem Value) (f : TypeId → Addr → Nat → Nat → Sem Value) (v : Value) :
  ReflectliteValue.method z f #[v] = (do match ← ReflectliteValue.parts v with | none => z | some (t, a, fl) => f t a fl (fl % 32)) := rfl
theorem partsP (a : Addr) (w : World) : (ReflectliteValue.parts (.agg #[.pointer (some ⟨6, 196, none⟩), .pointer (some a), .int .u64 150])).run Tryz.prog w = .ok (some (196, a, 150)) w := by kernel_rfl
theorem isNilP (a p : Addr) (W : World) (ha : W.cell? a = some (.pointer (some p))) :
  (ReflectliteValue.method (ReflectliteValue.valueError "reflectlite.Value.IsNil" 0) ReflectliteValue.isNil #[.agg #[.pointer (some ⟨6, 196, none⟩), .pointer (some a), .int .u64 150]]).run Tryz.prog W = .ok (.bool false) W := by
 rw [rlm]
 simp only [Sem.run_bind, partsP, Result.andThen]
 simp [ReflectliteValue.isNil, loadVar, isAgg, underlying, Tryz.underlying196, ha, Result.andThen]
theorem methodElem (h : Value) (w : World) : (Go.method 366 152 (.agg #[h]) "Elem").run Tryz.prog w = .ok (195, .agg #[h]) w := by kernel_rfl
theorem methodImplements (h : Value) (w : World) : (Go.method 366 152 (.agg #[h]) "Implements").run Tryz.prog w = .ok (196, .agg #[h]) w := by kernel_rfl
theorem methodAssignableTo (h : Value) (w : World) : (Go.method 366 152 (.agg #[h]) "AssignableTo").run Tryz.prog w = .ok (193, .agg #[h]) w := by kernel_rfl
theorem elemP (w : World) : (ReflectliteType.method ReflectliteType.elem #[.agg #[.pointer (some ⟨6, 196, none⟩)]]).run Tryz.prog w = .ok (.iface 152 (.agg #[.pointer (some ⟨6, 195, none⟩)])) w := by kernel_rfl
theorem implementsN (w : World) : (ReflectliteType.relation "Implements" ReflectliteType.implements_ #[.agg #[.pointer (some ⟨6, 195, none⟩)], .iface 152 (.agg #[.pointer (some ⟨6, 69, none⟩)])]).run Tryz.prog w = .ok (.bool true) w := by kernel_rfl
theorem typeOfN (v : Value) (w : World) : (ReflectliteType.typeOf #[.iface 195 v]).run Tryz.prog w = .ok (.iface 152 (.agg #[.pointer (some ⟨6, 195, none⟩)])) w := by kernel_rfl
theorem typeOfE (v : Value) (w : World) : (ReflectliteType.typeOf #[.iface 235 v]).run Tryz.prog w = .ok (.iface 152 (.agg #[.pointer (some ⟨6, 235, none⟩)])) w := by kernel_rfl
theorem assignableN (w : World) : (ReflectliteType.relation "AssignableTo" ReflectliteType.assignableTo #[.agg #[.pointer (some ⟨6, 195, none⟩)], .iface 152 (.agg #[.pointer (some ⟨6, 195, none⟩)])]).run Tryz.prog w = .ok (.bool true) w := by kernel_rfl
theorem assignableE (w : World) : (ReflectliteType.relation "AssignableTo" ReflectliteType.assignableTo #[.agg #[.pointer (some ⟨6, 235, none⟩)], .iface 152 (.agg #[.pointer (some ⟨6, 195, none⟩)])]).run Tryz.prog w = .ok (.bool false) w := by kernel_rfl
theorem valueOfN (n : Int) (w : World) : (ReflectliteValue.unpack (.iface 195 (.agg #[.int .i64 n]))).run Tryz.prog w
  = .ok (.agg #[.pointer (some ⟨6, 195, none⟩), .pointer (some ⟨w.heap.size, 0, none⟩), .int .u64 153]) (w.alloc (.cells #[.int .i64 n] 195)) := by kernel_rfl
theorem elemOfP (w : World) : (Rtype.elem? 196).run Tryz.prog w = .ok (some 195) w := by kernel_rfl
theorem mkN (p : Addr) (w : World) : (ReflectliteValue.mk 195 p ReflectliteValue.flagAddr).run Tryz.prog w = .ok (.agg #[.pointer (some ⟨6, 195, none⟩), .pointer (some p), .int .u64 409]) w := by kernel_rfl
theorem elemVP (a p : Addr) (W : World) (ha : W.cell? a = some (.pointer (some p))) :
  (ReflectliteValue.method (ReflectliteValue.valueError "reflectlite.Value.Elem" 0) ReflectliteValue.elem #[.agg #[.pointer (some ⟨6, 196, none⟩), .pointer (some a), .int .u64 150]]).run Tryz.prog W
   = .ok (.agg #[.pointer (some ⟨6, 195, none⟩), .pointer (some p), .int .u64 409]) W := by
 rw [rlm]
 simp only [Sem.run_bind, partsP, Result.andThen]
 simp [ReflectliteValue.elem, loadVar, isAgg, underlying, Tryz.underlying196, ha, Result.andThen, elemOfP, mkN]
theorem rls (v x : Value) : ReflectliteValue.set #[v, x] = (do
  let (some (dst, a, fl), some (src, b, _)) := (← ReflectliteValue.parts v, ← ReflectliteValue.parts x)
   | unsupported (.noEntry "extern/(internal/reflectlite.Value).Set.zeroValue")
  if fl / ReflectliteValue.flagAddr % 2 == 0 then unsupported (.noEntry "extern/(internal/reflectlite.Value).Set.unaddressable")
  let val ← loadVar src b
  if ← Rtype.directlyAssignable dst src then storeVar dst a val
  else if ← Rtype.implements dst src then
   if (← Rtype.kind src) == 20 then
    match val with
    | .nilIface => unsupported (.noEntry "extern/reflectlite: a nil value of one interface type handed on as a value of another")
    | _ => storeVar dst a val
   else storeVar dst a (.iface src val)
  else panicString ("reflectlite.Set: value of type " ++ (← Rtype.spelt src) ++ " is not assignable to type " ++ (← Rtype.spelt dst))
  pure (.tuple #[])) := rfl
theorem partsNa (a : Addr) (w : World) : (ReflectliteValue.parts (.agg #[.pointer (some ⟨6, 195, none⟩), .pointer (some a), .int .u64 409])).run Tryz.prog w = .ok (some (195, a, 409)) w := by kernel_rfl
theorem partsN (a : Addr) (w : World) : (ReflectliteValue.parts (.agg #[.pointer (some ⟨6, 195, none⟩), .pointer (some a), .int .u64 153])).run Tryz.prog w = .ok (some (195, a, 153)) w := by kernel_rfl
theorem directN (w : World) : (Rtype.directlyAssignable 195 195).run Tryz.prog w = .ok true w := by kernel_rfl
theorem loadN (b : Nat) (n : Int) (W : World) (hb : W.cell? ⟨b, 0, none⟩ = some (.int .i64 n)) : (loadVar 195 ⟨b, 0, none⟩).run Tryz.prog W = .ok (.agg #[.int .i64 n]) W := by
 have z := Tryz.sizeOf195
 have a := Tryz.isAgg195
 simp [loadVar, a, z, Result.andThen, hb, go_sem]
theorem setN (ta tb : Nat) (n old : Int) (W : World) (hb : W.cell? ⟨tb, 0, none⟩ = some (.int .i64 n)) (ht : W.cell? ⟨ta, 0, none⟩ = some (.int .i64 old)) (hf : W.frozen? ⟨ta, 0, none⟩ = false) :
  (ReflectliteValue.set #[.agg #[.pointer (some ⟨6, 195, none⟩), .pointer (some ⟨ta, 0, none⟩), .int .u64 409], .agg #[.pointer (some ⟨6, 195, none⟩), .pointer (some ⟨tb, 0, none⟩), .int .u64 153]]).run Tryz.prog W
   = .ok (.tuple #[]) (W.setCell ⟨ta, 0, none⟩ (.int .i64 n)) := by
 rw [rls]
 have z := Tryz.sizeOf195
 simp only [Sem.run_bind, partsNa, partsN, Result.andThen]
 simp [ReflectliteValue.flagAddr, loadN tb n W hb, Result.andThen, directN, storeVar, z, Value.cells, storeCells, Addr.add]
 rw [run_store Tryz.prog W ⟨ta, 0, none⟩ _ _ (by rfl)]
 simp [ht, hf]
theorem noAsE (v : Value) (xT : TypeId) (w : World) : (Instr.typeAssert (.iface 235 v) xT 157 true).run Tryz.prog w = .ok (.tuple #[.nilIface, .bool false]) w := run_typeAssert_lacksB Tryz.underlying157 (by kernel_rfl) (by kernel_rfl) v xT w
theorem noUnwrapE (v : Value) (xT : TypeId) (w : World) : (Instr.typeAssert (.iface 235 v) xT 160 true).run Tryz.prog w = .ok (.tuple #[.nilIface, .bool false]) w := run_typeAssert_lacksB Tryz.underlying160 (by kernel_rfl) (by kernel_rfl) v xT w
theorem noUnwrapsE (v : Value) (xT : TypeId) (w : World) : (Instr.typeAssert (.iface 235 v) xT 162 true).run Tryz.prog w = .ok (.tuple #[.nilIface, .bool false]) w := run_typeAssert_lacksB Tryz.underlying162 (by kernel_rfl) (by kernel_rfl) v xT w
theorem x_h6 (args : Array Value) (w : World) : (callFunc 74 args).run Tryz.prog w = (((fun args => ReflectliteValue.unpack (args.getD 0 (.tuple #[]))) args).run Tryz.prog w).andThen fun v w' => .ok (.value v) w' := run_callFunc_extern (e := (fun args => ReflectliteValue.unpack (args.getD 0 (.tuple #[])))) Tryz.func74 (by kernel_rfl) (by kernel_rfl) (by kernel_rfl) (by kernel_rfl) args w
theorem x_h7 (args : Array Value) (w : World) : (callFunc 75 args).run Tryz.prog w = (((ReflectliteValue.methodAny (ReflectliteValue.valueError "reflectlite.Value.Type" 0) (fun t _ _ _ => ReflectliteType.toType t)) args).run Tryz.prog w).andThen fun v w' => .ok (.value v) w' := run_callFunc_extern (e := (ReflectliteValue.methodAny (ReflectliteValue.valueError "reflectlite.Value.Type" 0) (fun t _ _ _ => ReflectliteType.toType t))) Tryz.func75 (by kernel_rfl) (by kernel_rfl) (by kernel_rfl) (by kernel_rfl) args w
theorem x_h8 (args : Array Value) (w : World) : (callFunc 76 args).run Tryz.prog w = (((ReflectliteValue.method (ReflectliteValue.valueError "reflectlite.Value.IsNil" 0) ReflectliteValue.isNil) args).run Tryz.prog w).andThen fun v w' => .ok (.value v) w' := run_callFunc_extern (e := (ReflectliteValue.method (ReflectliteValue.valueError "reflectlite.Value.IsNil" 0) ReflectliteValue.isNil)) Tryz.func76 (by kernel_rfl) (by kernel_rfl) (by kernel_rfl) (by kernel_rfl) args w
theorem x_h27 (args : Array Value) (w : World) : (callFunc 185 args).run Tryz.prog w = (((ReflectliteType.abiMethod fun t => do pure (.int .u8 (← Rtype.kind t))) args).run Tryz.prog w).andThen fun v w' => .ok (.value v) w' := run_callFunc_extern (e := (ReflectliteType.abiMethod fun t => do pure (.int .u8 (← Rtype.kind t)))) Tryz.func185 (by kernel_rfl) (by kernel_rfl) (by kernel_rfl) (by kernel_rfl) args w
theorem x_h37 (args : Array Value) (w : World) : (callFunc 195 args).run Tryz.prog w = (((ReflectliteType.method ReflectliteType.elem) args).run Tryz.prog w).andThen fun v w' => .ok (.value v) w' := run_callFunc_extern (e := (ReflectliteType.method ReflectliteType.elem)) Tryz.func195 (by kernel_rfl) (by kernel_rfl) (by kernel_rfl) (by kernel_rfl) args w
theorem x_h38 (args : Array Value) (w : World) : (callFunc 196 args).run Tryz.prog w = (((ReflectliteType.relation "Implements" ReflectliteType.implements_) args).run Tryz.prog w).andThen fun v w' => .ok (.value v) w' := run_callFunc_extern (e := (ReflectliteType.relation "Implements" ReflectliteType.implements_)) Tryz.func196 (by kernel_rfl) (by kernel_rfl) (by kernel_rfl) (by kernel_rfl) args w
theorem x_h10 (args : Array Value) (w : World) : (callFunc 101 args).run Tryz.prog w = ((ReflectliteType.typeOf args).run Tryz.prog w).andThen fun v w' => .ok (.value v) w' := run_callFunc_extern (e := ReflectliteType.typeOf) Tryz.func101 (by kernel_rfl) (by kernel_rfl) (by kernel_rfl) (by kernel_rfl) args w
theorem x_h35 (args : Array Value) (w : World) : (callFunc 193 args).run Tryz.prog w = (((ReflectliteType.relation "AssignableTo" ReflectliteType.assignableTo) args).run Tryz.prog w).andThen fun v w' => .ok (.value v) w' := run_callFunc_extern (e := (ReflectliteType.relation "AssignableTo" ReflectliteType.assignableTo)) Tryz.func193 (by kernel_rfl) (by kernel_rfl) (by kernel_rfl) (by kernel_rfl) args w
theorem x_h11 (args : Array Value) (w : World) : (callFunc 102 args).run Tryz.prog w = (((ReflectliteValue.method (ReflectliteValue.valueError "reflectlite.Value.Elem" 0) ReflectliteValue.elem) args).run Tryz.prog w).andThen fun v w' => .ok (.value v) w' := run_callFunc_extern (e := (ReflectliteValue.method (ReflectliteValue.valueError "reflectlite.Value.Elem" 0) ReflectliteValue.elem)) Tryz.func102 (by kernel_rfl) (by kernel_rfl) (by kernel_rfl) (by kernel_rfl) args w
theorem x_h12 (args : Array Value) (w : World) : (callFunc 103 args).run Tryz.prog w = ((ReflectliteValue.set args).run Tryz.prog w).andThen fun v w' => .ok (.value v) w' := run_callFunc_extern (e := ReflectliteValue.set) Tryz.func103 (by kernel_rfl) (by kernel_rfl) (by kernel_rfl) (by kernel_rfl) args w
end Go.Proofs.YtjakgdaodlgeaaaGreatDoor
