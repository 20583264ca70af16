/-
  What dec.read answers. Conditions: the sentinel lies in its variable.
  errors.As at a target of the package's own error type, and errors.Is at its one sentinel: Go's own text, walked. Conditions: the variable errors.errorType as the library lays it.
  errors.As at a target of the package's own error type: what is found, and what is not. Conditions: the variable errors.errorType as the library lays it.
  errors.Is at the package's sentinel. No condition.
-/
import Derived.Test.YtjdboekanmfgpaaGreatDoorJoined22
import Derived.Test.YtjdboekanmfgpaaGreatDoorJoined4
import Derived.LaidEql
import Derived.Stop.Asserts
import Derived.RowKitTokens
namespace Go.Proofs.YtjdboekanmfgpaaGreatDoor
open Go.RowKit
attribute [local go_sem] setCell_drewN alloc_drewN

/-- The sentinel's variable. -/
def Gl (w : World) (gv : Value) : Prop := 4 < w.heap.size ∧ w.cell? ⟨4, 0, none⟩ = some gv
theorem Gl.below {w w' : World} {gv : Value} (h : Gl w gv) (hb : Below w.heap.size w w') : Gl w' gv :=
 ⟨Nat.lt_of_lt_of_le h.1 hb.size, (hb.cell (p := ⟨4, 0, none⟩) h.1).trans h.2⟩
theorem Gl.alloc {w : World} {gv : Value} (h : Gl w gv) (o : Obj) : Gl (w.alloc o) gv := h.below (bl_a (Below.refl _ _) o)
theorem number_val (p : P3) (gv : Value) (w : World) (hG : Gl w gv) (hp : PD p) (hs : p.int.length + p.frac.length ≤ maxLen) (hx : p.exp.length ≤ maxLen) :
  Calls Tryz.prog 217 #[pv p] w fun e w' => e = .returned (.tuple #[d3 ((valueL 1131072 p).getD zeroD), if (valueL 1131072 p).isSome = true then .nilIface else gv]) ∧ Below w.heap.size w w' := by
 have h0 : 4 < w.heap.size := hG.1
 unfold valueL
 by_cases h1 : 65536 < (allOf p).length
 ·rw [if_pos h1]; exact number_long p gv w h0 hG.2 hs h1
 ·rw [if_neg h1]
  by_cases h2 : dgOf p = []
  ·rw [if_pos h2]; exact number_zero p w (by omega) h2
  ·rw [if_neg h2]
   by_cases h3 : exOf 1131072 p < -1000000 ∨ 1000000 < exOf 1131072 p
   ·rw [if_pos h3]; exact number_far p gv w h0 hG.2 (by omega) h2 hp.2.2 hx h3
   ·rw [if_neg h3]; exact number_ok p w (by omega) h2 hp.2.2 hx (fun g => h3 (.inl g)) (fun g => h3 (.inr g))

set_option maxRecDepth 100000 in
set_option maxHeartbeats 800000 in
theorem read_no (l : List UInt8) (w : World) (hs : l.length ≤ maxLen) (h : splitL l = none) :
  Calls Tryz.prog 205 #[.string (bs l)] w fun e w' => (∃ n, e = .returned (.tuple #[zv, .iface 215 (.agg #[.int .i64 n])])) ∧ Below w.heap.size w w' := by
 have h1 := fun w => split_no l w hs h
 simp only [pv] at h1
 clear h hs
 go_enter Tryz.func205, Tryz.ntmps205
 go_wp2_with (go_at_call 216; refine (h1 _).mono ?_; rintro e w' ⟨⟨p, r, o, rfl, rfl⟩, hb⟩; obtain ⟨hc, hf⟩ := bcell hb; have hz : w.heap.size < w'.heap.size := by have := hb.size; simp at this; omega)
 have hk1 : ∀ o, w'.cell? ⟨w.heap.size, o, none⟩ = (w.alloc (.cells #[.bool false, .string ⟨#[]⟩, .int .i64 0] 24)).cell? ⟨w.heap.size, o, none⟩ := fun o => hc w.heap.size o (by simp)
 refine bodyPost_ret (v := .tuple #[.agg #[.bool false, .string ⟨#[]⟩, .int .i64 0], .iface 215 (.agg #[.int .i64 (wrap64 (((bs l).size : Int) - ((bs r).size : Int)))])]) ?_ rfl ?_
 all_goals first | (exact ⟨⟨_, rfl⟩, (by with_reducible repeat (first | exact Below.refl _ _ | refine bl_t ?_ hb | refine bl_d ?_ | refine bl_n ?_ _ | refine bl_a ?_ _ | refine bl_s ?_ (by omega) _))⟩) | (simp [results, Tryz.results205, go_sem, hz, hk1])

set_option maxRecDepth 100000 in
set_option maxHeartbeats 800000 in
theorem read_left (l : List UInt8) (P : P3) (c : UInt8) (r : List UInt8) (w : World) (hs : l.length ≤ maxLen) (h : splitL l = some (P, c :: r)) :
  Calls Tryz.prog 205 #[.string (bs l)] w fun e w' => (∃ n, e = .returned (.tuple #[zv, .iface 215 (.agg #[.int .i64 n])])) ∧ Below w.heap.size w w' := by
 have h1 := fun w => split_yes l P (c :: r) w hs h
 have hn : (bs (c :: r)).toList.isEmpty = false := by rw [toList_bs]; rfl
 clear h hs
 generalize bs (c :: r) = R at *
 unfold pv at h1
 go_enter Tryz.func205, Tryz.ntmps205
 go_wp2_with (go_at_call 216; refine (h1 _).mono ?_; rintro e w' ⟨rfl, hb⟩; obtain ⟨hc, hf⟩ := bcell hb; have hz : w.heap.size < w'.heap.size := by have := hb.size; simp at this; omega)
 have hk1 : ∀ o, w'.cell? ⟨w.heap.size, o, none⟩ = (w.alloc (.cells #[.bool false, .string ⟨#[]⟩, .int .i64 0] 24)).cell? ⟨w.heap.size, o, none⟩ := fun o => hc w.heap.size o (by simp)
 refine bodyPost_ret (v := .tuple #[.agg #[.bool false, .string ⟨#[]⟩, .int .i64 0], .iface 215 (.agg #[.int .i64 (wrap64 (((bs l).size : Int) - (R.size : Int)))])]) ?_ rfl ?_
 all_goals first | (exact ⟨⟨_, rfl⟩, (by with_reducible repeat (first | exact Below.refl _ _ | refine bl_t ?_ hb | refine bl_d ?_ | refine bl_n ?_ _ | refine bl_a ?_ _ | refine bl_s ?_ (by omega) _))⟩) | (simp [results, Tryz.results205, go_sem, hz, hk1])

set_option maxRecDepth 100000 in
set_option maxHeartbeats 800000 in
theorem read_parts (l : List UInt8) (p : P3) (gv : Value) (w : World) (hG : Gl w gv) (hs : l.length ≤ maxLen) (h : splitL l = some (p, [])) (hp : PD p) (hl : p.int.length + p.frac.length ≤ maxLen) (hx : p.exp.length ≤ maxLen) :
  Calls Tryz.prog 205 #[.string (bs l)] w fun e w' => e = .returned (.tuple #[d3 ((valueL 1131072 p).getD zeroD), if (valueL 1131072 p).isSome = true then .nilIface else gv]) ∧ Below w.heap.size w w' := by
 have h1 := fun w => split_yes l p [] w hs h
 have h2 := fun w hG => number_val p gv w hG hp hl hx
 have hn : (bs []).toList = [] := toList_bs []
 clear h hs hl hx hp
 generalize (valueL 1131072 p).getD zeroD = d at *
 generalize (if (valueL 1131072 p).isSome = true then Value.nilIface else gv) = ev at *
 generalize bs [] = R at *
 unfold pv at h1 h2
 unfold d3 at h2 ⊢
 go_enter Tryz.func205, Tryz.ntmps205
 go_wp2_with (first | (go_at_call 216; refine (h1 _).mono ?_; rintro e w' ⟨rfl, hb⟩; obtain ⟨hc, hf⟩ := bcell hb; have hz : w.heap.size < w'.heap.size := by have := hb.size; simp at this; omega) | (go_at_call 217; refine (h2 _ (((hG.alloc _).below hb).alloc _)).mono ?_; rintro e w2 ⟨rfl, hb2⟩; obtain ⟨hc2, hf2⟩ := bcell hb2; have hz2 : w'.heap.size < w2.heap.size := by have := hb2.size; simp at this; omega))
 have hk : ∀ o, w2.cell? ⟨w.heap.size, o, none⟩ = (w.alloc (.cells #[.bool false, .string ⟨#[]⟩, .int .i64 0] 24)).cell? ⟨w.heap.size, o, none⟩ := fun o => by
  rw [hc2 w.heap.size o (by simp only [World.size_alloc]; omega), World.cell?_alloc_lt _ _ ⟨w.heap.size, o, none⟩ hz, hc w.heap.size o (by simp)]
 refine bodyPost_ret (v := .tuple #[.agg #[.bool d.neg, .string (bs d.dg), .int .i64 d.ex], ev]) ?_ rfl ?_
 all_goals first | (exact ⟨rfl, (by with_reducible repeat (first | exact Below.refl _ _ | refine bl_t ?_ hb2 | refine bl_t ?_ hb | refine bl_d ?_ | refine bl_n ?_ _ | refine bl_a ?_ _ | refine bl_s ?_ (by omega) _))⟩) | (simp [results, Tryz.results205, go_sem, hk])
end Go.Proofs.YtjdboekanmfgpaaGreatDoor

namespace Go.Proofs.YtjdboekanmfgpaaGreatDoor
open Go.RowKit Go.Extern.Stop Go.Stop Go.Extern

/-- errors.As(nil, target). -/
theorem as_nil (t : Value) (w : World) :
  Calls Tryz.prog 181 #[.nilIface, t] w fun e w' => e = .returned (.bool false) ∧ w' = w := by
 go_enter Tryz.func181, Tryz.ntmps181
 go_wp2
 go_ret
 exact ⟨rfl, rfl⟩

theorem valueOfP (t : Addr) (w : World) : (ReflectliteValue.unpack (.iface 216 (.pointer (some t)))).run Tryz.prog w
  = .ok (.agg #[.pointer (some ⟨9, 216, none⟩), .pointer (some ⟨w.heap.size, 0, none⟩), .int .u64 150]) (w.alloc (.cells #[.pointer (some t)] 216)) := by kernel_rfl
theorem typeP (a : Addr) (w : World) : (ReflectliteValue.methodAny (ReflectliteValue.valueError "reflectlite.Value.Type" 0) (fun t _ _ _ => ReflectliteType.toType t) #[.agg #[.pointer (some ⟨9, 216, none⟩), .pointer (some a), .int .u64 150]]).run Tryz.prog w
  = .ok (.iface 222 (.agg #[.pointer (some ⟨9, 216, none⟩)])) w := by kernel_rfl
theorem methodKind (h : Value) (w : World) : (Go.method 411 222 (.agg #[h]) "Kind").run Tryz.prog w = .ok (274, h) w := by kernel_rfl
theorem kindP (w : World) : ((ReflectliteType.abiMethod fun t => (fun a : Nat => Value.int IntKind.u8 (a : Int)) <$> Rtype.kind t) #[.pointer (some ⟨9, 216, none⟩)]).run Tryz.prog w = .ok (.int .u8 22) w := by kernel_rfl
theorem kindN (w : World) : ((ReflectliteType.abiMethod fun t => (fun a : Nat => Value.int IntKind.u8 (a : Int)) <$> Rtype.kind t) #[.pointer (some ⟨9, 215, none⟩)]).run Tryz.prog w = .ok (.int .u8 25) w := by kernel_rfl
theorem rlm (z : Sem Value) (f : TypeId → Addr → Nat → Nat → Sem Value) (v : Value) :
  ReflectliteValue.method z f #[v] = (do match ← ReflectliteValue.parts v with | none => z | some (t, a, fl) => f t a fl (fl % 32)) := rfl
theorem partsP (a : Addr) (w : World) : (ReflectliteValue.parts (.agg #[.pointer (some ⟨9, 216, none⟩), .pointer (some a), .int .u64 150])).run Tryz.prog w = .ok (some (216, a, 150)) w := by kernel_rfl
theorem isNilP (a p : Addr) (W : World) (ha : W.cell? a = some (.pointer (some p))) :
  (ReflectliteValue.method (ReflectliteValue.valueError "reflectlite.Value.IsNil" 0) ReflectliteValue.isNil #[.agg #[.pointer (some ⟨9, 216, none⟩), .pointer (some a), .int .u64 150]]).run Tryz.prog W = .ok (.bool false) W := by
 rw [rlm]
 simp only [Sem.run_bind, partsP, Result.andThen]
 simp [ReflectliteValue.isNil, loadVar, isAgg, underlying, Tryz.underlying216, ha, Result.andThen]
theorem methodElem (h : Value) (w : World) : (Go.method 411 222 (.agg #[h]) "Elem").run Tryz.prog w = .ok (286, .agg #[h]) w := by kernel_rfl
theorem methodImplements (h : Value) (w : World) : (Go.method 411 222 (.agg #[h]) "Implements").run Tryz.prog w = .ok (287, .agg #[h]) w := by kernel_rfl
theorem methodAssignableTo (h : Value) (w : World) : (Go.method 411 222 (.agg #[h]) "AssignableTo").run Tryz.prog w = .ok (284, .agg #[h]) w := by kernel_rfl
theorem elemP (w : World) : (ReflectliteType.method ReflectliteType.elem #[.agg #[.pointer (some ⟨9, 216, none⟩)]]).run Tryz.prog w = .ok (.iface 222 (.agg #[.pointer (some ⟨9, 215, none⟩)])) w := by kernel_rfl
theorem implementsN (w : World) : (ReflectliteType.relation "Implements" ReflectliteType.implements_ #[.agg #[.pointer (some ⟨9, 215, none⟩)], .iface 222 (.agg #[.pointer (some ⟨9, 78, none⟩)])]).run Tryz.prog w = .ok (.bool true) w := by kernel_rfl
theorem typeOfN (v : Value) (w : World) : (ReflectliteType.typeOf #[.iface 215 v]).run Tryz.prog w = .ok (.iface 222 (.agg #[.pointer (some ⟨9, 215, none⟩)])) w := by kernel_rfl
theorem typeOfE (v : Value) (w : World) : (ReflectliteType.typeOf #[.iface 281 v]).run Tryz.prog w = .ok (.iface 222 (.agg #[.pointer (some ⟨9, 281, none⟩)])) w := by kernel_rfl
theorem assignableN (w : World) : (ReflectliteType.relation "AssignableTo" ReflectliteType.assignableTo #[.agg #[.pointer (some ⟨9, 215, none⟩)], .iface 222 (.agg #[.pointer (some ⟨9, 215, none⟩)])]).run Tryz.prog w = .ok (.bool true) w := by kernel_rfl
theorem assignableE (w : World) : (ReflectliteType.relation "AssignableTo" ReflectliteType.assignableTo #[.agg #[.pointer (some ⟨9, 281, none⟩)], .iface 222 (.agg #[.pointer (some ⟨9, 215, none⟩)])]).run Tryz.prog w = .ok (.bool false) w := by kernel_rfl
theorem valueOfN (n : Int) (w : World) : (ReflectliteValue.unpack (.iface 215 (.agg #[.int .i64 n]))).run Tryz.prog w
  = .ok (.agg #[.pointer (some ⟨9, 215, none⟩), .pointer (some ⟨w.heap.size, 0, none⟩), .int .u64 153]) (w.alloc (.cells #[.int .i64 n] 215)) := by kernel_rfl
theorem elemOfP (w : World) : (Rtype.elem? 216).run Tryz.prog w = .ok (some 215) w := by kernel_rfl
theorem mkN (p : Addr) (w : World) : (ReflectliteValue.mk 215 p ReflectliteValue.flagAddr).run Tryz.prog w = .ok (.agg #[.pointer (some ⟨9, 215, none⟩), .pointer (some p), .int .u64 409]) w := by kernel_rfl
theorem elemVP (a p : Addr) (W : World) (ha : W.cell? a = some (.pointer (some p))) :
  (ReflectliteValue.method (ReflectliteValue.valueError "reflectlite.Value.Elem" 0) ReflectliteValue.elem #[.agg #[.pointer (some ⟨9, 216, none⟩), .pointer (some a), .int .u64 150]]).run Tryz.prog W
   = .ok (.agg #[.pointer (some ⟨9, 215, none⟩), .pointer (some p), .int .u64 409]) W := by
 rw [rlm]
 simp only [Sem.run_bind, partsP, Result.andThen]
 simp [ReflectliteValue.elem, loadVar, isAgg, underlying, Tryz.underlying216, ha, Result.andThen, elemOfP, mkN]
theorem rls (v x : Value) : ReflectliteValue.set #[v, x] = (do
  let (some (dst, a, fl), some (src, b, _)) := (← ReflectliteValue.parts v, ← ReflectliteValue.parts x)
   | unsupported (.noEntry "extern/(internal/reflectlite.Value).Set.zeroValue")
  if fl / ReflectliteValue.flagAddr % 2 == 0 then unsupported (.noEntry "extern/(internal/reflectlite.Value).Set.unaddressable")
  let val ← loadVar src b
  if ← Rtype.directlyAssignable dst src then storeVar dst a val
  else if ← Rtype.implements dst src then
   if (← Rtype.kind src) == 20 then
    match val with
    | .nilIface => unsupported (.noEntry "extern/reflectlite: a nil value of one interface type handed on as a value of another")
    | _ => storeVar dst a val
   else storeVar dst a (.iface src val)
  else panicString ("reflectlite.Set: value of type " ++ (← Rtype.spelt src) ++ " is not assignable to type " ++ (← Rtype.spelt dst))
  pure (.tuple #[])) := rfl
theorem partsNa (a : Addr) (w : World) : (ReflectliteValue.parts (.agg #[.pointer (some ⟨9, 215, none⟩), .pointer (some a), .int .u64 409])).run Tryz.prog w = .ok (some (215, a, 409)) w := by kernel_rfl
theorem partsN (a : Addr) (w : World) : (ReflectliteValue.parts (.agg #[.pointer (some ⟨9, 215, none⟩), .pointer (some a), .int .u64 153])).run Tryz.prog w = .ok (some (215, a, 153)) w := by kernel_rfl
theorem directN (w : World) : (Rtype.directlyAssignable 215 215).run Tryz.prog w = .ok true w := by kernel_rfl
theorem loadN (b : Nat) (n : Int) (W : World) (hb : W.cell? ⟨b, 0, none⟩ = some (.int .i64 n)) : (loadVar 215 ⟨b, 0, none⟩).run Tryz.prog W = .ok (.agg #[.int .i64 n]) W := by
 have z := Tryz.sizeOf215
 have a := Tryz.isAgg215
 simp [loadVar, a, z, Result.andThen, hb, go_sem]
theorem setN (ta tb : Nat) (n old : Int) (W : World) (hb : W.cell? ⟨tb, 0, none⟩ = some (.int .i64 n)) (ht : W.cell? ⟨ta, 0, none⟩ = some (.int .i64 old)) (hf : W.frozen? ⟨ta, 0, none⟩ = false) :
  (ReflectliteValue.set #[.agg #[.pointer (some ⟨9, 215, none⟩), .pointer (some ⟨ta, 0, none⟩), .int .u64 409], .agg #[.pointer (some ⟨9, 215, none⟩), .pointer (some ⟨tb, 0, none⟩), .int .u64 153]]).run Tryz.prog W
   = .ok (.tuple #[]) (W.setCell ⟨ta, 0, none⟩ (.int .i64 n)) := by
 rw [rls]
 have z := Tryz.sizeOf215
 simp only [Sem.run_bind, partsNa, partsN, Result.andThen]
 simp [ReflectliteValue.flagAddr, loadN tb n W hb, Result.andThen, directN, storeVar, z, Value.cells, storeCells, Addr.add]
 rw [run_store Tryz.prog W ⟨ta, 0, none⟩ _ _ (by rfl)]
 simp [ht, hf]
theorem noAsE (v : Value) (xT : TypeId) (w : World) : (Instr.typeAssert (.iface 281 v) xT 227 true).run Tryz.prog w = .ok (.tuple #[.nilIface, .bool false]) w := run_typeAssert_lacksB Tryz.underlying227 (by kernel_rfl) (by kernel_rfl) v xT w
theorem noUnwrapE (v : Value) (xT : TypeId) (w : World) : (Instr.typeAssert (.iface 281 v) xT 230 true).run Tryz.prog w = .ok (.tuple #[.nilIface, .bool false]) w := run_typeAssert_lacksB Tryz.underlying230 (by kernel_rfl) (by kernel_rfl) v xT w
theorem noUnwrapsE (v : Value) (xT : TypeId) (w : World) : (Instr.typeAssert (.iface 281 v) xT 232 true).run Tryz.prog w = .ok (.tuple #[.nilIface, .bool false]) w := run_typeAssert_lacksB Tryz.underlying232 (by kernel_rfl) (by kernel_rfl) v xT w

theorem x_h6 (args : Array Value) (w : World) : (callFunc 199 args).run Tryz.prog w = (((fun args => ReflectliteValue.unpack (args.getD 0 (.tuple #[]))) args).run Tryz.prog w).andThen fun v w' => .ok (.value v) w' := run_callFunc_extern (e := (fun args => ReflectliteValue.unpack (args.getD 0 (.tuple #[])))) Tryz.func199 (by kernel_rfl) (by kernel_rfl) (by kernel_rfl) (by kernel_rfl) args w
theorem x_h7 (args : Array Value) (w : World) : (callFunc 200 args).run Tryz.prog w = (((ReflectliteValue.methodAny (ReflectliteValue.valueError "reflectlite.Value.Type" 0) (fun t _ _ _ => ReflectliteType.toType t)) args).run Tryz.prog w).andThen fun v w' => .ok (.value v) w' := run_callFunc_extern (e := (ReflectliteValue.methodAny (ReflectliteValue.valueError "reflectlite.Value.Type" 0) (fun t _ _ _ => ReflectliteType.toType t))) Tryz.func200 (by kernel_rfl) (by kernel_rfl) (by kernel_rfl) (by kernel_rfl) args w
theorem x_h8 (args : Array Value) (w : World) : (callFunc 201 args).run Tryz.prog w = (((ReflectliteValue.method (ReflectliteValue.valueError "reflectlite.Value.IsNil" 0) ReflectliteValue.isNil) args).run Tryz.prog w).andThen fun v w' => .ok (.value v) w' := run_callFunc_extern (e := (ReflectliteValue.method (ReflectliteValue.valueError "reflectlite.Value.IsNil" 0) ReflectliteValue.isNil)) Tryz.func201 (by kernel_rfl) (by kernel_rfl) (by kernel_rfl) (by kernel_rfl) args w
theorem x_h27 (args : Array Value) (w : World) : (callFunc 274 args).run Tryz.prog w = (((ReflectliteType.abiMethod fun t => do pure (.int .u8 (← Rtype.kind t))) args).run Tryz.prog w).andThen fun v w' => .ok (.value v) w' := run_callFunc_extern (e := (ReflectliteType.abiMethod fun t => do pure (.int .u8 (← Rtype.kind t)))) Tryz.func274 (by kernel_rfl) (by kernel_rfl) (by kernel_rfl) (by kernel_rfl) args w
theorem x_h37 (args : Array Value) (w : World) : (callFunc 286 args).run Tryz.prog w = (((ReflectliteType.method ReflectliteType.elem) args).run Tryz.prog w).andThen fun v w' => .ok (.value v) w' := run_callFunc_extern (e := (ReflectliteType.method ReflectliteType.elem)) Tryz.func286 (by kernel_rfl) (by kernel_rfl) (by kernel_rfl) (by kernel_rfl) args w
theorem x_h38 (args : Array Value) (w : World) : (callFunc 287 args).run Tryz.prog w = (((ReflectliteType.relation "Implements" ReflectliteType.implements_) args).run Tryz.prog w).andThen fun v w' => .ok (.value v) w' := run_callFunc_extern (e := (ReflectliteType.relation "Implements" ReflectliteType.implements_)) Tryz.func287 (by kernel_rfl) (by kernel_rfl) (by kernel_rfl) (by kernel_rfl) args w
theorem x_h10 (args : Array Value) (w : World) : (callFunc 213 args).run Tryz.prog w = ((ReflectliteType.typeOf args).run Tryz.prog w).andThen fun v w' => .ok (.value v) w' := run_callFunc_extern (e := ReflectliteType.typeOf) Tryz.func213 (by kernel_rfl) (by kernel_rfl) (by kernel_rfl) (by kernel_rfl) args w
theorem x_h35 (args : Array Value) (w : World) : (callFunc 284 args).run Tryz.prog w = (((ReflectliteType.relation "AssignableTo" ReflectliteType.assignableTo) args).run Tryz.prog w).andThen fun v w' => .ok (.value v) w' := run_callFunc_extern (e := (ReflectliteType.relation "AssignableTo" ReflectliteType.assignableTo)) Tryz.func284 (by kernel_rfl) (by kernel_rfl) (by kernel_rfl) (by kernel_rfl) args w
theorem x_h11 (args : Array Value) (w : World) : (callFunc 214 args).run Tryz.prog w = (((ReflectliteValue.method (ReflectliteValue.valueError "reflectlite.Value.Elem" 0) ReflectliteValue.elem) args).run Tryz.prog w).andThen fun v w' => .ok (.value v) w' := run_callFunc_extern (e := (ReflectliteValue.method (ReflectliteValue.valueError "reflectlite.Value.Elem" 0) ReflectliteValue.elem)) Tryz.func214 (by kernel_rfl) (by kernel_rfl) (by kernel_rfl) (by kernel_rfl) args w
theorem x_h12 (args : Array Value) (w : World) : (callFunc 215 args).run Tryz.prog w = ((ReflectliteValue.set args).run Tryz.prog w).andThen fun v w' => .ok (.value v) w' := run_callFunc_extern (e := ReflectliteValue.set) Tryz.func215 (by kernel_rfl) (by kernel_rfl) (by kernel_rfl) (by kernel_rfl) args w
end Go.Proofs.YtjdboekanmfgpaaGreatDoor

namespace Go.Proofs.YtjdboekanmfgpaaGreatDoor
open Go.RowKit Go.Extern.Stop Go.Stop Go.Extern

set_option maxRecDepth 100000 in
set_option maxHeartbeats 4000000 in
theorem as_hit (n old : Int) (t : Nat) (w : World) (g0 : 3 < w.heap.size) (hg : w.cell? ⟨3, 0, none⟩ = some (.iface 222 (.agg #[.pointer (some ⟨9, 78, none⟩)]))) (ht0 : w.cell? ⟨t, 0, none⟩ = some (.int .i64 old)) (hf0 : w.frozen? ⟨t, 0, none⟩ = false) :
  Calls Tryz.prog 181 #[.iface 215 (.agg #[.int .i64 n]), .iface 216 (.pointer (some ⟨t, 0, none⟩))] w fun ev w' => ev = .returned (.bool true) ∧ ∃ o1 o2 o3 o4, w' = ((((w.alloc o1).alloc o2).alloc o3).alloc o4).setCell ⟨t, 0, none⟩ (.int .i64 n) := by
 have htl : t < w.heap.size := World.block_lt_of_cell? w ⟨t, 0, none⟩ ht0
 have h6 := x_h6
 have h7 := x_h7
 have h8 := x_h8
 have h27 := x_h27
 have h37 := x_h37
 have h38 := x_h38
 have h10 := x_h10
 have h35 := x_h35
 have h11 := x_h11
 have h12 := x_h12
 have tO := typeOfN
 have mA := methodAssignableTo
 have aN := assignableN
 have vN := valueOfN
 have f6 := valueOfP
 have f7 := typeP
 have mK := methodKind
 have mE := methodElem
 have mI := methodImplements
 have kP := kindP
 have kN := kindN
 have eP := elemP
 have iN := implementsN
 have hg2 : ((w.alloc (.cells #[.pointer (some ⟨t, 0, none⟩)] 216)).alloc (.cells #[.pointer (some ⟨9, 216, none⟩), .pointer (some ⟨w.heap.size, 0, none⟩), .int .u64 150] 203)).cell? ⟨3, 0, none⟩ = some (.iface 222 (.agg #[.pointer (some ⟨9, 78, none⟩)])) := by
  rw [World.cell?_alloc_lt _ _ ⟨3, 0, none⟩ (by simp <;> omega), World.cell?_alloc_lt _ _ ⟨3, 0, none⟩ g0]; exact hg
 have n8 := isNilP ⟨w.heap.size, 0, none⟩ ⟨t, 0, none⟩ ((w.alloc (.cells #[.pointer (some ⟨t, 0, none⟩)] 216)).alloc (.cells #[.pointer (some ⟨9, 216, none⟩), .pointer (some ⟨w.heap.size, 0, none⟩), .int .u64 150] 203)) (by simp)
 have el := elemVP ⟨w.heap.size, 0, none⟩ ⟨t, 0, none⟩ (((w.alloc (.cells #[.pointer (some ⟨t, 0, none⟩)] 216)).alloc (.cells #[.pointer (some ⟨9, 216, none⟩), .pointer (some ⟨w.heap.size, 0, none⟩), .int .u64 150] 203)).alloc (.cells #[.pointer (some ⟨9, 216, none⟩), .pointer (some ⟨w.heap.size, 0, none⟩), .int .u64 150] 203)) (by rw [World.cell?_alloc_lt _ _ ⟨w.heap.size, 0, none⟩ (by simp <;> omega)]; simp)
 have st := setN t (w.heap.size + 1 + 1 + 1) n old ((((w.alloc (.cells #[.pointer (some ⟨t, 0, none⟩)] 216)).alloc (.cells #[.pointer (some ⟨9, 216, none⟩), .pointer (some ⟨w.heap.size, 0, none⟩), .int .u64 150] 203)).alloc (.cells #[.pointer (some ⟨9, 216, none⟩), .pointer (some ⟨w.heap.size, 0, none⟩), .int .u64 150] 203)).alloc (.cells #[.int .i64 n] 215))
  (by rw [World.cell?_alloc_at _ _ _ _ (by simp)]; rfl)
  (by rw [World.cell?_alloc_lt _ _ ⟨t, 0, none⟩ (by simp <;> omega), World.cell?_alloc_lt _ _ ⟨t, 0, none⟩ (by simp <;> omega), World.cell?_alloc_lt _ _ ⟨t, 0, none⟩ (by simp <;> omega), World.cell?_alloc_lt _ _ ⟨t, 0, none⟩ htl]; exact ht0)
  (by rw [World.frozen?_alloc_old _ _ ⟨t, 0, none⟩ (by simp <;> omega), World.frozen?_alloc_old _ _ ⟨t, 0, none⟩ (by simp <;> omega), World.frozen?_alloc_old _ _ ⟨t, 0, none⟩ (by simp <;> omega), World.frozen?_alloc_old _ _ ⟨t, 0, none⟩ (Nat.ne_of_lt htl)]; exact hf0)
 go_enter Tryz.func181, Tryz.ntmps181
 go_wp2
 refine wp_loop_rounds 1 ?_
 rw [rounds_succ]
 go_wp2
 go_ret
 exact ⟨rfl, _, _, _, _, rfl⟩

set_option maxRecDepth 100000 in
set_option maxHeartbeats 4000000 in
theorem as_miss (e : Value) (old : Int) (t : Nat) (w : World) (g0 : 3 < w.heap.size) (hg : w.cell? ⟨3, 0, none⟩ = some (.iface 222 (.agg #[.pointer (some ⟨9, 78, none⟩)]))) (ht0 : w.cell? ⟨t, 0, none⟩ = some (.int .i64 old)) :
  Calls Tryz.prog 181 #[.iface 281 e, .iface 216 (.pointer (some ⟨t, 0, none⟩))] w fun ev w' => ev = .returned (.bool false) ∧ ∃ o1 o2 o3, w' = ((w.alloc o1).alloc o2).alloc o3 := by
 have htl : t < w.heap.size := World.block_lt_of_cell? w ⟨t, 0, none⟩ ht0
 have h6 := x_h6
 have h7 := x_h7
 have h8 := x_h8
 have h27 := x_h27
 have h37 := x_h37
 have h38 := x_h38
 have h10 := x_h10
 have h35 := x_h35
 have tO := typeOfE
 have mA := methodAssignableTo
 have aE := assignableE
 have f6 := valueOfP
 have f7 := typeP
 have mK := methodKind
 have mE := methodElem
 have mI := methodImplements
 have kP := kindP
 have kN := kindN
 have eP := elemP
 have iN := implementsN
 have nA := noAsE
 have nU := noUnwrapE
 have nV := noUnwrapsE
 have hg2 : ((w.alloc (.cells #[.pointer (some ⟨t, 0, none⟩)] 216)).alloc (.cells #[.pointer (some ⟨9, 216, none⟩), .pointer (some ⟨w.heap.size, 0, none⟩), .int .u64 150] 203)).cell? ⟨3, 0, none⟩ = some (.iface 222 (.agg #[.pointer (some ⟨9, 78, none⟩)])) := by
  rw [World.cell?_alloc_lt _ _ ⟨3, 0, none⟩ (by simp <;> omega), World.cell?_alloc_lt _ _ ⟨3, 0, none⟩ g0]; exact hg
 have n8 := isNilP ⟨w.heap.size, 0, none⟩ ⟨t, 0, none⟩ ((w.alloc (.cells #[.pointer (some ⟨t, 0, none⟩)] 216)).alloc (.cells #[.pointer (some ⟨9, 216, none⟩), .pointer (some ⟨w.heap.size, 0, none⟩), .int .u64 150] 203)) (by simp)
 go_enter Tryz.func181, Tryz.ntmps181
 go_wp2
 refine wp_loop_rounds 1 ?_
 rw [rounds_succ]
 go_wp2
 go_ret
 exact ⟨rfl, _, _, _, rfl⟩
end Go.Proofs.YtjdboekanmfgpaaGreatDoor

namespace Go.Proofs.YtjdboekanmfgpaaGreatDoor
open Go.RowKit Go.Extern.Stop Go.Stop Go.Extern

theorem isComparable (w : World) : ((Extern.ReflectliteType.method fun t => do Rtype.noPackHeld "Comparable" t; (fun a => Value.bool a.comparable) <$> typeInfo t) #[.agg #[.pointer (some ⟨9, 281, none⟩)]]).run Tryz.prog w = .ok (.bool true) w := by kernel_rfl
theorem isMethodComparable (v : Value) (w : World) : (Go.method 411 222 v "Comparable").run Tryz.prog w = .ok (285, v) w := by kernel_rfl
theorem isComp : (Tryz.prog.info? 281).map (·.comparable) = some true := by kernel_rfl
theorem isSize : (Tryz.prog.info? 299).map (·.size) = some 1 := by kernel_rfl

set_option maxRecDepth 100000 in
set_option maxHeartbeats 1600000 in
theorem is_same (a : Addr) (w : World) :
  Calls Tryz.prog 206 #[.iface 281 (.pointer (some a)), .iface 281 (.pointer (some a))] w fun e w' => e = .returned (.bool true) ∧ w' = w := by
 obtain ⟨i, hi, hcmp⟩ := Option.map_eq_some_iff.1 isComp
 obtain ⟨j, hj, hjs⟩ := Option.map_eq_some_iff.1 isSize
 have h8 := x_h10
 have h32 := @run_callFunc_extern Tryz.prog 285 _ (Extern.ReflectliteType.method fun t => do Rtype.noPackHeld "Comparable" t; pure (.bool (← typeInfo t).comparable)) Tryz.func285 (by kernel_rfl) (by kernel_rfl) (by kernel_rfl) (by kernel_rfl)
 have tT := typeOfE
 have cT := isComparable
 have mR := isMethodComparable
 have heq := run_eql_iface_ptr_same (P := Tryz.prog) w a Tryz.underlying78 Tryz.underlying281 hi hcmp hj
 go_enter Tryz.func206, Tryz.ntmps206
 go_wp2
 refine wp_loop_rounds 1 ?_
 rw [rounds_succ]
 go_wp2
 go_ret
 exact ⟨rfl, rfl⟩
theorem is_nil (b : Addr) (w : World) :
  Calls Tryz.prog 206 #[.nilIface, .iface 281 (.pointer (some b))] w fun e w' => e = .returned (.bool false) ∧ w' = w := by
 have hn := run_eql_iface_nil_left (P := Tryz.prog) w 281 (.pointer (some b)) Tryz.underlying78
 go_enter Tryz.func206, Tryz.ntmps206
 go_wp2
 go_ret
 exact ⟨rfl, rfl⟩
end Go.Proofs.YtjdboekanmfgpaaGreatDoor
