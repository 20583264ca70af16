/-
  errors.As at a target of the package's own error type: what is found, and what is not. Conditions: the variable errors.errorType as the library lays it.
  errors.Is at the package's sentinel. No condition.
  What dec.Parse answers: the number that a text is, or which error. Conditions: the package's sentinel and the library's variable errors.errorType as the program lays them.
  What dec.Parse answers, for every text. Conditions: the package's sentinel and the library's variable errors.errorType as the program lays them.
  What bytes are read as by json's reader: token by token, what is opened in a row. No condition.
-/
import Derived.Test.YtjakgdaodlgeaaaGreatDoorJoined20
import Derived.Test.YtjakgdaodlgeaaaGreatDoorJoined17
namespace Go.Proofs.YtjakgdaodlgeaaaGreatDoor
open Go.RowKit Go.Extern.Stop Go.Stop Go.Extern

set_option maxRecDepth 100000 in
set_option maxHeartbeats 4000000 in
theorem as_hit (n old : Int) (t : Nat) (w : World) (g0 : 0 < w.heap.size) (hg : w.cell? ⟨0, 0, none⟩ = some (.iface 152 (.agg #[.pointer (some ⟨6, 69, none⟩)]))) (ht0 : w.cell? ⟨t, 0, none⟩ = some (.int .i64 old)) (hf0 : w.frozen? ⟨t, 0, none⟩ = false) :
  Calls Tryz.prog 49 #[.iface 195 (.agg #[.int .i64 n]), .iface 196 (.pointer (some ⟨t, 0, none⟩))] w fun ev w' => ev = .returned (.bool true) ∧ ∃ o1 o2 o3 o4, w' = ((((w.alloc o1).alloc o2).alloc o3).alloc o4).setCell ⟨t, 0, none⟩ (.int .i64 n) := by
 have htl : t < w.heap.size := World.block_lt_of_cell? w ⟨t, 0, none⟩ ht0
 have h6 := x_h6
 have h7 := x_h7
 have h8 := x_h8
 have h27 := x_h27
 have h37 := x_h37
 have h38 := x_h38
 have h10 := x_h10
 have h35 := x_h35
 have h11 := x_h11
 have h12 := x_h12
 have tO := typeOfN
 have mA := methodAssignableTo
 have aN := assignableN
 have vN := valueOfN
 have f6 := valueOfP
 have f7 := typeP
 have mK := methodKind
 have mE := methodElem
 have mI := methodImplements
 have kP := kindP
 have kN := kindN
 have eP := elemP
 have iN := implementsN
 have hg2 : ((w.alloc (.cells #[.pointer (some ⟨t, 0, none⟩)] 196)).alloc (.cells #[.pointer (some ⟨6, 196, none⟩), .pointer (some ⟨w.heap.size, 0, none⟩), .int .u64 150] 125)).cell? ⟨0, 0, none⟩ = some (.iface 152 (.agg #[.pointer (some ⟨6, 69, none⟩)])) := by
  rw [World.cell?_alloc_lt _ _ ⟨0, 0, none⟩ (by simp <;> omega), World.cell?_alloc_lt _ _ ⟨0, 0, none⟩ g0]; exact hg
 have n8 := isNilP ⟨w.heap.size, 0, none⟩ ⟨t, 0, none⟩ ((w.alloc (.cells #[.pointer (some ⟨t, 0, none⟩)] 196)).alloc (.cells #[.pointer (some ⟨6, 196, none⟩), .pointer (some ⟨w.heap.size, 0, none⟩), .int .u64 150] 125)) (by simp)
 have el := elemVP ⟨w.heap.size, 0, none⟩ ⟨t, 0, none⟩ (((w.alloc (.cells #[.pointer (some ⟨t, 0, none⟩)] 196)).alloc (.cells #[.pointer (some ⟨6, 196, none⟩), .pointer (some ⟨w.heap.size, 0, none⟩), .int .u64 150] 125)).alloc (.cells #[.pointer (some ⟨6, 196, none⟩), .pointer (some ⟨w.heap.size, 0, none⟩), .int .u64 150] 125)) (by rw [World.cell?_alloc_lt _ _ ⟨w.heap.size, 0, none⟩ (by simp <;> omega)]; simp)
 have st := setN t (w.heap.size + 1 + 1 + 1) n old ((((w.alloc (.cells #[.pointer (some ⟨t, 0, none⟩)] 196)).alloc (.cells #[.pointer (some ⟨6, 196, none⟩), .pointer (some ⟨w.heap.size, 0, none⟩), .int .u64 150] 125)).alloc (.cells #[.pointer (some ⟨6, 196, none⟩), .pointer (some ⟨w.heap.size, 0, none⟩), .int .u64 150] 125)).alloc (.cells #[.int .i64 n] 195))
  (by rw [World.cell?_alloc_at _ _ _ _ (by simp)]; rfl)
  (by rw [World.cell?_alloc_lt _ _ ⟨t, 0, none⟩ (by simp <;> omega), World.cell?_alloc_lt _ _ ⟨t, 0, none⟩ (by simp <;> omega), World.cell?_alloc_lt _ _ ⟨t, 0, none⟩ (by simp <;> omega), World.cell?_alloc_lt _ _ ⟨t, 0, none⟩ htl]; exact ht0)
  (by rw [World.frozen?_alloc_old _ _ ⟨t, 0, none⟩ (by simp <;> omega), World.frozen?_alloc_old _ _ ⟨t, 0, none⟩ (by simp <;> omega), World.frozen?_alloc_old _ _ ⟨t, 0, none⟩ (by simp <;> omega), World.frozen?_alloc_old _ _ ⟨t, 0, none⟩ (Nat.ne_of_lt htl)]; exact hf0)
 go_enter Tryz.func49, Tryz.ntmps49
 go_wp2
 refine wp_loop_rounds 1 ?_
 rw [rounds_succ]
 go_wp2
 go_ret
 exact ⟨rfl, _, _, _, _, rfl⟩
set_option maxRecDepth 100000 in
set_option maxHeartbeats 4000000 in
theorem as_miss (e : Value) (old : Int) (t : Nat) (w : World) (g0 : 0 < w.heap.size) (hg : w.cell? ⟨0, 0, none⟩ = some (.iface 152 (.agg #[.pointer (some ⟨6, 69, none⟩)]))) (ht0 : w.cell? ⟨t, 0, none⟩ = some (.int .i64 old)) :
  Calls Tryz.prog 49 #[.iface 235 e, .iface 196 (.pointer (some ⟨t, 0, none⟩))] w fun ev w' => ev = .returned (.bool false) ∧ ∃ o1 o2 o3, w' = ((w.alloc o1).alloc o2).alloc o3 := by
 have htl : t < w.heap.size := World.block_lt_of_cell? w ⟨t, 0, none⟩ ht0
 have h6 := x_h6
 have h7 := x_h7
 have h8 := x_h8
 have h27 := x_h27
 have h37 := x_h37
 have h38 := x_h38
 have h10 := x_h10
 have h35 := x_h35
 have tO := typeOfE
 have mA := methodAssignableTo
 have aE := assignableE
 have f6 := valueOfP
 have f7 := typeP
 have mK := methodKind
 have mE := methodElem
 have mI := methodImplements
 have kP := kindP
 have kN := kindN
 have eP := elemP
 have iN := implementsN
 have nA := noAsE
 have nU := noUnwrapE
 have nV := noUnwrapsE
 have hg2 : ((w.alloc (.cells #[.pointer (some ⟨t, 0, none⟩)] 196)).alloc (.cells #[.pointer (some ⟨6, 196, none⟩), .pointer (some ⟨w.heap.size, 0, none⟩), .int .u64 150] 125)).cell? ⟨0, 0, none⟩ = some (.iface 152 (.agg #[.pointer (some ⟨6, 69, none⟩)])) := by
  rw [World.cell?_alloc_lt _ _ ⟨0, 0, none⟩ (by simp <;> omega), World.cell?_alloc_lt _ _ ⟨0, 0, none⟩ g0]; exact hg
 have n8 := isNilP ⟨w.heap.size, 0, none⟩ ⟨t, 0, none⟩ ((w.alloc (.cells #[.pointer (some ⟨t, 0, none⟩)] 196)).alloc (.cells #[.pointer (some ⟨6, 196, none⟩), .pointer (some ⟨w.heap.size, 0, none⟩), .int .u64 150] 125)) (by simp)
 go_enter Tryz.func49, Tryz.ntmps49
 go_wp2
 refine wp_loop_rounds 1 ?_
 rw [rounds_succ]
 go_wp2
 go_ret
 exact ⟨rfl, _, _, _, rfl⟩
end Go.Proofs.YtjakgdaodlgeaaaGreatDoor

namespace Go.Proofs.YtjakgdaodlgeaaaGreatDoor
open Go.RowKit Go.Extern.Stop Go.Stop Go.Extern

theorem isComparable (w : World) : ((Extern.ReflectliteType.method fun t => do Rtype.noPackHeld "Comparable" t; (fun a => Value.bool a.comparable) <$> typeInfo t) #[.agg #[.pointer (some ⟨6, 235, none⟩)]]).run Tryz.prog w = .ok (.bool true) w := by kernel_rfl
theorem isMethodComparable (v : Value) (w : World) : (Go.method 366 152 v "Comparable").run Tryz.prog w = .ok (194, v) w := by kernel_rfl
theorem isComp : (Tryz.prog.info? 235).map (·.comparable) = some true := by kernel_rfl
theorem isSize : (Tryz.prog.info? 254).map (·.size) = some 1 := by kernel_rfl
set_option maxRecDepth 100000 in
set_option maxHeartbeats 1600000 in
theorem is_same (a : Addr) (w : World) :
  Calls Tryz.prog 136 #[.iface 235 (.pointer (some a)), .iface 235 (.pointer (some a))] w fun e w' => e = .returned (.bool true) ∧ w' = w := by
 obtain ⟨i, hi, hcmp⟩ := Option.map_eq_some_iff.1 isComp
 obtain ⟨j, hj, hjs⟩ := Option.map_eq_some_iff.1 isSize
 have h8 := x_h10
 have h32 := @run_callFunc_extern Tryz.prog 194 _ (Extern.ReflectliteType.method fun t => do Rtype.noPackHeld "Comparable" t; pure (.bool (← typeInfo t).comparable)) Tryz.func194 (by kernel_rfl) (by kernel_rfl) (by kernel_rfl) (by kernel_rfl)
 have tT := typeOfE
 have cT := isComparable
 have mR := isMethodComparable
 have heq := run_eql_iface_ptr_same (P := Tryz.prog) w a Tryz.underlying69 Tryz.underlying235 hi hcmp hj
 go_enter Tryz.func136, Tryz.ntmps136
 go_wp2
 refine wp_loop_rounds 1 ?_
 rw [rounds_succ]
 go_wp2
 go_ret
 exact ⟨rfl, rfl⟩
theorem is_nil (b : Addr) (w : World) :
  Calls Tryz.prog 136 #[.nilIface, .iface 235 (.pointer (some b))] w fun e w' => e = .returned (.bool false) ∧ w' = w := by
 have hn := run_eql_iface_nil_left (P := Tryz.prog) w 235 (.pointer (some b)) Tryz.underlying69
 go_enter Tryz.func136, Tryz.ntmps136
 go_wp2
 go_ret
 exact ⟨rfl, rfl⟩
end Go.Proofs.YtjakgdaodlgeaaaGreatDoor

namespace Go.Proofs.YtjakgdaodlgeaaaGreatDoor
open Go.RowKit
attribute [local go_sem] setCell_drewN alloc_drewN

structure Env (w : World) (a : Addr) : Prop where
 large : Gl w (.iface 235 (.pointer (some a)))
 elt : 0 < w.heap.size
 ety : w.cell? ⟨0, 0, none⟩ = some (.iface 152 (.agg #[.pointer (some ⟨6, 69, none⟩)]))
theorem Env.below {w w' : World} {a : Addr} (h : Env w a) (hb : Below w.heap.size w w') : Env w' a :=
 ⟨h.large.below hb, Nat.lt_of_lt_of_le h.elt hb.size, (hb.cell (p := ⟨0, 0, none⟩) h.elt).trans h.ety⟩
theorem Env.alloc {w : World} {a : Addr} (h : Env w a) (o : Obj) : Env (w.alloc o) a := h.below (bl_a (Below.refl _ _) o)
theorem bl_u {a W w2 : World} {B : Nat} (h : Below a.heap.size a W) (h2 : Below B W w2) (hB : a.heap.size ≤ B) : Below a.heap.size a w2 := h.trans (h2.mono hB)
theorem as_hit' (n old : Int) (t : Nat) (w : World) (g0 : 0 < w.heap.size) (hg : w.cell? ⟨0, 0, none⟩ = some (.iface 152 (.agg #[.pointer (some ⟨6, 69, none⟩)]))) (ht0 : w.cell? ⟨t, 0, none⟩ = some (.int .i64 old)) (hf0 : w.frozen? ⟨t, 0, none⟩ = false) :
  Calls Tryz.prog 49 #[.iface 195 (.agg #[.int .i64 n]), .iface 196 (.pointer (some ⟨t, 0, none⟩))] w fun ev w' => ev = .returned (.bool true) ∧ Below t w w' := by
 have hl : t < w.heap.size := World.block_lt_of_cell? w ⟨t, 0, none⟩ ht0
 refine (as_hit n old t w g0 hg ht0 hf0).mono ?_
 rintro e w' ⟨rfl, o1, o2, o3, o4, rfl⟩
 have h3 : Below w.heap.size w ((((w.alloc o1).alloc o2).alloc o3).alloc o4) := bl_a (bl_a (bl_a (bl_a (Below.refl _ _) _) _) _) _
 have h4 : Below t w ((((w.alloc o1).alloc o2).alloc o3).alloc o4) := h3.mono (by omega)
 exact ⟨rfl, h4.setCell (show t ≤ (⟨t, 0, none⟩ : Addr).block from Nat.le_refl _) _⟩
theorem as_miss' (e : Value) (old : Int) (t : Nat) (w : World) (g0 : 0 < w.heap.size) (hg : w.cell? ⟨0, 0, none⟩ = some (.iface 152 (.agg #[.pointer (some ⟨6, 69, none⟩)]))) (ht0 : w.cell? ⟨t, 0, none⟩ = some (.int .i64 old)) :
  Calls Tryz.prog 49 #[.iface 235 e, .iface 196 (.pointer (some ⟨t, 0, none⟩))] w fun ev w' => ev = .returned (.bool false) ∧ Below w.heap.size w w' := by
 refine (as_miss e old t w g0 hg ht0).mono ?_
 rintro e w' ⟨rfl, o1, o2, o3, rfl⟩
 exact ⟨rfl, bl_a (bl_a (bl_a (Below.refl _ _) _) _) _⟩
set_option maxRecDepth 100000 in
set_option maxHeartbeats 1600000 in
theorem parse_none (l : List UInt8) (a : Addr) (w : World) (hE : Env w a)
  (h1 : ∀ w, Calls Tryz.prog 135 #[.string (bs l)] w fun e w' => (∃ n, e = .returned (.tuple #[zv, .iface 195 (.agg #[.int .i64 n])])) ∧ Below w.heap.size w w') :
  Calls Tryz.prog 132 #[.string (bs l)] w fun e w' => e = .returned (.tuple #[zv, .int .i64 30]) ∧ Below w.heap.size w w' := by
 unfold zv at h1 ⊢
 go_enter Tryz.func132, Tryz.ntmps132
 go_wp2_with (go_at_call 135; refine (h1 _).mono ?_; rintro e w' ⟨⟨n, rfl⟩, hb⟩; obtain ⟨hc, hf⟩ := bcell hb; have hz : w.heap.size < w'.heap.size := by have := hb.size; simp at this; omega)
 have hE2 := (((hE.alloc _).below hb).alloc (.cells #[.bool false, .string ⟨#[]⟩, .int .i64 0] 27)).alloc (.cells #[.int .i64 0] 195)
 refine (as_hit' n 0 _ _ hE2.elt hE2.ety ?_ ?_).mono ?_
 ·simp [go_sem]
 ·simp [go_sem]
 ·rintro e w2 ⟨rfl, hb2⟩
  have hk : ∀ o, w2.cell? ⟨w.heap.size, o, none⟩ = (w.alloc (.cells #[.bool false, .string ⟨#[]⟩, .int .i64 0] 27)).cell? ⟨w.heap.size, o, none⟩ := fun o => by
   rw [hb2.cell (p := ⟨w.heap.size, o, none⟩) (by show w.heap.size < _; omega), World.cell?_alloc_lt _ _ ⟨w.heap.size, o, none⟩ (by simp only [World.size_alloc]; omega), World.cell?_alloc_lt _ _ ⟨w.heap.size, o, none⟩ hz, hc w.heap.size o (by simp)]
  have hkf : ∀ o, w2.frozen? ⟨w.heap.size, o, none⟩ = false := fun o => by
   rw [hb2.frozen (p := ⟨w.heap.size, o, none⟩) (by show w.heap.size < _; omega), World.frozen?_alloc_old _ _ ⟨w.heap.size, o, none⟩ (by simp only [World.size_alloc]; omega), World.frozen?_alloc_old _ _ ⟨w.heap.size, o, none⟩ (by show w.heap.size ≠ _; omega), hf w.heap.size o (by simp)]
   simp
  clear hE2 hE hf
  go_wp2
  refine bodyPost_ret (v := .tuple #[.agg #[.bool false, .string ⟨#[]⟩, .int .i64 0], .int .i64 30]) ?_ rfl ?_
  all_goals first | (exact ⟨rfl, (by with_reducible repeat (first | exact Below.refl _ _ | refine bl_u ?_ hb2 (by omega) | refine bl_t ?_ hb | refine bl_d ?_ | refine bl_n ?_ _ | refine bl_a ?_ _ | refine bl_s ?_ (by omega) _))⟩) | (simp [results, Tryz.results132, go_sem, hk])
set_option maxRecDepth 100000 in
set_option maxHeartbeats 1600000 in
theorem parse_large (l : List UInt8) (a : Addr) (w : World) (hE : Env w a)
  (h1 : ∀ w, Env w a → Calls Tryz.prog 135 #[.string (bs l)] w fun e w' => e = .returned (.tuple #[zv, .iface 235 (.pointer (some a))]) ∧ Below w.heap.size w w') :
  Calls Tryz.prog 132 #[.string (bs l)] w fun e w' => e = .returned (.tuple #[zv, .int .i64 31]) ∧ Below w.heap.size w w' := by
 unfold zv at h1 ⊢
 go_enter Tryz.func132, Tryz.ntmps132
 go_wp2_with (go_at_call 135; refine (h1 _ (hE.alloc _)).mono ?_; rintro e w' ⟨rfl, hb⟩; obtain ⟨hc, hf⟩ := bcell hb; have hz : w.heap.size < w'.heap.size := by have := hb.size; simp at this; omega)
 have hE2 := (((hE.alloc _).below hb).alloc (.cells #[.bool false, .string ⟨#[]⟩, .int .i64 0] 27)).alloc (.cells #[.int .i64 0] 195)
 refine (as_miss' _ 0 _ _ hE2.elt hE2.ety ?_).mono ?_
 ·simp [go_sem]
 ·rintro e w2 ⟨rfl, hb2⟩
  have hl := (hE2.below hb2).large.2
  have hk : ∀ o, w2.cell? ⟨w.heap.size, o, none⟩ = (w.alloc (.cells #[.bool false, .string ⟨#[]⟩, .int .i64 0] 27)).cell? ⟨w.heap.size, o, none⟩ := fun o => by
   rw [hb2.cell (p := ⟨w.heap.size, o, none⟩) (by simp only [World.size_alloc]; omega), World.cell?_alloc_lt _ _ ⟨w.heap.size, o, none⟩ (by simp only [World.size_alloc]; omega), World.cell?_alloc_lt _ _ ⟨w.heap.size, o, none⟩ hz, hc w.heap.size o (by simp)]
  have hkf : ∀ o, w2.frozen? ⟨w.heap.size, o, none⟩ = false := fun o => by
   rw [hb2.frozen (p := ⟨w.heap.size, o, none⟩) (by simp only [World.size_alloc]; omega), World.frozen?_alloc_old _ _ ⟨w.heap.size, o, none⟩ (by simp only [World.size_alloc]; omega), World.frozen?_alloc_old _ _ ⟨w.heap.size, o, none⟩ (by show w.heap.size ≠ _; omega), hf w.heap.size o (by simp)]
   simp
  clear hE2 hE hf
  go_wp2_with (go_at_call 136; refine (is_same _ _).mono ?_; rintro e w3 ⟨rfl, rfl⟩)
  refine bodyPost_ret (v := .tuple #[.agg #[.bool false, .string ⟨#[]⟩, .int .i64 0], .int .i64 31]) ?_ rfl ?_
  all_goals first | (exact ⟨rfl, (by with_reducible repeat (first | exact Below.refl _ _ | refine bl_t ?_ hb2 | refine bl_t ?_ hb | refine bl_d ?_ | refine bl_n ?_ _ | refine bl_a ?_ _ | refine bl_s ?_ (by omega) _))⟩) | (simp [results, Tryz.results132, go_sem, hk])
set_option maxRecDepth 100000 in
set_option maxHeartbeats 1600000 in
theorem parse_ok (l : List UInt8) (d : D3) (a : Addr) (w : World) (hE : Env w a)
  (h1 : ∀ w, Env w a → Calls Tryz.prog 135 #[.string (bs l)] w fun e w' => e = .returned (.tuple #[d3 d, .nilIface]) ∧ Below w.heap.size w w') :
  Calls Tryz.prog 132 #[.string (bs l)] w fun e w' => e = .returned (.tuple #[d3 d, .int .i64 0]) ∧ Below w.heap.size w w' := by
 unfold d3 at h1 ⊢
 go_enter Tryz.func132, Tryz.ntmps132
 go_wp2_with (go_at_call 135; refine (h1 _ (hE.alloc _)).mono ?_; rintro e w' ⟨rfl, hb⟩; obtain ⟨hc, hf⟩ := bcell hb; have hz : w.heap.size < w'.heap.size := by have := hb.size; simp at this; omega)
 have hE2 := (((hE.alloc _).below hb).alloc (.cells #[.bool d.neg, .string (bs d.dg), .int .i64 d.ex] 27)).alloc (.cells #[.int .i64 0] 195)
 have hl := hE2.large.2
 clear hE2 hE
 refine (as_nil _ _).mono ?_
 rintro e w2 ⟨rfl, rfl⟩
 go_wp2_with (go_at_call 136; refine (is_nil _ _).mono ?_; rintro e w3 ⟨rfl, rfl⟩)
 refine bodyPost_ret (v := .tuple #[.agg #[.bool d.neg, .string (bs d.dg), .int .i64 d.ex], .int .i64 0]) ?_ rfl ?_
 all_goals first | (exact ⟨rfl, (by with_reducible repeat (first | exact Below.refl _ _ | refine bl_t ?_ hb | refine bl_d ?_ | refine bl_n ?_ _ | refine bl_a ?_ _ | refine bl_s ?_ (by omega) _))⟩) | (simp [results, Tryz.results132, go_sem, hz, hc])
end Go.Proofs.YtjakgdaodlgeaaaGreatDoor

namespace Go.Proofs.YtjakgdaodlgeaaaGreatDoor
open Go.RowKit

theorem len_twdw (l : List UInt8) : (tw l).length + (dw l).length = l.length := by
 have := congrArg List.length (List.takeWhile_append_dropWhile (p := isD) (l := l))
 rw [List.length_append] at this
 exact this
theorem fracL_len {l f r : List UInt8} (h : fracL l = some (f, r)) : f.length + r.length ≤ l.length := by
 unfold fracL at h
 split at h
 ·split at h
  ·cases h
  ·simp only [Option.some.injEq, Prod.mk.injEq] at h
   have := len_twdw l.tail
   rw [← h.1, ← h.2]; simp at this ⊢; omega
 ·simp only [Option.some.injEq, Prod.mk.injEq] at h
  rw [← h.1, ← h.2]; simp
theorem expL_len {l x r : List UInt8} {m : Bool} (h : expL l = some (m, x, r)) : x.length + r.length ≤ l.length := by
 unfold expL at h
 split at h
 ·split at h
  ·cases h
  ·simp only [Option.some.injEq, Prod.mk.injEq] at h
   have := len_twdw (signL l.tail)
   have := len_sign l.tail
   rw [← h.2.1, ← h.2.2]; simp at this; omega
 ·simp only [Option.some.injEq, Prod.mk.injEq] at h
  rw [← h.2.1, ← h.2.2]; simp
theorem behindL_len {neg : Bool} {w l r : List UInt8} {p : P3} (h : behindL neg w l = some (p, r)) : p.int = w ∧ p.frac.length + p.exp.length ≤ l.length := by
 unfold behindL at h
 split at h
 ·cases h
 ·rename_i f l3 hf
  split at h
  ·cases h
  ·rename_i m x r' hx
   simp only [Option.some.injEq, Prod.mk.injEq] at h
   rw [← h.1]
   have := fracL_len hf
   have := expL_len hx
   exact ⟨rfl, by simp only; omega⟩
theorem splitL_facts {l r : List UInt8} {p : P3} (h : splitL l = some (p, r)) : PD p ∧ p.int.length + p.frac.length + p.exp.length ≤ l.length := by
 have hm := len_minus l
 unfold splitL at h
 split at h
 ·rename_i h48
  have hb := behindL_len h
  refine ⟨behindL_pd (by decide) h, ?_⟩
  rw [hb.1]
  have : (minusL l).length = 1 + (minusL l).tail.length := by
   cases hq : minusL l with
   | nil => rw [hq] at h48; simp at h48
   | cons c t => simp; omega
  have := hb.2
  simp at *
  omega
 ·split at h
  ·cases h
  ·have hb := behindL_len h
   refine ⟨behindL_pd (tw_all _) h, ?_⟩
   rw [hb.1]
   have := len_twdw (minusL l)
   have := hb.2
   omega
theorem parse_list (l : List UInt8) (a : Addr) (w : World) (hE : Env w a) (hs : l.length ≤ maxLen) :
  Calls Tryz.prog 132 #[.string (bs l)] w fun e w' => e = .returned (.tuple #[d3 (parseL l).2, .int .i64 (parseL l).1]) ∧ Below w.heap.size w w' := by
 unfold parseL
 rw [← split_cut]
 cases h : splitL l with
 | none => exact parse_none l a w hE (fun w => read_no l w hs h)
 | some x =>
  obtain ⟨P, r⟩ := x
  cases r with
  | cons c r => exact parse_none l a w hE (fun w => read_left l P c r w hs h)
  | nil =>
   obtain ⟨f1, f2⟩ := splitL_facts h
   have hr := fun w (hE : Env w a) => read_parts l P _ w hE.large hs h f1 (by omega) (by omega)
   have e : wholeL (some (P, [])) = some P := by simp [wholeL]
   rw [e]
   simp only
   cases hv : valueL 1131072 P with
   | none =>
    simp only [hv, Option.getD_none, Option.isSome_none, Bool.false_eq_true, if_false] at hr
    exact parse_large l a w hE hr
   | some d =>
    simp only [hv, Option.getD_some, Option.isSome_some, if_true] at hr
    exact parse_ok l d a w hE hr
theorem parse_any (s : ByteArray) (a : Addr) (w : World) (hE : Env w a) (hs : s.size ≤ maxLen) :
  Calls Tryz.prog 132 #[.string s] w fun e w' => e = .returned (.tuple #[d3 (parseL s.data.toList).2, .int .i64 (parseL s.data.toList).1]) ∧ Below w.heap.size w w' :=
 parse_list s.data.toList a w hE (by rw [len_of]; exact hs)
end Go.Proofs.YtjakgdaodlgeaaaGreatDoor

namespace Go.Proofs.YtjakgdaodlgeaaaGreatDoor
open Go.RowKit

def inK (s : ByteArray) (ks : List ByteArray) : Bool := ks.any fun x => decide (x = s)
abbrev HS := Int × List JV × List ByteArray
structure SS where
  i : Nat
  hs : List HS
  dp : Nat
  ps : Nat
abbrev txtB (t : Lx.Tok) : ByteArray := ⟨t.text.toArray⟩
def sgnB (t : Lx.Tok) (s : ByteArray) : Bool := isL t.kind (txtB t) t.fr t.to 4 s
def fov : ByteArray := ⟨#[34, 91, 123, 45, 48, 49, 50, 51, 52, 53, 54, 55, 56, 57, 110, 116, 102]⟩
def fovC : ByteArray := ⟨#[34, 91, 123, 45, 48, 49, 50, 51, 52, 53, 54, 55, 56, 57, 110, 116, 102, 93]⟩
def fos : ByteArray := ⟨#[34]⟩
def fosC : ByteArray := ⟨#[34, 125]⟩
def sgO : ByteArray := ⟨#[123]⟩
def sgA : ByteArray := ⟨#[91]⟩
def sgE : ByteArray := ⟨#[93]⟩
def sgF : ByteArray := ⟨#[125]⟩
def sgK : ByteArray := ⟨#[44]⟩
def sgD : ByteArray := ⟨#[58]⟩
def zeroJ (k : Int) : JV := .mk k false ⟨#[]⟩ 0 ⟨#[]⟩ [] []
def numJ (d : D3) : JV := .mk 3 d.neg (bs d.dg) d.ex ⟨#[]⟩ [] []
structure LM where
  dep : Int
  dig : Int
  exp : Int
def limL (m : LM) (s : List UInt8) : D3 × Nat :=
  if m.dig < (daL s : Int) then (zeroD, 3)
  else if (parseL s).1 ≠ 0 ∨ (parseL s).2.ex < -m.exp ∨ m.exp < (parseL s).2.ex then (zeroD, 4) else ((parseL s).2, 0)
def simpleS (m : LM) (t : Lx.Tok) (p : Nat) : JV × Nat :=
  if t.kind = 1 then (.mk 4 false ⟨#[]⟩ 0 (txtB t) [] [], p)
  else if t.kind = 2 then (if p ≠ 0 then (numJ zeroD, p) else (numJ (limL m t.text).1, (limL m t.text).2))
  else (zeroJ (wordL t.kind (txtB t) t.fr t.to), p)
def takeS (fs : ByteArray) (l : List UInt8) (i : Nat) : Except Nat Lx.Tok := takeL fs l (Lx.pass l Lx.blankB i)
def openS (k : Int) (s : SS) : SS := { s with hs := s.hs ++ [(k, [], [])], dp := max s.dp (s.hs.length + 1) }
def lastS (s : SS) : HS := s.hs.getLastD (0, [], [])
def closeS (s : SS) : JV × SS := (.mk (lastS s).1 false ⟨#[]⟩ 0 ⟨#[]⟩ (lastS s).2.1 (lastS s).2.2, { s with hs := s.hs.dropLast })
def addV (v : JV) (s : SS) : SS := { s with hs := s.hs.dropLast ++ [((lastS s).1, (lastS s).2.1 ++ [v], (lastS s).2.2)] }
def addK (k : ByteArray) (s : SS) : SS := { s with hs := s.hs.dropLast ++ [((lastS s).1, (lastS s).2.1, (lastS s).2.2 ++ [k])] }
def valueOfS (l : List UInt8) (t : Lx.Tok) (s : SS) : Except Nat (Lx.Tok × SS) :=
  if inK (txtB t) (lastS s).2.2 = true then .error t.to else
  match takeS sgD l s.i with
  | .error e => .error e
  | .ok t1 => match takeS fov l t1.to with
    | .error e => .error e
    | .ok t2 => .ok (t2, { addK (txtB t) s with i := t2.to })
def firstS (l : List UInt8) (m : LM) : Nat → Lx.Tok → SS → Except Nat (JV × SS)
  | 0, _, _ => .error 0
  | n + 1, t, s =>
    if sgnB t sgA = true then
      match takeS fovC l s.i with
      | .error e => .error e
      | .ok t1 => firstS l m n t1 { openS 5 s with i := t1.to }
    else if sgnB t sgO = true then
      match takeS fosC l s.i with
      | .error e => .error e
      | .ok t1 => if sgnB t1 sgF = true then firstS l m n t1 { openS 6 s with i := t1.to } else
        match valueOfS l t1 { openS 6 s with i := t1.to } with
        | .error e => .error e
        | .ok (t2, s2) => firstS l m n t2 s2
    else if sgnB t sgE = true ∨ sgnB t sgF = true then .ok (closeS s)
    else .ok ((simpleS m t s.ps).1, { s with ps := (simpleS m t s.ps).2 })
def nextOfS (l : List UInt8) (s : SS) : Except Nat (Lx.Tok × SS) :=
  if (lastS s).1 = 6 then
    match takeS fos l s.i with
    | .error e => .error e
    | .ok t => valueOfS l t { s with i := t.to }
  else
    match takeS fov l s.i with
    | .error e => .error e
    | .ok t => .ok (t, { s with i := t.to })
def closing (s : SS) : ByteArray := if (lastS s).1 = 6 then ⟨#[44, 125]⟩ else ⟨#[44, 93]⟩
def loopS (l : List UInt8) (m : LM) : Nat → JV → SS → Except Nat (JV × SS)
  | 0, _, _ => .error 0
  | n + 1, v, s =>
    if s.hs = [] then .ok (v, s) else
    match takeS (closing s) l s.i with
    | .error e => .error e
    | .ok t => if sgnB t sgK = true then
        match nextOfS l { addV v s with i := t.to } with
        | .error e => .error e
        | .ok (t1, s1) => match firstS l m (l.length + 1) t1 s1 with
          | .error e => .error e
          | .ok (v1, s2) => loopS l m n v1 s2
      else loopS l m n (closeS { addV v s with i := t.to }).1 (closeS { addV v s with i := t.to }).2
def textS (l : List UInt8) (m : LM) : Except Nat (JV × SS) :=
  match takeS fov l 0 with
  | .error e => .error e
  | .ok t => match firstS l m (l.length + 1) t ⟨t.to, [], 0, 0⟩ with
    | .error e => .error e
    | .ok (v, s) => match loopS l m (l.length + 1) v s with
      | .error e => .error e
      | .ok (v, s) => if Lx.pass l Lx.blankB s.i < l.length then .error (Lx.pass l Lx.blankB s.i + 1) else .ok (v, s)
def judgedS (l : List UInt8) (m : LM) : Except (Int × Int) JV :=
  if 1048576 < l.length then .error (4, 1) else
  match textS l m with
  | .error e => .error (3, e)
  | .ok (v, s) => if m.dep < (s.dp : Int) then .error (4, 2) else if s.ps ≠ 0 then .error (4, s.ps) else .ok v
end Go.Proofs.YtjakgdaodlgeaaaGreatDoor
