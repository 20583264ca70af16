/-
  json.judged's deferred closure. Conditions: none.
-/
import Derived.Test.YtjakgdaodlgeaaaGreatDoorJoined31
import Derived.Defers
import Derived.Recover
namespace Go.Proofs.YtjakgdaodlgeaaaGreatDoor
open Go.RowKit Go.Maps
attribute [local go_sem] setCell_drewN alloc_drewN

theorem assert_verd (r n : Int) (w : World) : (Instr.typeAssert (.iface 34 (.agg #[.int .i64 r, .int .i64 n])) 20 34 false).run Tryz.prog w = .ok (.agg #[.int .i64 r, .int .i64 n]) w := by
 simp [Instr.typeAssert, run_underlying Tryz.underlying34, go_sem, Result.andThen]
theorem Bj.c2 {w : World} {b : Nat} {x0 x1 : Value} (h : Bj w b #[x0, x1]) : w.cell? ⟨b, 0, none⟩ = some x0 ∧ w.cell? ⟨b, 1, none⟩ = some x1 := ⟨h.cell 0, h.cell 1⟩
theorem Bj.z2 {w : World} {b : Nat} {cs : Array Value} (h : Bj w b cs) : w.frozen? ⟨b, 0, none⟩ = false ∧ w.frozen? ⟨b, 1, none⟩ = false := ⟨h.frz 0, h.frz 1⟩
theorem Bj.dw {w : World} {b : Nat} {cs : Array Value} (h : Bj w b cs) : Bj w.drew b cs := h.bel (vb_d (Below.refl _ _))
set_option maxRecDepth 100000 in
set_option maxHeartbeats 1600000 in
theorem catch_panicking (pb eb : Nat) (hpe : pb ≠ eb) (r n : Int) (older : List PanicEntry) (w : World) (x0 x1 x2 x3 x4 x5 x6 : Value) (hk : Bj w pb #[x0, x1, x2, x3, x4, x5, x6]) (y0 y1 : Value) (he : Bj w eb #[y0, y1]) :
  CallsD Tryz.prog 31 #[.pointer (some ⟨pb, 0, none⟩), .pointer (some ⟨eb, 0, none⟩)] (.panicking ({ v := .iface 34 (.agg #[.int .i64 r, .int .i64 n]), recovered := false } :: older)) w fun e u' w' =>
   e = .returned (.tuple #[]) ∧ u' = .panicking ({ v := .iface 34 (.agg #[.int .i64 r, .int .i64 n]), recovered := true } :: older) ∧ Bj w' pb zV7 ∧ Bj w' eb #[.int .i64 r, .int .i64 n] ∧ But (fun b => b = pb ∨ b = eb) w w' := by
 refine callsD_of_wpS Tryz.func31 rfl fun c₀ cs hu => ?_
 obtain ⟨c0, c1, c2, c3, c4, c5, c6⟩ := hk.c7
 obtain ⟨d0, d1⟩ := he.c2
 obtain ⟨z0, z1, z2, z3, z4, z5, z6⟩ := hk.z7
 obtain ⟨u0, u1⟩ := he.z2
 apply wpS_seq
 apply wpS_region
 simp [wpOpsS, go_sem, recoverD, hu, Tryz.ntmps31, Exit.thenS]
 apply wpS_seq
 apply wpS_region
 simp [wpOpsS, go_sem, Exit.thenS]
 refine wpS_cond (t := true) (by simp [Act.eval, Array.replicate]) ?_
 simp only [if_true]
 refine wpS_of_wp ?_
 have e : (#[Value.pointer (some ⟨pb, 0, none⟩), .pointer (some ⟨eb, 0, none⟩)] ++ ((((Array.replicate 7 undef).setIfInBounds 1 (.iface 34 (.agg #[.int .i64 r, .int .i64 n]))).setIfInBounds 0 (.iface 34 (.agg #[.int .i64 r, .int .i64 n]))).setIfInBounds 2 (.iface 34 (.agg #[.int .i64 r, .int .i64 n]))).setIfInBounds 3 (.bool true)) = #[Value.pointer (some ⟨pb, 0, none⟩), .pointer (some ⟨eb, 0, none⟩), .iface 34 (.agg #[.int .i64 r, .int .i64 n]), .iface 34 (.agg #[.int .i64 r, .int .i64 n]), .iface 34 (.agg #[.int .i64 r, .int .i64 n]), .bool true, undef, undef, undef] := rfl
 rw [e]
 clear e
 have hpe2 := hpe.symm
 have hta := fun w => assert_verd r n w
 go_region
 all_goals
  have k7 : Bj (set7 w pb (.int .i64 0) (.bool false) (.string ⟨#[]⟩) (.int .i64 0) (.string ⟨#[]⟩) (.slice none 0 0) (.slice none 0 0)) pb zV7 := ((((((hk.set 0 (.int .i64 0)).set 1 (.bool false)).set 2 (.string ⟨#[]⟩)).set 3 (.int .i64 0)).set 4 (.string ⟨#[]⟩)).set 5 (.slice none 0 0)).set 6 (.slice none 0 0)
  have hb7 : But (· = pb) w (set7 w pb (.int .i64 0) (.bool false) (.string ⟨#[]⟩) (.int .i64 0) (.string ⟨#[]⟩) (.slice none 0 0) (.slice none 0 0)) := set7_but (X := (· = pb)) (But.refl _ w) (Or.inl rfl) _ _ _ _ _ _ _
  have m7 : Bj (((set7 w pb (.int .i64 0) (.bool false) (.string ⟨#[]⟩) (.int .i64 0) (.string ⟨#[]⟩) (.slice none 0 0) (.slice none 0 0)).setCell ⟨eb, 0, none⟩ (.int .i64 r)).setCell ⟨eb, 1, none⟩ (.int .i64 n)).drew eb #[.int .i64 r, .int .i64 n] := (((he.but hb7 hpe2).set 0 (.int .i64 r)).set 1 (.int .i64 n)).dw
  have k9 : Bj (((set7 w pb (.int .i64 0) (.bool false) (.string ⟨#[]⟩) (.int .i64 0) (.string ⟨#[]⟩) (.slice none 0 0) (.slice none 0 0)).setCell ⟨eb, 0, none⟩ (.int .i64 r)).setCell ⟨eb, 1, none⟩ (.int .i64 n)).drew pb zV7 := ((k7.away (a := ⟨eb, 0, none⟩) (v := .int .i64 r) hpe).away (a := ⟨eb, 1, none⟩) (v := .int .i64 n) hpe).dw
  have hbt : But (fun b => b = pb ∨ b = eb) w (((set7 w pb (.int .i64 0) (.bool false) (.string ⟨#[]⟩) (.int .i64 0) (.string ⟨#[]⟩) (.slice none 0 0) (.slice none 0 0)).setCell ⟨eb, 0, none⟩ (.int .i64 r)).setCell ⟨eb, 1, none⟩ (.int .i64 n)).drew := ((((hb7.mono fun k e => Or.inl e : But (fun b => b = pb ∨ b = eb) w _)).set (p := ⟨eb, 0, none⟩) (Or.inl (Or.inr rfl)) (.int .i64 r)).set (p := ⟨eb, 1, none⟩) (Or.inl (Or.inr rfl)) (.int .i64 n)).drew
  clear c0 c1 c2 c3 c4 c5 c6 d0 d1 z0 z1 z2 z3 z4 z5 z6 u0 u1 hta hk he k7 hb7
  refine ⟨rfl, _, rfl, .tuple #[], ?_, rfl, rfl, k9, m7, hbt⟩
  simp [results, Tryz.results31, go_sem]
theorem catch_idle (pb eb : Nat) (w : World) :
  CallsD Tryz.prog 31 #[.pointer (some ⟨pb, 0, none⟩), .pointer (some ⟨eb, 0, none⟩)] .returning w fun e u' w' => e = .returned (.tuple #[]) ∧ u' = .returning ∧ w' = w := by
 refine callsD_of_wpS Tryz.func31 rfl fun c₀ cs hu => ?_
 apply wpS_seq
 apply wpS_region
 simp [wpOpsS, go_sem, recoverD, hu, Tryz.ntmps31, Exit.thenS]
 apply wpS_seq
 apply wpS_region
 simp [wpOpsS, go_sem, Exit.thenS]
 refine wpS_cond (t := false) (by simp [Act.eval, Array.replicate]) ?_
 simp only [Bool.false_eq_true, if_false]
 refine wpS_of_wp (wp_skip ?_)
 cases c₀
 simp_all [bodyPostS, results, Tryz.results31]
end Go.Proofs.YtjakgdaodlgeaaaGreatDoor
