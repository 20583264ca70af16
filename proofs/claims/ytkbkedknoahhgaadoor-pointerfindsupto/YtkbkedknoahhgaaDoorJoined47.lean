/-
  pointer.All at a value that may be. Conditions: nothing in it is longer than 2^20, at most 2^20 values, at most 1000 deep.
-/
import Derived.Test.YtkbkedknoahhgaaDoorJoined42
import Derived.Test.YtkbkedknoahhgaaDoorJoined32
namespace Go.Proofs.YtkbkedknoahhgaaDoor
open Go.RowKit
attribute [local go_sem] setCell_drewN alloc_drewN

set_option maxRecDepth 100000 in
set_option maxHeartbeats 3200000 in
theorem allP_any (v : JV) (f : Nat → Value) (w : World) (hsh : ShV v) (hbd : Bd7 1048576 v) (hc : cntV v ≤ 1048576) (hd : dpN v ≤ 1000) (hv : VI w (fun _ => False) v f) (hT : Lib.TabIs Tryd.prog w "internal/strconv.uint64pow10" .u64 Lib.pow10Tab) :
    Calls Tryd.prog 12 #[.agg #[f 0, f 1, f 2, f 3, f 4, f 5, f 6]] w fun r w' => ∃ v', r = .returned v' ∧ SRow w' v' (allJ v []) ∧ Below w.heap.size w w' := by
  obtain ⟨c, hcc⟩ : ∃ c, cntV v = c := ⟨_, rfl⟩
  have hsz : ∀ w', Below w.heap.size w w' → Calls Tryd.prog 24 #[va f] w' fun r w2 => r = .returned (.int .i64 (c : Int)) ∧ Below w'.heap.size w' w2 := fun w' hb => by
    have := size_any v f w' (hv.kept hb)
    rw [size_cnt v (by omega), hcc] at this
    exact this
  have hin : ∀ w', Below w.heap.size w w' → Calls Tryd.prog 23 #[.slice (some ⟨w'.heap.size, 0, none⟩) 0 c, .string ⟨#[]⟩, va f] (w'.alloc (.cells (madeCells #[.string ⟨#[]⟩] c) 9)) fun r w2 => ∃ v', r = .returned v' ∧ SRow w2 v' (allJ v []) ∧ Below w'.heap.size w' w2 := fun w' hb => by
    have hg : Tryd.prog.globalNamed "internal/strconv.uint64pow10" = some 2 := by kernel_rfl
    have hlt : 2 < w.heap.size := World.block_lt_of_cell? w _ (hT.cell hg 0 (by decide))
    have hb' : Below w.heap.size w (w'.alloc (.cells (madeCells #[.string ⟨#[]⟩] c) 9)) := bl_a hb _
    refine (inner_any v hsh hbd f (w'.alloc (.cells (madeCells #[.string ⟨#[]⟩] c) 9)) w'.heap.size (.slice (some ⟨w'.heap.size, 0, none⟩) 0 c) [] [] (hv.carry fun b _ hl => ⟨hb'.block b hl, by have := hb.size; omega⟩) (make_ownS w' c (by unfold maxLen; omega)) (by simp) (tab_below hT hb') (Nat.lt_of_lt_of_le hlt hb.size) (by simp; omega) (by simp; omega)).mono ?_
    rintro r w2 ⟨v', rfl, ho, hs⟩
    exact ⟨v', rfl, SRow.of_own ho, (bl_a (Below.refl _ _) _).trans hs.bel⟩
  have hmk : ∀ w', (Instr.makeSlice 26 (.int .i64 0) (.int .i64 (c : Int))).run Tryd.prog w' = .ok (.slice (some ⟨w'.heap.size, 0, none⟩) 0 c) (w'.alloc (.cells (madeCells #[.string ⟨#[]⟩] c) 9)) := fun w' => make_strs w' c (by omega)
  obtain ⟨k, n, g, e, t, la, lm, lc, ka, km, kc, f0, f1, f2, f3, f4, f5, f6⟩ := hv.shape
  have hva : va f = .agg #[.int .i64 k, .bool n, .string g, .int .i64 e, .string t, .slice la lm lc, .slice ka km kc] := by unfold va; rw [f0, f1, f2, f3, f4, f5, f6]
  rw [hva] at hsz hin
  rw [f0, f1, f2, f3, f4, f5, f6]
  have hKC := fun (w' : World) => keepC (w' := w') (W := w) (cs := #[.int .i64 k, .bool n, .string g, .int .i64 e, .string t, .slice la lm lc, .slice ka km kc]) (t := 28)
  have hbW : Below w.heap.size w (w.alloc (.cells #[.int .i64 k, .bool n, .string g, .int .i64 e, .string t, .slice la lm lc, .slice ka km kc] 28)) := bl_a (Below.refl _ _) _
  generalize hW : w.alloc (.cells #[.int .i64 k, .bool n, .string g, .int .i64 e, .string t, .slice la lm lc, .slice ka km kc] 28) = W at *
  have HS : Hid (∀ w', Below W.heap.size W w' → ∀ o, w'.cell? ⟨w.heap.size, o, none⟩ = #[Value.int .i64 k, .bool n, .string g, .int .i64 e, .string t, .slice la lm lc, .slice ka km kc][o]?) := hKC
  have HZ : Hid (∀ w', Below W.heap.size W w' → Calls Tryd.prog 24 #[.agg #[.int .i64 k, .bool n, .string g, .int .i64 e, .string t, .slice la lm lc, .slice ka km kc]] w' fun r w2 => r = .returned (.int .i64 (c : Int)) ∧ Below w'.heap.size w' w2) := fun w' hb => hsz w' (bl_t hbW hb)
  have HI : Hid (∀ w', Below W.heap.size W w' → Calls Tryd.prog 23 #[.slice (some ⟨w'.heap.size, 0, none⟩) 0 c, .string ⟨#[]⟩, .agg #[.int .i64 k, .bool n, .string g, .int .i64 e, .string t, .slice la lm lc, .slice ka km kc]] (w'.alloc (.cells (madeCells #[.string ⟨#[]⟩] c) 9)) fun r w2 => ∃ v', r = .returned v' ∧ SRow w2 v' (allJ v []) ∧ Below w'.heap.size w' w2) := fun w' hb => hin w' (bl_t hbW hb)
  have HX : Hid (∀ w', Below W.heap.size W w' → Below w.heap.size w w') := fun w' h => bl_t hbW h
  clear hKC hsz hin hbW hv hT f0 f1 f2 f3 f4 f5 f6 hva hsh hbd hc hd hcc
  generalize allJ v [] = xs at *
  go_enter Tryd.func12, Tryd.ntmps12
  go_wp2_with fail
  go_region_held3 (fun w' => ∀ o, w'.cell? ⟨w.heap.size, o, none⟩ = #[Value.int .i64 k, .bool n, .string g, .int .i64 e, .string t, .slice la lm lc, .slice ka km kc][o]?) (first | (refine HS.out _ ?_; with_reducible repeat (first | exact Below.refl _ _ | refine bl_t ?_ hb4 | refine bl_t ?_ hb3 | refine bl_d ?_ | refine bl_a ?_ _)) | fail) (first | (go_at_call 24; refine (HZ.out _ ?_).mono ?_; (with_reducible repeat (first | exact Below.refl _ _ | refine bl_d ?_)); rintro r w3 ⟨rfl, hb3⟩) | (go_at_call 23; refine (HI.out _ ?_).mono ?_; (with_reducible repeat (first | exact Below.refl _ _ | refine bl_t ?_ hb3 | refine bl_d ?_)); rintro r w4 ⟨v2, rfl, hO4, hb4⟩) | fail)
  all_goals
    have hfin := HX.out w4 (by with_reducible repeat (first | exact Below.refl _ _ | refine bl_t ?_ hb4 | refine bl_t ?_ hb3 | refine bl_d ?_))
    clear HS HZ HI HX
    go_wp2
    go_ret
    exact ⟨_, rfl, hO4, (by with_reducible repeat (first | exact hfin | refine bl_d ?_))⟩
end Go.Proofs.YtkbkedknoahhgaaDoor
