/-
  What dec.read answers. Conditions: the sentinel lies in its variable.
-/
import Derived.Test.YtfhapeinfhjihaaGreatDoorS8f
import Derived.Test.YtfhapeinfhjihaaGreatDoorS8o
namespace Go.Proofs.YtfhapeinfhjihaaGreatDoor
open Go.RowKit
attribute [local go_sem] setCell_drewN alloc_drewN

/-- The sentinel's variable. -/
def Gl (w : World) (gv : Value) : Prop := 0 < w.heap.size ∧ w.cell? ⟨0, 0, none⟩ = some gv
theorem Gl.below {w w' : World} {gv : Value} (h : Gl w gv) (hb : Below w.heap.size w w') : Gl w' gv :=
  ⟨Nat.lt_of_lt_of_le h.1 hb.size, (hb.cell (p := ⟨0, 0, none⟩) h.1).trans h.2⟩
theorem Gl.alloc {w : World} {gv : Value} (h : Gl w gv) (o : Obj) : Gl (w.alloc o) gv := h.below (bl_a (Below.refl _ _) o)
theorem number_val (p : P3) (gv : Value) (w : World) (hG : Gl w gv) (hp : PD p) (hs : p.int.length + p.frac.length ≤ maxLen) (hx : p.exp.length ≤ maxLen) :
    Calls Tryz.prog 50 #[pv p] w fun e w' => e = .returned (.tuple #[d3 ((valueL 1131072 p).getD zeroD), if (valueL 1131072 p).isSome = true then .nilIface else gv]) ∧ Below w.heap.size w w' := by
  have h0 : 0 < w.heap.size := Nat.lt_of_le_of_lt (Nat.zero_le _) hG.1
  unfold valueL
  by_cases h1 : 65536 < (allOf p).length
  · rw [if_pos h1]; exact number_long p gv w h0 hG.2 hs h1
  · rw [if_neg h1]
    by_cases h2 : dgOf p = []
    · rw [if_pos h2]; exact number_zero p w (by omega) h2
    · rw [if_neg h2]
      by_cases h3 : exOf 1131072 p < -1000000 ∨ 1000000 < exOf 1131072 p
      · rw [if_pos h3]; exact number_far p gv w h0 hG.2 (by omega) h2 hp.2.2 hx h3
      · rw [if_neg h3]; exact number_ok p w (by omega) h2 hp.2.2 hx (fun g => h3 (.inl g)) (fun g => h3 (.inr g))

set_option maxRecDepth 100000 in
set_option maxHeartbeats 800000 in
theorem read_no (l : List UInt8) (w : World) (hs : l.length ≤ maxLen) (h : splitL l = none) :
    Calls Tryz.prog 23 #[.string (bs l)] w fun e w' => (∃ n, e = .returned (.tuple #[zv, .iface 57 (.agg #[.int .i64 n])])) ∧ Below w.heap.size w w' := by
  have h1 := fun w => split_no l w hs h
  simp only [pv] at h1
  clear h hs
  go_enter Tryz.func23, Tryz.ntmps23
  go_wp2_with (go_at_call 49; refine (h1 _).mono ?_; rintro e w' ⟨⟨p, r, o, rfl, rfl⟩, hb⟩; obtain ⟨hc, hf⟩ := bcell hb; have hz : w.heap.size < w'.heap.size := by have := hb.size; simp at this; omega)
  have hk1 : ∀ o, w'.cell? ⟨w.heap.size, o, none⟩ = (w.alloc (.cells #[.bool false, .string ⟨#[]⟩, .int .i64 0] 23)).cell? ⟨w.heap.size, o, none⟩ := fun o => hc w.heap.size o (by simp)
  refine bodyPost_ret (v := .tuple #[.agg #[.bool false, .string ⟨#[]⟩, .int .i64 0], .iface 57 (.agg #[.int .i64 (wrap64 (((bs l).size : Int) - ((bs r).size : Int)))])]) ?_ rfl ?_
  all_goals first | (exact ⟨⟨_, rfl⟩, (by with_reducible repeat (first | exact Below.refl _ _ | refine bl_t ?_ hb | refine bl_d ?_ | refine bl_n ?_ _ | refine bl_a ?_ _ | refine bl_s ?_ (by omega) _))⟩) | (simp [results, Tryz.results23, go_sem, hz, hk1])

set_option maxRecDepth 100000 in
set_option maxHeartbeats 800000 in
theorem read_left (l : List UInt8) (P : P3) (c : UInt8) (r : List UInt8) (w : World) (hs : l.length ≤ maxLen) (h : splitL l = some (P, c :: r)) :
    Calls Tryz.prog 23 #[.string (bs l)] w fun e w' => (∃ n, e = .returned (.tuple #[zv, .iface 57 (.agg #[.int .i64 n])])) ∧ Below w.heap.size w w' := by
  have h1 := fun w => split_yes l P (c :: r) w hs h
  have hn : (bs (c :: r)).toList.isEmpty = false := by rw [toList_bs]; rfl
  clear h hs
  generalize bs (c :: r) = R at *
  unfold pv at h1
  go_enter Tryz.func23, Tryz.ntmps23
  go_wp2_with (go_at_call 49; refine (h1 _).mono ?_; rintro e w' ⟨rfl, hb⟩; obtain ⟨hc, hf⟩ := bcell hb; have hz : w.heap.size < w'.heap.size := by have := hb.size; simp at this; omega)
  have hk1 : ∀ o, w'.cell? ⟨w.heap.size, o, none⟩ = (w.alloc (.cells #[.bool false, .string ⟨#[]⟩, .int .i64 0] 23)).cell? ⟨w.heap.size, o, none⟩ := fun o => hc w.heap.size o (by simp)
  refine bodyPost_ret (v := .tuple #[.agg #[.bool false, .string ⟨#[]⟩, .int .i64 0], .iface 57 (.agg #[.int .i64 (wrap64 (((bs l).size : Int) - (R.size : Int)))])]) ?_ rfl ?_
  all_goals first | (exact ⟨⟨_, rfl⟩, (by with_reducible repeat (first | exact Below.refl _ _ | refine bl_t ?_ hb | refine bl_d ?_ | refine bl_n ?_ _ | refine bl_a ?_ _ | refine bl_s ?_ (by omega) _))⟩) | (simp [results, Tryz.results23, go_sem, hz, hk1])

set_option maxRecDepth 100000 in
set_option maxHeartbeats 800000 in
theorem read_parts (l : List UInt8) (p : P3) (gv : Value) (w : World) (hG : Gl w gv) (hs : l.length ≤ maxLen) (h : splitL l = some (p, [])) (hp : PD p) (hl : p.int.length + p.frac.length ≤ maxLen) (hx : p.exp.length ≤ maxLen) :
    Calls Tryz.prog 23 #[.string (bs l)] w fun e w' => e = .returned (.tuple #[d3 ((valueL 1131072 p).getD zeroD), if (valueL 1131072 p).isSome = true then .nilIface else gv]) ∧ Below w.heap.size w w' := by
  have h1 := fun w => split_yes l p [] w hs h
  have h2 := fun w hG => number_val p gv w hG hp hl hx
  have hn : (bs []).toList = [] := toList_bs []
  clear h hs hl hx hp
  generalize (valueL 1131072 p).getD zeroD = d at *
  generalize (if (valueL 1131072 p).isSome = true then Value.nilIface else gv) = ev at *
  generalize bs [] = R at *
  unfold pv at h1 h2
  unfold d3 at h2 ⊢
  go_enter Tryz.func23, Tryz.ntmps23
  go_wp2_with (first | (go_at_call 49; refine (h1 _).mono ?_; rintro e w' ⟨rfl, hb⟩; obtain ⟨hc, hf⟩ := bcell hb; have hz : w.heap.size < w'.heap.size := by have := hb.size; simp at this; omega) | (go_at_call 50; refine (h2 _ (((hG.alloc _).below hb).alloc _)).mono ?_; rintro e w2 ⟨rfl, hb2⟩; obtain ⟨hc2, hf2⟩ := bcell hb2; have hz2 : w'.heap.size < w2.heap.size := by have := hb2.size; simp at this; omega))
  have hk : ∀ o, w2.cell? ⟨w.heap.size, o, none⟩ = (w.alloc (.cells #[.bool false, .string ⟨#[]⟩, .int .i64 0] 23)).cell? ⟨w.heap.size, o, none⟩ := fun o => by
    rw [hc2 w.heap.size o (by simp only [World.size_alloc]; omega), World.cell?_alloc_lt _ _ ⟨w.heap.size, o, none⟩ hz, hc w.heap.size o (by simp)]
  refine bodyPost_ret (v := .tuple #[.agg #[.bool d.neg, .string (bs d.dg), .int .i64 d.ex], ev]) ?_ rfl ?_
  all_goals first | (exact ⟨rfl, (by with_reducible repeat (first | exact Below.refl _ _ | refine bl_t ?_ hb2 | refine bl_t ?_ hb | refine bl_d ?_ | refine bl_n ?_ _ | refine bl_a ?_ _ | refine bl_s ?_ (by omega) _))⟩) | (simp [results, Tryz.results23, go_sem, hk])
end Go.Proofs.YtfhapeinfhjihaaGreatDoor
