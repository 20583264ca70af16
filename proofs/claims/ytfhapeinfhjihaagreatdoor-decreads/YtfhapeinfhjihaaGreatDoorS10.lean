/-
  What dec.Parse answers: the number that a text is, or which error. Conditions: the package's sentinel and the library's variable errors.errorType as the program lays them.
-/
import Derived.Test.YtfhapeinfhjihaaGreatDoorS9
import Derived.Test.YtfhapeinfhjihaaGreatDoorX3
namespace Go.Proofs.YtfhapeinfhjihaaGreatDoor
open Go.RowKit
attribute [local go_sem] setCell_drewN alloc_drewN

/-- What the package variables hold. -/
structure Env (w : World) (a : Addr) : Prop where
  large : Gl w (.iface 205 (.pointer (some a)))
  elt : 1 < w.heap.size
  ety : w.cell? ⟨1, 0, none⟩ = some (.iface 136 (.agg #[.pointer (some ⟨10, 53, none⟩)]))
  tab : Lib.TabIs Tryz.prog w "internal/strconv.uint64pow10" .u64 Lib.pow10Tab
theorem tab_below {w w' : World} (h : Lib.TabIs Tryz.prog w "internal/strconv.uint64pow10" .u64 Lib.pow10Tab) (hb : Below w.heap.size w w') : Lib.TabIs Tryz.prog w' "internal/strconv.uint64pow10" .u64 Lib.pow10Tab := by
  have hg : Tryz.prog.globalNamed "internal/strconv.uint64pow10" = some 2 := by kernel_rfl
  have hlt : 2 < w.heap.size := World.block_lt_of_cell? w _ (h.cell hg 0 (by decide))
  unfold Lib.TabIs World.var? at h ⊢
  simp only [hg, Option.bind_some] at h ⊢
  rw [hb.block _ hlt]
  exact h
theorem Env.below {w w' : World} {a : Addr} (h : Env w a) (hb : Below w.heap.size w w') : Env w' a :=
  ⟨h.large.below hb, Nat.lt_of_lt_of_le h.elt hb.size, (hb.cell (p := ⟨1, 0, none⟩) h.elt).trans h.ety, tab_below h.tab hb⟩
theorem Env.alloc {w : World} {a : Addr} (h : Env w a) (o : Obj) : Env (w.alloc o) a := h.below (bl_a (Below.refl _ _) o)

theorem bl_u {a W w2 : World} {B : Nat} (h : Below a.heap.size a W) (h2 : Below B W w2) (hB : a.heap.size ≤ B) : Below a.heap.size a w2 := h.trans (h2.mono hB)
theorem as_hit' (n old : Int) (t : Nat) (w : World) (g0 : 1 < w.heap.size) (hg : w.cell? ⟨1, 0, none⟩ = some (.iface 136 (.agg #[.pointer (some ⟨10, 53, none⟩)]))) (ht0 : w.cell? ⟨t, 0, none⟩ = some (.int .i64 old)) (hf0 : w.frozen? ⟨t, 0, none⟩ = false) :
    Calls Tryz.prog 24 #[.iface 57 (.agg #[.int .i64 n]), .iface 59 (.pointer (some ⟨t, 0, none⟩))] w fun ev w' => ev = .returned (.bool true) ∧ Below t w w' := by
  have hl : t < w.heap.size := World.block_lt_of_cell? w ⟨t, 0, none⟩ ht0
  refine (as_hit n old t w g0 hg ht0 hf0).mono ?_
  rintro e w' ⟨rfl, o1, o2, o3, o4, rfl⟩
  have h3 : Below w.heap.size w ((((w.alloc o1).alloc o2).alloc o3).alloc o4) := bl_a (bl_a (bl_a (bl_a (Below.refl _ _) _) _) _) _
  have h4 : Below t w ((((w.alloc o1).alloc o2).alloc o3).alloc o4) := h3.mono (by omega)
  exact ⟨rfl, h4.setCell (show t ≤ (⟨t, 0, none⟩ : Addr).block from Nat.le_refl _) _⟩
theorem as_miss' (e : Value) (old : Int) (t : Nat) (w : World) (g0 : 1 < w.heap.size) (hg : w.cell? ⟨1, 0, none⟩ = some (.iface 136 (.agg #[.pointer (some ⟨10, 53, none⟩)]))) (ht0 : w.cell? ⟨t, 0, none⟩ = some (.int .i64 old)) :
    Calls Tryz.prog 24 #[.iface 205 e, .iface 59 (.pointer (some ⟨t, 0, none⟩))] w fun ev w' => ev = .returned (.bool false) ∧ Below w.heap.size w w' := by
  refine (as_miss e old t w g0 hg ht0).mono ?_
  rintro e w' ⟨rfl, o1, o2, o3, rfl⟩
  exact ⟨rfl, bl_a (bl_a (bl_a (Below.refl _ _) _) _) _⟩

set_option maxRecDepth 100000 in
set_option maxHeartbeats 1600000 in
theorem parse_none (l : List UInt8) (a : Addr) (w : World) (hE : Env w a)
    (h1 : ∀ w, Calls Tryz.prog 23 #[.string (bs l)] w fun e w' => (∃ n, e = .returned (.tuple #[zv, .iface 57 (.agg #[.int .i64 n])])) ∧ Below w.heap.size w w') :
    Calls Tryz.prog 6 #[.string (bs l)] w fun e w' => e = .returned (.tuple #[zv, .int .i64 30]) ∧ Below w.heap.size w w' := by
  unfold zv at h1 ⊢
  go_enter Tryz.func6, Tryz.ntmps6
  go_wp2_with (go_at_call 23; refine (h1 _).mono ?_; rintro e w' ⟨⟨n, rfl⟩, hb⟩; obtain ⟨hc, hf⟩ := bcell hb; have hz : w.heap.size < w'.heap.size := by have := hb.size; simp at this; omega)
  have hE2 := (((hE.alloc _).below hb).alloc (.cells #[.bool false, .string ⟨#[]⟩, .int .i64 0] 23)).alloc (.cells #[.int .i64 0] 57)
  refine (as_hit' n 0 _ _ hE2.elt hE2.ety ?_ ?_).mono ?_
  · simp [go_sem]
  · simp [go_sem]
  · rintro e w2 ⟨rfl, hb2⟩
    have hk : ∀ o, w2.cell? ⟨w.heap.size, o, none⟩ = (w.alloc (.cells #[.bool false, .string ⟨#[]⟩, .int .i64 0] 23)).cell? ⟨w.heap.size, o, none⟩ := fun o => by
      rw [hb2.cell (p := ⟨w.heap.size, o, none⟩) (by show w.heap.size < _; omega), World.cell?_alloc_lt _ _ ⟨w.heap.size, o, none⟩ (by simp only [World.size_alloc]; omega), World.cell?_alloc_lt _ _ ⟨w.heap.size, o, none⟩ hz, hc w.heap.size o (by simp)]
    have hkf : ∀ o, w2.frozen? ⟨w.heap.size, o, none⟩ = false := fun o => by
      rw [hb2.frozen (p := ⟨w.heap.size, o, none⟩) (by show w.heap.size < _; omega), World.frozen?_alloc_old _ _ ⟨w.heap.size, o, none⟩ (by simp only [World.size_alloc]; omega), World.frozen?_alloc_old _ _ ⟨w.heap.size, o, none⟩ (by show w.heap.size ≠ _; omega), hf w.heap.size o (by simp)]
      simp
    clear hE2 hE hf
    go_wp2
    refine bodyPost_ret (v := .tuple #[.agg #[.bool false, .string ⟨#[]⟩, .int .i64 0], .int .i64 30]) ?_ rfl ?_
    all_goals first | (exact ⟨rfl, (by with_reducible repeat (first | exact Below.refl _ _ | refine bl_u ?_ hb2 (by omega) | refine bl_t ?_ hb | refine bl_d ?_ | refine bl_n ?_ _ | refine bl_a ?_ _ | refine bl_s ?_ (by omega) _))⟩) | (simp [results, Tryz.results6, go_sem, hk])

set_option maxRecDepth 100000 in
set_option maxHeartbeats 1600000 in
theorem parse_large (l : List UInt8) (a : Addr) (w : World) (hE : Env w a)
    (h1 : ∀ w, Env w a → Calls Tryz.prog 23 #[.string (bs l)] w fun e w' => e = .returned (.tuple #[zv, .iface 205 (.pointer (some a))]) ∧ Below w.heap.size w w') :
    Calls Tryz.prog 6 #[.string (bs l)] w fun e w' => e = .returned (.tuple #[zv, .int .i64 31]) ∧ Below w.heap.size w w' := by
  unfold zv at h1 ⊢
  go_enter Tryz.func6, Tryz.ntmps6
  go_wp2_with (go_at_call 23; refine (h1 _ (hE.alloc _)).mono ?_; rintro e w' ⟨rfl, hb⟩; obtain ⟨hc, hf⟩ := bcell hb; have hz : w.heap.size < w'.heap.size := by have := hb.size; simp at this; omega)
  have hE2 := (((hE.alloc _).below hb).alloc (.cells #[.bool false, .string ⟨#[]⟩, .int .i64 0] 23)).alloc (.cells #[.int .i64 0] 57)
  refine (as_miss' _ 0 _ _ hE2.elt hE2.ety ?_).mono ?_
  · simp [go_sem]
  · rintro e w2 ⟨rfl, hb2⟩
    have hl := (hE2.below hb2).large.2
    have hk : ∀ o, w2.cell? ⟨w.heap.size, o, none⟩ = (w.alloc (.cells #[.bool false, .string ⟨#[]⟩, .int .i64 0] 23)).cell? ⟨w.heap.size, o, none⟩ := fun o => by
      rw [hb2.cell (p := ⟨w.heap.size, o, none⟩) (by simp only [World.size_alloc]; omega), World.cell?_alloc_lt _ _ ⟨w.heap.size, o, none⟩ (by simp only [World.size_alloc]; omega), World.cell?_alloc_lt _ _ ⟨w.heap.size, o, none⟩ hz, hc w.heap.size o (by simp)]
    have hkf : ∀ o, w2.frozen? ⟨w.heap.size, o, none⟩ = false := fun o => by
      rw [hb2.frozen (p := ⟨w.heap.size, o, none⟩) (by simp only [World.size_alloc]; omega), World.frozen?_alloc_old _ _ ⟨w.heap.size, o, none⟩ (by simp only [World.size_alloc]; omega), World.frozen?_alloc_old _ _ ⟨w.heap.size, o, none⟩ (by show w.heap.size ≠ _; omega), hf w.heap.size o (by simp)]
      simp
    clear hE2 hE hf
    go_wp2_with (go_at_call 25; refine (is_same _ _).mono ?_; rintro e w3 ⟨rfl, rfl⟩)
    refine bodyPost_ret (v := .tuple #[.agg #[.bool false, .string ⟨#[]⟩, .int .i64 0], .int .i64 31]) ?_ rfl ?_
    all_goals first | (exact ⟨rfl, (by with_reducible repeat (first | exact Below.refl _ _ | refine bl_t ?_ hb2 | refine bl_t ?_ hb | refine bl_d ?_ | refine bl_n ?_ _ | refine bl_a ?_ _ | refine bl_s ?_ (by omega) _))⟩) | (simp [results, Tryz.results6, go_sem, hk])

set_option maxRecDepth 100000 in
set_option maxHeartbeats 1600000 in
theorem parse_ok (l : List UInt8) (d : D3) (a : Addr) (w : World) (hE : Env w a)
    (h1 : ∀ w, Env w a → Calls Tryz.prog 23 #[.string (bs l)] w fun e w' => e = .returned (.tuple #[d3 d, .nilIface]) ∧ Below w.heap.size w w') :
    Calls Tryz.prog 6 #[.string (bs l)] w fun e w' => e = .returned (.tuple #[d3 d, .int .i64 0]) ∧ Below w.heap.size w w' := by
  unfold d3 at h1 ⊢
  go_enter Tryz.func6, Tryz.ntmps6
  go_wp2_with (go_at_call 23; refine (h1 _ (hE.alloc _)).mono ?_; rintro e w' ⟨rfl, hb⟩; obtain ⟨hc, hf⟩ := bcell hb; have hz : w.heap.size < w'.heap.size := by have := hb.size; simp at this; omega)
  have hE2 := (((hE.alloc _).below hb).alloc (.cells #[.bool d.neg, .string (bs d.dg), .int .i64 d.ex] 23)).alloc (.cells #[.int .i64 0] 57)
  have hl := hE2.large.2
  clear hE2 hE
  refine (as_nil _ _).mono ?_
  rintro e w2 ⟨rfl, rfl⟩
  go_wp2_with (go_at_call 25; refine (is_nil _ _).mono ?_; rintro e w3 ⟨rfl, rfl⟩)
  refine bodyPost_ret (v := .tuple #[.agg #[.bool d.neg, .string (bs d.dg), .int .i64 d.ex], .int .i64 0]) ?_ rfl ?_
  all_goals first | (exact ⟨rfl, (by with_reducible repeat (first | exact Below.refl _ _ | refine bl_t ?_ hb | refine bl_d ?_ | refine bl_n ?_ _ | refine bl_a ?_ _ | refine bl_s ?_ (by omega) _))⟩) | (simp [results, Tryz.results6, go_sem, hz, hc])
end Go.Proofs.YtfhapeinfhjihaaGreatDoor
