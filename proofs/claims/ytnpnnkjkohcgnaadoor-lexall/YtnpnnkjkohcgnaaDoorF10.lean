/-
  What lex.Next and ref4.Next answer at every place, also one that lies outside. Conditions: the bytes lie in memory, at most 2^47 - 4096 of them; for lex.Next the variables as they are laid.
-/
import Derived.Test.YtnpnnkjkohcgnaaDoorF9
import Derived.Test.YtnpnnkjkohcgnaaDoorV18
namespace Go.Proofs.YtnpnnkjkohcgnaaDoor
open Go.RowKit
attribute [local go_sem] setCell_drewN alloc_drewN

set_option maxRecDepth 100000 in
set_option maxHeartbeats 1600000 in
theorem rnext_empty (v : Value) (w : World) (hB : Byt w v []) :
    Calls Tryd.prog 7 #[v, .int .i64 (0 : Nat)] w fun r w' => r = .returned (nxV (nextL [] 0)) ∧ Below w.heap.size w w' := by
  obtain ⟨a, cap, rfl, _⟩ := hB.shape
  have HR : Hid (nextL [] 0 = .ok ⟨0, [], 0, 0⟩) := rfl
  clear hB
  go_enter Tryd.func7, Tryd.ntmps7
  go_wp2
  refine wp_loop_rounds 1 ?_
  rw [rounds_succ]
  go_wp2
  refine bodyPost_ret (v := .tuple #[tokV ⟨0, [], 0, 0⟩, .int .i64 0, .int .i64 0]) ?_ rfl ?_
  all_goals first | (exact ⟨by rw [HR.out]; rfl, (by with_reducible repeat (first | exact Below.refl _ _ | refine bl_a ?_ _ | refine bl_s ?_ (by omega) _))⟩) | (simp [results, Tryd.results7, go_sem, tokV])

theorem rnext_any (l : List UInt8) (i : Nat) (v : Value) (w : World) (hB : Byt w v l) (hi : i ≤ l.length) (hm : l.length ≤ 140737488351232) :
    Calls Tryd.prog 7 #[v, .int .i64 i] w fun r w' => r = .returned (nxV (nextL l i)) ∧ Below w.heap.size w w' := by
  by_cases h0 : 0 < l.length
  · exact rnext_some l i v w hB h0 hi hm
  · obtain rfl : l = [] := List.length_eq_zero_iff.1 (by omega)
    obtain rfl : i = 0 := by simpa using hi
    exact rnext_empty v w hB

/-- Outside. -/
def outV : Value := .tuple #[tokV ⟨0, [], 0, 0⟩, .int .i64 0, .int .i64 2]
set_option maxRecDepth 100000 in
set_option maxHeartbeats 1600000 in
theorem rnext_out (l : List UInt8) (x : Int) (v : Value) (w : World) (hB : Byt w v l) (hx : x < 0 ∨ (l.length : Int) < x) :
    Calls Tryd.prog 7 #[v, .int .i64 x] w fun r w' => r = .returned outV ∧ Below w.heap.size w w' := by
  obtain ⟨a, cap, rfl, _⟩ := hB.shape
  clear hB
  by_cases h : x < 0
  · clear hx
    go_enter Tryd.func7, Tryd.ntmps7
    go_wp2
    refine bodyPost_ret (v := .tuple #[tokV ⟨0, [], 0, 0⟩, .int .i64 0, .int .i64 2]) ?_ rfl ?_
    all_goals first | (exact ⟨rfl, (by with_reducible repeat (first | exact Below.refl _ _ | refine bl_a ?_ _ | refine bl_s ?_ (by omega) _))⟩) | (simp [results, Tryd.results7, go_sem, tokV])
  · have hd : decide (x < 0) = false := decide_eq_false h
    have hg : (l.length : Int) < x := by omega
    clear hx h
    go_enter Tryd.func7, Tryd.ntmps7
    go_wp2
    refine bodyPost_ret (v := .tuple #[tokV ⟨0, [], 0, 0⟩, .int .i64 0, .int .i64 2]) ?_ rfl ?_
    all_goals first | (exact ⟨rfl, (by with_reducible repeat (first | exact Below.refl _ _ | refine bl_a ?_ _ | refine bl_s ?_ (by omega) _))⟩) | (simp [results, Tryd.results7, go_sem, tokV])

set_option maxRecDepth 100000 in
set_option maxHeartbeats 1600000 in
theorem next_out (l : List UInt8) (x : Int) (v : Value) (w : World) (hB : Byt w v l) (hx : x < 0 ∨ (l.length : Int) < x) :
    Calls Tryd.prog 6 #[v, .int .i64 x] w fun r w' => r = .returned outV ∧ Below w.heap.size w w' := by
  obtain ⟨a, cap, rfl, _⟩ := hB.shape
  clear hB
  by_cases h : x < 0
  · clear hx
    go_enter Tryd.func6, Tryd.ntmps6
    go_wp2
    refine bodyPost_ret (v := .tuple #[tokV ⟨0, [], 0, 0⟩, .int .i64 0, .int .i64 2]) ?_ rfl ?_
    all_goals first | (exact ⟨rfl, (by with_reducible repeat (first | exact Below.refl _ _ | refine bl_a ?_ _ | refine bl_s ?_ (by omega) _))⟩) | (simp [results, Tryd.results6, go_sem, tokV])
  · have hd : decide (x < 0) = false := decide_eq_false h
    have hg : (l.length : Int) < x := by omega
    clear hx h
    go_enter Tryd.func6, Tryd.ntmps6
    go_wp2
    refine bodyPost_ret (v := .tuple #[tokV ⟨0, [], 0, 0⟩, .int .i64 0, .int .i64 2]) ?_ rfl ?_
    all_goals first | (exact ⟨rfl, (by with_reducible repeat (first | exact Below.refl _ _ | refine bl_a ?_ _ | refine bl_s ?_ (by omega) _))⟩) | (simp [results, Tryd.results6, go_sem, tokV])

/-- Both give the same answer at every place. -/
theorem both_next (l : List UInt8) (x : Int) (hm : l.length ≤ 140737488351232) : ∃ (k : Int) (s : ByteArray) (f t n e : Int),
    (∀ (v : Value) (w : World), Env w → Byt w v l → Calls Tryd.prog 6 #[v, .int .i64 x] w fun r w' => r = .returned (.tuple #[.agg #[.int .i64 k, .string s, .int .i64 f, .int .i64 t], .int .i64 n, .int .i64 e]) ∧ Below w.heap.size w w') ∧
    (∀ (v : Value) (w : World), Byt w v l → Calls Tryd.prog 7 #[v, .int .i64 x] w fun r w' => r = .returned (.tuple #[.agg #[.int .i64 k, .string s, .int .i64 f, .int .i64 t], .int .i64 n, .int .i64 e]) ∧ Below w.heap.size w w') := by
  by_cases hx : x < 0 ∨ (l.length : Int) < x
  · exact ⟨0, ⟨#[]⟩, 0, 0, 0, 2, fun v w _ hB => next_out l x v w hB hx, fun v w hB => rnext_out l x v w hB hx⟩
  · obtain ⟨i, rfl⟩ := Int.eq_ofNat_of_zero_le (show 0 ≤ x by omega)
    have hi : i ≤ l.length := by omega
    cases hn : nextL l i with
    | error n =>
      refine ⟨0, ⟨#[]⟩, 0, 0, n, 50, fun v w hE hB => ?_, fun v w hB => ?_⟩
      · have := next_any l i v w hE hB hi hm
        rw [hn] at this
        exact this
      · have := rnext_any l i v w hB hi hm
        rw [hn] at this
        exact this
    | ok t =>
      refine ⟨t.kind, ⟨t.text.toArray⟩, t.fr, t.to, 0, 0, fun v w hE hB => ?_, fun v w hB => ?_⟩
      · have := next_any l i v w hE hB hi hm
        rw [hn] at this
        exact this
      · have := rnext_any l i v w hB hi hm
        rw [hn] at this
        exact this

set_option maxRecDepth 100000 in
set_option maxHeartbeats 1600000 in
theorem reads_walk (l : List UInt8) (x : Int) (v : Value) (w : World) (hE : Env w) (hB : Byt w v l) (hm : l.length ≤ 140737488351232) :
    Calls Tryd.prog 3 #[v, .int .i64 x] w fun r w' => r = .returned (.bool true) ∧ Below w.heap.size w w' := by
  obtain ⟨k, s, f, t, n, e, h1, h2⟩ := both_next l x hm
  have g1 := h1 v w hE hB
  have g2 := fun w' (hb : Below w.heap.size w w') => h2 v w' (hB.below hb)
  have g9 := fun w' (hb : Below w.heap.size w w') => heads4_any w' (hE.below hb)
  have hq := eqIn_tok k s f t k s f t
  rw [show eqT k s f t k s f t = true by simp [eqT]] at hq
  clear h1 h2 hB hm
  go_enter Tryd.func3, Tryd.ntmps3
  go_wp2_with (first | (go_at_call 6; refine g1.mono ?_; rintro r w1 ⟨rfl, hb1⟩; have hb11 := bl_a hb1 (.cells #[.int .i64 k, .string s, .int .i64 f, .int .i64 t] 25)) | (go_at_call 7; refine (g2 _ hb11).mono ?_; rintro r w2 ⟨rfl, hb2⟩; obtain ⟨kc, kz⟩ := keepC (bl_a hb2 (.cells #[.int .i64 k, .string s, .int .i64 f, .int .i64 t] 25)); have hb22 := bl_a (bl_t hb11 hb2) (.cells #[.int .i64 k, .string s, .int .i64 f, .int .i64 t] 25)) | (go_at_call 8; refine (g9 _ hb22).mono ?_; rintro r w5 ⟨rfl, hb5⟩))
  go_ret
  exact ⟨rfl, bl_t hb22 hb5⟩
end Go.Proofs.YtnpnnkjkohcgnaaDoor
