/-
  ref6.right, ref6.Check: they answer, whatever the value. Conditions: lists and texts of at most 2^30.
-/
import Derived.Test.YtkbkedknoahhgaaDoorJoined30
namespace Go.Proofs.YtkbkedknoahhgaaDoor
open Go.RowKit
attribute [local go_sem] setCell_drewN alloc_drewN

theorem hid_intro {p : Prop} (h : p) : Hid p := h
/-- What a value that may be looks like. -/
inductive ShV : JV → Prop
  | mk {k : Int} {n : Bool} {g : ByteArray} {e : Int} {t : ByteArray} {l : List JV} {ks : List ByteArray} (h1 : k ≠ 5 → k ≠ 6 → l.length = 0) (h2 : k ≠ 6 → ks.length = 0) (h3 : k = 6 → ks.length = l.length) (h4 : ∀ c ∈ l, ShV c) (h5 : ∀ i j (hi : i < ks.length) (hj : j < ks.length), i < j → ks[i] ≠ ks[j]) : ShV (.mk k n g e t l ks)
/-- It is a yes or a no, and a yes has its reason. -/
def RiR (S : Prop) (r : Ending) : Prop := ∃ b, r = .returned (.bool b) ∧ (b = true → S)
theorem rir_no {S : Prop} : RiR S (.returned (.bool false)) := ⟨false, rfl, fun h => by cases h⟩
theorem rir_yes {S : Prop} (h : S) : RiR S (.returned (.bool true)) := ⟨true, rfl, fun _ => h⟩
set_option maxRecDepth 100000 in
set_option maxHeartbeats 3200000 in
/-- A value that holds no others. -/
theorem rightS_low (S : Prop) (k : Int) (n : Bool) (g : ByteArray) (e : Int) (t : ByteArray) (ll kl : Nat) (ao ko : Option Addr) (cap kc : Nat) (w : World) (L : Int) (hkk : k = 0 ∨ k = 1 ∨ k = 2 ∨ k = 3 ∨ k = 4) (z1 : g.size ≤ 1073741824) (z2 : t.size ≤ 1073741824) (hS : ll = 0 → kl = 0 → S) :
    Calls Tryd.prog 15 #[.agg #[.int .i64 k, .bool n, .string g, .int .i64 e, .string t, .slice ao ll cap, .slice ko kl kc], .int .i64 L] w fun r w' => RiR S r ∧ Below w.heap.size w w' := by
  obtain ⟨x, hx⟩ := neq_zero n g e
  generalize hW : w.alloc (.cells #[.int .i64 k, .bool n, .string g, .int .i64 e, .string t, .slice ao ll cap, .slice ko kl kc] 28) = W
  have hbW : Below w.heap.size w W := by rw [← hW]; exact bl_a (Below.refl _ _) _
  have hA : C7 W w.heap.size (.int .i64 k) (.bool n) (.string g) (.int .i64 e) (.string t) (.slice ao ll cap) (.slice ko kl kc) := by
    rw [← hW]; exact C7.new w _ _ _ _ _ _ _ _
  have HA : Hid (∀ w', Below W.heap.size W w' → C7 w' w.heap.size (.int .i64 k) (.bool n) (.string g) (.int .i64 e) (.string t) (.slice ao ll cap) (.slice ko kl kc)) := fun w' hb => hA.below hb hA.lt
  have HC : Hid (∀ w', Calls Tryd.prog 26 #[.agg #[.bool n, .string g, .int .i64 e]] w' fun r w2 => (∃ c, r = .returned (.int .i64 c)) ∧ Below w'.heap.size w' w2) := fun w' => rcheck3_any n g e w' z1
  have HV : Hid (∀ w', Calls Tryd.prog 27 #[.string t] w' fun r w2 => r = .returned (.bool (gdL t.data.toList)) ∧ Below w'.heap.size w' w2) := fun w' => valid_any t w' (by unfold maxLen; omega)
  have HX : Hid (∀ w', Below W.heap.size W w' → Below w.heap.size w w') := fun w' hb => bl_t hbW hb
  have HS := hid_intro hS
  clear hS
  generalize gdL t.data.toList = gd at *
  clear z1 z2
  by_cases h0 : ll = 0
  · subst h0
    by_cases h1 : kl = 0
    · subst h1
      rcases hkk with rfl | rfl | rfl | rfl | rfl
      all_goals
        obtain ⟨a0, a1, a2, a3, a4, a5, a6, _, _, _, _, _, _, _⟩ := hA
        go_enter Tryd.func15, Tryd.ntmps15
        go_wp2_with first | (go_at_call 26; refine (HC.out _).mono ?_; rintro r w1 ⟨⟨c, rfl⟩, hb1⟩; have hA1 := HA.out w1 hb1; obtain ⟨c0, c1, c2, c3, c4, c5, c6, _, _, _, _, _, _, _⟩ := hA1) | (go_at_call 27; refine (HV.out _).mono ?_; rintro r w2 ⟨rfl, hb2⟩; have hA2 := HA.out w2 (bl_t hb1 hb2); obtain ⟨d0, d1, d2, d3, d4, d5, d6, _, _, _, _, _, _, _⟩ := hA2)
        all_goals first | (go_ret; refine ⟨?_, ?_⟩; (first | exact rir_no | exact rir_yes (HS.out trivial trivial) | exact rir_yes (HS.out rfl rfl)); (first | exact hbW | exact HX.out _ hb1 | exact HX.out _ (bl_t hb1 hb2))) | (refine wp_loop_rounds 1 ?_; rw [rounds_succ]; go_wp2; refine wp_loop_rounds 1 ?_; rw [rounds_succ]; go_wp2; (go_ret; refine ⟨?_, ?_⟩; (first | exact rir_no | exact rir_yes (HS.out trivial trivial) | exact rir_yes (HS.out rfl rfl)); (first | exact hbW | exact HX.out _ hb1 | exact HX.out _ (bl_t hb1 hb2))))
    · have h1' : (0 : Int) < (kl : Int) := by omega
      rcases hkk with rfl | rfl | rfl | rfl | rfl
      all_goals
        obtain ⟨a0, a1, a2, a3, a4, a5, a6, _, _, _, _, _, _, _⟩ := hA
        go_enter Tryd.func15, Tryd.ntmps15
        go_wp2
        all_goals (go_ret; refine ⟨?_, ?_⟩; (first | exact rir_no | exact rir_yes (HS.out trivial trivial) | exact rir_yes (HS.out rfl rfl)); (first | exact hbW | exact HX.out _ hb1 | exact HX.out _ (bl_t hb1 hb2)))
  · have h0' : (0 : Int) < (ll : Int) := by omega
    rcases hkk with rfl | rfl | rfl | rfl | rfl
    all_goals
      obtain ⟨a0, a1, a2, a3, a4, a5, a6, _, _, _, _, _, _, _⟩ := hA
      go_enter Tryd.func15, Tryd.ntmps15
      go_wp2
      all_goals (go_ret; refine ⟨?_, ?_⟩; (first | exact rir_no | exact rir_yes (HS.out trivial trivial) | exact rir_yes (HS.out rfl rfl)); (first | exact hbW | exact HX.out _ hb1 | exact HX.out _ (bl_t hb1 hb2)))
end Go.Proofs.YtkbkedknoahhgaaDoor
