/-
  ref6.right, ref6.Check: they answer, whatever the value. Conditions: lists of at most 2^30.
  ref6.right, ref6.Check: they answer, whatever the value. Conditions: lists and texts of at most 2^30.
-/
import Derived.Test.YtkbkedknoahhgaaDoorJoined28
import Derived.Test.YtkbkedknoahhgaaDoorJoined29
namespace Go.Proofs.YtkbkedknoahhgaaDoor
open Go.RowKit
attribute [local go_sem] setCell_drewN alloc_drewN

set_option maxHeartbeats 400000 in
theorem valid_any (s : ByteArray) (w : World) (hs : s.size ≤ maxLen) : Calls Tryd.prog 27 #[.string s] w fun r w' => r = .returned (.bool (gdL s.data.toList)) ∧ Below w.heap.size w w' := by
  have hc := fun w' => conv_str w' s
  have hg : ∀ w', Calls Tryd.prog 45 #[.slice (some ⟨w'.heap.size, 0, none⟩) s.size (grownCap w' s.size 0 5)] (Lib.bytesWorld w' 5 s) fun e w2 => e = .returned (.tuple #[.int .i64 ((good s.data.toList.length (bx s.data.toList)).1 : Nat), .bool (gdL s.data.toList)]) ∧ Below w'.heap.size w' w2 := fun w' =>
    (rgood_any _ _ _ _ (byt_str w' s hs)).mono fun e w2 ⟨h1, h2⟩ => ⟨h1, h2 ▸ bl_bytes w' s⟩
  generalize gdL s.data.toList = gd at *
  generalize ((good s.data.toList.length (bx s.data.toList)).1 : Nat) = gn at *
  go_enter Tryd.func27, Tryd.ntmps27
  go_wp2_with (go_at_call 45; refine (hg _).mono ?_; rintro r w2 ⟨rfl, hb2⟩)
  go_ret
  exact ⟨rfl, hb2⟩
theorem eqIn_dec (a : Bool) (s : ByteArray) (e : Int) (b : Bool) (t : ByteArray) (f : Int) (w : World) :
    (Op.equalIn 10000 24 (.agg #[.bool a, .string s, .int .i64 e]) (.agg #[.bool b, .string t, .int .i64 f])).run Tryd.prog w = .ok (decide (a = b ∧ s = t ∧ e = f)) w := by
  have u3 := Tryd.underlying3
  have u4 := Tryd.underlying4
  have u9 := Tryd.underlying9
  have a3 := Tryd.isAgg3
  have a4 := Tryd.isAgg4
  have a9 := Tryd.isAgg9
  have z3 := Tryd.sizeOf3
  have z4 := Tryd.sizeOf4
  have z9 := Tryd.sizeOf9
  have hS : Tryd.prog.underlying 24 = some (.struct (Tryd.prog.fieldsOf 24)) := by kernel_rfl
  have hp : Tryd.prog.stoodInHeld 24 = false := by kernel_rfl
  rw [show (10000 : Nat) = 9999 + 1 from rfl, run_equalIn_agg w 9999 24 _ _ hS hp]
  simp only [Program.fieldsOf, Tryd.underlying24]
  go_simp
  have hl : (s.toList = t.toList) ↔ s = t := by
    have := eq_bytes s t
    rw [Bool.eq_iff_iff] at this
    simpa using this
  by_cases h1 : a = b <;> by_cases h2 : s = t <;> by_cases h3 : e = f <;> simp [h1, h2, h3, hl]
theorem neq_zero (a : Bool) (s : ByteArray) (e : Int) : ∃ x : Bool, ∀ w, (binOp .neq 24 (.agg #[.bool a, .string s, .int .i64 e]) (.agg #[.bool false, .string ⟨#[]⟩, .int .i64 0])).run Tryd.prog w = .ok (.bool x) w :=
  ⟨_, fun w => by rw [run_neq_struct, eqIn_dec]; rfl⟩
set_option maxHeartbeats 400000 in
theorem rdig3_any (c : Int) (w : World) : Calls Tryd.prog 44 #[.int .u8 c] w fun r w' => r = .returned (.bool (wi c 48 57)) ∧ w' = w := by
  by_cases h1 : 48 ≤ c
  · by_cases h2 : c ≤ 57
    · go_enter Tryd.func44, Tryd.ntmps44
      go_wp2
      go_ret
      exact ⟨by simp [wi, h1, h2], rfl⟩
    · go_enter Tryd.func44, Tryd.ntmps44
      go_wp2
      go_ret
      exact ⟨by simp [wi, h1, h2], rfl⟩
  · go_enter Tryd.func44, Tryd.ntmps44
    go_wp2
    go_ret
    exact ⟨by have : decide (48 ≤ c) = false := by simpa using h1
              simp [wi, this], rfl⟩
theorem get_congr (g : ByteArray) {a b : Nat} (e : a = b) (ha : a < g.size) (hb : b < g.size) : g[a]'ha = g[b]'hb := by subst e; rfl
set_option maxRecDepth 100000 in
set_option maxHeartbeats 1600000 in
theorem rcheck3_any (n : Bool) (g : ByteArray) (e : Int) (w : World) (hg : g.size ≤ 1073741824) : Calls Tryd.prog 26 #[.agg #[.bool n, .string g, .int .i64 e]] w fun r w' => (∃ c, r = .returned (.int .i64 c)) ∧ Below w.heap.size w w' := by
  have hgI : (g.size : Int) ≤ 1073741824 := by omega
  generalize hW : w.alloc (.cells #[.bool n, .string g, .int .i64 e] 24) = W
  have hbW : Below w.heap.size w W := by rw [← hW]; exact bl_a (Below.refl _ _) _
  have a0 : W.cell? ⟨w.heap.size, 0, none⟩ = some (.bool n) := by rw [← hW, World.cell?_alloc_at _ _ _ _ rfl]; rfl
  have a1 : W.cell? ⟨w.heap.size, 1, none⟩ = some (.string g) := by rw [← hW, World.cell?_alloc_at _ _ _ _ rfl]; rfl
  have a2 : W.cell? ⟨w.heap.size, 2, none⟩ = some (.int .i64 e) := by rw [← hW, World.cell?_alloc_at _ _ _ _ rfl]; rfl
  by_cases h0 : g.size = 0
  · have n0 : ((g.size : Int) == 0) = true := by rw [h0]; rfl
    clear h0 hgI
    cases n
    · cases he : (e != 0)
      all_goals
        go_enter Tryd.func26, Tryd.ntmps26
        go_wp2
        all_goals go_ret
        all_goals exact ⟨⟨_, rfl⟩, hbW⟩
    · go_enter Tryd.func26, Tryd.ntmps26
      go_wp2
      all_goals go_ret
      all_goals exact ⟨⟨_, rfl⟩, hbW⟩
  · have n0 : ((g.size : Int) == 0) = false := beq_eq_false_iff_ne.2 (by omega)
    have hgp : (0 : Int) < (g.size : Int) := by omega
    go_enter Tryd.func26, Tryd.ntmps26
    go_wp2_with fail
    go_loopw [4] (fun tv wr => ∃ i : Nat, i ≤ g.size ∧ tv = .int .i64 i ∧ wr = W) (fun tv _ => g.size - (intOf tv).toNat)
    case atStart => exact ⟨0, Nat.zero_le _, rfl, rfl⟩
    case round =>
      obtain ⟨i, hi, rfl, rfl⟩ := hrel
      by_cases hlt : i < g.size
      · have hI : (i : Int) < (g.size : Int) := by omega
        have hx := bx_at g i hlt
        have hd := fun w' => rdig3_any (bx g.data.toList i) w'
        generalize bx g.data.toList i = c at *
        cases hw : wi c 48 57
        · rw [hw] at hd
          clear hw
          go_wp2_with (go_at_call 44; refine (hd _).mono ?_; rintro r w1 ⟨rfl, rfl⟩)
          go_ret
          exact ⟨⟨_, rfl⟩, hbW⟩
        · rw [hw] at hd
          clear hw
          go_wp2_with (go_at_call 44; refine (hd _).mono ?_; rintro r w1 ⟨rfl, rfl⟩)
          go_roundw
          case rel => exact ⟨i + 1, by omega, by go_num, trivial⟩
          case measure => simp [intOf]; omega
      · have hI : ¬ (i : Int) < (g.size : Int) := by omega
        have hx := bx_at g 0 (by omega)
        have hx2 := bx_at g (g.size - 1) (by omega)
        have ht2 : ((g.size : Int) - 1).toNat = g.size - 1 := by omega
        have hx3 : ∀ h, ((g[((g.size : Int) - 1).toNat]'h).toNat : Int) = bx g.data.toList (g.size - 1) := fun h => by
          rw [← hx2, get_congr g ht2 h (by omega)]
        have hib : (0 : Int) ≤ (g.size : Int) - 1 ∧ (g.size : Int) - 1 < (g.size : Int) := by omega
        clear hx2
        generalize bx g.data.toList 0 = c0 at *
        generalize bx g.data.toList (g.size - 1) = c1 at *
        go_wp2
        all_goals go_ret
        all_goals exact ⟨⟨_, rfl⟩, hbW⟩
/-- Texts that are not too long. -/
inductive Sz : JV → Prop
  | mk {k : Int} {n : Bool} {g : ByteArray} {e : Int} {t : ByteArray} {l : List JV} {ks : List ByteArray} (h1 : g.size ≤ 1073741824) (h2 : t.size ≤ 1073741824) (h3 : ∀ s ∈ ks, s.size ≤ 1073741824) (h4 : ∀ c ∈ l, Sz c) : Sz (.mk k n g e t l ks)
end Go.Proofs.YtkbkedknoahhgaaDoor

namespace Go.Proofs.YtkbkedknoahhgaaDoor
open Go.RowKit
attribute [local go_sem] setCell_drewN alloc_drewN

/-- It is a yes or a no. -/
def BoolR (r : Ending) : Prop := ∃ b, r = .returned (.bool b)
set_option maxRecDepth 100000 in
set_option maxHeartbeats 3200000 in
/-- A value that holds no others. -/
theorem right_low (k : Int) (n : Bool) (g : ByteArray) (e : Int) (t : ByteArray) (ll kl : Nat) (ao ko : Option Addr) (cap kc : Nat) (w : World) (L : Int) (hkk : k = 0 ∨ k = 1 ∨ k = 2 ∨ k = 3 ∨ k = 4) (z1 : g.size ≤ 1073741824) (z2 : t.size ≤ 1073741824) :
    Calls Tryd.prog 15 #[.agg #[.int .i64 k, .bool n, .string g, .int .i64 e, .string t, .slice ao ll cap, .slice ko kl kc], .int .i64 L] w fun r w' => BoolR r ∧ Below w.heap.size w w' := by
  obtain ⟨x, hx⟩ := neq_zero n g e
  generalize hW : w.alloc (.cells #[.int .i64 k, .bool n, .string g, .int .i64 e, .string t, .slice ao ll cap, .slice ko kl kc] 28) = W
  have hbW : Below w.heap.size w W := by rw [← hW]; exact bl_a (Below.refl _ _) _
  have hA : C7 W w.heap.size (.int .i64 k) (.bool n) (.string g) (.int .i64 e) (.string t) (.slice ao ll cap) (.slice ko kl kc) := by
    rw [← hW]; exact C7.new w _ _ _ _ _ _ _ _
  have HA : Hid (∀ w', Below W.heap.size W w' → C7 w' w.heap.size (.int .i64 k) (.bool n) (.string g) (.int .i64 e) (.string t) (.slice ao ll cap) (.slice ko kl kc)) := fun w' hb => hA.below hb hA.lt
  have HC : Hid (∀ w', Calls Tryd.prog 26 #[.agg #[.bool n, .string g, .int .i64 e]] w' fun r w2 => (∃ c, r = .returned (.int .i64 c)) ∧ Below w'.heap.size w' w2) := fun w' => rcheck3_any n g e w' z1
  have HV : Hid (∀ w', Calls Tryd.prog 27 #[.string t] w' fun r w2 => r = .returned (.bool (gdL t.data.toList)) ∧ Below w'.heap.size w' w2) := fun w' => valid_any t w' (by unfold maxLen; omega)
  have HX : Hid (∀ w', Below W.heap.size W w' → Below w.heap.size w w') := fun w' hb => bl_t hbW hb
  generalize gdL t.data.toList = gd at *
  clear z1 z2
  by_cases h0 : ll = 0
  · subst h0
    by_cases h1 : kl = 0
    · subst h1
      rcases hkk with rfl | rfl | rfl | rfl | rfl
      all_goals
        obtain ⟨a0, a1, a2, a3, a4, a5, a6, _, _, _, _, _, _, _⟩ := hA
        go_enter Tryd.func15, Tryd.ntmps15
        go_wp2_with first | (go_at_call 26; refine (HC.out _).mono ?_; rintro r w1 ⟨⟨c, rfl⟩, hb1⟩; have hA1 := HA.out w1 hb1; obtain ⟨c0, c1, c2, c3, c4, c5, c6, _, _, _, _, _, _, _⟩ := hA1) | (go_at_call 27; refine (HV.out _).mono ?_; rintro r w2 ⟨rfl, hb2⟩; have hA2 := HA.out w2 (bl_t hb1 hb2); obtain ⟨d0, d1, d2, d3, d4, d5, d6, _, _, _, _, _, _, _⟩ := hA2)
        all_goals first | (go_ret; exact ⟨⟨_, rfl⟩, by first | exact hbW | exact HX.out _ hb1 | exact HX.out _ (bl_t hb1 hb2)⟩) | (refine wp_loop_rounds 1 ?_; rw [rounds_succ]; go_wp2; refine wp_loop_rounds 1 ?_; rw [rounds_succ]; go_wp2; (go_ret; exact ⟨⟨_, rfl⟩, by first | exact hbW | exact HX.out _ hb1 | exact HX.out _ (bl_t hb1 hb2)⟩))
    · have h1' : (0 : Int) < (kl : Int) := by omega
      rcases hkk with rfl | rfl | rfl | rfl | rfl
      all_goals
        obtain ⟨a0, a1, a2, a3, a4, a5, a6, _, _, _, _, _, _, _⟩ := hA
        go_enter Tryd.func15, Tryd.ntmps15
        go_wp2
        all_goals (go_ret; exact ⟨⟨_, rfl⟩, by first | exact hbW | exact HX.out _ hb1 | exact HX.out _ (bl_t hb1 hb2)⟩)
  · have h0' : (0 : Int) < (ll : Int) := by omega
    rcases hkk with rfl | rfl | rfl | rfl | rfl
    all_goals
      obtain ⟨a0, a1, a2, a3, a4, a5, a6, _, _, _, _, _, _, _⟩ := hA
      go_enter Tryd.func15, Tryd.ntmps15
      go_wp2
      all_goals (go_ret; exact ⟨⟨_, rfl⟩, by first | exact hbW | exact HX.out _ hb1 | exact HX.out _ (bl_t hb1 hb2)⟩)
end Go.Proofs.YtkbkedknoahhgaaDoor
