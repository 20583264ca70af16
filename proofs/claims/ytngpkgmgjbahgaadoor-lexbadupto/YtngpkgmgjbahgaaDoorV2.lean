/-
  What lex.among, lex.Blank, lex.within, lex.isDigit, lex.isPlain, lex.badAt and lex.standsAt answer. No condition but that the bytes lie in memory.
-/
import Derived.Test.YtngpkgmgjbahgaaDoorV1
import Derived.Test.YtngpkgmgjbahgaaDoorUB1
namespace Go.Proofs.YtngpkgmgjbahgaaDoor
open Go.RowKit
attribute [local go_sem] setCell_drewN alloc_drewN

theorem bl_a {a w : World} (h : Below a.heap.size a w) (o : Obj) : Below a.heap.size a (w.alloc o) := h.alloc h.size o
theorem bl_d {B : Nat} {a w : World} (h : Below B a w) : Below B a w.drew := ⟨h.os, h.tape, h.output, h.size, h.block⟩
theorem bl_n {B : Nat} {a w : World} (h : Below B a w) (n : Nat) : Below B a (w.drewN n) := ⟨h.os, h.tape, h.output, h.size, h.block⟩
theorem bl_s {a w : World} (h : Below a.heap.size a w) {b o : Nat} (hb : a.heap.size ≤ b) (v : Value) : Below a.heap.size a (w.setCell ⟨b, o, none⟩ v) := h.setCell hb v
theorem bl_t {a w w2 : World} (h : Below a.heap.size a w) (h2 : Below w.heap.size w w2) : Below a.heap.size a w2 := h.trans (h2.mono h.size)
theorem r_val {a b : Value} (h : a = b) : Ending.returned a = .returned b := by rw [h]

theorem r_bool {a b : Bool} (h : a = b) : Ending.returned (.bool a) = .returned (.bool b) := by rw [h]

/-- Is a number among others? -/
def anyF (c : Int) (n : Nat) (f : Nat → Int) : Bool := (List.range n).any fun i => c == f i
theorem anyF_hit {c : Int} {n : Nat} {f : Nat → Int} {k : Nat} (hk : k < n) (h : c = f k) : anyF c n f = true := by
  unfold anyF
  rw [List.any_eq_true]
  exact ⟨k, List.mem_range.2 hk, by simp [h]⟩
theorem anyF_miss {c : Int} {n : Nat} {f : Nat → Int} (h : ∀ i, i < n → f i ≠ c) : anyF c n f = false := by
  unfold anyF
  rw [List.any_eq_false]
  intro i hi
  have := h i (List.mem_range.1 hi)
  simpa using fun e : c = f i => this e.symm

set_option maxHeartbeats 400000 in
theorem among_any (c : Int) (v : Value) (n : Nat) (f : Nat → Int) (w : World) (hR : Row w v n f) :
    Calls Tryd.prog 10 #[.int .u8 c, v] w fun r w' => r = .returned (.bool (anyF c n f)) ∧ w' = w := by
  rcases hR with ⟨rfl, a, cap, rfl, _⟩ | ⟨b, off, cap, rfl, hc, hm, hL⟩
  · go_enter Tryd.func10, Tryd.ntmps10
    go_wp2
    refine wp_loop_rounds 1 ?_
    rw [rounds_succ]
    go_wp2
    go_ret
    exact ⟨rfl, rfl⟩
  · unfold maxLen at hm
    have hnI : (n : Int) ≤ 9223372036854775807 := by omega
    go_enter Tryd.func10, Tryd.ntmps10
    go_wp2
    go_loop [9] (fun t => ∃ k : Nat, k ≤ n ∧ t = .int .i64 k ∧ Hid (∀ i, i < k → f i ≠ c)) (fun t => n - (intOf t).toNat)
    case atStart => exact ⟨0, Nat.zero_le _, rfl, fun i hi => by omega⟩
    case round =>
      obtain ⟨k, hk, rfl, H⟩ := hrel
      by_cases hlt : k < n
      · have hcell := hL.cell k hlt
        have hI : (k : Int) < (n : Int) := by omega
        by_cases he : c = f k
        · have HR : Hid (anyF c n f = true) := anyF_hit hlt he
          rw [← he] at hcell
          clear H he
          go_wp2
          go_ret
          exact ⟨r_bool HR.out.symm, rfl⟩
        · have H2 : Hid (∀ i, i < k + 1 → f i ≠ c) := fun i hi => by
            by_cases e : i = k
            · subst e; exact fun h => he h.symm
            · exact H.out i (by omega)
          have hne : (c == f k) = false := beq_eq_false_iff_ne.2 he
          clear H he
          generalize f k = x at *
          go_wp2
          go_round
          case rel => exact ⟨k + 1, by omega, by go_num, H2⟩
          case measure => simp [intOf]; omega
      · have hI : ¬ (k : Int) < (n : Int) := by omega
        have ek : k = n := by omega
        have HR : Hid (anyF c n f = false) := anyF_miss (by rw [← ek]; exact H.out)
        clear H
        go_wp2
        go_ret
        exact ⟨r_bool HR.out.symm, rfl⟩

theorem row_lit (w : World) (cs : Array Value) (n : Nat) (f : Nat → Int) (ty : TypeId) (hn : cs.size = n) (hm : n ≤ 1000) (lo : ∀ i, 0 ≤ f i) (hi : ∀ i, f i < 256) (h : ∀ i, i < n → cs[i]? = some (.int .u8 (f i))) :
    Row (w.alloc (.cells cs ty)) (.slice (some ⟨w.heap.size, 0, none⟩) n n) n f :=
  .inr ⟨w.heap.size, 0, n, rfl, Nat.le_refl _, by unfold maxLen; omega, ⟨fun i hi => by rw [World.cell?_alloc_at _ _ _ _ rfl]; simpa using h i hi, lo, hi⟩⟩

theorem row_ws (w : World) (ws : List UInt8) (ty : TypeId) (hm : ws.length ≤ 1000) : Row (w.alloc (.cells (ws.map fun c => Value.int .u8 (c.toNat : Nat)).toArray ty)) (.slice (some ⟨w.heap.size, 0, none⟩) ws.length ws.length) ws.length (bx ws) :=
  row_lit w _ _ _ ty (by simp) hm (bx_lo ws) (bx_hi ws) (fun i hi => by simp [bx, hi])

theorem anyF_ws (c : Int) (ws : List UInt8) : anyF c ws.length (bx ws) = ws.any fun d => c == (d.toNat : Int) := by
  rw [Bool.eq_iff_iff]
  unfold anyF
  rw [List.any_eq_true, List.any_eq_true]
  constructor
  · rintro ⟨i, hi, h⟩
    have hi' := List.mem_range.1 hi
    exact ⟨ws[i], List.getElem_mem hi', by simpa [bx, hi'] using h⟩
  · rintro ⟨d, hd, h⟩
    obtain ⟨i, hi, rfl⟩ := List.getElem_of_mem hd
    exact ⟨i, List.mem_range.2 hi, by simpa [bx, hi] using h⟩
/-- lex.among of what stands in a literal. -/
theorem among_ws (c : Int) (ws : List UInt8) (w : World) (cs : Array Value) (n : Nat) (x : Bool) (hc : cs = (ws.map fun c => Value.int .u8 (c.toNat : Nat)).toArray) (hn : n = ws.length) (hm : ws.length ≤ 1000) (hx : (ws.any fun d => c == (d.toNat : Int)) = x) :
    Calls Tryd.prog 10 #[.int .u8 c, .slice (some ⟨w.heap.size, 0, none⟩) n n] (w.alloc (.cells cs 5)) fun r w' => r = .returned (.bool x) ∧ w' = w.alloc (.cells cs 5) := by
  subst hc hn hx
  rw [← anyF_ws]
  exact among_any c _ _ _ _ (row_ws w ws 5 hm)

set_option maxHeartbeats 400000 in
theorem blank_any (c : Int) (w : World) :
    Calls Tryd.prog 8 #[.int .u8 c] w fun r w' => r = .returned (.bool (blankB c)) ∧ Below w.heap.size w w' := by
  have h1 := among_ws c [9, 10, 13, 32] w #[.int .u8 9, .int .u8 10, .int .u8 13, .int .u8 32] 4 (blankB c) rfl rfl (by decide) (by simp [blankB, Bool.or_assoc])
  generalize blankB c = x at *
  go_enter Tryd.func8, Tryd.ntmps8
  go_wp2_with (go_at_call 10; refine h1.mono ?_; rintro r w' ⟨rfl, rfl⟩)
  go_ret
  exact ⟨rfl, bl_a (Below.refl _ _) _⟩

set_option maxHeartbeats 400000 in
theorem within_any (c a b : Int) (w : World) :
    Calls Tryd.prog 19 #[.int .u8 c, .int .u8 a, .int .u8 b] w fun r w' => r = .returned (.bool (decide (a ≤ c) && decide (c ≤ b))) ∧ w' = w := by
  by_cases h : a ≤ c
  · have HR : Hid ((decide (a ≤ c) && decide (c ≤ b)) = decide (c ≤ b)) := by show _ = _; simp [h]
    go_enter Tryd.func19, Tryd.ntmps19
    go_wp2
    go_ret
    exact ⟨r_bool HR.out.symm, rfl⟩
  · have HR : Hid ((decide (a ≤ c) && decide (c ≤ b)) = false) := by show _ = _; simp [h]
    go_enter Tryd.func19, Tryd.ntmps19
    go_wp2
    go_ret
    exact ⟨r_bool HR.out.symm, rfl⟩
theorem isDigit_any (c : Int) (w : World) :
    Calls Tryd.prog 13 #[.int .u8 c] w fun r w' => r = .returned (.bool (digitB c)) ∧ Below w.heap.size w w' := by
  have h1 := within_any c 48 57 w
  rw [show (decide (48 ≤ c) && decide (c ≤ 57)) = digitB c from rfl] at h1
  generalize digitB c = x at *
  go_enter Tryd.func13, Tryd.ntmps13
  go_wp2_with (go_at_call 19; refine h1.mono ?_; rintro r w' ⟨rfl, rfl⟩)
  go_ret
  exact ⟨rfl, Below.refl _ _⟩

set_option maxHeartbeats 400000 in
theorem isPlain_any (c : Int) (w : World) :
    Calls Tryd.prog 32 #[.int .u8 c] w fun r w' => r = .returned (.bool (plainB c)) ∧ Below w.heap.size w w' := by
  have h1 := among_ws c [34, 92] w #[.int .u8 34, .int .u8 92] 2 (c == 34 || c == 92) rfl rfl (by decide) (by simp)
  by_cases h : 32 ≤ c
  · have HR : Hid (plainB c = !(c == 34 || c == 92)) := by show _ = _; simp [plainB, h]
    generalize (c == 34 || c == 92) = x at *
    go_enter Tryd.func32, Tryd.ntmps32
    go_wp2_with (go_at_call 10; refine h1.mono ?_; rintro r w' ⟨rfl, rfl⟩)
    go_ret
    exact ⟨r_bool HR.out.symm, bl_a (Below.refl _ _) _⟩
  · have HR : Hid (plainB c = false) := by show _ = _; simp [plainB, h]
    clear h1
    go_enter Tryd.func32, Tryd.ntmps32
    go_wp2
    go_ret
    exact ⟨r_bool HR.out.symm, Below.refl _ _⟩

theorem badAt_any (i : Nat) (w : World) (h : i ≤ 281474976710656) :
    Calls Tryd.prog 16 #[.int .i64 i] w fun r w' => r = .returned (errV (i + 1)) ∧ w' = w := by
  have hI : (i : Int) ≤ 281474976710656 := by omega
  have HR : Hid (errV (i + 1) = .iface 44 (.agg #[.int .i64 ((i : Int) + 1)])) := by show _ = _; simp [errV]
  go_enter Tryd.func16, Tryd.ntmps16
  go_wp2
  go_ret
  exact ⟨r_val HR.out.symm, rfl⟩

set_option maxHeartbeats 400000 in
theorem standsAt_any (l : List UInt8) (i : Nat) (v u : Value) (n : Nat) (f : Nat → Int) (p : Int → Bool) (w : World) (hB : Byt w v l) (hU : Row w u n f) (hi : i ≤ l.length) (hm : l.length ≤ 281474976710656) (hp : ∀ c, anyF c n f = p c) :
    Calls Tryd.prog 21 #[v, .int .i64 i, u] w fun r w' => r = .returned (.bool (hasAt l i p)) ∧ w' = w := by
  obtain ⟨a, cap, rfl, hlm⟩ := hB.shape
  clear hlm
  have hlI : (l.length : Int) ≤ 281474976710656 := by omega
  by_cases h : i < l.length
  · rcases hB with ⟨h0, _⟩ | ⟨b, off, cap, e, hc, hm, hL⟩
    · omega
    · cases e
      have hcell := hL.cell i h
      have h1 := among_any (bx l i) u n f w hU
      rw [hp] at h1
      have HR : Hid (hasAt l i p = p (bx l i)) := by show _ = _; simp [hasAt, h]
      have hI : (i : Int) < (l.length : Int) := by omega
      generalize p (bx l i) = x at *
      generalize bx l i = c at *
      clear hU hp hL
      go_enter Tryd.func21, Tryd.ntmps21
      go_wp2_with (go_at_call 10; refine h1.mono ?_; rintro r w' ⟨rfl, rfl⟩)
      go_ret
      exact ⟨r_bool HR.out.symm, rfl⟩
  · have hI : ¬ (i : Int) < (l.length : Int) := by omega
    have HR : Hid (hasAt l i p = false) := by show _ = _; simp [hasAt, h]
    clear hU hp hB
    go_enter Tryd.func21, Tryd.ntmps21
    go_wp2
    go_ret
    exact ⟨r_bool HR.out.symm, rfl⟩
end Go.Proofs.YtngpkgmgjbahgaaDoor
