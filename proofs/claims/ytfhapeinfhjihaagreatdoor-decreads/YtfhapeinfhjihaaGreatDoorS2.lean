/-
  What dec.Check and ref3.Check answer: whether a number may be. No condition.
-/
import Derived.Test.YtfhapeinfhjihaaGreatDoorS1
import Derived.Laws.StructEq
namespace Go.Proofs.YtfhapeinfhjihaaGreatDoor
open Go.RowKit

/-- Are two numbers the same. -/
def eqD (a : Bool) (s : ByteArray) (e : Int) (b : Bool) (t : ByteArray) (f : Int) : Bool := decide (a = b ∧ s = t ∧ e = f)
theorem eq_bytes (s t : ByteArray) : (s.toList == t.toList) = decide (s = t) := by
  rw [← beq_toListBytes]
  obtain ⟨⟨x⟩⟩ := s
  obtain ⟨⟨y⟩⟩ := t
  show ((⟨x⟩ : Array UInt8) == ⟨y⟩) = _
  by_cases h : x = y
  · subst h; simp
  · rw [decide_eq_false (fun e => h (by simpa using e))]; simpa using h
theorem eqIn_dec (a : Bool) (s : ByteArray) (e : Int) (b : Bool) (t : ByteArray) (f : Int) (w : World) :
    (Op.equalIn 10000 23 (.agg #[.bool a, .string s, .int .i64 e]) (.agg #[.bool b, .string t, .int .i64 f])).run Tryz.prog w = .ok (eqD a s e b t f) w := by
  have u3 := Tryz.underlying3
  have u4 := Tryz.underlying4
  have u9 := Tryz.underlying9
  have a3 := Tryz.isAgg3
  have a4 := Tryz.isAgg4
  have a9 := Tryz.isAgg9
  have z3 := Tryz.sizeOf3
  have z4 := Tryz.sizeOf4
  have z9 := Tryz.sizeOf9
  have hS : Tryz.prog.underlying 23 = some (.struct (Tryz.prog.fieldsOf 23)) := by kernel_rfl
  have hp : Tryz.prog.stoodInHeld 23 = false := by kernel_rfl
  rw [show (10000 : Nat) = 9999 + 1 from rfl, run_equalIn_agg w 9999 23 _ _ hS hp]
  simp only [Program.fieldsOf, Tryz.underlying23]
  go_simp
  have hl : (s.toList = t.toList) ↔ s = t := by
    have := eq_bytes s t
    rw [Bool.eq_iff_iff] at this
    simpa using this
  unfold eqD
  by_cases h1 : a = b <;> by_cases h2 : s = t <;> by_cases h3 : e = f <;> simp [h1, h2, h3, hl]
theorem eql_dec (a : Bool) (s : ByteArray) (e : Int) (b : Bool) (t : ByteArray) (f : Int) (w : World) :
    (binOp .eql 23 (.agg #[.bool a, .string s, .int .i64 e]) (.agg #[.bool b, .string t, .int .i64 f])).run Tryz.prog w = .ok (.bool (eqD a s e b t f)) w := by
  rw [run_eql_struct, eqIn_dec]; rfl
theorem neq_dec (a : Bool) (s : ByteArray) (e : Int) (b : Bool) (t : ByteArray) (f : Int) (w : World) :
    (binOp .neq 23 (.agg #[.bool a, .string s, .int .i64 e]) (.agg #[.bool b, .string t, .int .i64 f])).run Tryz.prog w = .ok (.bool (!eqD a s e b t f)) w := by
  rw [run_neq_struct, eqIn_dec]; rfl
def errB (b : Bool) : Int := if b = true then 0 else 2
theorem bl_a {a w : World} (h : Below a.heap.size a w) (o : Obj) : Below a.heap.size a (w.alloc o) := h.alloc h.size o
theorem bl_d {B : Nat} {a w : World} (h : Below B a w) : Below B a w.drew := ⟨h.os, h.tape, h.output, h.size, h.block⟩
theorem bl_n {B : Nat} {a w : World} (h : Below B a w) (n : Nat) : Below B a (w.drewN n) := ⟨h.os, h.tape, h.output, h.size, h.block⟩
theorem bl_s {a w : World} (h : Below a.heap.size a w) {b o : Nat} (hb : a.heap.size ≤ b) (v : Value) : Below a.heap.size a (w.setCell ⟨b, o, none⟩ v) := h.setCell hb v
theorem bl_t {a w w2 : World} (h : Below a.heap.size a w) (h2 : Below w.heap.size w w2) : Below a.heap.size a w2 := h.trans (h2.mono h.size)
theorem good_zero {n : Bool} {s : ByteArray} {e : Int} (h : eqD n s e false ⟨#[]⟩ 0 = true) : goodB n s e = true := by
  obtain ⟨rfl, rfl, rfl⟩ := of_decide_eq_true h
  rfl
theorem good_not {n : Bool} {s : ByteArray} {e : Int} (h : eqD n s e false ⟨#[]⟩ 0 = false) : goodB n s e = (digB s && decide (-1000000 ≤ e ∧ e ≤ 1000000)) := by
  have h := of_decide_eq_false h
  unfold goodB digB
  by_cases d : DigOK s.data.toList
  · rw [decide_eq_true d, Bool.true_and]
    by_cases c : -1000000 ≤ e ∧ e ≤ 1000000
    · rw [decide_eq_true c, decide_eq_true]; exact .inr ⟨d, c⟩
    · rw [decide_eq_false c, decide_eq_false]
      rintro (g | g)
      · exact d.1 g.1
      · exact c g.2
  · rw [decide_eq_false d, Bool.false_and, decide_eq_false]
    rintro (g | g)
    · refine h ⟨g.2.1, ?_, g.2.2⟩
      have g1 : s.data.toList = [] := g.1
      obtain ⟨⟨l⟩⟩ := s
      simp only at g1
      rw [g1]
    · exact d g.1

set_option maxHeartbeats 800000 in
theorem check_any (n : Bool) (s : ByteArray) (e : Int) (w : World) (hs : s.size ≤ maxLen) :
    Calls Tryz.prog 12 #[.agg #[.bool n, .string s, .int .i64 e]] w fun r w' => r = .returned (.int .i64 (errB (goodB n s e))) ∧ Below w.heap.size w w' := by
  have hq := eqIn_dec n s e false ⟨#[]⟩ 0
  have ha := fun w => areDigits_any s w hs
  clear hs
  cases hz : eqD n s e false ⟨#[]⟩ 0
  · rw [hz] at hq
    have hg := good_not hz
    clear hz
    cases hd : digB s
    · have HG : Hid (errB (goodB n s e) = 2) := by rw [hg, hd]; rfl
      rw [hd] at ha
      clear hg hd
      go_enter Tryz.func12, Tryz.ntmps12
      go_wp2_with fail
      go_region_with (go_at_call 32; refine (nought_any _).mono ?_; rintro r w' ⟨rfl, rfl⟩)
      all_goals (try go_wp2_with (go_at_call 33; refine (ha _).mono ?_; rintro r w' ⟨rfl, rfl⟩))
      all_goals go_ret
      all_goals exact ⟨r3_int HG.out.symm, by repeat (first | exact Below.refl _ _ | refine bl_d ?_ | refine bl_a ?_ _)⟩
    · rw [hd] at ha
      by_cases c1 : e < -1000000
      · have HG : Hid (errB (goodB n s e) = 2) := by rw [hg, hd, decide_eq_false (by omega)]; rfl
        clear hg hd
        go_enter Tryz.func12, Tryz.ntmps12
        go_wp2_with fail
        go_region_with (go_at_call 32; refine (nought_any _).mono ?_; rintro r w' ⟨rfl, rfl⟩)
        all_goals (try go_wp2_with (go_at_call 33; refine (ha _).mono ?_; rintro r w' ⟨rfl, rfl⟩))
        all_goals go_ret
        all_goals exact ⟨r3_int HG.out.symm, by repeat (first | exact Below.refl _ _ | refine bl_d ?_ | refine bl_a ?_ _)⟩
      · by_cases c2 : 1000000 < e
        · have HG : Hid (errB (goodB n s e) = 2) := by rw [hg, hd, decide_eq_false (by omega)]; rfl
          clear hg hd
          go_enter Tryz.func12, Tryz.ntmps12
          go_wp2_with fail
          go_region_with (go_at_call 32; refine (nought_any _).mono ?_; rintro r w' ⟨rfl, rfl⟩)
          all_goals (try go_wp2_with (go_at_call 33; refine (ha _).mono ?_; rintro r w' ⟨rfl, rfl⟩))
          all_goals go_ret
          all_goals exact ⟨r3_int HG.out.symm, by repeat (first | exact Below.refl _ _ | refine bl_d ?_ | refine bl_a ?_ _)⟩
        · have HG : Hid (errB (goodB n s e) = 0) := by rw [hg, hd, decide_eq_true (by omega)]; rfl
          clear hg hd
          go_enter Tryz.func12, Tryz.ntmps12
          go_wp2_with fail
          go_region_with (go_at_call 32; refine (nought_any _).mono ?_; rintro r w' ⟨rfl, rfl⟩)
          all_goals (try go_wp2_with (go_at_call 33; refine (ha _).mono ?_; rintro r w' ⟨rfl, rfl⟩))
          all_goals go_ret
          all_goals exact ⟨r3_int HG.out.symm, by repeat (first | exact Below.refl _ _ | refine bl_d ?_ | refine bl_a ?_ _)⟩
  · rw [hz] at hq
    have HG : Hid (errB (goodB n s e) = 0) := by rw [good_zero hz]; rfl
    clear hz ha
    go_enter Tryz.func12, Tryz.ntmps12
    go_wp2_with fail
    go_region_with (go_at_call 32; refine (nought_any _).mono ?_; rintro r w' ⟨rfl, rfl⟩)
    all_goals (try go_wp2)
    all_goals go_ret
    all_goals exact ⟨r3_int HG.out.symm, by repeat (first | exact Below.refl _ _ | refine bl_d ?_ | refine bl_a ?_ _)⟩
end Go.Proofs.YtfhapeinfhjihaaGreatDoor
