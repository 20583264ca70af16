/-
  The heads of layer 4's statements: what must come at any rate comes. Conditions: the table of greatest code points and errors.errorType as they are laid.
-/
import Derived.Test.YtngpkgmgjbahgaaDoorV17
import Derived.Lib.SlBytesConst
namespace Go.Proofs.YtngpkgmgjbahgaaDoor
open Go.RowKit
attribute [local go_sem] setCell_drewN alloc_drewN

/-- Are two tokens the same. -/
def eqT (a : Int) (s : ByteArray) (e g : Int) (b : Int) (t : ByteArray) (f h : Int) : Bool := decide (a = b ∧ s = t ∧ e = f ∧ g = h)
theorem eq_bytes (s t : ByteArray) : (s.toList == t.toList) = decide (s = t) := by
  rw [← beq_toListBytes]
  obtain ⟨⟨x⟩⟩ := s
  obtain ⟨⟨y⟩⟩ := t
  show ((⟨x⟩ : Array UInt8) == ⟨y⟩) = _
  by_cases h : x = y
  · subst h; simp
  · rw [decide_eq_false (fun e => h (by simpa using e))]; simpa using h
theorem eqIn_tok (a : Int) (s : ByteArray) (e g : Int) (b : Int) (t : ByteArray) (f h : Int) (w : World) :
    (Op.equalIn 10000 25 (.agg #[.int .i64 a, .string s, .int .i64 e, .int .i64 g]) (.agg #[.int .i64 b, .string t, .int .i64 f, .int .i64 h])).run Tryd.prog w = .ok (eqT a s e g b t f h) w := by
  have u3 := Tryd.underlying3
  have u4 := Tryd.underlying23
  have u9 := Tryd.underlying9
  have a3 := Tryd.isAgg3
  have a4 := Tryd.isAgg23
  have a9 := Tryd.isAgg9
  have z3 := Tryd.sizeOf3
  have z4 := Tryd.sizeOf23
  have z9 := Tryd.sizeOf9
  have hS : Tryd.prog.underlying 25 = some (.struct (Tryd.prog.fieldsOf 25)) := by kernel_rfl
  have hp : Tryd.prog.stoodInHeld 25 = false := by kernel_rfl
  rw [show (10000 : Nat) = 9999 + 1 from rfl, run_equalIn_agg w 9999 25 _ _ hS hp]
  simp only [Program.fieldsOf, Tryd.underlying25]
  go_simp
  have hl : (s.toList = t.toList) ↔ s = t := by
    have := eq_bytes s t
    rw [Bool.eq_iff_iff] at this
    simpa using this
  unfold eqT
  by_cases h1 : a = b <;> by_cases h2 : s = t <;> by_cases h3 : e = f <;> by_cases h4 : g = h <;> simp [h1, h2, h3, h4, hl]

theorem nx1 : nextL [32, 34, 97, 92, 117, 48, 48, 101, 57, 34] 0 = .ok ⟨1, [97, 195, 169], 1, 10⟩ := by kernel_rfl
theorem nx2 : nextL [110, 117, 108] 0 = .error 4 := by kernel_rfl
theorem nx3 : nextL [45, 120] 0 = .error 2 := by kernel_rfl
theorem nx4 : nextL [34, 92, 117, 100, 56, 48, 48, 120] 0 = .error 8 := by kernel_rfl

theorem conv_lit (w : World) (b n : Nat) (C : Array Value) (m : Nat) (hb : w.heap.size = b) (hm : C.size = m) : (convert 22 22 (.slice (some ⟨b, 0, none⟩) n n)).run Tryd.prog (w.alloc (.cells C 5)) = .ok (.slice (some ⟨b, 0, none⟩) n n) (w.alloc (.cells C 5 (m, m + 1))) := by
  subst hb hm
  exact Go.Lib.run_convert_bytes_const w 22 5 C n n Tryd.underlying22 Tryd.underlying5
theorem row_fz (w : World) (l : List UInt8) (ty : TypeId) (fr : Nat × Nat) (hm : l.length ≤ 1000) : Row (w.alloc (.cells (l.map fun c => Value.int .u8 (c.toNat : Nat)).toArray ty fr)) (.slice (some ⟨w.heap.size, 0, none⟩) l.length l.length) l.length (bx l) :=
  .inr ⟨w.heap.size, 0, l.length, rfl, Nat.le_refl _, by unfold maxLen; omega, ⟨fun i hi => by
    have : (w.alloc (.cells (l.map fun c => Value.int .u8 (c.toNat : Nat)).toArray ty fr)).heap[w.heap.size]? = some (.cells (l.map fun c => Value.int .u8 (c.toNat : Nat)).toArray ty fr) := by
      show (w.heap.push _)[w.heap.size]? = _
      simp
    simp only [World.cell?, this]
    simp [bx, hi], bx_lo l, bx_hi l⟩⟩
theorem keepC {W w' : World} {cs : Array Value} {t : TypeId} (h : Below (W.alloc (.cells cs t)).heap.size (W.alloc (.cells cs t)) w') : (∀ o, w'.cell? ⟨W.heap.size, o, none⟩ = cs[o]?) ∧ W.heap.size < w'.heap.size := by
  have z := h.size
  simp only [World.size_alloc] at z
  refine ⟨fun o => ?_, by omega⟩
  rw [h.cell (p := ⟨W.heap.size, o, none⟩) (by simp only [World.size_alloc]; omega)]
  simp [go_sem]
/-- lex.Next of bytes in a literal. -/
theorem next_lit (l : List UInt8) (r : Tk) (cs : Array Value) (n : Nat) (w : World) (b : Nat) (hE : Env w) (hc : cs = (l.map fun c => Value.int .u8 (c.toNat : Nat)).toArray) (hn : n = l.length) (hb : w.heap.size = b) (hm : l.length ≤ 1000) (hr : nextL l 0 = r) :
    Calls Tryd.prog 4 #[.slice (some ⟨b, 0, none⟩) n n, .int .i64 0] (w.alloc (.cells cs 5 (n, n + 1))) fun e w' => e = .returned (nxV r) ∧ Below (w.alloc (.cells cs 5 (n, n + 1))).heap.size (w.alloc (.cells cs 5 (n, n + 1))) w' := by
  subst hc hn hb hr
  exact next_any l 0 _ _ (hE.below (bl_a (Below.refl _ _) _)) (row_fz w l 5 _ hm) (Nat.zero_le _) (by omega)

set_option maxRecDepth 100000 in
set_option maxHeartbeats 3200000 in
theorem heads4_any (w : World) (hE : Env w) :
    Calls Tryd.prog 5 #[] w fun r w' => r = .returned (.bool true) ∧ Below w.heap.size w w' := by
  have n1 := fun (w' : World) (b : Nat) (hk : w'.heap.size = b) (hE' : Env w') => next_lit [32, 34, 97, 92, 117, 48, 48, 101, 57, 34] _ #[.int .u8 32, .int .u8 34, .int .u8 97, .int .u8 92, .int .u8 117, .int .u8 48, .int .u8 48, .int .u8 101, .int .u8 57, .int .u8 34] 10 w' b hE' rfl rfl hk (by decide) nx1
  have n2 := fun (w' : World) (b : Nat) (hk : w'.heap.size = b) (hE' : Env w') => next_lit [110, 117, 108] _ #[.int .u8 110, .int .u8 117, .int .u8 108] 3 w' b hE' rfl rfl hk (by decide) nx2
  have n3 := fun (w' : World) (b : Nat) (hk : w'.heap.size = b) (hE' : Env w') => next_lit [45, 120] _ #[.int .u8 45, .int .u8 120] 2 w' b hE' rfl rfl hk (by decide) nx3
  have n4 := fun (w' : World) (b : Nat) (hk : w'.heap.size = b) (hE' : Env w') => next_lit [34, 92, 117, 100, 56, 48, 48, 120] _ #[.int .u8 34, .int .u8 92, .int .u8 117, .int .u8 100, .int .u8 56, .int .u8 48, .int .u8 48, .int .u8 120] 8 w' b hE' rfl rfl hk (by decide) nx4
  simp only [nxV, tokV] at n1 n2 n3 n4
  have q1 := eqIn_tok 1 ⟨#[97, 195, 169]⟩ 1 10 1 ⟨#[97, 195, 169]⟩ 1 10
  rw [show eqT 1 ⟨#[97, 195, 169]⟩ 1 10 1 ⟨#[97, 195, 169]⟩ 1 10 = true by decide +kernel] at q1
  have cv1 := conv_lit w _ 10 #[.int .u8 32, .int .u8 34, .int .u8 97, .int .u8 92, .int .u8 117, .int .u8 48, .int .u8 48, .int .u8 101, .int .u8 57, .int .u8 34] 10 rfl rfl
  go_enter Tryd.func5, Tryd.ntmps5
  go_wp2_with fail
  refine (n1 _ _ rfl hE).mono ?_
  rintro r w1 ⟨rfl, hb1⟩
  have hA1 := bl_t (bl_a (Below.refl w.heap.size w) _) hb1
  have hE1 := hE.below (bl_a hA1 (.cells #[.int .i64 1, .string ⟨#[97, 195, 169]⟩, .int .i64 1, .int .i64 10] 25))
  have cv2 := conv_lit (w1.alloc (.cells #[.int .i64 1, .string ⟨#[97, 195, 169]⟩, .int .i64 1, .int .i64 10] 25)) (w1.heap.size + 1) 3 #[.int .u8 110, .int .u8 117, .int .u8 108] 3 (by simp) rfl
  go_wp2_with fail
  refine (n2 _ _ (by simp) hE1).mono ?_
  rintro r w2 ⟨rfl, hb2⟩
  have hA2 := bl_t (bl_a (Below.refl _ _) _) hb2
  have hE2 := hE1.below (bl_a hA2 (.cells #[.int .i64 0, .string ⟨#[]⟩, .int .i64 0, .int .i64 0] 25))
  have cv3 := conv_lit (w2.alloc (.cells #[.int .i64 0, .string ⟨#[]⟩, .int .i64 0, .int .i64 0] 25)) (w2.heap.size + 1) 2 #[.int .u8 45, .int .u8 120] 2 (by simp) rfl
  go_wp2_with fail
  refine (n3 _ _ (by simp) hE2).mono ?_
  rintro r w3 ⟨rfl, hb3⟩
  have hA3 := bl_t (bl_a (bl_a hA2 (.cells #[.int .i64 0, .string ⟨#[]⟩, .int .i64 0, .int .i64 0] 25)) _) hb3
  have hE3 := hE1.below (bl_a hA3 (.cells #[.int .i64 0, .string ⟨#[]⟩, .int .i64 0, .int .i64 0] 25))
  have cv4 := conv_lit (w3.alloc (.cells #[.int .i64 0, .string ⟨#[]⟩, .int .i64 0, .int .i64 0] 25)) (w3.heap.size + 1) 8 #[.int .u8 34, .int .u8 92, .int .u8 117, .int .u8 100, .int .u8 56, .int .u8 48, .int .u8 48, .int .u8 120] 8 (by simp) rfl
  go_wp2_with fail
  refine (n4 _ _ (by simp) hE3).mono ?_
  rintro r w4 ⟨rfl, hb4⟩
  have hA4 := bl_t (bl_a (bl_a hA3 (.cells #[.int .i64 0, .string ⟨#[]⟩, .int .i64 0, .int .i64 0] 25)) _) hb4
  obtain ⟨kc, kz⟩ := keepC hA4
  go_wp2
  go_ret
  exact ⟨rfl, bl_t (bl_a hA1 _) (bl_a hA4 _)⟩
end Go.Proofs.YtngpkgmgjbahgaaDoor
