/-
  What json's reader makes of a simple token. Conditions: as J13's.
  The heads of layer 4's statements: what must come at any rate comes. Conditions: the table of greatest code points and errors.errorType as they are laid.
-/
import Derived.Test.YtlahlnocjfphjaaGreatDoorJoined32
import Derived.Test.YtlahlnocjfphjaaGreatDoorJoined21
import Derived.Lib.SlBytesConst
namespace Go.Proofs.YtlahlnocjfphjaaGreatDoor
open Go.RowKit Go.Maps

def fS (k : Int) (n : Bool) (g : ByteArray) (e : Int) (t : ByteArray) : Nat → Value := fun i => [Value.int .i64 k, .bool n, .string g, .int .i64 e, .string t, .slice none 0 0, .slice none 0 0].getD i .nilIface
theorem vi_fS (w : World) (X : Nat → Prop) (k : Int) (n : Bool) (g : ByteArray) (e : Int) (t : ByteArray) (hk : (Lit.int .i64 k).wf = true) (he : (Lit.int .i64 e).wf = true) (hg : g.size ≤ maxLen) (ht : t.size ≤ maxLen) : VI w X (.mk k n g e t [] []) (fS k n g e t) :=
  VI.mk none 0 (fun _ _ => .nilIface) rfl rfl rfl rfl rfl rfl ⟨none, 0, rfl, Nat.le_refl _, by unfold maxLen; omega, fun s hs => by simp at hs, Or.inl rfl⟩ ⟨Nat.le_refl _, by unfold maxLen; omega⟩ ⟨hg, ht⟩ ⟨hk, he⟩ (Or.inl rfl) (fun i hi => absurd hi (by simp))
/-- What a simple token is. -/
def simF (m : LM) (t : Lx.Tok) (p : Nat) : Nat → Value :=
  match (simpleS m t p).1 with
  | .mk k n g e x _ _ => fS k n g e x
theorem wf_of {x : Int} (h0 : -9223372036854775808 ≤ x) (h1 : x ≤ 9223372036854775807) : (Lit.int .i64 x).wf = true := by
  simp only [Lit.wf, Bool.and_eq_true, decide_eq_true_eq]
  have e1 : IntKind.min .i64 = -9223372036854775808 := by decide
  have e2 : IntKind.max .i64 = 9223372036854775807 := by decide
  rw [e1, e2]; exact ⟨h0, h1⟩
theorem lim_ex (m : LM) (s : List UInt8) : -1000000 ≤ (limL m s).1.ex ∧ (limL m s).1.ex ≤ 1000000 := by
  unfold limL
  split
  · decide
  · split
    · decide
    · exact ex_lo s
set_option maxRecDepth 100000 in
set_option maxHeartbeats 1600000 in
theorem simple_any (t : Lx.Tok) (a : Addr) (rb i : Nat) (v ov : Value) (lm : Nat → Int) (dp ps : Nat) (w : World) (hE : Env w a) (hR : Rd w rb (RF v lm i ov dp ps)) (ht : t.text.length ≤ 1048576) (h3 : 0 ≤ lm 2 ∧ lm 2 ≤ 1000000) :
    Calls Tryz.prog 80 #[.pointer (some ⟨rb, 0, none⟩), Lx.tokV t] w fun r w' => r = .returned (va (simF (LMof lm) t ps)) ∧ But (· = rb) w w' ∧ Rd w' rb (RF v lm i ov dp (simpleS (LMof lm) t ps).2) := by
  obtain ⟨P, hP⟩ : ∃ P : Ending → World → Prop, P = fun r w' => r = .returned (va (simF (LMof lm) t ps)) ∧ But (· = rb) w w' ∧ Rd w' rb (RF v lm i ov dp (simpleS (LMof lm) t ps).2) := ⟨_, rfl⟩
  rw [← hP]
  have HP := hid_intro hP
  obtain ⟨kd, tx, fr, te⟩ := t
  obtain ⟨A, hA⟩ : ∃ A, (w.alloc (.cells #[.int .i64 (kd : Int), .string ⟨tx.toArray⟩, .int .i64 (fr : Int), .int .i64 (te : Int)] 50)).alloc (.cells #[.int .i64 0, .bool false, .string ⟨#[]⟩, .int .i64 0, .string ⟨#[]⟩, .slice none 0 0, .slice none 0 0] 31) = A := ⟨_, rfl⟩
  have HBA : Hid (Below w.heap.size w A) := hid_intro (hA ▸ vb_a (vb_a (Below.refl _ _) _) _)
  have HTA : Hid (Bj A w.heap.size #[.int .i64 (kd : Int), .string ⟨tx.toArray⟩, .int .i64 (fr : Int), .int .i64 (te : Int)]) := hid_intro (hA ▸ (Bj.new _ _ _).al _)
  have HVA : Hid (Bj A (w.heap.size + 1) zV7) := hid_intro (hA ▸ Bj.new' _ _ _ _ (by simp))
  have HRA := hid_intro (hR.below HBA.out)
  have hne : w.heap.size + 1 ≠ rb := by have := hR.lt; omega
  have HN := hid_intro (number_any ⟨tx.toArray⟩ a rb i v ov lm dp ps A (hE.below HBA.out) HRA.out (by simpa [ByteArray.size] using ht) h3)
  have HWd := hid_intro (wordKind_any (kd : Int) ⟨tx.toArray⟩ (fr : Int) (te : Int) A)
  have HF : Hid (∀ w' F, But (· = rb) w w' → Rd w' rb F → ∀ x0 x1 x2 x3 x4 x5 x6, But (· = rb) w (set7 w' (w.heap.size + 1) x0 x1 x2 x3 x4 x5 x6) ∧ Rd (set7 w' (w.heap.size + 1) x0 x1 x2 x3 x4 x5 x6) rb F) := hid_intro (fun w' F hb hr x0 x1 x2 x3 x4 x5 x6 => ⟨set7_but hb (Or.inr (Nat.le_succ _)) _ _ _ _ _ _ _, set7_rd hr hne _ _ _ _ _ _ _⟩)
  obtain ⟨t0, t1, t2, t3⟩ := HTA.out.c4
  obtain ⟨y0, y1, y2, y3, y4, y5, y6⟩ := HVA.out.c7
  obtain ⟨z0, z1, z2, z3, z4, z5, z6⟩ := HVA.out.z7
  unfold Lx.tokV
  unfold set7 at HF
  clear hP hR hE ht h3
  by_cases k1 : kd = 1
  · have HS : Hid (simpleS (LMof lm) ⟨kd, tx, fr, te⟩ ps = (.mk 4 false ⟨#[]⟩ 0 ⟨tx.toArray⟩ [] [], ps)) := hid_intro (by unfold simpleS; rw [if_pos k1])
    have hk1 : ((kd : Int) == 1) = true := by simp; omega
    clear k1
    go_enter Tryz.func80, Tryz.ntmps80
    go_wp2_with fail
    refine bodyPost_ret (v := .agg #[.int .i64 4, .bool false, .string ⟨#[]⟩, .int .i64 0, .string ⟨tx.toArray⟩, .slice none 0 0, .slice none 0 0]) (by simp [results, Tryz.results80, go_sem, y0, y1, y2, y3, y4, y5, y6]) rfl ?_
    rw [HP.out]
    unfold simF
    rw [HS.out]
    exact ⟨rfl, HF.out _ _ (But.ofBelow HBA.out) HRA.out _ _ _ _ _ _ _⟩
  · have hk1 : ¬ ((kd : Int) = 1) := by omega
    have hk1b : ((kd : Int) == 1) = false := by simpa using hk1
    by_cases k2 : kd = 2
    · have hk2 : ((kd : Int) == 2) = true := by simp; omega
      have HK2 := hid_intro k2
      clear k1 hk1 k2
      have HS : Hid (∀ d q, (if ps ≠ 0 then zeroD else (limL (LMof lm) tx).1) = d → (if ps ≠ 0 then ps else (limL (LMof lm) tx).2) = q → simpleS (LMof lm) ⟨kd, tx, fr, te⟩ ps = (numJ d, q)) := hid_intro (fun d q h1 h2 => by
        subst h1 h2
        unfold simpleS
        rw [if_neg (by have := HK2.out; simp only; omega), if_pos HK2.out]
        by_cases hp : ps ≠ 0
        · rw [if_pos hp, if_pos hp, if_pos hp]
        · rw [if_neg hp, if_neg hp, if_neg hp])
      have e0 : (ByteArray.mk tx.toArray).data.toList = tx := rfl
      rw [e0] at HN
      generalize hd : (if ps ≠ 0 then zeroD else (limL (LMof lm) tx).1) = d at *
      generalize hq : (if ps ≠ 0 then ps else (limL (LMof lm) tx).2) = q at *
      have HS2 := hid_intro (HS.out d q rfl rfl)
      obtain ⟨neg, dg, ex⟩ := d
      have HN2 : Hid (Calls Tryz.prog 105 #[.pointer (some ⟨rb, 0, none⟩), .string ⟨tx.toArray⟩] A fun r w' => r = .returned (.agg #[.bool neg, .string (bs dg), .int .i64 ex]) ∧ But (· = rb) A w' ∧ Rd w' rb (RF v lm i ov dp q)) := HN
      clear hd hq HN HS
      go_enter Tryz.func80, Tryz.ntmps80
      go_wp2_with fail
      refine HN2.out.mono ?_; rintro r w1 ⟨rfl, hb1, hr1⟩
      have HV1 : Hid (Bj w1 (w.heap.size + 1) zV7) := hid_intro (HVA.out.but hb1 hne)
      obtain ⟨u0, u1, u2, u3, u4, u5, u6⟩ := HV1.out.c7
      obtain ⟨s0, s1, s2, s3, s4, s5, s6⟩ := HV1.out.z7
      have HF1 := hid_intro (HF.out w1 _ ((But.ofBelow HBA.out : But (· = rb) w A).trans hb1) hr1)
      clear hb1 hr1 y0 y1 y2 y3 y4 y5 y6 z0 z1 z2 z3 z4 z5 z6 t0 t1 t2 t3
      go_wp2_with fail
      refine bodyPost_ret (v := .agg #[.int .i64 3, .bool neg, .string (bs dg), .int .i64 ex, .string ⟨#[]⟩, .slice none 0 0, .slice none 0 0]) (by simp [results, Tryz.results80, go_sem, u0, u1, u2, u3, u4, u5, u6]) rfl ?_
      rw [HP.out]
      unfold simF
      rw [HS2.out]
      exact ⟨rfl, HF1.out _ _ _ _ _ _ _⟩
    · have hk2 : ((kd : Int) == 2) = false := by simp; omega
      have HS : Hid (simpleS (LMof lm) ⟨kd, tx, fr, te⟩ ps = (zeroJ (wordL kd ⟨tx.toArray⟩ fr te), ps)) := hid_intro (by unfold simpleS; rw [if_neg k1, if_neg k2])
      unfold tkV at HWd
      generalize wordL kd ⟨tx.toArray⟩ fr te = wk at *
      clear k1 k2 hk1
      go_enter Tryz.func80, Tryz.ntmps80
      go_wp2_with fail
      refine HWd.out.mono ?_; rintro r w1 ⟨rfl, hb1⟩
      have HV1 : Hid (Bj w1 (w.heap.size + 1) zV7) := hid_intro (HVA.out.bel hb1)
      obtain ⟨u0, u1, u2, u3, u4, u5, u6⟩ := HV1.out.c7
      obtain ⟨s0, s1, s2, s3, s4, s5, s6⟩ := HV1.out.z7
      have HF1 := hid_intro (HF.out w1 _ (But.ofBelow (vb_t HBA.out hb1)) (HRA.out.below hb1))
      clear hb1 y0 y1 y2 y3 y4 y5 y6 z0 z1 z2 z3 z4 z5 z6 t0 t1 t2 t3
      go_wp2_with fail
      refine bodyPost_ret (v := .agg #[.int .i64 wk, .bool false, .string ⟨#[]⟩, .int .i64 0, .string ⟨#[]⟩, .slice none 0 0, .slice none 0 0]) (by simp [results, Tryz.results80, go_sem, u0, u1, u2, u3, u4, u5, u6]) rfl ?_
      rw [HP.out]
      unfold simF
      rw [HS.out]
      exact ⟨rfl, HF1.out _ _ _ _ _ _ _⟩
end Go.Proofs.YtlahlnocjfphjaaGreatDoor

namespace Go.Proofs.YtlahlnocjfphjaaGreatDoor.Lx
open Go.RowKit
attribute [local go_sem] setCell_drewN alloc_drewN

/-- Are two tokens the same. -/
def eqT (a : Int) (s : ByteArray) (e g : Int) (b : Int) (t : ByteArray) (f h : Int) : Bool := decide (a = b ∧ s = t ∧ e = f ∧ g = h)
theorem eq_bytes (s t : ByteArray) : (s.toList == t.toList) = decide (s = t) := by
  rw [← beq_toListBytes]
  obtain ⟨⟨x⟩⟩ := s
  obtain ⟨⟨y⟩⟩ := t
  show ((⟨x⟩ : Array UInt8) == ⟨y⟩) = _
  by_cases h : x = y
  · subst h; simp
  · rw [decide_eq_false (fun e => h (by simpa using e))]; simpa using h
theorem eqIn_tok (a : Int) (s : ByteArray) (e g : Int) (b : Int) (t : ByteArray) (f h : Int) (w : World) :
    (Op.equalIn 10000 50 (.agg #[.int .i64 a, .string s, .int .i64 e, .int .i64 g]) (.agg #[.int .i64 b, .string t, .int .i64 f, .int .i64 h])).run Tryz.prog w = .ok (eqT a s e g b t f h) w := by
  have u3 := Tryz.underlying3
  have u4 := Tryz.underlying48
  have u9 := Tryz.underlying9
  have a3 := Tryz.isAgg3
  have a4 := Tryz.isAgg48
  have a9 := Tryz.isAgg9
  have z3 := Tryz.sizeOf3
  have z4 := Tryz.sizeOf48
  have z9 := Tryz.sizeOf9
  have hS : Tryz.prog.underlying 50 = some (.struct (Tryz.prog.fieldsOf 50)) := by kernel_rfl
  have hp : Tryz.prog.stoodInHeld 50 = false := by kernel_rfl
  rw [show (10000 : Nat) = 9999 + 1 from rfl, run_equalIn_agg w 9999 50 _ _ hS hp]
  simp only [Program.fieldsOf, Tryz.underlying50]
  go_simp
  have hl : (s.toList = t.toList) ↔ s = t := by
    have := eq_bytes s t
    rw [Bool.eq_iff_iff] at this
    simpa using this
  unfold eqT
  by_cases h1 : a = b <;> by_cases h2 : s = t <;> by_cases h3 : e = f <;> by_cases h4 : g = h <;> simp [h1, h2, h3, h4, hl]

theorem nx1 : nextL [32, 34, 97, 92, 117, 48, 48, 101, 57, 34] 0 = .ok ⟨1, [97, 195, 169], 1, 10⟩ := by kernel_rfl
theorem nx2 : nextL [110, 117, 108] 0 = .error 4 := by kernel_rfl
theorem nx3 : nextL [45, 120] 0 = .error 2 := by kernel_rfl
theorem nx4 : nextL [34, 92, 117, 100, 56, 48, 48, 120] 0 = .error 8 := by kernel_rfl

theorem conv_lit (w : World) (b n : Nat) (C : Array Value) (m : Nat) (hb : w.heap.size = b) (hm : C.size = m) : (convert 22 22 (.slice (some ⟨b, 0, none⟩) n n)).run Tryz.prog (w.alloc (.cells C 5)) = .ok (.slice (some ⟨b, 0, none⟩) n n) (w.alloc (.cells C 5 (m, m + 1))) := by
  subst hb hm
  exact Go.Lib.run_convert_bytes_const w 22 5 C n n Tryz.underlying22 Tryz.underlying5
theorem row_fz (w : World) (l : List UInt8) (ty : TypeId) (fr : Nat × Nat) (hm : l.length ≤ 1000) : Row (w.alloc (.cells (l.map fun c => Value.int .u8 (c.toNat : Nat)).toArray ty fr)) (.slice (some ⟨w.heap.size, 0, none⟩) l.length l.length) l.length (bx l) :=
  .inr ⟨w.heap.size, 0, l.length, rfl, Nat.le_refl _, by unfold maxLen; omega, ⟨fun i hi => by
    have : (w.alloc (.cells (l.map fun c => Value.int .u8 (c.toNat : Nat)).toArray ty fr)).heap[w.heap.size]? = some (.cells (l.map fun c => Value.int .u8 (c.toNat : Nat)).toArray ty fr) := by
      show (w.heap.push _)[w.heap.size]? = _
      simp
    simp only [World.cell?, this]
    simp [bx, hi], bx_lo l, bx_hi l⟩⟩
theorem keepC {W w' : World} {cs : Array Value} {t : TypeId} (h : Below (W.alloc (.cells cs t)).heap.size (W.alloc (.cells cs t)) w') : (∀ o, w'.cell? ⟨W.heap.size, o, none⟩ = cs[o]?) ∧ W.heap.size < w'.heap.size := by
  have z := h.size
  simp only [World.size_alloc] at z
  refine ⟨fun o => ?_, by omega⟩
  rw [h.cell (p := ⟨W.heap.size, o, none⟩) (by simp only [World.size_alloc]; omega)]
  simp [go_sem]
/-- lex.Next of bytes in a literal. -/
theorem next_lit (l : List UInt8) (r : Tk) (cs : Array Value) (n : Nat) (w : World) (b : Nat) (hE : Env w) (hc : cs = (l.map fun c => Value.int .u8 (c.toNat : Nat)).toArray) (hn : n = l.length) (hb : w.heap.size = b) (hm : l.length ≤ 1000) (hr : nextL l 0 = r) :
    Calls Tryz.prog 17 #[.slice (some ⟨b, 0, none⟩) n n, .int .i64 0] (w.alloc (.cells cs 5 (n, n + 1))) fun e w' => e = .returned (nxV r) ∧ Below (w.alloc (.cells cs 5 (n, n + 1))).heap.size (w.alloc (.cells cs 5 (n, n + 1))) w' := by
  subst hc hn hb hr
  exact next_any l 0 _ _ (hE.below (bl_a (Below.refl _ _) _)) (row_fz w l 5 _ hm) (Nat.zero_le _) (by omega)
