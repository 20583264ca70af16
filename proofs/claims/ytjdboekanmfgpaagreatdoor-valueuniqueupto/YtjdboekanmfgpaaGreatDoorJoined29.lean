/-
  What lex.badLength and lex.Next answer: the token at a place, or the bad length. Conditions: the bytes lie in memory, at most 2^45 of them; the table of greatest code points and errors.errorType as they are laid.
  What lex.Next answers: the token at a place, or the bad length. Conditions: the bytes lie in memory, at most 2^45 of them; the table of greatest code points and errors.errorType as they are laid.
  The heads of layer 4's statements: what must come at any rate comes. Conditions: the table of greatest code points and errors.errorType as they are laid.
  '[]byte(s)', and what lex.escaped answers of a byte that does not stand for itself. No condition but bounds.
  What lex.quoted answers: the string as it is written. Conditions: the bytes lie in memory, at most 2^43 of them.
  What lex.quoted and lex.Quote answer: the string as it is written. Conditions: the bytes lie in memory, at most 2^43 of them; the table of greatest code points holds its four numbers.
  What lex.Quote answers. Conditions: the text is at most 2^43 bytes long; the table of greatest code points holds its four numbers.
-/
import Derived.Test.YtjdboekanmfgpaaGreatDoorJoined28
import Derived.Lib.SlBytesConst
import Derived.Lib.ConvBytes
import Derived.Lib.AppendStr
import Derived.ArgAppend
namespace Go.Proofs.YtjdboekanmfgpaaGreatDoor.Lx
open Go.RowKit
attribute [local go_sem] setCell_drewN alloc_drewN

/-- The variables that the road reads. -/
structure Env (w : World) : Prop where
 tab : Tab w
 elt : 3 < w.heap.size
 ety : w.cell? ⟨3, 0, none⟩ = some (.iface 222 (.agg #[.pointer (some ⟨9, 78, none⟩)]))
theorem Env.below {w w' : World} (h : Env w) (hb : Below w.heap.size w w') : Env w' :=
 ⟨h.tab.below hb, Nat.lt_of_lt_of_le h.elt hb.size, by rw [hb.cell h.elt]; exact h.ety⟩

set_option maxRecDepth 100000 in
set_option maxHeartbeats 800000 in
theorem badLength_any (n : Nat) (w : World) (hE : Env w) :
  Calls Tryz.prog 160 #[.iface 184 (.agg #[.int .i64 n])] w fun r w' => r = .returned (.int .i64 n) ∧ Below w.heap.size w w' := by
 have hE1 := hE.below (bl_a (Below.refl _ _) (.cells #[.int .i64 0] 184))
 have h1 := as_hit n 0 w.heap.size (w.alloc (.cells #[.int .i64 0] 184)) hE1.elt hE1.ety (by simp [go_sem]) (by simp [go_sem])
 clear hE hE1
 go_enter Tryz.func160, Tryz.ntmps160
 go_wp2_with (go_at_call 181; refine h1.mono ?_; rintro r w2 ⟨rfl, o1, o2, o3, o4, rfl⟩; have hk : (((((w.alloc (.cells #[.int .i64 0] 184)).alloc o1).alloc o2).alloc o3).alloc o4).cell? ⟨w.heap.size, 0, none⟩ = some (.int .i64 0) := by (rw [World.cell?_alloc_past _ _ _ (by simp; omega), World.cell?_alloc_past _ _ _ (by simp; omega), World.cell?_alloc_past _ _ _ (by simp; omega), World.cell?_alloc_past _ _ _ (by simp)]; simp [go_sem]))
 go_ret
 exact ⟨rfl, (by with_reducible repeat (first | exact Below.refl _ _ | refine bl_a ?_ _ | refine bl_s ?_ (by omega) _))⟩
end Go.Proofs.YtjdboekanmfgpaaGreatDoor.Lx

namespace Go.Proofs.YtjdboekanmfgpaaGreatDoor.Lx
open Go.RowKit
attribute [local go_sem] setCell_drewN alloc_drewN

def nxV : Tk → Value
 | .ok t => .tuple #[tokV t, .int .i64 0, .int .i64 0]
 | .error n => .tuple #[tokV ⟨0, [], 0, 0⟩, .int .i64 n, .int .i64 50]
def nextL (l : List UInt8) (i : Nat) : Tk := readL l (pass l blankB i)

set_option maxRecDepth 100000 in
set_option maxHeartbeats 1600000 in
theorem next_any (l : List UInt8) (i : Nat) (v : Value) (w : World) (hE : Env w) (hB : Byt w v l) (hi : i ≤ l.length) (hm : l.length ≤ 140737488351232) :
  Calls Tryz.prog 134 #[v, .int .i64 i] w fun r w' => r = .returned (nxV (nextL l i)) ∧ Below w.heap.size w w' := by
 have hw0 : Below w.heap.size w (w.alloc (.cells #[.int .i64 0, .string ⟨#[]⟩, .int .i64 0, .int .i64 0] 120)) := bl_a (Below.refl _ _) _
 have hE1 := hE.below hw0
 have hB1 := hB.below hw0
 have g1 := passed_blank l i v _ hB1 hi (by omega)
 have hp := pass_le (l := l) (p := blankB) hi
 have g2 := fun w' (hb : Below (w.alloc (.cells #[.int .i64 0, .string ⟨#[]⟩, .int .i64 0, .int .i64 0] 120)).heap.size (w.alloc (.cells #[.int .i64 0, .string ⟨#[]⟩, .int .i64 0, .int .i64 0] 120)) w') => read_any l (pass l blankB i) v w' (hE1.below hb).tab (hB1.below hb) hp hm
 unfold nextL
 obtain ⟨a, cap, rfl, _⟩ := hB.shape
 generalize pass l blankB i = p at *
 have hiI : (i : Int) ≤ (l.length : Int) := by omega
 have hi0 : ¬ (i : Int) < 0 := by omega
 have hd0 : decide ((i : Int) < 0) = false := decide_eq_false hi0
 have hd1 : decide ((l.length : Int) < (i : Int)) = false := decide_eq_false (by omega)
 clear hi0 hB hE hp hi hm
 cases hr : readL l p with
 | error n =>
  rw [hr] at g2
  simp only [tkV, errV, tokV] at g2
  have g3 := fun w' (hb : Below (w.alloc (.cells #[.int .i64 0, .string ⟨#[]⟩, .int .i64 0, .int .i64 0] 120)).heap.size (w.alloc (.cells #[.int .i64 0, .string ⟨#[]⟩, .int .i64 0, .int .i64 0] 120)) w') => badLength_any n w' (hE1.below hb)
  clear hr hE1 hB1
  go_enter Tryz.func134, Tryz.ntmps134
  go_wp2_with (first | (go_at_call 138; refine g1.mono ?_; rintro r w2 ⟨rfl, hb2⟩) | (go_at_call 159; refine (g2 _ hb2).mono ?_; rintro r w3 ⟨rfl, hb3⟩; have hb33 := bl_t hb2 hb3) | (go_at_call 160; refine (g3 _ (bl_a hb33 _)).mono ?_; rintro r w5 ⟨rfl, hb5⟩; obtain ⟨kc, kf, kz⟩ := keepT (bl_t (bl_a hb33 _) hb5)))
  refine bodyPost_ret (v := .tuple #[tokV ⟨0, [], 0, 0⟩, .int .i64 n, .int .i64 50]) ?_ rfl ?_
  all_goals first | (exact ⟨rfl, (by with_reducible repeat (first | exact Below.refl _ _ | refine bl_t ?_ (bl_t (bl_a hb33 _) hb5) | refine bl_a ?_ _ | refine bl_s ?_ (by omega) _))⟩) | (simp [results, Tryz.results134, go_sem, tokV, kc])
 | ok t =>
  rw [hr] at g2
  simp only [tkV, tokV] at g2
  clear hr hE1 hB1
  go_enter Tryz.func134, Tryz.ntmps134
  go_wp2_with (first | (go_at_call 138; refine g1.mono ?_; rintro r w2 ⟨rfl, hb2⟩) | (go_at_call 159; refine (g2 _ hb2).mono ?_; rintro r w3 ⟨rfl, hb3⟩; have hb33 := bl_t hb2 hb3; obtain ⟨kc, kf, kz⟩ := keepT (bl_t hb2 hb3)))
  refine bodyPost_ret (v := .tuple #[tokV t, .int .i64 0, .int .i64 0]) ?_ rfl ?_
  all_goals first | (exact ⟨rfl, (by with_reducible repeat (first | exact Below.refl _ _ | refine bl_t ?_ hb33 | refine bl_a ?_ _ | refine bl_s ?_ (by omega) _))⟩) | (simp [results, Tryz.results134, go_sem, tokV, kc, kz, World.cell?_alloc_past])
end Go.Proofs.YtjdboekanmfgpaaGreatDoor.Lx

namespace Go.Proofs.YtjdboekanmfgpaaGreatDoor.Lx
open Go.RowKit
attribute [local go_sem] setCell_drewN alloc_drewN

/-- Are two tokens the same. -/
def eqT (a : Int) (s : ByteArray) (e g : Int) (b : Int) (t : ByteArray) (f h : Int) : Bool := decide (a = b ∧ s = t ∧ e = f ∧ g = h)
theorem eq_bytes (s t : ByteArray) : (s.toList == t.toList) = decide (s = t) := by
 rw [← beq_toListBytes]
 obtain ⟨⟨x⟩⟩ := s
 obtain ⟨⟨y⟩⟩ := t
 show ((⟨x⟩ : Array UInt8) == ⟨y⟩) = _
 by_cases h : x = y
 ·subst h; simp
 ·rw [decide_eq_false (fun e => h (by simpa using e))]; simpa using h
theorem eqIn_tok (a : Int) (s : ByteArray) (e g : Int) (b : Int) (t : ByteArray) (f h : Int) (w : World) :
  (Op.equalIn 10000 120 (.agg #[.int .i64 a, .string s, .int .i64 e, .int .i64 g]) (.agg #[.int .i64 b, .string t, .int .i64 f, .int .i64 h])).run Tryz.prog w = .ok (eqT a s e g b t f h) w := by
 have u3 := Tryz.underlying3
 have u4 := Tryz.underlying118
 have u9 := Tryz.underlying9
 have a3 := Tryz.isAgg3
 have a4 := Tryz.isAgg118
 have a9 := Tryz.isAgg9
 have z3 := Tryz.sizeOf3
 have z4 := Tryz.sizeOf118
 have z9 := Tryz.sizeOf9
 have hS : Tryz.prog.underlying 120 = some (.struct (Tryz.prog.fieldsOf 120)) := by kernel_rfl
 have hp : Tryz.prog.stoodInHeld 120 = false := by kernel_rfl
 rw [show (10000 : Nat) = 9999 + 1 from rfl, run_equalIn_agg w 9999 120 _ _ hS hp]
 simp only [Program.fieldsOf, Tryz.underlying120]
 go_simp
 have hl : (s.toList = t.toList) ↔ s = t := by
  have := eq_bytes s t
  rw [Bool.eq_iff_iff] at this
  simpa using this
 unfold eqT
 by_cases h1 : a = b <;> by_cases h2 : s = t <;> by_cases h3 : e = f <;> by_cases h4 : g = h <;> simp [h1, h2, h3, h4, hl]

theorem nx1 : nextL [32, 34, 97, 92, 117, 48, 48, 101, 57, 34] 0 = .ok ⟨1, [97, 195, 169], 1, 10⟩ := by kernel_rfl
theorem nx2 : nextL [110, 117, 108] 0 = .error 4 := by kernel_rfl
theorem nx3 : nextL [45, 120] 0 = .error 2 := by kernel_rfl
theorem nx4 : nextL [34, 92, 117, 100, 56, 48, 48, 120] 0 = .error 8 := by kernel_rfl

theorem conv_lit (w : World) (b n : Nat) (C : Array Value) (m : Nat) (hb : w.heap.size = b) (hm : C.size = m) : (convert 50 50 (.slice (some ⟨b, 0, none⟩) n n)).run Tryz.prog (w.alloc (.cells C 5)) = .ok (.slice (some ⟨b, 0, none⟩) n n) (w.alloc (.cells C 5 (m, m + 1))) := by
 subst hb hm
 exact Go.Lib.run_convert_bytes_const w 50 5 C n n Tryz.underlying50 Tryz.underlying5
theorem row_fz (w : World) (l : List UInt8) (ty : TypeId) (fr : Nat × Nat) (hm : l.length ≤ 1000) : Row (w.alloc (.cells (l.map fun c => Value.int .u8 (c.toNat : Nat)).toArray ty fr)) (.slice (some ⟨w.heap.size, 0, none⟩) l.length l.length) l.length (bx l) :=
 .inr ⟨w.heap.size, 0, l.length, rfl, Nat.le_refl _, by unfold maxLen; omega, ⟨fun i hi => by
  have : (w.alloc (.cells (l.map fun c => Value.int .u8 (c.toNat : Nat)).toArray ty fr)).heap[w.heap.size]? = some (.cells (l.map fun c => Value.int .u8 (c.toNat : Nat)).toArray ty fr) := by
   show (w.heap.push _)[w.heap.size]? = _
   simp
  simp only [World.cell?, this]
  simp [bx, hi], bx_lo l, bx_hi l⟩⟩
theorem keepC {W w' : World} {cs : Array Value} {t : TypeId} (h : Below (W.alloc (.cells cs t)).heap.size (W.alloc (.cells cs t)) w') : (∀ o, w'.cell? ⟨W.heap.size, o, none⟩ = cs[o]?) ∧ W.heap.size < w'.heap.size := by
 have z := h.size
 simp only [World.size_alloc] at z
 refine ⟨fun o => ?_, by omega⟩
 rw [h.cell (p := ⟨W.heap.size, o, none⟩) (by simp only [World.size_alloc]; omega)]
 simp [go_sem]
/-- lex.Next of bytes in a literal. -/
theorem next_lit (l : List UInt8) (r : Tk) (cs : Array Value) (n : Nat) (w : World) (b : Nat) (hE : Env w) (hc : cs = (l.map fun c => Value.int .u8 (c.toNat : Nat)).toArray) (hn : n = l.length) (hb : w.heap.size = b) (hm : l.length ≤ 1000) (hr : nextL l 0 = r) :
  Calls Tryz.prog 134 #[.slice (some ⟨b, 0, none⟩) n n, .int .i64 0] (w.alloc (.cells cs 5 (n, n + 1))) fun e w' => e = .returned (nxV r) ∧ Below (w.alloc (.cells cs 5 (n, n + 1))).heap.size (w.alloc (.cells cs 5 (n, n + 1))) w' := by
 subst hc hn hb hr
 exact next_any l 0 _ _ (hE.below (bl_a (Below.refl _ _) _)) (row_fz w l 5 _ hm) (Nat.zero_le _) (by omega)
end Go.Proofs.YtjdboekanmfgpaaGreatDoor.Lx

namespace Go.Proofs.YtjdboekanmfgpaaGreatDoor.Lx
open Go.RowKit
attribute [local go_sem] setCell_drewN alloc_drewN

theorem bl_bytes (w : World) (s : ByteArray) : Below w.heap.size w (Lib.bytesWorld w 5 s) :=
 ⟨rfl, rfl, rfl, by rw [Lib.bytesWorld_size]; omega, fun k hk => Lib.bytesWorld_at_old w _ s k hk⟩
theorem byt_str (w : World) (s : ByteArray) (hs : s.size ≤ maxLen) : Byt (Lib.bytesWorld w 5 s) (.slice (some ⟨w.heap.size, 0, none⟩) s.size (grownCap w s.size 0 5)) s.data.toList := by
 unfold Byt
 have e : s.data.toList.length = s.size := Array.length_toList
 rw [e]
 refine .inr ⟨w.heap.size, 0, _, rfl, grownCap_ge _ _ _ _, grownCap_le_maxLen w s.size 0 _ hs, ⟨fun i hi => ?_, bx_lo _, bx_hi _⟩⟩
 rw [Nat.zero_add, Lib.bytesWorld_cell w _ s i hi]
 simp [bx, List.getD_eq_getElem?_getD]
theorem conv_str (w : World) (s : ByteArray) : (convert 9 50 (.string s)).run Tryz.prog w = .ok (.slice (some ⟨w.heap.size, 0, none⟩) s.size (grownCap w s.size 0 5)) (Lib.bytesWorld w 5 s) :=
 Lib.run_convert_string_bytes w _ _ _ s Tryz.underlying9 Tryz.underlying50 Tryz.underlying5

/-- How a byte that does not stand for itself is written. -/
def hexC (n : Nat) : UInt8 := [48, 49, 50, 51, 52, 53, 54, 55, 56, 57, 97, 98, 99, 100, 101, 102].getD n 0
def escOne (c : UInt8) : List UInt8 :=
 if c = 34 then [92, 34] else if c = 92 then [92, 92] else if c = 8 then [92, 98] else if c = 12 then [92, 102] else if c = 10 then [92, 110] else if c = 13 then [92, 114] else if c = 9 then [92, 116]
 else [92, 117, 48, 48, hexC (c.toNat / 16), hexC (c.toNat % 16)]

set_option maxRecDepth 100000 in
set_option maxHeartbeats 3200000 in
theorem escaped_lit (k : Nat) (hk : k < 32 ∨ k = 34 ∨ k = 92) (w : World) :
  Calls Tryz.prog 140 #[.int .u8 k] w fun r w' => r = .returned (.string ⟨(escOne (UInt8.ofNat k)).toArray⟩) ∧ ∃ n, w' = w.drewN n := by
 have e : k = 34 ∨ k = 92 ∨ k = 8 ∨ k = 12 ∨ k = 10 ∨ k = 13 ∨ k = 9 ∨ (k < 32 ∧ k ≠ 8 ∧ k ≠ 9 ∧ k ≠ 10 ∧ k ≠ 12 ∧ k ≠ 13) := by omega
 rcases e with rfl | rfl | rfl | rfl | rfl | rfl | rfl | e
 iterate 7
  ·go_enter Tryz.func140, Tryz.ntmps140
   go_wp2
   go_ret
   exact ⟨rfl, 0, rfl⟩
 have e : k = 0 ∨ k = 1 ∨ k = 2 ∨ k = 3 ∨ k = 4 ∨ k = 5 ∨ k = 6 ∨ k = 7 ∨ k = 11 ∨ k = 14 ∨ k = 15 ∨ k = 16 ∨ k = 17 ∨ k = 18 ∨ k = 19 ∨ k = 20 ∨ k = 21 ∨ k = 22 ∨ k = 23 ∨ k = 24 ∨ k = 25 ∨ k = 26 ∨ k = 27 ∨ k = 28 ∨ k = 29 ∨ k = 30 ∨ k = 31 := by omega
 rcases e with rfl | rfl | rfl | rfl | rfl | rfl | rfl | rfl | rfl | rfl | rfl | rfl | rfl | rfl | rfl | rfl | rfl | rfl | rfl | rfl | rfl | rfl | rfl | rfl | rfl | rfl | rfl
 all_goals
  go_enter Tryz.func140, Tryz.ntmps140
  go_wp2_with fail
  go_quiet (fail)
  go_wp2
  go_ret
  exact ⟨rfl, _, rfl⟩
end Go.Proofs.YtjdboekanmfgpaaGreatDoor.Lx

namespace Go.Proofs.YtjdboekanmfgpaaGreatDoor.Lx
open Go.RowKit
attribute [local go_sem] setCell_drewN alloc_drewN

/-- A string's bytes as they are written. -/
def bodyL (l : List UInt8) : List UInt8 := l.flatMap fun c => if plainB (c.toNat : Int) = true then [c] else escOne c
def quoteL (l : List UInt8) : List UInt8 := 34 :: (bodyL l ++ [34])
theorem body_append (a b : List UInt8) : bodyL (a ++ b) = bodyL a ++ bodyL b := by simp [bodyL]
theorem body_plain {l : List UInt8} (h : ∀ c ∈ l, plainB (c.toNat : Int) = true) : bodyL l = l := by
 induction l with
 | nil => rfl
 | cons c l ih =>
  have e : bodyL (c :: l) = (if plainB (c.toNat : Int) = true then [c] else escOne c) ++ bodyL l := by simp [bodyL]
  rw [e, if_pos (h c (by simp)), ih (fun d hd => h d (by simp [hd]))]
  rfl
theorem body_esc {c : UInt8} (h : plainB (c.toNat : Int) = false) : bodyL [c] = escOne c := by simp [bodyL, h]
theorem passL_all {l : List UInt8} {p : Int → Bool} (k : Nat) : ∀ i j, i ≤ j → j < passL l p k i → p (bx l j) = true := by
 induction k with
 | zero => intro i j h1 h2; simp only [passL] at h2; omega
 | succ k ih =>
  intro i j h1 h2
  simp only [passL] at h2
  split at h2
  ·rename_i g
   by_cases e : i = j
   ·subst e; simp [hasAt] at g; exact g.2
   ·exact ih (i + 1) j (by omega) h2
  ·omega
theorem pass_all {l : List UInt8} {p : Int → Bool} {i j : Nat} (h1 : i ≤ j) (h2 : j < pass l p i) : p (bx l j) = true := passL_all _ i j h1 h2
theorem passL_end {l : List UInt8} {p : Int → Bool} (k : Nat) : ∀ i, l.length ≤ i + k → hasAt l (passL l p k i) p = false := by
 induction k with
 | zero => intro i h; simp only [passL]; exact hasAt_out p (by omega)
 | succ k ih =>
  intro i h
  simp only [passL]
  split
  ·exact ih (i + 1) (by omega)
  ·rename_i g; simpa using g
theorem pass_end (l : List UInt8) (p : Int → Bool) (i : Nat) : hasAt l (pass l p i) p = false := passL_end _ i (by omega)
theorem take_sub (l : List UInt8) {a e : Nat} (h : a ≤ e) : l.take e = l.take a ++ sub l a e := by
 unfold sub
 rw [← List.take_add, show a + (e - a) = e by omega]
theorem body_run {l : List UInt8} {i : Nat} (hi : i ≤ l.length) : bodyL (l.take (pass l plainB i)) = bodyL (l.take i) ++ sub l i (pass l plainB i) := by
 have h1 := pass_ge l plainB i
 have h2 := pass_le (l := l) (p := plainB) hi
 rw [take_sub l h1, body_append]
 congr 1
 refine body_plain (fun c hc => ?_)
 obtain ⟨j, hj, rfl⟩ := List.getElem_of_mem hc
 have hj' : j < pass l plainB i - i := by rw [sub_length h1 h2] at hj; exact hj
 have := pass_all (l := l) (p := plainB) (i := i) (j := i + j) (by omega) (by omega)
 rw [← bx_sub hj', ← bx_at hj] at this
 exact this
theorem body_step {l : List UInt8} {e : Nat} (he : e < l.length) (h : plainB (bx l e) = false) : bodyL (l.take (e + 1)) = bodyL (l.take e) ++ escOne l[e] := by
 rw [List.take_succ_eq_append_getElem he, body_append, body_esc]
 rw [bx_at he]; exact h
theorem escOne_len (c : UInt8) : (escOne c).length ≤ 6 := by
 unfold escOne
 repeat' split
 all_goals simp
theorem body_len (l : List UInt8) : (bodyL l).length ≤ 6 * l.length := by
 induction l with
 | nil => simp [bodyL]
 | cons c l ih =>
  have e : bodyL (c :: l) = (if plainB (c.toNat : Int) = true then [c] else escOne c) ++ bodyL l := by simp [bodyL]
  rw [e, List.length_append, List.length_cons]
  have := escOne_len c
  split <;> simp <;> omega
theorem str_cells (t : List UInt8) : Lib.strCells ⟨t.toArray⟩ = cellsL t := by simp [Lib.strCells, cellsL]
theorem not_plain {c : UInt8} (h : plainB (c.toNat : Int) = false) : c.toNat < 32 ∨ c.toNat = 34 ∨ c.toNat = 92 := by
 simp [plainB] at h
 omega
theorem escaped_any (c : UInt8) (h : plainB (c.toNat : Int) = false) (w : World) :
  Calls Tryz.prog 140 #[.int .u8 (c.toNat : Int)] w fun r w' => r = .returned (.string ⟨(escOne c).toArray⟩) ∧ ∃ n, w' = w.drewN n := by
 have := escaped_lit c.toNat (not_plain h) w
 rw [UInt8.ofNat_toNat] at this
 exact this
theorem own_str {w : World} {base : Nat} {v : Value} {a b : List UInt8} {n : Nat} (hn : n = a.length) (h : w.ownsRow base 5 1 v (n + (ByteArray.mk b.toArray).size) (cellsL a ++ Lib.strCells ⟨b.toArray⟩)) : w.ownsRow base 5 1 v (a ++ b).length (cellsL (a ++ b)) := by
 subst hn
 rw [str_cells, cells_cat] at h
 rw [List.length_append]
 simpa [ByteArray.size] using h
end Go.Proofs.YtjdboekanmfgpaaGreatDoor.Lx

namespace Go.Proofs.YtjdboekanmfgpaaGreatDoor.Lx
open Go.RowKit
attribute [local go_sem] setCell_drewN alloc_drewN

set_option maxRecDepth 100000 in
set_option maxHeartbeats 6400000 in
theorem quoted_any (l : List UInt8) (bb off capv : Nat) (w : World) (hLb : Lies w bb off l.length (bx l)) (hcb : l.length ≤ capv) (hmb : capv ≤ maxLen) (hm : l.length ≤ 8796093022208) :
  Calls Tryz.prog 121 #[.slice (some ⟨bb, off, none⟩) l.length capv] w fun r w' => r = .returned (.string ⟨(quoteL l).toArray⟩) ∧ Below w.heap.size w w' := by
 have hB : Byt w (.slice (some ⟨bb, off, none⟩) l.length capv) l := .inr ⟨bb, off, capv, rfl, hcb, hmb, hLb⟩
 have hcI : (capv : Int) ≤ 9223372036854775807 := by unfold maxLen at hmb; omega
 have hcI2 : (l.length : Int) ≤ (capv : Int) := by omega
 have hlI : (l.length : Int) ≤ 8796093022208 := by omega
 have hmk := make_bytes w (l.length + 2) (by omega)
 have hok := make_own w (l.length + 2) (by unfold maxLen; omega)
 rw [show ((l.length + 2 : Nat) : Int) = (l.length : Int) + 2 by omega] at hmk
 obtain ⟨M, hM⟩ : ∃ M, w.alloc (.cells (madeCells #[.int .u8 0] (l.length + 2)) 5) = M := ⟨_, rfl⟩
 have hbM : Below w.heap.size w M := by rw [← hM]; exact bl_a (Below.refl _ _) _
 rw [hM] at hmk hok
 clear hM
 have hok1 := hok.alloc (.cells #[.int .u8 34] 5)
 have hR1 := row_ws M [34] 5 (by decide)
 obtain ⟨i0, hi0, hz0, hz1, hz2⟩ := info_parts info5
 go_enter Tryz.func121, Tryz.ntmps121
 go_wp2_with (at_builtin; refine wpList_append_row rfl (.tmp 10) (.tmp 11) rfl _ _ _ _ rfl hok1 _ 1 (bx [34]) rfl hR1 ?_ ?_ ?_)
 ·omega
 ·have := hbM.size; simp; omega
 ·intro v1 w1 hown1 hgrow1
  have hb1 := (bl_a hbM (.cells #[.int .u8 34] 5)).grown hgrow1 (by have := hbM.size; simp; omega) (fun j hj => (hok1.lt j hj).1)
  have own1 := own_cat (a := []) (b := [34]) (n := 0) (m := 1) rfl rfl (by simpa [cellsL] using hown1)
  rw [List.nil_append] at own1
  clear hok hok1 hR1 hown1 hgrow1 hmk
  go_wp2_with fail
  go_loopw [3, 4] (fun u t wr => ∃ (at_ : Nat), t = .int .i64 (at_ : Int) ∧ at_ ≤ l.length ∧ wr.ownsRow w.heap.size 5 1 u (34 :: bodyL (l.take at_)).length (cellsL (34 :: bodyL (l.take at_))) ∧ Below w.heap.size w wr) (fun _ t _ => l.length - (intOf t).toNat)
  case atStart => exact ⟨0, rfl, Nat.zero_le _, own1, hb1⟩
  case round =>
   obtain ⟨at_, rfl, hal, hown, hbel⟩ := hrel
   have haI : (at_ : Int) ≤ (l.length : Int) := by omega
   have g1 := passed_plain l at_ _ wr (hB.below hbel) hal (by omega)
   have hae := pass_ge l plainB at_
   have hel := pass_le (l := l) (p := plainB) hal
   have hend := pass_end l plainB at_
   have hrun := body_run (l := l) hal
   have hsl := sub_length (l := l) hae hel
   have hbl := body_len (l.take at_)
   rw [List.length_take] at hbl
   have hol : (34 :: bodyL (l.take at_)).length ≤ 6 * l.length + 1 := by simp; omega
   generalize pass l plainB at_ = e at *
   have haeI : (at_ : Int) ≤ (e : Int) := by omega
   have heI : (e : Int) ≤ (capv : Int) := by omega
   have heI2 : (e : Int) ≤ 8796093022208 := by omega
   obtain ⟨sv, hsv, hsr⟩ : ∃ sv, (sv = if at_ < capv then Value.slice (some ⟨bb, off + at_, none⟩) (e - at_) (capv - at_) else .slice (some ⟨bb, off, none⟩) 0 0) ∧ (∀ w2, Below w.heap.size w w2 → Row w2 sv (e - at_) (bx (sub l at_ e))) := by
    by_cases hac : at_ < capv
    ·exact ⟨_, rfl, fun w2 hb => by rw [if_pos hac]; exact byt_row (Byt.below (byt_sub hLb hcb hmb hae hel) hb) hsl⟩
    ·refine ⟨_, rfl, fun w2 _ => ?_⟩
     rw [if_neg hac, show e - at_ = 0 by omega]
     exact .inl ⟨rfl, _, 0, rfl, fun h => by cases h⟩
   have hcat : 34 :: bodyL (l.take at_) ++ sub l at_ e = 34 :: bodyL (l.take e) := by rw [hrun]; rfl
   by_cases hac : at_ < capv
   ·have hacI : (at_ : Int) < (capv : Int) := by omega
    rw [if_pos hac] at hsv
    subst hsv
    have HO : Hid ((34 :: bodyL (l.take at_)).length + (e - at_) ≤ 140737488355328) := by show _ ≤ _; omega
    by_cases hfin : e = l.length
    ·have hfI : ((e : Int) == (l.length : Int)) = true := by rw [hfin]; simp
     have hq : 34 :: bodyL (l.take e) ++ [34] = quoteL l := by rw [hfin, List.take_length]; rfl
     have HF : Hid ((34 :: bodyL (l.take e)).length + 1 ≤ 140737488355328) := by
      show _ ≤ _
      have := body_len (l.take e)
      rw [List.length_take] at this
      simp; omega
     clear hend hrun hbl hol hfin hal hae hel
     go_wp2_with (first | (go_at_call 138; refine g1.mono ?_; rintro r w2 ⟨rfl, hb2⟩; have hown2 := own_below hown hb2; have hbb := bl_t hbel hb2; have hs2 := hsr _ hbb) | (at_builtin; refine wpList_append_row rfl (.tmp 16) (.tmp 20) rfl _ _ _ _ rfl hown2 _ (e - at_) (bx (sub l at_ e)) rfl hs2 ?_ ?_ ?_))
     ·exact HO.out
     ·exact hbb.size
     ·intro v3 w3 hown3 hgrow3
      have hb3 := hbb.grown hgrow3 hbb.size (fun j hj => (hown2.lt j hj).1)
      have own3 := own_cat rfl hsl.symm hown3
      rw [hcat] at own3
      have own4 := own3.alloc (.cells #[.int .u8 34] 5)
      have hR4 := row_ws w3 [34] 5 (by decide)
      have hbb3 := bl_a hb3 (.cells #[.int .u8 34] 5)
      clear hown2 hs2 hgrow3 hown3 own3 hown
      go_wp2_with (at_builtin; refine wpList_append_row rfl (.tmp 26) (.tmp 27) rfl _ _ _ _ rfl own4 _ 1 (bx [34]) rfl hR4 ?_ ?_ ?_)
      ·exact HF.out
      ·exact hbb3.size
      ·intro v5 w5 hown5 hgrow5
       have hb5 := hbb3.grown hgrow5 hbb3.size (fun j hj => (own4.lt j hj).1)
       have own5 := own_cat (b := [34]) (m := 1) rfl rfl hown5
       rw [hq] at own5
       have hconv := conv_list w5 v5 _ (own_byt own5)
       clear own4 hR4 hgrow5 hown5 own5
       go_wp2
       go_ret
       exact ⟨rfl, hb5⟩
    ·have hlt : e < l.length := by omega
     have hltI : (e : Int) < (l.length : Int) := by omega
     have hnI : ((e : Int) == (l.length : Int)) = false := beq_eq_false_iff_ne.2 (by omega)
     rw [hasAt_in _ hlt] at hend
     have hst := body_step hlt hend
     have g2 := fun w => escaped_any l[e] (by rw [bx_at hlt]; exact hend) w
     rw [bx_at hlt] at g2
     have hcell := hLb.cell e hlt
     have hcb2 := cell_lt hcell
     have hcat2 : 34 :: bodyL (l.take e) ++ escOne l[e] = 34 :: bodyL (l.take (e + 1)) := by rw [hst]; rfl
     have hel6 := escOne_len l[e]
     generalize escOne l[e] = ec at *
     generalize bx l e = cc at *
     have HF : Hid ((34 :: bodyL (l.take e)).length + ec.length ≤ 140737488355328) := by
      show _ ≤ _
      have := body_len (l.take e)
      rw [List.length_take] at this
      simp; omega
     clear hend hrun hbl hol hst hal hae hel hel6
     go_wp2_with (first | (go_at_call 138; refine g1.mono ?_; rintro r w2 ⟨rfl, hb2⟩; have hown2 := own_below hown hb2; have hbb := bl_t hbel hb2; have hs2 := hsr _ hbb) | (at_builtin; refine wpList_append_row rfl (.tmp 16) (.tmp 20) rfl _ _ _ _ rfl hown2 _ (e - at_) (bx (sub l at_ e)) rfl hs2 ?_ ?_ ?_))
     ·exact HO.out
     ·exact hbb.size
     ·intro v3 w3 hown3 hgrow3
      have hb3 := hbb.grown hgrow3 hbb.size (fun j hj => (hown2.lt j hj).1)
      have own3 := own_cat rfl hsl.symm hown3
      rw [hcat] at own3
      have hcell3 : w3.cell? ⟨bb, off + e, none⟩ = some (.int .u8 cc) := by rw [hb3.cell hcb2]; exact hcell
      clear hown2 hs2 hgrow3 hown3 hown hcell
      go_wp2_with (first | (go_at_call 140; refine (g2 _).mono ?_; rintro r w4 ⟨rfl, q, rfl⟩; have own4 := own_below own3 (bl_n (Below.refl _ _) q); have hbb4 := bl_n hb3 q) | (at_builtin; refine Lib.wpList_append_own_string _ rfl (.tmp 30) (.tmp 35) 50 9 rfl _ 5 i0 Tryz.underlying50 Tryz.underlying9 hi0 hz0 hz1 hz2 _ _ _ rfl own4 ⟨ec.toArray⟩ rfl ?_ ?_ ?_ ?_))
      ·have := HF.out; unfold maxLen; simp [ByteArray.size]; simp at this; omega
      ·have := HF.out; simpa [ByteArray.size] using this
      ·exact hbb4.size
      ·intro v5 w5 hown5 hgrow5 _
       have hb5 := hbb4.grown hgrow5 hbb4.size (fun j hj => (own4.lt j hj).1)
       have own5 := own_str rfl hown5
       rw [hcat2] at own5
       clear own4 hgrow5 hown5
       go_wp2
       go_roundw
       case rel => exact ⟨e + 1, by go_num, by omega, own5, hb5⟩
       case measure => simp [intOf]; omega
   ·have he2 : e = at_ := by omega
    rw [if_neg hac] at hsv
    subst hsv
    have hac2 : capv = at_ := by omega
    subst he2
    subst hac2
    rw [Nat.sub_self] at hsr hsl
    have HO : Hid ((34 :: bodyL (l.take capv)).length + 0 ≤ 140737488355328) := by show _ ≤ _; omega
    have hfin : capv = l.length := by omega
    have hfI : ((capv : Int) == (l.length : Int)) = true := by rw [hfin]; simp
    have hq : 34 :: bodyL (l.take capv) ++ [34] = quoteL l := by rw [hfin, List.take_length]; rfl
    have HF : Hid ((34 :: bodyL (l.take capv)).length + 1 ≤ 140737488355328) := by
     show _ ≤ _
     have := body_len (l.take capv)
     rw [List.length_take] at this
     simp; omega
    clear hend hrun hbl hol hfin hal hae hel
    go_wp2_with (first | (go_at_call 138; refine g1.mono ?_; rintro r w2 ⟨rfl, hb2⟩; have hown2 := own_below hown hb2; have hbb := bl_t hbel hb2; have hs2 := hsr _ hbb) | (at_builtin; refine wpList_append_row rfl (.tmp 16) (.tmp 20) rfl _ _ _ _ rfl hown2 _ 0 (bx (sub l capv capv)) rfl hs2 ?_ ?_ ?_))
    ·exact HO.out
    ·exact hbb.size
    ·intro v3 w3 hown3 hgrow3
     have hb3 := hbb.grown hgrow3 hbb.size (fun j hj => (hown2.lt j hj).1)
     have own3 := own_cat rfl hsl.symm hown3
     rw [hcat] at own3
     have own4 := own3.alloc (.cells #[.int .u8 34] 5)
     have hR4 := row_ws w3 [34] 5 (by decide)
     have hbb3 := bl_a hb3 (.cells #[.int .u8 34] 5)
     clear hown2 hs2 hgrow3 hown3 own3 hown
     go_wp2_with (at_builtin; refine wpList_append_row rfl (.tmp 26) (.tmp 27) rfl _ _ _ _ rfl own4 _ 1 (bx [34]) rfl hR4 ?_ ?_ ?_)
     ·exact HF.out
     ·exact hbb3.size
     ·intro v5 w5 hown5 hgrow5
      have hb5 := hbb3.grown hgrow5 hbb3.size (fun j hj => (own4.lt j hj).1)
      have own5 := own_cat (b := [34]) (m := 1) rfl rfl hown5
      rw [hq] at own5
      have hconv := conv_list w5 v5 _ (own_byt own5)
      clear own4 hR4 hgrow5 hown5 own5
      go_wp2
      go_ret
      exact ⟨rfl, hb5⟩
end Go.Proofs.YtjdboekanmfgpaaGreatDoor.Lx

namespace Go.Proofs.YtjdboekanmfgpaaGreatDoor.Lx
open Go.RowKit
attribute [local go_sem] setCell_drewN alloc_drewN

/-- utf.Good of a text's bytes. -/
theorem good_str (s : ByteArray) (w : World) (hT : Tab w) (hs : s.size ≤ maxLen) :
  Calls Tryz.prog 120 #[.slice (some ⟨w.heap.size, 0, none⟩) s.size (grownCap w s.size 0 5)] (Lib.bytesWorld w 5 s) fun e w' => e = .returned (.tuple #[.int .i64 ((goodL s.data.toList).1 : Nat), .bool (goodL s.data.toList).2]) ∧ ∃ n, w' = (Lib.bytesWorld w 5 s).drewN n := by
 have h := good_any _ _ _ (Lib.bytesWorld w 5 s) (hT.below (bl_bytes w s)) (byt_str w s hs)
 exact h

set_option maxRecDepth 100000 in
set_option maxHeartbeats 800000 in
theorem quote_any (s : ByteArray) (w : World) (hT : Tab w) (hs : s.size ≤ 8796093022208) :
  Calls Tryz.prog 92 #[.string s] w fun r w' => r = .returned (.tuple #[.string ⟨(if (goodL s.data.toList).2 = true then quoteL s.data.toList else []).toArray⟩, .int .i64 (if (goodL s.data.toList).2 = true then 0 else 10)]) ∧ Below w.heap.size w w' := by
 have cv := conv_str w s
 have hsm : s.size ≤ maxLen := by unfold maxLen; omega
 have g1 := good_str s w hT hsm
 have hb := bl_bytes w s
 have hlen : s.data.toList.length = s.size := Array.length_toList
 cases hg : (goodL s.data.toList).2
 ·rw [hg] at g1
  simp only [Bool.false_eq_true, if_false]
  generalize (goodL s.data.toList).1 = n at *
  clear hg hlen hsm hs
  go_enter Tryz.func92, Tryz.ntmps92
  go_wp2_with (go_at_call 120; refine g1.mono ?_; rintro r w2 ⟨rfl, q, rfl⟩)
  go_ret2
  exact ⟨rfl, bl_n hb q⟩
 ·rw [hg] at g1
  simp only [if_true]
  have g2 := fun q => quoted_any s.data.toList w.heap.size 0 (grownCap w s.size 0 5) ((Lib.bytesWorld w 5 s).drewN q) (by
   rcases byt_str w s hsm with ⟨h0, _⟩ | ⟨b, off, cap, e, _, _, hL⟩
   ·rw [h0]; exact ⟨fun i hi => absurd hi (by omega), bx_lo _, bx_hi _⟩
   ·cases e
    exact hL.drewN q) (by rw [hlen]; exact grownCap_ge _ _ _ _) (grownCap_le_maxLen w s.size 0 _ hsm) (by rw [hlen]; exact hs)
  rw [hlen] at g2
  generalize (goodL s.data.toList).1 = n at *
  clear hg hlen hsm hs
  go_enter Tryz.func92, Tryz.ntmps92
  go_wp2_with (first | (go_at_call 120; refine g1.mono ?_; rintro r w2 ⟨rfl, q, rfl⟩) | (go_at_call 121; refine (g2 _).mono ?_; rintro r w3 ⟨rfl, hb3⟩))
  go_ret2
  exact ⟨rfl, bl_t (bl_n hb _) hb3⟩
end Go.Proofs.YtjdboekanmfgpaaGreatDoor.Lx
