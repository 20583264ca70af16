/-
  What dec.Parse answers: the number that a text is, or which error. Conditions: the package's sentinel and the library's variable errors.errorType as the program lays them.
  What dec.Parse answers, for every text. Conditions: the package's sentinel and the library's variable errors.errorType as the program lays them.
  What dec.written and dec.Text answer: a number's text. Conditions: the library's table of powers of ten as the program lays it.
  What dec.Text answers: a number's text, or an error. Conditions: the library's table of powers of ten as the program lays it.
-/
import Derived.Test.YtjdboekanmfgpaaGreatDoorJoined23
import Derived.Test.YtjdboekanmfgpaaGreatDoorJoined21
namespace Go.Proofs.YtjdboekanmfgpaaGreatDoor
open Go.RowKit
attribute [local go_sem] setCell_drewN alloc_drewN

/-- What the package variables hold. -/
structure Env (w : World) (a : Addr) : Prop where
 large : Gl w (.iface 281 (.pointer (some a)))
 elt : 3 < w.heap.size
 ety : w.cell? ⟨3, 0, none⟩ = some (.iface 222 (.agg #[.pointer (some ⟨9, 78, none⟩)]))
 tab : Lib.TabIs Tryz.prog w "internal/strconv.uint64pow10" .u64 Lib.pow10Tab
theorem tab_below {w w' : World} (h : Lib.TabIs Tryz.prog w "internal/strconv.uint64pow10" .u64 Lib.pow10Tab) (hb : Below w.heap.size w w') : Lib.TabIs Tryz.prog w' "internal/strconv.uint64pow10" .u64 Lib.pow10Tab := by
 have hg : Tryz.prog.globalNamed "internal/strconv.uint64pow10" = some 2 := by kernel_rfl
 have hlt : 2 < w.heap.size := World.block_lt_of_cell? w _ (h.cell hg 0 (by decide))
 unfold Lib.TabIs World.var? at h ⊢
 simp only [hg, Option.bind_some] at h ⊢
 rw [hb.block _ hlt]
 exact h
theorem Env.below {w w' : World} {a : Addr} (h : Env w a) (hb : Below w.heap.size w w') : Env w' a :=
 ⟨h.large.below hb, Nat.lt_of_lt_of_le h.elt hb.size, (hb.cell (p := ⟨3, 0, none⟩) h.elt).trans h.ety, tab_below h.tab hb⟩
theorem Env.alloc {w : World} {a : Addr} (h : Env w a) (o : Obj) : Env (w.alloc o) a := h.below (bl_a (Below.refl _ _) o)

theorem bl_u {a W w2 : World} {B : Nat} (h : Below a.heap.size a W) (h2 : Below B W w2) (hB : a.heap.size ≤ B) : Below a.heap.size a w2 := h.trans (h2.mono hB)
theorem as_hit' (n old : Int) (t : Nat) (w : World) (g0 : 3 < w.heap.size) (hg : w.cell? ⟨3, 0, none⟩ = some (.iface 222 (.agg #[.pointer (some ⟨9, 78, none⟩)]))) (ht0 : w.cell? ⟨t, 0, none⟩ = some (.int .i64 old)) (hf0 : w.frozen? ⟨t, 0, none⟩ = false) :
  Calls Tryz.prog 181 #[.iface 215 (.agg #[.int .i64 n]), .iface 216 (.pointer (some ⟨t, 0, none⟩))] w fun ev w' => ev = .returned (.bool true) ∧ Below t w w' := by
 have hl : t < w.heap.size := World.block_lt_of_cell? w ⟨t, 0, none⟩ ht0
 refine (as_hit n old t w g0 hg ht0 hf0).mono ?_
 rintro e w' ⟨rfl, o1, o2, o3, o4, rfl⟩
 have h3 : Below w.heap.size w ((((w.alloc o1).alloc o2).alloc o3).alloc o4) := bl_a (bl_a (bl_a (bl_a (Below.refl _ _) _) _) _) _
 have h4 : Below t w ((((w.alloc o1).alloc o2).alloc o3).alloc o4) := h3.mono (by omega)
 exact ⟨rfl, h4.setCell (show t ≤ (⟨t, 0, none⟩ : Addr).block from Nat.le_refl _) _⟩
theorem as_miss' (e : Value) (old : Int) (t : Nat) (w : World) (g0 : 3 < w.heap.size) (hg : w.cell? ⟨3, 0, none⟩ = some (.iface 222 (.agg #[.pointer (some ⟨9, 78, none⟩)]))) (ht0 : w.cell? ⟨t, 0, none⟩ = some (.int .i64 old)) :
  Calls Tryz.prog 181 #[.iface 281 e, .iface 216 (.pointer (some ⟨t, 0, none⟩))] w fun ev w' => ev = .returned (.bool false) ∧ Below w.heap.size w w' := by
 refine (as_miss e old t w g0 hg ht0).mono ?_
 rintro e w' ⟨rfl, o1, o2, o3, rfl⟩
 exact ⟨rfl, bl_a (bl_a (bl_a (Below.refl _ _) _) _) _⟩

set_option maxRecDepth 100000 in
set_option maxHeartbeats 1600000 in
theorem parse_none (l : List UInt8) (a : Addr) (w : World) (hE : Env w a)
  (h1 : ∀ w, Calls Tryz.prog 205 #[.string (bs l)] w fun e w' => (∃ n, e = .returned (.tuple #[zv, .iface 215 (.agg #[.int .i64 n])])) ∧ Below w.heap.size w w') :
  Calls Tryz.prog 190 #[.string (bs l)] w fun e w' => e = .returned (.tuple #[zv, .int .i64 30]) ∧ Below w.heap.size w w' := by
 unfold zv at h1 ⊢
 go_enter Tryz.func190, Tryz.ntmps190
 go_wp2_with (go_at_call 205; refine (h1 _).mono ?_; rintro e w' ⟨⟨n, rfl⟩, hb⟩; obtain ⟨hc, hf⟩ := bcell hb; have hz : w.heap.size < w'.heap.size := by have := hb.size; simp at this; omega)
 have hE2 := (((hE.alloc _).below hb).alloc (.cells #[.bool false, .string ⟨#[]⟩, .int .i64 0] 24)).alloc (.cells #[.int .i64 0] 215)
 refine (as_hit' n 0 _ _ hE2.elt hE2.ety ?_ ?_).mono ?_
 ·simp [go_sem]
 ·simp [go_sem]
 ·rintro e w2 ⟨rfl, hb2⟩
  have hk : ∀ o, w2.cell? ⟨w.heap.size, o, none⟩ = (w.alloc (.cells #[.bool false, .string ⟨#[]⟩, .int .i64 0] 24)).cell? ⟨w.heap.size, o, none⟩ := fun o => by
   rw [hb2.cell (p := ⟨w.heap.size, o, none⟩) (by show w.heap.size < _; omega), World.cell?_alloc_lt _ _ ⟨w.heap.size, o, none⟩ (by simp only [World.size_alloc]; omega), World.cell?_alloc_lt _ _ ⟨w.heap.size, o, none⟩ hz, hc w.heap.size o (by simp)]
  have hkf : ∀ o, w2.frozen? ⟨w.heap.size, o, none⟩ = false := fun o => by
   rw [hb2.frozen (p := ⟨w.heap.size, o, none⟩) (by show w.heap.size < _; omega), World.frozen?_alloc_old _ _ ⟨w.heap.size, o, none⟩ (by simp only [World.size_alloc]; omega), World.frozen?_alloc_old _ _ ⟨w.heap.size, o, none⟩ (by show w.heap.size ≠ _; omega), hf w.heap.size o (by simp)]
   simp
  clear hE2 hE hf
  go_wp2
  refine bodyPost_ret (v := .tuple #[.agg #[.bool false, .string ⟨#[]⟩, .int .i64 0], .int .i64 30]) ?_ rfl ?_
  all_goals first | (exact ⟨rfl, (by with_reducible repeat (first | exact Below.refl _ _ | refine bl_u ?_ hb2 (by omega) | refine bl_t ?_ hb | refine bl_d ?_ | refine bl_n ?_ _ | refine bl_a ?_ _ | refine bl_s ?_ (by omega) _))⟩) | (simp [results, Tryz.results190, go_sem, hk])

set_option maxRecDepth 100000 in
set_option maxHeartbeats 1600000 in
theorem parse_large (l : List UInt8) (a : Addr) (w : World) (hE : Env w a)
  (h1 : ∀ w, Env w a → Calls Tryz.prog 205 #[.string (bs l)] w fun e w' => e = .returned (.tuple #[zv, .iface 281 (.pointer (some a))]) ∧ Below w.heap.size w w') :
  Calls Tryz.prog 190 #[.string (bs l)] w fun e w' => e = .returned (.tuple #[zv, .int .i64 31]) ∧ Below w.heap.size w w' := by
 unfold zv at h1 ⊢
 go_enter Tryz.func190, Tryz.ntmps190
 go_wp2_with (go_at_call 205; refine (h1 _ (hE.alloc _)).mono ?_; rintro e w' ⟨rfl, hb⟩; obtain ⟨hc, hf⟩ := bcell hb; have hz : w.heap.size < w'.heap.size := by have := hb.size; simp at this; omega)
 have hE2 := (((hE.alloc _).below hb).alloc (.cells #[.bool false, .string ⟨#[]⟩, .int .i64 0] 24)).alloc (.cells #[.int .i64 0] 215)
 refine (as_miss' _ 0 _ _ hE2.elt hE2.ety ?_).mono ?_
 ·simp [go_sem]
 ·rintro e w2 ⟨rfl, hb2⟩
  have hl := (hE2.below hb2).large.2
  have hk : ∀ o, w2.cell? ⟨w.heap.size, o, none⟩ = (w.alloc (.cells #[.bool false, .string ⟨#[]⟩, .int .i64 0] 24)).cell? ⟨w.heap.size, o, none⟩ := fun o => by
   rw [hb2.cell (p := ⟨w.heap.size, o, none⟩) (by simp only [World.size_alloc]; omega), World.cell?_alloc_lt _ _ ⟨w.heap.size, o, none⟩ (by simp only [World.size_alloc]; omega), World.cell?_alloc_lt _ _ ⟨w.heap.size, o, none⟩ hz, hc w.heap.size o (by simp)]
  have hkf : ∀ o, w2.frozen? ⟨w.heap.size, o, none⟩ = false := fun o => by
   rw [hb2.frozen (p := ⟨w.heap.size, o, none⟩) (by simp only [World.size_alloc]; omega), World.frozen?_alloc_old _ _ ⟨w.heap.size, o, none⟩ (by simp only [World.size_alloc]; omega), World.frozen?_alloc_old _ _ ⟨w.heap.size, o, none⟩ (by show w.heap.size ≠ _; omega), hf w.heap.size o (by simp)]
   simp
  clear hE2 hE hf
  go_wp2_with (go_at_call 206; refine (is_same _ _).mono ?_; rintro e w3 ⟨rfl, rfl⟩)
  refine bodyPost_ret (v := .tuple #[.agg #[.bool false, .string ⟨#[]⟩, .int .i64 0], .int .i64 31]) ?_ rfl ?_
  all_goals first | (exact ⟨rfl, (by with_reducible repeat (first | exact Below.refl _ _ | refine bl_t ?_ hb2 | refine bl_t ?_ hb | refine bl_d ?_ | refine bl_n ?_ _ | refine bl_a ?_ _ | refine bl_s ?_ (by omega) _))⟩) | (simp [results, Tryz.results190, go_sem, hk])

set_option maxRecDepth 100000 in
set_option maxHeartbeats 1600000 in
theorem parse_ok (l : List UInt8) (d : D3) (a : Addr) (w : World) (hE : Env w a)
  (h1 : ∀ w, Env w a → Calls Tryz.prog 205 #[.string (bs l)] w fun e w' => e = .returned (.tuple #[d3 d, .nilIface]) ∧ Below w.heap.size w w') :
  Calls Tryz.prog 190 #[.string (bs l)] w fun e w' => e = .returned (.tuple #[d3 d, .int .i64 0]) ∧ Below w.heap.size w w' := by
 unfold d3 at h1 ⊢
 go_enter Tryz.func190, Tryz.ntmps190
 go_wp2_with (go_at_call 205; refine (h1 _ (hE.alloc _)).mono ?_; rintro e w' ⟨rfl, hb⟩; obtain ⟨hc, hf⟩ := bcell hb; have hz : w.heap.size < w'.heap.size := by have := hb.size; simp at this; omega)
 have hE2 := (((hE.alloc _).below hb).alloc (.cells #[.bool d.neg, .string (bs d.dg), .int .i64 d.ex] 24)).alloc (.cells #[.int .i64 0] 215)
 have hl := hE2.large.2
 clear hE2 hE
 refine (as_nil _ _).mono ?_
 rintro e w2 ⟨rfl, rfl⟩
 go_wp2_with (go_at_call 206; refine (is_nil _ _).mono ?_; rintro e w3 ⟨rfl, rfl⟩)
 refine bodyPost_ret (v := .tuple #[.agg #[.bool d.neg, .string (bs d.dg), .int .i64 d.ex], .int .i64 0]) ?_ rfl ?_
 all_goals first | (exact ⟨rfl, (by with_reducible repeat (first | exact Below.refl _ _ | refine bl_t ?_ hb | refine bl_d ?_ | refine bl_n ?_ _ | refine bl_a ?_ _ | refine bl_s ?_ (by omega) _))⟩) | (simp [results, Tryz.results190, go_sem, hz, hc])
end Go.Proofs.YtjdboekanmfgpaaGreatDoor

namespace Go.Proofs.YtjdboekanmfgpaaGreatDoor
open Go.RowKit

theorem len_twdw (l : List UInt8) : (tw l).length + (dw l).length = l.length := by
 have := congrArg List.length (List.takeWhile_append_dropWhile (p := isD) (l := l))
 rw [List.length_append] at this
 exact this
theorem fracL_len {l f r : List UInt8} (h : fracL l = some (f, r)) : f.length + r.length ≤ l.length := by
 unfold fracL at h
 split at h
 ·split at h
  ·cases h
  ·simp only [Option.some.injEq, Prod.mk.injEq] at h
   have := len_twdw l.tail
   rw [← h.1, ← h.2]; simp at this ⊢; omega
 ·simp only [Option.some.injEq, Prod.mk.injEq] at h
  rw [← h.1, ← h.2]; simp
theorem expL_len {l x r : List UInt8} {m : Bool} (h : expL l = some (m, x, r)) : x.length + r.length ≤ l.length := by
 unfold expL at h
 split at h
 ·split at h
  ·cases h
  ·simp only [Option.some.injEq, Prod.mk.injEq] at h
   have := len_twdw (signL l.tail)
   have := len_sign l.tail
   rw [← h.2.1, ← h.2.2]; simp at this; omega
 ·simp only [Option.some.injEq, Prod.mk.injEq] at h
  rw [← h.2.1, ← h.2.2]; simp
theorem behindL_len {neg : Bool} {w l r : List UInt8} {p : P3} (h : behindL neg w l = some (p, r)) : p.int = w ∧ p.frac.length + p.exp.length ≤ l.length := by
 unfold behindL at h
 split at h
 ·cases h
 ·rename_i f l3 hf
  split at h
  ·cases h
  ·rename_i m x r' hx
   simp only [Option.some.injEq, Prod.mk.injEq] at h
   rw [← h.1]
   have := fracL_len hf
   have := expL_len hx
   exact ⟨rfl, by simp only; omega⟩
theorem splitL_facts {l r : List UInt8} {p : P3} (h : splitL l = some (p, r)) : PD p ∧ p.int.length + p.frac.length + p.exp.length ≤ l.length := by
 have hm := len_minus l
 unfold splitL at h
 split at h
 ·rename_i h48
  have hb := behindL_len h
  refine ⟨behindL_pd (by decide) h, ?_⟩
  rw [hb.1]
  have : (minusL l).length = 1 + (minusL l).tail.length := by
   cases hq : minusL l with
   | nil => rw [hq] at h48; simp at h48
   | cons c t => simp; omega
  have := hb.2
  simp at *
  omega
 ·split at h
  ·cases h
  ·have hb := behindL_len h
   refine ⟨behindL_pd (tw_all _) h, ?_⟩
   rw [hb.1]
   have := len_twdw (minusL l)
   have := hb.2
   omega
theorem parse_list (l : List UInt8) (a : Addr) (w : World) (hE : Env w a) (hs : l.length ≤ maxLen) :
  Calls Tryz.prog 190 #[.string (bs l)] w fun e w' => e = .returned (.tuple #[d3 (parseL l).2, .int .i64 (parseL l).1]) ∧ Below w.heap.size w w' := by
 unfold parseL
 rw [← split_cut]
 cases h : splitL l with
 | none => exact parse_none l a w hE (fun w => read_no l w hs h)
 | some x =>
  obtain ⟨P, r⟩ := x
  cases r with
  | cons c r => exact parse_none l a w hE (fun w => read_left l P c r w hs h)
  | nil =>
   obtain ⟨f1, f2⟩ := splitL_facts h
   have hr := fun w (hE : Env w a) => read_parts l P _ w hE.large hs h f1 (by omega) (by omega)
   have e : wholeL (some (P, [])) = some P := by simp [wholeL]
   rw [e]
   simp only
   cases hv : valueL 1131072 P with
   | none =>
    simp only [hv, Option.getD_none, Option.isSome_none, Bool.false_eq_true, if_false] at hr
    exact parse_large l a w hE hr
   | some d =>
    simp only [hv, Option.getD_some, Option.isSome_some, if_true] at hr
    exact parse_ok l d a w hE hr
theorem parse_any (s : ByteArray) (a : Addr) (w : World) (hE : Env w a) (hs : s.size ≤ maxLen) :
  Calls Tryz.prog 190 #[.string s] w fun e w' => e = .returned (.tuple #[d3 (parseL s.data.toList).2, .int .i64 (parseL s.data.toList).1]) ∧ Below w.heap.size w w' :=
 parse_list s.data.toList a w hE (by rw [len_of]; exact hs)
end Go.Proofs.YtjdboekanmfgpaaGreatDoor

namespace Go.Proofs.YtjdboekanmfgpaaGreatDoor
open Go.RowKit
attribute [local go_sem] setCell_drewN alloc_drewN

theorem str_eq {a b : List UInt8} (h : a = b) : Ending.returned (.string (bs a)) = .returned (.string (bs b)) := by rw [h]
set_option maxHeartbeats 400000 in
theorem written_zero (n : Bool) (s : ByteArray) (e : Int) (w : World) (hz : eqD n s e false ⟨#[]⟩ 0 = true) :
  Calls Tryz.prog 91 #[.agg #[.bool n, .string s, .int .i64 e]] w fun r w' => r = .returned (.string (bs [48])) ∧ Below w.heap.size w w' := by
 have hq := eqIn_dec n s e false ⟨#[]⟩ 0
 rw [hz] at hq
 clear hz
 go_enter Tryz.func91, Tryz.ntmps91
 go_wp2_with fail
 go_region_with (go_at_call 118; refine (nought_any _).mono ?_; rintro r w' ⟨rfl, rfl⟩)
 all_goals (try go_wp2)
 all_goals go_ret
 all_goals exact ⟨rfl, (by with_reducible repeat (first | exact Below.refl _ _ | refine bl_d ?_ | refine bl_n ?_ _ | refine bl_a ?_ _ | refine bl_s ?_ (by omega) _))⟩

theorem decDigits_len (k : Nat) : ∀ n, n < 10 ^ k → (Lib.decDigits n).length ≤ k + 1 := by
 induction k with
 | zero => intro n hn; rw [Lib.decDigits, dif_pos (by simp at hn; omega)]; simp
 | succ k ih =>
  intro n hn
  rw [Lib.decDigits]
  split
  ·simp
  ·have := ih (n / 10) (by rw [Nat.pow_succ] at hn; omega)
   simp; omega
theorem itoa_len (e : Int) (e0 : -1000000 ≤ e) (e1 : e ≤ 1000000) : (Lib.itoa e).length ≤ 100 := by
 unfold Lib.itoa
 split
 ·have := decDigits_len 7 e.natAbs (by omega)
  simp; omega
 ·have := decDigits_len 7 e.toNat (by omega)
  omega

set_option maxRecDepth 100000 in
set_option maxHeartbeats 1600000 in
theorem written_00 (s : ByteArray) (e : Int) (w : World) (hz : eqD false s e false ⟨#[]⟩ 0 = false) (hs : s.size ≤ 65536) (he : e = 0) :
  Calls Tryz.prog 91 #[.agg #[.bool false, .string s, .int .i64 e]] w fun r w' => r = .returned (.string (bs (s.data.toList))) ∧ Below w.heap.size w w' := by
 have hq := eqIn_dec false s e false ⟨#[]⟩ 0
 rw [hz] at hq
 subst he
 clear hz
 have hB0 : BB (w.heap.size + 1 + 1) [] (((w.alloc (.cells #[.bool false, .string s, .int .i64 0] 24)).alloc (.cells #[.bool false, .string ⟨#[]⟩, .int .i64 0] 24)).alloc (.cells #[.pointer none, .slice none 0 0] 57)) := by have := bb_fresh ((w.alloc (.cells #[.bool false, .string s, .int .i64 0] 24)).alloc (.cells #[.bool false, .string ⟨#[]⟩, .int .i64 0] 24)); simpa using this
 go_enter Tryz.func91, Tryz.ntmps91
 go_wp2_with fail
 go_region_with (go_at_call 118; refine (nought_any _).mono ?_; rintro r w' ⟨rfl, rfl⟩)
 all_goals (try go_wp2_with fail)
 all_goals
  refine (wstr _ _ s _ (hB0.below (by with_reducible repeat (first | exact Below.refl _ _ | refine bl_d ?_ | refine bl_n ?_ _ | refine bl_a ?_ _ | refine bl_s ?_ (by omega) _))) (by simp <;> omega)).mono ?_
  rintro r w1 ⟨rfl, hB1, hb1⟩
  have hA1 : Below (w.alloc (.cells #[.bool false, .string s, .int .i64 0] 24)).heap.size (w.alloc (.cells #[.bool false, .string s, .int .i64 0] 24)) w1 := Below.trans (by with_reducible repeat (first | exact Below.refl _ _ | refine bl_d ?_ | refine bl_n ?_ _ | refine bl_a ?_ _ | refine bl_s ?_ (by omega) _)) (hb1.mono (by simp only [World.size_alloc]; omega))
  have hk1 := fun o => hA1.cell (p := ⟨w.heap.size, o, none⟩) (by simp)
  go_wp2_with fail
  refine (bstr _ _ _ hB1).mono ?_
  rintro r w2 ⟨rfl, hb2⟩
  have hA2 : Below (w.alloc (.cells #[.bool false, .string s, .int .i64 0] 24)).heap.size (w.alloc (.cells #[.bool false, .string s, .int .i64 0] 24)) w2 := Below.trans hA1 (hb2.mono (by simp only [World.size_alloc]; omega))
  have hk2 := fun o => hA2.cell (p := ⟨w.heap.size, o, none⟩) (by simp)
  go_wp2
  go_ret
  exact ⟨str_eq (by simp), bl_t (bl_a (Below.refl _ _) _) hA2⟩

set_option maxRecDepth 100000 in
set_option maxHeartbeats 1600000 in
theorem written_01 (s : ByteArray) (e : Int) (w : World) (hz : eqD false s e false ⟨#[]⟩ 0 = false) (hs : s.size ≤ 65536) (he : (e == 0) = false) (e0 : -1000000 ≤ e) (e1 : e ≤ 1000000) (ht : Lib.TabIs Tryz.prog w "internal/strconv.uint64pow10" .u64 Lib.pow10Tab) :
  Calls Tryz.prog 91 #[.agg #[.bool false, .string s, .int .i64 e]] w fun r w' => r = .returned (.string (bs (s.data.toList ++ [101] ++ Lib.itoa e))) ∧ Below w.heap.size w w' := by
 have hq := eqIn_dec false s e false ⟨#[]⟩ 0
 rw [hz] at hq
 have hi : (Lib.itoa e).length ≤ 100 := itoa_len e e0 e1
 have hne : (e != 0) = true := by simp only [bne, he]; rfl
 clear hz
 have hB0 : BB (w.heap.size + 1 + 1) [] (((w.alloc (.cells #[.bool false, .string s, .int .i64 e] 24)).alloc (.cells #[.bool false, .string ⟨#[]⟩, .int .i64 0] 24)).alloc (.cells #[.pointer none, .slice none 0 0] 57)) := by have := bb_fresh ((w.alloc (.cells #[.bool false, .string s, .int .i64 e] 24)).alloc (.cells #[.bool false, .string ⟨#[]⟩, .int .i64 0] 24)); simpa using this
 go_enter Tryz.func91, Tryz.ntmps91
 go_wp2_with fail
 go_region_with (go_at_call 118; refine (nought_any _).mono ?_; rintro r w' ⟨rfl, rfl⟩)
 all_goals (try go_wp2_with fail)
 all_goals
  refine (wstr _ _ s _ (hB0.below (by with_reducible repeat (first | exact Below.refl _ _ | refine bl_d ?_ | refine bl_n ?_ _ | refine bl_a ?_ _ | refine bl_s ?_ (by omega) _))) (by simp <;> omega)).mono ?_
  rintro r w1 ⟨rfl, hB1, hb1⟩
  have hA1 : Below (w.alloc (.cells #[.bool false, .string s, .int .i64 e] 24)).heap.size (w.alloc (.cells #[.bool false, .string s, .int .i64 e] 24)) w1 := Below.trans (by with_reducible repeat (first | exact Below.refl _ _ | refine bl_d ?_ | refine bl_n ?_ _ | refine bl_a ?_ _ | refine bl_s ?_ (by omega) _)) (hb1.mono (by simp only [World.size_alloc]; omega))
  have hk1 := fun o => hA1.cell (p := ⟨w.heap.size, o, none⟩) (by simp)
  go_wp2_with fail
  refine (wbyte _ _ 101 _ _ rfl hB1 (by simp <;> omega)).mono ?_
  rintro r w2 ⟨rfl, hB2, hb2⟩
  have hA2 : Below (w.alloc (.cells #[.bool false, .string s, .int .i64 e] 24)).heap.size (w.alloc (.cells #[.bool false, .string s, .int .i64 e] 24)) w2 := Below.trans hA1 (hb2.mono (by simp only [World.size_alloc]; omega))
  have hk2 := fun o => hA2.cell (p := ⟨w.heap.size, o, none⟩) (by simp)
  go_wp2_with fail
  refine (itoa_any e _ (by omega) (by omega) (tab_below ht (bl_t (bl_a (Below.refl _ _) _) hA2))).mono ?_
  rintro r w3 ⟨rfl, hb3⟩
  have hB3 := hB2.below hb3
  have hA3 : Below (w.alloc (.cells #[.bool false, .string s, .int .i64 e] 24)).heap.size (w.alloc (.cells #[.bool false, .string s, .int .i64 e] 24)) w3 := hA2.trans (hb3.mono hA2.size)
  have hk3 := fun o => hA3.cell (p := ⟨w.heap.size, o, none⟩) (by simp)
  go_wp2_with fail
  refine (wstr _ _ (bs (Lib.itoa e)) _ hB3 (by simp [bs_size] <;> omega)).mono ?_
  rintro r w4 ⟨rfl, hB4, hb4⟩
  have hA4 : Below (w.alloc (.cells #[.bool false, .string s, .int .i64 e] 24)).heap.size (w.alloc (.cells #[.bool false, .string s, .int .i64 e] 24)) w4 := Below.trans hA3 (hb4.mono (by simp only [World.size_alloc]; omega))
  have hk4 := fun o => hA4.cell (p := ⟨w.heap.size, o, none⟩) (by simp)
  go_wp2_with fail
  refine (bstr _ _ _ hB4).mono ?_
  rintro r w5 ⟨rfl, hb5⟩
  have hA5 : Below (w.alloc (.cells #[.bool false, .string s, .int .i64 e] 24)).heap.size (w.alloc (.cells #[.bool false, .string s, .int .i64 e] 24)) w5 := Below.trans hA4 (hb5.mono (by simp only [World.size_alloc]; omega))
  have hk5 := fun o => hA5.cell (p := ⟨w.heap.size, o, none⟩) (by simp)
  go_wp2
  go_ret
  exact ⟨str_eq (by simp [bs_list]), bl_t (bl_a (Below.refl _ _) _) hA5⟩

set_option maxRecDepth 100000 in
set_option maxHeartbeats 1600000 in
theorem written_10 (s : ByteArray) (e : Int) (w : World) (hz : eqD true s e false ⟨#[]⟩ 0 = false) (hs : s.size ≤ 65536) (he : e = 0) :
  Calls Tryz.prog 91 #[.agg #[.bool true, .string s, .int .i64 e]] w fun r w' => r = .returned (.string (bs ([45] ++ s.data.toList))) ∧ Below w.heap.size w w' := by
 have hq := eqIn_dec true s e false ⟨#[]⟩ 0
 rw [hz] at hq
 subst he
 clear hz
 have hB0 : BB (w.heap.size + 1 + 1) [] (((w.alloc (.cells #[.bool true, .string s, .int .i64 0] 24)).alloc (.cells #[.bool false, .string ⟨#[]⟩, .int .i64 0] 24)).alloc (.cells #[.pointer none, .slice none 0 0] 57)) := by have := bb_fresh ((w.alloc (.cells #[.bool true, .string s, .int .i64 0] 24)).alloc (.cells #[.bool false, .string ⟨#[]⟩, .int .i64 0] 24)); simpa using this
 go_enter Tryz.func91, Tryz.ntmps91
 go_wp2_with fail
 go_region_with (go_at_call 118; refine (nought_any _).mono ?_; rintro r w' ⟨rfl, rfl⟩)
 all_goals (try go_wp2_with fail)
 all_goals
  refine (wbyte _ _ 45 _ _ rfl (hB0.below (by with_reducible repeat (first | exact Below.refl _ _ | refine bl_d ?_ | refine bl_n ?_ _ | refine bl_a ?_ _ | refine bl_s ?_ (by omega) _))) (by simp <;> omega)).mono ?_
  rintro r w1 ⟨rfl, hB1, hb1⟩
  have hA1 : Below (w.alloc (.cells #[.bool true, .string s, .int .i64 0] 24)).heap.size (w.alloc (.cells #[.bool true, .string s, .int .i64 0] 24)) w1 := Below.trans (by with_reducible repeat (first | exact Below.refl _ _ | refine bl_d ?_ | refine bl_n ?_ _ | refine bl_a ?_ _ | refine bl_s ?_ (by omega) _)) (hb1.mono (by simp only [World.size_alloc]; omega))
  have hk1 := fun o => hA1.cell (p := ⟨w.heap.size, o, none⟩) (by simp)
  go_wp2_with fail
  refine (wstr _ _ s _ hB1 (by simp <;> omega)).mono ?_
  rintro r w2 ⟨rfl, hB2, hb2⟩
  have hA2 : Below (w.alloc (.cells #[.bool true, .string s, .int .i64 0] 24)).heap.size (w.alloc (.cells #[.bool true, .string s, .int .i64 0] 24)) w2 := Below.trans hA1 (hb2.mono (by simp only [World.size_alloc]; omega))
  have hk2 := fun o => hA2.cell (p := ⟨w.heap.size, o, none⟩) (by simp)
  go_wp2_with fail
  refine (bstr _ _ _ hB2).mono ?_
  rintro r w3 ⟨rfl, hb3⟩
  have hA3 : Below (w.alloc (.cells #[.bool true, .string s, .int .i64 0] 24)).heap.size (w.alloc (.cells #[.bool true, .string s, .int .i64 0] 24)) w3 := Below.trans hA2 (hb3.mono (by simp only [World.size_alloc]; omega))
  have hk3 := fun o => hA3.cell (p := ⟨w.heap.size, o, none⟩) (by simp)
  go_wp2
  go_ret
  exact ⟨str_eq (by simp), bl_t (bl_a (Below.refl _ _) _) hA3⟩

set_option maxRecDepth 100000 in
set_option maxHeartbeats 1600000 in
theorem written_11 (s : ByteArray) (e : Int) (w : World) (hz : eqD true s e false ⟨#[]⟩ 0 = false) (hs : s.size ≤ 65536) (he : (e == 0) = false) (e0 : -1000000 ≤ e) (e1 : e ≤ 1000000) (ht : Lib.TabIs Tryz.prog w "internal/strconv.uint64pow10" .u64 Lib.pow10Tab) :
  Calls Tryz.prog 91 #[.agg #[.bool true, .string s, .int .i64 e]] w fun r w' => r = .returned (.string (bs ([45] ++ s.data.toList ++ [101] ++ Lib.itoa e))) ∧ Below w.heap.size w w' := by
 have hq := eqIn_dec true s e false ⟨#[]⟩ 0
 rw [hz] at hq
 have hi : (Lib.itoa e).length ≤ 100 := itoa_len e e0 e1
 have hne : (e != 0) = true := by simp only [bne, he]; rfl
 clear hz
 have hB0 : BB (w.heap.size + 1 + 1) [] (((w.alloc (.cells #[.bool true, .string s, .int .i64 e] 24)).alloc (.cells #[.bool false, .string ⟨#[]⟩, .int .i64 0] 24)).alloc (.cells #[.pointer none, .slice none 0 0] 57)) := by have := bb_fresh ((w.alloc (.cells #[.bool true, .string s, .int .i64 e] 24)).alloc (.cells #[.bool false, .string ⟨#[]⟩, .int .i64 0] 24)); simpa using this
 go_enter Tryz.func91, Tryz.ntmps91
 go_wp2_with fail
 go_region_with (go_at_call 118; refine (nought_any _).mono ?_; rintro r w' ⟨rfl, rfl⟩)
 all_goals (try go_wp2_with fail)
 all_goals
  refine (wbyte _ _ 45 _ _ rfl (hB0.below (by with_reducible repeat (first | exact Below.refl _ _ | refine bl_d ?_ | refine bl_n ?_ _ | refine bl_a ?_ _ | refine bl_s ?_ (by omega) _))) (by simp <;> omega)).mono ?_
  rintro r w1 ⟨rfl, hB1, hb1⟩
  have hA1 : Below (w.alloc (.cells #[.bool true, .string s, .int .i64 e] 24)).heap.size (w.alloc (.cells #[.bool true, .string s, .int .i64 e] 24)) w1 := Below.trans (by with_reducible repeat (first | exact Below.refl _ _ | refine bl_d ?_ | refine bl_n ?_ _ | refine bl_a ?_ _ | refine bl_s ?_ (by omega) _)) (hb1.mono (by simp only [World.size_alloc]; omega))
  have hk1 := fun o => hA1.cell (p := ⟨w.heap.size, o, none⟩) (by simp)
  go_wp2_with fail
  refine (wstr _ _ s _ hB1 (by simp <;> omega)).mono ?_
  rintro r w2 ⟨rfl, hB2, hb2⟩
  have hA2 : Below (w.alloc (.cells #[.bool true, .string s, .int .i64 e] 24)).heap.size (w.alloc (.cells #[.bool true, .string s, .int .i64 e] 24)) w2 := Below.trans hA1 (hb2.mono (by simp only [World.size_alloc]; omega))
  have hk2 := fun o => hA2.cell (p := ⟨w.heap.size, o, none⟩) (by simp)
  go_wp2_with fail
  refine (wbyte _ _ 101 _ _ rfl hB2 (by simp <;> omega)).mono ?_
  rintro r w3 ⟨rfl, hB3, hb3⟩
  have hA3 : Below (w.alloc (.cells #[.bool true, .string s, .int .i64 e] 24)).heap.size (w.alloc (.cells #[.bool true, .string s, .int .i64 e] 24)) w3 := Below.trans hA2 (hb3.mono (by simp only [World.size_alloc]; omega))
  have hk3 := fun o => hA3.cell (p := ⟨w.heap.size, o, none⟩) (by simp)
  go_wp2_with fail
  refine (itoa_any e _ (by omega) (by omega) (tab_below ht (bl_t (bl_a (Below.refl _ _) _) hA3))).mono ?_
  rintro r w4 ⟨rfl, hb4⟩
  have hB4 := hB3.below hb4
  have hA4 : Below (w.alloc (.cells #[.bool true, .string s, .int .i64 e] 24)).heap.size (w.alloc (.cells #[.bool true, .string s, .int .i64 e] 24)) w4 := hA3.trans (hb4.mono hA3.size)
  have hk4 := fun o => hA4.cell (p := ⟨w.heap.size, o, none⟩) (by simp)
  go_wp2_with fail
  refine (wstr _ _ (bs (Lib.itoa e)) _ hB4 (by simp [bs_size] <;> omega)).mono ?_
  rintro r w5 ⟨rfl, hB5, hb5⟩
  have hA5 : Below (w.alloc (.cells #[.bool true, .string s, .int .i64 e] 24)).heap.size (w.alloc (.cells #[.bool true, .string s, .int .i64 e] 24)) w5 := Below.trans hA4 (hb5.mono (by simp only [World.size_alloc]; omega))
  have hk5 := fun o => hA5.cell (p := ⟨w.heap.size, o, none⟩) (by simp)
  go_wp2_with fail
  refine (bstr _ _ _ hB5).mono ?_
  rintro r w6 ⟨rfl, hb6⟩
  have hA6 : Below (w.alloc (.cells #[.bool true, .string s, .int .i64 e] 24)).heap.size (w.alloc (.cells #[.bool true, .string s, .int .i64 e] 24)) w6 := Below.trans hA5 (hb6.mono (by simp only [World.size_alloc]; omega))
  have hk6 := fun o => hA6.cell (p := ⟨w.heap.size, o, none⟩) (by simp)
  go_wp2
  go_ret
  exact ⟨str_eq (by simp [bs_list]), bl_t (bl_a (Below.refl _ _) _) hA6⟩

end Go.Proofs.YtjdboekanmfgpaaGreatDoor

namespace Go.Proofs.YtjdboekanmfgpaaGreatDoor
open Go.RowKit

theorem written_any (n : Bool) (s : ByteArray) (e : Int) (w : World) (hg : goodB n s e = true) (ht : Lib.TabIs Tryz.prog w "internal/strconv.uint64pow10" .u64 Lib.pow10Tab) :
  Calls Tryz.prog 91 #[.agg #[.bool n, .string s, .int .i64 e]] w fun r w' => r = .returned (.string (bs (textL ⟨n, s.data.toList, e⟩))) ∧ Below w.heap.size w w' := by
 cases hz : eqD n s e false ⟨#[]⟩ 0
 ·have hg2 := good_not hz
  rw [hg] at hg2
  have hg3 : digB s = true ∧ decide (-1000000 ≤ e ∧ e ≤ 1000000) = true := by simpa using hg2.symm
  obtain ⟨d1, d2, d3, d4, d5⟩ := of_decide_eq_true hg3.1
  obtain ⟨e0, e1⟩ := of_decide_eq_true hg3.2
  rw [len_of] at d2
  unfold textL sufL
  simp only [if_neg d1]
  cases n
  ·by_cases z : e = 0
   ·rw [if_pos z]; simpa using written_00 s e w hz d2 z
   ·rw [if_neg z]; simpa using written_01 s e w hz d2 (beq_eq_false_iff_ne.2 z) e0 e1 ht
  ·by_cases z : e = 0
   ·rw [if_pos z]; simpa using written_10 s e w hz d2 z
   ·rw [if_neg z]; simpa using written_11 s e w hz d2 (beq_eq_false_iff_ne.2 z) e0 e1 ht
 ·have h := written_zero n s e w hz
  obtain ⟨rfl, rfl, rfl⟩ := of_decide_eq_true hz
  exact h

set_option maxHeartbeats 400000 in
theorem text_any (n : Bool) (s : ByteArray) (e : Int) (w : World) (hs : s.size ≤ maxLen) (ht : Lib.TabIs Tryz.prog w "internal/strconv.uint64pow10" .u64 Lib.pow10Tab) :
  Calls Tryz.prog 59 #[.agg #[.bool n, .string s, .int .i64 e]] w fun r w' => r = .returned (.tuple #[.string (bs (if goodB n s e = true then textL ⟨n, s.data.toList, e⟩ else [])), .int .i64 (errB (goodB n s e))]) ∧ Below w.heap.size w w' := by
 have h1 := fun w => check_any n s e w hs
 cases hg : goodB n s e
 ·rw [hg] at h1
  simp only [errB, Bool.false_eq_true, if_false] at h1 ⊢
  clear ht hs hg
  go_enter Tryz.func59, Tryz.ntmps59
  go_wp2_with (go_at_call 90; refine (h1 _).mono ?_; rintro r w' ⟨rfl, hb⟩)
  go_ret2
  exact ⟨rfl, (by with_reducible repeat (first | exact Below.refl _ _ | refine bl_t ?_ hb | refine bl_d ?_ | refine bl_n ?_ _ | refine bl_a ?_ _ | refine bl_s ?_ (by omega) _))⟩
 ·rw [hg] at h1
  have h2 := fun w ht => written_any n s e w hg ht
  simp only [errB, if_true] at h1 ⊢
  clear hs hg
  generalize textL ⟨n, s.data.toList, e⟩ = t at *
  go_enter Tryz.func59, Tryz.ntmps59
  go_wp2_with (first | (go_at_call 90; refine (h1 _).mono ?_; rintro r w' ⟨rfl, hb⟩; have hk := fun o => hb.cell (p := ⟨w.heap.size, o, none⟩) (by simp)) | (go_at_call 91; refine (h2 _ (tab_below ht (bl_t (bl_a (Below.refl _ _) _) hb))).mono ?_; rintro r w2 ⟨rfl, hb2⟩))
  go_ret2
  exact ⟨rfl, (by with_reducible repeat (first | exact Below.refl _ _ | refine bl_t ?_ hb2 | refine bl_t ?_ hb | refine bl_d ?_ | refine bl_n ?_ _ | refine bl_a ?_ _ | refine bl_s ?_ (by omega) _))⟩
end Go.Proofs.YtjdboekanmfgpaaGreatDoor
