/-
  A map whose keys are pairs of numbers, as a list of its keys. No condition.
  Real: whether a path is a cycle. Conditions: at most 2^20 edges.
  Real, walked. Conditions: at most 2^20 edges.
  LoopsFinds, walked. No condition.
-/
import Derived.Test.YtnlgeiofkfkhbaaJoined50
import Derived.DeepKeys3
import Derived.Maps.Keyed
import Derived.Maps.OwnSet
import Derived.Deep.RegionLaw
import Derived.BigRegion
import Derived.Test.YtnlgeiofkfkhbaaJoined24
namespace Go.Proofs.Ytnlgeiofkfkhbaa
open Go.RowKit Go.Maps Go.WideMaps Go.ChangeMaps Lg

/-- A pair, as a value. -/
def pe (p : Int × Int) : Value := .agg #[.int .i64 p.1, .int .i64 p.2]
theorem pe_inj {p q : Int × Int} (h : pe p = pe q) : p = q := by
 obtain ⟨a, b⟩ := p
 obtain ⟨c, d⟩ := q
 unfold pe at h
 injection h with h
 injection h with h
 injection h with h1 h2
 injection h1 with _ h1
 injection h2 with h2 _
 injection h2 with _ h2
 dsimp only at h1 h2
 rw [h1, h2]
def P64 (p : Int × Int) : Prop := I64 p.1 ∧ I64 p.2
theorem lawP : Keyed Try.prog 44 := Keyed.of_law (deep_law (m := 3) (by decide) (by kernel_rfl) (by kernel_rfl) (by kernel_rfl))
theorem key_int (d : Nat) {a : Int} (h : I64 a) : Try.prog.keyLits (d + 1) 3 [.int .i64 a] = some [.int .i64 a] := by
 unfold Program.keyLits
 rw [Try.underlying3]
 simp [wfi h]
theorem key_pe {p : Int × Int} (h : P64 p) : ∃ l, keyOf Try.prog 44 (pe p) = some l := by
 obtain ⟨a, b⟩ := p
 have hs : Try.prog.types.size + 1 = 106 + 1 := by kernel_rfl
 have hk : Try.prog.keyType 44 = true := by kernel_rfl
 have hf : (pe (a, b)).formed Try.prog 44 = true := by
  unfold pe Value.formed
  rw [Try.underlying44]
  kernel_rfl
 refine ⟨.string (keyBytes [.int .i64 a, .int .i64 b]), ?_⟩
 unfold keyOf
 rw [Try.underlying44, hk, hf]
 simp only [Bool.and_self, if_true]
 have e : Try.prog.keyLits (Try.prog.types.size + 1) 44 (pe (a, b)).cells.toList = some [.int .i64 a, .int .i64 b] := by
  have hc : Try.prog.cellsOf 44 = 2 := by kernel_rfl
  have hi : Try.prog.cellsOf 3 = 1 := by kernel_rfl
  have k1 : Try.prog.keyLits (106 - 1 + 1) 3 [.int .i64 a] = some [.int .i64 a] := key_int (106 - 1) h.1
  have k2 : Try.prog.keyLits (106 - 1 + 1) 3 [.int .i64 b] = some [.int .i64 b] := key_int (106 - 1) h.2
  rw [hs]
  unfold Program.keyLits
  rw [Try.underlying44]
  simp [pe, Value.cells, hc, hi]
  simp at k1 k2
  rw [k1, k2]
  rfl
 rw [e]
 rfl

theorem erase_at {α : Type} [BEq α] [LawfulBEq α] {p : α} : ∀ {S : List α} {j : Nat}, S.Nodup → S[j]? = some p → S.erase p = S.eraseIdx j
 | [], j, _, h => by simp at h
 | a :: S, 0, _, h => by
  simp at h
  subst h
  simp
 | a :: S, j + 1, hn, h => by
  have hn2 := List.nodup_cons.1 hn
  have h2 : S[j]? = some p := by simpa using h
  have hne : ¬ (a == p) = true := fun e => by
   have e2 : a = p := by simpa using e
   subst e2
   exact hn2.1 (List.mem_of_getElem? h2)
  rw [List.erase_cons_tail hne, erase_at hn2.2 h2]
  rfl
theorem map_eraseIdx' {α β : Type} (f : α → β) : ∀ (l : List α) (j : Nat), (l.map f).eraseIdx j = (l.eraseIdx j).map f
 | [], j => by simp
 | a :: l, 0 => rfl
 | a :: l, j + 1 => by
  show f a :: (l.map f).eraseIdx j = f a :: (l.eraseIdx j).map f
  rw [map_eraseIdx' f l j]
/-- A map whose keys are those of a list. -/
def SM (w : World) (mb : Nat) (S : List (Int × Int)) : Prop := ∃ (es : Array MapEntry) (clock : Nat), w.heap[mb]? = some (.map es clock) ∧ es.toList.map (·.key) = S.map pe ∧ S.Nodup ∧ ∀ p ∈ S, P64 p
theorem SM.made (w : World) : SM (w.alloc (.map #[] 0)) w.heap.size [] := ⟨#[], 0, World.alloc_heap_new w _, rfl, by simp, fun p hp => by simp at hp⟩
theorem SM.lt {w : World} {mb : Nat} {S : List (Int × Int)} (h : SM w mb S) : mb < w.heap.size := by
 obtain ⟨es, clock, h1, _⟩ := h
 exact (Array.getElem?_eq_some_iff.1 h1).1
theorem SM.blk {w w' : World} {mb : Nat} {S : List (Int × Int)} (h : SM w mb S) (hb : w'.heap[mb]? = w.heap[mb]?) : SM w' mb S := by
 obtain ⟨es, clock, h1, h2⟩ := h
 exact ⟨es, clock, hb.trans h1, h2⟩
theorem SM.bel {w w' : World} {mb : Nat} {S : List (Int × Int)} (h : SM w mb S) (hb : Below w.heap.size w w') : SM w' mb S := h.blk (hb.block mb h.lt)
theorem SM.keys {S : List (Int × Int)} {es : Array MapEntry} (h : es.toList.map (·.key) = S.map pe) (h2 : ∀ p ∈ S, P64 p) : ∀ e ∈ es.toList, ∃ l, keyOf Try.prog 44 e.key = some l := fun e he => by
 have : e.key ∈ es.toList.map (·.key) := List.mem_map.2 ⟨e, he, rfl⟩
 rw [h] at this
 obtain ⟨p, hp, e2⟩ := List.mem_map.1 this
 rw [← e2]
 exact key_pe (h2 p hp)
theorem grown_block {w : World} {b : Nat} {es : Array MapEntry} {clock : Nat} (hb : w.heap[b]? = some (.map es clock)) (o : Obj) : w.grownBy (setBlock w b o) (some b) :=
 ⟨rfl, rfl, rfl, by simp [setBlock], fun k _ hne => heap_setBlock_other hb o (fun e => hne (by rw [e]))⟩
theorem SM.put {w : World} {mb : Nat} {S : List (Int × Int)} {p : Int × Int} (h : SM w mb S) (hp : P64 p) (val : Value) : ∃ w', (Instr.mapUpdate 41 (.map (some mb)) (pe p) val).run Try.prog w = .ok () w' ∧ w.grownBy w' (some mb) ∧ SM w' mb (if p ∈ S then S else S ++ [p]) := by
 obtain ⟨es, clock, hb, hk, hn, h6⟩ := h
 obtain ⟨l, hl⟩ := key_pe hp
 have ht := Try.underlying41
 rcases lawP.find w hl es.toList (SM.keys hk h6) with ⟨h1, h2⟩ | ⟨j, e0, h1, h2, h3⟩
 ·have hpn : p ∉ S := fun hm => by
   have : pe p ∈ es.toList.map (·.key) := by rw [hk]; exact List.mem_map.2 ⟨p, hm, rfl⟩
   obtain ⟨e, he, e2⟩ := List.mem_map.1 this
   exact h2 e he e2
  rw [if_neg hpn]
  refine ⟨setBlock w mb (.map (es.push ⟨pe p, val, clock⟩) (clock + 1)), ?_, grown_block hb _, _, _, heap_setBlock_same hb _, ?_, ?_, ?_⟩
  ·simp [Instr.mapUpdate, run_underlying ht, MapKept.run_getObj_map hb, lawP.check w false hl, h1, MapKept.run_setObj_map _ hb, Result.andThen, setBlock]
  ·simp [hk]
  ·rw [List.nodup_append]
   exact ⟨hn, by simp, fun a ha b hb e => by simp at hb; subst hb e; exact hpn ha⟩
  ·intro q hq
   rcases List.mem_append.1 hq with hq | hq
   ·exact h6 q hq
   ·simp at hq; exact hq ▸ hp
 ·have hjl : j < es.size := by have := (List.getElem?_eq_some_iff.1 h2).1; simpa using this
  have hje : es[j]? = some e0 := by rw [← h2]; simp
  have hpm : p ∈ S := by
   have : e0.key ∈ es.toList.map (·.key) := List.mem_map.2 ⟨e0, List.mem_of_getElem? h2, rfl⟩
   rw [hk, h3] at this
   obtain ⟨q, hq, e⟩ := List.mem_map.1 this
   exact pe_inj e ▸ hq
  rw [if_pos hpm]
  refine ⟨setBlock w mb (.map (es.modify j fun e => { e with key := pe p, val := val }) clock), ?_, grown_block hb _, _, _, heap_setBlock_same hb _, ?_, hn, h6⟩
  ·have hst := lawP.stays w hl
   simp [Instr.mapUpdate, run_underlying ht, MapKept.run_getObj_map hb, lawP.check w false hl, h1, hje, h3, hst, MapKept.run_setObj_map _ hb, Result.andThen, setBlock]
  ·rw [← hk]
   apply List.ext_getElem (by simp)
   intro i h7 h8
   simp only [List.getElem_map, Array.getElem_toList, Array.getElem_modify]
   split
   ·rename_i hji
    subst hji
    have e1 : es[j] = e0 := by rw [Array.getElem?_eq_getElem hjl] at hje; injection hje
    rw [e1, h3]
   ·rfl
theorem SM.del {w : World} {mb : Nat} {S : List (Int × Int)} {p : Int × Int} (h : SM w mb S) (hp : P64 p) (ty : TypeId) : ∃ w', (Builtin.delete_ #[41, 44] ty #[.map (some mb), pe p]).run Try.prog w = .ok (.tuple #[]) w' ∧ w.grownBy w' (some mb) ∧ SM w' mb (S.erase p) := by
 obtain ⟨es, clock, hb, hk, hn, h6⟩ := h
 obtain ⟨l, hl⟩ := key_pe hp
 have ht := Try.underlying41
 rcases lawP.find w hl es.toList (SM.keys hk h6) with ⟨h1, h2⟩ | ⟨j, e0, h1, h2, h3⟩
 ·have hpn : p ∉ S := fun hm => by
   have : pe p ∈ es.toList.map (·.key) := by rw [hk]; exact List.mem_map.2 ⟨p, hm, rfl⟩
   obtain ⟨e, he, e2⟩ := List.mem_map.1 this
   exact h2 e he e2
  rw [List.erase_of_not_mem hpn]
  refine ⟨setBlock w mb (.map es clock), ?_, grown_block hb _, _, _, heap_setBlock_same hb _, hk, hn, h6⟩
  simp [Builtin.delete_, run_underlying ht, MapKept.run_getObj_map hb, lawP.check w _ hl, h1, MapKept.run_setObj_map _ hb, Result.andThen, setBlock]
 ·have hjl : j < es.size := by have := (List.getElem?_eq_some_iff.1 h2).1; simpa using this
  have hSj : S[j]? = some p := by
   have e1 : (es.toList.map (·.key))[j]? = some (pe p) := by rw [List.getElem?_map, h2, ← h3]; rfl
   rw [hk, List.getElem?_map] at e1
   obtain ⟨q, hq, e⟩ := Option.map_eq_some_iff.1 e1
   exact pe_inj e ▸ hq
  refine ⟨setBlock w mb (.map (es.eraseIdxIfInBounds j) clock), ?_, grown_block hb _, _, _, heap_setBlock_same hb _, ?_, hn.erase p, fun q hq => h6 q (List.mem_of_mem_erase hq)⟩
  ·simp [Builtin.delete_, run_underlying ht, MapKept.run_getObj_map hb, lawP.check w _ hl, h1, MapKept.run_setObj_map _ hb, Result.andThen, setBlock]
  ·have hsub : (es.eraseIdxIfInBounds j).toList = es.toList.eraseIdx j := by
    unfold Array.eraseIdxIfInBounds
    rw [dif_pos hjl]
    simp
   rw [hsub, erase_at hn hSj, ← map_eraseIdx', hk, map_eraseIdx']
end Go.Proofs.Ytnlgeiofkfkhbaa

namespace Go.Proofs.Ytnlgeiofkfkhbaa
open Go.RowKit Go.Maps Lg
attribute [local go_sem] setCell_drewN alloc_drewN

theorem wpList_del_sm {w : World} {ops : Array Oper} {rest : List Oper} {o : Oper} {a : Act} {Q : Exit → Act → World → Prop} (hg : o.guard = none) (m x : Operand) (hop : o.op = Op.call { callee := Callee.builtin Builtin.delete, args := #[m, x], argTypes := #[41, 44] })
  (mb : Nat) (S : List (Int × Int)) (hm : a.eval m = .map (some mb)) (hown : SM w mb S) (p : Int × Int) (hx : a.eval x = pe p) (hp : P64 p)
  (hK : ∀ w', SM w' mb (S.erase p) → w.grownBy w' (some mb) → wpList Try.prog ops Q rest (a.put o.dst (.tuple #[])) w') : wpList Try.prog ops Q (o :: rest) a w := by
 refine wpList_plain hg fun K' hK' => ?_
 obtain ⟨w', hrun, r1, r2⟩ := hown.del hp o.type
 unfold Oper.wp
 simp [execOp, hop, resolve, invoke, builtin, hm, hx, hrun, Result.andThen]
 exact hK' _ _ (hK w' r2 r1)
theorem SM.len {w : World} {mb : Nat} {S : List (Int × Int)} (h : SM w mb S) (ty : TypeId) : (Builtin.len_ #[41] ty #[.map (some mb)]).run Try.prog w = .ok (.int .i64 (S.length : Int)) w := by
 obtain ⟨es, clock, hb, hk, _, _⟩ := h
 have hlen : es.size = S.length := by
  have := congrArg List.length hk
  simpa using this
 have ht := Try.underlying41
 simp [Builtin.len_, run_underlying ht, MapKept.run_getObj_map hb, Result.andThen, goInt, hlen]
theorem ent_real1 : ∀ args w, (callFunc 23 args).run Try.prog w = .ok (.enter 23 args) w := enters_of Try.func23 (by kernel_rfl) rfl

set_option maxRecDepth 100000 in
set_option maxHeartbeats 3200000 in
theorem real1_any (a b : Int) (hp : P64 (a, b)) (mx mb : Nat) (S : List (Int × Int)) (w : World) (hs : SM w mb S) (kx : Bk w mx #[.map (some mb)]) : Calls Try.prog 23 #[.int .i64 a, .int .i64 b, pt mx] w fun r w' => r = .returned (.tuple #[]) ∧ SM w' mb (S.erase (a, b)) ∧ w.grownBy w' (some mb) := by
 obtain ⟨Q0, hQ0⟩ : ∃ P' : Ending → World → Prop, P' = fun r w' => r = .returned (.tuple #[]) ∧ SM w' mb (S.erase (a, b)) ∧ w.grownBy w' (some mb) := ⟨_, rfl⟩
 rw [← hQ0]
 have HQ := hid_intro hQ0
 have HS := hid_intro hs
 have HP := hid_intro hp
 have c0 := kx.q1
 dsimp only [pt]
 clear hQ0 hs hp kx
 go_enter Try.func23, Try.ntmps23
 go_wp2_with (refine wpList_del_sm rfl _ _ rfl mb S rfl HS.out (a, b) rfl HP.out ?_; intro w' h1 h2; have H1 := hid_intro h1; have H2 := hid_intro h2; clear h1 h2)
 go_end0
 rw [HQ.out]
 exact ⟨rfl, H1.out, H2.out⟩
/-- The pairs that a path goes by. -/
def pr (p : List Int) (i : Nat) : Int × Int := (ia p i, ia p ((i + 1) % p.length))
/-- Where the first loop stands. -/
structure RlI (p : List Int) (mb i : Nat) (w wr : World) : Prop where
 le : i ≤ p.length
 bel : Below w.heap.size w wr
 bx : Bk wr (mb + 1) #[.map (some mb)]
 sm : ∃ S, SM wr mb S ∧ ∀ q, q ∈ S ↔ ∃ j, j < i ∧ pr p j = q
/-- .. and the edges. -/
structure RlJ (n : Int) (E : List Ed) (p : List Int) (mb k : Nat) (w wr : World) : Prop where
 bel : Below w.heap.size w wr
 bx : Bk wr (mb + 1) #[.map (some mb)]
 sm : ∃ S, SM wr mb S ∧ ∀ q, q ∈ S ↔ (∃ j, j < p.length ∧ pr p j = q) ∧ hasE n (E.take k) q.1 q.2 = false
theorem RlJ.of {n : Int} {E : List Ed} {p : List Int} {mb : Nat} {w wr : World} (h : RlI p mb p.length w wr) : RlJ n E p mb 0 w wr := by
 obtain ⟨S, h1, h2⟩ := h.sm
 exact ⟨h.bel, h.bx, S, h1, fun q => by rw [h2, List.take_zero]; exact ⟨fun h => ⟨h, rfl⟩, fun h => h.1⟩⟩
theorem hasE_snoc {n : Int} {E : List Ed} {k : Nat} (h : k < E.length) (a b : Int) : hasE n (E.take (k + 1)) a b = (hasE n (E.take k) a b || mt n a b E[k]) := by
 unfold hasE
 rw [List.take_succ_eq_append_getElem h, List.any_append]
 simp
theorem RlJ.bel' {n : Int} {E : List Ed} {p : List Int} {mb k : Nat} {w wr w' : World} (h : RlJ n E p mb k w wr) (hb : Below wr.heap.size wr w') : RlJ n E p mb k w w' := by
 obtain ⟨S, h1, h2⟩ := h.sm
 exact ⟨vb_t h.bel hb, h.bx.bel hb, S, h1.bel hb, h2⟩
theorem RlJ.no {n : Int} {E : List Ed} {p : List Int} {mb k : Nat} {w wr : World} (h : RlJ n E p mb k w wr) (hk : k < E.length) (hc : cnt n E[k] = false) : RlJ n E p mb (k + 1) w wr := by
 obtain ⟨S, h1, h2⟩ := h.sm
 refine ⟨h.bel, h.bx, S, h1, fun q => ?_⟩
 rw [h2, hasE_snoc hk]
 have e : mt n q.1 q.2 E[k] = false := by unfold mt; rw [hc]; rfl
 rw [e, Bool.or_false]
theorem RlJ.yes {n : Int} {E : List Ed} {p : List Int} {mb k : Nat} {w wr w' : World} {S : List (Int × Int)} (h : RlJ n E p mb k w wr) (hk : k < E.length) (hc : cnt n E[k] = true) (h2 : ∀ q, q ∈ S ↔ (∃ j, j < p.length ∧ pr p j = q) ∧ hasE n (E.take k) q.1 q.2 = false) (hn : S.Nodup) (hs : SM w' mb (S.erase (E[k].f, E[k].t))) (hg : wr.grownBy w' (some mb)) (hmb : w.heap.size ≤ mb) : RlJ n E p mb (k + 1) w w' := by
 refine ⟨h.bel.grown hg h.bel.size (fun b e => by injection e with e; omega), h.bx.gr hg (fun e => by injection e with e; omega), _, hs, fun q => ?_⟩
 rw [hn.mem_erase_iff, h2, hasE_snoc hk]
 have e : mt n q.1 q.2 E[k] = decide (q = (E[k].f, E[k].t)) := by
  unfold mt
  rw [hc, Bool.true_and]
  obtain ⟨a, b⟩ := q
  refine Bool.eq_iff_iff.2 ?_
  simp only [Bool.and_eq_true, decide_eq_true_eq, Prod.mk.injEq]
  exact ⟨fun h => ⟨h.1.symm, h.2.symm⟩, fun h => ⟨h.1.symm, h.2.symm⟩⟩
 rw [e, Bool.or_eq_false_iff, decide_eq_false_iff_not]
 exact ⟨fun ⟨h3, h4, h5⟩ => ⟨h4, h5, h3⟩, fun ⟨h3, h4, h5⟩ => ⟨h5, h3, h4⟩⟩
theorem RlJ.done {n : Int} {E : List Ed} {p : List Int} {S : List (Int × Int)} (h : ∀ q, q ∈ S ↔ (∃ j, j < p.length ∧ pr p j = q) ∧ hasE n (E.take E.length) q.1 q.2 = false) : realB n E p = (decide (0 < p.length) && decide (S.length = 0)) := by
 rw [List.take_length] at h
 by_cases hs : S = []
 ·rw [realB_all (fun i hi => ?_)]
  ·rw [hs]; simp
  ·have h1 := h (pr p i)
   rw [hs] at h1
   cases hh : hasE n E (ia p i) (ia p ((i + 1) % p.length)) with
   | true => rfl
   | false => exact absurd (h1.2 ⟨⟨i, hi, rfl⟩, hh⟩) (by simp)
 ·obtain ⟨q, hq⟩ := List.exists_mem_of_ne_nil S hs
  obtain ⟨⟨j, hj, e⟩, hf⟩ := (h q).1 hq
  subst e
  rw [realB_no hj hf]
  have : ¬ S.length = 0 := fun e => hs (List.eq_nil_of_length_eq_zero e)
  simp [this]
theorem RlI.put {p : List Int} {mb i : Nat} {w wr w' : World} {S : List (Int × Int)} (h : RlI p mb i w wr) (hi : i < p.length) (h2 : ∀ q, q ∈ S ↔ ∃ j, j < i ∧ pr p j = q) (hs : SM w' mb (if pr p i ∈ S then S else S ++ [pr p i])) (hg : wr.grownBy w' (some mb)) (hmb : w.heap.size ≤ mb) : RlI p mb (i + 1) w w' := by
 refine ⟨hi, h.bel.grown hg h.bel.size (fun b e => by injection e with e; omega), h.bx.gr hg (fun e => by injection e with e; omega), _, hs, fun q => ?_⟩
 have key : (∃ j, j < i + 1 ∧ pr p j = q) ↔ (∃ j, j < i ∧ pr p j = q) ∨ pr p i = q := by
  constructor
  ·rintro ⟨j, hj, e⟩
   by_cases hji : j = i
   ·subst hji; exact .inr e
   ·exact .inl ⟨j, by omega, e⟩
  ·rintro (⟨j, hj, e⟩ | e)
   ·exact ⟨j, by omega, e⟩
   ·exact ⟨i, by omega, e⟩
 rw [key, ← h2]
 split
 ·rename_i hm
  exact ⟨.inl, fun h => h.elim id (fun e => e ▸ hm)⟩
 ·rw [List.mem_append, List.mem_singleton]
  exact ⟨fun h => h.imp id (fun e => e.symm), fun h => h.imp id (fun e => e.symm)⟩
end Go.Proofs.Ytnlgeiofkfkhbaa

namespace Go.Proofs.Ytnlgeiofkfkhbaa
open Go.RowKit Go.Maps Lg
attribute [local go_sem] setCell_drewN alloc_drewN

theorem ia_i64 {w : World} {X : Nat → Prop} {p : List Int} {v : Value} (h : II w X p v) {i : Nat} (hi : i < p.length) : I64 (ia p i) := by
 obtain ⟨ao, cap, _, _, _, h4, _⟩ := h
 exact h4 _ (ia_mem hi)

set_option maxRecDepth 100000 in
set_option maxHeartbeats 3200000 in
theorem real_any (n : Int) (hn2 : I64 n) (E : List Ed) (hEl : E.length ≤ 1048576) (v pv : Value) (p : List Int) (w : World) (hE : EdI w v E) (hp : II w (fun _ => False) p pv) :
  Calls Try.prog 12 #[.int .i64 n, v, pv] w fun r w' => r = .returned (.bool (realB n E p)) ∧ Below w.heap.size w w' := by
 obtain ⟨Q0, hQ0⟩ : ∃ P' : Ending → World → Prop, P' = fun r w' => r = .returned (.bool (realB n E p)) ∧ Below w.heap.size w w' := ⟨_, rfl⟩
 rw [← hQ0]
 have HQ := hid_intro hQ0
 have HII := hid_intro hp
 have HEA := hid_intro (fun (I : Nat → World → Prop) h1 h2 h3 h4 w0 h0 => each_any n E hEl v 23 [pt (w.heap.size + 1)] ent_real1 I h1 h2 h3 h4 w0 h0)
 have HE := hid_intro hE
 have HN2 := hid_intro hn2
 obtain ⟨eo, ec, rfl, -⟩ := hE
 obtain ⟨ao, pc, rfl, hpl, hpcell⟩ := hp.shape
 have HPC := hid_intro hpcell
 clear hQ0 hn2 hEl hp hpcell
 go_enter Try.func12, Try.ntmps12
 have hmm := @run_makeMap Try.prog
 go_wp2_with fail
 obtain ⟨W0, hW0⟩ : ∃ W0, (w.alloc (.map #[] 0)).alloc (.cells #[.map (some w.heap.size)] 41) = W0 := ⟨_, rfl⟩
 obtain ⟨mb, hmb⟩ : ∃ mb, w.heap.size = mb := ⟨_, rfl⟩
 have HI0 : Hid (RlI p mb 0 w W0) := hid_intro (by
  rw [← hW0, ← hmb]
  exact ⟨Nat.zero_le _, vb_a (vb_a (Below.refl _ _) _) _, Bk.new' _ _ _ _ (by simp), [], (SM.made w).bel (vb_a (Below.refl _ _) _), fun q => ⟨fun h => by simp at h, fun ⟨j, hj, _⟩ => by omega⟩⟩)
 have HMB := hid_intro (show w.heap.size ≤ mb by omega)
 rw [hmb] at HEA ⊢
 rw [hmb] at hW0
 rw [hW0]
 clear hW0
 go_loopg [8, 9, 13] (p.length) (fun g s8 s9 s13 wr => ∃ i : Nat, g = p.length - i ∧ s13 = .int .i64 (i : Int) ∧ Hid (RlI p mb i w wr))
 case atStart => exact ⟨0, rfl, rfl, HI0⟩
 case round =>
  obtain ⟨i, rfl, rfl, HI⟩ := hrel
  by_cases hi : i < p.length
  ·have hiI : (i : Int) < (p.length : Int) := by omega
   have HLT := hid_intro hi
   have h0 : ¬ p = [] := fun e => by rw [e] at hi; simp at hi
   have h00 : ¬ (p.length : Int) = 0 := by omega
   have hw : IntKind.i64.wrap ((i : Int) + 1) = (i : Int) + 1 := by simp [IntKind.wrap, IntKind.bits, IntKind.signed]; omega
   obtain ⟨k, hk⟩ : ∃ k, (i + 1) % p.length = k := ⟨_, rfl⟩
   have hkl : k < p.length := by rw [← hk]; exact Nat.mod_lt _ (by omega)
   have hr : ((i : Int) + 1).tmod (p.length : Int) = (k : Int) := by
    rw [Int.tmod_eq_emod_of_nonneg (by omega), ← hk]
    push_cast
    rfl
   have hkI : (k : Int) < (p.length : Int) := by omega
   obtain ⟨pb, poff, rfl, hcell⟩ := HPC.out.resolve_left h0
   have c1 := hcell wr HI.out.bel i hi
   have c2 := hcell wr HI.out.bel k hkl
   have c3 := HI.out.bx.q1
   obtain ⟨S, hsm, hS⟩ := HI.out.sm
   have hpr : pr p i = (ia p i, ia p k) := by unfold pr; rw [hk]
   have h64 : P64 (pr p i) := by rw [hpr]; exact ⟨ia_i64 HII.out hi, ia_i64 HII.out hkl⟩
   obtain ⟨W', hrun, hg, hs⟩ := (show SM wr.drew mb S from hsm).put h64 (.agg #[])
   have HFN := hid_intro (HI.out.put hi hS hs ⟨hg.os, hg.tape, hg.output, hg.size, hg.block⟩ HMB.out)
   rw [hpr] at hrun
   unfold pe at hrun
   dsimp only at hrun
   clear hcell hi hk hkl hsm hS hpr h64 hg hs
   generalize ia p i = x at *
   generalize ia p k = y at *
   go_wp2_with fail
   go_region
   all_goals
    go_wp2_with fail
    go_roundg (p.length - (i + 1))
    case measure => have := HLT.out; omega
    case rel => exact ⟨i + 1, rfl, by go_num, HFN⟩
  ·have hiI : ¬ (i : Int) < (p.length : Int) := by omega
   have hie : i = p.length := by have := HI.out.le; omega
   have HJ0 := hid_intro (RlJ.of (n := n) (E := E) (hie ▸ HI.out))
   have HEC := hid_intro (HEA.out (fun k wr => RlJ n E p mb k w wr) (fun k w1 w2 h hb => h.bel' hb) (fun k w1 h => HE.out.below h.bel) (fun k hk w1 hc h => h.no hk hc) (fun k hk w1 hc h => by
    obtain ⟨S, h1, h2⟩ := h.sm
    have hn : S.Nodup := by obtain ⟨_, _, _, _, hn, _⟩ := h1; exact hn
    have hb := cnt_in hc
    have hi64 := HN2.out
    unfold I64 at hi64
    refine (real1_any E[k].f E[k].t ⟨by unfold I64; omega, by unfold I64; omega⟩ (mb + 1) mb S w1 h1 h.bx).mono ?_
    rintro r w2 ⟨rfl, h3, h4⟩
    exact ⟨rfl, h.yes hk hc h2 hn h3 h4 HMB.out⟩) wr HJ0.out)
   have hmf : ∀ (fn : Fn) (first cap : Array Value) (w : World), (Instr.makeFunc fn first cap).run Try.prog w = .ok (.func fn first cap) w := fun _ _ _ _ => rfl
   dsimp only [pt] at HEC
   clear hi hie
   go_wp2_with fail
   refine HEC.out.mono ?_
   rintro r w5 ⟨rfl, hj5⟩
   obtain ⟨S, hs5, hS⟩ := hj5.sm
   have hlen := hs5.len 3
   have HRB := hid_intro (RlJ.done hS)
   have HB5 := hid_intro hj5.bel
   have c5 := hj5.bx.q1
   clear hj5 hs5 hS
   by_cases hp0 : 0 < p.length
   ·have hp0I : (0 : Int) < (p.length : Int) := by omega
    by_cases hs0 : S.length = 0
    ·have hs0I : (S.length : Int) = 0 := by omega
     have HFI : Hid (realB n E p = true) := hid_intro (by rw [HRB.out, decide_eq_true hp0, decide_eq_true hs0]; rfl)
     clear hp0 hs0
     go_wp2_with fail
     rw [HQ.out, HFI.out]
     exact ⟨rfl, HB5.out⟩
    ·have hs0I : ¬ (S.length : Int) = 0 := by omega
     have HFI : Hid (realB n E p = false) := hid_intro (by rw [HRB.out, decide_eq_true hp0, decide_eq_false hs0]; rfl)
     have HSB : Hid (((S.length : Int) == 0) = false) := hid_intro (beq_eq_false_iff_ne.2 hs0I)
     clear hp0
     go_wp2_with fail
     rw [HQ.out, HFI.out]
     exact ⟨ret_bool HSB.out, HB5.out⟩
   ·have hp0I : ¬ (0 : Int) < (p.length : Int) := by omega
    have HFI : Hid (realB n E p = false) := hid_intro (by rw [HRB.out, decide_eq_false hp0]; rfl)
    clear hp0
    go_wp2_with fail
    rw [HQ.out, HFI.out]
    exact ⟨rfl, HB5.out⟩
end Go.Proofs.Ytnlgeiofkfkhbaa

namespace Go.Proofs.Ytnlgeiofkfkhbaa
open Go.RowKit Go.Maps Lg
attribute [local go_sem] setCell_drewN alloc_drewN

theorem cy_or_rank (n : Int) (E : List Ed) : Cy (prs n E) ∨ ∃ M, Rank (rowOf (prs n E)) M := by
 have hN : Net (prs n E) (List.range n.toNat) := ⟨List.nodup_range, fun e he => ⟨List.mem_range.2 (prs_lt e he).1, List.mem_range.2 (prs_lt e he).2⟩⟩
 have hcs := cy_says hN
 cases hr : runs (rowOf (pl (List.range n.toNat) (prs n E))) true (List.range n.toNat).length (List.range (List.range n.toNat).length) [] with
 | error c =>
  rw [hr] at hcs
  exact .inl hcs.1
 | ok fin =>
  rw [hr] at hcs
  exact .inr ⟨_, rank_of hN hcs.2.1 hcs.2.2⟩
theorem any_says {n : Int} {E : List Ed} {c : List Nat} (hc : c ≠ [] ↔ Cy (prs n E)) : (Lg.raised (prs n E) (n.toNat + 1) (fun _ => 0)).isNone = !c.isEmpty := by
 have h1 : (!c.isEmpty) = true ↔ c ≠ [] := by cases c <;> simp
 refine Bool.eq_iff_iff.2 (Iff.trans ?_ (hc.symm.trans h1.symm))
 rw [Option.isNone_iff_eq_none]
 exact raised_iff (cy_or_rank n E) prs_lt

set_option maxRecDepth 100000 in
set_option maxHeartbeats 3200000 in
theorem loopsFinds_walk (n : Int) (hn2 : I64 n) (E : List Ed) (v : Value) (p : List Int) (pv : Value) (w : World) (hE : EdI w v E) (hp : II w (fun _ => False) p pv) : Calls Try.prog 3 #[.int .i64 n, v, pv] w fun r w' => r = .returned (.bool true) ∧ Below w.heap.size w w' := by
 obtain ⟨Q0, hQ0⟩ : ∃ P' : Ending → World → Prop, P' = fun r w' => r = .returned (.bool true) ∧ Below w.heap.size w w' := ⟨_, rfl⟩
 rw [← hQ0]
 have HQ := hid_intro hQ0
 have HE := hid_intro hE
 have HN2 := hid_intro hn2
 have HII := hid_intro hp
 obtain ⟨eo, ec, rfl, hel, hec, -⟩ := hE
 obtain ⟨ao, pc, rfl, -, -⟩ := hp.shape
 have hEI : (E.length : Int) ≤ 9223372036854775807 := by unfold maxLen at hec; omega
 clear hQ0 hn2 hel hec hp
 go_enter Try.func3, Try.ntmps3
 by_cases hn : (300 : Int) < n
 ·go_wp2_with fail
  refine (heads_any w).mono ?_
  rintro r w1 ⟨rfl, hb1⟩
  have HB1 := hid_intro hb1
  clear hb1
  go_wp2_with fail
  rw [HQ.out]
  exact ⟨rfl, HB1.out⟩
 ·by_cases hl : (300 : Int) < (E.length : Int)
  ·go_wp2_with fail
   refine (heads_any w).mono ?_
   rintro r w1 ⟨rfl, hb1⟩
   have HB1 := hid_intro hb1
   clear hb1
   go_wp2_with fail
   rw [HQ.out]
   exact ⟨rfl, HB1.out⟩
  ·have HCY := hid_intro (cycle_any n (by omega) HN2.out E (by omega) _ w HE.out)
   have HAN := hid_intro (fun w1 hb => rany_any n (by omega) E (by omega) _ w1 (HE.out.below (w' := w1) hb))
   have HRL := hid_intro (fun w1 (hb : Below w.heap.size w w1) => real_any n HN2.out E (by omega) _ _ p w1 (HE.out.below (w' := w1) hb) (HII.out.kept hb))
   have HRR := hid_intro (fun w1 (hb : Below w.heap.size w w1) => rreal_any n E _ _ p w1 (HE.out.below (w' := w1) hb) (HII.out.kept hb))
   go_wp2_with fail
   refine HCY.out.mono ?_
   rintro r w1 ⟨hb1, v1, c, rfl, ho1, hc, hcc⟩
   have HB1 := hid_intro hb1
   have HAN1 := hid_intro (HAN.out w1 hb1)
   rw [any_says hc] at HAN1
   have HI1 := hid_intro (ho1.ii (fun _ => False) (fun _ _ h => h))
   obtain ⟨a1, p1, rfl, -⟩ := ho1.form
   have HCC := hid_intro hcc
   clear hb1 ho1 hc hcc
   cases c with
   | nil =>
    rw [show (!([] : List Nat).isEmpty) = false from rfl] at *
    rw [show (il []).length = 0 from rfl]
    go_wp2_with fail
    refine HAN1.out.mono ?_
    rintro r w2 ⟨rfl, hb2⟩
    have HB2 := hid_intro (vb_t HB1.out hb2)
    clear hb2
    have HR2 := hid_intro (HRL.out w2 HB2.out)
    obtain ⟨rb, hrb⟩ : ∃ rb, realB n E p = rb := ⟨_, rfl⟩
    rw [hrb] at HR2 HRR
    go_wp2_with fail
    refine HR2.out.mono ?_
    rintro r w3 ⟨rfl, hb3⟩
    have HB3 := hid_intro (vb_t HB2.out hb3)
    clear hb3
    have HR3 := hid_intro (HRR.out w3 HB3.out)
    go_wp2_with fail
    refine HR3.out.mono ?_
    rintro r w4 ⟨rfl, hb4⟩
    have HB4 := hid_intro (vb_t HB3.out hb4)
    clear hb4
    go_wp2_with fail
    refine (heads_any w4).mono ?_
    rintro r w5 ⟨rfl, hb5⟩
    have HB5 := hid_intro (vb_t HB4.out hb5)
    clear hb5
    go_wp2_with fail
    rw [HQ.out]
    exact ⟨rfl, HB5.out⟩
   | cons x c =>
    rw [show (!(x :: c).isEmpty) = true from rfl] at *
    have HRC := hid_intro (fun w4 (hb : Below w1.heap.size w1 w4) (hb0 : Below w.heap.size w w4) => rreal_any n E _ _ (il (x :: c)) w4 (HE.out.below (w' := w4) hb0) (HI1.out.kept hb))
    rw [cyc_real (HCC.out (by simp))] at HRC
    go_wp2_with fail
    refine HAN1.out.mono ?_
    rintro r w2 ⟨rfl, hb2⟩
    have HB2 := hid_intro (vb_t HB1.out hb2)
    have HD2 := hid_intro hb2
    clear hb2
    have HR2 := hid_intro (HRL.out w2 HB2.out)
    obtain ⟨rb, hrb⟩ : ∃ rb, realB n E p = rb := ⟨_, rfl⟩
    rw [hrb] at HR2 HRR
    go_wp2_with fail
    refine HR2.out.mono ?_
    rintro r w3 ⟨rfl, hb3⟩
    have HB3 := hid_intro (vb_t HB2.out hb3)
    have HD3 := hid_intro (vb_t HD2.out hb3)
    clear hb3
    have HR3 := hid_intro (HRR.out w3 HB3.out)
    go_wp2_with fail
    refine HR3.out.mono ?_
    rintro r w4 ⟨rfl, hb4⟩
    have HB4 := hid_intro (vb_t HB3.out hb4)
    have HD4 := hid_intro (vb_t HD3.out hb4)
    clear hb4
    have HR4 := hid_intro (HRC.out w4 HD4.out HB4.out)
    go_wp2_with fail
    refine HR4.out.mono ?_
    rintro r w5 ⟨rfl, hb5⟩
    have HB5 := hid_intro (vb_t HB4.out hb5)
    clear hb5
    go_wp2_with fail
    refine (heads_any w5).mono ?_
    rintro r w6 ⟨rfl, hb6⟩
    have HB6 := hid_intro (vb_t HB5.out hb6)
    clear hb6
    go_wp2_with fail
    rw [HQ.out]
    exact ⟨rfl, HB6.out⟩
end Go.Proofs.Ytnlgeiofkfkhbaa
