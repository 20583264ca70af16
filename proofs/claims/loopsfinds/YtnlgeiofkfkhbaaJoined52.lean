/-
  Edges and a path that come in: how they lie in memory. No condition.
-/
import Derived.Test.YtnlgeiofkfkhbaaJoined12
import Derived.Test.YtnlgeiofkfkhbaaRows
import Derived.ProofKit
import Derived.OpenShut
import Derived.ShutString
import Derived.ChangeOld
import Derived.Below
import Derived.Deep.DeepHandedRow
import Derived.Deep.Strs
import Derived.LaidLaws
import Derived.SizedLaws
namespace Go.Proofs.Ytnlgeiofkfkhbaa
open Go.ChangeShapes Go.WideShapes Go.ChangeAt Go.RowKit Go.Deep

theorem own : ownKnob Try.prog.godebug = none := by kernel_rfl
theorem laidOut : laidOutB Try.prog = true := by kernel_rfl
theorem cellsInt : Try.prog.cellsOf 3 = 1 := by kernel_rfl
theorem cellsBoolJ : Try.prog.cellsOf 4 = 1 := by kernel_rfl
theorem cellsStr : Try.prog.cellsOf 9 = 1 := by kernel_rfl
theorem cellsEdge : Try.prog.cellsOf 32 = 5 := by kernel_rfl
theorem xk_add (b o n : Nat) : (Addr.mk b o none).add n = ⟨b, o + n, none⟩ := by
 unfold Addr.add
 split
 ·rename_i h; subst h; rfl
 ·rfl
theorem xk_i64 {n : Int} (h : (Lit.int .i64 n).wf = true) : I64 n := by
 simp only [Lit.wf, Bool.and_eq_true, decide_eq_true_eq] at h
 have e1 : IntKind.min .i64 = -9223372036854775808 := by decide
 have e2 : IntKind.max .i64 = 9223372036854775807 := by decide
 rw [e1, e2] at h
 unfold I64
 omega

theorem trod_struct5 {H : Type} {enc : TypeId × Value → H} {P : Program} {w : World} {base : Nat} {spare : Nat → Bool} {held : Bool} {t : TypeId} {f0 f1 f2 f3 f4 : Field} {fuel : Nat} {cs : List Value} {x : DataW H × List MemPlace} (ht : P.underlying t = some (.struct #[f0, f1, f2, f3, f4])) (h : DataW.trod enc P w base spare held fuel t cs = some x) :
  ∃ y0 y1 y2 y3 y4 n, cs.length = P.cellsOf t ∧ DataW.trod enc P w base spare held n f0.type ((cs.drop f0.offset).take (P.cellsOf f0.type)) = some y0 ∧
   DataW.trod enc P w base spare held n f1.type ((cs.drop f1.offset).take (P.cellsOf f1.type)) = some y1 ∧ DataW.trod enc P w base spare held n f2.type ((cs.drop f2.offset).take (P.cellsOf f2.type)) = some y2 ∧
   DataW.trod enc P w base spare held n f3.type ((cs.drop f3.offset).take (P.cellsOf f3.type)) = some y3 ∧ DataW.trod enc P w base spare held n f4.type ((cs.drop f4.offset).take (P.cellsOf f4.type)) = some y4 := by
 obtain ⟨xs, n, hn, rfl, hl, hlen, hf⟩ := DataW.trod_struct ht h
 match xs, hlen with
 | [y0, y1, y2, y3, y4], _ => exact ⟨y0, y1, y2, y3, y4, n, hl, by simpa using hf 0 f0 rfl, by simpa using hf 1 f1 rfl, by simpa using hf 2 f2 rfl, by simpa using hf 3 f3 rfl, by simpa using hf 4 f4 rfl⟩

set_option maxRecDepth 100000 in
/-- Edges that come in. -/
theorem open_edges {H : Type} {enc : TypeId × Value → H} {W : World} {base : Nat} {v : Value} {d : DataW H} {p : List MemPlace} (hv : Value.okWide Try.prog W .any base 22 v)
  (h : DataW.Trod enc Try.prog W 0 (fun _ => true) true 22 v d p) : ∃ E : List Ed, EdI W v E := by
 obtain ⟨a0, len0, cap0, rfl⟩ := okWide_slice Try.underlying22 hv
 obtain ⟨fuel, hf⟩ := h
 rcases DataW.trod_slice Try.underlying22 hf with ⟨h5, _⟩ | ⟨a, len, cap, elems, rest, m2, hm2, h5, hse, _, hl, hcm, hlen, hel, _, _⟩
 ·simp [Value.cells] at h5
  obtain ⟨rfl, rfl, rfl⟩ := h5
  exact ⟨[], none, 0, rfl, Nat.zero_le _, by unfold maxLen; omega, .inl rfl⟩
 ·simp [Value.cells] at h5
  obtain ⟨rfl, rfl, rfl⟩ := h5
  have each : ∀ i, i < len0 → ∃ q : Ed, W.cells? 0 (a.add (i * 5)) 5 = some [.int .i64 q.f, .int .i64 q.t, .string q.wd, .bool q.s, .string q.dy] := fun i hi => by
   have := hel i hi
   rw [cellsEdge, List.getElem?_eq_getElem (by omega)] at this
   obtain ⟨cs', g1, g2⟩ := Option.bind_eq_some_iff.1 this
   generalize elems[i] = xe at g2
   obtain ⟨y0, y1, y2, y3, y4, n, hlc, u0, u1, u2, u3, u4⟩ := trod_struct5 Try.underlying32 g2
   rw [cellsEdge] at hlc
   match cs', hlc with
   | [c0, c1, c2, c3, c4], _ =>
   simp only [cellsInt, cellsStr, cellsBoolJ, List.drop, List.take] at u0 u1 u2 u3 u4
   obtain ⟨k, q0, _, _⟩ := DataW.trod_int Try.underlying3 u0
   obtain ⟨t, q1, _, _⟩ := DataW.trod_int Try.underlying3 u1
   obtain ⟨s, q2, _, _⟩ := DataW.trod_string Try.underlying9 u2
   obtain ⟨b, q3, _⟩ := DataW.trod_bool Try.underlying4 u3
   obtain ⟨s2, q4, _, _⟩ := DataW.trod_string Try.underlying9 u4
   simp only [List.cons.injEq, and_true] at q0 q1 q2 q3 q4
   subst q0 q1 q2 q3 q4
   exact ⟨⟨k, t, s, b, s2⟩, g1⟩
  haveI : Inhabited Ed := ⟨⟨0, 0, ByteArray.empty, false, ByteArray.empty⟩⟩
  obtain ⟨Q, hQ⟩ := choose_lt each
  refine ⟨(List.range len0).map Q, some a, cap0, by simp, by simpa using hl, hcm, ?_⟩
  by_cases h0 : len0 = 0
  ·subst h0; exact .inl rfl
  ·right
   have hcell : ∀ i, i < len0 → ∀ j, j < 5 → W.cell? ((a.add (i * 5)).add j) = [Value.int .i64 (Q i).f, .int .i64 (Q i).t, .string (Q i).wd, .bool (Q i).s, .string (Q i).dy][j]? := fun i hi j hj => by
    obtain ⟨_, _, hc⟩ := World.cells?_some (hQ i hi)
    exact hc j hj
   have hsp : a.spot = none := by simpa [Addr.add] using World.cell?_spot ((hcell 0 (by omega) 0 (by omega)).trans rfl)
   obtain ⟨b, off, spot⟩ := a
   simp only at hsp
   subst hsp
   have hb0 := (hcell 0 (by omega) 0 (by omega)).trans rfl
   rw [xk_add, xk_add] at hb0
   refine ⟨b, off, rfl, World.block_lt_of_cell? W _ hb0, fun i hi => ?_⟩
   have hi' : i < len0 := by simpa using hi
   have c0 := (hcell i hi' 0 (by omega)).trans rfl
   have c1 := (hcell i hi' 1 (by omega)).trans rfl
   have c2 := (hcell i hi' 2 (by omega)).trans rfl
   have c3 := (hcell i hi' 3 (by omega)).trans rfl
   have c4 := (hcell i hi' 4 (by omega)).trans rfl
   rw [xk_add, xk_add] at c0 c1 c2 c3 c4
   have e : ((List.range len0).map Q)[i] = Q i := by simp
   rw [e]
   exact ⟨c0, c1, c2, c3, c4⟩
set_option maxRecDepth 100000 in
/-- A path that comes in. -/
theorem open_ints {H : Type} {enc : TypeId × Value → H} {W : World} {base : Nat} {v : Value} {d : DataW H} {p : List MemPlace} (hv : Value.okWide Try.prog W .any base 23 v)
  (h : DataW.Trod enc Try.prog W 0 (fun _ => true) true 23 v d p) : ∃ l : List Int, II W (fun _ => False) l v := by
 obtain ⟨a0, len0, cap0, rfl⟩ := okWide_slice Try.underlying23 hv
 obtain ⟨fuel, hf⟩ := h
 rcases DataW.trod_slice Try.underlying23 hf with ⟨h5, _⟩ | ⟨a, len, cap, elems, rest, m2, hm2, h5, hse, _, hl, hcm, hlen, hel, _, _⟩
 ·simp [Value.cells] at h5
  obtain ⟨rfl, rfl, rfl⟩ := h5
  exact ⟨[], none, 0, rfl, Nat.zero_le _, by unfold maxLen; omega, fun x hx => by simp at hx, .inl rfl⟩
 ·simp [Value.cells] at h5
  obtain ⟨rfl, rfl, rfl⟩ := h5
  have each : ∀ i, i < len0 → ∃ q : Int, W.cells? 0 (a.add (i * 1)) 1 = some [.int .i64 q] ∧ I64 q := fun i hi => by
   have := hel i hi
   rw [cellsInt, List.getElem?_eq_getElem (by omega)] at this
   obtain ⟨cs', g1, g2⟩ := Option.bind_eq_some_iff.1 this
   generalize elems[i] = xe at g2
   obtain ⟨k, q0, _, hk⟩ := DataW.trod_int Try.underlying3 g2
   subst q0
   exact ⟨k, g1, xk_i64 hk⟩
  obtain ⟨Q, hQ⟩ := choose_lt each
  refine ⟨(List.range len0).map Q, some a, cap0, by simp, by simpa using hl, hcm, fun x hx => ?_, ?_⟩
  ·obtain ⟨i, hi, rfl⟩ := List.mem_map.1 hx
   exact (hQ i (List.mem_range.1 hi)).2
  by_cases h0 : len0 = 0
  ·subst h0; exact .inl rfl
  ·right
   have hcell : ∀ i, i < len0 → W.cell? ((a.add (i * 1)).add 0) = some (Value.int .i64 (Q i)) := fun i hi => by
    obtain ⟨_, _, hc⟩ := World.cells?_some (hQ i hi).1
    exact hc 0 (by omega)
   have hsp : a.spot = none := by simpa [Addr.add] using World.cell?_spot (hcell 0 (by omega))
   obtain ⟨b, off, spot⟩ := a
   simp only at hsp
   subst hsp
   refine ⟨b, off, rfl, fun h => h, fun i hi => ?_⟩
   have hi' : i < len0 := by simpa using hi
   have c0 := hcell i hi'
   rw [xk_add, xk_add] at c0
   have e : ia ((List.range len0).map Q) i = Q i := by
    unfold ia
    rw [List.getD_eq_getElem?_getD, List.getElem?_eq_getElem hi]
    simp
   rw [e]
   simpa using c0
end Go.Proofs.Ytnlgeiofkfkhbaa
