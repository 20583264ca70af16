/-
  A row of states that comes in: it lies in memory, and nothing in it is longer than the bulk of what was read. No condition.
  What the rows' list gives: the table of greatest code points; ranges that come in as arguments, and how many they can be. Conditions: none of its own.
-/
import Derived.Test.YtoinlmfodmgohaaGreatDoorG46
import Derived.Test.YtoinlmfodmgohaaGreatDoorG5
import Derived.Test.YtoinlmfodmgohaaGreatDoorG4
import Derived.Test.YtoinlmfodmgohaaGreatDoorCards
import Derived.Test.YtoinlmfodmgohaaGreatDoorTie
import Derived.ProofKit
import Derived.OpenShut
import Derived.ShutString
import Derived.ChangeOld
import Derived.Below
import Derived.Deep.DeepHandedRow
import Derived.Deep.Strs
import Derived.Lib.LaidTab
import Derived.LaidLaws
import Derived.LaidHandle
import Derived.LaidSub
import Derived.SizedLaws
namespace Go.Proofs.YtoinlmfodmgohaaGreatDoor
open Go.ChangeShapes Go.WideShapes Go.ChangeAt Go.RowKit Go.Deep

theorem cellsState : Tryz.prog.cellsOf 94 = 4 := by kernel_rfl
theorem cellsStateKind : Tryz.prog.cellsOf 92 = 1 := by kernel_rfl
set_option maxRecDepth 100000 in
/-- States that come in. -/
theorem open_states {H : Type} {enc : TypeId × Value → H} {W : World} {base : Nat} {v : Value} {d : DataW H} {p : List MemPlace} (hv : Value.okWide Tryz.prog W .any base 24 v)
    (h : DataW.Trod enc Tryz.prog W 0 (fun _ => true) true 24 v d p) :
    ∃ l : List ST, SI W (fun _ => False) l v ∧ (∀ s ∈ l, s.r.length ≤ Rows.uptoBulk d) ∧ l.length ≤ Rows.uptoBulk d := by
  obtain ⟨a0, len0, cap0, rfl⟩ := okWide_slice Tryz.underlying24 hv
  obtain ⟨fuel, hf⟩ := h
  rcases DataW.trod_slice Tryz.underlying24 hf with ⟨h5, _⟩ | ⟨a, len, cap, elems, rest, m2, hm2, h5, hse, _, hl, hcm, hlen, hel, _, _⟩
  · simp [Value.cells] at h5
    obtain ⟨rfl, rfl, rfl⟩ := h5
    exact ⟨[], SI.nil _ _, fun s hs => by simp at hs, Nat.zero_le _⟩
  · simp [Value.cells] at h5
    obtain ⟨rfl, rfl, rfl⟩ := h5
    have e1 : Rows.uptoBulk d = Rows.uptoBulkAll (elems.map (·.1)) + Rows.uptoBulkAll (rest.map (·.1)) + 1 := by
      have := (Prod.mk.inj hse).1
      rw [this]; rfl
    have each : ∀ i, i < len0 → ∃ q : ST × Value, W.cells? 0 (a.add (i * 4)) 4 = some [.int .i64 q.1.k, q.2, .int .i64 q.1.a, .int .i64 q.1.b] ∧ q.1.ok ∧ RI W (fun _ => False) q.1.r q.2 ∧ q.1.r.length ≤ Rows.uptoBulk d := fun i hi => by
      have := hel i hi
      rw [cellsState, List.getElem?_eq_getElem (by omega)] at this
      obtain ⟨cs', g1, g2⟩ := Option.bind_eq_some_iff.1 this
      have e2 := bulk_part (l := elems.map (·.1)) (List.mem_map.2 ⟨_, List.getElem_mem (show i < elems.length by omega), rfl⟩)
      generalize elems[i] = xe at g2 e2
      obtain ⟨y0, y1, y2, y3, n, _, hxe, hlc, u0, u1, u2, u3⟩ := trod_struct4 Tryz.underlying94 g2
      rw [cellsState] at hlc
      match cs', hlc with
      | [c0, c1, c2, c3], _ =>
      simp only [cellsInt, cellsStateKind, cellsRanges, List.drop, List.take] at u0 u1 u2 u3
      obtain ⟨k, q0, _, hk⟩ := DataW.trod_int Tryz.underlying92 u0
      obtain ⟨r, v1, q1, hR, hrb⟩ := open_rngs2 u1
      obtain ⟨x, q2, _, hx⟩ := DataW.trod_int Tryz.underlying3 u2
      obtain ⟨y, q3, _, hy⟩ := DataW.trod_int Tryz.underlying3 u3
      simp only [List.cons.injEq, and_true] at q0 q1 q2 q3
      subst q0 q1 q2 q3
      have hbx : Rows.uptoBulk xe.1 = Rows.uptoBulk y0.1 + (Rows.uptoBulk y1.1 + (Rows.uptoBulk y2.1 + (Rows.uptoBulk y3.1 + 0))) + 1 := by rw [hxe]; rfl
      refine ⟨⟨⟨k, r, x, y⟩, c1⟩, g1, ⟨xk_i64 hk, xk_i64 hx, xk_i64 hy⟩, hR, ?_⟩
      show r.length ≤ _
      omega
    haveI : Inhabited (ST × Value) := ⟨⟨⟨0, [], 0, 0⟩, .nilIface⟩⟩
    obtain ⟨Q, hQ⟩ := choose_lt each
    have hsa : ∀ i, i < len0 → sa ((List.range len0).map fun i => (Q i).1) i = (Q i).1 := fun i hi => by
      rw [sa_get (by simpa using hi)]; simp
    refine ⟨(List.range len0).map fun i => (Q i).1, ⟨some a, cap0, by simp, by simpa using hl, hcm, fun r hr => ?_, ?_⟩, fun s hs => ?_, ?_⟩
    · obtain ⟨i, hi, rfl⟩ := List.mem_map.1 hr
      exact (hQ i (List.mem_range.1 hi)).2.1
    · by_cases h0 : len0 = 0
      · subst h0; exact Or.inl rfl
      · right
        have hcell : ∀ i, i < len0 → ∀ j, j < 4 → W.cell? ((a.add (i * 4)).add j) = [Value.int .i64 (Q i).1.k, (Q i).2, .int .i64 (Q i).1.a, .int .i64 (Q i).1.b][j]? := fun i hi j hj => by
          obtain ⟨_, _, hc⟩ := World.cells?_some (hQ i hi).1
          exact hc j hj
        have hsp : a.spot = none := by simpa [Addr.add] using World.cell?_spot ((hcell 0 (by omega) 0 (by omega)).trans rfl)
        obtain ⟨b, off, spot⟩ := a
        simp only at hsp
        subst hsp
        refine ⟨b, off, fun i => (Q i).2, rfl, fun h => h, fun i hi => ?_⟩
        have hi' : i < len0 := by simpa using hi
        have c0 := (hcell i hi' 0 (by omega)).trans rfl
        have c1 := (hcell i hi' 1 (by omega)).trans rfl
        have c2 := (hcell i hi' 2 (by omega)).trans rfl
        have c3 := (hcell i hi' 3 (by omega)).trans rfl
        rw [xk_add, xk_add] at c0 c1 c2 c3
        rw [hsa i hi']
        exact ⟨⟨c0, c1, c2, c3⟩, (hQ i hi').2.2.1⟩
    · obtain ⟨i, hi, rfl⟩ := List.mem_map.1 hs
      exact (hQ i (List.mem_range.1 hi)).2.2.2
    · have e2 := bulk_length (elems.map (·.1))
      rw [List.length_map] at e2 ⊢
      rw [List.length_range]
      omega
theorem upto_states {H : Type} {ds : List (DataW H)} (hc : Rows.uptoSmall H ds = true) {j : Nat} {l : List ST} {d : DataW H} (hd : ds[j]? = some d) (h : (∀ s ∈ l, s.r.length ≤ Rows.uptoBulk d) ∧ l.length ≤ Rows.uptoBulk d) : (∀ s ∈ l, s.r.length ≤ 1048576) ∧ l.length ≤ 1048576 := by
  have hb : Rows.uptoBulkAll ds ≤ 1048576 := of_decide_eq_true hc
  have hp := bulk_part (List.mem_of_getElem? hd)
  exact ⟨fun s hs => by have := h.1 s hs; omega, by have := h.2; omega⟩
end Go.Proofs.YtoinlmfodmgohaaGreatDoor

namespace Go.Proofs.YtoinlmfodmgohaaGreatDoor
open Go.ChangeShapes Go.WideShapes Go.ChangeAt Go.RowKit Go.Deep
open Go.ChangeMaps (open_string shut_string)

theorem gTab : Tryz.prog.globalNamed "caliper/utf.greatest" = some 0 := by kernel_rfl
theorem gTabType : (Tryz.prog.globals[0]?).map (·.type) = some 157 := by kernel_rfl
theorem cells4 : Tryz.prog.cellsOf 157 = 4 := by kernel_rfl
/-- The list, and what it gives. -/
def listed : List (String × DataW Unit) := Rows.pikeClassRow.laid
set_option maxRecDepth 100000 in
theorem env_of_laid {W : World} (h : laidMetH Tryz.prog listed W) : Tab W ∧ 0 < W.heap.size := by
  have h2 : laidMet Tryz.prog [("caliper/utf.greatest", Rows.laid_caliper_utf_greatest)] W := h.filter (fun x => x.1 == "caliper/utf.greatest")
  have ht : Lib.TabIs Tryz.prog W "caliper/utf.greatest" .i64 [127, 2047, 65535, 1114111] := Lib.tabIs_of_head (rest := []) gTab gTabType Tryz.underlying157 Tryz.underlying3 cellsInt cells4 h2
  have hT : Tab W := ⟨ht.cell gTab 0 (by decide), ht.cell gTab 1 (by decide), ht.cell gTab 2 (by decide), ht.cell gTab 3 (by decide)⟩
  exact ⟨hT, World.block_lt_of_cell? W _ hT.t0⟩
/-- .. and for a text. -/
theorem upto_text {H : Type} {ds : List (DataW H)} (hc : Rows.uptoSmall H ds = true) {j : Nat} {bytes : List UInt8} (hd : ds[j]? = some (.lit (.string bytes))) : bytes.length ≤ 1048576 := by
  have hb : Rows.uptoBulkAll ds ≤ 1048576 := of_decide_eq_true hc
  have hp := bulk_part (List.mem_of_getElem? hd)
  simp only [Rows.uptoBulk] at hp
  omega
set_option maxRecDepth 100000 in
/-- Ranges that came in. -/
theorem open_rngs {H : Type} {enc : TypeId × Value → H} {W : World} {base : Nat} {v : Value} {d : DataW H} {p : List MemPlace} (hv : Value.okWide Tryz.prog W .any base 22 v)
    (h : DataW.Trod enc Tryz.prog W 0 (fun _ => true) true 22 v d p) :
    ∃ l : List (Int × Int), RI W (fun _ => False) l v ∧ l.length ≤ Rows.uptoBulk d := by
  obtain ⟨a0, len0, cap0, rfl⟩ := okWide_slice Tryz.underlying22 hv
  obtain ⟨fuel, hf⟩ := h
  rcases DataW.trod_slice Tryz.underlying22 hf with ⟨h5, _⟩ | ⟨a, len, cap, elems, rest, m2, hm2, h5, hse, _, hl, hcm, hlen, hel, _, _⟩
  · simp [Value.cells] at h5
    obtain ⟨rfl, rfl, rfl⟩ := h5
    exact ⟨[], RI.nil _ _, Nat.zero_le _⟩
  · simp [Value.cells] at h5
    obtain ⟨rfl, rfl, rfl⟩ := h5
    have each : ∀ i, i < len0 → ∃ q : Int × Int, W.cells? 0 (a.add (i * 2)) 2 = some [.int .i64 q.1, .int .i64 q.2] ∧ I64 q.1 ∧ I64 q.2 := fun i hi => by
      have := hel i hi
      rw [cellsRange, List.getElem?_eq_getElem (by omega)] at this
      obtain ⟨cs', g1, g2⟩ := Option.bind_eq_some_iff.1 this
      obtain ⟨y0, y1, n, _, hlc, u0, u1⟩ := trod_struct2 Tryz.underlying40 g2
      rw [cellsRange] at hlc
      match cs', hlc with
      | [c0, c1], _ =>
      simp only [cellsInt, List.drop, List.take] at u0 u1
      obtain ⟨x, e1, _, hx⟩ := DataW.trod_int Tryz.underlying3 u0
      obtain ⟨y, e2, _, hy⟩ := DataW.trod_int Tryz.underlying3 u1
      simp only [List.cons.injEq, and_true] at e1 e2
      subst e1 e2
      exact ⟨⟨x, y⟩, g1, xk_i64 hx, xk_i64 hy⟩
    haveI : Inhabited (Int × Int) := ⟨⟨0, 0⟩⟩
    obtain ⟨Q, hQ⟩ := choose_lt each
    have hra : ∀ i, i < len0 → ra ((List.range len0).map Q) i = Q i := fun i hi => by
      rw [ra_get (by simpa using hi)]; simp
    refine ⟨(List.range len0).map Q, ⟨some a, cap0, by simp, by simpa using hl, hcm, fun r hr => ?_, ?_⟩, ?_⟩
    · obtain ⟨i, hi, rfl⟩ := List.mem_map.1 hr
      exact (hQ i (List.mem_range.1 hi)).2
    · by_cases h0 : len0 = 0
      · subst h0; exact Or.inl rfl
      · right
        have hcell : ∀ i, i < len0 → w2 W a i (Q i) := fun i hi => by
          obtain ⟨_, _, hc⟩ := World.cells?_some (hQ i hi).1
          exact ⟨(hc 0 (by omega)).trans rfl, (hc 1 (by omega)).trans rfl⟩
        have hsp : a.spot = none := by simpa [Addr.add] using World.cell?_spot (hcell 0 (by omega)).1
        obtain ⟨b, off, spot⟩ := a
        simp only at hsp
        subst hsp
        refine ⟨b, off, rfl, fun h => h, fun i hi => ?_⟩
        have hi' : i < len0 := by simpa using hi
        have := hcell i hi'
        rw [w2, xk_add, xk_add, xk_add] at this
        rw [hra i hi']
        exact this
    · have e1 : Rows.uptoBulk d = Rows.uptoBulkAll (elems.map (·.1)) + Rows.uptoBulkAll (rest.map (·.1)) + 1 := by
        have := (Prod.mk.inj hse).1
        rw [this]; rfl
      have e2 := bulk_length (elems.map (·.1))
      rw [List.length_map] at e2 ⊢
      rw [List.length_range]
      omega
theorem upto_rngs {H : Type} {ds : List (DataW H)} (hc : Rows.uptoSmall H ds = true) {j : Nat} {l : List (Int × Int)} {d : DataW H} (hd : ds[j]? = some d) (h : l.length ≤ Rows.uptoBulk d) : l.length ≤ 1048576 := by
  have hb : Rows.uptoBulkAll ds ≤ 1048576 := of_decide_eq_true hc
  have hp := bulk_part (List.mem_of_getElem? hd)
  omega
end Go.Proofs.YtoinlmfodmgohaaGreatDoor
