/-
  What the rows' list gives: the table of greatest code points; ranges that come in as arguments, and how many they can be. Conditions: none of its own.
-/
import Derived.Test.YthbbkcdlcpbepaaGreatDoorJoined6
import Derived.Test.YthbbkcdlcpbepaaGreatDoorCards
import Derived.Test.YthbbkcdlcpbepaaGreatDoorTie
import Derived.ProofKit
import Derived.OpenShut
import Derived.ShutString
import Derived.ChangeOld
import Derived.Below
import Derived.Deep.DeepHandedRow
import Derived.Deep.Strs
import Derived.Lib.LaidTab
import Derived.LaidLaws
import Derived.LaidHandle
import Derived.LaidSub
import Derived.SizedLaws
namespace Go.Proofs.YthbbkcdlcpbepaaGreatDoor
open Go.ChangeShapes Go.WideShapes Go.ChangeAt Go.RowKit Go.Deep
open Go.ChangeMaps (open_string shut_string)

theorem own : ownKnob Tryz.prog.godebug = none := by kernel_rfl
theorem laidOut : laidOutB Tryz.prog = true := by kernel_rfl
theorem gTab : Tryz.prog.globalNamed "caliper/utf.greatest" = some 0 := by kernel_rfl
theorem gTabType : (Tryz.prog.globals[0]?).map (·.type) = some 112 := by kernel_rfl
theorem cells4 : Tryz.prog.cellsOf 112 = 4 := by kernel_rfl
theorem cellsInt : Tryz.prog.cellsOf 3 = 1 := by kernel_rfl
theorem cellsRange : Tryz.prog.cellsOf 51 = 2 := by kernel_rfl
/-- The list, and what it gives. -/
def listed : List (String × DataW Unit) := Rows.rxReadsRow.laid
set_option maxRecDepth 100000 in
theorem env_of_laid {W : World} (h : laidMetH Tryz.prog listed W) : Tab W ∧ 0 < W.heap.size := by
  have h2 : laidMet Tryz.prog [("caliper/utf.greatest", Rows.laid_caliper_utf_greatest)] W := h.filter (fun x => x.1 == "caliper/utf.greatest")
  have ht : Lib.TabIs Tryz.prog W "caliper/utf.greatest" .i64 [127, 2047, 65535, 1114111] := Lib.tabIs_of_head (rest := []) gTab gTabType Tryz.underlying112 Tryz.underlying3 cellsInt cells4 h2
  have hT : Tab W := ⟨ht.cell gTab 0 (by decide), ht.cell gTab 1 (by decide), ht.cell gTab 2 (by decide), ht.cell gTab 3 (by decide)⟩
  exact ⟨hT, World.block_lt_of_cell? W _ hT.t0⟩
theorem bulk_pos {H : Type} (d : DataW H) : 1 ≤ Rows.uptoBulk d := by
  cases d with
  | lit l => cases l <;> simp [Rows.uptoBulk]
  | _ => simp [Rows.uptoBulk]
theorem bulk_part {H : Type} {d : DataW H} : ∀ {l : List (DataW H)}, d ∈ l → Rows.uptoBulk d ≤ Rows.uptoBulkAll l
  | x :: r, h => by
    simp only [Rows.uptoBulkAll]
    rcases List.mem_cons.1 h with e | e
    · subst e; omega
    · have := bulk_part e; omega
theorem bulk_length {H : Type} : ∀ (l : List (DataW H)), l.length ≤ Rows.uptoBulkAll l
  | [] => by simp
  | x :: r => by
    have := bulk_length r
    have := bulk_pos x
    simp only [Rows.uptoBulkAll, List.length_cons]
    omega
/-- .. and for a text. -/
theorem upto_text {H : Type} {ds : List (DataW H)} (hc : Rows.uptoSmall H ds = true) {j : Nat} {bytes : List UInt8} (hd : ds[j]? = some (.lit (.string bytes))) : bytes.length ≤ 1048576 := by
  have hb : Rows.uptoBulkAll ds ≤ 1048576 := of_decide_eq_true hc
  have hp := bulk_part (List.mem_of_getElem? hd)
  simp only [Rows.uptoBulk] at hp
  omega
theorem xk_add (b o n : Nat) : (Addr.mk b o none).add n = ⟨b, o + n, none⟩ := by
  unfold Addr.add
  split
  · rename_i h; subst h; rfl
  · rfl
theorem xk_i64 {n : Int} (h : (Lit.int .i64 n).wf = true) : I64 n := by
  simp only [Lit.wf, Bool.and_eq_true, decide_eq_true_eq] at h
  have e1 : IntKind.min .i64 = -9223372036854775808 := by decide
  have e2 : IntKind.max .i64 = 9223372036854775807 := by decide
  rw [e1, e2] at h
  unfold I64
  omega
/-- A range's two cells. -/
def w2 (W : World) (a : Addr) (i : Nat) (q : Int × Int) : Prop := W.cell? ((a.add (i * 2)).add 0) = some (.int .i64 q.1) ∧ W.cell? ((a.add (i * 2)).add 1) = some (.int .i64 q.2)
set_option maxRecDepth 100000 in
/-- Ranges that came in. -/
theorem open_rngs {H : Type} {enc : TypeId × Value → H} {W : World} {base : Nat} {v : Value} {d : DataW H} {p : List MemPlace} (hv : Value.okWide Tryz.prog W .any base 23 v)
    (h : DataW.Trod enc Tryz.prog W 0 (fun _ => true) true 23 v d p) :
    ∃ l : List (Int × Int), RI W (fun _ => False) l v ∧ l.length ≤ Rows.uptoBulk d := by
  obtain ⟨a0, len0, cap0, rfl⟩ := okWide_slice Tryz.underlying23 hv
  obtain ⟨fuel, hf⟩ := h
  rcases DataW.trod_slice Tryz.underlying23 hf with ⟨h5, _⟩ | ⟨a, len, cap, elems, rest, m2, hm2, h5, hse, _, hl, hcm, hlen, hel, _, _⟩
  · simp [Value.cells] at h5
    obtain ⟨rfl, rfl, rfl⟩ := h5
    exact ⟨[], RI.nil _ _, Nat.zero_le _⟩
  · simp [Value.cells] at h5
    obtain ⟨rfl, rfl, rfl⟩ := h5
    have each : ∀ i, i < len0 → ∃ q : Int × Int, W.cells? 0 (a.add (i * 2)) 2 = some [.int .i64 q.1, .int .i64 q.2] ∧ I64 q.1 ∧ I64 q.2 := fun i hi => by
      have := hel i hi
      rw [cellsRange, List.getElem?_eq_getElem (by omega)] at this
      obtain ⟨cs', g1, g2⟩ := Option.bind_eq_some_iff.1 this
      obtain ⟨y0, y1, n, _, hlc, u0, u1⟩ := trod_struct2 Tryz.underlying51 g2
      rw [cellsRange] at hlc
      match cs', hlc with
      | [c0, c1], _ =>
      simp only [cellsInt, List.drop, List.take] at u0 u1
      obtain ⟨x, e1, _, hx⟩ := DataW.trod_int Tryz.underlying3 u0
      obtain ⟨y, e2, _, hy⟩ := DataW.trod_int Tryz.underlying3 u1
      simp only [List.cons.injEq, and_true] at e1 e2
      subst e1 e2
      exact ⟨⟨x, y⟩, g1, xk_i64 hx, xk_i64 hy⟩
    haveI : Inhabited (Int × Int) := ⟨⟨0, 0⟩⟩
    obtain ⟨Q, hQ⟩ := choose_lt each
    have hra : ∀ i, i < len0 → ra ((List.range len0).map Q) i = Q i := fun i hi => by
      rw [ra_get (by simpa using hi)]; simp
    refine ⟨(List.range len0).map Q, ⟨some a, cap0, by simp, by simpa using hl, hcm, fun r hr => ?_, ?_⟩, ?_⟩
    · obtain ⟨i, hi, rfl⟩ := List.mem_map.1 hr
      exact (hQ i (List.mem_range.1 hi)).2
    · by_cases h0 : len0 = 0
      · subst h0; exact Or.inl rfl
      · right
        have hcell : ∀ i, i < len0 → w2 W a i (Q i) := fun i hi => by
          obtain ⟨_, _, hc⟩ := World.cells?_some (hQ i hi).1
          exact ⟨(hc 0 (by omega)).trans rfl, (hc 1 (by omega)).trans rfl⟩
        have hsp : a.spot = none := by simpa [Addr.add] using World.cell?_spot (hcell 0 (by omega)).1
        obtain ⟨b, off, spot⟩ := a
        simp only at hsp
        subst hsp
        refine ⟨b, off, rfl, fun h => h, fun i hi => ?_⟩
        have hi' : i < len0 := by simpa using hi
        have := hcell i hi'
        rw [w2, xk_add, xk_add, xk_add] at this
        rw [hra i hi']
        exact this
    · have e1 : Rows.uptoBulk d = Rows.uptoBulkAll (elems.map (·.1)) + Rows.uptoBulkAll (rest.map (·.1)) + 1 := by
        have := (Prod.mk.inj hse).1
        rw [this]; rfl
      have e2 := bulk_length (elems.map (·.1))
      rw [List.length_map] at e2 ⊢
      rw [List.length_range]
      omega
theorem upto_rngs {H : Type} {ds : List (DataW H)} (hc : Rows.uptoSmall H ds = true) {j : Nat} {l : List (Int × Int)} {d : DataW H} (hd : ds[j]? = some d) (h : l.length ≤ Rows.uptoBulk d) : l.length ≤ 1048576 := by
  have hb : Rows.uptoBulkAll ds ≤ 1048576 := of_decide_eq_true hc
  have hp := bulk_part (List.mem_of_getElem? hd)
  omega
end Go.Proofs.YthbbkcdlcpbepaaGreatDoor
