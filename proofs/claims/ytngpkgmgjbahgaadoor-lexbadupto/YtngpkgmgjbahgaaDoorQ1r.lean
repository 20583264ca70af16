/-
  How a walk becomes a row and a card: what the listed variables give, and bytes and texts that come in as arguments. Conditions: none of its own.
-/
import Derived.Test.YtngpkgmgjbahgaaDoorV18
import Derived.Test.YtngpkgmgjbahgaaDoorCards
import Derived.Test.YtngpkgmgjbahgaaDoorTie
import Derived.ProofKit
import Derived.OpenShut
import Derived.ShutString
import Derived.ChangeOld
import Derived.Below
import Derived.Deep.DeepHandedRow
import Derived.Deep.Strs
import Derived.Lib.LaidTab
import Derived.LaidLaws
import Derived.LaidHandle
import Derived.LaidSub
import Derived.SizedLaws
namespace Go.Proofs.YtngpkgmgjbahgaaDoor
open Go.ChangeShapes Go.WideShapes Go.ChangeAt Go.RowKit Go.Deep

theorem own : ownKnob Tryd.prog.godebug = none := by kernel_rfl
theorem laidOut : laidOutB Tryd.prog = true := by kernel_rfl
theorem gTab : Tryd.prog.globalNamed "caliper/utf.greatest" = some 1 := by kernel_rfl
theorem gTabType : (Tryd.prog.globals[1]?).map (·.type) = some 102 := by kernel_rfl
theorem cells4 : Tryd.prog.cellsOf 102 = 4 := by kernel_rfl
theorem cellsInt : Tryd.prog.cellsOf 3 = 1 := by kernel_rfl
theorem gEt : Tryd.prog.globalNamed "errors.errorType" = some 0 := by kernel_rfl
theorem rtypeRow : (Tryd.prog.cutTypes.find? (·.1 == "internal/reflectlite.rtype")).map (·.2) = some 72 := by kernel_rfl
theorem typesSize : Tryd.prog.types.size = 133 := by kernel_rfl
theorem oneError : ((List.range 133).filter fun t => Tryd.prog.rowNamed t [101, 114, 114, 111, 114]) = [33] := by kernel_rfl
theorem handleError : typeHandle Tryd.prog 33 = .pointer (some ⟨2, 33, none⟩) := by kernel_rfl

/-- The list, and what it gives. -/
def listed : List (String × DataW Unit) := Rows.lexBadRow.laid
set_option maxRecDepth 100000 in
theorem env_of_laid {W : World} (h : laidMetH Tryd.prog listed W) : Env W := by
  have h1 : laidMet Tryd.prog [("caliper/utf.greatest", Rows.laid_caliper_utf_greatest)] W := h.filter (fun x => x.1 == "caliper/utf.greatest")
  have h3 : laidMet Tryd.prog [] W ∧ handlesMet Tryd.prog [("errors.errorType", Rows.laid_errors_errorType)] W := h.filter (fun x => x.1 == "errors.errorType")
  have ht : Lib.TabIs Tryd.prog W "caliper/utf.greatest" .i64 [127, 2047, 65535, 1114111] := Lib.tabIs_of_head (rest := []) gTab gTabType Tryd.underlying102 Tryd.underlying3 cellsInt cells4 h1
  obtain ⟨name, u, ty, e1, e2, e3, e4, e5⟩ := h3.2 _ (List.mem_singleton.2 rfl)
  have en : name = [101, 114, 114, 111, 114] := (Option.some.inj e1).symm
  subst en
  obtain rfl := Option.some.inj (rtypeRow.symm.trans e2)
  have hm : ty ∈ (List.range 133).filter fun t => Tryd.prog.rowNamed t [101, 114, 114, 111, 114] := List.mem_filter.2 ⟨List.mem_range.2 (by rw [← typesSize]; exact e3), e4⟩
  rw [oneError] at hm
  obtain rfl := List.mem_singleton.1 hm
  rw [handleError] at e5
  have ce : W.cell? ⟨0, 0, none⟩ = some (.iface 72 (.agg #[.pointer (some ⟨2, 33, none⟩)])) := by simpa using World.var?_cell gEt e5 0
  exact ⟨⟨ht.cell gTab 0 (by decide), ht.cell gTab 1 (by decide), ht.cell gTab 2 (by decide), ht.cell gTab 3 (by decide)⟩, World.block_lt_of_cell? W _ ce, ce⟩

theorem cellsU8 : Tryd.prog.cellsOf 5 = 1 := by kernel_rfl
theorem row_byt {W : World} {v : Value} {n : Nat} {f : Nat → Int} (h : Row W v n f) (lo : ∀ i, 0 ≤ f i) (up : ∀ i, f i < 256) : ∃ l : List UInt8, l.length = n ∧ Byt W v l := by
  refine ⟨(List.range n).map fun i => UInt8.ofNat (f i).toNat, by simp, ?_⟩
  unfold Byt
  rw [List.length_map, List.length_range]
  refine h.congr (bx_lo _) (bx_hi _) (fun i hi => ?_)
  have a := lo i
  have b := up i
  simp [bx, hi]
  omega
set_option maxRecDepth 100000 in
/-- A slice of bytes that came in. -/
theorem open_bytes {H : Type} {enc : TypeId × Value → H} {W : World} {base : Nat} {v : Value} {d : DataW H} {p : List MemPlace} (hv : Value.okWide Tryd.prog W .any base 22 v)
    (h : DataW.Trod enc Tryd.prog W 0 (fun _ => true) true 22 v d p) :
    ∃ l : List UInt8, Byt W v l ∧ (l.length = 0 ∨ ∃ elems spare, d = .slice elems spare ∧ elems.length = l.length) := by
  obtain ⟨a0, len0, cap0, rfl⟩ := okWide_slice Tryd.underlying22 hv
  obtain ⟨fuel, hf⟩ := h
  rcases open_ints Tryd.underlying22 Tryd.underlying5 cellsU8 hf with ⟨hcs, _⟩ | ⟨x, l, c, zs, hcs, _, hl, hm, hz, hx, hcell, hwz⟩
  · simp [Value.cells] at hcs
    obtain ⟨rfl, rfl, rfl⟩ := hcs
    exact ⟨[], .inl ⟨rfl, none, 0, rfl, fun _ => rfl⟩, .inl rfl⟩
  · simp [Value.cells] at hcs
    obtain ⟨rfl, rfl, rfl⟩ := hcs
    simp only [if_true] at hz
    have hb : ∀ i, 0 ≤ zs.getD i 0 ∧ zs.getD i 0 < 256 := by
      intro i
      by_cases k : i < zs.length
      · have e : zs.getD i 0 = zs[i] := by rw [List.getD_eq_getElem?_getD, List.getElem?_eq_getElem k]; rfl
        have := bounds_u8 (hwz zs[i] (List.getElem_mem k))
        rw [e]; omega
      · have e : zs.getD i 0 = 0 := by rw [List.getD_eq_getElem?_getD, List.getElem?_eq_none (by omega)]; rfl
        rw [e]; omega
    by_cases h0 : len0 = 0
    · subst h0
      exact ⟨[], .inl ⟨rfl, some x, cap0, rfl, fun e => by cases e⟩, .inl rfl⟩
    · obtain ⟨b, off, spot⟩ := x
      have hc := hcell 0 (by omega)
      have hspot : spot = none := by simpa [Addr.add] using World.cell?_spot hc
      subst hspot
      obtain ⟨r, hr, hB⟩ := row_byt (W := W) (v := .slice (some ⟨b, off, none⟩) len0 cap0) (n := len0) (f := fun i => zs.getD i 0) (.inr ⟨b, off, cap0, rfl, hl, hm, ⟨fun i hi => by
        have := hcell i (by omega)
        rw [add_at] at this
        exact this, fun i => (hb i).1, fun i => (hb i).2⟩⟩) (fun i => (hb i).1) (fun i => (hb i).2)
      refine ⟨r, hB, .inr ?_⟩
      rw [hr]
      obtain ⟨rfl, _⟩ := Prod.mk.inj hx
      exact ⟨_, _, rfl, by simp [lits]; omega⟩

theorem bytesU8 : Tryd.prog.bytesOf 5 = 1 := by kernel_rfl
/-- The first form's own reach, for a slice of bytes. -/
theorem reach_bytes {H : Type} {ts : List TypeId} {ds : List (DataW H)} (hsz : (DataW.weightsEach Tryd.prog ts ds).all (· ≤ reachBytes) = true) {j n : Nat} {d : DataW H} (ht : ts[j]? = some 22) (hd : ds[j]? = some d)
    (h : n = 0 ∨ ∃ elems spare, d = .slice elems spare ∧ elems.length = n) : n ≤ 140737488351232 := by
  rcases h with h | ⟨elems, spare, rfl, h⟩
  · omega
  · have := sized_slice hsz ht hd Tryd.underlying22
    rw [bytesU8] at this
    simp only [reachBytes] at this
    omega

theorem bulk_pos {H : Type} (d : DataW H) : 1 ≤ Rows.uptoBulk d := by
  cases d with
  | lit l => cases l <;> simp [Rows.uptoBulk]
  | _ => simp [Rows.uptoBulk]
theorem bulk_part {H : Type} {d : DataW H} : ∀ {l : List (DataW H)}, d ∈ l → Rows.uptoBulk d ≤ Rows.uptoBulkAll l
  | x :: r, h => by
    simp only [Rows.uptoBulkAll]
    rcases List.mem_cons.1 h with e | e
    · subst e; omega
    · have := bulk_part e; omega
theorem bulk_length {H : Type} : ∀ (l : List (DataW H)), l.length ≤ Rows.uptoBulkAll l
  | [] => by simp
  | x :: r => by
    have := bulk_length r
    have := bulk_pos x
    simp only [Rows.uptoBulkAll, List.length_cons]
    omega
/-- The second form's bound, for a slice of bytes. -/
theorem upto_bytes {H : Type} {ds : List (DataW H)} (hc : Rows.uptoSmall H ds = true) {j n : Nat} {d : DataW H} (hd : ds[j]? = some d) (h : n = 0 ∨ ∃ elems spare, d = .slice elems spare ∧ elems.length = n) : n ≤ 1048576 := by
  have hb : Rows.uptoBulkAll ds ≤ 1048576 := of_decide_eq_true hc
  have hp := bulk_part (List.mem_of_getElem? hd)
  rcases h with h | ⟨elems, spare, rfl, h⟩
  · omega
  · have := bulk_length elems
    simp only [Rows.uptoBulk] at hp
    omega
/-- .. and for a text. -/
theorem upto_text {H : Type} {ds : List (DataW H)} (hc : Rows.uptoSmall H ds = true) {j : Nat} {bytes : List UInt8} (hd : ds[j]? = some (.lit (.string bytes))) : bytes.length ≤ 1048576 := by
  have hb : Rows.uptoBulkAll ds ≤ 1048576 := of_decide_eq_true hc
  have hp := bulk_part (List.mem_of_getElem? hd)
  simp only [Rows.uptoBulk] at hp
  omega
end Go.Proofs.YtngpkgmgjbahgaaDoor
