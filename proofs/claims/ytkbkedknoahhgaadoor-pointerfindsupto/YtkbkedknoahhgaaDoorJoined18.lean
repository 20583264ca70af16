/-
  What the rows' lists give: the library's table of powers of ten, the table of greatest code points; texts that come in as arguments, and how many they can be. Conditions: none of its own.
-/
import Derived.Test.YtkbkedknoahhgaaDoorJoined17
import Derived.Test.YtkbkedknoahhgaaDoorCards
import Derived.Test.YtkbkedknoahhgaaDoorTie
import Derived.ProofKit
import Derived.OpenShut
import Derived.ShutString
import Derived.ChangeOld
import Derived.Below
import Derived.Deep.DeepHandedRow
import Derived.Deep.Strs
import Derived.Lib.LaidTab
import Derived.LaidLaws
import Derived.LaidHandle
import Derived.LaidSub
import Derived.SizedLaws
namespace Go.Proofs.YtkbkedknoahhgaaDoor
open Go.ChangeShapes Go.WideShapes Go.ChangeAt Go.RowKit Go.Deep
open Go.ChangeMaps (open_string shut_string)

theorem own : ownKnob Tryd.prog.godebug = none := by kernel_rfl
theorem laidOut : laidOutB Tryd.prog = true := by kernel_rfl
theorem gPow : Tryd.prog.globalNamed "internal/strconv.uint64pow10" = some 2 := by kernel_rfl
theorem gPowType : (Tryd.prog.globals[2]?).map (·.type) = some 110 := by kernel_rfl
theorem cellsU64 : Tryd.prog.cellsOf 97 = 1 := by kernel_rfl
theorem cellsPow : Tryd.prog.cellsOf 110 = 20 := by kernel_rfl
theorem gTab : Tryd.prog.globalNamed "caliper/utf.greatest" = some 1 := by kernel_rfl
theorem gTabType : (Tryd.prog.globals[1]?).map (·.type) = some 107 := by kernel_rfl
theorem cells4 : Tryd.prog.cellsOf 107 = 4 := by kernel_rfl
theorem cellsInt : Tryd.prog.cellsOf 3 = 1 := by kernel_rfl
theorem cellsStr : Tryd.prog.cellsOf 9 = 1 := by kernel_rfl
/-- The list, and what it gives. -/
def listed : List (String × DataW Unit) := Rows.pointerFindsRow.laid
set_option maxRecDepth 100000 in
theorem env_of_laid {W : World} (h : laidMetH Tryd.prog listed W) : Env W := by
  have h1 : laidMet Tryd.prog [("internal/strconv.uint64pow10", Rows.laid_internal_strconv_uint64pow10)] W := h.filter (fun x => x.1 == "internal/strconv.uint64pow10")
  have h2 : laidMet Tryd.prog [("caliper/utf.greatest", Rows.laid_caliper_utf_greatest)] W := h.filter (fun x => x.1 == "caliper/utf.greatest")
  have ht : Lib.TabIs Tryd.prog W "caliper/utf.greatest" .i64 [127, 2047, 65535, 1114111] := Lib.tabIs_of_head (rest := []) gTab gTabType Tryd.underlying107 Tryd.underlying3 cellsInt cells4 h2
  exact ⟨⟨ht.cell gTab 0 (by decide), ht.cell gTab 1 (by decide), ht.cell gTab 2 (by decide), ht.cell gTab 3 (by decide)⟩, Lib.tabIs_of_head (rest := []) gPow gPowType Tryd.underlying110 Tryd.underlying97 cellsU64 cellsPow h1⟩
theorem bulk_pos {H : Type} (d : DataW H) : 1 ≤ Rows.uptoBulk d := by
  cases d with
  | lit l => cases l <;> simp [Rows.uptoBulk]
  | _ => simp [Rows.uptoBulk]
theorem bulk_part {H : Type} {d : DataW H} : ∀ {l : List (DataW H)}, d ∈ l → Rows.uptoBulk d ≤ Rows.uptoBulkAll l
  | x :: r, h => by
    simp only [Rows.uptoBulkAll]
    rcases List.mem_cons.1 h with e | e
    · subst e; omega
    · have := bulk_part e; omega
/-- .. and for a text. -/
theorem upto_text {H : Type} {ds : List (DataW H)} (hc : Rows.uptoSmall H ds = true) {j : Nat} {bytes : List UInt8} (hd : ds[j]? = some (.lit (.string bytes))) : bytes.length ≤ 1048576 := by
  have hb : Rows.uptoBulkAll ds ≤ 1048576 := of_decide_eq_true hc
  have hp := bulk_part (List.mem_of_getElem? hd)
  simp only [Rows.uptoBulk] at hp
  omega
theorem bulk_strs {H : Type} : ∀ (xs : List (List UInt8)), Rows.uptoBulkAll (xs.map fun x => (.lit (.string x) : DataW H)) = sumL xs
  | [] => rfl
  | x :: r => by
    have := bulk_strs (H := H) r
    simp only [List.map_cons, Rows.uptoBulkAll, Rows.uptoBulk, this]
    simp [sumL]
set_option maxRecDepth 100000 in
/-- Texts that came in. -/
theorem open_texts {H : Type} {enc : TypeId × Value → H} {W : World} {base : Nat} {v : Value} {d : DataW H} {p : List MemPlace} (hv : Value.okWide Tryd.prog W .any base 26 v)
    (h : DataW.Trod enc Tryd.prog W 0 (fun _ => true) true 26 v d p) :
    ∃ xs : List (List UInt8), SRow W v xs ∧ (xs = [] ∨ ∃ spare, d = .slice (xs.map fun x => .lit (.string x)) spare) := by
  obtain ⟨a0, len0, cap0, rfl⟩ := okWide_slice Tryd.underlying26 hv
  obtain ⟨fuel, hf⟩ := h
  rcases open_strs Tryd.underlying26 Tryd.underlying9 cellsStr hf with ⟨hcs, _⟩ | ⟨a, len, cap, m, Sx, hcs, _, hl, hm, hmm, hx, hcell⟩
  · simp [Value.cells] at hcs
    obtain ⟨rfl, rfl, rfl⟩ := hcs
    exact ⟨[], .inl ⟨rfl, none, 0, rfl⟩, .inl rfl⟩
  · simp [Value.cells] at hcs
    obtain ⟨rfl, rfl, rfl⟩ := hcs
    have hlm : len0 ≤ m := by rw [hmm]; split <;> omega
    refine ⟨(List.range len0).map fun i => (Sx i).data.toList, ?_, .inr ⟨(List.range (m - len0)).map fun j => .lit (.string (Sx (len0 + j)).data.toList), ?_⟩⟩
    · by_cases h0 : len0 = 0
      · subst h0; exact .inl ⟨rfl, _, _, rfl⟩
      · right
        have hsp : a.spot = none := by simpa [Addr.add] using World.cell?_spot (hcell 0 (by omega)).1
        obtain ⟨b, off, spot⟩ := a
        simp only at hsp
        subst hsp
        refine ⟨b, off, cap0, by simp, fun i hi => ?_⟩
        have hi' : i < len0 := by simpa using hi
        have := (hcell i (by omega)).1
        rw [add_at] at this
        rw [this]
        simp only [List.getElem_map, List.getElem_range]
        rw [bs_self]
    · have := (Prod.mk.inj hx).1
      rw [this, List.map_map]
      rfl
theorem upto_texts {H : Type} {ds : List (DataW H)} (hc : Rows.uptoSmall H ds = true) {j : Nat} {xs : List (List UInt8)} {d : DataW H} (hd : ds[j]? = some d) (h : xs = [] ∨ ∃ spare, d = .slice (xs.map fun x => .lit (.string x)) spare) : sumL xs ≤ 1048576 := by
  have hb : Rows.uptoBulkAll ds ≤ 1048576 := of_decide_eq_true hc
  have hp := bulk_part (List.mem_of_getElem? hd)
  rcases h with rfl | ⟨spare, rfl⟩
  · exact Nat.zero_le _
  · simp only [Rows.uptoBulk, bulk_strs] at hp
    omega
end Go.Proofs.YtkbkedknoahhgaaDoor
