/-
  How json's walks become rows and cards: what the listed variables give; bytes and limits that come in as arguments. Conditions: none of its own.
  Texts that come in, one by one, as an argument. Conditions: none of its own.
-/
import Derived.Test.YtjakgdaodlgeaaaGreatDoorJoined43
import Derived.Test.YtjakgdaodlgeaaaGreatDoorJoined26
import Derived.Test.YtjakgdaodlgeaaaGreatDoorCards
import Derived.Test.YtjakgdaodlgeaaaGreatDoorTie
import Derived.ProofKit
import Derived.OpenShut
import Derived.ShutString
import Derived.ChangeOld
import Derived.Below
import Derived.Deep.DeepHandedRow
import Derived.Deep.Strs
import Derived.Lib.LaidTab
import Derived.LaidLaws
import Derived.LaidHandle
import Derived.LaidSub
import Derived.SizedLaws
import Derived.Test.YtjakgdaodlgeaaaGreatDoorJoined46
import Derived.Deep.Matrix
namespace Go.Proofs.YtjakgdaodlgeaaaGreatDoor
open Go.ChangeShapes Go.WideShapes Go.ChangeAt Go.RowKit Go.Deep
open Go.ChangeMaps (open_string shut_string)

theorem own : ownKnob Tryz.prog.godebug = none := by kernel_rfl
theorem laidOut : laidOutB Tryz.prog = true := by kernel_rfl
theorem gLarge : Tryz.prog.globalNamed "caliper/dec.errLarge" = some 3 := by kernel_rfl
theorem gLargeType : (Tryz.prog.globals[3]?).map (·.type) = some 69 := by kernel_rfl
theorem gEt : Tryz.prog.globalNamed "errors.errorType" = some 0 := by kernel_rfl
theorem cellsES : Tryz.prog.cellsOf 254 = 1 := by kernel_rfl
theorem cellsStr : Tryz.prog.cellsOf 9 = 1 := by kernel_rfl
theorem cellsInt : Tryz.prog.cellsOf 3 = 1 := by kernel_rfl
theorem starES : "*" ++ "errors.errorString" = "*errors.errorString" := by decide
theorem rowES (u : TypeId) (h : Tryz.prog.typeName? 3 u = some "*errors.errorString") : u = 235 :=
 typeName_ptr_named (nm := "errors.errorString") (by rw [starES]; kernel_rfl) (by kernel_rfl) (by decide) u (by rw [starES]; exact h)
theorem rtypeRow : (Tryz.prog.cutTypes.find? (·.1 == "internal/reflectlite.rtype")).map (·.2) = some 152 := by kernel_rfl
theorem typesSize : Tryz.prog.types.size = 266 := by kernel_rfl
theorem oneError : ((List.range 266).filter fun t => Tryz.prog.rowNamed t [101, 114, 114, 111, 114]) = [69] := by kernel_rfl
theorem handleError : typeHandle Tryz.prog 69 = .pointer (some ⟨6, 69, none⟩) := by kernel_rfl
theorem gTab : Tryz.prog.globalNamed "caliper/utf.greatest" = some 2 := by kernel_rfl
theorem gTabType : (Tryz.prog.globals[2]?).map (·.type) = some 191 := by kernel_rfl
theorem cells4 : Tryz.prog.cellsOf 191 = 4 := by kernel_rfl
def listed : List (String × DataW Unit) := Rows.jsonReadsRow.laid
set_option maxRecDepth 100000 in
theorem env_of_laid {W : World} (h : laidMetH Tryz.prog listed W) : ∃ a, Lx.Env W ∧ Env W a := by
 have h1 : laidMet Tryz.prog [("caliper/utf.greatest", Rows.laid_caliper_utf_greatest)] W := h.filter (fun x => x.1 == "caliper/utf.greatest")
 have ht : Lib.TabIs Tryz.prog W "caliper/utf.greatest" .i64 [127, 2047, 65535, 1114111] := Lib.tabIs_of_head (rest := []) gTab gTabType Tryz.underlying191 Tryz.underlying3 cellsInt cells4 h1
 have h2 : laidMet Tryz.prog [("caliper/dec.errLarge", Rows.laid_caliper_dec_errLarge)] W := h.filter (fun x => x.1 == "caliper/dec.errLarge")
 have h3 : laidMet Tryz.prog [] W ∧ handlesMet Tryz.prog [("errors.errorType", Rows.laid_errors_errorType)] W := h.filter (fun x => x.1 == "errors.errorType")
 obtain ⟨name, u, ty, e1, e2, e3, e4, e5⟩ := h3.2 _ (List.mem_singleton.2 rfl)
 have en : name = [101, 114, 114, 111, 114] := (Option.some.inj e1).symm
 subst en
 obtain rfl := Option.some.inj (rtypeRow.symm.trans e2)
 have hm : ty ∈ (List.range 266).filter fun t => Tryz.prog.rowNamed t [101, 114, 114, 111, 114] := List.mem_filter.2 ⟨List.mem_range.2 (by rw [← typesSize]; exact e3), e4⟩
 rw [oneError] at hm
 obtain rfl := List.mem_singleton.1 hm
 rw [handleError] at e5
 have ce : W.cell? ⟨0, 0, none⟩ = some (.iface 152 (.agg #[.pointer (some ⟨6, 69, none⟩)])) := by simpa using World.var?_cell gEt e5 0
 obtain ⟨ps, ⟨g', t', cs, fuel, p, q, hg', ht', hvar, hd, hq, hps⟩, hnd, hok⟩ := h2
 obtain rfl := Option.some.inj (gLarge.symm.trans hg')
 have hty : t' = 69 := by
  have := gLargeType
  rw [ht'] at this
  simpa using this
 subst hty
 have hv := fun (u : TypeId) (v : Value) (hc : cs.toList = [.iface u v]) => (show W.cell? ⟨3, 0, none⟩ = some (.iface u v) by
  have e : cs = #[.iface u v] := by
   obtain ⟨l⟩ := cs
   simp only at hc
   rw [hc]
  rw [e] at hvar
  simpa using World.var?_cell gLarge hvar 0)
 obtain ⟨a, s, hcs, _⟩ := errorString_of_trod Tryz.underlying69 rowES Tryz.underlying235 Tryz.underlying254 rfl rfl Tryz.underlying9 cellsES cellsStr hd (fun u v hc => by
  refine (hok 3 0 ?_).2 u v (hv u v hc)
  have e : cs = #[.iface u v] := by
   obtain ⟨l⟩ := cs
   simp only at hc
   rw [hc]
  rw [hps, e]
  simp [MemPlace.row])
 have cl := hv _ _ hcs
 exact ⟨a, ⟨⟨ht.cell gTab 0 (by decide), ht.cell gTab 1 (by decide), ht.cell gTab 2 (by decide), ht.cell gTab 3 (by decide)⟩, World.block_lt_of_cell? W _ ce, ce⟩, ⟨⟨World.block_lt_of_cell? W _ cl, cl⟩, World.block_lt_of_cell? W _ ce, ce⟩⟩
theorem cellsU8 : Tryz.prog.cellsOf 5 = 1 := by kernel_rfl
theorem row_byt {W : World} {v : Value} {n : Nat} {f : Nat → Int} (h : Lx.Row W v n f) (lo : ∀ i, 0 ≤ f i) (up : ∀ i, f i < 256) : ∃ l : List UInt8, l.length = n ∧ Lx.Byt W v l := by
 refine ⟨(List.range n).map fun i => UInt8.ofNat (f i).toNat, by simp, ?_⟩
 unfold Lx.Byt
 rw [List.length_map, List.length_range]
 refine h.congr (Lx.bx_lo _) (Lx.bx_hi _) (fun i hi => ?_)
 have a := lo i
 have b := up i
 simp [Lx.bx, hi]
 omega
end Go.Proofs.YtjakgdaodlgeaaaGreatDoor

namespace Go.Proofs.YtjakgdaodlgeaaaGreatDoor
open Go.ChangeShapes Go.WideShapes Go.ChangeAt Go.RowKit Go.Deep
open Go.ChangeMaps (open_string shut_string)

theorem cellsByt : Tryz.prog.cellsOf 22 = 1 := by kernel_rfl
theorem row_of {W : World} {ao : Option Addr} {L C : Nat} {Z : List Int} (h1 : L ≤ C) (h2 : C ≤ maxLen) (h3 : Z.length = C) (h4 : ∀ n ∈ Z, (Lit.int .u8 n).wf = true) (h5 : ao = none → C = 0) (h6 : ∀ a', ao = some a' → ∀ c, c < C → W.cell? (a'.add c) = some (.int .u8 (Z.getD c 0))) :
  ∃ l : List UInt8, l.length = L ∧ Lx.Byt W (.slice ao L C) l := by
 have hb : ∀ i, 0 ≤ Z.getD i 0 ∧ Z.getD i 0 < 256 := by
  intro i
  by_cases k : i < Z.length
  ·have e : Z.getD i 0 = Z[i] := by rw [List.getD_eq_getElem?_getD, List.getElem?_eq_getElem k]; rfl
   have := bounds_u8 (h4 Z[i] (List.getElem_mem k))
   rw [e]; omega
  ·have e : Z.getD i 0 = 0 := by rw [List.getD_eq_getElem?_getD, List.getElem?_eq_none (by omega)]; rfl
   rw [e]; omega
 by_cases h0 : L = 0
 ·subst h0
  exact ⟨[], rfl, .inl ⟨rfl, ao, C, rfl, h5⟩⟩
 ·cases ao with
  | none => have := h5 rfl; omega
  | some x =>
   obtain ⟨b, off, spot⟩ := x
   have hc := h6 _ rfl 0 (by omega)
   have hspot : spot = none := by simpa [Addr.add] using World.cell?_spot hc
   subst hspot
   obtain ⟨r, hr, hB⟩ := row_byt (W := W) (v := .slice (some ⟨b, off, none⟩) L C) (n := L) (f := fun i => Z.getD i 0) (.inr ⟨b, off, C, rfl, h1, h2, ⟨fun i hi => by
    have := h6 _ rfl i (by omega)
    rw [Lx.add_at] at this
    exact this, fun i => (hb i).1, fun i => (hb i).2⟩⟩) (fun i => (hb i).1) (fun i => (hb i).2)
   exact ⟨r, hr, hB⟩
set_option maxRecDepth 100000 in
theorem open_rows {H : Type} {enc : TypeId × Value → H} {W : World} {base : Nat} {v : Value} {d : DataW H} {p : List MemPlace} (hv : Value.okWide Tryz.prog W .any base 55 v)
  (h : DataW.Trod enc Tryz.prog W 0 (fun _ => true) true 55 v d p) : ∃ ls : List (List UInt8), Rws W v ls := by
 obtain ⟨a0, len0, cap0, rfl⟩ := okWide_slice Tryz.underlying55 hv
 obtain ⟨fuel, hf⟩ := h
 rcases open_int_rows Tryz.underlying55 Tryz.underlying22 Tryz.underlying5 cellsByt cellsU8 hf with ⟨hcs, _⟩ | ⟨x, len, cap, A, L, C, Z, hcs, _, hl, hm, _, hr⟩
 ·simp [Value.cells] at hcs
  obtain ⟨rfl, rfl, rfl⟩ := hcs
  exact ⟨[], none, 0, rfl, Nat.le_refl _, Nat.zero_le _, .inl rfl⟩
 ·simp [Value.cells] at hcs
  obtain ⟨rfl, rfl, rfl⟩ := hcs
  have each : ∀ r, r < len0 → ∃ l : List UInt8, l.length = L r ∧ Lx.Byt W (.slice (A r) (L r) (C r)) l := fun r hr1 => by
   obtain ⟨_, k1, k2, k3, k4, k5, k6⟩ := hr r (by omega)
   exact row_of k1 k2 k3 k4 k5 (fun a' e c hc => (k6 a' e).2 c hc)
  obtain ⟨y, hy⟩ := choose_lt each
  refine ⟨(List.range len0).map y, some x, cap0, by rw [List.length_map, List.length_range], by rw [List.length_map, List.length_range]; exact hl, hm, ?_⟩
  by_cases h0 : len0 = 0
  ·subst h0; exact .inl rfl
  ·obtain ⟨b, off, spot⟩ := x
   have hc0 := (hr 0 (by omega)).1
   have hspot : spot = none := by simpa [Addr.add] using World.cell?_spot hc0
   subst hspot
   refine .inr ⟨b, off, rfl, World.block_lt_of_cell? W _ hc0, fun i hi => ?_⟩
   have hi' : i < len0 := by simpa using hi
   have hc := (hr i (by omega)).1
   rw [Lx.add_at] at hc
   obtain ⟨e1, e2⟩ := hy i hi'
   refine ⟨A i, C i, ?_, ?_⟩
   ·simp only [List.getElem_map, List.getElem_range, e1]; exact hc
   ·simp only [List.getElem_map, List.getElem_range, e1]; exact e2
end Go.Proofs.YtjakgdaodlgeaaaGreatDoor
