/-
  What the rows' lists give: the sentinel, the library's type of errors, its table of powers of ten; and numbers that come in as arguments. Conditions: none of its own.
-/
import Derived.Test.YtfhapeinfhjihaaGreatDoorS11
import Derived.Test.YtfhapeinfhjihaaGreatDoorCards
import Derived.Test.YtfhapeinfhjihaaGreatDoorTie
import Derived.ProofKit
import Derived.OpenShut
import Derived.ShutString
import Derived.ChangeOld
import Derived.Below
import Derived.Deep.DeepHandedRow
import Derived.Deep.Strs
import Derived.Lib.LaidTab
import Derived.LaidLaws
import Derived.LaidHandle
import Derived.LaidSub
import Derived.SizedLaws
namespace Go.Proofs.YtfhapeinfhjihaaGreatDoor
open Go.ChangeShapes Go.WideShapes Go.ChangeAt Go.RowKit Go.Deep
open Go.ChangeMaps (open_string shut_string)

theorem own : ownKnob Tryz.prog.godebug = none := by kernel_rfl
theorem laidOut : laidOutB Tryz.prog = true := by kernel_rfl
theorem gLarge : Tryz.prog.globalNamed "caliper/dec.errLarge" = some 0 := by kernel_rfl
theorem gLargeType : (Tryz.prog.globals[0]?).map (·.type) = some 53 := by kernel_rfl
theorem gEt : Tryz.prog.globalNamed "errors.errorType" = some 1 := by kernel_rfl
theorem gPow : Tryz.prog.globalNamed "internal/strconv.uint64pow10" = some 2 := by kernel_rfl
theorem gPowType : (Tryz.prog.globals[2]?).map (·.type) = some 183 := by kernel_rfl
theorem cellsU64 : Tryz.prog.cellsOf 121 = 1 := by kernel_rfl
theorem cellsPow : Tryz.prog.cellsOf 183 = 20 := by kernel_rfl
theorem cellsES : Tryz.prog.cellsOf 223 = 1 := by kernel_rfl
theorem cellsStr : Tryz.prog.cellsOf 9 = 1 := by kernel_rfl
theorem cellsBool : Tryz.prog.cellsOf 4 = 1 := by kernel_rfl
theorem cellsInt : Tryz.prog.cellsOf 3 = 1 := by kernel_rfl
theorem cellsDec : Tryz.prog.cellsOf 23 = 3 := by kernel_rfl
theorem starES : "*" ++ "errors.errorString" = "*errors.errorString" := by decide
theorem rowES (u : TypeId) (h : Tryz.prog.typeName? 3 u = some "*errors.errorString") : u = 205 :=
  typeName_ptr_named (nm := "errors.errorString") (by rw [starES]; kernel_rfl) (by kernel_rfl) (by decide) u (by rw [starES]; exact h)
theorem rtypeRow : (Tryz.prog.cutTypes.find? (·.1 == "internal/reflectlite.rtype")).map (·.2) = some 136 := by kernel_rfl
theorem typesSize : Tryz.prog.types.size = 235 := by kernel_rfl
theorem oneError : ((List.range 235).filter fun t => Tryz.prog.rowNamed t [101, 114, 114, 111, 114]) = [53] := by kernel_rfl
theorem handleError : typeHandle Tryz.prog 53 = .pointer (some ⟨10, 53, none⟩) := by kernel_rfl

/-- The list, and what it gives. -/
def listed : List (String × DataW Unit) := Rows.decReadsRow.laid
set_option maxRecDepth 100000 in
theorem env_of_laid {W : World} (h : laidMetH Tryz.prog listed W) : ∃ a, Env W a := by
  have h1 : laidMet Tryz.prog [("internal/strconv.uint64pow10", Rows.laid_internal_strconv_uint64pow10)] W := h.filter (fun x => x.1 == "internal/strconv.uint64pow10")
  have h2 : laidMet Tryz.prog [("caliper/dec.errLarge", Rows.laid_caliper_dec_errLarge)] W := h.filter (fun x => x.1 == "caliper/dec.errLarge")
  have h3 : laidMet Tryz.prog [] W ∧ handlesMet Tryz.prog [("errors.errorType", Rows.laid_errors_errorType)] W := h.filter (fun x => x.1 == "errors.errorType")
  have ht : Lib.TabIs Tryz.prog W "internal/strconv.uint64pow10" .u64 Lib.pow10Tab := Lib.tabIs_of_head (rest := []) gPow gPowType Tryz.underlying183 Tryz.underlying121 cellsU64 cellsPow h1
  obtain ⟨name, u, ty, e1, e2, e3, e4, e5⟩ := h3.2 _ (List.mem_singleton.2 rfl)
  have en : name = [101, 114, 114, 111, 114] := (Option.some.inj e1).symm
  subst en
  obtain rfl := Option.some.inj (rtypeRow.symm.trans e2)
  have hm : ty ∈ (List.range 235).filter fun t => Tryz.prog.rowNamed t [101, 114, 114, 111, 114] := List.mem_filter.2 ⟨List.mem_range.2 (by rw [← typesSize]; exact e3), e4⟩
  rw [oneError] at hm
  obtain rfl := List.mem_singleton.1 hm
  rw [handleError] at e5
  have ce : W.cell? ⟨1, 0, none⟩ = some (.iface 136 (.agg #[.pointer (some ⟨10, 53, none⟩)])) := by simpa using World.var?_cell gEt e5 0
  obtain ⟨ps, ⟨g', t', cs, fuel, p, q, hg', ht', hvar, hd, hq, hps⟩, hnd, hok⟩ := h2
  obtain rfl := Option.some.inj (gLarge.symm.trans hg')
  have hty : t' = 53 := by
    have := gLargeType
    rw [ht'] at this
    simpa using this
  subst hty
  have hv := fun (u : TypeId) (v : Value) (hc : cs.toList = [.iface u v]) => (show W.cell? ⟨0, 0, none⟩ = some (.iface u v) by
    have e : cs = #[.iface u v] := by
      obtain ⟨l⟩ := cs
      simp only at hc
      rw [hc]
    rw [e] at hvar
    simpa using World.var?_cell gLarge hvar 0)
  obtain ⟨a, s, hcs, _⟩ := errorString_of_trod Tryz.underlying53 rowES Tryz.underlying205 Tryz.underlying223 rfl rfl Tryz.underlying9 cellsES cellsStr hd (fun u v hc => by
    refine (hok 0 0 ?_).2 u v (hv u v hc)
    have e : cs = #[.iface u v] := by
      obtain ⟨l⟩ := cs
      simp only at hc
      rw [hc]
    rw [hps, e]
    simp [MemPlace.row])
  have cl := hv _ _ hcs
  exact ⟨a, ⟨⟨World.block_lt_of_cell? W _ cl, cl⟩, World.block_lt_of_cell? W _ ce, ce, ht⟩⟩

set_option maxRecDepth 100000 in
/-- A number that comes in. -/
theorem open_dec {H : Type} {enc : TypeId × Value → H} {W : World} {base : Nat} {v : Value} {d : DataW H} {p : List MemPlace} (hv : Value.okWide Tryz.prog W .any base 23 v)
    (h : DataW.Trod enc Tryz.prog W 0 (fun _ => true) true 23 v d p) :
    ∃ n s e, v = .agg #[.bool n, .string s, .int .i64 e] ∧ d = .agg [.lit (.bool n), .lit (.string s.data.toList), .lit (.int .i64 e)] ∧ p = [] ∧ s.size ≤ maxLen ∧ (Lit.int .i64 e).wf = true := by
  obtain ⟨cs, rfl, hsz⟩ := okWide_struct Tryz.underlying23 hv
  rw [cellsDec] at hsz
  obtain ⟨c0, c1, c2, rfl⟩ : ∃ c0 c1 c2, cs = #[c0, c1, c2] := by
    obtain ⟨l⟩ := cs
    match l, hsz with
    | [a, b, c], _ => exact ⟨a, b, c, rfl⟩
  obtain ⟨fuel, hf⟩ := h
  have hf : DataW.trod enc Tryz.prog W 0 (fun _ => true) true fuel 23 [c0, c1, c2] = some (d, p) := hf
  obtain ⟨y0, y1, y2, m, hx, _, t0, t1, t2⟩ := trod_struct3 Tryz.underlying23 hf
  simp only [cellsBool, cellsStr, cellsInt, List.drop, List.take] at t0 t1 t2
  obtain ⟨n, h0, rfl⟩ := DataW.trod_bool Tryz.underlying4 t0
  obtain ⟨s, h1, rfl, hs⟩ := DataW.trod_string Tryz.underlying9 t1
  obtain ⟨e, h2, rfl, he⟩ := DataW.trod_int Tryz.underlying3 t2
  simp only [List.cons.injEq, and_true] at h0 h1 h2
  subst h0; subst h1; subst h2
  simp only [Prod.mk.injEq] at hx
  exact ⟨n, s, e, rfl, hx.1, by rw [hx.2]; rfl, hs, he⟩
theorem shut_dec {H : Type} {enc : TypeId × Value → H} {W : World} {base : Nat} {sp : Nat → Bool} {held : Bool} {n : Bool} {s : ByteArray} {e : Int} (hs : s.size ≤ maxLen) (he : (Lit.int .i64 e).wf = true) :
    DataW.Trod enc Tryz.prog W base sp held 23 (.agg #[.bool n, .string s, .int .i64 e]) (.agg [.lit (.bool n), .lit (.string s.data.toList), .lit (.int .i64 e)]) [] := by
  obtain ⟨f0, h0⟩ := shut_bool (enc := enc) (P := Tryz.prog) (w := W) (base := base) (spare := sp) (held := held) Tryz.underlying4 n
  obtain ⟨f1, h1⟩ := shut_string (enc := enc) (P := Tryz.prog) (w := W) (base := base) (sp := sp) (held := held) Tryz.underlying9 hs
  obtain ⟨f2, h2⟩ := shut_int (enc := enc) (P := Tryz.prog) (w := W) (base := base) (spare := sp) (held := held) Tryz.underlying3 he
  have h0 : DataW.trod enc Tryz.prog W base sp held f0 4 [.bool n] = some (.lit (.bool n), []) := h0
  have h1 : DataW.trod enc Tryz.prog W base sp held f1 9 [.string s] = some (.lit (.string s.data.toList), []) := h1
  have h2 : DataW.trod enc Tryz.prog W base sp held f2 3 [.int .i64 e] = some (.lit (.int .i64 e), []) := h2
  have := trod_struct3_mk (enc := enc) (P := Tryz.prog) (w := W) (base := base) (spare := sp) (held := held) (n := f0 + f1 + f2) (cs := [.bool n, .string s, .int .i64 e]) (y0 := (.lit (.bool n), [])) (y1 := (.lit (.string s.data.toList), [])) (y2 := (.lit (.int .i64 e), [])) Tryz.underlying23 (by rw [cellsDec]; rfl)
    (by simpa [cellsBool] using DataW.trod_le (by omega) h0) (by simpa [cellsStr] using DataW.trod_le (by omega) h1) (by simpa [cellsInt] using DataW.trod_le (by omega) h2)
  exact ⟨f0 + f1 + f2 + 1, this⟩
end Go.Proofs.YtfhapeinfhjihaaGreatDoor
