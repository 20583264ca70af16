/-
  How json's walks become rows and cards: what the listed variables give; bytes and limits that come in as arguments. Conditions: none of its own.
-/
import Derived.Test.YtlahlnocjfphjaaGreatDoorJoined44
import Derived.Test.YtlahlnocjfphjaaGreatDoorJoined33
import Derived.Test.YtlahlnocjfphjaaGreatDoorCards
import Derived.Test.YtlahlnocjfphjaaGreatDoorTie
import Derived.ProofKit
import Derived.OpenShut
import Derived.ShutString
import Derived.ChangeOld
import Derived.Below
import Derived.Deep.DeepHandedRow
import Derived.Deep.Strs
import Derived.Lib.LaidTab
import Derived.LaidLaws
import Derived.LaidHandle
import Derived.LaidSub
import Derived.SizedLaws
namespace Go.Proofs.YtlahlnocjfphjaaGreatDoor
open Go.ChangeShapes Go.WideShapes Go.ChangeAt Go.RowKit Go.Deep
open Go.ChangeMaps (open_string shut_string)

theorem own : ownKnob Tryz.prog.godebug = none := by kernel_rfl
theorem laidOut : laidOutB Tryz.prog = true := by kernel_rfl
theorem gLarge : Tryz.prog.globalNamed "caliper/dec.errLarge" = some 3 := by kernel_rfl
theorem gLargeType : (Tryz.prog.globals[3]?).map (·.type) = some 69 := by kernel_rfl
theorem gEt : Tryz.prog.globalNamed "errors.errorType" = some 0 := by kernel_rfl
theorem cellsES : Tryz.prog.cellsOf 254 = 1 := by kernel_rfl
theorem cellsStr : Tryz.prog.cellsOf 9 = 1 := by kernel_rfl
theorem cellsBool : Tryz.prog.cellsOf 4 = 1 := by kernel_rfl
theorem cellsInt : Tryz.prog.cellsOf 3 = 1 := by kernel_rfl
theorem cellsDec : Tryz.prog.cellsOf 27 = 3 := by kernel_rfl
theorem starES : "*" ++ "errors.errorString" = "*errors.errorString" := by decide
theorem rowES (u : TypeId) (h : Tryz.prog.typeName? 3 u = some "*errors.errorString") : u = 235 :=
  typeName_ptr_named (nm := "errors.errorString") (by rw [starES]; kernel_rfl) (by kernel_rfl) (by decide) u (by rw [starES]; exact h)
theorem rtypeRow : (Tryz.prog.cutTypes.find? (·.1 == "internal/reflectlite.rtype")).map (·.2) = some 152 := by kernel_rfl
theorem typesSize : Tryz.prog.types.size = 266 := by kernel_rfl
theorem oneError : ((List.range 266).filter fun t => Tryz.prog.rowNamed t [101, 114, 114, 111, 114]) = [69] := by kernel_rfl
theorem handleError : typeHandle Tryz.prog 69 = .pointer (some ⟨6, 69, none⟩) := by kernel_rfl
theorem gTab : Tryz.prog.globalNamed "caliper/utf.greatest" = some 2 := by kernel_rfl
theorem gTabType : (Tryz.prog.globals[2]?).map (·.type) = some 191 := by kernel_rfl
theorem cells4 : Tryz.prog.cellsOf 191 = 4 := by kernel_rfl

/-- The list, and what it gives. -/
def listed : List (String × DataW Unit) := Rows.jsonReadsRow.laid
set_option maxRecDepth 100000 in
theorem env_of_laid {W : World} (h : laidMetH Tryz.prog listed W) : ∃ a, Lx.Env W ∧ Env W a := by
  have h1 : laidMet Tryz.prog [("caliper/utf.greatest", Rows.laid_caliper_utf_greatest)] W := h.filter (fun x => x.1 == "caliper/utf.greatest")
  have ht : Lib.TabIs Tryz.prog W "caliper/utf.greatest" .i64 [127, 2047, 65535, 1114111] := Lib.tabIs_of_head (rest := []) gTab gTabType Tryz.underlying191 Tryz.underlying3 cellsInt cells4 h1
  have h2 : laidMet Tryz.prog [("caliper/dec.errLarge", Rows.laid_caliper_dec_errLarge)] W := h.filter (fun x => x.1 == "caliper/dec.errLarge")
  have h3 : laidMet Tryz.prog [] W ∧ handlesMet Tryz.prog [("errors.errorType", Rows.laid_errors_errorType)] W := h.filter (fun x => x.1 == "errors.errorType")
  obtain ⟨name, u, ty, e1, e2, e3, e4, e5⟩ := h3.2 _ (List.mem_singleton.2 rfl)
  have en : name = [101, 114, 114, 111, 114] := (Option.some.inj e1).symm
  subst en
  obtain rfl := Option.some.inj (rtypeRow.symm.trans e2)
  have hm : ty ∈ (List.range 266).filter fun t => Tryz.prog.rowNamed t [101, 114, 114, 111, 114] := List.mem_filter.2 ⟨List.mem_range.2 (by rw [← typesSize]; exact e3), e4⟩
  rw [oneError] at hm
  obtain rfl := List.mem_singleton.1 hm
  rw [handleError] at e5
  have ce : W.cell? ⟨0, 0, none⟩ = some (.iface 152 (.agg #[.pointer (some ⟨6, 69, none⟩)])) := by simpa using World.var?_cell gEt e5 0
  obtain ⟨ps, ⟨g', t', cs, fuel, p, q, hg', ht', hvar, hd, hq, hps⟩, hnd, hok⟩ := h2
  obtain rfl := Option.some.inj (gLarge.symm.trans hg')
  have hty : t' = 69 := by
    have := gLargeType
    rw [ht'] at this
    simpa using this
  subst hty
  have hv := fun (u : TypeId) (v : Value) (hc : cs.toList = [.iface u v]) => (show W.cell? ⟨3, 0, none⟩ = some (.iface u v) by
    have e : cs = #[.iface u v] := by
      obtain ⟨l⟩ := cs
      simp only at hc
      rw [hc]
    rw [e] at hvar
    simpa using World.var?_cell gLarge hvar 0)
  obtain ⟨a, s, hcs, _⟩ := errorString_of_trod Tryz.underlying69 rowES Tryz.underlying235 Tryz.underlying254 rfl rfl Tryz.underlying9 cellsES cellsStr hd (fun u v hc => by
    refine (hok 3 0 ?_).2 u v (hv u v hc)
    have e : cs = #[.iface u v] := by
      obtain ⟨l⟩ := cs
      simp only at hc
      rw [hc]
    rw [hps, e]
    simp [MemPlace.row])
  have cl := hv _ _ hcs
  exact ⟨a, ⟨⟨ht.cell gTab 0 (by decide), ht.cell gTab 1 (by decide), ht.cell gTab 2 (by decide), ht.cell gTab 3 (by decide)⟩, World.block_lt_of_cell? W _ ce, ce⟩, ⟨⟨World.block_lt_of_cell? W _ cl, cl⟩, World.block_lt_of_cell? W _ ce, ce⟩⟩

theorem cellsU8 : Tryz.prog.cellsOf 5 = 1 := by kernel_rfl
theorem row_byt {W : World} {v : Value} {n : Nat} {f : Nat → Int} (h : Lx.Row W v n f) (lo : ∀ i, 0 ≤ f i) (up : ∀ i, f i < 256) : ∃ l : List UInt8, l.length = n ∧ Lx.Byt W v l := by
  refine ⟨(List.range n).map fun i => UInt8.ofNat (f i).toNat, by simp, ?_⟩
  unfold Lx.Byt
  rw [List.length_map, List.length_range]
  refine h.congr (Lx.bx_lo _) (Lx.bx_hi _) (fun i hi => ?_)
  have a := lo i
  have b := up i
  simp [Lx.bx, hi]
  omega
set_option maxRecDepth 100000 in
/-- A slice of bytes that came in. -/
theorem open_bytes {H : Type} {enc : TypeId × Value → H} {W : World} {base : Nat} {v : Value} {d : DataW H} {p : List MemPlace} (hv : Value.okWide Tryz.prog W .any base 22 v)
    (h : DataW.Trod enc Tryz.prog W 0 (fun _ => true) true 22 v d p) :
    ∃ l : List UInt8, Lx.Byt W v l ∧ (l.length = 0 ∨ ∃ elems spare, d = .slice elems spare ∧ elems.length = l.length) := by
  obtain ⟨a0, len0, cap0, rfl⟩ := okWide_slice Tryz.underlying22 hv
  obtain ⟨fuel, hf⟩ := h
  rcases open_ints Tryz.underlying22 Tryz.underlying5 cellsU8 hf with ⟨hcs, _⟩ | ⟨x, l, c, zs, hcs, _, hl, hm, hz, hx, hcell, hwz⟩
  · simp [Value.cells] at hcs
    obtain ⟨rfl, rfl, rfl⟩ := hcs
    exact ⟨[], .inl ⟨rfl, none, 0, rfl, fun _ => rfl⟩, .inl rfl⟩
  · simp [Value.cells] at hcs
    obtain ⟨rfl, rfl, rfl⟩ := hcs
    simp only [if_true] at hz
    have hb : ∀ i, 0 ≤ zs.getD i 0 ∧ zs.getD i 0 < 256 := by
      intro i
      by_cases k : i < zs.length
      · have e : zs.getD i 0 = zs[i] := by rw [List.getD_eq_getElem?_getD, List.getElem?_eq_getElem k]; rfl
        have := bounds_u8 (hwz zs[i] (List.getElem_mem k))
        rw [e]; omega
      · have e : zs.getD i 0 = 0 := by rw [List.getD_eq_getElem?_getD, List.getElem?_eq_none (by omega)]; rfl
        rw [e]; omega
    by_cases h0 : len0 = 0
    · subst h0
      exact ⟨[], .inl ⟨rfl, some x, cap0, rfl, fun e => by cases e⟩, .inl rfl⟩
    · obtain ⟨b, off, spot⟩ := x
      have hc := hcell 0 (by omega)
      have hspot : spot = none := by simpa [Addr.add] using World.cell?_spot hc
      subst hspot
      obtain ⟨r, hr, hB⟩ := row_byt (W := W) (v := .slice (some ⟨b, off, none⟩) len0 cap0) (n := len0) (f := fun i => zs.getD i 0) (.inr ⟨b, off, cap0, rfl, hl, hm, ⟨fun i hi => by
        have := hcell i (by omega)
        rw [Lx.add_at] at this
        exact this, fun i => (hb i).1, fun i => (hb i).2⟩⟩) (fun i => (hb i).1) (fun i => (hb i).2)
      refine ⟨r, hB, .inr ?_⟩
      rw [hr]
      obtain ⟨rfl, _⟩ := Prod.mk.inj hx
      exact ⟨_, _, rfl, by simp [lits]; omega⟩

theorem cellsLim : Tryz.prog.cellsOf 24 = 5 := by kernel_rfl
set_option maxRecDepth 100000 in
/-- Limits that come in. -/
theorem open_lim {H : Type} {enc : TypeId × Value → H} {W : World} {base : Nat} {v : Value} {d : DataW H} {p : List MemPlace} (hv : Value.okWide Tryz.prog W .any base 24 v)
    (h : DataW.Trod enc Tryz.prog W 0 (fun _ => true) true 24 v d p) :
    ∃ a1 a2 a3 a4 a5, v = limV a1 a2 a3 a4 a5 := by
  obtain ⟨cs, rfl, hsz⟩ := okWide_struct Tryz.underlying24 hv
  rw [cellsLim] at hsz
  obtain ⟨c0, c1, c2, c3, c4, rfl⟩ : ∃ c0 c1 c2 c3 c4, cs = #[c0, c1, c2, c3, c4] := by
    obtain ⟨l⟩ := cs
    match l, hsz with
    | [a, b, c, d, e], _ => exact ⟨a, b, c, d, e, rfl⟩
  obtain ⟨fuel, hf⟩ := h
  have hf : DataW.trod enc Tryz.prog W 0 (fun _ => true) true fuel 24 [c0, c1, c2, c3, c4] = some (d, p) := hf
  obtain ⟨y0, y1, y2, y3, y4, m, _, _, _, t0, t1, t2, t3, t4⟩ := trod_struct5 Tryz.underlying24 hf
  simp only [cellsInt, List.drop, List.take] at t0 t1 t2 t3 t4
  obtain ⟨x0, h0, _, _⟩ := DataW.trod_int Tryz.underlying3 t0
  obtain ⟨x1, h1, _, _⟩ := DataW.trod_int Tryz.underlying3 t1
  obtain ⟨x2, h2, _, _⟩ := DataW.trod_int Tryz.underlying3 t2
  obtain ⟨x3, h3, _, _⟩ := DataW.trod_int Tryz.underlying3 t3
  obtain ⟨x4, h4, _, _⟩ := DataW.trod_int Tryz.underlying3 t4
  simp only [List.cons.injEq, and_true] at h0 h1 h2 h3 h4
  subst h0 h1 h2 h3 h4
  exact ⟨x0, x1, x2, x3, x4, rfl⟩
end Go.Proofs.YtlahlnocjfphjaaGreatDoor
