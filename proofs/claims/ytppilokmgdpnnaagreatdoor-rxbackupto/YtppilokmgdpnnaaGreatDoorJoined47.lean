/-
  What the rows' list gives: the tables; trees that come in as arguments, and how much they can be. Conditions: none of its own.
-/
import Derived.Test.YtppilokmgdpnnaaGreatDoorJoined42
import Derived.Test.YtppilokmgdpnnaaGreatDoorJoined46
import Derived.Test.YtppilokmgdpnnaaGreatDoorCards
import Derived.Test.YtppilokmgdpnnaaGreatDoorTie
import Derived.Lib.LaidTab
import Derived.LaidHandle
import Derived.LaidSub
import Derived.Shelf.Vars
namespace Go.Proofs.YtppilokmgdpnnaaGreatDoor
open Go.ChangeShapes Go.WideShapes Go.ChangeAt Go.RowKit Go.Deep
open Go.ChangeMaps (open_string shut_string)

theorem wtL_bulk {H : Type} : ∀ (L : List RX) (D : List (DataW H)), L.length ≤ D.length → (∀ i (h1 : i < L.length) (h2 : i < D.length), wtX L[i] ≤ Rows.uptoBulk D[i]) → wtL L ≤ Rows.uptoBulkAll D
  | [], D, _, _ => by rw [wtL]; omega
  | x :: L, [], h, _ => by simp at h
  | x :: L, d :: D, h, hh => by
    have h1 := hh 0 (by simp) (by simp)
    have h2 := wtL_bulk L D (by simpa using h) (fun i h1 h2 => by
      have := hh (i + 1) (by simpa using h1) (by simpa using h2)
      simpa using this)
    simp only [List.getElem_cons_zero] at h1
    simp only [wtL, Rows.uptoBulkAll]
    omega
set_option maxRecDepth 100000 in
/-- A tree that comes in. -/
theorem open_rx2w {H : Type} {enc : TypeId × Value → H} {w : World} {base : Nat} {spare : Nat → Bool} {held : Bool} : ∀ (fuel : Nat) (cs : List Value) (x : DataW H × List MemPlace),
    DataW.trod enc Tryz.prog w base spare held fuel 26 cs = some x → ∃ v f, cs = [f 0, f 1, f 2, f 3, f 4, f 5] ∧ XI w (fun _ => False) v f ∧ BdX (Rows.uptoBulk x.1) v ∧ wtX v ≤ Rows.uptoBulk x.1 := by
  intro fuel
  induction fuel using Nat.strongRecOn with
  | _ fuel ih =>
  intro cs x h
  obtain ⟨y0, y1, y2, y3, y4, y5, m, hm, hxe, hlen, t0, t1, t2, t3, t4, t5⟩ := trod_struct6 Tryz.underlying26 h
  rw [cellsRx] at hlen
  match cs, hlen with
  | [c0, c1, c2, c3, c4, c5], _ =>
  simp only [cellsKindX, cellsInt, cellsBoolJ, cellsRanges, cellsRxs, List.drop, List.take] at t0 t1 t2 t3 t4 t5
  obtain ⟨k, h0, _, hk⟩ := DataW.trod_int Tryz.underlying22 t0
  obtain ⟨r, v1, h1, hR, hrb⟩ := open_rngs2 t1
  obtain ⟨lo, h2, _, hlo⟩ := DataW.trod_int Tryz.underlying3 t2
  obtain ⟨hi, h3, _, hhi⟩ := DataW.trod_int Tryz.underlying3 t3
  obtain ⟨z, h4, _⟩ := DataW.trod_bool Tryz.underlying4 t4
  simp only [List.cons.injEq, and_true] at h0 h1 h2 h3 h4
  subst h0 h1 h2 h3 h4
  have hbx : Rows.uptoBulk x.1 = Rows.uptoBulk y0.1 + (Rows.uptoBulk y1.1 + (Rows.uptoBulk y2.1 + (Rows.uptoBulk y3.1 + (Rows.uptoBulk y4.1 + (Rows.uptoBulk y5.1 + 0))))) + 1 := by rw [hxe]; rfl
  have hb1 : r.length ≤ Rows.uptoBulk x.1 := by omega
  have hw : I64 k ∧ I64 lo ∧ I64 hi := ⟨xk_i64 hk, xk_i64 hlo, xk_i64 hhi⟩
  rcases DataW.trod_slice Tryz.underlying24 t5 with ⟨h5, _⟩ | ⟨a, len, cap, elems, rest, m2, hm2, h5, hse, _, hl, hcm, hlen, hel, _, _⟩
  · simp only [List.cons.injEq, and_true] at h5
    subst h5
    exact ⟨.mk k r lo hi z [], fun i => [Value.int .i64 k, c1, .int .i64 lo, .int .i64 hi, .bool z, .slice none 0 0].getD i .nilIface, rfl,
      XI.mk none 0 (fun _ _ => .nilIface) rfl hR rfl rfl rfl rfl ⟨Nat.le_refl _, by unfold maxLen; omega⟩ hw (Or.inl rfl) (fun i hi => absurd hi (by simp)), BdX.mk hb1 (Nat.zero_le _) (fun c hc => absurd hc (by simp)), by rw [wtX, wtL]; omega⟩
  · simp only [List.cons.injEq, and_true] at h5
    subst h5
    have each : ∀ i, i < len → ∃ q : RX × (Nat → Value), w.cells? base (a.add (i * 6)) 6 = some [q.2 0, q.2 1, q.2 2, q.2 3, q.2 4, q.2 5] ∧ XI w (fun _ => False) q.1 q.2 ∧ BdX (Rows.uptoBulk x.1) q.1 ∧ (∀ h : i < elems.length, wtX q.1 ≤ Rows.uptoBulk (elems[i]).1) := fun i hi => by
      have := hel i hi
      rw [cellsRx, List.getElem?_eq_getElem (by omega)] at this
      obtain ⟨cs', g1, g2⟩ := Option.bind_eq_some_iff.1 this
      obtain ⟨v, f, rfl, hv, hvb, hvw⟩ := ih m2 (by omega) cs' _ g2
      refine ⟨⟨v, f⟩, g1, hv, hvb.mono ?_, fun _ => hvw⟩
      have e1 : Rows.uptoBulk y5.1 = Rows.uptoBulkAll (elems.map (·.1)) + Rows.uptoBulkAll (rest.map (·.1)) + 1 := by rw [hse]; rfl
      have e2 := bulk_part (l := elems.map (·.1)) (List.mem_map.2 ⟨_, List.getElem_mem (show i < elems.length by omega), rfl⟩)
      omega
    haveI : Inhabited (RX × (Nat → Value)) := ⟨⟨.mk 0 [] 0 0 false [], fun _ => .nilIface⟩⟩
    obtain ⟨Q, hQ⟩ := choose_lt each
    refine ⟨.mk k r lo hi z ((List.range len).map fun i => (Q i).1), fun i => [Value.int .i64 k, c1, .int .i64 lo, .int .i64 hi, .bool z, .slice (some a) len cap].getD i .nilIface, rfl,
      XI.mk (some a) cap (fun i => (Q i).2) rfl hR rfl rfl rfl (by simp) ⟨by simpa using hl, hcm⟩ hw ?_ (fun i hi => ?_), BdX.mk hb1 ?_ (fun c hc => ?_), ?_⟩
    · by_cases h0 : len = 0
      · subst h0; exact Or.inl rfl
      · right
        have hcell : ∀ i, i < len → ∀ j, j < 6 → w.cell? ((a.add (i * 6)).add j) = some ((Q i).2 j) := fun i hi j hj => by
          obtain ⟨_, _, hc⟩ := World.cells?_some (hQ i hi).1
          rw [hc j hj]
          match j, hj with
          | 0, _ => rfl
          | 1, _ => rfl
          | 2, _ => rfl
          | 3, _ => rfl
          | 4, _ => rfl
          | 5, _ => rfl
        have hsp : a.spot = none := by simpa [Addr.add] using World.cell?_spot (hcell 0 (by omega) 0 (by omega))
        obtain ⟨b, off, spot⟩ := a
        simp only at hsp
        subst hsp
        refine ⟨b, off, rfl, fun h => h, fun i hi j hj => ?_⟩
        have hi' : i < len := by simpa using hi
        have := hcell i hi' j hj
        rw [xk_add, xk_add] at this
        exact this
    · have hi' : i < len := by simpa using hi
      simpa using (hQ i hi').2.1
    · have e1 : Rows.uptoBulk y5.1 = Rows.uptoBulkAll (elems.map (·.1)) + Rows.uptoBulkAll (rest.map (·.1)) + 1 := by rw [hse]; rfl
      have e2 := bulk_length (elems.map (·.1))
      rw [List.length_map] at e2 ⊢
      rw [List.length_range]
      omega
    · obtain ⟨i, hi, rfl⟩ := List.mem_map.1 hc
      exact (hQ i (List.mem_range.1 hi)).2.2.1
    · have e1 : Rows.uptoBulk y5.1 = Rows.uptoBulkAll (elems.map (·.1)) + Rows.uptoBulkAll (rest.map (·.1)) + 1 := by rw [hse]; rfl
      have e2 : wtL ((List.range len).map fun i => (Q i).1) ≤ Rows.uptoBulkAll (elems.map (·.1)) := wtL_bulk _ _ (by simp; omega) (fun i h1 h2 => by
        have hi : i < len := by simpa using h1
        have := (hQ i hi).2.2.2 (by simpa using h2)
        simpa using this)
      rw [wtX]
      omega
set_option maxRecDepth 100000 in
/-- A tree that comes in as an argument. -/
theorem open_rxw {H : Type} {enc : TypeId × Value → H} {W : World} {base : Nat} {v : Value} {d : DataW H} {p : List MemPlace} (hv : Value.okWide Tryz.prog W .any base 26 v)
    (h : DataW.Trod enc Tryz.prog W 0 (fun _ => true) true 26 v d p) :
    ∃ (T : RX) (f : Nat → Value), v = xa f ∧ XI W (fun _ => False) T f ∧ BdX (Rows.uptoBulk d) T ∧ wtX T ≤ Rows.uptoBulk d := by
  obtain ⟨cs, rfl, hsz⟩ := okWide_struct Tryz.underlying26 hv
  rw [cellsRx] at hsz
  obtain ⟨c0, c1, c2, c3, c4, c5, rfl⟩ : ∃ c0 c1 c2 c3 c4 c5, cs = #[c0, c1, c2, c3, c4, c5] := by
    obtain ⟨l⟩ := cs
    match l, hsz with
    | [a, b, c, d, e, f], _ => exact ⟨a, b, c, d, e, f, rfl⟩
  obtain ⟨fuel, hf⟩ := h
  have hf : DataW.trod enc Tryz.prog W 0 (fun _ => true) true fuel 26 [c0, c1, c2, c3, c4, c5] = some (d, p) := hf
  obtain ⟨T, f, hcs, hvi, hbd⟩ := open_rx2w fuel _ _ hf
  simp only [List.cons.injEq, and_true] at hcs
  obtain ⟨rfl, rfl, rfl, rfl, rfl, rfl⟩ := hcs
  exact ⟨T, f, rfl, hvi, hbd⟩
theorem upto_rxw {H : Type} {ds : List (DataW H)} (hc : Rows.uptoSmall H ds = true) {j : Nat} {T : RX} {d : DataW H} (hd : ds[j]? = some d) (h : BdX (Rows.uptoBulk d) T ∧ wtX T ≤ Rows.uptoBulk d) : BdX 1048576 T ∧ wtX T ≤ 1048576 := by
  have hb : Rows.uptoBulkAll ds ≤ 1048576 := of_decide_eq_true hc
  have hp := bulk_part (List.mem_of_getElem? hd)
  exact ⟨h.1.mono (by omega), by have := h.2; omega⟩
theorem gTab : Tryz.prog.globalNamed "caliper/utf.greatest" = some 0 := by kernel_rfl
theorem gTabType : (Tryz.prog.globals[0]?).map (·.type) = some 112 := by kernel_rfl
theorem cells4 : Tryz.prog.cellsOf 112 = 4 := by kernel_rfl
theorem gPow : Tryz.prog.globalNamed "internal/strconv.uint64pow10" = some 2 := by kernel_rfl
theorem gPowType : (Tryz.prog.globals[2]?).map (·.type) = some 151 := by kernel_rfl
theorem cellsU64 : Tryz.prog.cellsOf 108 = 1 := by kernel_rfl
theorem cellsPow : Tryz.prog.cellsOf 151 = 20 := by kernel_rfl
theorem gBru : Tryz.prog.globalNamed "math/bits.deBruijn64tab" = some 4 := by kernel_rfl
theorem gBruType : (Tryz.prog.globals[4]?).map (·.type) = some 156 := by kernel_rfl
theorem cellsU8 : Tryz.prog.cellsOf 5 = 1 := by kernel_rfl
theorem cellsBru : Tryz.prog.cellsOf 156 = 64 := by kernel_rfl
/-- The list, and what it gives. -/
def listed : List (String × DataW Unit) := Rows.rxChecksRow.laid
def bruTab : List Int := [0, 1, 56, 2, 57, 49, 28, 3, 61, 58, 42, 50, 38, 29, 17, 4, 62, 47, 59, 36, 45, 43, 51, 22, 53, 39, 33, 30, 24, 18, 12, 5, 63, 55, 48, 27, 60, 41, 37, 16, 46, 35, 44, 21, 52, 32, 23, 11, 54, 26, 40, 15, 34, 20, 31, 10, 25, 14, 19, 9, 13, 8, 7, 6]
theorem maxLen_cell {W : World} (h : W.ShapedOpen Tryz.prog) : ∃ m, W.cell? ⟨1, 0, none⟩ = some (.int .i64 m) :=
  cell_of_shapedOpen_int (t := 3) (zero := #[.int .i64 0]) h (of_decide_eq_true (by kernel_rfl)) (by kernel_rfl) rfl (by kernel_rfl) (by kernel_rfl) Tryz.underlying3
set_option maxRecDepth 100000 in
theorem env_of_laid {W : World} (h : laidMetH Tryz.prog listed W) (hs : W.ShapedOpen Tryz.prog) : TX W ∧ 0 < W.heap.size := by
  have h2 : laidMet Tryz.prog [("caliper/utf.greatest", Rows.laid_caliper_utf_greatest)] W := h.filter (fun x => x.1 == "caliper/utf.greatest")
  have h1 : laidMet Tryz.prog [("internal/strconv.uint64pow10", Rows.laid_internal_strconv_uint64pow10)] W := h.filter (fun x => x.1 == "internal/strconv.uint64pow10")
  have h3 : laidMet Tryz.prog [("math/bits.deBruijn64tab", Rows.laid_math_bits_deBruijn64tab)] W := h.filter (fun x => x.1 == "math/bits.deBruijn64tab")
  have ht : Lib.TabIs Tryz.prog W "caliper/utf.greatest" .i64 [127, 2047, 65535, 1114111] := Lib.tabIs_of_head (rest := []) gTab gTabType Tryz.underlying112 Tryz.underlying3 cellsInt cells4 h2
  have hp : Lib.TabIs Tryz.prog W "internal/strconv.uint64pow10" .u64 Lib.pow10Tab := Lib.tabIs_of_head (rest := []) gPow gPowType Tryz.underlying151 Tryz.underlying108 cellsU64 cellsPow h1
  have hd : Lib.TabIs Tryz.prog W "math/bits.deBruijn64tab" .u8 bruTab := Lib.tabIs_of_head (rest := []) gBru gBruType Tryz.underlying156 Tryz.underlying5 cellsU8 cellsBru h3
  have hT : Tab W := ⟨ht.cell gTab 0 (by decide), ht.cell gTab 1 (by decide), ht.cell gTab 2 (by decide), ht.cell gTab 3 (by decide)⟩
  exact ⟨⟨hT, hp, hd.cell gBru 15 (by decide), maxLen_cell hs⟩, World.block_lt_of_cell? W _ hT.t0⟩
/-- .. and for a text. -/
theorem upto_text {H : Type} {ds : List (DataW H)} (hc : Rows.uptoSmall H ds = true) {j : Nat} {bytes : List UInt8} (hd : ds[j]? = some (.lit (.string bytes))) : bytes.length ≤ 1048576 := by
  have hb : Rows.uptoBulkAll ds ≤ 1048576 := of_decide_eq_true hc
  have hp := bulk_part (List.mem_of_getElem? hd)
  simp only [Rows.uptoBulk] at hp
  omega
end Go.Proofs.YtppilokmgdpnnaaGreatDoor
