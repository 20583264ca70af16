/-
  A value that comes in: a tree that lies in memory, whose lists, keys and texts are no longer than the bulk of what was read. No condition.
  What the rows' lists give: the library's table of powers of ten, the table of greatest code points; values that come in as arguments, and how much they can be. Conditions: none of its own.
-/
import Derived.Test.YtjdboekanmfgpaaGreatDoorJoined13
import Derived.Test.YtjdboekanmfgpaaGreatDoorCards
import Derived.Test.YtjdboekanmfgpaaGreatDoorJoined36
import Derived.Test.YtjdboekanmfgpaaGreatDoorTie
import Derived.ProofKit
import Derived.OpenShut
import Derived.ShutString
import Derived.ChangeOld
import Derived.Below
import Derived.Deep.DeepHandedRow
import Derived.Deep.Strs
import Derived.Lib.LaidTab
import Derived.LaidLaws
import Derived.LaidHandle
import Derived.LaidSub
import Derived.SizedLaws
namespace Go.Proofs.YtjdboekanmfgpaaGreatDoor
open Go.ChangeShapes Go.WideShapes Go.Deep Go.RowKit

/-- Nothing in it is longer than N. -/
inductive Bd (N : Nat) : JV → Prop
 | mk {k : Int} {n : Bool} {g : ByteArray} {e : Int} {t : ByteArray} {l : List JV} {ks : List ByteArray} (h1 : l.length ≤ N) (h2 : ks.length ≤ N) (h3 : g.size ≤ N) (h4 : t.size ≤ N) (h5 : ∀ s ∈ ks, s.size ≤ N) (h6 : ∀ c ∈ l, Bd N c) : Bd N (.mk k n g e t l ks)
theorem Bd.mono {N M : Nat} {v : JV} (h : Bd N v) (hle : N ≤ M) : Bd M v := by
 induction v using JV.ind with
 | h k n g e t l ks ih =>
  cases h with
  | mk h1 h2 h3 h4 h5 h6 => exact .mk (by omega) (by omega) (by omega) (by omega) (fun s hs => Nat.le_trans (h5 s hs) hle) (fun c hc => ih c hc (h6 c hc))
theorem Bd.sm {N : Nat} {v : JV} (h : Bd N v) (hN : N ≤ 1073741824) : Sm v := by
 induction v using JV.ind with
 | h k n g e t l ks ih =>
  cases h with
  | mk h1 h2 h3 h4 h5 h6 => exact .mk (by omega) (by omega) (fun c hc => ih c hc (h6 c hc)) (by omega) (by omega) (fun s hs => Nat.le_trans (h5 s hs) hN)
theorem bulk_pos2 {H : Type} (d : DataW H) : 1 ≤ Rows.uptoBulk d := by
 cases d with
 | lit l => cases l <;> simp [Rows.uptoBulk]
 | _ => simp [Rows.uptoBulk]
theorem bulk_part2 {H : Type} {d : DataW H} : ∀ {l : List (DataW H)}, d ∈ l → Rows.uptoBulk d ≤ Rows.uptoBulkAll l
 | x :: r, h => by
  simp only [Rows.uptoBulkAll]
  rcases List.mem_cons.1 h with e | e
  ·subst e; omega
  ·have := bulk_part2 e; omega
theorem bulk_length2 {H : Type} : ∀ (l : List (DataW H)), l.length ≤ Rows.uptoBulkAll l
 | [] => by simp
 | x :: r => by
  have := bulk_length2 r
  have := bulk_pos2 x
  simp only [Rows.uptoBulkAll, List.length_cons]
  omega
/-- Keys that come in. -/
theorem open_keys2 {H : Type} {enc : TypeId × Value → H} {w : World} {base : Nat} {spare : Nat → Bool} {held : Bool} {fuel : Nat} {cs : List Value} {x : DataW H × List MemPlace}
  (h : DataW.trod enc Tryz.prog w base spare held fuel 26 cs = some x) : ∃ ks v, cs = [v] ∧ SI w (fun _ => False) ks v ∧ ks.length ≤ Rows.uptoBulk x.1 ∧ ∀ s ∈ ks, s.size ≤ Rows.uptoBulk x.1 := by
 rcases open_strs Tryz.underlying26 Tryz.underlying9 cellsStrJ h with ⟨rfl, _⟩ | ⟨a, len, cap, m, Sx, rfl, _, hl, hm, hmm, hxe, hx⟩
 ·exact ⟨[], _, rfl, ⟨none, 0, rfl, Nat.le_refl _, by unfold maxLen; omega, fun s hs => absurd hs (by simp), Or.inl rfl⟩, Nat.zero_le _, fun s hs => absurd hs (by simp)⟩
 ·have hlm : len ≤ m := by rw [hmm]; split <;> omega
  have hbk : Rows.uptoBulk x.1 = Rows.uptoBulkAll ((List.range len).map fun i => (.lit (.string (Sx i).data.toList) : DataW H)) + Rows.uptoBulkAll ((List.range (m - len)).map fun j => (.lit (.string (Sx (len + j)).data.toList) : DataW H)) + 1 := by rw [hxe]; rfl
  refine ⟨(List.range len).map Sx, _, rfl, ⟨some a, cap, by simp, by simpa using hl, hm, fun s hs => ?_, ?_⟩, ?_, fun s hs => ?_⟩
  ·obtain ⟨i, hi, rfl⟩ := List.mem_map.1 hs
   exact (hx i (by have := List.mem_range.1 hi; omega)).2
  ·by_cases h0 : len = 0
   ·subst h0; exact Or.inl rfl
   ·right
    have hsp : a.spot = none := by simpa [Addr.add] using World.cell?_spot (hx 0 (by omega)).1
    obtain ⟨b, off, spot⟩ := a
    simp only at hsp
    subst hsp
    refine ⟨b, off, rfl, fun h => h, fun i hi => ?_⟩
    have hi' : i < len := by simpa using hi
    have := (hx i (by omega)).1
    rw [add_at] at this
    simpa using this
  ·have := bulk_length2 ((List.range len).map fun i => (.lit (.string (Sx i).data.toList) : DataW H))
   rw [List.length_map, List.length_range] at this ⊢
   omega
  ·obtain ⟨i, hi, rfl⟩ := List.mem_map.1 hs
   have := bulk_part2 (l := (List.range len).map fun i => (.lit (.string (Sx i).data.toList) : DataW H)) (List.mem_map.2 ⟨i, hi, rfl⟩)
   have e : Rows.uptoBulk (.lit (.string (Sx i).data.toList) : DataW H) = (Sx i).data.toList.length + 1 := rfl
   rw [Array.length_toList] at e
   have e3 : (Sx i).data.size = (Sx i).size := rfl
   omega

set_option maxRecDepth 100000 in
/-- A value that comes in. -/
theorem open_value2 {H : Type} {enc : TypeId × Value → H} {w : World} {base : Nat} {spare : Nat → Bool} {held : Bool} : ∀ (fuel : Nat) (cs : List Value) (x : DataW H × List MemPlace),
  DataW.trod enc Tryz.prog w base spare held fuel 28 cs = some x → ∃ v f, cs = [f 0, f 1, f 2, f 3, f 4, f 5, f 6] ∧ VI w (fun _ => False) v f ∧ Bd (Rows.uptoBulk x.1) v := by
 intro fuel
 induction fuel using Nat.strongRecOn with
 | _ fuel ih =>
 intro cs x h
 obtain ⟨y0, y1, y2, y3, y4, m, hm, hxe, hlen, t0, t1, t2, t3, t4⟩ := trod_struct5 Tryz.underlying28 h
 rw [cellsValue] at hlen
 match cs, hlen with
 | [c0, c1, c2, c3, c4, c5, c6], _ =>
 simp only [cellsKindJ, cellsDecJ, cellsStrJ, cellsListJ, cellsKeysJ, List.drop, List.take] at t0 t1 t2 t3 t4
 obtain ⟨k, h0, _, hk⟩ := DataW.trod_int Tryz.underlying22 t0
 obtain ⟨z0, z1, z2, m1, hze, _, u0, u1, u2⟩ := trod_struct3 Tryz.underlying24 t1
 simp only [cellsBoolJ, cellsStrJ, cellsIntJ, List.drop, List.take] at u0 u1 u2
 obtain ⟨n, h1, _⟩ := DataW.trod_bool Tryz.underlying4 u0
 obtain ⟨g, h2, hge, hg⟩ := DataW.trod_string Tryz.underlying9 u1
 obtain ⟨e, h3, _, he⟩ := DataW.trod_int Tryz.underlying3 u2
 obtain ⟨t, h4, hte, ht⟩ := DataW.trod_string Tryz.underlying9 t2
 obtain ⟨ks, v6, h6, hK, hkb⟩ := open_keys2 t4
 simp only [List.cons.injEq, and_true] at h0 h1 h2 h3 h4 h6
 subst h0 h1 h2 h3 h4 h6
 have hbx : Rows.uptoBulk x.1 = Rows.uptoBulk y0.1 + (Rows.uptoBulk y1.1 + (Rows.uptoBulk y2.1 + (Rows.uptoBulk y3.1 + (Rows.uptoBulk y4.1 + 0)))) + 1 := by rw [hxe]; rfl
 have hb1 : g.size ≤ Rows.uptoBulk x.1 := by
  have e1 : Rows.uptoBulk y1.1 = Rows.uptoBulk z0.1 + (Rows.uptoBulk z1.1 + (Rows.uptoBulk z2.1 + 0)) + 1 := by rw [hze]; rfl
  have e2 : Rows.uptoBulk z1.1 = g.data.toList.length + 1 := by rw [hge]; rfl
  rw [Array.length_toList] at e2
  have e3 : g.data.size = g.size := rfl
  omega
 have hb2 : t.size ≤ Rows.uptoBulk x.1 := by
  have e2 : Rows.uptoBulk y2.1 = t.data.toList.length + 1 := by rw [hte]; rfl
  rw [Array.length_toList] at e2
  have e3 : t.data.size = t.size := rfl
  omega
 have hb3 : ks.length ≤ Rows.uptoBulk x.1 := by have := hkb.1; omega
 have hb4 : ∀ s ∈ ks, s.size ≤ Rows.uptoBulk x.1 := fun s hs => by have := hkb.2 s hs; omega
 rcases DataW.trod_slice Tryz.underlying25 t3 with ⟨h5, _⟩ | ⟨a, len, cap, elems, rest, m2, hm2, h5, hse, _, hl, hcm, hlen, hel, _, _⟩
 ·simp only [List.cons.injEq, and_true] at h5
  subst h5
  exact ⟨.mk k n g e t [] ks, fun i => [Value.int .i64 k, .bool n, .string g, .int .i64 e, .string t, .slice none 0 0, c6].getD i .nilIface, rfl,
   VI.mk none 0 (fun _ _ => .nilIface) rfl rfl rfl rfl rfl rfl hK ⟨Nat.le_refl _, by unfold maxLen; omega⟩ ⟨hg, ht⟩ ⟨hk, he⟩ (Or.inl rfl) (fun i hi => absurd hi (by simp)), Bd.mk (Nat.zero_le _) hb3 hb1 hb2 hb4 (fun c hc => absurd hc (by simp))⟩
 ·simp only [List.cons.injEq, and_true] at h5
  subst h5
  have each : ∀ i, i < len → ∃ q : JV × (Nat → Value), w.cells? base (a.add (i * 7)) 7 = some [q.2 0, q.2 1, q.2 2, q.2 3, q.2 4, q.2 5, q.2 6] ∧ VI w (fun _ => False) q.1 q.2 ∧ Bd (Rows.uptoBulk x.1) q.1 := fun i hi => by
   have := hel i hi
   rw [cellsValue, List.getElem?_eq_getElem (by omega)] at this
   obtain ⟨cs', g1, g2⟩ := Option.bind_eq_some_iff.1 this
   obtain ⟨v, f, rfl, hv, hvb⟩ := ih m2 (by omega) cs' _ g2
   refine ⟨⟨v, f⟩, g1, hv, hvb.mono ?_⟩
   have e1 : Rows.uptoBulk y3.1 = Rows.uptoBulkAll (elems.map (·.1)) + Rows.uptoBulkAll (rest.map (·.1)) + 1 := by rw [hse]; rfl
   have e2 := bulk_part2 (l := elems.map (·.1)) (List.mem_map.2 ⟨_, List.getElem_mem (show i < elems.length by omega), rfl⟩)
   omega
  haveI : Inhabited (JV × (Nat → Value)) := ⟨⟨.mk 0 false ⟨#[]⟩ 0 ⟨#[]⟩ [] [], fun _ => .nilIface⟩⟩
  obtain ⟨Q, hQ⟩ := choose_lt each
  refine ⟨.mk k n g e t ((List.range len).map fun i => (Q i).1) ks, fun i => [Value.int .i64 k, .bool n, .string g, .int .i64 e, .string t, .slice (some a) len cap, c6].getD i .nilIface, rfl,
   VI.mk (some a) cap (fun i => (Q i).2) rfl rfl rfl rfl rfl (by simp) hK ⟨by simpa using hl, hcm⟩ ⟨hg, ht⟩ ⟨hk, he⟩ ?_ (fun i hi => ?_), Bd.mk ?_ hb3 hb1 hb2 hb4 (fun c hc => ?_)⟩
  ·by_cases h0 : len = 0
   ·subst h0; exact Or.inl rfl
   ·right
    have hcell : ∀ i, i < len → ∀ j, j < 7 → w.cell? ((a.add (i * 7)).add j) = some ((Q i).2 j) := fun i hi j hj => by
     obtain ⟨_, _, hc⟩ := World.cells?_some (hQ i hi).1
     rw [hc j hj]
     match j, hj with
     | 0, _ => rfl
     | 1, _ => rfl
     | 2, _ => rfl
     | 3, _ => rfl
     | 4, _ => rfl
     | 5, _ => rfl
     | 6, _ => rfl
    have hsp : a.spot = none := by simpa [Addr.add] using World.cell?_spot (hcell 0 (by omega) 0 (by omega))
    obtain ⟨b, off, spot⟩ := a
    simp only at hsp
    subst hsp
    refine ⟨b, off, rfl, fun h => h, fun i hi j hj => ?_⟩
    have hi' : i < len := by simpa using hi
    have := hcell i hi' j hj
    have e : ∀ o n, (Addr.mk b o none).add n = ⟨b, o + n, none⟩ := fun o n => by
     unfold Addr.add
     split
     ·rename_i h; subst h; rfl
     ·rfl
    rw [e, e] at this
    exact this
  ·have hi' : i < len := by simpa using hi
   simpa using (hQ i hi').2.1
  ·have e1 : Rows.uptoBulk y3.1 = Rows.uptoBulkAll (elems.map (·.1)) + Rows.uptoBulkAll (rest.map (·.1)) + 1 := by rw [hse]; rfl
   have e2 := bulk_length2 (elems.map (·.1))
   rw [List.length_map] at e2 ⊢
   rw [List.length_range]
   omega
  ·obtain ⟨i, hi, rfl⟩ := List.mem_map.1 hc
   exact (hQ i (List.mem_range.1 hi)).2.2
end Go.Proofs.YtjdboekanmfgpaaGreatDoor

namespace Go.Proofs.YtjdboekanmfgpaaGreatDoor
open Go.ChangeShapes Go.WideShapes Go.ChangeAt Go.RowKit Go.Deep
open Go.ChangeMaps (open_string shut_string)

theorem own : ownKnob Tryz.prog.godebug = none := by kernel_rfl
theorem laidOut : laidOutB Tryz.prog = true := by kernel_rfl
theorem gPow : Tryz.prog.globalNamed "internal/strconv.uint64pow10" = some 2 := by kernel_rfl
theorem gPowType : (Tryz.prog.globals[2]?).map (·.type) = some 189 := by kernel_rfl
theorem cellsU64 : Tryz.prog.cellsOf 157 = 1 := by kernel_rfl
theorem cellsPow : Tryz.prog.cellsOf 189 = 20 := by kernel_rfl
theorem gTab : Tryz.prog.globalNamed "caliper/utf.greatest" = some 1 := by kernel_rfl
theorem gTabType : (Tryz.prog.globals[1]?).map (·.type) = some 187 := by kernel_rfl
theorem cells4 : Tryz.prog.cellsOf 187 = 4 := by kernel_rfl
theorem cellsInt : Tryz.prog.cellsOf 3 = 1 := by kernel_rfl
theorem cellsStr : Tryz.prog.cellsOf 9 = 1 := by kernel_rfl
/-- The list, and what it gives. -/
def listed : List (String × DataW Unit) := Rows.valueChecksRow.laid
set_option maxRecDepth 100000 in
theorem env_of_laid {W : World} (h : laidMetH Tryz.prog listed W) : Lx.Tab W ∧ Pow W := by
 have h1 : laidMet Tryz.prog [("internal/strconv.uint64pow10", Rows.laid_internal_strconv_uint64pow10)] W := h.filter (fun x => x.1 == "internal/strconv.uint64pow10")
 have h2 : laidMet Tryz.prog [("caliper/utf.greatest", Rows.laid_caliper_utf_greatest)] W := h.filter (fun x => x.1 == "caliper/utf.greatest")
 have ht : Lib.TabIs Tryz.prog W "caliper/utf.greatest" .i64 [127, 2047, 65535, 1114111] := Lib.tabIs_of_head (rest := []) gTab gTabType Tryz.underlying187 Tryz.underlying3 cellsInt cells4 h2
 exact ⟨⟨ht.cell gTab 0 (by decide), ht.cell gTab 1 (by decide), ht.cell gTab 2 (by decide), ht.cell gTab 3 (by decide)⟩, Lib.tabIs_of_head (rest := []) gPow gPowType Tryz.underlying189 Tryz.underlying157 cellsU64 cellsPow h1⟩
theorem bulk_pos {H : Type} (d : DataW H) : 1 ≤ Rows.uptoBulk d := by
 cases d with
 | lit l => cases l <;> simp [Rows.uptoBulk]
 | _ => simp [Rows.uptoBulk]
theorem bulk_part {H : Type} {d : DataW H} : ∀ {l : List (DataW H)}, d ∈ l → Rows.uptoBulk d ≤ Rows.uptoBulkAll l
 | x :: r, h => by
  simp only [Rows.uptoBulkAll]
  rcases List.mem_cons.1 h with e | e
  ·subst e; omega
  ·have := bulk_part e; omega
/-- .. and for a text. -/
theorem upto_text {H : Type} {ds : List (DataW H)} (hc : Rows.uptoSmall H ds = true) {j : Nat} {bytes : List UInt8} (hd : ds[j]? = some (.lit (.string bytes))) : bytes.length ≤ 1048576 := by
 have hb : Rows.uptoBulkAll ds ≤ 1048576 := of_decide_eq_true hc
 have hp := bulk_part (List.mem_of_getElem? hd)
 simp only [Rows.uptoBulk] at hp
 omega
set_option maxRecDepth 100000 in
theorem open_val {H : Type} {enc : TypeId × Value → H} {W : World} {base : Nat} {v : Value} {d : DataW H} {p : List MemPlace} (hv : Value.okWide Tryz.prog W .any base 28 v)
  (h : DataW.Trod enc Tryz.prog W 0 (fun _ => true) true 28 v d p) :
  ∃ (T : JV) (f : Nat → Value), v = .agg #[f 0, f 1, f 2, f 3, f 4, f 5, f 6] ∧ VI W (fun _ => False) T f ∧ Bd (Rows.uptoBulk d) T := by
 obtain ⟨cs, rfl, hsz⟩ := okWide_struct Tryz.underlying28 hv
 rw [cellsValue] at hsz
 obtain ⟨c0, c1, c2, c3, c4, c5, c6, rfl⟩ : ∃ c0 c1 c2 c3 c4 c5 c6, cs = #[c0, c1, c2, c3, c4, c5, c6] := by
  obtain ⟨l⟩ := cs
  match l, hsz with
  | [a, b, c, d, e, f, g], _ => exact ⟨a, b, c, d, e, f, g, rfl⟩
 obtain ⟨fuel, hf⟩ := h
 have hf : DataW.trod enc Tryz.prog W 0 (fun _ => true) true fuel 28 [c0, c1, c2, c3, c4, c5, c6] = some (d, p) := hf
 obtain ⟨T, f, hcs, hvi, hbd⟩ := open_value2 fuel _ _ hf
 simp only [List.cons.injEq, and_true] at hcs
 obtain ⟨rfl, rfl, rfl, rfl, rfl, rfl, rfl⟩ := hcs
 exact ⟨T, f, rfl, hvi, hbd⟩
theorem upto_val {H : Type} {ds : List (DataW H)} (hc : Rows.uptoSmall H ds = true) {j : Nat} {T : JV} {d : DataW H} (hd : ds[j]? = some d) (h : Bd (Rows.uptoBulk d) T) : Sm T := by
 have hb : Rows.uptoBulkAll ds ≤ 1048576 := of_decide_eq_true hc
 have hp := bulk_part (List.mem_of_getElem? hd)
 exact h.sm (by omega)
end Go.Proofs.YtjdboekanmfgpaaGreatDoor
