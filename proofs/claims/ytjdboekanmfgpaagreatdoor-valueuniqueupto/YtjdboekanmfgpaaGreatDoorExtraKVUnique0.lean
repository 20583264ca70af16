/-
  A list of values that comes in as an argument. No condition.
  What value.picked answers, of texts and of values: the elements at some places, in new memory. Conditions: at most 2^30 of them.
  A value more in a row of the call's own; rows of values as lists; alike ones in a list turned round. Conditions: at most 2^40 of them.
  A sorted value sorted again is as it was, and can be compared; how a comparison can come out. No condition.
  Appends of values at a step of a region whose order is open; a list with one of its own again, sorted. Conditions: at most 2^20 of them.
  What value.Sorted answers: the value with its keys sorted, down to the innermost, in new memory. Conditions: lists and texts of at most 2^30; the value may be.
  What value.Sorted answers: the value with its keys sorted, down to the innermost, in new memory. Conditions: lists and texts of at most 2^30; the value may be.
-/
import Derived.Test.YtjdboekanmfgpaaGreatDoorJoined37
import Derived.Test.YtjdboekanmfgpaaGreatDoorJoined36
import Derived.OwnWalk
import Derived.Deep.AppendLies
import Derived.Test.YtjdboekanmfgpaaGreatDoorJoined32
import Derived.Test.YtjdboekanmfgpaaGreatDoorJoined33
namespace Go.Proofs.YtjdboekanmfgpaaGreatDoor
open Go.ChangeShapes Go.WideShapes Go.Deep Go.RowKit

set_option maxRecDepth 100000 in
theorem open_vals {H : Type} {enc : TypeId × Value → H} {W : World} {base : Nat} {v : Value} {d : DataW H} {p : List MemPlace} (hv : Value.okWide Tryz.prog W .any base 25 v)
  (h : DataW.Trod enc Tryz.prog W 0 (fun _ => true) true 25 v d p) :
  ∃ (l : List JV) (G : Nat → Nat → Value), LI W (fun _ => False) l v G ∧ (∀ ao n c, v = .slice ao n c → n ≤ c) ∧ l.length ≤ Rows.uptoBulk d ∧ ∀ T ∈ l, Bd (Rows.uptoBulk d) T := by
 obtain ⟨a0, len0, cap0, rfl⟩ := okWide_slice Tryz.underlying25 hv
 obtain ⟨fuel, hf⟩ := h
 have hf : DataW.trod enc Tryz.prog W 0 (fun _ => true) true fuel 25 [.slice a0 len0 cap0] = some (d, p) := hf
 rcases DataW.trod_slice Tryz.underlying25 hf with ⟨h5, _⟩ | ⟨a, len, cap, elems, rest, m2, hm2, h5, hse, _, hl, hcm, hlen, hel, _, _⟩
 ·simp only [List.cons.injEq, and_true] at h5
  rw [h5]
  exact ⟨[], fun _ _ => .nilIface, ⟨none, 0, rfl, by unfold maxLen; simp, fun i hi => absurd hi (by simp), .inl rfl⟩, fun ao n c e => by injection e with _ e1 e2; omega, Nat.zero_le _, fun T hT => absurd hT (by simp)⟩
 ·simp only [List.cons.injEq, and_true] at h5
  rw [h5]
  have hd : d = .slice (elems.map (·.1)) (rest.map (·.1)) := by injection hse with e1 _
  have e1 : Rows.uptoBulk d = Rows.uptoBulkAll (elems.map (·.1)) + Rows.uptoBulkAll (rest.map (·.1)) + 1 := by rw [hd]; rfl
  have each : ∀ i, i < len → ∃ q : JV × (Nat → Value), W.cells? 0 (a.add (i * 7)) 7 = some [q.2 0, q.2 1, q.2 2, q.2 3, q.2 4, q.2 5, q.2 6] ∧ VI W (fun _ => False) q.1 q.2 ∧ Bd (Rows.uptoBulk d) q.1 := fun i hi => by
   have := hel i hi
   rw [cellsValue, List.getElem?_eq_getElem (by omega)] at this
   obtain ⟨cs', g1, g2⟩ := Option.bind_eq_some_iff.1 this
   obtain ⟨v, f, rfl, hv, hvb⟩ := open_value2 m2 cs' _ g2
   refine ⟨⟨v, f⟩, g1, hv, hvb.mono ?_⟩
   have e2 := bulk_part2 (l := elems.map (·.1)) (List.mem_map.2 ⟨_, List.getElem_mem (show i < elems.length by omega), rfl⟩)
   omega
  haveI : Inhabited (JV × (Nat → Value)) := ⟨⟨.mk 0 false ⟨#[]⟩ 0 ⟨#[]⟩ [] [], fun _ => .nilIface⟩⟩
  obtain ⟨Q, hQ⟩ := choose_lt each
  refine ⟨(List.range len).map fun i => (Q i).1, fun i => (Q i).2, ⟨some a, cap, by simp, by simp; omega, fun i hi => ?_, ?_⟩, fun ao n c e => by injection e with _ e1 e2; omega, ?_, fun c hc => ?_⟩
  ·have hi' : i < len := by simpa using hi
   simpa using (hQ i hi').2.1
  ·by_cases h0 : len = 0
   ·subst h0; exact Or.inl rfl
   ·right
    have hcell : ∀ i, i < len → ∀ j, j < 7 → W.cell? ((a.add (i * 7)).add j) = some ((Q i).2 j) := fun i hi j hj => by
     obtain ⟨_, _, hc⟩ := World.cells?_some (hQ i hi).1
     rw [hc j hj]
     match j, hj with
     | 0, _ => rfl
     | 1, _ => rfl
     | 2, _ => rfl
     | 3, _ => rfl
     | 4, _ => rfl
     | 5, _ => rfl
     | 6, _ => rfl
    have hsp : a.spot = none := by simpa [Addr.add] using World.cell?_spot (hcell 0 (by omega) 0 (by omega))
    have hlt : a.block < W.heap.size := by
     have h8 := hcell 0 (by omega) 0 (by omega)
     have e8 : ((a.add (0 * 7)).add 0) = a := by simp [Addr.add]
     rw [e8] at h8
     exact World.block_lt_of_cell? W _ h8
    obtain ⟨b, off, spot⟩ := a
    simp only at hsp
    subst hsp
    refine ⟨b, off, rfl, fun h => h, hlt, fun i hi j hj => ?_⟩
    have hi' : i < len := by simpa using hi
    have := hcell i hi' j hj
    have e : ∀ o n, (Addr.mk b o none).add n = ⟨b, o + n, none⟩ := fun o n => by
     unfold Addr.add
     split
     ·rename_i h; subst h; rfl
     ·rfl
    rw [e, e] at this
    exact this
  ·have e2 := bulk_length2 (elems.map (·.1))
   rw [List.length_map] at e2 ⊢
   rw [List.length_range]
   omega
  ·obtain ⟨i, hi, rfl⟩ := List.mem_map.1 hc
   exact (hQ i (List.mem_range.1 hi)).2.2
theorem upto_vals {H : Type} {ds : List (DataW H)} (hc : Rows.uptoSmall H ds = true) {j : Nat} {l : List JV} {d : DataW H} (hd : ds[j]? = some d) (hl : l.length ≤ Rows.uptoBulk d) (h : ∀ T ∈ l, Bd (Rows.uptoBulk d) T) : l.length ≤ 1048576 ∧ ∀ T ∈ l, Sm T := by
 have hb : Rows.uptoBulkAll ds ≤ 1048576 := of_decide_eq_true hc
 have hp := bulk_part (List.mem_of_getElem? hd)
 exact ⟨by omega, fun T hT => (h T hT).sm (by omega)⟩
theorem vk_i64 {n : Int} (h : (Lit.int .i64 n).wf = true) : I64 n := by
 simp only [Lit.wf, Bool.and_eq_true, decide_eq_true_eq] at h
 have e1 : IntKind.min .i64 = -9223372036854775808 := by decide
 have e2 : IntKind.max .i64 = 9223372036854775807 := by decide
 rw [e1, e2] at h
 unfold I64
 omega

end Go.Proofs.YtjdboekanmfgpaaGreatDoor

namespace Go.Proofs.YtjdboekanmfgpaaGreatDoor
open Go.RowKit Go.Lib Go.Sort
attribute [local go_sem] setCell_drewN alloc_drewN

theorem rowG_congr {G G' : Nat → Nat → Value} {n : Nat} (h : ∀ a b, a < n → b < 7 → G a b = G' a b) : rowG G n = rowG G' n := by
  unfold rowG
  refine List.map_congr_left fun j hj => ?_
  have := List.mem_range.1 hj
  exact h _ _ (by omega) (by omega)
theorem made_J (n : Nat) : (madeCells (Value.agg #[.int .i64 0, .bool false, .string ⟨#[]⟩, .int .i64 0, .string ⟨#[]⟩, .slice none 0 0, .slice none 0 0]).cells (n * 7)).toList = rowG (fun _ j => zvF j) n := by
  unfold madeCells rowG
  rw [Array.toList_map, Array.toList_range]
  refine List.map_congr_left fun j _ => ?_
  have h : (Value.agg #[.int .i64 0, .bool false, .string ⟨#[]⟩, .int .i64 0, .string ⟨#[]⟩, .slice none 0 0, .slice none 0 0]).cells = #[.int .i64 0, .bool false, .string ⟨#[]⟩, .int .i64 0, .string ⟨#[]⟩, .slice none 0 0, .slice none 0 0] := by rfl
  rw [h]
  have : j % 7 = 0 ∨ j % 7 = 1 ∨ j % 7 = 2 ∨ j % 7 = 3 ∨ j % 7 = 4 ∨ j % 7 = 5 ∨ j % 7 = 6 := by omega
  show (#[Value.int .i64 0, .bool false, .string ⟨#[]⟩, .int .i64 0, .string ⟨#[]⟩, .slice none 0 0, .slice none 0 0] : Array Value)[j % 7]! = zvF (j % 7)
  rcases this with h | h | h | h | h | h | h <;> rw [h] <;> rfl
theorem wpList_make_J {w : World} {ops : Array Oper} {rest : List Oper} {o : Oper} {a : Act} {Q : Exit → Act → World → Prop} (hg : o.guard = none) (l c : Operand) (hop : o.op = Op.makeSlice 25 l c) (B n : Nat) (hl : a.eval l = .int .i64 (n : Int)) (hc : a.eval c = .int .i64 (n : Int)) (hn : n ≤ 1099511627776) (hB : B ≤ w.heap.size)
    (h : ∀ w', w'.ownsRow B 28 7 (.slice (some ⟨w.heap.size, 0, none⟩) n n) n (rowG (fun _ j => zvF j) n) → w.grownBy w' none → wpList Tryz.prog ops Q rest (a.put o.dst (.slice (some ⟨w.heap.size, 0, none⟩) n n)) w') : wpList Tryz.prog ops Q (o :: rest) a w := by
  obtain ⟨i0, hi, hz0, hz1, hz2⟩ := info_parts infoV
  refine wpList_make_full w hg l c 25 hop B 28 i0 (.agg #[.int .i64 0, .bool false, .string ⟨#[]⟩, .int .i64 0, .string ⟨#[]⟩, .slice none 0 0, .slice none 0 0]) 7 Tryz.underlying25 hi hz0 hz1 .i64 .i64 (n : Int) (n : Int) n hl hc rfl rfl (by rw [hz2]; omega) (by unfold maxLen; omega) hB (fun w' k1 k2 => h w' ?_ k2)
  rw [made_J] at k1
  exact k1
theorem wpList_make_S {w : World} {ops : Array Oper} {rest : List Oper} {o : Oper} {a : Act} {Q : Exit → Act → World → Prop} (hg : o.guard = none) (l c : Operand) (hop : o.op = Op.makeSlice 26 l c) (B n : Nat) (hl : a.eval l = .int .i64 (n : Int)) (hc : a.eval c = .int .i64 (n : Int)) (hn : n ≤ 1099511627776) (hB : B ≤ w.heap.size)
    (h : ∀ w', w'.ownsRow B 9 1 (.slice (some ⟨w.heap.size, 0, none⟩) n n) n (List.replicate n (.string ⟨#[]⟩)) → w.grownBy w' none → wpList Tryz.prog ops Q rest (a.put o.dst (.slice (some ⟨w.heap.size, 0, none⟩) n n)) w') : wpList Tryz.prog ops Q (o :: rest) a w := by
  obtain ⟨i0, hi, hz0, hz1, hz2⟩ := info_parts infoS
  refine wpList_make_full w hg l c 26 hop B 9 i0 (.string ⟨#[]⟩) 1 Tryz.underlying26 hi hz0 hz1 .i64 .i64 (n : Int) (n : Int) n hl hc rfl rfl (by rw [hz2]; omega) (by unfold maxLen; omega) hB (fun w' k1 k2 => h w' ?_ k2)
  rw [Nat.mul_one, show (Value.string ⟨#[]⟩).cells = #[Value.string ⟨#[]⟩] from rfl, toList_madeCells_one] at k1
  exact k1
/-- The first texts picked. -/
def pkS (ks : List ByteArray) (ps : List Nat) (i : Nat) : List Value := (List.range ps.length).map fun a => .string (if a < i then dK ks (ps.getD a 0) else ⟨#[]⟩)
theorem pkS_0 (ks : List ByteArray) (ps : List Nat) : pkS ks ps 0 = List.replicate ps.length (.string ⟨#[]⟩) := by
  apply List.ext_getElem (by simp [pkS])
  intro i h1 h2
  simp [pkS]
theorem pkS_set (ks : List ByteArray) (ps : List Nat) (i : Nat) : (pkS ks ps i).set i (.string (dK ks (ps.getD i 0))) = pkS ks ps (i + 1) := by
  apply List.ext_getElem (by simp [pkS])
  intro j h1 h2
  rw [List.getElem_set]
  simp only [pkS, List.getElem_map, List.getElem_range]
  by_cases e : i = j
  · subst e; simp
  · rw [if_neg e]
    by_cases k : j < i
    · rw [if_pos k, if_pos (by omega)]
    · rw [if_neg k, if_neg (by omega)]
theorem pkS_all (ks : List ByteArray) (ps : List Nat) : pkS ks ps ps.length = (ps.map (dK ks)).map .string := by
  apply List.ext_getElem (by simp [pkS])
  intro j h1 h2
  have h : j < ps.length := by simpa using h2
  simp [pkS, h]

set_option maxRecDepth 100000 in
set_option maxHeartbeats 3200000 in
theorem pickS_any (ks : List ByteArray) (ko : Option Addr) (kc : Nat) (ps : List Nat) (pv : Value) (w : World) (hks : SI w (fun _ => False) ks (.slice ko ks.length kc)) (hps : II w (fun _ => False) (pI ps) pv) (hlt : ∀ p ∈ ps, p < ks.length) (hn : ps.length ≤ 1073741824) (hkn : ks.length ≤ 1073741824) :
    Calls Tryz.prog 45 #[.slice ko ks.length kc, pv] w fun r w' => ∃ g, r = .returned (.slice (some ⟨g, 0, none⟩) ps.length ps.length) ∧ w'.ownsRow w.heap.size 9 1 (.slice (some ⟨g, 0, none⟩) ps.length ps.length) ps.length ((ps.map (dK ks)).map .string) ∧ Below w.heap.size w w' := by
  obtain ⟨P, hP⟩ : ∃ P : Ending → World → Prop, P = fun r w' => ∃ g, r = .returned (.slice (some ⟨g, 0, none⟩) ps.length ps.length) ∧ w'.ownsRow w.heap.size 9 1 (.slice (some ⟨g, 0, none⟩) ps.length ps.length) ps.length ((ps.map (dK ks)).map .string) ∧ Below w.heap.size w w' := ⟨_, rfl⟩
  rw [← hP]
  have HP := hid_intro hP
  obtain ⟨po, pc, rfl, p1, p2, _, p4⟩ := hps
  rw [pI_len] at p1 p4 ⊢
  have HK : Hid (∀ i, i < ps.length → ∀ w', Below w.heap.size w w' → ∃ xb xo kb kof, po = some ⟨xb, xo, none⟩ ∧ ko = some ⟨kb, kof, none⟩ ∧ ps.getD i 0 < ks.length ∧ w'.cell? ⟨xb, xo + i, none⟩ = some (.int .i64 ((ps.getD i 0 : Nat) : Int)) ∧ w'.cell? ⟨kb, kof + ps.getD i 0, none⟩ = some (.string (dK ks (ps.getD i 0)))) := hid_intro (fun i hi w' hb => by
    have hne : pI ps ≠ [] := fun e => by
      have h0 : (pI ps).length = 0 := by rw [e]; rfl
      rw [pI_len] at h0
      omega
    obtain ⟨xb, xo, rfl, _, hx⟩ := p4.resolve_left hne
    have hpx := hx i hi
    rw [pI_at hi] at hpx
    have hjk : ps.getD i 0 < ks.length := hlt _ (by rw [List.getD_eq_getElem?_getD, List.getElem?_eq_getElem hi]; exact List.getElem_mem _)
    obtain ⟨ao', cap', ek, _, _, _, hk4⟩ := hks
    injection ek with ek1 _ _
    subst ek1
    obtain ⟨kb, kof, rfl, _, hkc⟩ := hk4.resolve_left (fun e => by rw [e] at hjk; exact absurd hjk (by simp))
    refine ⟨xb, xo, kb, kof, rfl, rfl, hjk, (hb.cell (p := ⟨xb, xo + i, none⟩) (World.block_lt_of_cell? w _ hpx)).trans hpx, (hb.cell (p := ⟨kb, kof + ps.getD i 0, none⟩) (World.block_lt_of_cell? w _ (hkc _ hjk))).trans ?_⟩
    have hd : dK ks (ps.getD i 0) = ks[ps.getD i 0] := by
      generalize ps.getD i 0 = j at *
      unfold dK
      simp [hjk]
    rw [hkc _ hjk, hd])
  have HN := hid_intro hn
  have hnI : (ps.length : Int) ≤ 1073741824 := by omega
  have hkI : (ks.length : Int) ≤ 1073741824 := by omega
  clear hP hks p1 p2 p4 hlt hn hkn
  go_enter Tryz.func45, Tryz.ntmps45
  go_wp2_with (at_make; refine wpList_make_S rfl _ _ rfl w.heap.size ps.length rfl rfl (by have := HN.out; omega) (Nat.le_refl _) ?_; intro w1 ho1 hg1; have HO1 := hid_intro ho1; have HB1 : Hid (Below w.heap.size w w1) := hid_intro ((Below.refl _ _).grown hg1 (Nat.le_refl _) (fun b e => by cases e)); clear ho1 hg1)
  go_loopg [12] ps.length (fun gg s12 wr => ∃ i : Nat, i ≤ ps.length ∧ gg = ps.length - i ∧ s12 = .int .i64 (i : Int) ∧ Hid (Below w.heap.size w wr) ∧ Hid (wr.ownsRow w.heap.size 9 1 (.slice (some ⟨w.heap.size, 0, none⟩) ps.length ps.length) ps.length (pkS ks ps i)))
  case atStart => exact ⟨0, Nat.zero_le _, rfl, rfl, HB1, hid_intro (by rw [pkS_0]; exact HO1.out)⟩
  case round =>
    clear HO1 HB1
    obtain ⟨i, hi, rfl, rfl, HB, HO⟩ := hrel
    by_cases h : i < ps.length
    · have hI : (i : Int) < (ps.length : Int) := by omega
      obtain ⟨xb, xo, kb, kof, rfl, rfl, hjk, c1, c2⟩ := HK.out i h wr HB.out
      have x0 : wr.cell? ⟨w.heap.size, i, none⟩ = some (.string ⟨#[]⟩) := by
        rw [HO.out.cellAt i (by omega)]
        simp [pkS, h]
      have y0 : wr.frozen? ⟨w.heap.size, i, none⟩ = false := HO.out.frozenAt i
      have hst := HO.out.stored i (.string (dK ks (ps.getD i 0)))
      rw [pkS_set] at hst
      have HST := hid_intro hst
      have HBB : Hid (Below w.heap.size w (wr.setCell ⟨w.heap.size, i, none⟩ (.string (dK ks (ps.getD i 0))))) := hid_intro (HB.out.setCell (Nat.le_refl _) _)
      obtain ⟨j, hj⟩ : ∃ j, ps.getD i 0 = j := ⟨_, rfl⟩
      rw [hj] at hjk c1 c2 HST HBB
      have hjI : (j : Int) < (ks.length : Int) := by omega
      have hj0 : (0 : Int) ≤ (j : Int) := by omega
      have hi0 : (0 : Int) ≤ (i : Int) := by omega
      have HH := hid_intro h
      generalize dK ks j = kj at *
      clear hst hj hjk
      go_wp2_with fail
      go_roundg (ps.length - (i + 1))
      case measure => have := HH.out; omega
      case rel => exact ⟨i + 1, HH.out, rfl, by go_num, HBB, hid_intro HST.out.1⟩
    · have hI : ¬ ((i : Int) < (ps.length : Int)) := by omega
      have he : i = ps.length := by omega
      have HO2 : Hid (wr.ownsRow w.heap.size 9 1 (.slice (some ⟨w.heap.size, 0, none⟩) ps.length ps.length) ps.length ((ps.map (dK ks)).map .string)) := hid_intro (by rw [← pkS_all, ← he]; have := HO.out; rw [← he] at this; exact this)
      go_wp2_with fail
      rw [HP.out]
      exact ⟨_, rfl, HO2.out, HB.out⟩
/-- The first values picked. -/
def pkG (G : Nat → Nat → Value) (ps : List Nat) (i : Nat) : Nat → Nat → Value := fun a b => if a < i then G (ps.getD a 0) b else zvF b
theorem pkG_step (G : Nat → Nat → Value) (ps : List Nat) (i n : Nat) : rowG (fun a b => if a = i then (if b < 7 then G (ps.getD i 0) b else pkG G ps i a b) else pkG G ps i a b) n = rowG (pkG G ps (i + 1)) n := by
  refine rowG_congr fun a b _ hb => ?_
  unfold pkG
  by_cases e : a = i
  · subst e
    simp [hb]
  · by_cases k : a < i
    · simp [e, k, show a < i + 1 by omega]
    · simp [e, k, show ¬ a < i + 1 by omega]

set_option maxRecDepth 100000 in
set_option maxHeartbeats 3200000 in
theorem pickV_any (l : List JV) (ao : Option Addr) (lc : Nat) (G : Nat → Nat → Value) (ps : List Nat) (pv : Value) (w : World) (hl : LI w (fun _ => False) l (.slice ao l.length lc) G) (hps : II w (fun _ => False) (pI ps) pv) (hlt : ∀ p ∈ ps, p < l.length) (hn : ps.length ≤ 1073741824) (hkn : l.length ≤ 1073741824) :
    Calls Tryz.prog 46 #[.slice ao l.length lc, pv] w fun r w' => ∃ g, r = .returned (.slice (some ⟨g, 0, none⟩) ps.length ps.length) ∧ w'.ownsRow w.heap.size 28 7 (.slice (some ⟨g, 0, none⟩) ps.length ps.length) ps.length (rowG (pkG G ps ps.length) ps.length) ∧ Below w.heap.size w w' := by
  obtain ⟨P, hP⟩ : ∃ P : Ending → World → Prop, P = fun r w' => ∃ g, r = .returned (.slice (some ⟨g, 0, none⟩) ps.length ps.length) ∧ w'.ownsRow w.heap.size 28 7 (.slice (some ⟨g, 0, none⟩) ps.length ps.length) ps.length (rowG (pkG G ps ps.length) ps.length) ∧ Below w.heap.size w w' := ⟨_, rfl⟩
  rw [← hP]
  have HP := hid_intro hP
  obtain ⟨po, pc, rfl, p1, p2, _, p4⟩ := hps
  rw [pI_len] at p1 p4 ⊢
  have HK : Hid (∀ i, i < ps.length → ∀ w', Below w.heap.size w w' → ∃ xb xo lb lof, po = some ⟨xb, xo, none⟩ ∧ ao = some ⟨lb, lof, none⟩ ∧ ps.getD i 0 < l.length ∧ w'.cell? ⟨xb, xo + i, none⟩ = some (.int .i64 ((ps.getD i 0 : Nat) : Int)) ∧ (∀ q, q < 7 → w'.cell? ⟨lb, lof + ps.getD i 0 * 7 + q, none⟩ = some (G (ps.getD i 0) q)) ∧
      ∃ k n g e t a m c ka km kc, G (ps.getD i 0) 0 = .int .i64 k ∧ G (ps.getD i 0) 1 = .bool n ∧ G (ps.getD i 0) 2 = .string g ∧ G (ps.getD i 0) 3 = .int .i64 e ∧ G (ps.getD i 0) 4 = .string t ∧ G (ps.getD i 0) 5 = .slice a m c ∧ G (ps.getD i 0) 6 = .slice ka km kc) := hid_intro (fun i hi w' hb => by
    have hne : pI ps ≠ [] := fun e => by
      have h0 : (pI ps).length = 0 := by rw [e]; rfl
      rw [pI_len] at h0
      omega
    obtain ⟨xb, xo, rfl, _, hx⟩ := p4.resolve_left hne
    have hpx := hx i hi
    rw [pI_at hi] at hpx
    have hjk : ps.getD i 0 < l.length := hlt _ (by rw [List.getD_eq_getElem?_getD, List.getElem?_eq_getElem hi]; exact List.getElem_mem _)
    obtain ⟨lb, lof, lc', el, hlb, hlc⟩ := hl.at hjk
    injection el with el1 _ _
    exact ⟨xb, xo, lb, lof, rfl, el1, hjk, (hb.cell (p := ⟨xb, xo + i, none⟩) (World.block_lt_of_cell? w _ hpx)).trans hpx, fun q hq => (hb.cell (p := ⟨lb, lof + ps.getD i 0 * 7 + q, none⟩) hlb).trans (hlc q hq), (hl.choose_spec.choose_spec.2.2.1 _ hjk).shape⟩)
  have HN := hid_intro hn
  have hnI : (ps.length : Int) ≤ 1073741824 := by omega
  have hkI : (l.length : Int) ≤ 1073741824 := by omega
  clear hP hl p1 p2 p4 hlt hn hkn
  go_enter Tryz.func46, Tryz.ntmps46
  go_wp2_with (at_make; refine wpList_make_J rfl _ _ rfl w.heap.size ps.length rfl rfl (by have := HN.out; omega) (Nat.le_refl _) ?_; intro w1 ho1 hg1; have HO1 := hid_intro ho1; have HB1 : Hid (Below w.heap.size w w1) := hid_intro ((Below.refl _ _).grown hg1 (Nat.le_refl _) (fun b e => by cases e)); clear ho1 hg1)
  go_loopg [12] ps.length (fun gg s12 wr => ∃ i : Nat, i ≤ ps.length ∧ gg = ps.length - i ∧ s12 = .int .i64 (i : Int) ∧ Hid (Below w.heap.size w wr) ∧ Hid (wr.ownsRow w.heap.size 28 7 (.slice (some ⟨w.heap.size, 0, none⟩) ps.length ps.length) ps.length (rowG (pkG G ps i) ps.length)))
  case atStart => exact ⟨0, Nat.zero_le _, rfl, rfl, HB1, hid_intro (by rw [show rowG (pkG G ps 0) ps.length = rowG (fun _ j => zvF j) ps.length from rowG_congr fun a b _ _ => by simp [pkG]]; exact HO1.out)⟩
  case round =>
    clear HO1 HB1
    obtain ⟨i, hi, rfl, rfl, HB, HO⟩ := hrel
    by_cases h : i < ps.length
    · have hI : (i : Int) < (ps.length : Int) := by omega
      obtain ⟨xb, xo, lb, lof, rfl, rfl, hjk, c1, c2, k', n', g', e', t', la, m', c', ka, km', kc2, f0, f1, f2, f3, f4, f5, f6⟩ := HK.out i h wr HB.out
      have hx : ∀ q, q < 7 → ∃ u, wr.cell? ⟨w.heap.size, i * 7 + q, none⟩ = some u := fun q hq => ⟨_, by
        have := World.ownsRow.cells HO.out (g := w.heap.size) rfl (i * 7 + q) _ (rowG_at _ ps.length i q h hq)
        rwa [add_at, Nat.zero_add] at this⟩
      obtain ⟨u0, x0⟩ := hx 0 (by omega)
      obtain ⟨u1, x1⟩ := hx 1 (by omega)
      obtain ⟨u2, x2⟩ := hx 2 (by omega)
      obtain ⟨u3, x3⟩ := hx 3 (by omega)
      obtain ⟨u4, x4⟩ := hx 4 (by omega)
      obtain ⟨u5, x5⟩ := hx 5 (by omega)
      obtain ⟨u6, x6⟩ := hx 6 (by omega)
      have x0 : wr.cell? ⟨w.heap.size, i * 7, none⟩ = some u0 := x0
      have y0 : wr.frozen? ⟨w.heap.size, i * 7, none⟩ = false := World.ownsRow.frozenAt HO.out _
      have y1 : wr.frozen? ⟨w.heap.size, i * 7 + 1, none⟩ = false := World.ownsRow.frozenAt HO.out _
      have y2 : wr.frozen? ⟨w.heap.size, i * 7 + 2, none⟩ = false := World.ownsRow.frozenAt HO.out _
      have y3 : wr.frozen? ⟨w.heap.size, i * 7 + 3, none⟩ = false := World.ownsRow.frozenAt HO.out _
      have y4 : wr.frozen? ⟨w.heap.size, i * 7 + 4, none⟩ = false := World.ownsRow.frozenAt HO.out _
      have y5 : wr.frozen? ⟨w.heap.size, i * 7 + 5, none⟩ = false := World.ownsRow.frozenAt HO.out _
      have y6 : wr.frozen? ⟨w.heap.size, i * 7 + 6, none⟩ = false := World.ownsRow.frozenAt HO.out _
      have hst := put7_own (f := G (ps.getD i 0)) (i := i) HO.out
      rw [pkG_step] at hst
      have hbb : Below w.heap.size w (put7 wr w.heap.size (i * 7) (G (ps.getD i 0))) := put7_below HB.out (Nat.le_refl _)
      unfold put7 at hst hbb
      have d0 : wr.cell? ⟨lb, lof + ps.getD i 0 * 7, none⟩ = some (G (ps.getD i 0) 0) := c2 0 (by omega)
      have d1 := c2 1 (by omega)
      have d2 := c2 2 (by omega)
      have d3 := c2 3 (by omega)
      have d4 := c2 4 (by omega)
      have d5 := c2 5 (by omega)
      have d6 := c2 6 (by omega)
      rw [f0] at d0 hst hbb
      rw [f1] at d1 hst hbb
      rw [f2] at d2 hst hbb
      rw [f3] at d3 hst hbb
      rw [f4] at d4 hst hbb
      rw [f5] at d5 hst hbb
      rw [f6] at d6 hst hbb
      have HST := hid_intro hst
      have HBB := hid_intro hbb
      obtain ⟨j, hj⟩ : ∃ j, ps.getD i 0 = j := ⟨_, rfl⟩
      rw [hj] at hjk c1 d0 d1 d2 d3 d4 d5 d6
      have hjI : (j : Int) < (l.length : Int) := by omega
      have hj0 : (0 : Int) ≤ (j : Int) := by omega
      have hi0 : (0 : Int) ≤ (i : Int) := by omega
      have HH := hid_intro h
      clear hst hbb hj hjk c2 hx f0 f1 f2 f3 f4 f5 f6
      go_wp2_with fail
      go_roundg (ps.length - (i + 1))
      case measure => have := HH.out; omega
      case rel => exact ⟨i + 1, HH.out, rfl, by go_num, HBB, HST⟩
    · have hI : ¬ ((i : Int) < (ps.length : Int)) := by omega
      have he : i = ps.length := by omega
      have HO2 : Hid (wr.ownsRow w.heap.size 28 7 (.slice (some ⟨w.heap.size, 0, none⟩) ps.length ps.length) ps.length (rowG (pkG G ps ps.length) ps.length)) := hid_intro (by rw [← he]; have := HO.out; rw [← he] at this; exact this)
      go_wp2_with fail
      rw [HP.out]
      exact ⟨_, rfl, HO2.out, HB.out⟩
end Go.Proofs.YtjdboekanmfgpaaGreatDoor

namespace Go.Proofs.YtjdboekanmfgpaaGreatDoor
open Go.RowKit Go.Lib Go.Sort
attribute [local go_sem] setCell_drewN alloc_drewN

/-- The cells of one value. -/
def c7l (y : Nat → Value) : List Value := [y 0, y 1, y 2, y 3, y 4, y 5, y 6]
theorem rowG_snoc (G : Nat → Nat → Value) (n : Nat) (y : Nat → Value) : rowG G n ++ c7l y = rowG (fun a b => if a < n then G a b else y b) (n + 1) := by
 unfold rowG c7l
 rw [show (n + 1) * 7 = n * 7 + 1 + 1 + 1 + 1 + 1 + 1 + 1 by omega]
 simp only [List.range_succ, List.map_append, List.map_cons, List.map_nil, List.append_assoc, List.cons_append, List.nil_append]
 congr 1
 ·refine List.map_congr_left fun j hj => ?_
  have := List.mem_range.1 hj
  rw [if_pos (by omega)]
 ·simp only [show n * 7 / 7 = n by omega, show n * 7 % 7 = 0 by omega, show (n * 7 + 1) / 7 = n by omega, show (n * 7 + 1) % 7 = 1 by omega, show (n * 7 + 1 + 1) / 7 = n by omega, show (n * 7 + 1 + 1) % 7 = 2 by omega, show (n * 7 + 1 + 1 + 1) / 7 = n by omega, show (n * 7 + 1 + 1 + 1) % 7 = 3 by omega, show (n * 7 + 1 + 1 + 1 + 1) / 7 = n by omega, show (n * 7 + 1 + 1 + 1 + 1) % 7 = 4 by omega, show (n * 7 + 1 + 1 + 1 + 1 + 1) / 7 = n by omega, show (n * 7 + 1 + 1 + 1 + 1 + 1) % 7 = 5 by omega, show (n * 7 + 1 + 1 + 1 + 1 + 1 + 1) / 7 = n by omega, show (n * 7 + 1 + 1 + 1 + 1 + 1 + 1) % 7 = 6 by omega, Nat.lt_irrefl, if_false]
theorem c7l_one {w : World} {X : Nat → Prop} {v : JV} {f : Nat → Value} (h : VI w X v f) : ∀ u ∈ c7l f, u.oneCell' = true := by
 intro u hu
 simp only [c7l, List.mem_cons, List.not_mem_nil, or_false] at hu
 rcases hu with rfl | rfl | rfl | rfl | rfl | rfl | rfl
 ·exact h.one 0 (by omega)
 ·exact h.one 1 (by omega)
 ·exact h.one 2 (by omega)
 ·exact h.one 3 (by omega)
 ·exact h.one 4 (by omega)
 ·exact h.one 5 (by omega)
 ·exact h.one 6 (by omega)
theorem own_belJ {w w' : World} {B n : Nat} {v : Value} {xs : List Value} (h : w.ownsRow B 28 7 v n xs) (hb : Below w.heap.size w w') : w'.ownsRow B 28 7 v n xs := by
 obtain ⟨h1, h2⟩ := h
 refine ⟨h1, ?_⟩
 rcases h2 with h2 | ⟨g, cap, cur, a, b, c, d⟩
 ·exact .inl h2
 ·exact .inr ⟨g, cap, cur, a, b, by rw [hb.block g (Array.getElem?_eq_some_iff.1 c).1]; exact c, d⟩
theorem wpList_append_J {w : World} {ops : Array Oper} {rest : List Oper} {o : Oper} {a : Act} {Q : Exit → Act → World → Prop} (hgd : o.guard = none) (s x : Operand)
  (ho : o.op = .call { callee := .builtin .append, args := #[s, x], argTypes := #[25, 25] }) (B : Nat) (v : Value) (n : Nat) (G : Nat → Nat → Value) (hs : a.eval s = v) (hown : w.ownsRow B 28 7 v n (rowG G n)) (hB : B ≤ w.heap.size) (hn : n ≤ 1099511627776) (y : Nat → Value) (hy : ∀ u ∈ c7l y, u.oneCell' = true)
  (t : Nat) (ht : w.heap.size = t) (hx : a.eval x = .slice (some ⟨t, 0, none⟩) 1 1)
  (h : ∀ g cap w', w'.ownsRow B 28 7 (.slice (some ⟨g, 0, none⟩) (n + 1) cap) (n + 1) (rowG (fun a b => if a < n then G a b else y b) (n + 1)) → (w.alloc (.cells #[y 0, y 1, y 2, y 3, y 4, y 5, y 6] 28)).grownBy w' v.ownBlock → wpList Tryz.prog ops Q rest (a.put o.dst (.slice (some ⟨g, 0, none⟩) (n + 1) cap)) w') :
  wpList Tryz.prog ops Q (o :: rest) a (w.alloc (.cells #[y 0, y 1, y 2, y 3, y 4, y 5, y 6] 28)) := by
 subst ht
 obtain ⟨i0, hi, hz0, hz1, hz2⟩ := info_parts infoV
 refine wpList_append_lies _ hgd s x 25 ho B 28 i0 _ 7 104 Tryz.underlying25 hi hz0 hz1 hz2 rfl (by decide) v n (rowG G n) hs (own_belJ hown (vb_a (Below.refl _ _) _)) ⟨w.heap.size, 0, none⟩ 1 1 (c7l y) hx rfl (fun j u hu => ?_) hy (by decide) (by unfold maxLen; omega) (by omega) (by simp; omega) _ rfl ?_
 ·rw [add_at, Nat.zero_add]
  have hb := (Bx.new w #[y 0, y 1, y 2, y 3, y 4, y 5, y 6] 28).cell j
  rw [hb]
  simpa [c7l] using hu
 ·intro g cap w' h1 h2 _ _
  rw [rowG_snoc] at h1
  exact h g cap w' h1 h2
/-- A row of the call's own as a list of values. -/
theorem li_own {w : World} {B : Nat} {v : Value} {l : List JV} {G : Nat → Nat → Value} (h : w.ownsRow B 28 7 v l.length (rowG G l.length)) (hm : l.length ≤ maxLen) (hv : ∀ i (hi : i < l.length), VI w (fun _ => False) l[i] (G i)) : LI w (fun _ => False) l v G := by
 rcases h.2 with ⟨rfl, h0⟩ | ⟨g, cap, cur, rfl, hg, hc, _⟩
 ·have : l = [] := List.eq_nil_of_length_eq_zero h0
  subst this
  exact ⟨none, 0, rfl, hm, hv, .inl rfl⟩
 ·refine ⟨some ⟨g, 0, none⟩, cap, rfl, hm, hv, .inr ⟨g, 0, rfl, fun h => h, (Array.getElem?_eq_some_iff.1 hc).1, fun i hi j hj => ?_⟩⟩
  have := World.ownsRow.cells h (g := g) rfl (i * 7 + j) _ (rowG_at G l.length i j hi hj)
  rw [add_at] at this
  rw [Nat.add_assoc]
  exact this
/-- Alike ones in a list, whichever way round. -/
theorem alike_rev (l : List JV) : Alike l.length (fun i j => cmpJ (l.getD i jD) (l.getD j jD)) ↔ Alike l.length (fun i j => cmpJ (l.reverse.getD i jD) (l.reverse.getD j jD)) := by
 have hr : ∀ i, i < l.length → l.reverse.getD i jD = l.getD (l.length - 1 - i) jD := fun i hi => by
  have h1 : l.length - 1 - i < l.length := by omega
  simp [hi, h1]
 constructor
 ·rintro ⟨i, j, hi, hj, hne, h⟩
  refine ⟨l.length - 1 - i, l.length - 1 - j, by omega, by omega, by omega, ?_⟩
  dsimp only at h ⊢
  rw [hr _ (by omega), hr _ (by omega), show l.length - 1 - (l.length - 1 - i) = i by omega, show l.length - 1 - (l.length - 1 - j) = j by omega]
  exact h
 ·rintro ⟨i, j, hi, hj, hne, h⟩
  refine ⟨l.length - 1 - i, l.length - 1 - j, by omega, by omega, by omega, ?_⟩
  dsimp only at h ⊢
  rw [hr i hi, hr j hj] at h
  exact h
end Go.Proofs.YtjdboekanmfgpaaGreatDoor

namespace Go.Proofs.YtjdboekanmfgpaaGreatDoor
open Go.RowKit Go.Lib Go.Sort

/-- Minus one, nought or one. -/
def V3 (x : Int) : Prop := x = -1 ∨ x = 0 ∨ x = 1
theorem si_v3 (x y : Int) : V3 (si x y) := by
 unfold si V3
 split
 ·simp
 ·split <;> simp
theorem th_v3 {c d : Int} (h : V3 c) (k : V3 d) : V3 (th c d) := by
 unfold th
 split
 ·exact k
 ·exact h
theorem lx_v3 {α : Type} {c : α → α → Int} : ∀ {l m : List α}, (∀ a ∈ l, ∀ b ∈ m, V3 (c a b)) → V3 (lx c l m)
 | [], [], _ => .inr (.inl rfl)
 | [], _ :: _, _ => .inr (.inl rfl)
 | _ :: _, [], _ => .inr (.inl rfl)
 | a :: l, b :: m, h => th_v3 (h a (by simp) b (by simp)) (lx_v3 (fun x hx y hy => h x (by simp [hx]) y (by simp [hy])))
theorem cmpS_v3 (V : Bool → ByteArray → Int → Int) (a : JV) : ∀ b, V3 (cmpS V a b) := by
 induction a using JV.ind with
 | h k n g e t l ks ih =>
 intro b
 obtain ⟨k', n', g', e', t', l', ks'⟩ := b
 rw [cmpS, cmpL_lx]
 refine th_v3 (si_v3 _ _) ?_
 split
 ·exact si_v3 _ _
 ·split
  ·exact kc_vals _ _
  ·split
   ·exact th_v3 (si_v3 _ _) (th_v3 (lx_v3 fun a _ b _ => kc_vals a b) (lx_v3 fun a ha b _ => ih a ha b))
   ·exact .inr (.inl rfl)
theorem srtM_keys {ks : List ByteArray} {l : List JV} (hl : ks.length = l.length) : ((ks.zip l).map (·.1)) = ks := by rw [List.map_fst_zip (by omega)]
/-- Sorted again. -/
theorem srt_srt (a : JV) : okC NumG a → srt (srt a) = srt a := by
 induction a using JV.ind with
 | h k n g e t l ks ih =>
 intro hok
 unfold okC at hok
 obtain ⟨⟨_, h6, _⟩, hcl⟩ := hok
 have hel := okCL_iff.1 hcl
 by_cases k6 : k = 6
 ·subst k6
  obtain ⟨z1, z2⟩ := h6 rfl
  have hk := srtM_keys z1
  have hup : Up (srtM (ks.zip l)) := srtM_up (by rw [hk]; exact z2)
  have hnd : ((srtM (ks.zip l)).map (·.1)).Nodup := (((srtM_perm (ks.zip l)).map (·.1)).nodup_iff).2 (by rw [hk]; exact z2)
  rw [srt_obj, srt_obj]
  have hz : ((srtM (ks.zip l)).map (·.1)).zip ((srtM (ks.zip l)).map fun m => srt m.2) = (srtM (ks.zip l)).map fun m => (m.1, srt m.2) := by
   generalize srtM (ks.zip l) = M
   induction M with
   | nil => rfl
   | cons m M ihM => simp only [List.map_cons, List.zip_cons_cons, ihM]
  have hM : srtM ((srtM (ks.zip l)).map fun m => (m.1, srt m.2)) = (srtM (ks.zip l)).map fun m => (m.1, srt m.2) := by
   refine (srtM_unique ?_ ?_ (List.Perm.refl _)).symm
   ·rw [List.map_map]; exact hnd
   ·exact List.pairwise_map.2 hup
  rw [hz, hM, List.map_map, List.map_map]
  congr 1
  refine List.map_congr_left fun m hm => ?_
  have hml : m.2 ∈ l := (List.of_mem_zip ((srtM_perm _).mem_iff.1 hm)).2
  exact ih m.2 hml (hel _ hml)
 ·have e1 : ∀ l' ks', srt (.mk k n g e t l' ks') = .mk k n g e t (srtL l') [] := fun l' ks' => by rw [srt, if_neg k6]
  rw [e1, e1]
  congr 1
  rw [srtL_map, srtL_map, List.map_map]
  refine List.map_congr_left fun x hx => ih x hx (hel _ hx)
theorem okC_srt (a : JV) : okC NumG a → okC NumG (srt a) := by
 induction a using JV.ind with
 | h k n g e t l ks ih =>
 intro hok
 unfold okC at hok
 obtain ⟨⟨h0, h6, h3⟩, hcl⟩ := hok
 have hel := okCL_iff.1 hcl
 by_cases k6 : k = 6
 ·subst k6
  obtain ⟨z1, z2⟩ := h6 rfl
  have hk := srtM_keys z1
  have hlen : (srtM (ks.zip l)).length = l.length := by rw [srtM_len, List.length_zip]; omega
  rw [srt_obj]
  unfold okC okNum
  refine ⟨⟨by rw [List.length_map, hlen]; exact h0, fun _ => ⟨by rw [List.length_map, List.length_map], (((srtM_perm (ks.zip l)).map (·.1)).nodup_iff).2 (by rw [hk]; exact z2)⟩, fun h => absurd h (by decide)⟩, okCL_iff.2 fun x hx => ?_⟩
  obtain ⟨m, hm, rfl⟩ := List.mem_map.1 hx
  have hml : m.2 ∈ l := (List.of_mem_zip ((srtM_perm _).mem_iff.1 hm)).2
  exact ih m.2 hml (hel _ hml)
 ·rw [srt, if_neg k6]
  unfold okC okNum
  refine ⟨⟨by rw [srtL_len]; exact h0, fun h => absurd h k6, h3⟩, okCL_iff.2 fun x hx => ?_⟩
  rw [srtL_map] at hx
  obtain ⟨y, hy, rfl⟩ := List.mem_map.1 hx
  exact ih y hy (hel _ hy)
/-- A value sorted is equal to it. -/
theorem cmpJ_srt (a : JV) (h : okC NumG a) : cmpJ (srt a) a = 0 := by unfold cmpJ; rw [srt_srt a h, cmpS_refl]
theorem cmpJ_v3 (a b : JV) : V3 (cmpJ a b) := cmpS_v3 _ _ _
end Go.Proofs.YtjdboekanmfgpaaGreatDoor

namespace Go.Proofs.YtjdboekanmfgpaaGreatDoor
open Go.RowKit Go.Lib Go.Sort
attribute [local go_sem] setCell_drewN alloc_drewN

theorem Bx.dw {w : World} {b : Nat} {cs : Array Value} {T : TypeId} (h : Bx w b cs T) : Bx w.drew b cs T := h
theorem own_of_bx {w : World} {H B : Nat} (h : Bx w H #[] 28) (hB : B ≤ H) : w.ownsRow B 28 7 (.slice (some ⟨H, 0, none⟩) 0 0) 0 [] :=
 ⟨rfl, .inr ⟨H, 0, #[], rfl, hB, h, Nat.le_refl _, by unfold maxLen; omega, rfl, rfl⟩⟩
/-- 'append([]Value{}, l...)'. -/
theorem step_appL {w : World} {ops : Array Oper} {o : Oper} {a : Act} {K : Act → World → Prop} {Q : Exit → Act → World → Prop} {E : Prop} (hgd : o.guard = none) (s x : Operand)
  (ho : o.op = .call { callee := .builtin .append, args := #[s, x], argTypes := #[25, 25] }) (B H : Nat) (hs : a.eval s = .slice (some ⟨H, 0, none⟩) 0 0) (b off n cap : Nat) (G : Nat → Nat → Value) (hx : a.eval x = .slice (some ⟨b, off, none⟩) n cap)
  (hn0 : 0 < n) (hn : n ≤ 1048576) (hone : ∀ i j, i < n → j < 7 → (G i j).oneCell' = true) (hown : w.ownsRow B 28 7 (.slice (some ⟨H, 0, none⟩) 0 0) 0 []) (hB : B ≤ w.heap.size) (hcell : ∀ i, i < n → ∀ j, j < 7 → w.cell? ⟨b, off + i * 7 + j, none⟩ = some (G i j))
  (h : ∀ g c w', w'.ownsRow B 28 7 (.slice (some ⟨g, 0, none⟩) n c) n (rowG G n) → w.grownBy w' (some H) → K (a.put o.dst (.slice (some ⟨g, 0, none⟩) n c)) w') :
  if Region.wanted o (yielded ops a.tmps) = true then Oper.wp Tryz.prog o a w K Q else E := by
 obtain ⟨i0, hi, hz0, hz1, hz2⟩ := info_parts infoV
 refine step_append_lies (P := Tryz.prog) w hgd s x 25 ho B 28 i0 _ 7 104 Tryz.underlying25 hi hz0 hz1 hz2 rfl (by decide) _ 0 [] hs hown ⟨b, off, none⟩ n cap (rowG G n) hx (by rw [rowG_len]) (fun j u hu => ?_) (fun u hu => ?_) hn0 (by unfold maxLen; omega) (by omega) hB w.heap.size rfl ?_
 ·have hj : j < n * 7 := by have := (List.getElem?_eq_some_iff.1 hu).1; rwa [rowG_len] at this
  have e : j / 7 * 7 + j % 7 = j := by omega
  have hr2 := rowG_at G n (j / 7) (j % 7) (by omega) (by omega)
  rw [e, hu] at hr2
  have h8 := hcell (j / 7) (by omega) (j % 7) (by omega)
  rw [Nat.add_assoc, e] at h8
  rw [add_at, h8, hr2]
 ·obtain ⟨j, hj, rfl⟩ := List.mem_map.1 hu
  have := List.mem_range.1 hj
  exact hone _ _ (by omega) (by omega)
 ·intro g c w' h1 h2 _ _
  rw [Nat.zero_add, List.nil_append] at h1
  rw [Nat.zero_add]
  exact h g c w' h1 h2
/-- 'append(row, y)'. -/
theorem step_appJ {w : World} {ops : Array Oper} {o : Oper} {a : Act} {K : Act → World → Prop} {Q : Exit → Act → World → Prop} {E : Prop} (hgd : o.guard = none) (s x : Operand)
  (ho : o.op = .call { callee := .builtin .append, args := #[s, x], argTypes := #[25, 25] }) (B g0 n c0 : Nat) (G : Nat → Nat → Value) (hs : a.eval s = .slice (some ⟨g0, 0, none⟩) n c0) (y : Nat → Value) (t : Nat) (hx : a.eval x = .slice (some ⟨t, 0, none⟩) 1 1)
  (hn : n ≤ 1048576) (hy : ∀ u ∈ c7l y, u.oneCell' = true) (hown : w.ownsRow B 28 7 (.slice (some ⟨g0, 0, none⟩) n c0) n (rowG G n)) (hB : B ≤ w.heap.size) (hc : Bx w t #[y 0, y 1, y 2, y 3, y 4, y 5, y 6] 28)
  (h : ∀ g c w', w'.ownsRow B 28 7 (.slice (some ⟨g, 0, none⟩) (n + 1) c) (n + 1) (rowG (fun p q => if p < n then G p q else y q) (n + 1)) → w.grownBy w' (some g0) → K (a.put o.dst (.slice (some ⟨g, 0, none⟩) (n + 1) c)) w') :
  if Region.wanted o (yielded ops a.tmps) = true then Oper.wp Tryz.prog o a w K Q else E := by
 obtain ⟨i0, hi, hz0, hz1, hz2⟩ := info_parts infoV
 refine step_append_lies (P := Tryz.prog) w hgd s x 25 ho B 28 i0 _ 7 104 Tryz.underlying25 hi hz0 hz1 hz2 rfl (by decide) _ n (rowG G n) hs hown ⟨t, 0, none⟩ 1 1 (c7l y) hx rfl (fun j u hu => ?_) hy (by decide) (by unfold maxLen; omega) (by omega) hB w.heap.size rfl ?_
 ·rw [add_at, Nat.zero_add, hc.cell j]
  simpa [c7l] using hu
 ·intro g c w' h1 h2 _ _
  rw [rowG_snoc] at h1
  exact h g c w' h1 h2
/-- A list with one of its own again, sorted: two are alike. -/
theorem alike_again (l : List JV) (p : Nat) (hp : p < l.length) (ok : okC NumG l[p]) : Alike (l ++ [srt l[p]]).length (fun i j => cmpJ ((l ++ [srt l[p]]).getD i jD) ((l ++ [srt l[p]]).getD j jD)) := by
 refine ⟨l.length, p, by simp, by simp; omega, by omega, ?_⟩
 have e1 : (l ++ [srt l[p]]).getD l.length jD = srt l[p] := by simp
 have e2 : (l ++ [srt l[p]]).getD p jD = l[p] := by simp [List.getElem?_append_left hp, hp]
 dsimp only
 rw [e1, e2]
 exact cmpJ_srt _ ok
end Go.Proofs.YtjdboekanmfgpaaGreatDoor

namespace Go.Proofs.YtjdboekanmfgpaaGreatDoor
open Go.RowKit Go.Sort
attribute [local go_sem] setCell_drewN alloc_drewN

/-- The first elements sorted. -/
def stp (l : List JV) (i : Nat) : List JV := l.mapIdx fun j x => if j < i then srt x else x
theorem stp_len (l : List JV) (i : Nat) : (stp l i).length = l.length := by simp [stp]
theorem stp_0 (l : List JV) : stp l 0 = l := by
 apply List.ext_getElem (by simp [stp])
 intro j h1 h2
 simp [stp]
theorem stp_all (l : List JV) : stp l l.length = l.map srt := by
 apply List.ext_getElem (by simp [stp])
 intro j h1 h2
 have h : j < l.length := by simpa using h2
 simp [stp, h]
theorem stp_at {l : List JV} {i : Nat} (h : i < l.length) : (stp l i)[i]'(by rw [stp_len]; exact h) = l[i] := by simp [stp]
theorem stp_set {l : List JV} {i : Nat} (h : i < l.length) : (stp l i).set i (srt l[i]) = stp l (i + 1) := by
 apply List.ext_getElem (by simp [stp])
 intro j h1 h2
 rw [List.getElem_set]
 by_cases e : i = j
 ·subst e
  simp [stp]
 ·rw [if_neg e]
  simp only [stp, List.getElem_mapIdx]
  by_cases k : j < i
  ·rw [if_pos k, if_pos (by omega)]
  ·rw [if_neg k, if_neg (by omega)]
/-- A round that stores another value. -/
theorem cp_step_set {w wr w2 : World} {X : Nat → Prop} {k : Int} {n : Bool} {g : ByteArray} {e0 : Int} {t : ByteArray} {l : List JV} {ks : List ByteArray} {gg lc : Nat} {kv : Value} {i : Nat} {f : Nat → Value} {x : JV} (h : CpR w X (.mk k n g e0 t l ks) (some ⟨gg, 0, none⟩) lc kv wr) (hi : i < l.length) (hb : Below wr.heap.size wr w2)
  (hf : VI w2 (X1 X w.heap.size (some ⟨gg, 0, none⟩)) x f) : CpR w X (.mk k n g e0 t (l.set i x) ks) (some ⟨gg, 0, none⟩) lc kv (put7 w2 gg (i * 7) f) := by
 obtain ⟨_, _, hg2, hglt⟩ := h.fresh gg 0 none rfl
 have hkeep : ∀ b, ¬ X1 X w.heap.size (some ⟨gg, 0, none⟩) b → b < w2.heap.size → (put7 w2 gg (i * 7) f).heap[b]? = w2.heap[b]? ∧ ¬ X1 X w.heap.size (some ⟨gg, 0, none⟩) b := fun b hx _ => ⟨put7_block _ _ _ _ _ (fun e => hx (.inr (.inr (.inr (by rw [e]))))), hx⟩
 have hkeep1 : ∀ b, ¬ X1 X w.heap.size (some ⟨gg, 0, none⟩) b → b < wr.heap.size → (put7 w2 gg (i * 7) f).heap[b]? = wr.heap[b]? ∧ ¬ X1 X w.heap.size (some ⟨gg, 0, none⟩) b := fun b hx hlt => ⟨by rw [(hkeep b hx (Nat.lt_of_lt_of_le hlt hb.size)).1, hb.block b hlt], hx⟩
 have hll : (JV.mk k n g e0 t (l.set i x) ks).list.length = l.length := by simp [JV.list]
 refine ⟨?_, ?_, h.keys.carry hkeep1, ?_, ?_, ?_, ?_⟩
 ·intro k' n' g' e' t' l' ks' hv
  cases hv
  have hc := h.box k n g e0 t l ks rfl
  rw [List.length_set]
  exact (hc.below hb hc.lt).blk (put7_block _ _ _ _ _ (by omega))
 ·exact (h.res.below hb h.res.lt).blk (put7_block _ _ _ _ _ (by omega))
 ·exact put7_below (bl_t h.bel hb) (by omega)
 ·intro b o s e
  obtain ⟨a1, a2, a3, a4⟩ := h.fresh b o s e
  exact ⟨a1, a2, a3, by rw [put7_size]; exact Nat.lt_of_lt_of_le a4 hb.size⟩
 ·rw [hll]; exact h.cap
 ·obtain ⟨G, hO, hr⟩ := h.row
  have hO1 : wr.ownsRow (w.heap.size + 2) 28 7 (.slice (some ⟨gg, 0, none⟩) l.length lc) l.length (rowG G l.length) := hO
  have hO2 : w2.ownsRow (w.heap.size + 2) 28 7 (.slice (some ⟨gg, 0, none⟩) l.length lc) l.length (rowG G l.length) := World.ownsRow.kept (row := none) hO1 ⟨hb.os, hb.tape, hb.output, hb.size, fun q hq _ => hb.block q hq⟩ (.inr (by simp [Value.ownBlock]))
  refine ⟨fun a b => if a = i then (if b < 7 then f b else G a b) else G a b, by rw [hll]; exact put7_own hO2, fun j hj => ?_⟩
  have hj' : j < l.length := by simpa [JV.list] using hj
  by_cases e : j = i
  ·subst e
   have hx : (JV.mk k n g e0 t (l.set j x) ks).list[j] = x := by simp [JV.list]
   rw [hx]
   exact (hf.carry hkeep).congr (fun q hq => by simp [hq])
  ·have hx : (JV.mk k n g e0 t (l.set i x) ks).list[j] = l[j] := by
    exact List.getElem_set_ne (fun h => e h.symm) hj
   rw [hx]
   exact ((hr j hj').carry hkeep1).congr (fun q hq => by simp [e])
end Go.Proofs.YtjdboekanmfgpaaGreatDoor

namespace Go.Proofs.YtjdboekanmfgpaaGreatDoor
open Go.RowKit Go.Sort
attribute [local go_sem] setCell_drewN alloc_drewN

theorem may_keys {d : Nat} {k : Int} {n : Bool} {g : ByteArray} {e : Int} {t : ByteArray} {l : List JV} {ks : List ByteArray} (h : mayB d (.mk k n g e t l ks) = true) (hk : k ≠ 6) : ks = [] := by
 unfold mayB at h
 simp only [Bool.and_eq_true] at h
 have hf := h.2.1
 unfold fitB at hf
 simp only [Bool.and_eq_true] at hf
 have ho := hf.2.2.1
 unfold othB at ho
 simp [hk] at ho
 exact List.length_eq_zero_iff.1 (by have := ho.1; simp at this ⊢; simp_all)
end Go.Proofs.YtjdboekanmfgpaaGreatDoor
