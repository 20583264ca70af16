/-
  What value.picked answers, of texts and of values: the elements at some places, in new memory. Conditions: at most 2^30 of them.
  What value.Sorted answers: the value with its keys sorted, down to the innermost, in new memory. Conditions: lists and texts of at most 2^30; the value may be.
  What value.Sorted answers: the value with its keys sorted, down to the innermost, in new memory. Conditions: lists and texts of at most 2^30; the value may be.
-/
import Derived.Test.YtjdboekanmfgpaaGreatDoorJoined36
import Derived.OwnWalk
import Derived.Test.YtjdboekanmfgpaaGreatDoorJoined32
import Derived.Test.YtjdboekanmfgpaaGreatDoorJoined33
namespace Go.Proofs.YtjdboekanmfgpaaGreatDoor
open Go.RowKit Go.Lib Go.Sort
attribute [local go_sem] setCell_drewN alloc_drewN

theorem rowG_congr {G G' : Nat → Nat → Value} {n : Nat} (h : ∀ a b, a < n → b < 7 → G a b = G' a b) : rowG G n = rowG G' n := by
  unfold rowG
  refine List.map_congr_left fun j hj => ?_
  have := List.mem_range.1 hj
  exact h _ _ (by omega) (by omega)
theorem made_J (n : Nat) : (madeCells (Value.agg #[.int .i64 0, .bool false, .string ⟨#[]⟩, .int .i64 0, .string ⟨#[]⟩, .slice none 0 0, .slice none 0 0]).cells (n * 7)).toList = rowG (fun _ j => zvF j) n := by
  unfold madeCells rowG
  rw [Array.toList_map, Array.toList_range]
  refine List.map_congr_left fun j _ => ?_
  have h : (Value.agg #[.int .i64 0, .bool false, .string ⟨#[]⟩, .int .i64 0, .string ⟨#[]⟩, .slice none 0 0, .slice none 0 0]).cells = #[.int .i64 0, .bool false, .string ⟨#[]⟩, .int .i64 0, .string ⟨#[]⟩, .slice none 0 0, .slice none 0 0] := by rfl
  rw [h]
  have : j % 7 = 0 ∨ j % 7 = 1 ∨ j % 7 = 2 ∨ j % 7 = 3 ∨ j % 7 = 4 ∨ j % 7 = 5 ∨ j % 7 = 6 := by omega
  show (#[Value.int .i64 0, .bool false, .string ⟨#[]⟩, .int .i64 0, .string ⟨#[]⟩, .slice none 0 0, .slice none 0 0] : Array Value)[j % 7]! = zvF (j % 7)
  rcases this with h | h | h | h | h | h | h <;> rw [h] <;> rfl
theorem wpList_make_J {w : World} {ops : Array Oper} {rest : List Oper} {o : Oper} {a : Act} {Q : Exit → Act → World → Prop} (hg : o.guard = none) (l c : Operand) (hop : o.op = Op.makeSlice 25 l c) (B n : Nat) (hl : a.eval l = .int .i64 (n : Int)) (hc : a.eval c = .int .i64 (n : Int)) (hn : n ≤ 1099511627776) (hB : B ≤ w.heap.size)
    (h : ∀ w', w'.ownsRow B 28 7 (.slice (some ⟨w.heap.size, 0, none⟩) n n) n (rowG (fun _ j => zvF j) n) → w.grownBy w' none → wpList Tryz.prog ops Q rest (a.put o.dst (.slice (some ⟨w.heap.size, 0, none⟩) n n)) w') : wpList Tryz.prog ops Q (o :: rest) a w := by
  obtain ⟨i0, hi, hz0, hz1, hz2⟩ := info_parts infoV
  refine wpList_make_full w hg l c 25 hop B 28 i0 (.agg #[.int .i64 0, .bool false, .string ⟨#[]⟩, .int .i64 0, .string ⟨#[]⟩, .slice none 0 0, .slice none 0 0]) 7 Tryz.underlying25 hi hz0 hz1 .i64 .i64 (n : Int) (n : Int) n hl hc rfl rfl (by rw [hz2]; omega) (by unfold maxLen; omega) hB (fun w' k1 k2 => h w' ?_ k2)
  rw [made_J] at k1
  exact k1
theorem wpList_make_S {w : World} {ops : Array Oper} {rest : List Oper} {o : Oper} {a : Act} {Q : Exit → Act → World → Prop} (hg : o.guard = none) (l c : Operand) (hop : o.op = Op.makeSlice 26 l c) (B n : Nat) (hl : a.eval l = .int .i64 (n : Int)) (hc : a.eval c = .int .i64 (n : Int)) (hn : n ≤ 1099511627776) (hB : B ≤ w.heap.size)
    (h : ∀ w', w'.ownsRow B 9 1 (.slice (some ⟨w.heap.size, 0, none⟩) n n) n (List.replicate n (.string ⟨#[]⟩)) → w.grownBy w' none → wpList Tryz.prog ops Q rest (a.put o.dst (.slice (some ⟨w.heap.size, 0, none⟩) n n)) w') : wpList Tryz.prog ops Q (o :: rest) a w := by
  obtain ⟨i0, hi, hz0, hz1, hz2⟩ := info_parts infoS
  refine wpList_make_full w hg l c 26 hop B 9 i0 (.string ⟨#[]⟩) 1 Tryz.underlying26 hi hz0 hz1 .i64 .i64 (n : Int) (n : Int) n hl hc rfl rfl (by rw [hz2]; omega) (by unfold maxLen; omega) hB (fun w' k1 k2 => h w' ?_ k2)
  rw [Nat.mul_one, show (Value.string ⟨#[]⟩).cells = #[Value.string ⟨#[]⟩] from rfl, toList_madeCells_one] at k1
  exact k1
/-- The first texts picked. -/
def pkS (ks : List ByteArray) (ps : List Nat) (i : Nat) : List Value := (List.range ps.length).map fun a => .string (if a < i then dK ks (ps.getD a 0) else ⟨#[]⟩)
theorem pkS_0 (ks : List ByteArray) (ps : List Nat) : pkS ks ps 0 = List.replicate ps.length (.string ⟨#[]⟩) := by
  apply List.ext_getElem (by simp [pkS])
  intro i h1 h2
  simp [pkS]
theorem pkS_set (ks : List ByteArray) (ps : List Nat) (i : Nat) : (pkS ks ps i).set i (.string (dK ks (ps.getD i 0))) = pkS ks ps (i + 1) := by
  apply List.ext_getElem (by simp [pkS])
  intro j h1 h2
  rw [List.getElem_set]
  simp only [pkS, List.getElem_map, List.getElem_range]
  by_cases e : i = j
  · subst e; simp
  · rw [if_neg e]
    by_cases k : j < i
    · rw [if_pos k, if_pos (by omega)]
    · rw [if_neg k, if_neg (by omega)]
theorem pkS_all (ks : List ByteArray) (ps : List Nat) : pkS ks ps ps.length = (ps.map (dK ks)).map .string := by
  apply List.ext_getElem (by simp [pkS])
  intro j h1 h2
  have h : j < ps.length := by simpa using h2
  simp [pkS, h]

set_option maxRecDepth 100000 in
set_option maxHeartbeats 3200000 in
theorem pickS_any (ks : List ByteArray) (ko : Option Addr) (kc : Nat) (ps : List Nat) (pv : Value) (w : World) (hks : SI w (fun _ => False) ks (.slice ko ks.length kc)) (hps : II w (fun _ => False) (pI ps) pv) (hlt : ∀ p ∈ ps, p < ks.length) (hn : ps.length ≤ 1073741824) (hkn : ks.length ≤ 1073741824) :
    Calls Tryz.prog 45 #[.slice ko ks.length kc, pv] w fun r w' => ∃ g, r = .returned (.slice (some ⟨g, 0, none⟩) ps.length ps.length) ∧ w'.ownsRow w.heap.size 9 1 (.slice (some ⟨g, 0, none⟩) ps.length ps.length) ps.length ((ps.map (dK ks)).map .string) ∧ Below w.heap.size w w' := by
  obtain ⟨P, hP⟩ : ∃ P : Ending → World → Prop, P = fun r w' => ∃ g, r = .returned (.slice (some ⟨g, 0, none⟩) ps.length ps.length) ∧ w'.ownsRow w.heap.size 9 1 (.slice (some ⟨g, 0, none⟩) ps.length ps.length) ps.length ((ps.map (dK ks)).map .string) ∧ Below w.heap.size w w' := ⟨_, rfl⟩
  rw [← hP]
  have HP := hid_intro hP
  obtain ⟨po, pc, rfl, p1, p2, _, p4⟩ := hps
  rw [pI_len] at p1 p4 ⊢
  have HK : Hid (∀ i, i < ps.length → ∀ w', Below w.heap.size w w' → ∃ xb xo kb kof, po = some ⟨xb, xo, none⟩ ∧ ko = some ⟨kb, kof, none⟩ ∧ ps.getD i 0 < ks.length ∧ w'.cell? ⟨xb, xo + i, none⟩ = some (.int .i64 ((ps.getD i 0 : Nat) : Int)) ∧ w'.cell? ⟨kb, kof + ps.getD i 0, none⟩ = some (.string (dK ks (ps.getD i 0)))) := hid_intro (fun i hi w' hb => by
    have hne : pI ps ≠ [] := fun e => by
      have h0 : (pI ps).length = 0 := by rw [e]; rfl
      rw [pI_len] at h0
      omega
    obtain ⟨xb, xo, rfl, _, hx⟩ := p4.resolve_left hne
    have hpx := hx i hi
    rw [pI_at hi] at hpx
    have hjk : ps.getD i 0 < ks.length := hlt _ (by rw [List.getD_eq_getElem?_getD, List.getElem?_eq_getElem hi]; exact List.getElem_mem _)
    obtain ⟨ao', cap', ek, _, _, _, hk4⟩ := hks
    injection ek with ek1 _ _
    subst ek1
    obtain ⟨kb, kof, rfl, _, hkc⟩ := hk4.resolve_left (fun e => by rw [e] at hjk; exact absurd hjk (by simp))
    refine ⟨xb, xo, kb, kof, rfl, rfl, hjk, (hb.cell (p := ⟨xb, xo + i, none⟩) (World.block_lt_of_cell? w _ hpx)).trans hpx, (hb.cell (p := ⟨kb, kof + ps.getD i 0, none⟩) (World.block_lt_of_cell? w _ (hkc _ hjk))).trans ?_⟩
    have hd : dK ks (ps.getD i 0) = ks[ps.getD i 0] := by
      generalize ps.getD i 0 = j at *
      unfold dK
      simp [hjk]
    rw [hkc _ hjk, hd])
  have HN := hid_intro hn
  have hnI : (ps.length : Int) ≤ 1073741824 := by omega
  have hkI : (ks.length : Int) ≤ 1073741824 := by omega
  clear hP hks p1 p2 p4 hlt hn hkn
  go_enter Tryz.func45, Tryz.ntmps45
  go_wp2_with (at_make; refine wpList_make_S rfl _ _ rfl w.heap.size ps.length rfl rfl (by have := HN.out; omega) (Nat.le_refl _) ?_; intro w1 ho1 hg1; have HO1 := hid_intro ho1; have HB1 : Hid (Below w.heap.size w w1) := hid_intro ((Below.refl _ _).grown hg1 (Nat.le_refl _) (fun b e => by cases e)); clear ho1 hg1)
  go_loopg [12] ps.length (fun gg s12 wr => ∃ i : Nat, i ≤ ps.length ∧ gg = ps.length - i ∧ s12 = .int .i64 (i : Int) ∧ Hid (Below w.heap.size w wr) ∧ Hid (wr.ownsRow w.heap.size 9 1 (.slice (some ⟨w.heap.size, 0, none⟩) ps.length ps.length) ps.length (pkS ks ps i)))
  case atStart => exact ⟨0, Nat.zero_le _, rfl, rfl, HB1, hid_intro (by rw [pkS_0]; exact HO1.out)⟩
  case round =>
    clear HO1 HB1
    obtain ⟨i, hi, rfl, rfl, HB, HO⟩ := hrel
    by_cases h : i < ps.length
    · have hI : (i : Int) < (ps.length : Int) := by omega
      obtain ⟨xb, xo, kb, kof, rfl, rfl, hjk, c1, c2⟩ := HK.out i h wr HB.out
      have x0 : wr.cell? ⟨w.heap.size, i, none⟩ = some (.string ⟨#[]⟩) := by
        rw [HO.out.cellAt i (by omega)]
        simp [pkS, h]
      have y0 : wr.frozen? ⟨w.heap.size, i, none⟩ = false := HO.out.frozenAt i
      have hst := HO.out.stored i (.string (dK ks (ps.getD i 0)))
      rw [pkS_set] at hst
      have HST := hid_intro hst
      have HBB : Hid (Below w.heap.size w (wr.setCell ⟨w.heap.size, i, none⟩ (.string (dK ks (ps.getD i 0))))) := hid_intro (HB.out.setCell (Nat.le_refl _) _)
      obtain ⟨j, hj⟩ : ∃ j, ps.getD i 0 = j := ⟨_, rfl⟩
      rw [hj] at hjk c1 c2 HST HBB
      have hjI : (j : Int) < (ks.length : Int) := by omega
      have hj0 : (0 : Int) ≤ (j : Int) := by omega
      have hi0 : (0 : Int) ≤ (i : Int) := by omega
      have HH := hid_intro h
      generalize dK ks j = kj at *
      clear hst hj hjk
      go_wp2_with fail
      go_roundg (ps.length - (i + 1))
      case measure => have := HH.out; omega
      case rel => exact ⟨i + 1, HH.out, rfl, by go_num, HBB, hid_intro HST.out.1⟩
    · have hI : ¬ ((i : Int) < (ps.length : Int)) := by omega
      have he : i = ps.length := by omega
      have HO2 : Hid (wr.ownsRow w.heap.size 9 1 (.slice (some ⟨w.heap.size, 0, none⟩) ps.length ps.length) ps.length ((ps.map (dK ks)).map .string)) := hid_intro (by rw [← pkS_all, ← he]; have := HO.out; rw [← he] at this; exact this)
      go_wp2_with fail
      rw [HP.out]
      exact ⟨_, rfl, HO2.out, HB.out⟩
/-- The first values picked. -/
def pkG (G : Nat → Nat → Value) (ps : List Nat) (i : Nat) : Nat → Nat → Value := fun a b => if a < i then G (ps.getD a 0) b else zvF b
theorem pkG_step (G : Nat → Nat → Value) (ps : List Nat) (i n : Nat) : rowG (fun a b => if a = i then (if b < 7 then G (ps.getD i 0) b else pkG G ps i a b) else pkG G ps i a b) n = rowG (pkG G ps (i + 1)) n := by
  refine rowG_congr fun a b _ hb => ?_
  unfold pkG
  by_cases e : a = i
  · subst e
    simp [hb]
  · by_cases k : a < i
    · simp [e, k, show a < i + 1 by omega]
    · simp [e, k, show ¬ a < i + 1 by omega]

set_option maxRecDepth 100000 in
set_option maxHeartbeats 3200000 in
theorem pickV_any (l : List JV) (ao : Option Addr) (lc : Nat) (G : Nat → Nat → Value) (ps : List Nat) (pv : Value) (w : World) (hl : LI w (fun _ => False) l (.slice ao l.length lc) G) (hps : II w (fun _ => False) (pI ps) pv) (hlt : ∀ p ∈ ps, p < l.length) (hn : ps.length ≤ 1073741824) (hkn : l.length ≤ 1073741824) :
    Calls Tryz.prog 46 #[.slice ao l.length lc, pv] w fun r w' => ∃ g, r = .returned (.slice (some ⟨g, 0, none⟩) ps.length ps.length) ∧ w'.ownsRow w.heap.size 28 7 (.slice (some ⟨g, 0, none⟩) ps.length ps.length) ps.length (rowG (pkG G ps ps.length) ps.length) ∧ Below w.heap.size w w' := by
  obtain ⟨P, hP⟩ : ∃ P : Ending → World → Prop, P = fun r w' => ∃ g, r = .returned (.slice (some ⟨g, 0, none⟩) ps.length ps.length) ∧ w'.ownsRow w.heap.size 28 7 (.slice (some ⟨g, 0, none⟩) ps.length ps.length) ps.length (rowG (pkG G ps ps.length) ps.length) ∧ Below w.heap.size w w' := ⟨_, rfl⟩
  rw [← hP]
  have HP := hid_intro hP
  obtain ⟨po, pc, rfl, p1, p2, _, p4⟩ := hps
  rw [pI_len] at p1 p4 ⊢
  have HK : Hid (∀ i, i < ps.length → ∀ w', Below w.heap.size w w' → ∃ xb xo lb lof, po = some ⟨xb, xo, none⟩ ∧ ao = some ⟨lb, lof, none⟩ ∧ ps.getD i 0 < l.length ∧ w'.cell? ⟨xb, xo + i, none⟩ = some (.int .i64 ((ps.getD i 0 : Nat) : Int)) ∧ (∀ q, q < 7 → w'.cell? ⟨lb, lof + ps.getD i 0 * 7 + q, none⟩ = some (G (ps.getD i 0) q)) ∧
      ∃ k n g e t a m c ka km kc, G (ps.getD i 0) 0 = .int .i64 k ∧ G (ps.getD i 0) 1 = .bool n ∧ G (ps.getD i 0) 2 = .string g ∧ G (ps.getD i 0) 3 = .int .i64 e ∧ G (ps.getD i 0) 4 = .string t ∧ G (ps.getD i 0) 5 = .slice a m c ∧ G (ps.getD i 0) 6 = .slice ka km kc) := hid_intro (fun i hi w' hb => by
    have hne : pI ps ≠ [] := fun e => by
      have h0 : (pI ps).length = 0 := by rw [e]; rfl
      rw [pI_len] at h0
      omega
    obtain ⟨xb, xo, rfl, _, hx⟩ := p4.resolve_left hne
    have hpx := hx i hi
    rw [pI_at hi] at hpx
    have hjk : ps.getD i 0 < l.length := hlt _ (by rw [List.getD_eq_getElem?_getD, List.getElem?_eq_getElem hi]; exact List.getElem_mem _)
    obtain ⟨lb, lof, lc', el, hlb, hlc⟩ := hl.at hjk
    injection el with el1 _ _
    exact ⟨xb, xo, lb, lof, rfl, el1, hjk, (hb.cell (p := ⟨xb, xo + i, none⟩) (World.block_lt_of_cell? w _ hpx)).trans hpx, fun q hq => (hb.cell (p := ⟨lb, lof + ps.getD i 0 * 7 + q, none⟩) hlb).trans (hlc q hq), (hl.choose_spec.choose_spec.2.2.1 _ hjk).shape⟩)
  have HN := hid_intro hn
  have hnI : (ps.length : Int) ≤ 1073741824 := by omega
  have hkI : (l.length : Int) ≤ 1073741824 := by omega
  clear hP hl p1 p2 p4 hlt hn hkn
  go_enter Tryz.func46, Tryz.ntmps46
  go_wp2_with (at_make; refine wpList_make_J rfl _ _ rfl w.heap.size ps.length rfl rfl (by have := HN.out; omega) (Nat.le_refl _) ?_; intro w1 ho1 hg1; have HO1 := hid_intro ho1; have HB1 : Hid (Below w.heap.size w w1) := hid_intro ((Below.refl _ _).grown hg1 (Nat.le_refl _) (fun b e => by cases e)); clear ho1 hg1)
  go_loopg [12] ps.length (fun gg s12 wr => ∃ i : Nat, i ≤ ps.length ∧ gg = ps.length - i ∧ s12 = .int .i64 (i : Int) ∧ Hid (Below w.heap.size w wr) ∧ Hid (wr.ownsRow w.heap.size 28 7 (.slice (some ⟨w.heap.size, 0, none⟩) ps.length ps.length) ps.length (rowG (pkG G ps i) ps.length)))
  case atStart => exact ⟨0, Nat.zero_le _, rfl, rfl, HB1, hid_intro (by rw [show rowG (pkG G ps 0) ps.length = rowG (fun _ j => zvF j) ps.length from rowG_congr fun a b _ _ => by simp [pkG]]; exact HO1.out)⟩
  case round =>
    clear HO1 HB1
    obtain ⟨i, hi, rfl, rfl, HB, HO⟩ := hrel
    by_cases h : i < ps.length
    · have hI : (i : Int) < (ps.length : Int) := by omega
      obtain ⟨xb, xo, lb, lof, rfl, rfl, hjk, c1, c2, k', n', g', e', t', la, m', c', ka, km', kc2, f0, f1, f2, f3, f4, f5, f6⟩ := HK.out i h wr HB.out
      have hx : ∀ q, q < 7 → ∃ u, wr.cell? ⟨w.heap.size, i * 7 + q, none⟩ = some u := fun q hq => ⟨_, by
        have := World.ownsRow.cells HO.out (g := w.heap.size) rfl (i * 7 + q) _ (rowG_at _ ps.length i q h hq)
        rwa [add_at, Nat.zero_add] at this⟩
      obtain ⟨u0, x0⟩ := hx 0 (by omega)
      obtain ⟨u1, x1⟩ := hx 1 (by omega)
      obtain ⟨u2, x2⟩ := hx 2 (by omega)
      obtain ⟨u3, x3⟩ := hx 3 (by omega)
      obtain ⟨u4, x4⟩ := hx 4 (by omega)
      obtain ⟨u5, x5⟩ := hx 5 (by omega)
      obtain ⟨u6, x6⟩ := hx 6 (by omega)
      have x0 : wr.cell? ⟨w.heap.size, i * 7, none⟩ = some u0 := x0
      have y0 : wr.frozen? ⟨w.heap.size, i * 7, none⟩ = false := World.ownsRow.frozenAt HO.out _
      have y1 : wr.frozen? ⟨w.heap.size, i * 7 + 1, none⟩ = false := World.ownsRow.frozenAt HO.out _
      have y2 : wr.frozen? ⟨w.heap.size, i * 7 + 2, none⟩ = false := World.ownsRow.frozenAt HO.out _
      have y3 : wr.frozen? ⟨w.heap.size, i * 7 + 3, none⟩ = false := World.ownsRow.frozenAt HO.out _
      have y4 : wr.frozen? ⟨w.heap.size, i * 7 + 4, none⟩ = false := World.ownsRow.frozenAt HO.out _
      have y5 : wr.frozen? ⟨w.heap.size, i * 7 + 5, none⟩ = false := World.ownsRow.frozenAt HO.out _
      have y6 : wr.frozen? ⟨w.heap.size, i * 7 + 6, none⟩ = false := World.ownsRow.frozenAt HO.out _
      have hst := put7_own (f := G (ps.getD i 0)) (i := i) HO.out
      rw [pkG_step] at hst
      have hbb : Below w.heap.size w (put7 wr w.heap.size (i * 7) (G (ps.getD i 0))) := put7_below HB.out (Nat.le_refl _)
      unfold put7 at hst hbb
      have d0 : wr.cell? ⟨lb, lof + ps.getD i 0 * 7, none⟩ = some (G (ps.getD i 0) 0) := c2 0 (by omega)
      have d1 := c2 1 (by omega)
      have d2 := c2 2 (by omega)
      have d3 := c2 3 (by omega)
      have d4 := c2 4 (by omega)
      have d5 := c2 5 (by omega)
      have d6 := c2 6 (by omega)
      rw [f0] at d0 hst hbb
      rw [f1] at d1 hst hbb
      rw [f2] at d2 hst hbb
      rw [f3] at d3 hst hbb
      rw [f4] at d4 hst hbb
      rw [f5] at d5 hst hbb
      rw [f6] at d6 hst hbb
      have HST := hid_intro hst
      have HBB := hid_intro hbb
      obtain ⟨j, hj⟩ : ∃ j, ps.getD i 0 = j := ⟨_, rfl⟩
      rw [hj] at hjk c1 d0 d1 d2 d3 d4 d5 d6
      have hjI : (j : Int) < (l.length : Int) := by omega
      have hj0 : (0 : Int) ≤ (j : Int) := by omega
      have hi0 : (0 : Int) ≤ (i : Int) := by omega
      have HH := hid_intro h
      clear hst hbb hj hjk c2 hx f0 f1 f2 f3 f4 f5 f6
      go_wp2_with fail
      go_roundg (ps.length - (i + 1))
      case measure => have := HH.out; omega
      case rel => exact ⟨i + 1, HH.out, rfl, by go_num, HBB, HST⟩
    · have hI : ¬ ((i : Int) < (ps.length : Int)) := by omega
      have he : i = ps.length := by omega
      have HO2 : Hid (wr.ownsRow w.heap.size 28 7 (.slice (some ⟨w.heap.size, 0, none⟩) ps.length ps.length) ps.length (rowG (pkG G ps ps.length) ps.length)) := hid_intro (by rw [← he]; have := HO.out; rw [← he] at this; exact this)
      go_wp2_with fail
      rw [HP.out]
      exact ⟨_, rfl, HO2.out, HB.out⟩
end Go.Proofs.YtjdboekanmfgpaaGreatDoor

namespace Go.Proofs.YtjdboekanmfgpaaGreatDoor
open Go.RowKit Go.Sort
attribute [local go_sem] setCell_drewN alloc_drewN

/-- The first elements sorted. -/
def stp (l : List JV) (i : Nat) : List JV := l.mapIdx fun j x => if j < i then srt x else x
theorem stp_len (l : List JV) (i : Nat) : (stp l i).length = l.length := by simp [stp]
theorem stp_0 (l : List JV) : stp l 0 = l := by
 apply List.ext_getElem (by simp [stp])
 intro j h1 h2
 simp [stp]
theorem stp_all (l : List JV) : stp l l.length = l.map srt := by
 apply List.ext_getElem (by simp [stp])
 intro j h1 h2
 have h : j < l.length := by simpa using h2
 simp [stp, h]
theorem stp_at {l : List JV} {i : Nat} (h : i < l.length) : (stp l i)[i]'(by rw [stp_len]; exact h) = l[i] := by simp [stp]
theorem stp_set {l : List JV} {i : Nat} (h : i < l.length) : (stp l i).set i (srt l[i]) = stp l (i + 1) := by
 apply List.ext_getElem (by simp [stp])
 intro j h1 h2
 rw [List.getElem_set]
 by_cases e : i = j
 ·subst e
  simp [stp]
 ·rw [if_neg e]
  simp only [stp, List.getElem_mapIdx]
  by_cases k : j < i
  ·rw [if_pos k, if_pos (by omega)]
  ·rw [if_neg k, if_neg (by omega)]
/-- A round that stores another value. -/
theorem cp_step_set {w wr w2 : World} {X : Nat → Prop} {k : Int} {n : Bool} {g : ByteArray} {e0 : Int} {t : ByteArray} {l : List JV} {ks : List ByteArray} {gg lc : Nat} {kv : Value} {i : Nat} {f : Nat → Value} {x : JV} (h : CpR w X (.mk k n g e0 t l ks) (some ⟨gg, 0, none⟩) lc kv wr) (hi : i < l.length) (hb : Below wr.heap.size wr w2)
  (hf : VI w2 (X1 X w.heap.size (some ⟨gg, 0, none⟩)) x f) : CpR w X (.mk k n g e0 t (l.set i x) ks) (some ⟨gg, 0, none⟩) lc kv (put7 w2 gg (i * 7) f) := by
 obtain ⟨_, _, hg2, hglt⟩ := h.fresh gg 0 none rfl
 have hkeep : ∀ b, ¬ X1 X w.heap.size (some ⟨gg, 0, none⟩) b → b < w2.heap.size → (put7 w2 gg (i * 7) f).heap[b]? = w2.heap[b]? ∧ ¬ X1 X w.heap.size (some ⟨gg, 0, none⟩) b := fun b hx _ => ⟨put7_block _ _ _ _ _ (fun e => hx (.inr (.inr (.inr (by rw [e]))))), hx⟩
 have hkeep1 : ∀ b, ¬ X1 X w.heap.size (some ⟨gg, 0, none⟩) b → b < wr.heap.size → (put7 w2 gg (i * 7) f).heap[b]? = wr.heap[b]? ∧ ¬ X1 X w.heap.size (some ⟨gg, 0, none⟩) b := fun b hx hlt => ⟨by rw [(hkeep b hx (Nat.lt_of_lt_of_le hlt hb.size)).1, hb.block b hlt], hx⟩
 have hll : (JV.mk k n g e0 t (l.set i x) ks).list.length = l.length := by simp [JV.list]
 refine ⟨?_, ?_, h.keys.carry hkeep1, ?_, ?_, ?_, ?_⟩
 ·intro k' n' g' e' t' l' ks' hv
  cases hv
  have hc := h.box k n g e0 t l ks rfl
  rw [List.length_set]
  exact (hc.below hb hc.lt).blk (put7_block _ _ _ _ _ (by omega))
 ·exact (h.res.below hb h.res.lt).blk (put7_block _ _ _ _ _ (by omega))
 ·exact put7_below (bl_t h.bel hb) (by omega)
 ·intro b o s e
  obtain ⟨a1, a2, a3, a4⟩ := h.fresh b o s e
  exact ⟨a1, a2, a3, by rw [put7_size]; exact Nat.lt_of_lt_of_le a4 hb.size⟩
 ·rw [hll]; exact h.cap
 ·obtain ⟨G, hO, hr⟩ := h.row
  have hO1 : wr.ownsRow (w.heap.size + 2) 28 7 (.slice (some ⟨gg, 0, none⟩) l.length lc) l.length (rowG G l.length) := hO
  have hO2 : w2.ownsRow (w.heap.size + 2) 28 7 (.slice (some ⟨gg, 0, none⟩) l.length lc) l.length (rowG G l.length) := World.ownsRow.kept (row := none) hO1 ⟨hb.os, hb.tape, hb.output, hb.size, fun q hq _ => hb.block q hq⟩ (.inr (by simp [Value.ownBlock]))
  refine ⟨fun a b => if a = i then (if b < 7 then f b else G a b) else G a b, by rw [hll]; exact put7_own hO2, fun j hj => ?_⟩
  have hj' : j < l.length := by simpa [JV.list] using hj
  by_cases e : j = i
  ·subst e
   have hx : (JV.mk k n g e0 t (l.set j x) ks).list[j] = x := by simp [JV.list]
   rw [hx]
   exact (hf.carry hkeep).congr (fun q hq => by simp [hq])
  ·have hx : (JV.mk k n g e0 t (l.set i x) ks).list[j] = l[j] := by
    exact List.getElem_set_ne (fun h => e h.symm) hj
   rw [hx]
   exact ((hr j hj').carry hkeep1).congr (fun q hq => by simp [e])
end Go.Proofs.YtjdboekanmfgpaaGreatDoor

namespace Go.Proofs.YtjdboekanmfgpaaGreatDoor
open Go.RowKit Go.Sort
attribute [local go_sem] setCell_drewN alloc_drewN

theorem may_keys {d : Nat} {k : Int} {n : Bool} {g : ByteArray} {e : Int} {t : ByteArray} {l : List JV} {ks : List ByteArray} (h : mayB d (.mk k n g e t l ks) = true) (hk : k ≠ 6) : ks = [] := by
 unfold mayB at h
 simp only [Bool.and_eq_true] at h
 have hf := h.2.1
 unfold fitB at hf
 simp only [Bool.and_eq_true] at hf
 have ho := hf.2.2.1
 unfold othB at ho
 simp [hk] at ho
 exact List.length_eq_zero_iff.1 (by have := ho.1; simp at this ⊢; simp_all)
end Go.Proofs.YtjdboekanmfgpaaGreatDoor
