/-
  What pointer.Find answers: a copy of what stands where. Conditions: lists of at most 2^30; at most 2^40 bytes.
-/
import Derived.Test.YtkbkedknoahhgaaDoorJoined26
namespace Go.Proofs.YtkbkedknoahhgaaDoor
open Go.RowKit
attribute [local go_sem] setCell_drewN alloc_drewN

theorem parts_bd (n : Nat) : ∀ (l : List UInt8) (xs : List (List UInt8)), l.length ≤ n → partsL l = some xs → (∀ x ∈ xs, x.length ≤ l.length) ∧ xs.length ≤ l.length := by
  induction n with
  | zero =>
    intro l xs hl h
    cases l with
    | nil => rw [partsL_nil] at h; injection h with h; subst h; simp
    | cons c t => simp at hl
  | succ n ih =>
    intro l xs hl h
    cases l with
    | nil => rw [partsL_nil] at h; injection h with h; subst h; simp
    | cons c t =>
      rw [partsL_cons] at h
      simp only [List.length_cons] at hl ⊢
      have hsuf := (List.dropWhile_suffix (fun x : UInt8 => x != 47) (l := t)).length_le
      have hpre := (List.takeWhile_prefix (fun x : UInt8 => x != 47) (l := t)).length_le
      cases hd : decL 126 1 mT (t.takeWhile (· != 47)) with
      | none => rw [hd] at h; cases h
      | some q =>
        have hq := decL_len _ _ _ (Nat.le_refl _) hd
        rw [hd] at h
        simp only [Option.bind_some] at h
        cases hp : partsL (t.dropWhile (· != 47)) with
        | none => rw [hp] at h; cases h
        | some ys =>
          rw [hp] at h
          simp only [Option.map_some, Option.some.injEq] at h
          subst h
          have := ih _ _ (by omega) hp
          refine ⟨fun x hx => ?_, by simp only [List.length_cons]; omega⟩
          rcases List.mem_cons.1 hx with rfl | hx
          · omega
          · have := this.1 x hx; omega
theorem parse_bd {l : List UInt8} {xs : List (List UInt8)} (h : parseL l = some xs) : (∀ x ∈ xs, x.length ≤ l.length) ∧ xs.length ≤ l.length := by
  unfold parseL at h
  split at h
  · exact parts_bd _ l xs (Nat.le_refl _) h
  · cases h
/-- Blocks that Find writes. -/
def XB (X : Nat → Prop) (B : Nat) (b : Nat) : Prop := X b ∨ b = B ∨ b = B + 1
/-- What Find keeps from round to round. -/
structure FnR (X : Nat → Prop) (w : World) (v : JV) (ps : List (List UInt8)) (pv : Value) (i : Nat) (wr : World) : Prop where
  res : C7 wr (w.heap.size + 1) (.int .i64 0) (.bool false) (.string ⟨#[]⟩) (.int .i64 0) (.string ⟨#[]⟩) (.slice none 0 0) (.slice none 0 0)
  bel : Below w.heap.size w wr
  own : OwnS wr (w.heap.size + 2) pv ps
  now : ∃ u f, Sm u ∧ VI wr (XB X w.heap.size) u f ∧ C7 wr w.heap.size (f 0) (f 1) (f 2) (f 3) (f 4) (f 5) (f 6) ∧ findJ v ps = findJ u (ps.drop i)
theorem C7.put {w : World} {b : Nat} {x0 x1 x2 x3 x4 x5 x6 : Value} (h : C7 w b x0 x1 x2 x3 x4 x5 x6) (f : Nat → Value) : C7 (put7 w b 0 f) b (f 0) (f 1) (f 2) (f 3) (f 4) (f 5) (f 6) := by
  obtain ⟨a0, a1, a2, a3, a4, a5, a6, q0, q1, q2, q3, q4, q5, q6⟩ := h
  unfold put7
  constructor <;> simp [go_sem, *]
theorem fn_next {X : Nat → Prop} {w w2 : World} {v u : JV} {ps : List (List UInt8)} {pv : Value} {i : Nat} {f : Nat → Value} {x0 x1 x2 x3 x4 x5 x6 : Value}
    (hres : C7 w2 (w.heap.size + 1) (.int .i64 0) (.bool false) (.string ⟨#[]⟩) (.int .i64 0) (.string ⟨#[]⟩) (.slice none 0 0) (.slice none 0 0)) (hbel : Below w.heap.size w w2) (hown : OwnS w2 (w.heap.size + 2) pv ps) (hbox : C7 w2 w.heap.size x0 x1 x2 x3 x4 x5 x6)
    (hs : Sm u) (hv : VI w2 (XB X w.heap.size) u f) (hf : findJ v ps = findJ u (ps.drop i)) : FnR X w v ps pv i (put7 w2 w.heap.size 0 f) := by
  refine ⟨hres.blk (put7_block _ _ _ _ _ (by omega)), put7_below hbel (Nat.le_refl _), ?_, u, f, hs, ?_, hbox.put f, hf⟩
  · refine World.ownsRow.kept (row := some w.heap.size) hown ⟨(put7_below (Below.refl 0 w2) (Nat.zero_le _)).os, (put7_below (Below.refl 0 w2) (Nat.zero_le _)).tape, (put7_below (Below.refl 0 w2) (Nat.zero_le _)).output, by rw [put7_size]; exact Nat.le_refl _, fun q _ hne => put7_block _ _ _ _ _ (fun e => hne (by rw [e]))⟩ ?_
    right
    intro e
    have := (World.ownsRow.lt hown _ e).1
    omega
  · exact hv.carry fun b hx _ => ⟨put7_block _ _ _ _ _ (fun e => hx (.inr (.inl e))), hx⟩
theorem findJ_step {u : JV} {p : List UInt8} {ps : List (List UInt8)} {j : Nat} (h : plc u p = some (j : Int)) (hj : j < u.list.length) : findJ u (p :: ps) = findJ u.list[j] ps := by
  rw [findJ, h]
  simp only [Int.toNat_natCast]
  rw [List.getD_eq_getElem?_getD, List.getElem?_eq_getElem hj]; rfl
theorem findJ_none {u : JV} {p : List UInt8} {ps : List (List UInt8)} (h : plc u p = none) : findJ u (p :: ps) = none := by rw [findJ, h]

theorem VI.elem {w : World} {X : Nat → Prop} {u : JV} {f : Nat → Value} (h : VI w X u f) {j : Nat} (hj : j < u.list.length) : ∃ (b off c : Nat) (Gj : Nat → Value), f 5 = .slice (some ⟨b, off, none⟩) u.list.length c ∧ u.list.length ≤ c ∧ c ≤ maxLen ∧ (∀ q, q < 7 → w.cell? ⟨b, off + j * 7 + q, none⟩ = some (Gj q)) ∧ VI w X u.list[j] Gj := by
  cases h with
  | @mk k n g e t l ks _ ao cap G f0 f1 f2 f3 f4 f5 f6 hc hs hw hl hr =>
    have hj' : j < l.length := hj
    rcases hl with hl | ⟨b, off, h1, _, h3⟩
    · rw [hl] at hj'; exact absurd hj' (by simp)
    · subst h1
      exact ⟨b, off, cap, G j, f5, hc.1, hc.2, fun q hq => h3 j hj' q hq, hr j hj'⟩

set_option maxRecDepth 100000 in
set_option maxHeartbeats 1600000 in
theorem find_x (v : JV) (f : Nat → Value) (s : ByteArray) (w : World) (X : Nat → Prop) (hX : ∀ b, X b → b < w.heap.size) (hv : VI w X v f) (hs : Sm v) (hp : s.size ≤ 1099511627776) :
    Calls Tryd.prog 8 #[.agg #[f 0, f 1, f 2, f 3, f 4, f 5, f 6], .string s] w fun r w' => ∃ f', r = .returned (.tuple #[.agg #[f' 0, f' 1, f' 2, f' 3, f' 4, f' 5, f' 6], .int .i64 (findR v s.data.toList).2]) ∧ VI w' X (findR v s.data.toList).1 f' ∧ Below w.heap.size w w' := by
  obtain ⟨k, n, g, e, t, la, lm, lc, ka, km, kc, f0, f1, f2, f3, f4, f5, f6⟩ := hv.shape
  rw [f0, f1, f2, f3, f4, f5, f6]
  have hCn := C7.new w (.int .i64 k) (.bool n) (.string g) (.int .i64 e) (.string t) (.slice la lm lc) (.slice ka km kc) 28
  have hRn := C7.new (w.alloc (.cells #[.int .i64 k, .bool n, .string g, .int .i64 e, .string t, .slice la lm lc, .slice ka km kc] 28)) (.int .i64 0) (.bool false) (.string ⟨#[]⟩) (.int .i64 0) (.string ⟨#[]⟩) (.slice none 0 0) (.slice none 0 0) 28
  have hbW : Below w.heap.size w ((w.alloc (.cells #[.int .i64 k, .bool n, .string g, .int .i64 e, .string t, .slice la lm lc, .slice ka km kc] 28)).alloc (.cells #[.int .i64 0, .bool false, .string ⟨#[]⟩, .int .i64 0, .string ⟨#[]⟩, .slice none 0 0, .slice none 0 0] 28)) := bl_a (bl_a (Below.refl _ _) _) _
  have hsW : ((w.alloc (.cells #[.int .i64 k, .bool n, .string g, .int .i64 e, .string t, .slice la lm lc, .slice ka km kc] 28)).alloc (.cells #[.int .i64 0, .bool false, .string ⟨#[]⟩, .int .i64 0, .string ⟨#[]⟩, .slice none 0 0, .slice none 0 0] 28)).heap.size = w.heap.size + 2 := by simp
  have hC := hCn.al (.cells #[.int .i64 0, .bool false, .string ⟨#[]⟩, .int .i64 0, .string ⟨#[]⟩, .slice none 0 0, .slice none 0 0] 28)
  have hR : C7 ((w.alloc (.cells #[.int .i64 k, .bool n, .string g, .int .i64 e, .string t, .slice la lm lc, .slice ka km kc] 28)).alloc (.cells #[.int .i64 0, .bool false, .string ⟨#[]⟩, .int .i64 0, .string ⟨#[]⟩, .slice none 0 0, .slice none 0 0] 28)) (w.heap.size + 1) (.int .i64 0) (.bool false) (.string ⟨#[]⟩) (.int .i64 0) (.string ⟨#[]⟩) (.slice none 0 0) (.slice none 0 0) := by simpa using hRn
  clear hCn hRn
  generalize hW : (w.alloc (.cells #[.int .i64 k, .bool n, .string g, .int .i64 e, .string t, .slice la lm lc, .slice ka km kc] 28)).alloc (.cells #[.int .i64 0, .bool false, .string ⟨#[]⟩, .int .i64 0, .string ⟨#[]⟩, .slice none 0 0, .slice none 0 0] 28) = W at *
  have hvW : VI W (XB X w.heap.size) v f := hv.carry fun b hx hlt => ⟨hbW.block b hlt, by rintro (h | h | h); exact hx h; omega; omega⟩
  have hpa := parse_own s W hp
  cases hpl : parseL s.data.toList with
  | none =>
    rw [hpl] at hpa
    simp only [errP, Option.getD_none] at hpa
    have HE : Hid (findR v s.data.toList = (zeroJ, 70)) := by show _ = _; rw [findR, hpl]
    have HR : Hid (∀ w', Below W.heap.size W w' → C7 w' (w.heap.size + 1) (.int .i64 0) (.bool false) (.string ⟨#[]⟩) (.int .i64 0) (.string ⟨#[]⟩) (.slice none 0 0) (.slice none 0 0)) := fun w' hb => hR.below hb hR.lt
    clear hC hR hvW hv f0 f1 f2 f3 f4 f5 f6 hpl
    go_enter Tryd.func8, Tryd.ntmps8
    go_wp2_with fail
    refine hpa.mono ?_
    rintro r w1 ⟨pv, rfl, _, hb1⟩
    obtain ⟨a0, a1, a2, a3, a4, a5, a6, q0, q1, q2, q3, q4, q5, q6⟩ := HR.out w1 hb1
    have hbel := bl_t hbW hb1
    clear hpa HR
    go_wp2
    refine bodyPost_ret (v := .tuple #[.agg #[.int .i64 0, .bool false, .string ⟨#[]⟩, .int .i64 0, .string ⟨#[]⟩, .slice none 0 0, .slice none 0 0], .int .i64 70]) (by simp [results, Tryd.results8, go_sem, *]) rfl ⟨zf, by rw [HE.out]; rfl, by rw [HE.out]; exact zeroVI _ _, ?_⟩
    with_reducible repeat (first | exact hbel | refine bl_s ?_ (Nat.le_succ _) _)
  | some ps =>
    rw [hpl] at hpa
    simp only [errP, Option.getD_some] at hpa
    obtain ⟨pb1, pb2⟩ := parse_bd hpl
    rw [len_of] at pb1 pb2
    have hpsI : (ps.length : Int) ≤ 1099511627776 := by omega
    have HR : Hid (∀ w' pv, Below W.heap.size W w' → OwnS w' W.heap.size pv ps → FnR X w v ps pv 0 w') := fun w' pv hb ho => ⟨hR.below hb hR.lt, bl_t hbW hb, by rw [← hsW]; exact ho, v, f, hs, hvW.kept hb, by rw [f0, f1, f2, f3, f4, f5, f6]; exact hC.below hb hC.lt, rfl⟩
    have HFR : Hid (findR v s.data.toList = match findJ v ps with | none => (zeroJ, 71) | some u => (u, 0)) := by show _ = _; simp only [findR, hpl]; cases findJ v ps <;> rfl
    have HPB : Hid (∀ x ∈ ps, x.length ≤ 1099511627776) := fun x hx => Nat.le_trans (pb1 x hx) hp
    clear hC hR hvW hv f0 f1 f2 f3 f4 f5 f6 hpl pb1 pb2 hbW hsW
    go_enter Tryd.func8, Tryd.ntmps8
    go_wp2_with fail
    refine hpa.mono ?_
    rintro r w1 ⟨pv, rfl, hown, hb1⟩
    have HF0 : Hid (FnR X w v ps pv 0 w1) := HR.out w1 pv hb1 hown
    obtain ⟨pa, pc, rfl⟩ := (SRow.of_own hown).shape
    clear hpa HR hown hb1
    go_wp2_with fail
    go_loopw [23] (fun tv wr => ∃ i : Nat, i ≤ ps.length ∧ tv = .int .i64 i ∧ Hid (FnR X w v ps (.slice pa ps.length pc) i wr)) (fun tv _ => ps.length - (intOf tv).toNat)
    case atStart => exact ⟨0, Nat.zero_le _, rfl, HF0⟩
    case round =>
      obtain ⟨i, hi, rfl, HK⟩ := hrel
      clear HF0
      obtain ⟨hres, hbel, hown, u, fu, hsu, hvu, hbox, hfj⟩ := HK.out
      clear HK
      obtain ⟨k', n', g', e', t', la', lm', lc', ka', km', kc', y0, y1, y2, y3, y4, y5, y6⟩ := hvu.shape
      rw [y0, y1, y2, y3, y4, y5, y6] at hbox
      by_cases hlt : i < ps.length
      · have hI : (i : Int) < (ps.length : Int) := by omega
        obtain ⟨b, off, rfl, hcc⟩ := (SRow.of_own hown).lies (fun e => by rw [e] at hlt; exact absurd hlt (by simp))
        have hcell := hcc i _ (List.getElem?_eq_getElem hlt)
        have hpc := placeOf_any u fu (XB X w.heap.size) (bs ps[i]) wr hvu hsu (by rw [bs_size]; exact HPB.out _ (List.getElem_mem hlt))
        rw [y0, y1, y2, y3, y4, y5, y6, bs_list] at hpc
        rw [List.drop_eq_getElem_cons hlt] at hfj
        clear hcc HPB
        generalize ps[i] = x at *
        generalize hxs : bs x = xb at *
        cases hplc : plc u x with
        | none =>
          rw [hplc] at hpc
          simp only [nbV] at hpc
          rw [findJ_none hplc] at hfj
          have HE : Hid (findR v s.data.toList = (zeroJ, 71)) := by show _ = _; rw [HFR.out, hfj]
          have HRE : Hid (∀ w', Below wr.heap.size wr w' → C7 w' (w.heap.size + 1) (.int .i64 0) (.bool false) (.string ⟨#[]⟩) (.int .i64 0) (.string ⟨#[]⟩) (.slice none 0 0) (.slice none 0 0)) := fun w' hb => hres.below hb hres.lt
          obtain ⟨a0, a1, a2, a3, a4, a5, a6, q0, q1, q2, q3, q4, q5, q6⟩ := hbox
          clear hfj hres hown hvu y0 y1 y2 y3 y4 y5 y6 HFR hplc hxs
          go_wp2_with fail
          refine hpc.mono ?_
          rintro r w2 ⟨rfl, hb2⟩
          have hbel2 := bl_t hbel hb2
          clear a0 a1 a2 a3 a4 a5 a6 q0 q1 q2 q3 q4 q5 q6 hpc hcell
          obtain ⟨a0, a1, a2, a3, a4, a5, a6, q0, q1, q2, q3, q4, q5, q6⟩ := HRE.out w2 hb2
          clear HRE hb2
          go_wp2
          refine bodyPost_ret (v := .tuple #[.agg #[.int .i64 0, .bool false, .string ⟨#[]⟩, .int .i64 0, .string ⟨#[]⟩, .slice none 0 0, .slice none 0 0], .int .i64 71]) (by simp [results, Tryd.results8, go_sem, *]) rfl ⟨zf, by rw [HE.out]; rfl, by rw [HE.out]; exact zeroVI _ _, ?_⟩
          with_reducible repeat (first | exact hbel2 | refine bl_s ?_ (Nat.le_succ _) _)
        | some i0 =>
          obtain ⟨i00, i01⟩ := plc_bd hplc
          obtain ⟨j, rfl⟩ : ∃ j : Nat, i0 = (j : Int) := ⟨i0.toNat, by omega⟩
          have hj : j < u.list.length := by omega
          rw [hplc] at hpc
          simp only [nbV] at hpc
          rw [findJ_step hplc hj] at hfj
          obtain ⟨lb, lo, c, Gj, h5, hlc, hcm, hce, hvj⟩ := hvu.elem hj
          rw [y5] at h5
          injection h5 with h5a h5b h5c
          subst h5a h5b h5c
          obtain ⟨k2, n2, g2, e2, t2, la2, lm2, lc2, ka2, km2, kc2, z0, z1, z2, z3, z4, z5, z6⟩ := hvj.shape
          have hblt : lb < wr.heap.size := World.block_lt_of_cell? wr _ (hce 0 (by omega))
          have HG : Hid (∀ w2, Below wr.heap.size wr w2 → ∀ q, q < 7 → w2.cell? ⟨lb, lo + j * 7 + q, none⟩ = some (Gj q)) := fun w2 hb q hq => by rw [hb.cell (p := ⟨lb, lo + j * 7 + q, none⟩) hblt]; exact hce q hq
          have HBX : Hid (∀ w2, Below wr.heap.size wr w2 → C7 w2 w.heap.size (.int .i64 k') (.bool n') (.string g') (.int .i64 e') (.string t') (.slice (some ⟨lb, lo, none⟩) u.list.length lc') (.slice ka' km' kc')) := fun w2 hb => hbox.below hb hbox.lt
          have HNX : Hid (∀ w2, Below wr.heap.size wr w2 → FnR X w v ps (.slice (some ⟨b, off, none⟩) ps.length pc) (i + 1) (put7 w2 w.heap.size 0 Gj)) := fun w2 hb => fn_next (hres.below hb hres.lt) (bl_t hbel hb) (hown.below hb) (hbox.below hb hbox.lt) (hsu.get j hj) (hvj.kept hb) hfj
          have hjI : (j : Int) < (u.list.length : Int) := by omega
          have hjI0 : (0 : Int) ≤ (j : Int) := by omega
          obtain ⟨a0, a1, a2, a3, a4, a5, a6, q0, q1, q2, q3, q4, q5, q6⟩ := hbox
          clear hfj hres hown hvu y0 y1 y2 y3 y4 y5 y6 HFR hplc hxs hvj hce hbel hsu i00 i01
          go_wp2_with fail
          refine hpc.mono ?_
          rintro r w2 ⟨rfl, hb2⟩
          clear a0 a1 a2 a3 a4 a5 a6 q0 q1 q2 q3 q4 q5 q6 hpc hcell
          obtain ⟨a0, a1, a2, a3, a4, a5, a6, q0, q1, q2, q3, q4, q5, q6⟩ := HBX.out w2 hb2
          have x0 : w2.cell? ⟨lb, lo + j * 7, none⟩ = some (Gj 0) := HG.out w2 hb2 0 (by omega)
          have x1 := HG.out w2 hb2 1 (by omega)
          have x2 := HG.out w2 hb2 2 (by omega)
          have x3 := HG.out w2 hb2 3 (by omega)
          have x4 := HG.out w2 hb2 4 (by omega)
          have x5 := HG.out w2 hb2 5 (by omega)
          have x6 := HG.out w2 hb2 6 (by omega)
          rw [z0] at x0
          rw [z1] at x1
          rw [z2] at x2
          rw [z3] at x3
          rw [z4] at x4
          rw [z5] at x5
          rw [z6] at x6
          have hnx := HNX.out w2 hb2
          unfold put7 at hnx
          simp only [Nat.zero_add] at hnx
          rw [z0, z1, z2, z3, z4, z5, z6] at hnx
          have HN2 : Hid (FnR X w v ps (.slice (some ⟨b, off, none⟩) ps.length pc) (i + 1) (((((((w2.setCell ⟨w.heap.size, 0, none⟩ (.int .i64 k2)).setCell ⟨w.heap.size, 1, none⟩ (.bool n2)).setCell ⟨w.heap.size, 2, none⟩ (.string g2)).setCell ⟨w.heap.size, 3, none⟩ (.int .i64 e2)).setCell ⟨w.heap.size, 4, none⟩ (.string t2)).setCell ⟨w.heap.size, 5, none⟩ (.slice la2 lm2 lc2)).setCell ⟨w.heap.size, 6, none⟩ (.slice ka2 km2 kc2))) := hnx
          clear hnx HNX HG HBX hb2 z0 z1 z2 z3 z4 z5 z6
          go_wp2_with fail
          go_roundw
          case rel => exact ⟨i + 1, by omega, by go_num, HN2⟩
          case measure => simp [intOf]; omega
      · have hI : ¬ (i : Int) < (ps.length : Int) := by omega
        have hfin : findJ v ps = some u := by rw [hfj, List.drop_eq_nil_of_le (by omega)]; rfl
        have HE : Hid (findR v s.data.toList = (u, 0)) := by show _ = _; rw [HFR.out, hfin]
        have hcp := copied_any u hsu fu wr (XB X w.heap.size) (fun b hb => by rcases hb with hb | rfl | rfl; exact Nat.lt_of_lt_of_le (hX b hb) hbel.size; exact hbox.lt; exact hres.lt) hvu
        unfold va at hcp
        rw [y0, y1, y2, y3, y4, y5, y6] at hcp
        have HRE : Hid (∀ w', Below wr.heap.size wr w' → C7 w' (w.heap.size + 1) (.int .i64 0) (.bool false) (.string ⟨#[]⟩) (.int .i64 0) (.string ⟨#[]⟩) (.slice none 0 0) (.slice none 0 0)) := fun w' hb => hres.below hb hres.lt
        obtain ⟨a0, a1, a2, a3, a4, a5, a6, q0, q1, q2, q3, q4, q5, q6⟩ := hbox
        clear hfin hfj hres hown hvu y0 y1 y2 y3 y4 y5 y6 HFR HPB
        go_wp2_with fail
        refine hcp.mono ?_
        rintro r w2 ⟨f2, rfl, hv2, hb2⟩
        obtain ⟨k2, n2, g2, e2, t2, la2, lm2, lc2, ka2, km2, kc2, z0, z1, z2, z3, z4, z5, z6⟩ := hv2.shape
        rw [z0, z1, z2, z3, z4, z5, z6]
        have hbel2 := bl_t hbel hb2
        have HV : Hid (VI w2 (XB X w.heap.size) u f2) := hv2
        clear a0 a1 a2 a3 a4 a5 a6 q0 q1 q2 q3 q4 q5 q6 hcp hv2
        obtain ⟨a0, a1, a2, a3, a4, a5, a6, q0, q1, q2, q3, q4, q5, q6⟩ := HRE.out w2 hb2
        clear HRE
        go_wp2
        refine bodyPost_ret (v := .tuple #[.agg #[.int .i64 k2, .bool n2, .string g2, .int .i64 e2, .string t2, .slice la2 lm2 lc2, .slice ka2 km2 kc2], .int .i64 0]) (by simp [results, Tryd.results8, go_sem, *]) rfl ⟨f2, by rw [HE.out, z0, z1, z2, z3, z4, z5, z6], by rw [HE.out]; exact HV.out.carry (fun b hb _ => ⟨by repeat rw [Below.heap_setCell _ _ _ _ (fun e => hb (.inr (.inr e)))], fun h => hb (.inl h)⟩), ?_⟩
        with_reducible repeat (first | exact hbel2 | refine bl_s ?_ (Nat.le_succ _) _)

theorem find_any (v : JV) (f : Nat → Value) (s : ByteArray) (w : World) (hv : VI w (fun _ => False) v f) (hs : Sm v) (hp : s.size ≤ 1099511627776) :
    Calls Tryd.prog 8 #[.agg #[f 0, f 1, f 2, f 3, f 4, f 5, f 6], .string s] w fun r w' => ∃ f', r = .returned (.tuple #[.agg #[f' 0, f' 1, f' 2, f' 3, f' 4, f' 5, f' 6], .int .i64 (findR v s.data.toList).2]) ∧ VI w' (fun _ => False) (findR v s.data.toList).1 f' ∧ Below w.heap.size w w' :=
  find_x v f s w _ (fun _ h => h.elim) hv hs hp
end Go.Proofs.YtkbkedknoahhgaaDoor
