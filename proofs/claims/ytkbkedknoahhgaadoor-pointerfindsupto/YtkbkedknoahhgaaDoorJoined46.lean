/-
  ref7.Find. Conditions: lists of at most 2^30; at most 2^38 bytes; a value that may be.
-/
import Derived.Test.YtkbkedknoahhgaaDoorJoined45
import Derived.Test.YtkbkedknoahhgaaDoorJoined27
import Derived.Deep.CutRange
import Derived.Deep.RegionHeld3
import Derived.Deep.RegionWith
namespace Go.Proofs.YtkbkedknoahhgaaDoor
open Go.RowKit
attribute [local go_sem] setCell_drewN alloc_drewN

theorem plc_six {n : Bool} {g : ByteArray} {e : Int} {t : ByteArray} {l : List JV} {ks : List ByteArray} (hs : ShV (.mk 6 n g e t l ks)) (p : List UInt8) : plc (.mk 6 n g e t l ks) p = (kix (bs p) ks 0).map (fun i => (i : Int)) := by
  have hel := elN_sh hs
  cases hs with
  | mk h1 h2 h3 h4 h5 => rw [plc, if_neg (by decide), if_pos rfl, hel, ← h3 rfl, List.take_length]
theorem plc_five {n : Bool} {g : ByteArray} {e : Int} {t : ByteArray} {l : List JV} {ks : List ByteArray} (p : List UInt8) : plc (.mk 5 n g e t l ks) p = nbL p l.length := by rw [plc, if_pos rfl]
theorem plc_other {k : Int} {n : Bool} {g : ByteArray} {e : Int} {t : ByteArray} {l : List JV} {ks : List ByteArray} (h5 : k ≠ 5) (h6 : k ≠ 6) (p : List UInt8) : plc (.mk k n g e t l ks) p = none := by rw [plc, if_neg h5, if_neg h6]
theorem nb_none {p : List UInt8} {L : Nat} (h : ∀ m, m < L → p ≠ Lib.itoa (m : Int)) : nbL p (L : Int) = none := by
  cases hh : nbL p (L : Int) with
  | none => rfl
  | some n =>
    obtain ⟨u, h1, h2, h3⟩ := nbL_conv hh
    exact absurd h3 (h u h1)
/-- What the document's Find keeps from round to round. -/
structure RnR (w : World) (v : JV) (ps : List (List UInt8)) (pv : Value) (i : Nat) (wr : World) : Prop where
  res : C7 wr (w.heap.size + 1) (.int .i64 0) (.bool false) (.string ⟨#[]⟩) (.int .i64 0) (.string ⟨#[]⟩) (.slice none 0 0) (.slice none 0 0)
  bel : Below w.heap.size w wr
  own : OwnS wr (w.heap.size + 2) pv ps
  now : ∃ u f, Sm u ∧ ShV u ∧ VI wr (XB (fun _ => False) w.heap.size) u f ∧ C7 wr w.heap.size (f 0) (f 1) (f 2) (f 3) (f 4) (f 5) (f 6) ∧ findJ v ps = findJ u (ps.drop i)
theorem rn_next {w w2 : World} {v u : JV} {ps : List (List UInt8)} {pv : Value} {i : Nat} {f : Nat → Value} {x0 x1 x2 x3 x4 x5 x6 : Value}
    (hres : C7 w2 (w.heap.size + 1) (.int .i64 0) (.bool false) (.string ⟨#[]⟩) (.int .i64 0) (.string ⟨#[]⟩) (.slice none 0 0) (.slice none 0 0)) (hbel : Below w.heap.size w w2) (hown : OwnS w2 (w.heap.size + 2) pv ps) (hbox : C7 w2 w.heap.size x0 x1 x2 x3 x4 x5 x6)
    (hs : Sm u) (hsh : ShV u) (hv : VI w2 (XB (fun _ => False) w.heap.size) u f) (hf : findJ v ps = findJ u (ps.drop i)) : RnR w v ps pv i (put7 w2 w.heap.size 0 f) := by
  have h := fn_next (X := fun _ => False) hres hbel hown hbox hs hv hf
  refine ⟨h.res, h.bel, h.own, u, f, hs, hsh, ?_, hbox.put f, hf⟩
  exact hv.carry fun b hx _ => ⟨put7_block _ _ _ _ _ (fun e => hx (.inr (.inl e))), hx⟩
theorem bl_7 {a w : World} (h : Below a.heap.size a w) {b : Nat} (hb : a.heap.size ≤ b) (x0 x1 x2 x3 x4 x5 x6 : Value) : Below a.heap.size a (((((((w.setCell ⟨b, 0, none⟩ x0).setCell ⟨b, 1, none⟩ x1).setCell ⟨b, 2, none⟩ x2).setCell ⟨b, 3, none⟩ x3).setCell ⟨b, 4, none⟩ x4).setCell ⟨b, 5, none⟩ x5).setCell ⟨b, 6, none⟩ x6) :=
  bl_s (bl_s (bl_s (bl_s (bl_s (bl_s (bl_s h hb _) hb _) hb _) hb _) hb _) hb _) hb _
theorem put7_eq (w : World) (b : Nat) (f : Nat → Value) {x0 x1 x2 x3 x4 x5 x6 : Value} (z0 : f 0 = x0) (z1 : f 1 = x1) (z2 : f 2 = x2) (z3 : f 3 = x3) (z4 : f 4 = x4) (z5 : f 5 = x5) (z6 : f 6 = x6) : put7 w b 0 f = (((((((w.setCell ⟨b, 0, none⟩ x0).setCell ⟨b, 1, none⟩ x1).setCell ⟨b, 2, none⟩ x2).setCell ⟨b, 3, none⟩ x3).setCell ⟨b, 4, none⟩ x4).setCell ⟨b, 5, none⟩ x5).setCell ⟨b, 6, none⟩ x6) := by
  unfold put7
  simp only [Nat.zero_add]
  rw [z0, z1, z2, z3, z4, z5, z6]

set_option maxRecDepth 100000 in
set_option maxHeartbeats 12800000 in
theorem rfind_any (v : JV) (f : Nat → Value) (s : ByteArray) (w : World) (hv : VI w (fun _ => False) v f) (hs : Sm v) (hsh : ShV v) (hp : s.size ≤ 274877906944) (hT : Lib.TabIs Tryd.prog w "internal/strconv.uint64pow10" .u64 Lib.pow10Tab) :
    Calls Tryd.prog 9 #[.agg #[f 0, f 1, f 2, f 3, f 4, f 5, f 6], .string s] w fun r w' => ∃ f', r = .returned (.tuple #[.agg #[f' 0, f' 1, f' 2, f' 3, f' 4, f' 5, f' 6], .int .i64 (findR v s.data.toList).2]) ∧ VI w' (fun _ => False) (findR v s.data.toList).1 f' ∧ Below w.heap.size w w' := by
  obtain ⟨P, hP⟩ : ∃ P : Ending → World → Prop, P = fun r w' => ∃ f', r = .returned (.tuple #[.agg #[f' 0, f' 1, f' 2, f' 3, f' 4, f' 5, f' 6], .int .i64 (findR v s.data.toList).2]) ∧ VI w' (fun _ => False) (findR v s.data.toList).1 f' ∧ Below w.heap.size w w' := ⟨_, rfl⟩
  rw [← hP]
  have HP := hid_intro hP
  clear hP
  obtain ⟨k, n, g, e, t, la, lm, lc, ka, km, kc, f0, f1, f2, f3, f4, f5, f6⟩ := hv.shape
  rw [f0, f1, f2, f3, f4, f5, f6]
  have hCn := C7.new w (.int .i64 k) (.bool n) (.string g) (.int .i64 e) (.string t) (.slice la lm lc) (.slice ka km kc) 28
  have hRn := C7.new (w.alloc (.cells #[.int .i64 k, .bool n, .string g, .int .i64 e, .string t, .slice la lm lc, .slice ka km kc] 28)) (.int .i64 0) (.bool false) (.string ⟨#[]⟩) (.int .i64 0) (.string ⟨#[]⟩) (.slice none 0 0) (.slice none 0 0) 28
  have hbW : Below w.heap.size w ((w.alloc (.cells #[.int .i64 k, .bool n, .string g, .int .i64 e, .string t, .slice la lm lc, .slice ka km kc] 28)).alloc (.cells #[.int .i64 0, .bool false, .string ⟨#[]⟩, .int .i64 0, .string ⟨#[]⟩, .slice none 0 0, .slice none 0 0] 28)) := bl_a (bl_a (Below.refl _ _) _) _
  have hsW : ((w.alloc (.cells #[.int .i64 k, .bool n, .string g, .int .i64 e, .string t, .slice la lm lc, .slice ka km kc] 28)).alloc (.cells #[.int .i64 0, .bool false, .string ⟨#[]⟩, .int .i64 0, .string ⟨#[]⟩, .slice none 0 0, .slice none 0 0] 28)).heap.size = w.heap.size + 2 := by simp
  have hC := hCn.al (.cells #[.int .i64 0, .bool false, .string ⟨#[]⟩, .int .i64 0, .string ⟨#[]⟩, .slice none 0 0, .slice none 0 0] 28)
  have hR : C7 ((w.alloc (.cells #[.int .i64 k, .bool n, .string g, .int .i64 e, .string t, .slice la lm lc, .slice ka km kc] 28)).alloc (.cells #[.int .i64 0, .bool false, .string ⟨#[]⟩, .int .i64 0, .string ⟨#[]⟩, .slice none 0 0, .slice none 0 0] 28)) (w.heap.size + 1) (.int .i64 0) (.bool false) (.string ⟨#[]⟩) (.int .i64 0) (.string ⟨#[]⟩) (.slice none 0 0) (.slice none 0 0) := by simpa using hRn
  clear hCn hRn
  generalize hW : (w.alloc (.cells #[.int .i64 k, .bool n, .string g, .int .i64 e, .string t, .slice la lm lc, .slice ka km kc] 28)).alloc (.cells #[.int .i64 0, .bool false, .string ⟨#[]⟩, .int .i64 0, .string ⟨#[]⟩, .slice none 0 0, .slice none 0 0] 28) = W at *
  have hvW : VI W (XB (fun _ => False) w.heap.size) v f := hv.carry fun b hx hlt => ⟨hbW.block b hlt, by rintro (h | h | h); exact hx h; omega; omega⟩
  have hpa := rparse_own s W hp
  have HTB : Hid (∀ w', Below w.heap.size w w' → Lib.TabIs Tryd.prog w' "internal/strconv.uint64pow10" .u64 Lib.pow10Tab) := hid_intro (fun w' hb => tab_below hT hb)
  clear hT
  cases hpl : parseL s.data.toList with
  | none =>
    rw [hpl] at hpa
    simp only [errP, Option.getD_none] at hpa
    have HE : Hid (findR v s.data.toList = (zeroJ, 70)) := by show _ = _; rw [findR, hpl]
    have HR : Hid (∀ w', Below W.heap.size W w' → C7 w' (w.heap.size + 1) (.int .i64 0) (.bool false) (.string ⟨#[]⟩) (.int .i64 0) (.string ⟨#[]⟩) (.slice none 0 0) (.slice none 0 0)) := fun w' hb => hR.below hb hR.lt
    clear hC hR hvW hv f0 f1 f2 f3 f4 f5 f6 hpl
    go_enter Tryd.func9, Tryd.ntmps9
    go_wp2_with fail
    refine hpa.mono ?_
    rintro r w1 ⟨pv, rfl, _, hb1⟩
    obtain ⟨a0, a1, a2, a3, a4, a5, a6, q0, q1, q2, q3, q4, q5, q6⟩ := HR.out w1 hb1
    have hbel := bl_t hbW hb1
    clear hpa HR
    go_wp2
    refine bodyPost_ret (v := .tuple #[.agg #[.int .i64 0, .bool false, .string ⟨#[]⟩, .int .i64 0, .string ⟨#[]⟩, .slice none 0 0, .slice none 0 0], .int .i64 70]) (by simp [results, Tryd.results9, go_sem, *]) rfl ?_
    rw [HP.out]
    refine ⟨zf, by rw [HE.out]; rfl, by rw [HE.out]; exact zeroVI _ _, ?_⟩
    with_reducible repeat (first | exact hbel | refine bl_s ?_ (Nat.le_succ _) _)
  | some ps =>
    rw [hpl] at hpa
    simp only [errP, Option.getD_some] at hpa
    obtain ⟨pb1, pb2⟩ := parse_bd hpl
    rw [len_of] at pb1 pb2
    have hpsI : (ps.length : Int) ≤ 1099511627776 := by omega
    have HR : Hid (∀ w' pv, Below W.heap.size W w' → OwnS w' W.heap.size pv ps → RnR w v ps pv 0 w') := fun w' pv hb ho => ⟨hR.below hb hR.lt, bl_t hbW hb, by rw [← hsW]; exact ho, v, f, hs, hsh, hvW.kept hb, by rw [f0, f1, f2, f3, f4, f5, f6]; exact hC.below hb hC.lt, rfl⟩
    have HFR : Hid (findR v s.data.toList = match findJ v ps with | none => (zeroJ, 71) | some u => (u, 0)) := by show _ = _; simp only [findR, hpl]; cases findJ v ps <;> rfl
    clear hC hR hvW hv f0 f1 f2 f3 f4 f5 f6 hpl pb1 pb2 hbW hsW
    go_enter Tryd.func9, Tryd.ntmps9
    go_wp2_with fail
    refine hpa.mono ?_
    rintro r w1 ⟨pv, rfl, hown, hb1⟩
    have HF0 : Hid (RnR w v ps pv 0 w1) := HR.out w1 pv hb1 hown
    obtain ⟨pa, pc, rfl⟩ := (SRow.of_own hown).shape
    clear hpa HR hown hb1
    go_wp2_with fail
    go_loopg [8] ps.length (fun m s8 wr => ∃ i : Nat, m = ps.length - i ∧ s8 = .int .i64 (i : Int) ∧ Hid (i ≤ ps.length) ∧ Hid (RnR w v ps (.slice pa ps.length pc) i wr))
    case atStart => exact ⟨0, rfl, rfl, Nat.zero_le _, HF0⟩
    case round =>
      obtain ⟨i, rfl, rfl, HIL, HK⟩ := hrel
      clear HF0
      obtain ⟨hres, hbel, hown, u, fu, hsu, hshu, hvu, hbox, hfj⟩ := HK.out
      clear HK
      by_cases hlt : i < ps.length
      · have hI : (i : Int) < (ps.length : Int) := by omega
        have HLT := hid_intro hlt
        obtain ⟨b, off, rfl, hcc⟩ := (SRow.of_own hown).lies (fun e => by rw [e] at hlt; exact absurd hlt (by simp))
        have hcell := hcc i _ (List.getElem?_eq_getElem hlt)
        have hblt : b < wr.heap.size := World.block_lt_of_cell? wr _ hcell
        rw [List.drop_eq_getElem_cons hlt] at hfj
        clear hcc
        generalize ps[i] = x at *
        clear hlt
        obtain ⟨k', n', g', e', t', l, ks⟩ := u
        obtain ⟨ao, cap, ko, kc', G, hva, _, _, hr, hl, hk⟩ := hvu.open
        have hva2 : Value.agg #[fu 0, fu 1, fu 2, fu 3, fu 4, fu 5, fu 6] = _ := hva
        injection hva2 with hva2
        simp only [Array.mk.injEq, List.cons.injEq, and_true] at hva2
        obtain ⟨y0, y1, y2, y3, y4, y5, y6⟩ := hva2
        rw [y0, y1, y2, y3, y4, y5, y6] at hbox
        -- the box of this round
        have hX := C7.new wr (.int .i64 0) (.bool false) (.string ⟨#[]⟩) (.int .i64 0) (.string ⟨#[]⟩) (.slice none 0 0) (.slice none 0 0) 28
        have hb3 : Below wr.heap.size wr (wr.alloc (.cells #[.int .i64 0, .bool false, .string ⟨#[]⟩, .int .i64 0, .string ⟨#[]⟩, .slice none 0 0, .slice none 0 0] 28)) := bl_a (Below.refl _ _) _
        have hbox3 := hbox.below hb3 hbox.lt
        have hcell3 : (wr.alloc (.cells #[.int .i64 0, .bool false, .string ⟨#[]⟩, .int .i64 0, .string ⟨#[]⟩, .slice none 0 0, .slice none 0 0] 28)).cell? ⟨b, off + i, none⟩ = some (.string (bs x)) := by rw [hb3.cell (p := ⟨b, off + i, none⟩) hblt]; exact hcell
        have HRE : Hid (∀ w', Below wr.heap.size wr w' → C7 w' (w.heap.size + 1) (.int .i64 0) (.bool false) (.string ⟨#[]⟩) (.int .i64 0) (.string ⟨#[]⟩) (.slice none 0 0) (.slice none 0 0)) := hid_intro (fun w' hb => hres.below hb hres.lt)
        have HNO : Hid (plc (.mk k' n' g' e' t' l ks) x = none → findR v s.data.toList = (zeroJ, 71)) := hid_intro (fun h => by rw [HFR.out, hfj, findJ_none h])
        have HNX : Hid (∀ j (hj : j < l.length), plc (.mk k' n' g' e' t' l ks) x = some (j : Int) → ∀ w2, Below wr.heap.size wr w2 → RnR w v ps (.slice (some ⟨b, off, none⟩) ps.length pc) (i + 1) (put7 w2 w.heap.size 0 (G j))) := hid_intro (fun j hj hpj w2 hb => rn_next (hres.below hb hres.lt) (bl_t hbel hb) (hown.below hb) (hbox.below hb hbox.lt) (hsu.get j hj) (by cases hshu with | mk s1 s2 s3 s4 s5 => exact s4 _ (List.getElem_mem hj)) ((hr j hj).kept hb) (by rw [hfj, findJ_step hpj hj]))
        have HBX : Hid (∀ w', Below wr.heap.size wr w' → Below w.heap.size w w') := hid_intro (fun w' hb => bl_t hbel hb)
        have HSU := hid_intro hsu
        have HSH := hid_intro hshu
        have HVU := hid_intro hvu
        have HR := hid_intro hr
        have HL := hid_intro hl
        have HKK := hid_intro hk
        have HB3 := hid_intro hb3
        have HBOX := hid_intro hbox
        have HX := hid_intro hX
        have HBOX3 := hid_intro hbox3
        have HCL := hid_intro hcell3
        have HCL0 := hid_intro hcell
        have HBL := hid_intro hblt
        clear hres hown hfj hsu hshu hvu hr hl hk hva y0 y1 y2 y3 y4 y5 y6 hbel hb3 HFR hblt hcell3 hX hcell hbox
        by_cases c6 : k' = 6
        · subst c6
          have hlen : ks.length = l.length := by cases HSH.out with | mk s1 s2 s3 s4 s5 => exact s3 rfl
          have hll : l.length ≤ 1073741824 := by cases HSU.out with | mk s1 s2 s3 => exact s1
          have HGET : Hid (∀ w', Below wr.heap.size wr w' → Calls Tryd.prog 21 #[.agg #[.int .i64 6, .bool n', .string g', .int .i64 e', .string t', .slice ao l.length cap, .slice ko ks.length kc'], .string (bs x)] w' fun r w2 => ∃ (y : Nat → Value) (b : Bool), r = .returned (.tuple #[.agg #[y 0, y 1, y 2, y 3, y 4, y 5, y 6], .bool b]) ∧ ((∃ i, kix (bs x) ks 0 = some i ∧ i < l.length ∧ b = true ∧ ∀ j, j < 7 → y j = G i j) ∨ (kix (bs x) ks 0 = none ∧ b = false ∧ y = zf)) ∧ Below w'.heap.size w' w2) := hid_intro (fun w' hb => by
            refine get_any n' g' e' t' l ks ao ko cap kc' G (bs x) w' hll hlen (fun q hq => ((HR.out q hq).kept hb).weak (fun _ _ h => h.elim)) ?_ ?_
            · rcases HL.out with h | ⟨b1, o1, h1, h2, h3⟩
              · exact .inl h
              · exact .inr ⟨b1, o1, h1, Nat.lt_of_lt_of_le h2 hb.size, fun q hq j hj => by rw [hb.cell (p := ⟨b1, o1 + q * 7 + j, none⟩) h2]; exact h3 q hq j hj⟩
            · rcases HKK.out with h | ⟨b1, o1, h1, h2, h3⟩
              · exact .inl h
              · exact .inr ⟨b1, o1, h1, Nat.lt_of_lt_of_le h2 hb.size, fun q hq => by rw [hb.cell (p := ⟨b1, o1 + q, none⟩) h2]; exact h3 q hq⟩)
          have HPL := hid_intro (plc_six HSH.out x)
          have HCW : Hid (∀ w', Below wr.heap.size wr w' → w'.cell? ⟨w.heap.size, 0, none⟩ = some (.int .i64 6) ∧ w'.cell? ⟨w.heap.size, 1, none⟩ = some (.bool n') ∧ w'.cell? ⟨w.heap.size, 2, none⟩ = some (.string g') ∧ w'.cell? ⟨w.heap.size, 3, none⟩ = some (.int .i64 e') ∧ w'.cell? ⟨w.heap.size, 4, none⟩ = some (.string t') ∧ w'.cell? ⟨w.heap.size, 5, none⟩ = some (.slice ao l.length cap) ∧ w'.cell? ⟨w.heap.size, 6, none⟩ = some (.slice ko ks.length kc') ∧ w'.cell? ⟨b, off + i, none⟩ = some (.string (bs x))) := hid_intro (fun w' hb => by
            have hc := HBOX.out.below hb HBOX.out.lt
            exact ⟨hc.c0, hc.c1, hc.c2, hc.c3, hc.c4, hc.c5, hc.c6, by rw [hb.cell (p := ⟨b, off + i, none⟩) HBL.out]; exact HCL0.out⟩)
          have HXX : Hid (∀ w', Below (wr.alloc (.cells #[.int .i64 0, .bool false, .string ⟨#[]⟩, .int .i64 0, .string ⟨#[]⟩, .slice none 0 0, .slice none 0 0] 28)).heap.size (wr.alloc (.cells #[.int .i64 0, .bool false, .string ⟨#[]⟩, .int .i64 0, .string ⟨#[]⟩, .slice none 0 0, .slice none 0 0] 28)) w' → C7 w' wr.heap.size (.int .i64 0) (.bool false) (.string ⟨#[]⟩) (.int .i64 0) (.string ⟨#[]⟩) (.slice none 0 0) (.slice none 0 0)) := hid_intro (fun w' hb => HX.out.below hb HX.out.lt)
          clear hlen hll
          obtain ⟨a0, a1, a2, a3, a4, a5, a6, _, _, _, _, _, _, _⟩ := hbox3
          cases hkx : kix (bs x) ks 0 with
          | none =>
            have HE := hid_intro (HNO.out (by rw [HPL.out, hkx]; rfl))
            have HG0 : Hid (∀ w', Below wr.heap.size wr w' → Calls Tryd.prog 21 #[.agg #[.int .i64 6, .bool n', .string g', .int .i64 e', .string t', .slice ao l.length cap, .slice ko ks.length kc'], .string (bs x)] w' fun r w2 => r = .returned (.tuple #[.agg #[.int .i64 0, .bool false, .string ⟨#[]⟩, .int .i64 0, .string ⟨#[]⟩, .slice none 0 0, .slice none 0 0], .bool false]) ∧ Below w'.heap.size w' w2) := hid_intro (fun w' hb => by
              refine (HGET.out w' hb).mono ?_
              rintro r w2 ⟨y, b2, rfl, h | ⟨_, rfl, rfl⟩, hb2⟩
              · obtain ⟨q, hq, _⟩ := h
                rw [hkx] at hq; cases hq
              · exact ⟨rfl, hb2⟩)
            clear HGET hkx HNX HNO
            go_upto_region 10 with fail
            have hc3 := HCL.out
            generalize (wr.alloc (.cells #[.int .i64 0, .bool false, .string ⟨#[]⟩, .int .i64 0, .string ⟨#[]⟩, .slice none 0 0, .slice none 0 0] 28)) = W3 at *
            go_cut [9] from 21 to 69 (fun s9 wx => s9 = .bool false ∧ Hid (Below wr.heap.size wr wx))
            case first =>
              clear HSU HSH HVU HR HL HKK HPL HRE HBOX HTB
              go_region_with (go_at_call 21; refine (HG0.out _ ?_).mono ?_; (with_reducible repeat (first | exact HB3.out | exact Below.refl _ _ | refine bl_t ?_ hb4 | refine bl_d ?_ | refine bl_a ?_ _)); rintro r w4 ⟨rfl, hb4⟩; have HB4 : Hid (Below wr.heap.size wr w4) := hid_intro (by (with_reducible repeat (first | exact HB3.out | exact Below.refl _ _ | refine bl_t ?_ hb4 | refine bl_d ?_ | refine bl_a ?_ _))); obtain ⟨p0, p1, p2, p3, p4, p5, p6, r0, r1, r2, r3, r4, r5, r6⟩ := HXX.out w4 (by (with_reducible repeat (first | exact HB3.out | exact Below.refl _ _ | refine bl_t ?_ hb4 | refine bl_d ?_ | refine bl_a ?_ _))))
              all_goals
                go_wp2
                go_meet
                case rel =>
                  refine ⟨rfl, hid_intro ?_⟩
                  with_reducible exact bl_7 (HB4.out) (Nat.le_refl _) _ _ _ _ _ _ _
            case rest =>
              clear a0 a1 a2 a3 a4 a5 a6 hc3
              obtain ⟨rfl, HBC⟩ := hcut
              obtain ⟨a0, a1, a2, a3, a4, a5, a6, _, _, _, _, _, _, _⟩ := HBOX.out.below HBC.out HBOX.out.lt
              obtain ⟨r0, r1, r2, r3, r4, r5, r6, q0, q1, q2, q3, q4, q5, q6⟩ := HRE.out wc HBC.out
              have hbf := HBX.out wc HBC.out
              go_wp2
              refine bodyPost_ret (v := .tuple #[.agg #[.int .i64 0, .bool false, .string ⟨#[]⟩, .int .i64 0, .string ⟨#[]⟩, .slice none 0 0, .slice none 0 0], .int .i64 71]) (by simp [results, Tryd.results9, go_sem, *]) rfl ?_
              rw [HP.out]
              refine ⟨zf, by rw [HE.out]; rfl, by rw [HE.out]; exact zeroVI _ _, ?_⟩
              with_reducible repeat (first | exact hbf | refine bl_s ?_ (Nat.le_succ _) _)
          | some j =>
            have hpl : plc (.mk 6 n' g' e' t' l ks) x = some (j : Int) := by rw [HPL.out, hkx]; rfl
            have hj : j < l.length := by
              have := (plc_bd hpl).2
              have h2 : (j : Int) < (l.length : Int) := this
              omega
            obtain ⟨k2, n2, g2, e2, t2, la2, lm2, lc2, ka2, km2, kc2, z0, z1, z2, z3, z4, z5, z6⟩ := (HR.out j hj).shape
            have HN2 : Hid (∀ w2, Below wr.heap.size wr w2 → RnR w v ps (.slice (some ⟨b, off, none⟩) ps.length pc) (i + 1) (((((((w2.setCell ⟨w.heap.size, 0, none⟩ (.int .i64 k2)).setCell ⟨w.heap.size, 1, none⟩ (.bool n2)).setCell ⟨w.heap.size, 2, none⟩ (.string g2)).setCell ⟨w.heap.size, 3, none⟩ (.int .i64 e2)).setCell ⟨w.heap.size, 4, none⟩ (.string t2)).setCell ⟨w.heap.size, 5, none⟩ (.slice la2 lm2 lc2)).setCell ⟨w.heap.size, 6, none⟩ (.slice ka2 km2 kc2))) := hid_intro (fun w2 hb => by
              rw [← put7_eq w2 w.heap.size (G j) z0 z1 z2 z3 z4 z5 z6]
              exact HNX.out j hj hpl w2 hb)
            have HG1 : Hid (∀ w', Below wr.heap.size wr w' → Calls Tryd.prog 21 #[.agg #[.int .i64 6, .bool n', .string g', .int .i64 e', .string t', .slice ao l.length cap, .slice ko ks.length kc'], .string (bs x)] w' fun r w2 => r = .returned (.tuple #[.agg #[.int .i64 k2, .bool n2, .string g2, .int .i64 e2, .string t2, .slice la2 lm2 lc2, .slice ka2 km2 kc2], .bool true]) ∧ Below w'.heap.size w' w2) := hid_intro (fun w' hb => by
              refine (HGET.out w' hb).mono ?_
              rintro r w2 ⟨y, b2, rfl, ⟨q, hq, _, rfl, hy⟩ | ⟨h, _⟩, hb2⟩
              · rw [hkx] at hq
                injection hq with hq
                subst hq
                rw [hy 0 (by omega), hy 1 (by omega), hy 2 (by omega), hy 3 (by omega), hy 4 (by omega), hy 5 (by omega), hy 6 (by omega), z0, z1, z2, z3, z4, z5, z6]
                exact ⟨rfl, hb2⟩
              · rw [hkx] at h; cases h)
            clear HGET hkx HNX HNO hpl hj z0 z1 z2 z3 z4 z5 z6
            go_upto_region 10 with fail
            have hc3 := HCL.out
            generalize (wr.alloc (.cells #[.int .i64 0, .bool false, .string ⟨#[]⟩, .int .i64 0, .string ⟨#[]⟩, .slice none 0 0, .slice none 0 0] 28)) = W3 at *
            go_cut [9] from 21 to 69 (fun s9 wx => s9 = .bool true ∧ Hid (Below wr.heap.size wr wx ∧ C7 wx wr.heap.size (.int .i64 k2) (.bool n2) (.string g2) (.int .i64 e2) (.string t2) (.slice la2 lm2 lc2) (.slice ka2 km2 kc2)))
            case first =>
              clear HSU HSH HVU HR HL HKK HPL HRE HBOX HTB
              go_region_with (go_at_call 21; refine (HG1.out _ ?_).mono ?_; (with_reducible repeat (first | exact HB3.out | exact Below.refl _ _ | refine bl_t ?_ hb4 | refine bl_d ?_ | refine bl_a ?_ _)); rintro r w4 ⟨rfl, hb4⟩; have HB4 : Hid (Below wr.heap.size wr w4) := hid_intro (by (with_reducible repeat (first | exact HB3.out | exact Below.refl _ _ | refine bl_t ?_ hb4 | refine bl_d ?_ | refine bl_a ?_ _))); have HZ := hid_intro (HXX.out w4 (by (with_reducible repeat (first | exact HB3.out | exact Below.refl _ _ | refine bl_t ?_ hb4 | refine bl_d ?_ | refine bl_a ?_ _)))); obtain ⟨p0, p1, p2, p3, p4, p5, p6, r0, r1, r2, r3, r4, r5, r6⟩ := HZ.out)
              all_goals
                go_wp2
                go_meet
                case rel =>
                  refine ⟨rfl, hid_intro ⟨?_, ?_⟩⟩
                  · with_reducible exact bl_7 (HB4.out) (Nat.le_refl _) _ _ _ _ _ _ _
                  · with_reducible exact HZ.out.st _ _ _ _ _ _ _
            case rest =>
              clear a0 a1 a2 a3 a4 a5 a6 hc3
              obtain ⟨rfl, HBC⟩ := hcut
              obtain ⟨a0, a1, a2, a3, a4, a5, a6, q0, q1, q2, q3, q4, q5, q6⟩ := HBOX.out.below HBC.out.1 HBOX.out.lt
              obtain ⟨r0, r1, r2, r3, r4, r5, r6, _, _, _, _, _, _, _⟩ := HBC.out.2
              go_wp2_with fail
              go_roundg (ps.length - (i + 1))
              case measure => have := HLT.out; omega
              case rel => exact ⟨i + 1, rfl, by simp, HLT.out, HN2.out _ HBC.out.1⟩
        · by_cases c5 : k' = 5
          · subst c5
            have HPL := hid_intro (plc_five (n := n') (g := g') (e := e') (t := t') (l := l) (ks := ks) x)
            have hll : (l.length : Int) ≤ 1073741824 := by cases HSU.out with | mk s1 s2 s3 => omega
            have HCR : Hid (∀ w', Below wr.heap.size wr w' → w'.cell? ⟨b, off + i, none⟩ = some (.string (bs x))) := hid_intro (fun w' hb => by rw [hb.cell (p := ⟨b, off + i, none⟩) HBL.out]; exact HCL0.out)
            have HBC : Hid (∀ w', Below wr.heap.size wr w' → C7 w' w.heap.size (.int .i64 5) (.bool n') (.string g') (.int .i64 e') (.string t') (.slice ao l.length cap) (.slice ko ks.length kc')) := hid_intro (fun w' hb => HBOX.out.below hb HBOX.out.lt)
            have HEL : Hid (∀ w', Below wr.heap.size wr w' → ∀ q, q < l.length → ∃ b1 o1, ao = some ⟨b1, o1, none⟩ ∧ ∀ j, j < 7 → w'.cell? ⟨b1, o1 + q * 7 + j, none⟩ = some (G q j)) := hid_intro (fun w' hb q hq => by
              rcases HL.out with h | ⟨b1, o1, h1, h2, h3⟩
              · rw [h] at hq; exact absurd hq (by simp)
              · exact ⟨b1, o1, h1, fun j hj => by rw [hb.cell (p := ⟨b1, o1 + q * 7 + j, none⟩) h2]; exact h3 q hq j hj⟩)
            have HN3 : Hid (∀ j (hj : j < l.length), x = Lib.itoa (j : Int) → ∀ w2, Below wr.heap.size wr w2 → RnR w v ps (.slice (some ⟨b, off, none⟩) ps.length pc) (i + 1) (put7 w2 w.heap.size 0 (G j))) := hid_intro (fun j hj hx w2 hb => HNX.out j hj (by rw [HPL.out, hx]; exact nbL_itoa j l.length hj) w2 hb)
            have HE0 : Hid ((∀ m, m < l.length → x ≠ Lib.itoa (m : Int)) → findR v s.data.toList = (zeroJ, 71)) := hid_intro (fun h => HNO.out (by rw [HPL.out]; exact nb_none h))
            have HSP := hid_intro (fun q (h : q < l.length) => (HR.out q h).shape)
            obtain ⟨a0, a1, a2, a3, a4, a5, a6, _, _, _, _, _, _, _⟩ := hbox3
            clear HSU HSH HVU HR HL HKK HPL HNX HNO c6
            go_wp2_with fail
            clear a0 a1 a2 a3 a4 a5 a6
            generalize (wr.alloc (.cells #[.int .i64 0, .bool false, .string ⟨#[]⟩, .int .i64 0, .string ⟨#[]⟩, .slice none 0 0, .slice none 0 0] 28)) = W3 at *
            obtain ⟨wo, rfl⟩ : ∃ wo, wo = wr := ⟨_, rfl⟩
            go_loopg [9, 11] l.length (fun m s9 s11 wq => ∃ q : Nat, m = l.length - q ∧ s11 = .int .i64 (q : Int) ∧ Hid (Below wo.heap.size wo wq) ∧ ((s9 = .bool false ∧ Hid (q ≤ l.length ∧ C7 wq wo.heap.size (.int .i64 0) (.bool false) (.string ⟨#[]⟩) (.int .i64 0) (.string ⟨#[]⟩) (.slice none 0 0) (.slice none 0 0) ∧ ∀ m, m < q → x ≠ Lib.itoa (m : Int))) ∨ (s9 = .bool true ∧ Hid (∃ j, j < l.length ∧ q = j + 1 ∧ x = Lib.itoa (j : Int) ∧ C7 wq wo.heap.size (G j 0) (G j 1) (G j 2) (G j 3) (G j 4) (G j 5) (G j 6)))))
            case atStart => exact ⟨0, rfl, rfl, HB3, Or.inl ⟨rfl, ⟨Nat.zero_le _, HX.out, fun m h => absurd h (Nat.not_lt_zero _)⟩⟩⟩
            case round =>
              obtain ⟨q, rfl, rfl, HBQ, ⟨rfl, HF⟩ | ⟨rfl, HF⟩⟩ := hrel
              · obtain ⟨a0, a1, a2, a3, a4, a5, a6, _, _, _, _, _, _, _⟩ := HBC.out wr HBQ.out
                by_cases hq : (q : Int) < (l.length : Int)
                · have HQ : Hid (q < l.length) := hid_intro (by omega)
                  have HIT : Hid (∀ w', Below wo.heap.size wo w' → Calls Tryd.prog 22 #[.int .i64 (q : Int)] w' fun e w2 => e = .returned (.string (bs (Lib.itoa (q : Int)))) ∧ Below w'.heap.size w' w2) := hid_intro (fun w' hb => itoa_any (q : Int) w' (by omega) (by omega) (HTB.out w' (HBX.out w' hb)))
                  have hcr := HCR.out wr HBQ.out
                  have heq := eq_bytes (bs (Lib.itoa (q : Int))) (bs x)
                  have HZ : Hid (∀ w', Below wr.heap.size wr w' → C7 w' wo.heap.size (.int .i64 0) (.bool false) (.string ⟨#[]⟩) (.int .i64 0) (.string ⟨#[]⟩) (.slice none 0 0) (.slice none 0 0)) := hid_intro (fun w' hb => HF.out.2.1.below hb HF.out.2.1.lt)
                  by_cases hx : x = Lib.itoa (q : Int)
                  · rw [decide_eq_true (show bs (Lib.itoa (q : Int)) = bs x by rw [hx])] at heq
                    have HXE := hid_intro hx
                    clear hx
                    generalize bs (Lib.itoa (q : Int)) = IT at *
                    generalize bs x = XT at *
                    obtain ⟨b1, o1, hao, _⟩ := HEL.out wr HBQ.out q HQ.out
                    subst hao
                    obtain ⟨k2, n2, g2, e2, t2, la2, lm2, lc2, ka2, km2, kc2, z0, z1, z2, z3, z4, z5, z6⟩ := HSP.out q HQ.out
                    have HZQ : Hid (∀ w', C7 w' wo.heap.size (.int .i64 k2) (.bool n2) (.string g2) (.int .i64 e2) (.string t2) (.slice la2 lm2 lc2) (.slice ka2 km2 kc2) → C7 w' wo.heap.size (G q 0) (G q 1) (G q 2) (G q 3) (G q 4) (G q 5) (G q 6)) := hid_intro (fun w' h => by rw [z0, z1, z2, z3, z4, z5, z6]; exact h)
                    have HE4 : Hid (∀ w', Below wo.heap.size wo w' → w'.cell? ⟨b1, o1 + q * 7, none⟩ = some (.int .i64 k2) ∧ w'.cell? ⟨b1, o1 + q * 7 + 1, none⟩ = some (.bool n2) ∧ w'.cell? ⟨b1, o1 + q * 7 + 2, none⟩ = some (.string g2) ∧ w'.cell? ⟨b1, o1 + q * 7 + 3, none⟩ = some (.int .i64 e2) ∧ w'.cell? ⟨b1, o1 + q * 7 + 4, none⟩ = some (.string t2) ∧ w'.cell? ⟨b1, o1 + q * 7 + 5, none⟩ = some (.slice la2 lm2 lc2) ∧ w'.cell? ⟨b1, o1 + q * 7 + 6, none⟩ = some (.slice ka2 km2 kc2)) := hid_intro (fun w' hb => by
                      obtain ⟨b1', o1', h1, h2⟩ := HEL.out w' hb q HQ.out
                      injection h1 with h1
                      injection h1 with h1 h1' _
                      subst h1 h1'
                      rw [← z0, ← z1, ← z2, ← z3, ← z4, ← z5, ← z6]
                      exact ⟨h2 0 (by omega), h2 1 (by omega), h2 2 (by omega), h2 3 (by omega), h2 4 (by omega), h2 5 (by omega), h2 6 (by omega)⟩)
                    clear z0 z1 z2 z3 z4 z5 z6
                    go_upto_region 15 with fail
                    clear a0 a1 a2 a3 a4 a5 a6
                    go_region_with (go_at_call 22; refine (HIT.out _ ?_).mono ?_; (with_reducible repeat (first | exact HBQ.out | exact Below.refl _ _ | refine bl_t ?_ hb4 | refine bl_d ?_)); rintro r w4 ⟨rfl, hb4⟩; have HB4 : Hid (Below wo.heap.size wo w4) := hid_intro (by (with_reducible repeat (first | exact HBQ.out | exact Below.refl _ _ | refine bl_t ?_ hb4 | refine bl_d ?_))); have hc4 := HCR.out w4 HB4.out; have HZ4 := hid_intro (HZ.out w4 (by (with_reducible repeat (first | exact HBQ.out | exact Below.refl _ _ | refine bl_t ?_ hb4 | refine bl_d ?_)))))
                    all_goals
                      obtain ⟨a0, a1, a2, a3, a4, a5, a6, _, _, _, _, _, _, _⟩ := HBC.out w4 HB4.out
                      obtain ⟨l0, l1, l2, l3, l4, l5, l6⟩ := HE4.out w4 HB4.out
                      obtain ⟨p0, p1, p2, p3, p4, p5, p6, r0, r1, r2, r3, r4, r5, r6⟩ := HZ4.out
                      clear hb4
                      go_wp2_with fail
                      go_roundg (l.length - (q + 1))
                      case measure => have := HQ.out; omega
                      case rel =>
                        refine ⟨q + 1, rfl, by simp, hid_intro ?_, Or.inr ⟨rfl, hid_intro ⟨q, HQ.out, rfl, HXE.out, HZQ.out _ ?_⟩⟩⟩
                        · with_reducible exact bl_7 (HB4.out) (Nat.le_refl _) _ _ _ _ _ _ _
                        · with_reducible exact HZ4.out.st _ _ _ _ _ _ _
                  · rw [decide_eq_false (show ¬ bs (Lib.itoa (q : Int)) = bs x from fun h => hx (by have := congrArg (fun z : ByteArray => z.data.toList) h; rw [bs_list, bs_list] at this; exact this.symm))] at heq
                    have HXE := hid_intro hx
                    clear hx
                    generalize bs (Lib.itoa (q : Int)) = IT at *
                    generalize bs x = XT at *
                    go_upto_region 15 with fail
                    clear a0 a1 a2 a3 a4 a5 a6
                    go_region_with (go_at_call 22; refine (HIT.out _ ?_).mono ?_; (with_reducible repeat (first | exact HBQ.out | exact Below.refl _ _ | refine bl_t ?_ hb4 | refine bl_d ?_)); rintro r w4 ⟨rfl, hb4⟩; have HB4 : Hid (Below wo.heap.size wo w4) := hid_intro (by (with_reducible repeat (first | exact HBQ.out | exact Below.refl _ _ | refine bl_t ?_ hb4 | refine bl_d ?_))); have hc4 := HCR.out w4 HB4.out; have HZ4 := hid_intro (HZ.out w4 (by (with_reducible repeat (first | exact HBQ.out | exact Below.refl _ _ | refine bl_t ?_ hb4 | refine bl_d ?_)))))
                    all_goals
                      clear hb4
                      go_wp2_with fail
                      go_roundg (l.length - (q + 1))
                      case measure => have := HQ.out; omega
                      case rel =>
                        refine ⟨q + 1, rfl, by simp, hid_intro ?_, Or.inl ⟨rfl, hid_intro ⟨HQ.out, ?_, ?_⟩⟩⟩
                        · with_reducible (first | exact HB4.out | exact bl_d HB4.out)
                        · with_reducible (first | exact HZ4.out | exact C7.dr HZ4.out)
                        · intro m hm
                          rcases Nat.lt_succ_iff_lt_or_eq.1 hm with h | h
                          · exact HF.out.2.2 m h
                          · rw [h]; exact HXE.out
                · have HE := hid_intro (HE0.out (fun m hm => HF.out.2.2 m (by have := HF.out.1; omega)))
                  obtain ⟨r0, r1, r2, r3, r4, r5, r6, q0, q1, q2, q3, q4, q5, q6⟩ := HRE.out wr HBQ.out
                  have hbf := HBX.out wr HBQ.out
                  go_wp2
                  refine bodyPost_ret (v := .tuple #[.agg #[.int .i64 0, .bool false, .string ⟨#[]⟩, .int .i64 0, .string ⟨#[]⟩, .slice none 0 0, .slice none 0 0], .int .i64 71]) (by simp [results, Tryd.results9, go_sem, *]) rfl ?_
                  rw [HP.out]
                  refine ⟨zf, by rw [HE.out]; rfl, by rw [HE.out]; exact zeroVI _ _, ?_⟩
                  with_reducible repeat (first | exact hbf | refine bl_s ?_ (Nat.le_succ _) _)
              · obtain ⟨a0, a1, a2, a3, a4, a5, a6, q0, q1, q2, q3, q4, q5, q6⟩ := HBC.out wr HBQ.out
                obtain ⟨j, hj, hqj, hxj, hC⟩ := HF.out
                obtain ⟨k2, n2, g2, e2, t2, la2, lm2, lc2, ka2, km2, kc2, z0, z1, z2, z3, z4, z5, z6⟩ := HSP.out j hj
                have HN2 : Hid (∀ w2, Below wo.heap.size wo w2 → RnR w v ps (.slice (some ⟨b, off, none⟩) ps.length pc) (i + 1) (((((((w2.setCell ⟨w.heap.size, 0, none⟩ (.int .i64 k2)).setCell ⟨w.heap.size, 1, none⟩ (.bool n2)).setCell ⟨w.heap.size, 2, none⟩ (.string g2)).setCell ⟨w.heap.size, 3, none⟩ (.int .i64 e2)).setCell ⟨w.heap.size, 4, none⟩ (.string t2)).setCell ⟨w.heap.size, 5, none⟩ (.slice la2 lm2 lc2)).setCell ⟨w.heap.size, 6, none⟩ (.slice ka2 km2 kc2))) := hid_intro (fun w2 hb => by
                  rw [← put7_eq w2 w.heap.size (G j) z0 z1 z2 z3 z4 z5 z6]
                  exact HN3.out j hj hxj w2 hb)
                rw [z0, z1, z2, z3, z4, z5, z6] at hC
                obtain ⟨r0, r1, r2, r3, r4, r5, r6, _, _, _, _, _, _, _⟩ := hC
                clear HF z0 z1 z2 z3 z4 z5 z6 hxj hqj hj
                by_cases hq : (q : Int) < (l.length : Int)
                all_goals
                  go_wp2_with fail
                  go_roundg (ps.length - (i + 1))
                  case measure => have := HLT.out; omega
                  case rel => exact ⟨i + 1, rfl, by simp, HLT.out, HN2.out _ HBQ.out⟩
          · have HE := hid_intro (HNO.out (plc_other c5 c6 x))
            have c5' : (k' == 5) = false := beq_eq_false_iff_ne.2 c5
            have c6' : (k' == 6) = false := beq_eq_false_iff_ne.2 c6
            clear c5 c6
            obtain ⟨a0, a1, a2, a3, a4, a5, a6, _, _, _, _, _, _, _⟩ := hbox3
            obtain ⟨r0, r1, r2, r3, r4, r5, r6, q0, q1, q2, q3, q4, q5, q6⟩ := HRE.out _ HB3.out
            have hbf := HBX.out _ HB3.out
            go_wp2
            refine bodyPost_ret (v := .tuple #[.agg #[.int .i64 0, .bool false, .string ⟨#[]⟩, .int .i64 0, .string ⟨#[]⟩, .slice none 0 0, .slice none 0 0], .int .i64 71]) (by simp [results, Tryd.results9, go_sem, *]) rfl ?_
            rw [HP.out]
            refine ⟨zf, by rw [HE.out]; rfl, by rw [HE.out]; exact zeroVI _ _, ?_⟩
            with_reducible repeat (first | exact hbf | refine bl_s ?_ (Nat.le_succ _) _)
      · have hI : ¬ (i : Int) < (ps.length : Int) := by omega
        have hfin : findJ v ps = some u := by rw [hfj, List.drop_eq_nil_of_le (by omega)]; rfl
        have HE : Hid (findR v s.data.toList = (u, 0)) := by show _ = _; rw [HFR.out, hfin]
        obtain ⟨k', n', g', e', t', la', lm', lc', ka', km', kc', y0, y1, y2, y3, y4, y5, y6⟩ := hvu.shape
        rw [y0, y1, y2, y3, y4, y5, y6] at hbox
        have HV := hid_intro (hvu.to7 y0 y1 y2 y3 y4 y5 y6)
        obtain ⟨a0, a1, a2, a3, a4, a5, a6, _, _, _, _, _, _, _⟩ := hbox
        obtain ⟨r0, r1, r2, r3, r4, r5, r6, q0, q1, q2, q3, q4, q5, q6⟩ := hres
        clear hfin hfj hown hvu y0 y1 y2 y3 y4 y5 y6 HFR hsu hshu
        go_wp2
        refine bodyPost_ret (v := .tuple #[.agg #[.int .i64 k', .bool n', .string g', .int .i64 e', .string t', .slice la' lm' lc', .slice ka' km' kc'], .int .i64 0]) (by simp [results, Tryd.results9, go_sem, *]) rfl ?_
        rw [HP.out]
        refine ⟨f7 (.int .i64 k') (.bool n') (.string g') (.int .i64 e') (.string t') (.slice la' lm' lc') (.slice ka' km' kc'), by rw [HE.out]; rfl, by rw [HE.out]; exact HV.out.carry (fun b hb _ => ⟨by repeat rw [Below.heap_setCell _ _ _ _ (fun e => hb (.inr (.inr e)))], fun h => h⟩), ?_⟩
        with_reducible repeat (first | exact hbel | refine bl_s ?_ (Nat.le_succ _) _)
end Go.Proofs.YtkbkedknoahhgaaDoor
