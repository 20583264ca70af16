/-
  A row of states put again, moved along. Conditions: there is room; numbers of at most 65536; at most 2^40 ranges.
-/
import Derived.Test.YtcgohdfpmfpfiaaXB4
import Derived.Test.YtcgohdfpmfpfiaaXB5
namespace Go.Proofs.Ytcgohdfpmfpfiaa
open Go.RowKit
attribute [local go_sem] setCell_drewN alloc_drewN

/-- Where a row of q states that begins at a place lies. -/
def rof (q a : Nat) : Nat := if q = 0 then 0 else a * 4
theorem wrap64_of {n : Int} (h1 : -9223372036854775808 ≤ n) (h2 : n ≤ 9223372036854775807) : wrap64 n = n := by unfold wrap64; omega
set_option maxRecDepth 100000 in
set_option maxHeartbeats 6400000 in
theorem again_any (lb sb cap : Nat) (Z : List Nat) (L : List ST) (w : World) (h : LZ w lb sb cap Z L) (a q : Nat) (haq : a + q ≤ L.length) (hroom : L.length + q ≤ cap)
    (hbd : ∀ s ∈ (L.drop a).take q, 0 ≤ s.a ∧ s.a ≤ 65536 ∧ 0 ≤ s.b ∧ s.b ≤ 65536 ∧ s.r.length ≤ 1099511627776) :
    Calls Try.prog 59 #[.pointer (some ⟨lb, 0, none⟩), .slice (some ⟨sb, rof q a, none⟩) q q, .int .i64 (a : Int)] w fun e w' => e = .returned (.tuple #[]) ∧ LZ w' lb sb cap Z (L ++ ((L.drop a).take q).map (shiftS ((L.length : Int) - (a : Int)))) ∧ But (two lb sb) w w' := by
  have hlen := h.len
  have hnx := nextZ_any lb sb cap Z L w h
  obtain ⟨P, hP⟩ : ∃ P : Ending → World → Prop, P = fun e w' => e = .returned (.tuple #[]) ∧ LZ w' lb sb cap Z (L ++ ((L.drop a).take q).map (shiftS ((L.length : Int) - (a : Int)))) ∧ But (two lb sb) w w' := ⟨_, rfl⟩
  rw [← hP]
  have HP := hid_intro hP
  clear hP
  obtain ⟨D, hDe⟩ : ∃ D, (L.length : Int) - (a : Int) = D := ⟨_, rfl⟩
  have hwr : wrap64 ((L.length : Int) - (a : Int)) = D := by rw [wrap64_of (by omega) (by omega)]; exact hDe
  have hD : 0 ≤ D ∧ D ≤ 65536 := by omega
  have HH := hid_intro h
  have HM := hid_intro (And.intro haq (And.intro hroom hbd))
  have hqI : (q : Int) ≤ 65536 := by omega
  have HRF : Hid (q ≠ 0 → rof q a = a * 4) := hid_intro (fun hq => if_neg hq)
  generalize rof q a = ro at *
  clear h haq hroom hbd hlen
  rw [hDe] at HP
  clear hDe
  go_enter Try.func59, Try.ntmps59
  go_wp2_with fail
  refine hnx.mono ?_; rintro e w0 ⟨rfl, hb0⟩
  have HB0 := hid_intro hb0
  clear hnx hb0
  go_wp2_with fail
  rw [hwr]
  clear hwr
  go_loopg [15] q (fun m s15 wr => ∃ i : Nat, i ≤ q ∧ m = q - i ∧ s15 = .int .i64 (i : Int) ∧ Hid (LZ wr lb sb cap Z (L ++ ((L.drop a).take i).map (shiftS D)) ∧ But (two lb sb) w wr))
  case atStart => exact ⟨0, Nat.zero_le _, rfl, rfl, by simpa using HH.out.below HB0.out, But.ofBelow HB0.out⟩
  case round =>
    obtain ⟨i, hi, rfl, rfl, HZ⟩ := hrel
    by_cases hlt : i < q
    · have hJ : (i : Int) < (q : Int) := by omega
      obtain rfl : ro = a * 4 := HRF.out (by omega)
      have hai : a + i < L.length := by have := HM.out.1; omega
      have hln : (L ++ ((L.drop a).take i).map (shiftS D)).length = L.length + i := by
        rw [List.length_append, List.length_map, List.length_take, List.length_drop]
        omega
      have hsa : sa (L ++ ((L.drop a).take i).map (shiftS D)) (a + i) = sa L (a + i) := by
        unfold sa; rw [List.getD_eq_getElem?_getD, List.getD_eq_getElem?_getD, List.getElem?_append_left hai]
      have hget : (L.drop a)[i]? = some (sa L (a + i)) := by
        rw [List.getElem?_drop, sa_get hai]; exact List.getElem?_eq_getElem hai
      have hmem : sa L (a + i) ∈ (L.drop a).take q := List.mem_of_getElem? (i := i) (by rw [List.getElem?_take, if_pos hlt]; exact hget)
      have htk : (L.drop a).take (i + 1) = (L.drop a).take i ++ [sa L (a + i)] := by rw [List.take_add_one, hget]; rfl
      have hbs := HM.out.2.2 _ hmem
      obtain ⟨⟨rv, g0, g1, g2, g3, hRx⟩, _⟩ := HZ.out.1.at (a + i) (by rw [hln]; omega)
      rw [hsa] at g0 g2 g3 hRx
      have e4 : (a + i) * 4 = a * 4 + i * 4 := by omega
      rw [e4] at g0 g1 g2 g3
      have HRO : Hid (L.length + i + 1 ≤ cap) := hid_intro (by have := HM.out.2.1; omega)
      have HLN := hid_intro hln
      obtain ⟨ao, cc, rfl, _⟩ := hRx.shape
      generalize sa L (a + i) = x at *
      obtain ⟨K, r, A, B⟩ := x
      dsimp only at *
      have hwA : wrap64 (A + D) = A + D := wrap64_of (by omega) (by omega)
      have hwB : wrap64 (B + D) = B + D := wrap64_of (by omega) (by omega)
      have hrl := hbs.2.2.2.2
      clear hbs hmem hget hsa e4 hai hln
      by_cases k2 : K = 2
      · subst k2
        have HTK : Hid ((L.drop a).take (i + 1) = (L.drop a).take i ++ [⟨2, r, A, B⟩]) := hid_intro htk
        clear htk
        obtain ⟨V, hV⟩ : ∃ V, wr.alloc (.cells #[.int .i64 2, .slice ao r.length cc, .int .i64 (A + D), .int .i64 (B + D)] 40) = V := ⟨_, rfl⟩
        have hbV : Below wr.heap.size wr V := hV ▸ vb_a (Below.refl _ _) _
        have kV : Bk V wr.heap.size #[.int .i64 2, .slice ao r.length cc, .int .i64 (A + D), .int .i64 (B + D)] := hV ▸ Bk.new _ _ _
        have hcl := clone_any r (.slice ao r.length cc) _ V (hRx.kept hbV) hrl
        have HV := hid_intro hV
        have HBV := hid_intro hbV
        have HKV := hid_intro kV
        clear hV hbV kV
        go_wp2_with fail
        rw [HV.out]
        refine hcl.mono ?_; rintro e w3 ⟨v3, rfl, ho3, hb3⟩
        obtain ⟨ao3, c3, rfl⟩ := ho3.shape
        have k3 := HKV.out.bel hb3
        have d1 := k3.cell 1
        have z1 := k3.frz 1
        obtain ⟨V2, hV2⟩ : ∃ V2, w3.setCell ⟨wr.heap.size, 1, none⟩ (.slice ao3 r.length c3) = V2 := ⟨_, rfl⟩
        have hbw3 : Below wr.heap.size wr w3 := vb_t HBV.out hb3
        have hb2 : Below wr.heap.size wr V2 := hV2 ▸ vb_s hbw3 (Nat.le_refl _) _
        have k2 : Bk V2 wr.heap.size #[.int .i64 2, .slice ao3 r.length c3, .int .i64 (A + D), .int .i64 (B + D)] := hV2 ▸ k3.set 1 _ rfl
        have ho2 : OwnR V2 wr.heap.size (.slice ao3 r.length c3) r := by
          rw [← hV2]
          exact (OwnR.away (ho3.mono HBV.out.size) (fun e => by have := (ho3.lt _ e).1; have h9 : wr.heap.size < V.heap.size := HKV.out.lt; simp at this; omega) _)
        have HV2 := hid_intro hV2
        have HB2 := hid_intro hb2
        have HO2 := hid_intro ho2
        have HLZ := hid_intro HZ.out.1
        obtain ⟨M, hM, _, _, _, hown, hRs, _, _⟩ := HZ.out.1
        have hown2 : ∀ w', Below wr.heap.size wr w' → w'.ownsRow 0 40 4 (.slice (some ⟨sb, 0, none⟩) (L.length + i) cap) (L.length + i) (flatS M) := fun w' hb => by
          have := hown.kept (w' := w') (row := none) ⟨hb.os, hb.tape, hb.output, hb.size, fun b hl _ => hb.block b hl⟩ (Or.inr (fun e => by cases e))
          rw [HLN.out] at this
          exact this
        have HO := hid_intro hown2
        have HMR := hid_intro (And.intro hM hRs)
        have HS : Hid (∀ w', But (fun b => b = sb) wr w' → w'.cell? ⟨lb, 0, none⟩ = some (.slice (some ⟨sb, 0, none⟩) (L.length + i) cap) ∧ w'.frozen? ⟨lb, 0, none⟩ = false) := hid_intro (fun w' hb => by
          have hc := HLZ.out.cell
          have e := hb.block lb HLZ.out.lt.1 HLZ.out.ne
          rw [HLN.out] at hc
          exact ⟨(World.cell?_of_block (w := wr) (w' := w') e).trans hc.1, by rw [← hc.2]; simp only [World.frozen?, e]⟩)
        obtain ⟨l2, z2⟩ := HS.out V2 (But.ofBelow hb2)
        have l3 : ∀ o, (V2.alloc o).cell? ⟨lb, 0, none⟩ = some (.slice (some ⟨sb, 0, none⟩) (L.length + i) cap) := fun o => (HS.out _ (But.ofBelow (vb_a hb2 o))).1
        have m0 := k2.cell 0
        have m1 := k2.cell 1
        have m2 := k2.cell 2
        have m3 := k2.cell 3
        have n0 : ∀ o, (V2.alloc o).cell? ⟨wr.heap.size, 0, none⟩ = some (.int .i64 2) := fun o => (k2.al o).cell 0
        have n1 : ∀ o, (V2.alloc o).cell? ⟨wr.heap.size, 1, none⟩ = some (.slice ao3 r.length c3) := fun o => (k2.al o).cell 1
        have n2 : ∀ o, (V2.alloc o).cell? ⟨wr.heap.size, 2, none⟩ = some (.int .i64 (A + D)) := fun o => (k2.al o).cell 2
        have n3 : ∀ o, (V2.alloc o).cell? ⟨wr.heap.size, 3, none⟩ = some (.int .i64 (B + D)) := fun o => (k2.al o).cell 3
        clear hV2 hbw3 hb2 k2 ho2 hM hRs hown hown2 hcl ho3 hb3 k3 hRx
        go_wp2_with fail
        rw [HV2.out]
        clear d1 z1 g0 g1 g2 g3
        go_region_law (first | (refine step_append_st (by rfl) _ _ (by rfl) sb (L.length + i) cap (flatS M) (by rfl) V2.heap.size (.int .i64 2) (.slice ao3 r.length c3) (.int .i64 (A + D)) (.int .i64 (B + D)) (by rfl) HRO.out ⟨rfl, rfl, rfl, rfl⟩ ?_ ?_ ?_; (with_reducible repeat (first | exact Bk.new _ _ _ | refine Bk.dw ?_)); (refine HO.out _ (vb_t HB2.out ?_); with_reducible repeat (first | exact Below.refl _ _ | refine vb_d ?_ | refine vb_a ?_ _)); intro w6 ho6 hg6; have hB6 : But (fun b => b = sb) wr w6 := But.grown (But.ofBelow (vb_t HB2.out (by with_reducible repeat (first | exact Below.refl _ _ | refine vb_d ?_ | refine vb_a ?_ _)))) hg6 (fun b e => by injection e with e; exact Or.inl e.symm); obtain ⟨l6, z6⟩ := HS.out w6 hB6) | fail)
        all_goals
          have hput := LZ.put (w := wr) (lb := lb) (sb := sb) (cap := cap) (Z := Z) ⟨2, r, A + D, (B + D)⟩ (.slice ao3 r.length c3) M HMR.out.1 HLZ.out HMR.out.2 (vb_t HB2.out (by with_reducible repeat (first | exact Below.refl _ _ | refine vb_d ?_ | refine vb_a ?_ _))) hg6 (by rw [HLN.out]; exact ho6) (Or.inl (OwnR.below (w := V2) HO2.out (by with_reducible repeat (first | exact Below.refl _ _ | refine vb_d ?_ | refine vb_a ?_ _))))
          rw [HLN.out] at hput
          have HPU := hid_intro hput
          clear hput ho6 hg6 hB6 l6 z6 l2 z2 l3 m0 m1 m2 m3 n0 n1 n2 n3 HS HO HMR HLZ HO2 HB2 HV2 HKV HBV HV
          go_wp2_with fail
          go_roundg (q - (i + 1))
          case measure => omega
          case rel => exact ⟨i + 1, by omega, rfl, by simp, by
            rw [HTK.out, List.map_append, ← List.append_assoc]
            exact HPU.out.1, HZ.out.2.trans HPU.out.2⟩
      · have HTK : Hid ((L.drop a).take (i + 1) = (L.drop a).take i ++ [⟨K, r, A, B⟩]) := hid_intro htk
        have HK2 : Hid (shiftS D ⟨K, r, A, B⟩ = ⟨K, r, A + D, B⟩) := hid_intro (by unfold shiftS; dsimp only; rw [if_neg k2])
        clear htk
        obtain ⟨V, hV⟩ : ∃ V, wr.alloc (.cells #[.int .i64 K, .slice ao r.length cc, .int .i64 (A + D), .int .i64 B] 40) = V := ⟨_, rfl⟩
        have hbV : Below wr.heap.size wr V := hV ▸ vb_a (Below.refl _ _) _
        have kV : Bk V wr.heap.size #[.int .i64 K, .slice ao r.length cc, .int .i64 (A + D), .int .i64 B] := hV ▸ Bk.new _ _ _
        have hcl := clone_any r (.slice ao r.length cc) _ V (hRx.kept hbV) hrl
        have HV := hid_intro hV
        have HBV := hid_intro hbV
        have HKV := hid_intro kV
        clear hV hbV kV
        go_wp2_with fail
        rw [HV.out]
        refine hcl.mono ?_; rintro e w3 ⟨v3, rfl, ho3, hb3⟩
        obtain ⟨ao3, c3, rfl⟩ := ho3.shape
        have k3 := HKV.out.bel hb3
        have d1 := k3.cell 1
        have z1 := k3.frz 1
        obtain ⟨V2, hV2⟩ : ∃ V2, w3.setCell ⟨wr.heap.size, 1, none⟩ (.slice ao3 r.length c3) = V2 := ⟨_, rfl⟩
        have hbw3 : Below wr.heap.size wr w3 := vb_t HBV.out hb3
        have hb2 : Below wr.heap.size wr V2 := hV2 ▸ vb_s hbw3 (Nat.le_refl _) _
        have k2 : Bk V2 wr.heap.size #[.int .i64 K, .slice ao3 r.length c3, .int .i64 (A + D), .int .i64 B] := hV2 ▸ k3.set 1 _ rfl
        have ho2 : OwnR V2 wr.heap.size (.slice ao3 r.length c3) r := by
          rw [← hV2]
          exact (OwnR.away (ho3.mono HBV.out.size) (fun e => by have := (ho3.lt _ e).1; have h9 : wr.heap.size < V.heap.size := HKV.out.lt; simp at this; omega) _)
        have HV2 := hid_intro hV2
        have HB2 := hid_intro hb2
        have HO2 := hid_intro ho2
        have HLZ := hid_intro HZ.out.1
        obtain ⟨M, hM, _, _, _, hown, hRs, _, _⟩ := HZ.out.1
        have hown2 : ∀ w', Below wr.heap.size wr w' → w'.ownsRow 0 40 4 (.slice (some ⟨sb, 0, none⟩) (L.length + i) cap) (L.length + i) (flatS M) := fun w' hb => by
          have := hown.kept (w' := w') (row := none) ⟨hb.os, hb.tape, hb.output, hb.size, fun b hl _ => hb.block b hl⟩ (Or.inr (fun e => by cases e))
          rw [HLN.out] at this
          exact this
        have HO := hid_intro hown2
        have HMR := hid_intro (And.intro hM hRs)
        have HS : Hid (∀ w', But (fun b => b = sb) wr w' → w'.cell? ⟨lb, 0, none⟩ = some (.slice (some ⟨sb, 0, none⟩) (L.length + i) cap) ∧ w'.frozen? ⟨lb, 0, none⟩ = false) := hid_intro (fun w' hb => by
          have hc := HLZ.out.cell
          have e := hb.block lb HLZ.out.lt.1 HLZ.out.ne
          rw [HLN.out] at hc
          exact ⟨(World.cell?_of_block (w := wr) (w' := w') e).trans hc.1, by rw [← hc.2]; simp only [World.frozen?, e]⟩)
        obtain ⟨l2, z2⟩ := HS.out V2 (But.ofBelow hb2)
        have l3 : ∀ o, (V2.alloc o).cell? ⟨lb, 0, none⟩ = some (.slice (some ⟨sb, 0, none⟩) (L.length + i) cap) := fun o => (HS.out _ (But.ofBelow (vb_a hb2 o))).1
        have m0 := k2.cell 0
        have m1 := k2.cell 1
        have m2 := k2.cell 2
        have m3 := k2.cell 3
        have n0 : ∀ o, (V2.alloc o).cell? ⟨wr.heap.size, 0, none⟩ = some (.int .i64 K) := fun o => (k2.al o).cell 0
        have n1 : ∀ o, (V2.alloc o).cell? ⟨wr.heap.size, 1, none⟩ = some (.slice ao3 r.length c3) := fun o => (k2.al o).cell 1
        have n2 : ∀ o, (V2.alloc o).cell? ⟨wr.heap.size, 2, none⟩ = some (.int .i64 (A + D)) := fun o => (k2.al o).cell 2
        have n3 : ∀ o, (V2.alloc o).cell? ⟨wr.heap.size, 3, none⟩ = some (.int .i64 B) := fun o => (k2.al o).cell 3
        clear hV2 hbw3 hb2 k2 ho2 hM hRs hown hown2 hcl ho3 hb3 k3 hRx
        go_wp2_with fail
        rw [HV2.out]
        clear d1 z1 g0 g1 g2 g3
        go_region_law (first | (refine step_append_st (by rfl) _ _ (by rfl) sb (L.length + i) cap (flatS M) (by rfl) V2.heap.size (.int .i64 K) (.slice ao3 r.length c3) (.int .i64 (A + D)) (.int .i64 B) (by rfl) HRO.out ⟨rfl, rfl, rfl, rfl⟩ ?_ ?_ ?_; (with_reducible repeat (first | exact Bk.new _ _ _ | refine Bk.dw ?_)); (refine HO.out _ (vb_t HB2.out ?_); with_reducible repeat (first | exact Below.refl _ _ | refine vb_d ?_ | refine vb_a ?_ _)); intro w6 ho6 hg6; have hB6 : But (fun b => b = sb) wr w6 := But.grown (But.ofBelow (vb_t HB2.out (by with_reducible repeat (first | exact Below.refl _ _ | refine vb_d ?_ | refine vb_a ?_ _)))) hg6 (fun b e => by injection e with e; exact Or.inl e.symm); obtain ⟨l6, z6⟩ := HS.out w6 hB6) | fail)
        all_goals
          have hput := LZ.put (w := wr) (lb := lb) (sb := sb) (cap := cap) (Z := Z) ⟨K, r, A + D, B⟩ (.slice ao3 r.length c3) M HMR.out.1 HLZ.out HMR.out.2 (vb_t HB2.out (by with_reducible repeat (first | exact Below.refl _ _ | refine vb_d ?_ | refine vb_a ?_ _))) hg6 (by rw [HLN.out]; exact ho6) (Or.inl (OwnR.below (w := V2) HO2.out (by with_reducible repeat (first | exact Below.refl _ _ | refine vb_d ?_ | refine vb_a ?_ _))))
          rw [HLN.out] at hput
          have HPU := hid_intro hput
          clear hput ho6 hg6 hB6 l6 z6 l2 z2 l3 m0 m1 m2 m3 n0 n1 n2 n3 HS HO HMR HLZ HO2 HB2 HV2 HKV HBV HV
          go_wp2_with fail
          go_roundg (q - (i + 1))
          case measure => omega
          case rel => exact ⟨i + 1, by omega, rfl, by simp, by
            rw [HTK.out, List.map_append, List.map_singleton, HK2.out, ← List.append_assoc]
            exact HPU.out.1, HZ.out.2.trans HPU.out.2⟩
    · have hJ : ¬ (i : Int) < (q : Int) := by omega
      have hiq : i = q := by omega
      go_wp2_with fail
      go_end0
      rw [HP.out]
      have := HZ.out
      rw [hiq] at this
      exact ⟨rfl, this⟩
end Go.Proofs.Ytcgohdfpmfpfiaa
