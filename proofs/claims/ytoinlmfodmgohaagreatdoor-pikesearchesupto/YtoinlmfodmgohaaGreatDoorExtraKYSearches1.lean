/-
  The document's states at a place: the loop. Conditions: there is room.
-/
import Derived.Test.YtoinlmfodmgohaaGreatDoorExtraKYSearches0
namespace Go.Proofs.YtoinlmfodmgohaaGreatDoor
open Go.RowKit Go.Maps
attribute [local go_sem] setCell_drewN alloc_drewN

/-- What the loop keeps in memory. -/
def SpI (w : World) (gm n : Nat) (t H W : List Int) (L : List ST) (F : Int → Prop) (p : Nat) (vt : Value) (wr : World) : Prop :=
  OwnI wr w.heap.size vt W ∧ OwnI wr w.heap.size (.slice (some ⟨gm, 0, none⟩) n n) (mkL H n) ∧ vt.ownBlock ≠ some gm ∧ Lp L (letsB t p) F H W ∧ Below w.heap.size w wr
theorem sp_take {w : World} {gm n p g cap : Nat} {t H W : List Int} {s : Int} {L : List ST} {F : Int → Prop} {wr : World} (h : SpI w gm n t H (W ++ [s]) L F p (.slice (some ⟨g, 0, none⟩) (W.length + 1) cap) wr) (hs : s ∈ H) : SpI w gm n t H W L F p (.slice (some ⟨g, 0, none⟩) W.length cap) wr := by
  obtain ⟨h1, h2, h3, h4, h5⟩ := h
  have ht := h1.take W.length (by simp)
  rw [List.take_left' rfl] at ht
  exact ⟨ht, h2, h3, h4.in2 hs, h5⟩
/-- A mark is set. -/
theorem sp_mark {w : World} {gm n p g cap x : Nat} {t H W : List Int} {L : List ST} {F : Int → Prop} {wr : World} (h : SpI w gm n t H (W ++ [(x : Int)]) L F p (.slice (some ⟨g, 0, none⟩) (W.length + 1) cap) wr) :
    OwnI (wr.setCell ⟨gm, x, none⟩ (.int .i64 1)) w.heap.size (.slice (some ⟨g, 0, none⟩) W.length cap) W ∧ OwnI (wr.setCell ⟨gm, x, none⟩ (.int .i64 1)) w.heap.size (.slice (some ⟨gm, 0, none⟩) n n) (mkL (H ++ [(x : Int)]) n) ∧ Below w.heap.size w (wr.setCell ⟨gm, x, none⟩ (.int .i64 1)) := by
  obtain ⟨h1, h2, h3, h4, h5⟩ := h
  have ht := h1.take W.length (by simp)
  rw [List.take_left' rfl] at ht
  refine ⟨ht.blk (fun b hb => Below.heap_setCell wr ⟨gm, x, none⟩ _ b (fun e => h3 (by have e' : b = gm := e; rw [← e']; exact hb))), ?_, h5.setCell (p := ⟨gm, x, none⟩) (h2.lt rfl).1 _⟩
  rw [← mkL_set]
  exact h2.stored (mkL_len H n) x 1 ⟨by omega, by omega⟩
/-- A row grows. -/
theorem own_other {w wr w2 : World} {gm n g cap : Nat} {v : Value} {M A : List Int} {y : Int} (hB : w.heap.size ≤ wr.heap.size) (hm : OwnI wr w.heap.size (.slice (some ⟨gm, 0, none⟩) n n) M) (hv : OwnI wr w.heap.size v A) (hne : v.ownBlock ≠ some gm) (hb : Below w.heap.size w wr)
    (hg : (wr.alloc (.cells #[.int .i64 y] 3)).grownBy w2 v.ownBlock) (hloc : v.ownBlock = some g ∨ wr.heap.size < g) : OwnI w2 w.heap.size (.slice (some ⟨gm, 0, none⟩) n n) M ∧ (Value.slice (some ⟨g, 0, none⟩) (A.length + 1) cap).ownBlock ≠ some gm ∧ Below w.heap.size w w2 := by
  refine ⟨(hm.bel (vb_a (Below.refl _ _) _)).gr hg (fun b hb e => hne (by simp only [Value.ownBlock, Option.some.injEq] at hb; subst hb; exact e)), fun e => ?_, ?_⟩
  · simp only [Value.ownBlock, Option.some.injEq] at e
    subst e
    rcases hloc with h | h
    · exact hne h
    · have h2 : g < wr.heap.size := (hm.lt rfl).2
      omega
  · exact Below.grown (hb.alloc hB _) hg (Nat.le_trans hB (by simp)) (fun k hk => (hv.lt hk).1)
theorem sp_start {w W2 w3 : World} {n p : Nat} {t Fl : List Int} {L : List ST} {F : Int → Prop} {vt : Value} (hs : W2.heap.size = w.heap.size + 2) (hm : OwnI W2 w.heap.size (.slice (some ⟨w.heap.size, 0, none⟩) n n) (mkL [] n)) (hb2 : Below w.heap.size w W2) (ho3 : OwnI w3 w.heap.size vt Fl) (hb3 : Below w.heap.size W2 w3)
    (hloc : ∀ b, vt.ownBlock = some b → (Value.slice (some ⟨w.heap.size + 1, 0, none⟩) 0 0).ownBlock = some b ∨ W2.heap.size ≤ b) (hk : ∀ b, b < W2.heap.size → (Value.slice (some ⟨w.heap.size + 1, 0, none⟩) 0 0).ownBlock ≠ some b → w3.heap[b]? = W2.heap[b]?) (hst : Lp L (letsB t p) F [] Fl) : SpI w w.heap.size n t [] Fl L F p vt w3 := by
  refine ⟨ho3, hm.blk (fun b hb => ?_), fun e => ?_, hst, hb2.trans hb3⟩
  · have hb' : some w.heap.size = some b := hb
    injection hb' with hb'
    refine hk b (by omega) (fun e => ?_)
    have e' : some (w.heap.size + 1) = some b := e
    injection e' with e'
    omega
  · rcases hloc _ e with h | h
    · have h' : some (w.heap.size + 1) = some w.heap.size := h
      injection h' with h'
      omega
    · omega
set_option maxRecDepth 100000 in
set_option maxHeartbeats 6400000 in
theorem spread_any (L : List ST) (hL : VS L) (hlL : L.length ≤ 1048576) (hok : ∀ s ∈ L, s.ok) (t : List Int) (hlt : t.length ≤ 1048576) (p : Nat) (hp : p ≤ t.length) (lv vf tv : Value) (Fl : List Int) (B' : Nat) (w : World) (X Y : Nat → Prop) (hS : SI w X L lv) (hT : II w Y t tv) (hF : OwnI w B' vf Fl) (hnil : Fl = [] → vf = .slice none 0 0) (hin : ∀ x ∈ Fl, InL L x) (hfl : Fl.length ≤ 1073741824) :
    Calls Tryz.prog 38 #[lv, vf, tv, .int .i64 (p : Int)] w fun e w' => ∃ gm H, e = .returned (.slice (some ⟨gm, 0, none⟩) L.length L.length) ∧ OwnI w' w.heap.size (.slice (some ⟨gm, 0, none⟩) L.length L.length) (mkL H L.length) ∧ H.Nodup ∧ (∀ x, x ∈ H ↔ Rch L (letsB t p) (fun y => y ∈ Fl) x) ∧ Below w.heap.size w w' := by
  obtain ⟨P, hP⟩ : ∃ P : Ending → World → Prop, P = fun e w' => ∃ gm H, e = .returned (.slice (some ⟨gm, 0, none⟩) L.length L.length) ∧ OwnI w' w.heap.size (.slice (some ⟨gm, 0, none⟩) L.length L.length) (mkL H L.length) ∧ H.Nodup ∧ (∀ x, x ∈ H ↔ Rch L (letsB t p) (fun y => y ∈ Fl) x) ∧ Below w.heap.size w w' := ⟨_, rfl⟩
  rw [← hP]
  have HP := hid_intro hP
  obtain ⟨la, lc, rfl⟩ : ∃ la lc, lv = .slice la L.length lc := by obtain ⟨la, lc, rfl, _⟩ := hS; exact ⟨la, lc, rfl⟩
  obtain ⟨ta, tc, rfl⟩ : ∃ ta tc, tv = .slice ta t.length tc := by obtain ⟨ta, tc, rfl, _⟩ := hT; exact ⟨ta, tc, rfl⟩
  obtain ⟨fo, fc, rfl, _⟩ := hF.form
  obtain ⟨i0, hi, hz0, hz1, hz2⟩ := info_parts infoInt
  have hlI : (L.length : Int) ≤ 1048576 := by omega
  have hmk : ∀ w, (Instr.makeSlice 32 (.int .i64 (L.length : Int)) (.int .i64 (L.length : Int))).run Tryz.prog w = .ok (.slice (some ⟨w.heap.size, 0, none⟩) L.length L.length) (w.alloc (.cells (madeCells #[.int .i64 0] L.length) 3)) := by
    intro w
    have := run_make (P := Tryz.prog) w 32 3 i0 (.int .i64 0) Tryz.underlying32 hi hz0 .i64 .i64 (L.length : Int) (L.length : Int) (by omega) (by omega) (by rw [hz2]; omega) (by omega)
    rw [hz1] at this
    simpa [Value.cells] using this
  obtain ⟨W1, hW1⟩ : ∃ W1, w.alloc (.cells (madeCells #[.int .i64 0] L.length) 3) = W1 := ⟨_, rfl⟩
  have hb1 : Below w.heap.size w W1 := hW1 ▸ vb_a (Below.refl _ _) _
  have hm1 : OwnI W1 w.heap.size (.slice (some ⟨w.heap.size, 0, none⟩) L.length L.length) (mkL [] L.length) := by
    refine ⟨?_, fun x hx => by unfold mkL at hx; simp at hx; obtain ⟨_, _, rfl⟩ := hx; exact ⟨by omega, by omega⟩⟩
    have h := World.ownsRow_lit (base := w.heap.size) (e := 3) (size := 1) w (madeCells #[.int .i64 0] L.length) L.length (Nat.le_refl _) (by unfold maxLen; omega) (by rw [size_madeCells]; omega)
    rw [hW1, toList_madeCells_one, ← mkL_nil] at h
    rw [mkL_len]
    exact h
  have HM1 := hid_intro hm1
  have HB1 := hid_intro hb1
  have HF1 := hid_intro (hF.bel hb1)
  have HS := hid_intro hS
  have HT := hid_intro hT
  obtain ⟨W2, hW2⟩ : ∃ W2, W1.alloc (.cells #[] 3) = W2 := ⟨_, rfl⟩
  have hW12 : (w.alloc (.cells (madeCells #[.int .i64 0] L.length) 3)).alloc (.cells #[] 3) = W2 := by rw [hW1]; exact hW2
  have hb12 : Below W1.heap.size W1 W2 := hW2 ▸ vb_a (Below.refl _ _) _
  have s1 : W1.heap.size = w.heap.size + 1 := by rw [← hW1]; simp
  have s2 : W2.heap.size = w.heap.size + 2 := by rw [← hW2]; simp [s1]
  have ho2 : OwnI W2 w.heap.size (.slice (some ⟨w.heap.size + 1, 0, none⟩) 0 0) [] := by
    refine ⟨?_, fun x hx => by simp at hx⟩
    have h := World.ownsRow_lit (base := w.heap.size) (e := 3) (size := 1) W1 #[] 0 (by omega) (Nat.zero_le _) rfl
    rw [hW2, s1] at h
    exact h
  have HW2 := hid_intro hW12
  have HO2 := hid_intro ho2
  have HF2 := hid_intro (HF1.out.bel hb12)
  have HM2 := hid_intro (HM1.out.bel hb12)
  have HB2 := hid_intro (vb_t hb1 hb12)
  have HSZ2 := hid_intro s2
  have HSL := hid_intro (show w.heap.size ≤ W2.heap.size by omega)
  have HFL := hid_intro (show Fl.length ≤ 1099511627776 by omega)
  have HST := hid_intro (Lp.start (L := L) (g := letsB t p) hin)
  have HNIL := hid_intro hnil
  have HLL := hid_intro (And.intro hL (And.intro hlL (And.intro hok (And.intro hlt (And.intro hp hfl)))))
  clear hP hS hT hF hin hnil hW1 hb1 hm1 hi hz0 hz1 hz2 hL hlL hok hlt hp hfl hW2 hW12 hb12 s1 s2 ho2 HF1 HM1 HB1
  go_enter Tryz.func38, Tryz.ntmps38
  go_wp2_with (at_builtin; rw [HW2.out]; refine wpList_append_is rfl _ _ rfl w.heap.size (.slice (some ⟨w.heap.size + 1, 0, none⟩) 0 0) rfl HO2.out HSL.out B' (.slice fo Fl.length fc) Fl rfl HF2.out HNIL.out HFL.out ?_; intro v3 w3 ho3 hb3 hloc3 hk3; obtain ⟨vo, vc, hv3, _⟩ := ho3.form; subst hv3; have hsp := sp_start (n := L.length) HSZ2.out HM2.out HB2.out ho3 hb3 hloc3 hk3 HST.out; have HSP := hid_intro hsp; clear hsp ho3 hb3 hloc3 hk3)
  go_loopg [10] (3 * L.length + Fl.length) (fun mm s10 wr => ∃ (H W : List Int) (vt : Value), s10 = vt ∧ mm = 3 * (L.length - H.length) + W.length ∧ mm ≤ 3 * L.length + Fl.length ∧ Hid (SpI w w.heap.size L.length t H W L (fun y => y ∈ Fl) p vt wr))
  case atStart => exact ⟨[], Fl, _, rfl, by simp, by simp, HSP⟩
  case round =>
    obtain ⟨H, W, vt, rfl, rfl, hm, HI⟩ := hrel
    rcases List.eq_nil_or_concat W with rfl | ⟨W1, s, hWs⟩
    · obtain ⟨vo, vc, hv, _⟩ := HI.out.1.form
      subst hv
      go_wp2_with fail
      rw [HP.out]
      exact ⟨w.heap.size, H, rfl, HI.out.2.1, HI.out.2.2.2.1.grd.nd, HI.out.2.2.2.1.done, HI.out.2.2.2.2⟩
    · rw [List.concat_eq_append] at hWs
      subst hWs
      have hsi := HI.out.2.2.2.1.grd.inW s (by simp)
      obtain ⟨x, rfl⟩ : ∃ x : Nat, s = (x : Int) := ⟨s.toNat, by have := hsi.1; omega⟩
      have hxl : x < L.length := by have := hsi.2; omega
      obtain ⟨vo, vc, hv, hv1, hv2, hv3, _⟩ := HI.out.1.form
      subst hv
      obtain ⟨g, hvo⟩ := hv3 (by simp)
      subst hvo
      have hlen : (W1 ++ [(x : Int)]).length = W1.length + 1 := by simp
      rw [hlen] at HI hv1 ⊢
      have hcell : wr.cell? ⟨g, W1.length, none⟩ = some (.int .i64 (x : Int)) := by
        have ho := HI.out.1.1
        rw [hlen] at ho
        rw [ho.cellAt _ (by omega)]
        simp [ivs]
      have hmc : wr.cell? ⟨w.heap.size, x, none⟩ = some (.int .i64 (if (x : Int) ∈ H then (1 : Int) else 0)) := by
        have ho := HI.out.2.1.1
        rw [mkL_len] at ho
        rw [ho.cellAt _ (by omega), ← mkL_at H L.length x hxl]
        unfold ivs ia
        rw [List.getElem?_map, List.getElem?_eq_getElem (by rw [mkL_len]; exact hxl), List.getD_eq_getElem?_getD, List.getElem?_eq_getElem (by rw [mkL_len]; exact hxl)]; rfl
      have hmf : wr.frozen? ⟨w.heap.size, x, none⟩ = false := by
        have ho := HI.out.2.1.1
        rw [mkL_len] at ho
        exact ho.frozenAt x
      obtain ⟨bl, ol, capl, rv, hlv, _, _, _, hblt, ⟨g0, g1, g2, g3⟩, _⟩ := HS.out.cells hsi
      injection hlv with hla hlc1 hlc2
      subst hla
      subst hlc2
      rw [Int.toNat_natCast] at g0 g1 g2 g3
      have HC : Hid (∀ w', Below w.heap.size w w' → w'.cell? ⟨bl, ol + x * 4, none⟩ = some (.int .i64 (sx L (x : Int)).k) ∧ w'.cell? ⟨bl, ol + x * 4 + 2, none⟩ = some (.int .i64 (sx L (x : Int)).a) ∧ w'.cell? ⟨bl, ol + x * 4 + 3, none⟩ = some (.int .i64 (sx L (x : Int)).b)) := hid_intro (fun w' hb => ⟨(hb.cell (p := ⟨bl, ol + x * 4, none⟩) hblt).trans g0, (hb.cell (p := ⟨bl, ol + x * 4 + 2, none⟩) hblt).trans g2, (hb.cell (p := ⟨bl, ol + x * 4 + 3, none⟩) hblt).trans g3⟩)
      have HOK := hid_intro (HLL.out.2.2.1 (sx L (x : Int)) (sa_mem (by omega)))
      have HSI := hid_intro hsi
      have hm' : 3 * (L.length - H.length) + (W1.length + 1) ≤ 3 * L.length + Fl.length := by rw [hlen] at hm; exact hm
      have HM := hid_intro hm'
      have hWb : W1.length ≤ 1099511627000 := by have := HLL.out.2.1; have := HLL.out.2.2.2.2.2; omega
      have HXL := hid_intro hxl
      obtain ⟨M, hMM⟩ : ∃ M, W1.length = M := ⟨_, rfl⟩
      have j0 : (0 : Int) < (M : Int) + 1 := by omega
      have j1 : (M : Int) < (M : Int) + 1 := by omega
      have j2 : (M : Int) + 1 ≤ 9223372036854775807 := by omega
      have j3 : (M : Int) ≤ (vc : Int) := by omega
      have j5 : ((M + 1 : Nat) : Int) - 1 = (M : Int) := by omega
      have jx : (x : Int) < (L.length : Int) := by omega
      have HMM := hid_intro hMM
      rw [hMM] at hcell
      by_cases hin : (x : Int) ∈ H
      · rw [if_pos hin] at hmc
        have HN := hid_intro (sp_take HI.out hin)
        rw [hMM] at HN ⊢
        clear hin hm hm' hlen hWb hMM hxl hsi g0 g1 g2 g3 hblt hv1 hv2 hv3 hlc1 HST HSP
        go_wp2_with fail
        go_roundg (3 * (L.length - H.length) + M)
        case measure => have := HMM.out; simp only [List.length_append, List.length_cons, List.length_nil]; omega
        case rel => exact ⟨H, W1, _, rfl, by rw [HMM.out], by have := HM.out; have := HMM.out; omega, HN⟩
      · rw [if_neg hin] at hmc
        have hmk := sp_mark HI.out
        have hle := HI.out.2.2.2.1.grd.le
        have hle1 : H.length + 1 ≤ L.length := by
          have := (Lp.out2 HLL.out.1 (letsB_gg t p) (A := (if letsB t p (sx L (x : Int)).k = true then [(sx L (x : Int)).a] else []) ++ (if (sx L (x : Int)).k = 2 then [(sx L (x : Int)).b] else [])) HI.out.2.2.2.1 hin (fun y hy => by
            rcases List.mem_append.1 hy with hy | hy
            · by_cases e : letsB t p (sx L (x : Int)).k = true
              · rw [if_pos e] at hy; simp at hy; exact Or.inl ⟨hy, e⟩
              · rw [if_neg e] at hy; simp at hy
            · by_cases e : (sx L (x : Int)).k = 2
              · rw [if_pos e] at hy; simp at hy; exact Or.inr ⟨hy, e⟩
              · rw [if_neg e] at hy; simp at hy) (fun e => by rw [if_pos e]; simp) (fun e => by rw [if_pos e]; simp)).grd.le
          simpa using this
        have HOUT := hid_intro (fun A => Lp.out2 (A := A) HLL.out.1 (letsB_gg t p) HI.out.2.2.2.1 hin)
        have HLE := hid_intro hle1
        obtain ⟨W5, hW5⟩ : ∃ W5, wr.setCell ⟨w.heap.size, x, none⟩ (.int .i64 1) = W5 := ⟨_, rfl⟩
        rw [hW5] at hmk
        have HMK := hid_intro hmk
        have HW5 := hid_intro hW5
        obtain ⟨q0, q2, q3⟩ := HC.out W5 hmk.2.2
        have q0' := q0
        rw [← hW5] at q0'
        have HOP := hid_intro (opens_any t (.slice ta t.length tc) (sx L (x : Int)).k p HLL.out.2.2.2.2.1 HLL.out.2.2.2.1 W5 Y (HT.out.kept hmk.2.2))
        have HWL := hid_intro (show W1.length ≤ 1099511627776 by omega)
        have HSZ5 := hid_intro (show w.heap.size ≤ W5.heap.size from hmk.2.2.size)
        have HNE5 := hid_intro (show (Value.slice (some ⟨g, 0, none⟩) W1.length vc).ownBlock ≠ some w.heap.size from HI.out.2.2.1)
        rw [hMM]
        clear hin hm hm' hlen hWb hMM hxl hsi g0 g1 g2 g3 hblt hv1 hv2 hv3 hlc1 HST HSP hmk hle hle1 hW5
        go_wp2_with fail
        rw [HW5.out]
        refine HOP.out.mono ?_; rintro e w6 ⟨rfl, hw6⟩
        rw [hw6]
        clear hw6 q0' hcell hmc hmf j0 j1 j2 j3 j5
        cases hlb : letsB t p (sx L (x : Int)).k
        · have hk2 : ¬ (sx L (x : Int)).k = 2 := fun e => by rw [e, (letsB_gg t p).1] at hlb; cases hlb
          have HN := hid_intro (HOUT.out [] (fun y hy => by simp at hy) (fun e => by rw [hlb] at e; cases e) (fun e => absurd e hk2))
          go_wp2_with fail
          go_roundg (3 * (L.length - (H ++ [(x : Int)]).length) + M)
          case measure => have := HLE.out; have := HMM.out; simp only [List.length_append, List.length_cons, List.length_nil]; omega
          case rel => exact ⟨H ++ [(x : Int)], W1, _, rfl, by rw [HMM.out], by (have := HLE.out; have := HM.out; have := HMM.out; simp only [List.length_append, List.length_cons, List.length_nil]; omega), ⟨by (have := HMK.out.1; rw [HMM.out] at this; exact this), HMK.out.2.1, by (have := HNE5.out; exact this), by (have := HN.out; rw [List.append_nil] at this; exact this), HMK.out.2.2⟩⟩
        · have HA1 := hid_intro (show OwnI W5 w.heap.size (.slice (some ⟨g, 0, none⟩) M vc) W1 by have := HMK.out.1; rw [HMM.out] at this; exact this)
          rw [HMM.out] at HNE5
          by_cases hk2 : (sx L (x : Int)).k = 2
          · have HN := hid_intro (HOUT.out [(sx L (x : Int)).a, (sx L (x : Int)).b] (fun y hy => by simp at hy; rcases hy with hy | hy; exact Or.inl ⟨hy, hlb⟩; exact Or.inr ⟨hy, hk2⟩) (fun _ => by simp) (fun _ => by simp))
            have HWL7 := hid_intro (show (W1 ++ [(sx L (x : Int)).a]).length ≤ 1099511627776 by have := HLL.out.2.1; have := HLL.out.2.2.2.2.2; have := HM.out; have := HMM.out; simp only [List.length_append, List.length_cons, List.length_nil]; omega)
            go_wp2_with (first | (at_builtin; refine wpList_append_i rfl _ _ rfl w.heap.size (.slice (some ⟨g, 0, none⟩) M vc) W1 rfl HA1.out HSZ5.out HWL.out (sx L (x : Int)).a HOK.out.2.1 _ rfl rfl ?_; intro g7 cap7 w7 ho7 hg7 hloc7; have h7 := own_other (cap := cap7) HSZ5.out HMK.out.2.1 HA1.out HNE5.out HMK.out.2.2 hg7 hloc7; obtain ⟨r0, r2, r3⟩ := HC.out w7 h7.2.2; have HO7 := hid_intro ho7; have H7 := hid_intro h7; have HSZ7 := hid_intro (show w.heap.size ≤ w7.heap.size from h7.2.2.size); clear ho7 hg7 hloc7 h7 q0 q2 q3) | (at_builtin; refine wpList_append_i rfl _ _ rfl w.heap.size (.slice (some ⟨g7, 0, none⟩) (W1.length + 1) cap7) (W1 ++ [(sx L (x : Int)).a]) rfl HO7.out HSZ7.out HWL7.out (sx L (x : Int)).b HOK.out.2.2 _ rfl rfl ?_; intro g8 cap8 w8 ho8 hg8 hloc8; have h8 := own_other (cap := cap8) HSZ7.out H7.out.1 HO7.out H7.out.2.1 H7.out.2.2 hg8 hloc8; have HO8 := hid_intro ho8; have H8 := hid_intro h8; clear ho8 hg8 hloc8 h8))
            go_roundg (3 * (L.length - (H ++ [(x : Int)]).length) + (W1 ++ [(sx L (x : Int)).a, (sx L (x : Int)).b]).length)
            case measure => have := HLE.out; have := HMM.out; simp only [List.length_append, List.length_cons, List.length_nil]; omega
            case rel => exact ⟨H ++ [(x : Int)], W1 ++ [(sx L (x : Int)).a, (sx L (x : Int)).b], _, rfl, rfl, by (have := HLE.out; have := HM.out; have := HMM.out; simp only [List.length_append, List.length_cons, List.length_nil]; omega), ⟨by (have h := HO8.out; rw [List.append_assoc, List.length_append] at h; exact h), H8.out.1, H8.out.2.1, HN.out, H8.out.2.2⟩⟩
          · have HN := hid_intro (HOUT.out [(sx L (x : Int)).a] (fun y hy => by simp at hy; exact Or.inl ⟨hy, hlb⟩) (fun _ => by simp) (fun e => absurd e hk2))
            go_wp2_with (at_builtin; refine wpList_append_i rfl _ _ rfl w.heap.size (.slice (some ⟨g, 0, none⟩) M vc) W1 rfl HA1.out HSZ5.out HWL.out (sx L (x : Int)).a HOK.out.2.1 _ rfl rfl ?_; intro g7 cap7 w7 ho7 hg7 hloc7; have h7 := own_other (cap := cap7) HSZ5.out HMK.out.2.1 HA1.out HNE5.out HMK.out.2.2 hg7 hloc7; obtain ⟨r0, r2, r3⟩ := HC.out w7 h7.2.2; have HO7 := hid_intro ho7; have H7 := hid_intro h7; have HSZ7 := hid_intro (show w.heap.size ≤ w7.heap.size from h7.2.2.size); clear ho7 hg7 hloc7 h7 q0 q2 q3)
            go_roundg (3 * (L.length - (H ++ [(x : Int)]).length) + (W1 ++ [(sx L (x : Int)).a]).length)
            case measure => have := HLE.out; have := HMM.out; simp only [List.length_append, List.length_cons, List.length_nil]; omega
            case rel => exact ⟨H ++ [(x : Int)], W1 ++ [(sx L (x : Int)).a], _, rfl, rfl, by (have := HLE.out; have := HM.out; have := HMM.out; simp only [List.length_append, List.length_cons, List.length_nil]; omega), ⟨HO7.out, H7.out.1, H7.out.2.1, HN.out, H7.out.2.2⟩⟩
end Go.Proofs.YtoinlmfodmgohaaGreatDoor
