/-
  What value.copied answers: the same value in new memory. Conditions: lists of at most 2^30.
  A step of the machine never takes a draw back: the count of draws rises. No condition.
  A goroutine's step never takes a draw back. No condition.
-/
import Derived.Test.YtjdboekanmfgpaaGreatDoorJoined14
import Derived.Deep.RegionHeld3
import Derived.Calls
namespace Go.Proofs.YtjdboekanmfgpaaGreatDoor
open Go.RowKit
attribute [local go_sem] setCell_drewN alloc_drewN

theorem VI.shape {w : World} {X : Nat → Prop} {v : JV} {f : Nat → Value} (h : VI w X v f) : ∃ k n g e t a m c ka km kc, f 0 = .int .i64 k ∧ f 1 = .bool n ∧ f 2 = .string g ∧ f 3 = .int .i64 e ∧ f 4 = .string t ∧ f 5 = .slice a m c ∧ f 6 = .slice ka km kc := by
 cases h with
 | mk ao cap G f0 f1 f2 f3 f4 f5 f6 hc hs hw hl hr =>
  obtain ⟨ko, kc, e6, _⟩ := f6
  exact ⟨_, _, _, _, _, _, _, _, _, _, _, f0, f1, f2, f3, f4, f5, e6⟩

set_option maxRecDepth 100000 in
set_option maxHeartbeats 3200000 in
theorem copied_any (v : JV) : Sm v → ∀ (f : Nat → Value) (w : World) (X : Nat → Prop), (∀ b, X b → b < w.heap.size) → VI w X v f →
  Calls Tryz.prog 50 #[va f] w fun r w' => ∃ f', r = .returned (va f') ∧ VI w' X v f' ∧ Below w.heap.size w w' := by
 induction v using JV.ind with
 | h k n g e t l ks ih =>
 intro hsm f w X hX hv
 cases hsm with
 | mk s1 s2 s3 s4 s5 s6 =>
 cases hv with
 | mk ao cap G f0 f1 f2 f3 f4 f5 f6 hc hs hw hl hr =>
 have f6' := f6
 obtain ⟨ko, kc, e6, _⟩ := f6'
 have hva : va f = .agg #[.int .i64 k, .bool n, .string g, .int .i64 e, .string t, .slice ao l.length cap, .slice ko ks.length kc] := by simp only [va, f0, f1, f2, f3, f4, f5, e6]
 rw [hva]
 rw [e6] at f6
 clear f0 f1 f2 f3 f4 f5 e6 hva
 have hCn := C7.new w (.int .i64 k) (.bool n) (.string g) (.int .i64 e) (.string t) (.slice ao l.length cap) (.slice ko ks.length kc) 28
 have hRn := C7.new (w.alloc (.cells #[.int .i64 k, .bool n, .string g, .int .i64 e, .string t, .slice ao l.length cap, .slice ko ks.length kc] 28)) (.int .i64 0) (.bool false) (.string ⟨#[]⟩) (.int .i64 0) (.string ⟨#[]⟩) (.slice none 0 0) (.slice none 0 0) 28
 have hbW : Below w.heap.size w ((w.alloc (.cells #[.int .i64 k, .bool n, .string g, .int .i64 e, .string t, .slice ao l.length cap, .slice ko ks.length kc] 28)).alloc (.cells #[.int .i64 0, .bool false, .string ⟨#[]⟩, .int .i64 0, .string ⟨#[]⟩, .slice none 0 0, .slice none 0 0] 28)) := bl_a (bl_a (Below.refl _ _) _) _
 have hsW : ((w.alloc (.cells #[.int .i64 k, .bool n, .string g, .int .i64 e, .string t, .slice ao l.length cap, .slice ko ks.length kc] 28)).alloc (.cells #[.int .i64 0, .bool false, .string ⟨#[]⟩, .int .i64 0, .string ⟨#[]⟩, .slice none 0 0, .slice none 0 0] 28)).heap.size = w.heap.size + 2 := by simp
 have hC := hCn.al (.cells #[.int .i64 0, .bool false, .string ⟨#[]⟩, .int .i64 0, .string ⟨#[]⟩, .slice none 0 0, .slice none 0 0] 28)
 have hR : C7 ((w.alloc (.cells #[.int .i64 k, .bool n, .string g, .int .i64 e, .string t, .slice ao l.length cap, .slice ko ks.length kc] 28)).alloc (.cells #[.int .i64 0, .bool false, .string ⟨#[]⟩, .int .i64 0, .string ⟨#[]⟩, .slice none 0 0, .slice none 0 0] 28)) (w.heap.size + 1) (.int .i64 0) (.bool false) (.string ⟨#[]⟩) (.int .i64 0) (.string ⟨#[]⟩) (.slice none 0 0) (.slice none 0 0) := by simpa using hRn
 clear hCn hRn
 generalize hW : (w.alloc (.cells #[.int .i64 k, .bool n, .string g, .int .i64 e, .string t, .slice ao l.length cap, .slice ko ks.length kc] 28)).alloc (.cells #[.int .i64 0, .bool false, .string ⟨#[]⟩, .int .i64 0, .string ⟨#[]⟩, .slice none 0 0, .slice none 0 0] 28) = W at *
 have hX1 : ∀ b, (X b ∨ b = w.heap.size ∨ b = w.heap.size + 1) → b < W.heap.size := fun b hb => by
  rcases hb with hb | rfl | rfl
  ·have := hX b hb; omega
  ·omega
  ·omega
 have hcar : ∀ b, ¬ X b → b < w.heap.size → W.heap[b]? = w.heap[b]? ∧ ¬ (X b ∨ b = w.heap.size ∨ b = w.heap.size + 1) := fun b hx hlt => ⟨hbW.block b hlt, by rintro (h | h | h) <;> first | exact hx h | omega⟩
 have f6W := f6.carry hcar
 have hrW : ∀ i (h : i < l.length), VI W (fun b => X b ∨ b = w.heap.size ∨ b = w.heap.size + 1) l[i] (G i) := fun i h => (hr i h).carry hcar
 have hcs : ∀ w', Below W.heap.size W w' → Calls Tryz.prog 47 #[.slice ko ks.length kc] w' fun r w2 => ∃ v', r = .returned v' ∧ SI w2 (fun b => X b ∨ b = w.heap.size ∨ b = w.heap.size + 1) ks v' ∧ Below w'.heap.size w' w2 := fun w' hb =>
  cloneS_any ks _ _ w' (f6W.carry fun b hx hlt => ⟨hb.block b hlt, hx⟩) (fun b hb2 => Nat.lt_of_lt_of_le (hX1 b hb2) hb.size) s2
 have hcv : ∀ w', Below W.heap.size W w' → Calls Tryz.prog 48 #[.slice ao l.length cap] w' fun r w2 => ∃ a c, r = .returned (.slice a l.length c) ∧ w2.ownsRow w'.heap.size 28 7 (.slice a l.length c) l.length (rowG G l.length) ∧ Below w'.heap.size w' w2 := fun w' hb => by
  have hbb := bl_t hbW hb
  refine (cloneV_any l ao cap G X w' (fun i h => (hr i h).kept hbb) s1 ?_).mono fun r w2 ⟨v', h1, h2, h3⟩ => by
   obtain ⟨a, c, rfl⟩ := own_shape h2
   exact ⟨a, c, h1, h2, h3⟩
  rcases hl with hl | ⟨b, off, h1, _, h3⟩
  ·exact .inl hl
  ·exact .inr ⟨b, off, h1, fun i hi j hj => by rw [hbb.cell (p := ⟨b, off + i * 7 + j, none⟩) (World.block_lt_of_cell? w _ (h3 i hi j hj))]; exact h3 i hi j hj⟩
 have HCS : Hid (∀ w', Below W.heap.size W w' → Calls Tryz.prog 47 #[.slice ko ks.length kc] w' fun r w2 => ∃ v', r = .returned v' ∧ SI w2 (fun b => X b ∨ b = w.heap.size ∨ b = w.heap.size + 1) ks v' ∧ Below w'.heap.size w' w2) := hcs
 have HCV : Hid (∀ w', Below W.heap.size W w' → Calls Tryz.prog 48 #[.slice ao l.length cap] w' fun r w2 => ∃ a c, r = .returned (.slice a l.length c) ∧ w2.ownsRow w'.heap.size 28 7 (.slice a l.length c) l.length (rowG G l.length) ∧ Below w'.heap.size w' w2) := hcv
 have HC : Hid (∀ w', Below W.heap.size W w' → C7 w' w.heap.size (.int .i64 k) (.bool n) (.string g) (.int .i64 e) (.string t) (.slice ao l.length cap) (.slice ko ks.length kc)) := fun w' hb => hC.below hb hC.lt
 have HR : Hid (∀ w', Below W.heap.size W w' → C7 w' (w.heap.size + 1) (.int .i64 0) (.bool false) (.string ⟨#[]⟩) (.int .i64 0) (.string ⟨#[]⟩) (.slice none 0 0) (.slice none 0 0)) := fun w' hb => hR.below hb hR.lt
 have HB : Hid (∀ w', Below W.heap.size W w' → Below w.heap.size w w') := fun w' hb => bl_t hbW hb
 have HSZ : Hid (W.heap.size = w.heap.size + 2) := hsW
 have HRW : Hid (∀ i (h : i < l.length), VI W (fun b => X b ∨ b = w.heap.size ∨ b = w.heap.size + 1) l[i] (G i)) := hrW
 have HSH : Hid (g.size ≤ maxLen ∧ t.size ≤ maxLen) := hs
 have HWF : Hid ((Lit.int .i64 k).wf = true ∧ (Lit.int .i64 e).wf = true) := hw
 have HL : Hid (l.length ≤ 1073741824) := s1
 obtain ⟨a0, a1, a2, a3, a4, a5, a6, q0, q1, q2, q3, q4, q5, q6⟩ := hC
 clear hcs hcv hbW f6 hl hc hs hw s1 s2 hR hsW hX1 hcar f6W hrW hr
 go_enter Tryz.func50, Tryz.ntmps50
 go_wp2_with fail
 go_region_with first | (go_at_call 47; refine (HCS.out _ (by with_reducible repeat (first | exact Below.refl _ _ | refine bl_d ?_ | (refine bl_t ?_ (by assumption))))).mono ?_; rintro r wA ⟨kv', rfl, hSA, hbA⟩; obtain ⟨ko', kc', hkv, _⟩ := id hSA; subst hkv; have hCA := HC.out wA (bl_t (by with_reducible repeat (first | exact Below.refl _ _ | refine bl_d ?_)) hbA); obtain ⟨b0, b1, b2, b3, b4, b5, b6, p0, p1, p2, p3, p4, p5, p6⟩ := hCA) | (go_at_call 48; refine (HCV.out _ (bl_t (by with_reducible repeat (first | exact Below.refl _ _ | refine bl_d ?_)) hbA)).mono ?_; rintro r wB ⟨la, lc, rfl, hOB, hbB⟩; have hCB := HC.out wB (bl_t (bl_t (by with_reducible repeat (first | exact Below.refl _ _ | refine bl_d ?_)) hbA) hbB); obtain ⟨d0, d1, d2, d3, d4, d5, d6, m0, m1, m2, m3, m4, m5, m6⟩ := hCB)
 all_goals
  have hbW0 := HB.out W (Below.refl _ _)
  have hcp := cp_start (X := X) hbW0 HSZ.out (HC.out W (Below.refl _ _)) (HR.out W (Below.refl _ _)) HRW.out (bl_t (by with_reducible repeat (first | exact Below.refl _ _ | refine bl_d ?_)) hbA) (bl_t (by with_reducible repeat (first | exact Below.refl _ _ | refine bl_d ?_)) hbB) hSA rfl hOB
  clear b0 b1 b2 b3 b4 b5 b6 p0 p1 p2 p3 p4 p5 p6 d0 d1 d2 d3 d4 d5 d6 m0 m1 m2 m3 m4 m5 m6 HC HR HB HCS HCV HRW HSZ hbA hbB hSA hOB hbW0 a0 a1 a2 a3 a4 a5 a6 q0 q1 q2 q3 q4 q5 q6
  generalize (wB.setCell ⟨w.heap.size, 6, none⟩ (.slice ko' ks.length kc')).setCell ⟨w.heap.size, 5, none⟩ (.slice la l.length lc) = E at *
  have HCP : Hid (CpR w X (.mk k n g e t l ks) la lc (.slice ko' ks.length kc') E) := hcp
  obtain ⟨a0, a1, a2, a3, a4, a5, a6, q0, q1, q2, q3, q4, q5, q6⟩ := hcp.box _ _ _ _ _ _ _ rfl
  have hlI : (l.length : Int) ≤ 1073741824 := by have := HL.out; omega
  clear hcp
  go_wp2_with fail
  clear a0 a1 a2 a3 a4 a5 a6 q0 q1 q2 q3 q4 q5 q6
  go_loopw [15] (fun tv wr => ∃ i : Nat, i ≤ l.length ∧ tv = .int .i64 i ∧ Hid (CpR w X (.mk k n g e t l ks) la lc (.slice ko' ks.length kc') wr)) (fun tv _ => l.length - (intOf tv).toNat)
  case atStart => exact ⟨0, Nat.zero_le _, rfl, HCP⟩
  case round =>
   obtain ⟨i, hi, rfl, HK⟩ := hrel
   clear HCP
   by_cases hlt : i < l.length
   ·have hI : (i : Int) < (l.length : Int) := by omega
    have hk := HK.out
    obtain ⟨gg, rfl⟩ : ∃ gg, la = some ⟨gg, 0, none⟩ := by
     obtain ⟨G2, hO2, _⟩ := hk.row
     rcases hO2.2 with ⟨h1, h2⟩ | ⟨gg, cap2, cur2, h1, _⟩
     ·have h2 : l.length = 0 := h2
      omega
     ·injection h1 with h1 _ _
      exact ⟨gg, h1⟩
    obtain ⟨G2, hG2, hcell, hfz⟩ := hk.cell
    have hbnd : ∀ b, X1 X w.heap.size (some ⟨gg, 0, none⟩) b → b < wr.heap.size := fun b hb => by
     rcases hb with hb | rfl | rfl | hb
     ·exact Nat.lt_of_lt_of_le (hX b hb) hk.bel.size
     ·exact (hk.box _ _ _ _ _ _ _ rfl).lt
     ·exact hk.res.lt
     ·exact (hk.fresh _ _ _ hb).2.2.2
    have hcal : ∀ w', Below wr.heap.size wr w' → Calls Tryz.prog 50 #[.agg #[G2 i 0, G2 i 1, G2 i 2, G2 i 3, G2 i 4, G2 i 5, G2 i 6]] w' fun r w2 => ∃ f', r = .returned (.agg #[f' 0, f' 1, f' 2, f' 3, f' 4, f' 5, f' 6]) ∧ VI w2 (X1 X w.heap.size (some ⟨gg, 0, none⟩)) l[i] f' ∧ Below wr.heap.size wr w2 := fun w' hb =>
     (ih l[i] (List.getElem_mem hlt) (s3 _ (List.getElem_mem hlt)) (G2 i) w' _ (fun b hx => Nat.lt_of_lt_of_le (hbnd b hx) hb.size) ((hG2 i hlt).kept hb)).mono fun r w2 ⟨f', h1, h2, h3⟩ => ⟨f', h1, h2, bl_t hb h3⟩
    have e0 : wr.cell? ⟨gg, i * 7, none⟩ = some (G2 i 0) := hcell i 0 hlt (by omega)
    have e1 := hcell i 1 hlt (by omega)
    have e2 := hcell i 2 hlt (by omega)
    have e3 := hcell i 3 hlt (by omega)
    have e4 := hcell i 4 hlt (by omega)
    have e5 := hcell i 5 hlt (by omega)
    have e6 := hcell i 6 hlt (by omega)
    have HN : Hid (∀ w2 f', Below wr.heap.size wr w2 → VI w2 (X1 X w.heap.size (some ⟨gg, 0, none⟩)) l[i] f' → CpR w X (.mk k n g e t l ks) (some ⟨gg, 0, none⟩) lc (.slice ko' ks.length kc') (put7 w2 gg (i * 7) f')) := fun w2 f' hb hv => cp_step hk hlt hb hv
    have hglt : gg < wr.heap.size := (hk.fresh _ _ _ rfl).2.2.2
    have HF : Hid (∀ w2 o, Below wr.heap.size wr w2 → w2.frozen? ⟨gg, o, none⟩ = false) := fun w2 o hb => by rw [hb.frozen (p := ⟨gg, o, none⟩) hglt]; exact hfz o
    have HG : Hid (∀ w2 j, j < 7 → Below wr.heap.size wr w2 → w2.cell? ⟨gg, i * 7 + j, none⟩ = some (G2 i j)) := fun w2 j hj hb => by rw [hb.cell (p := ⟨gg, i * 7 + j, none⟩) hglt]; exact hcell i j hlt hj
    have HX : Hid (∀ w2, Below wr.heap.size wr w2 → w2.cell? ⟨w.heap.size, 5, none⟩ = some (.slice (some ⟨gg, 0, none⟩) l.length lc)) := fun w2 hb => by
     have hc := hk.box _ _ _ _ _ _ _ rfl
     rw [hb.cell (p := ⟨w.heap.size, 5, none⟩) hc.lt]; exact hc.c5
    have a5 := HX.out wr (Below.refl _ _)
    have HI : Hid (∀ w', Below wr.heap.size wr w' → Calls Tryz.prog 50 #[.agg #[G2 i 0, G2 i 1, G2 i 2, G2 i 3, G2 i 4, G2 i 5, G2 i 6]] w' fun r w2 => ∃ f', r = .returned (.agg #[f' 0, f' 1, f' 2, f' 3, f' 4, f' 5, f' 6]) ∧ VI w2 (X1 X w.heap.size (some ⟨gg, 0, none⟩)) l[i] f' ∧ Below wr.heap.size wr w2) := hcal
    clear hk HK hcal hG2 hcell hfz hbnd ih s3
    go_wp2_with fail
    go_region_with (go_at_call 50; refine (HI.out _ (by with_reducible repeat (first | exact Below.refl _ _ | refine bl_d ?_))).mono ?_; rintro r w2 ⟨f', rfl, hv', hb2⟩; obtain ⟨k', n', g', e', t', la', m', c', ka', km', kc2, f0, f1, f2, f3, f4, f5, f6⟩ := hv'.shape; have b5 := HX.out w2 hb2; have x0 : w2.cell? ⟨gg, i * 7, none⟩ = some (G2 i 0) := HG.out w2 0 (by omega) hb2; have x1 := HG.out w2 1 (by omega) hb2; have x2 := HG.out w2 2 (by omega) hb2; have x3 := HG.out w2 3 (by omega) hb2; have x4 := HG.out w2 4 (by omega) hb2; have x5 := HG.out w2 5 (by omega) hb2; have x6 := HG.out w2 6 (by omega) hb2; have y0 := HF.out w2 (i * 7) hb2; have y1 := HF.out w2 (i * 7 + 1) hb2; have y2 := HF.out w2 (i * 7 + 2) hb2; have y3 := HF.out w2 (i * 7 + 3) hb2; have y4 := HF.out w2 (i * 7 + 4) hb2; have y5 := HF.out w2 (i * 7 + 5) hb2; have y6 := HF.out w2 (i * 7 + 6) hb2)
    all_goals
     have hnext := HN.out w2 f' hb2 hv'
     unfold put7 at hnext
     rw [f0, f1, f2, f3, f4, f5, f6] at hnext
     have HNX : Hid (CpR w X (.mk k n g e t l ks) (some ⟨gg, 0, none⟩) lc (.slice ko' ks.length kc') (((((((w2.setCell ⟨gg, i * 7, none⟩ (.int .i64 k')).setCell ⟨gg, i * 7 + 1, none⟩ (.bool n')).setCell ⟨gg, i * 7 + 2, none⟩ (.string g')).setCell ⟨gg, i * 7 + 3, none⟩ (.int .i64 e')).setCell ⟨gg, i * 7 + 4, none⟩ (.string t')).setCell ⟨gg, i * 7 + 5, none⟩ (.slice la' m' c')).setCell ⟨gg, i * 7 + 6, none⟩ (.slice ka' km' kc2))) := hnext
     clear hnext x0 x1 x2 x3 x4 x5 x6 y0 y1 y2 y3 y4 y5 y6 b5 e0 e1 e2 e3 e4 e5 e6 a5 HG HF HX HI HN f0 f1 f2 f3 f4 f5 f6 hv' hb2
     go_wp2
     go_roundw
     case rel => exact ⟨i + 1, by omega, by go_num, HNX⟩
     case measure => simp [intOf]; omega
   ·have hI : ¬ (i : Int) < (l.length : Int) := by omega
    have hk := HK.out
    obtain ⟨a0, a1, a2, a3, a4, a5, a6, q0, q1, q2, q3, q4, q5, q6⟩ := hk.box _ _ _ _ _ _ _ rfl
    obtain ⟨r0, r1, r2, r3, r4, r5, r6, z0, z1, z2, z3, z4, z5, z6⟩ := hk.res
    have hbel := hk.bel
    clear hk
    go_wp2
    refine bodyPost_ret (v := .agg #[.int .i64 k, .bool n, .string g, .int .i64 e, .string t, .slice la l.length lc, .slice ko' ks.length kc']) (by simp [results, Tryz.results50, go_sem, *]) rfl ⟨fun j => match j with | 0 => .int .i64 k | 1 => .bool n | 2 => .string g | 3 => .int .i64 e | 4 => .string t | 5 => .slice la l.length lc | _ => .slice ko' ks.length kc', rfl, cp_end hX HK.out HSH.out HWF.out rfl rfl rfl rfl rfl rfl rfl (fun b hb => by repeat rw [Below.heap_setCell _ _ _ _ hb]), ?_⟩
    with_reducible repeat (first | exact hbel | refine bl_s ?_ (Nat.le_succ _) _)
end Go.Proofs.YtjdboekanmfgpaaGreatDoor

namespace Go.Proofs.YtjdboekanmfgpaaGreatDoor.Up

/-- Where a run ends. -/
def wof {α : Type} : Result α → World
 | .ok _ w => w
 | .halt _ w => w

theorem ask_up {α : Type} (a : Ask α) : ∀ w : World, w.drawn ≤ (w.ask a).2.drawn := by
 induction a with
 | done a => intro w; exact Nat.le_refl _
 | ask what range k ih =>
  intro w
  simp only [World.ask]
  split
  ·exact ih _ w
  ·exact Nat.le_trans (Nat.le_succ _) (ih _ { w with drawn := w.drawn + 1 })

theorem sys_up (w : World) (c : Sys) : w.drawn ≤ (w.sys c).2.drawn := by
 have h := ask_up (Kernel.perform c w.os) w
 unfold World.sys
 split
 ·exact Nat.le_refl _
 ·rename_i r os w' _ hq
  rw [hq] at h
  exact h

theorem view_up {p : Program} {w : World} {at_ : Addr} {u : TypeId} {k : Addr} {v : Value} {atomic : Bool} {r : World × List Addr} (h : w.viewStore p at_ u k v atomic = .ok r) : r.1.drawn = w.drawn := by
 unfold World.viewStore at h
 simp only [bind, Except.bind, pure, Except.pure] at h
 repeat' split at h
 all_goals first | (cases h; done) | (injection h with h; subst h; rfl)

theorem far_up {p : Program} {w : World} {a : Addr} {v : Value} {atomic : Bool} {r : World × List Addr} (h : w.farStore p a v atomic = .ok r) : r.1.drawn = w.drawn := by
 unfold World.farStore at h
 split at h
 ·split at h
  ·rename_i hq
   injection h with h
   subst h
   exact view_up hq
  ·cases h
 ·cases h

theorem set_up (w : World) (a : Addr) (v : Value) : (w.setCell a v).drawn = w.drawn := rfl
theorem freeze_up (w : World) (a : Addr) (n : Nat) : (w.freeze a n).drawn = w.drawn := by
 unfold World.freeze
 split <;> rfl

theorem run_up {α : Type} {p : Program} (s : Sem α) : ∀ w : World, w.drawn ≤ (wof (s.run p w)).drawn := by
 induction s with
 | pure a => intro w; exact Nat.le_refl _
 | load m a k ih =>
  intro w
  simp only [Sem.run]
  split
  ·exact ih _ w
  ·split
   ·exact ih _ w
   ·exact Nat.le_refl _
 | store m a v k ih =>
  intro w
  have gen : w.drawn ≤ (wof (match w.cell? a with
   | some _ => if w.frozen? a then (.halt (.unsupported (.unsafePointer "a write to bytes that a string shares")) w : Result α) else k.run p (w.setCell a v)
   | none => match w.farStore p a v (m == .atomic) with
    | .ok (w, _) => k.run p w
    | .error h => .halt h w)).drawn := by
   split
   ·split
    ·exact Nat.le_refl _
    ·exact ih (w.setCell a v)
   ·split
    ·rename_i w' l hq
     have h1 := far_up hq
     have h2 := ih w'
     simp only at h1
     omega
    ·exact Nat.le_refl _
  cases v <;> first | exact Nat.le_refl _ | exact gen
 | new o k ih => intro w; exact ih _ { w with heap := w.heap.push o }
 | shape r k ih => intro w; exact ih _ w
 | freeze a n k ih =>
  intro w
  have := ih (w.freeze a n)
  rw [freeze_up] at this
  exact this
 | frozen a k ih => intro w; exact ih _ w
 | getObj r k ih =>
  intro w
  simp only [Sem.run]
  split
  ·exact Nat.le_refl _
  ·exact ih _ w
  ·exact Nat.le_refl _
 | setObj r o k ih =>
  intro w
  simp only [Sem.run]
  split
  ·exact Nat.le_refl _
  ·exact ih { w with heap := w.heap.setIfInBounds r o }
  ·exact Nat.le_refl _
 | choose q k ih =>
  intro w
  simp only [Sem.run]
  split
  ·exact ih _ w
  ·exact Nat.le_trans (Nat.le_succ _) (ih _ { w with drawn := w.drawn + 1 })
 | sys c k ih =>
  intro w
  exact Nat.le_trans (sys_up w c) (ih _ (w.sys c).2)
 | program k ih => intro w; exact ih _ w
 | mark m k ih => intro w; exact ih w
 | halt h => intro w; exact Nat.le_refl _
theorem run_ok {α : Type} {p : Program} {s : Sem α} {w w' : World} {a : α} (h : s.run p w = .ok a w') : w.drawn ≤ w'.drawn := by
 have := run_up (p := p) s w
 rw [h] at this
 exact this
theorem run_halt {α : Type} {p : Program} {s : Sem α} {w w' : World} {a : Halt} (h : s.run p w = .halt a w') : w.drawn ≤ w'.drawn := by
 have := run_up (p := p) s w
 rw [h] at this
 exact this
end Go.Proofs.YtjdboekanmfgpaaGreatDoor.Up

namespace Go.Proofs.YtjdboekanmfgpaaGreatDoor.Up

/-- Where a goroutine's step goes on, the count of draws has not fallen. -/
def gup (w : World) : GStep → Prop
  | .go _ w' _ => w.drawn ≤ w'.drawn
  | .comm _ _ _ _ w' _ => w.drawn ≤ w'.drawn
  | .spawn _ _ w' _ => w.drawn ≤ w'.drawn
  | .count _ w' _ => w.drawn ≤ w'.drawn
  | .timer _ _ w' _ => w.drawn ≤ w'.drawn
  | .alone _ _ w' _ => w.drawn ≤ w'.drawn
  | .newcoro _ _ _ w' _ => w.drawn ≤ w'.drawn
  | .coroswitch _ _ _ w' _ => w.drawn ≤ w'.drawn
  | .collect _ w' _ => w.drawn ≤ w'.drawn
  | .watch _ w' _ => w.drawn ≤ w'.drawn
  | .ended _ _ _ => True
theorem gup_after (w : World) (es : Array Event) (s : GStep) : gup w (GStep.after es s) = gup w s := by cases s <;> rfl
theorem gup_mono {w w1 : World} {s : GStep} (h : w.drawn ≤ w1.drawn) (k : gup w1 s) : gup w s := by
  cases s <;> first | trivial | exact Nat.le_trans h k

theorem dieOf_up (fr : Frame) (a : List ByteArray) (m : String) (b : Bool) (w : World) : gup w (dieOf fr a m b w) := Nat.le_refl _
theorem throw_up (fr : Frame) (m : String) (w : World) : gup w (endThrow fr m w) := Nat.le_refl _
theorem printing_up (p : Program) (fr : Frame) (v : Value) (w : World) : gup w (endPrinting p fr v w) := by
  unfold endPrinting
  dsimp only
  split
  · exact throw_up _ _ _
  · trivial
theorem fatal_up (p : Program) (fr : Frame) (cs : List Frame) (d : Option Dying) (m : String) (w : World) : gup w (endFatal p fr cs d m w) := by
  unfold endFatal
  dsimp only
  split
  · rename_i hq
    exact gup_mono (run_ok hq) (dieOf_up _ _ _ _ _)
  · trivial
  · trivial
theorem endWith_up (w0 w : World) (fd : Nat) (t : ByteArray) (o : Outcome) : gup w0 (endWith w fd t o) := by
  unfold endWith
  dsimp only
  split
  · split <;> trivial
  · trivial
  · trivial
theorem writeOn_up (p : Program) (fr : Frame) (d : Dying) (f : Fatal) (w : World) : gup w (writeOn p fr d f w) := by
  unfold writeOn
  dsimp only
  split
  · trivial
  · simp only [Sem.runT_eq]
    split
    · rename_i hq
      exact run_ok (congrArg Prod.fst hq)
    · rename_i hq
      exact run_halt (congrArg Prod.fst hq)
    · trivial
    · trivial
theorem die_up (p : Program) (fr : Frame) (d : Dying) (w : World) : gup w (die p fr d w) := by
  unfold die
  dsimp only
  split
  · exact writeOn_up _ _ _ _ _
  split
  · split
    · exact Nat.le_refl _
    · exact endWith_up _ _ _ _ _
  · split
    · exact Nat.le_refl _
    · split
      · rename_i hq
        exact run_ok hq
      · trivial
    · simp only [Sem.runT_eq, gup_after]
      split
      · rename_i hq; exact run_ok hq
      · rename_i hq; exact run_ok hq
      · trivial
      · rename_i hq; exact gup_mono (run_halt hq) (printing_up _ _ _ _)
      · trivial
    · trivial
theorem early_up (p : Program) (fr : Frame) (cs : List Frame) (d : Option Dying) (g : Nat) (w : World) : gup w (early p fr cs d g w) := by
  have hny : ∀ w1 : World, w.drawn ≤ w1.drawn → gup w (match w1.heap[g]? with
      | some (.pending c elem) => .go { frame := fr, callers := cs, status := .running, dying := d } { w1 with heap := w1.heap.setIfInBounds g (.cells c elem) }
      | _ => .ended (.stuck "early: the variable does not wait" (fr.pos p)) w1) := by
    intro w1 h
    split
    · exact h
    · trivial
  unfold early
  dsimp only
  split
  · exact hny w (Nat.le_refl _)
  split
  · trivial
  split
  · exact hny w (Nat.le_refl _)
  split
  · exact hny w (Nat.le_refl _)
  split
  · trivial
  · exact Nat.le_refl _
  · trivial
  · exact hny w (Nat.le_refl _)
  · split
    · exact Nat.le_refl _
    split
    · exact hny w (Nat.le_refl _)
    split
    · rename_i hq; exact hny _ (run_ok hq)
    · rename_i hq; exact run_ok hq
    · trivial
theorem doReturn_up (p : Program) (main : Bool) (fr : Frame) (cs : List Frame) (d : Option Dying) (v : Value) (w : World) : gup w (doReturn p main fr cs d v w) := by
  unfold doReturn
  split
  · split <;> exact Nat.le_refl _
  · split
    · exact Nat.le_refl _
    · trivial
    · split
      · exact Nat.le_refl _
      · split
        · exact Nat.le_refl _
        · trivial
theorem gup_ite {w : World} {c : Prop} [Decidable c] {a b : GStep} (ha : gup w a) (hb : gup w b) : gup w (if c then a else b) := by
  split
  · exact ha
  · exact hb
theorem deferred_up (p : Program) (fr : Frame) (cs : List Frame) (dy : Option Dying) (d : Deferred) (w : World) : gup w (callDeferred p fr cs dy d w) := by
  unfold callDeferred
  refine gup_ite trivial ?_
  simp only [Sem.runT_eq, gup_after]
  rcases hr : (invoke d.target d.args).run p w with ⟨a, w1⟩ | ⟨h, w1⟩
  · have hw := run_ok hr
    cases a with
    | coroswitch c e => cases e <;> (try dsimp only) <;> first | exact hw | trivial
    | alone on v => cases on <;> (try dsimp only) <;> first | exact hw | trivial
    | recover => dsimp only; split <;> exact hw
    | _ => (try dsimp only) <;> first | exact hw | trivial
  · have hw := run_halt hr
    cases h <;> (try dsimp only) <;> first | exact hw | trivial | exact gup_mono hw (fatal_up _ _ _ _ _ _) | exact gup_mono hw (throw_up _ _ _)
theorem unwind_up (p : Program) (main : Bool) (fr : Frame) (cs : List Frame) (dy : Option Dying) (w : World) : gup w (unwind p main fr cs dy w) := by
  unfold unwind
  split
  · simp only [Sem.runT_eq, gup_after]
    split
    · rename_i hq; exact run_ok hq
    · trivial
  · exact deferred_up _ _ _ _ _ _
  · split
    · trivial
    · refine gup_ite trivial ?_
      split
      · exact Nat.le_refl _
      · split
        · refine gup_ite (Nat.le_refl _) ?_
          split
          · rename_i hq; exact run_ok hq
          · trivial
          · trivial
        · split
          · exact printing_up _ _ _ _
          · trivial
    · split
      · exact doReturn_up _ _ _ _ _ _ _
      · simp only [Sem.runT_eq, gup_after]
        split
        · rename_i hq; exact gup_mono (run_ok hq) (doReturn_up _ _ _ _ _ _ _)
        · trivial
        · trivial
theorem apply_up (p : Program) (fr : Frame) (cs : List Frame) (dy : Option Dying) (s : Sem Next) (w : World) : gup w (stepG.apply p true fr cs dy s w) := by
  unfold stepG.apply
  simp only [Sem.runT_eq, gup_after, if_true]
  rcases hr : s.run p w with ⟨a, w1⟩ | ⟨h, w1⟩
  · have hw := run_ok hr
    cases a with
    | spawn d => exact gup_ite (gup_mono hw (throw_up _ _ _)) hw
    | _ =>
      (try dsimp only) <;> first
        | exact hw
        | trivial
        | (split <;> first | exact hw | trivial | exact gup_mono hw (throw_up _ _ _))
  · have hw := run_halt hr
    cases h with
    | unsupported u => cases u <;> (try dsimp only) <;> first | trivial | exact gup_mono hw (early_up _ _ _ _ _ _)
    | _ => (try dsimp only) <;> first | exact hw | trivial | exact gup_mono hw (fatal_up _ _ _ _ _ _) | exact gup_mono hw (throw_up _ _ _)
theorem oper_up (p : Program) (fr : Frame) (cs : List Frame) (dy : Option Dying) (w : World) : gup w (stepG.oper p true fr cs dy w) := by
  unfold stepG.oper
  split
  · trivial
  · split <;> exact apply_up _ _ _ _ _ _
theorem exec_up (p : Program) (main : Bool) (fr : Frame) (cs : List Frame) (dy : Option Dying) (w : World) : gup w (stepG.exec p main true fr cs dy w) := by
  have hl : ∀ jump : Option Code, gup w (match fr.roundOf with
      | none => if jump matches none | some .ret then GStep.go { frame := { fr with mode := .returning }, callers := cs, status := .running, dying := dy } w else GStep.ended (.stuck "exit, goto: no such block or label" (fr.pos p)) w
      | some l =>
        let (r, es) := (Instr.endRound l jump).runT p w #[]
        GStep.after (seen p fr.fn es) <| match r with
        | .ok v w => doReturn p main fr cs dy v w
        | .halt _ w => .ended (.stuck "range over a function: no such loop" (fr.pos p)) w) := by
    intro jump
    split
    · exact gup_ite (Nat.le_refl _) trivial
    · simp only [Sem.runT_eq, gup_after]
      split
      · rename_i hq; exact gup_mono (run_ok hq) (doReturn_up _ _ _ _ _ _ _)
      · trivial
  unfold stepG.exec
  dsimp only
  split
  · exact hl none
  · exact hl (some .ret)
  · exact Nat.le_refl _
  · exact Nat.le_refl _
  · exact Nat.le_refl _
  · exact Nat.le_refl _
  · exact Nat.le_refl _
  · split
    · exact Nat.le_refl _
    · trivial
  · exact Nat.le_refl _
  · exact Nat.le_refl _
  · exact Nat.le_refl _
  · exact Nat.le_refl _
  · rename_i id k _
    cases exitTo id k with
    | none => exact hl (some (.exit id))
    | some t => exact Nat.le_refl _
  · rename_i l k _
    cases gotoIn l k with
    | none => exact hl (some (.goto l))
    | some t => exact Nat.le_refl _
  · simp only [Sem.runT_eq, gup_after]
    split
    · rename_i hq; exact gup_mono (run_ok hq) (apply_up _ _ _ _ _ _)
    · trivial
  · trivial
  · exact apply_up _ _ _ _ _ _
  · simp only [Sem.runT_eq, gup_after]
    split
    · rename_i hq; exact run_ok hq
    · rename_i hq; exact run_halt hq
    · trivial
  · trivial
  · exact apply_up _ _ _ _ _ _
  · rename_i row args _ _
    cases Extern.next row with
    | none => trivial
    | some e => exact apply_up _ _ _ _ _ _
  · refine gup_ite (Nat.le_refl _) ?_
    split
    · rename_i hq; exact run_ok hq
    · trivial
  · exact Nat.le_refl _
  · refine gup_ite (oper_up _ _ _ _ _) (Nat.le_refl _)
theorem stepG_up (p : Program) (main : Bool) (g : Goroutine) (w : World) : gup w (stepG p main g w) := by
  unfold stepG
  dsimp only
  split
  · exact die_up _ _ _ _
  · exact exec_up _ _ _ _ _ _
  · exact unwind_up _ _ _ _ _ _
end Go.Proofs.YtjdboekanmfgpaaGreatDoor.Up
