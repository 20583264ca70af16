/-
  What value.Sorted answers: the value with its keys sorted, down to the innermost, in new memory. Conditions: lists and texts of at most 2^30; the value may be.
-/
import Derived.Test.YtjdboekanmfgpaaGreatDoorExtraKVUnique0
namespace Go.Proofs.YtjdboekanmfgpaaGreatDoor
open Go.RowKit Go.Sort
attribute [local go_sem] setCell_drewN alloc_drewN

set_option maxRecDepth 100000 in
set_option maxHeartbeats 16000000 in
theorem sorted_obj {k : Int} {n : Bool} {g : ByteArray} {e : Int} {t : ByteArray} {l : List JV} {ks : List ByteArray} (k6 : k = 6) (HIH : Hid (∀ x ∈ l, ∀ (f : Nat → Value) (w : World) (X : Nat → Prop), (∀ b, X b → b < w.heap.size) → VI w X x f → Calls Tryz.prog 19 #[va f] w fun r w' => ∃ f', r = .returned (va f') ∧ VI w' X (srt x) f' ∧ Below w.heap.size w w')) (hsm : Sm (.mk k n g e t l ks)) (d : Nat) (hmay : mayB d (.mk k n g e t l ks) = true) (f : Nat → Value) (w : World) (X : Nat → Prop) (hX : ∀ b, X b → b < w.heap.size) (hv : VI w X (.mk k n g e t l ks) f) :
  Calls Tryz.prog 19 #[va f] w fun r w' => ∃ f', r = .returned (va f') ∧ VI w' X (srt (.mk k n g e t l ks)) f' ∧ Below w.heap.size w w' := by
 obtain ⟨-, -, -, -, hk6, hml⟩ := may_parts hmay
 cases hsm with
 | mk s1 s2 s3 s4 s5 s6 =>
 cases hv with
 | mk ao cap G f0 f1 f2 f3 f4 f5 f6 hc hs hw hl hr =>
 have f6' := f6
 obtain ⟨ko, kc, e6, _⟩ := f6'
 have hva : va f = .agg #[.int .i64 k, .bool n, .string g, .int .i64 e, .string t, .slice ao l.length cap, .slice ko ks.length kc] := by simp only [va, f0, f1, f2, f3, f4, f5, e6]
 rw [hva]
 rw [e6] at f6
 clear f0 f1 f2 f3 f4 f5 e6 hva
 obtain ⟨P, hP⟩ : ∃ P : Ending → World → Prop, P = fun r w' => ∃ f', r = .returned (va f') ∧ VI w' X (srt (.mk k n g e t l ks)) f' ∧ Below w.heap.size w w' := ⟨_, rfl⟩
 rw [← hP]
 have HP := hid_intro hP
 have hCn := C7.new w (.int .i64 k) (.bool n) (.string g) (.int .i64 e) (.string t) (.slice ao l.length cap) (.slice ko ks.length kc) 28
 have hRn := C7.new (w.alloc (.cells #[.int .i64 k, .bool n, .string g, .int .i64 e, .string t, .slice ao l.length cap, .slice ko ks.length kc] 28)) (.int .i64 0) (.bool false) (.string ⟨#[]⟩) (.int .i64 0) (.string ⟨#[]⟩) (.slice none 0 0) (.slice none 0 0) 28
 have hbW : Below w.heap.size w ((w.alloc (.cells #[.int .i64 k, .bool n, .string g, .int .i64 e, .string t, .slice ao l.length cap, .slice ko ks.length kc] 28)).alloc (.cells #[.int .i64 0, .bool false, .string ⟨#[]⟩, .int .i64 0, .string ⟨#[]⟩, .slice none 0 0, .slice none 0 0] 28)) := bl_a (bl_a (Below.refl _ _) _) _
 have hsW : ((w.alloc (.cells #[.int .i64 k, .bool n, .string g, .int .i64 e, .string t, .slice ao l.length cap, .slice ko ks.length kc] 28)).alloc (.cells #[.int .i64 0, .bool false, .string ⟨#[]⟩, .int .i64 0, .string ⟨#[]⟩, .slice none 0 0, .slice none 0 0] 28)).heap.size = w.heap.size + 2 := by simp
 have hC := hCn.al (.cells #[.int .i64 0, .bool false, .string ⟨#[]⟩, .int .i64 0, .string ⟨#[]⟩, .slice none 0 0, .slice none 0 0] 28)
 have hR : C7 ((w.alloc (.cells #[.int .i64 k, .bool n, .string g, .int .i64 e, .string t, .slice ao l.length cap, .slice ko ks.length kc] 28)).alloc (.cells #[.int .i64 0, .bool false, .string ⟨#[]⟩, .int .i64 0, .string ⟨#[]⟩, .slice none 0 0, .slice none 0 0] 28)) (w.heap.size + 1) (.int .i64 0) (.bool false) (.string ⟨#[]⟩) (.int .i64 0) (.string ⟨#[]⟩) (.slice none 0 0) (.slice none 0 0) := by simpa using hRn
 clear hCn hRn
 generalize hW : (w.alloc (.cells #[.int .i64 k, .bool n, .string g, .int .i64 e, .string t, .slice ao l.length cap, .slice ko ks.length kc] 28)).alloc (.cells #[.int .i64 0, .bool false, .string ⟨#[]⟩, .int .i64 0, .string ⟨#[]⟩, .slice none 0 0, .slice none 0 0] 28) = W at *
 have hX1 : ∀ b, (X b ∨ b = w.heap.size ∨ b = w.heap.size + 1) → b < W.heap.size := fun b hb => by
  rcases hb with hb | rfl | rfl
  ·have := hX b hb; omega
  ·omega
  ·omega
 have hcar : ∀ b, ¬ X b → b < w.heap.size → W.heap[b]? = w.heap[b]? ∧ ¬ (X b ∨ b = w.heap.size ∨ b = w.heap.size + 1) := fun b hx hlt => ⟨hbW.block b hlt, by rintro (h | h | h) <;> first | exact hx h | omega⟩
 have f6W := f6.carry hcar
 have hrW : ∀ i (h : i < l.length), VI W (fun b => X b ∨ b = w.heap.size ∨ b = w.heap.size + 1) l[i] (G i) := fun i h => (hr i h).carry hcar
 have HC : Hid (∀ w', Below W.heap.size W w' → C7 w' w.heap.size (.int .i64 k) (.bool n) (.string g) (.int .i64 e) (.string t) (.slice ao l.length cap) (.slice ko ks.length kc)) := fun w' hb => hC.below hb hC.lt
 have HR : Hid (∀ w', Below W.heap.size W w' → C7 w' (w.heap.size + 1) (.int .i64 0) (.bool false) (.string ⟨#[]⟩) (.int .i64 0) (.string ⟨#[]⟩) (.slice none 0 0) (.slice none 0 0)) := fun w' hb => hR.below hb hR.lt
 have HB : Hid (∀ w', Below W.heap.size W w' → Below w.heap.size w w') := fun w' hb => bl_t hbW hb
 have HSZ : Hid (W.heap.size = w.heap.size + 2) := hsW
 have HSH : Hid (g.size ≤ maxLen ∧ t.size ≤ maxLen) := hs
 have HWF : Hid ((Lit.int .i64 k).wf = true ∧ (Lit.int .i64 e).wf = true) := hw
 have HL : Hid (l.length ≤ 1073741824) := s1
 subst k6
 obtain ⟨z1, z2, z3⟩ := hk6 rfl
 have hks : ks.length = l.length := z1
 have hSI0 : SI W (fun _ => False) ks (.slice ko ks.length kc) := f6W.carry fun b _ _ => ⟨rfl, fun h => h⟩
 have hLI0 : LI W (fun _ => False) l (.slice ao l.length cap) G := by
  refine ⟨ao, cap, rfl, by omega, fun i hi => (hrW i hi).carry fun b _ _ => ⟨rfl, fun h => h⟩, ?_⟩
  rcases hl with hl | ⟨b, off, h1, _, h3⟩
  ·exact .inl hl
  ·by_cases hle : l = []
   ·exact .inl hle
   have hbl : b < w.heap.size := World.block_lt_of_cell? w _ (h3 0 (List.length_pos_iff.2 hle) 0 (by omega))
   exact .inr ⟨b, off, h1, fun h => h, Nat.lt_of_lt_of_le hbl hbW.size, fun i hi j hj => (hbW.cell (p := ⟨b, off + i * 7 + j, none⟩) hbl).trans (h3 i hi j hj)⟩
 have cal := rising_typ 6 n g e t ao ko l.length cap kc ks (by omega) W hSI0
 rw [show min ks.length l.length = ks.length by omega] at cal
 have HPS : Hid (∀ w3 ps po pc, Below W.heap.size W w3 → SortedBy (byK ks) ks.length ps → II w3 (fun _ => False) (pI ps) (.slice po ps.length pc) → ∀ w', Below w3.heap.size w3 w' → Calls Tryz.prog 45 #[.slice ko ks.length kc, .slice po ps.length pc] w' fun r w2 => ∃ g2, r = .returned (.slice (some ⟨g2, 0, none⟩) l.length l.length) ∧ SI w2 (fun b => X b ∨ b = w.heap.size ∨ b = w.heap.size + 1) (ps.map (dK ks)) (.slice (some ⟨g2, 0, none⟩) (ps.map (dK ks)).length l.length) ∧ Below w'.heap.size w' w2) := hid_intro (fun w3 ps po pc hb3 hps hII w' hb' => by
  have hbb : Below W.heap.size W w' := bl_t hb3 hb'
  have hpl : ps.length = l.length := by rw [hps.1.length_eq, List.length_range, hks]
  refine (pickS_any ks ko kc ps _ w' (hSI0.carry fun b _ hlt => ⟨hbb.block b hlt, fun h => h⟩) (hII.kept hb') (fun p hp => List.mem_range.1 (hps.1.mem_iff.1 hp)) (by omega) (by omega)).mono ?_
  rintro r w2 ⟨g2, h1, h2, h3⟩
  rw [hpl] at h1 h2
  refine ⟨g2, h1, ?_, h3⟩
  have hml2 : (ps.map (dK ks)).length = l.length := by rw [List.length_map, hpl]
  have := SI.of_own (X := fun b => X b ∨ b = w.heap.size ∨ b = w.heap.size + 1) (ks := ps.map (dK ks)) (by rw [hml2]; exact h2) (fun b hb => Nat.lt_of_lt_of_le (hX1 b hb) hbb.size) (fun s hs => by
   obtain ⟨j, hj, rfl⟩ := List.mem_map.1 hs
   have hjk : j < ks.length := List.mem_range.1 (hps.1.mem_iff.1 hj)
   have e : dK ks j = ks[j] := by unfold dK; simp [hjk]
   rw [e]
   have := s6 _ (List.getElem_mem hjk)
   unfold maxLen; omega)
  rw [hml2]
  exact this)
 have HPV : Hid (∀ w3 ps po pc, Below W.heap.size W w3 → SortedBy (byK ks) ks.length ps → II w3 (fun _ => False) (pI ps) (.slice po ps.length pc) → ∀ w', Below w3.heap.size w3 w' → Calls Tryz.prog 46 #[.slice ao l.length cap, .slice po ps.length pc] w' fun r w2 => ∃ g2, r = .returned (.slice (some ⟨g2, 0, none⟩) l.length l.length) ∧ w2.ownsRow w'.heap.size 28 7 (.slice (some ⟨g2, 0, none⟩) l.length l.length) l.length (rowG (pkG G ps l.length) l.length) ∧ Below w'.heap.size w' w2) := hid_intro (fun w3 ps po pc hb3 hps hII w' hb' => by
  have hbb : Below W.heap.size W w' := bl_t hb3 hb'
  have hpl : ps.length = l.length := by rw [hps.1.length_eq, List.length_range, hks]
  have := pickV_any l ao cap G ps _ w' (hLI0.kept hbb) (hII.kept hb') (fun p hp => by have := List.mem_range.1 (hps.1.mem_iff.1 hp); omega) (by omega) s1
  rw [hpl] at this ⊢
  exact this)
 have HRW : Hid (∀ ps, SortedBy (byK ks) ks.length ps → ∀ i (h : i < (ps.map fun j => l.getD j jD).length), VI W (fun b => X b ∨ b = w.heap.size ∨ b = w.heap.size + 1) (ps.map fun j => l.getD j jD)[i] (pkG G ps l.length i)) := hid_intro (fun ps hps i h => by
  have hpl : ps.length = l.length := by rw [hps.1.length_eq, List.length_range, hks]
  have hi : i < ps.length := by simpa using h
  have hj : ps[i] < l.length := by have := List.mem_range.1 (hps.1.mem_iff.1 (List.getElem_mem hi)); omega
  have e1 : (ps.map fun j => l.getD j jD)[i] = l[ps[i]] := by simp [hj]
  have e2 : ps.getD i 0 = ps[i] := by simp [hi]
  rw [e1]
  exact (hrW ps[i] hj).congr fun q _ => by unfold pkG; rw [if_pos (by omega), e2])
 have HFN : Hid (∀ ps, SortedBy (byK ks) ks.length ps → srt (.mk 6 n g e t l ks) = .mk 6 n g e t ((ps.map fun j => l.getD j jD).map srt) (ps.map (dK ks))) := hid_intro (fun ps hps => by
  rw [srt_obj, ← sorted_mem (d := jD) z1 z3 hps, List.map_map, List.map_map, List.map_map]
  rfl)
 have HPM : Hid (∀ ps, SortedBy (byK ks) ks.length ps → (ps.map fun j => l.getD j jD).length = l.length ∧ (ps.map (dK ks)).length = l.length ∧ ∀ x ∈ (ps.map fun j => l.getD j jD), x ∈ l) := hid_intro (fun ps hps => by
  have hpl : ps.length = l.length := by rw [hps.1.length_eq, List.length_range, hks]
  refine ⟨by rw [List.length_map, hpl], by rw [List.length_map, hpl], fun x hx => ?_⟩
  obtain ⟨j, hj, rfl⟩ := List.mem_map.1 hx
  have hjl : j < l.length := by have := List.mem_range.1 (hps.1.mem_iff.1 hj); omega
  simp [hjl])
 obtain ⟨a0, a1, a2, a3, a4, a5, a6, q0, q1, q2, q3, q4, q5, q6⟩ := hC
 clear hbW f6 hl hc hs hw s1 s2 hR hsW hX1 hcar f6W hrW hr hP hk6 hml s3 hmay z1 z2 z3 hks hSI0 hLI0 s4 s5 s6
 go_enter Tryz.func19, Tryz.ntmps19
 go_wp2_with (first | (go_at_call 44; refine cal.mono ?_; rintro r w3 ⟨ps, pv, rfl, hps, hII0, hb3, _⟩; have hII : II w3 (fun _ => False) (pI ps) pv := hII0.carry fun b _ _ => ⟨rfl, fun h => h⟩; obtain ⟨po, pc, hpv, _⟩ := id hII; rw [pI_len] at hpv; subst hpv; have HS3 := hid_intro (HPS.out w3 ps po pc hb3 hps hII); have HV3 := hid_intro (HPV.out w3 ps po pc hb3 hps hII); have HPS3 := hid_intro hps; have HB3 := hid_intro hb3; obtain ⟨s0, s1, s2, s3, s4, s5, s6, g0, g1, g2, g3, g4, g5, g6⟩ := HC.out w3 hb3; clear hII0 hII hps))
 clear HPS HPV cal
 go_region_with first | (go_at_call 45; refine (HS3.out _ (by with_reducible repeat (first | exact Below.refl _ _ | refine bl_d ?_))).mono ?_; rintro r wA ⟨gA, rfl, hSA, hbA⟩; have hCA := HC.out wA (bl_t hb3 (bl_t (by with_reducible repeat (first | exact Below.refl _ _ | refine bl_d ?_)) hbA)); obtain ⟨b0, b1, b2, b3, b4, b5, b6, p0, p1, p2, p3, p4, p5, p6⟩ := hCA) | (go_at_call 46; refine (HV3.out _ (bl_t (by with_reducible repeat (first | exact Below.refl _ _ | refine bl_d ?_)) hbA)).mono ?_; rintro r wB ⟨gB, rfl, hOB, hbB⟩; have hCB := HC.out wB (bl_t hb3 (bl_t (bl_t (by with_reducible repeat (first | exact Below.refl _ _ | refine bl_d ?_)) hbA) hbB)); obtain ⟨d0, d1, d2, d3, d4, d5, d6, m0, m1, m2, m3, m4, m5, m6⟩ := hCB)
 all_goals
  have hbW0 := HB.out W (Below.refl _ _)
  obtain ⟨hN1, hN2, hN3⟩ := HPM.out ps HPS3.out
  have hcp := cp_start (X := X) (l := ps.map fun j => l.getD j jD) (ks := ps.map (dK ks)) (la := some ⟨gB, 0, none⟩) (lc := l.length) (G := pkG G ps l.length) hbW0 HSZ.out (HC.out W (Below.refl _ _)) (HR.out W (Below.refl _ _)) (HRW.out ps HPS3.out) (bl_t hb3 (bl_t (by with_reducible repeat (first | exact Below.refl _ _ | refine bl_d ?_)) hbA)) (bl_t (by with_reducible repeat (first | exact Below.refl _ _ | refine bl_d ?_)) hbB) hSA rfl (by rw [hN1]; exact hOB)
  rw [hN1, hN2] at hcp
  clear b0 b1 b2 b3 b4 b5 b6 p0 p1 p2 p3 p4 p5 p6 d0 d1 d2 d3 d4 d5 d6 m0 m1 m2 m3 m4 m5 m6 HC HR HB HRW HSZ hbA hbB hSA hOB hbW0 a0 a1 a2 a3 a4 a5 a6 q0 q1 q2 q3 q4 q5 q6 s0 s1 s2 s3 s4 s5 s6 g0 g1 g2 g3 g4 g5 g6
  generalize (wB.setCell ⟨w.heap.size, 6, none⟩ (.slice (some ⟨gA, 0, none⟩) l.length l.length)).setCell ⟨w.heap.size, 5, none⟩ (.slice (some ⟨gB, 0, none⟩) l.length l.length) = E at *
  have HFIN := hid_intro (HFN.out ps HPS3.out)
  have HLL := hid_intro hN1
  have HM1 := hid_intro hN3
  obtain ⟨L1, hL1⟩ : ∃ L1, (ps.map fun j => l.getD j jD) = L1 := ⟨_, rfl⟩
  obtain ⟨K1, hK1⟩ : ∃ K1, ps.map (dK ks) = K1 := ⟨_, rfl⟩
  obtain ⟨ko1, hko1⟩ : ∃ ko1, (some ⟨gA, 0, none⟩ : Option Addr) = ko1 := ⟨_, rfl⟩
  rw [hL1, hK1] at hcp HFIN
  rw [hL1] at HLL HM1
  clear hN1 hN2 hN3 HPM HFN HPS3 HS3 HV3 HB3 hL1 hK1 hko1
  have HCP := hid_intro hcp
  have hb7 := hcp.box _ _ _ _ _ _ _ rfl
  rw [HLL.out] at hb7
  obtain ⟨a0, a1, a2, a3, a4, a5, a6, q0, q1, q2, q3, q4, q5, q6⟩ := hb7
  have hlI : (l.length : Int) ≤ 1073741824 := by have := HL.out; omega
  clear hcp
  go_wp2_with fail
  clear a0 a1 a2 a3 a4 a5 a6 q0 q1 q2 q3 q4 q5 q6
  go_loopw [31] (fun tv wr => ∃ i : Nat, i ≤ l.length ∧ tv = .int .i64 i ∧ Hid (CpR w X (.mk 6 n g e t (stp L1 i) K1) (some ⟨gB, 0, none⟩) l.length (.slice (some ⟨gA, 0, none⟩) l.length l.length) wr)) (fun tv _ => l.length - (intOf tv).toNat)
  case atStart => exact ⟨0, Nat.zero_le _, rfl, hid_intro (by rw [stp_0]; exact HCP.out)⟩
  case round =>
   obtain ⟨i, hi, rfl, HK⟩ := hrel
   clear HCP
   by_cases hlt : i < l.length
   ·have hI : (i : Int) < (l.length : Int) := by omega
    have hk := HK.out
    have hsl : (stp L1 i).length = l.length := by rw [stp_len]; exact HLL.out
    have hlt1 : i < L1.length := by rw [HLL.out]; exact hlt
    have hlt2 : i < (stp L1 i).length := by rw [hsl]; exact hlt
    obtain ⟨gg, hgg⟩ : ∃ gg, (some ⟨gB, 0, none⟩ : Option Addr) = some ⟨gg, 0, none⟩ := by
     obtain ⟨G2, hO2, _⟩ := hk.row
     rcases hO2.2 with ⟨h1, h2⟩ | ⟨gg, cap2, cur2, h1, _⟩
     ·have h2 : (stp L1 i).length = 0 := h2
      omega
     ·injection h1 with h1 _ _
      exact ⟨gg, h1⟩
    obtain rfl : gB = gg := by injection hgg with h; injection h
    clear hgg
    obtain ⟨G2, hG2, hcell, hfz⟩ := hk.cell
    have hG3 : VI wr (X1 X w.heap.size (some ⟨gB, 0, none⟩)) L1[i] (G2 i) := by
     have := hG2 i hlt2
     have e1 : (JV.mk 6 n g e t (stp L1 i) K1).list[i]'hlt2 = L1[i] := stp_at hlt1
     rw [e1] at this
     exact this
    have hbnd : ∀ b, X1 X w.heap.size (some ⟨gB, 0, none⟩) b → b < wr.heap.size := fun b hb => by
     rcases hb with hb | rfl | rfl | hb
     ·exact Nat.lt_of_lt_of_le (hX b hb) hk.bel.size
     ·exact (hk.box _ _ _ _ _ _ _ rfl).lt
     ·exact hk.res.lt
     ·exact (hk.fresh _ _ _ hb).2.2.2
    have hcal : ∀ w', Below wr.heap.size wr w' → Calls Tryz.prog 19 #[.agg #[G2 i 0, G2 i 1, G2 i 2, G2 i 3, G2 i 4, G2 i 5, G2 i 6]] w' fun r w2 => ∃ f', r = .returned (.agg #[f' 0, f' 1, f' 2, f' 3, f' 4, f' 5, f' 6]) ∧ VI w2 (X1 X w.heap.size (some ⟨gB, 0, none⟩)) (srt L1[i]) f' ∧ Below wr.heap.size wr w2 := fun w' hb =>
     (HIH.out L1[i] (HM1.out _ (List.getElem_mem hlt1)) (G2 i) w' _ (fun b hx => Nat.lt_of_lt_of_le (hbnd b hx) hb.size) (hG3.kept hb)).mono fun r w2 ⟨f', h1, h2, h3⟩ => ⟨f', h1, h2, bl_t hb h3⟩
    have e0 : wr.cell? ⟨gB, i * 7, none⟩ = some (G2 i 0) := hcell i 0 hlt2 (by omega)
    have e1 := hcell i 1 hlt2 (by omega)
    have e2 := hcell i 2 hlt2 (by omega)
    have e3 := hcell i 3 hlt2 (by omega)
    have e4 := hcell i 4 hlt2 (by omega)
    have e5 := hcell i 5 hlt2 (by omega)
    have e6 := hcell i 6 hlt2 (by omega)
    have HN : Hid (∀ w2 f', Below wr.heap.size wr w2 → VI w2 (X1 X w.heap.size (some ⟨gB, 0, none⟩)) (srt L1[i]) f' → CpR w X (.mk 6 n g e t (stp L1 (i + 1)) K1) (some ⟨gB, 0, none⟩) l.length (.slice (some ⟨gA, 0, none⟩) l.length l.length) (put7 w2 gB (i * 7) f')) := fun w2 f' hb hv => by rw [← stp_set hlt1]; exact cp_step_set hk hlt2 hb hv
    have hglt : gB < wr.heap.size := (hk.fresh _ _ _ rfl).2.2.2
    have HF : Hid (∀ w2 o, Below wr.heap.size wr w2 → w2.frozen? ⟨gB, o, none⟩ = false) := fun w2 o hb => by rw [hb.frozen (p := ⟨gB, o, none⟩) hglt]; exact hfz o
    have HG : Hid (∀ w2 j, j < 7 → Below wr.heap.size wr w2 → w2.cell? ⟨gB, i * 7 + j, none⟩ = some (G2 i j)) := fun w2 j hj hb => by rw [hb.cell (p := ⟨gB, i * 7 + j, none⟩) hglt]; exact hcell i j hlt2 hj
    have HX : Hid (∀ w2, Below wr.heap.size wr w2 → w2.cell? ⟨w.heap.size, 5, none⟩ = some (.slice (some ⟨gB, 0, none⟩) l.length l.length)) := fun w2 hb => by
     have hc := hk.box _ _ _ _ _ _ _ rfl
     rw [hsl] at hc
     rw [hb.cell (p := ⟨w.heap.size, 5, none⟩) hc.lt]; exact hc.c5
    have a5 := HX.out wr (Below.refl _ _)
    have HI : Hid (∀ w', Below wr.heap.size wr w' → Calls Tryz.prog 19 #[.agg #[G2 i 0, G2 i 1, G2 i 2, G2 i 3, G2 i 4, G2 i 5, G2 i 6]] w' fun r w2 => ∃ f', r = .returned (.agg #[f' 0, f' 1, f' 2, f' 3, f' 4, f' 5, f' 6]) ∧ VI w2 (X1 X w.heap.size (some ⟨gB, 0, none⟩)) (srt L1[i]) f' ∧ Below wr.heap.size wr w2) := hcal
    clear hk HK hcal hG2 hG3 hcell hfz hbnd hsl hlt2
    go_wp2_with fail
    go_region_with (go_at_call 19; refine (HI.out _ (by with_reducible repeat (first | exact Below.refl _ _ | refine bl_d ?_))).mono ?_; rintro r w2 ⟨f', rfl, hv', hb2⟩; obtain ⟨k', n', g', e', t', la', m', c', ka', km', kc2, f0, f1, f2, f3, f4, f5, f6⟩ := hv'.shape; have b5 := HX.out w2 hb2; have x0 : w2.cell? ⟨gB, i * 7, none⟩ = some (G2 i 0) := HG.out w2 0 (by omega) hb2; have x1 := HG.out w2 1 (by omega) hb2; have x2 := HG.out w2 2 (by omega) hb2; have x3 := HG.out w2 3 (by omega) hb2; have x4 := HG.out w2 4 (by omega) hb2; have x5 := HG.out w2 5 (by omega) hb2; have x6 := HG.out w2 6 (by omega) hb2; have y0 := HF.out w2 (i * 7) hb2; have y1 := HF.out w2 (i * 7 + 1) hb2; have y2 := HF.out w2 (i * 7 + 2) hb2; have y3 := HF.out w2 (i * 7 + 3) hb2; have y4 := HF.out w2 (i * 7 + 4) hb2; have y5 := HF.out w2 (i * 7 + 5) hb2; have y6 := HF.out w2 (i * 7 + 6) hb2)
    all_goals
     have hnext := HN.out w2 f' hb2 hv'
     unfold put7 at hnext
     rw [f0, f1, f2, f3, f4, f5, f6] at hnext
     have HNX : Hid (CpR w X (.mk 6 n g e t (stp L1 (i + 1)) K1) (some ⟨gB, 0, none⟩) l.length (.slice (some ⟨gA, 0, none⟩) l.length l.length) (((((((w2.setCell ⟨gB, i * 7, none⟩ (.int .i64 k')).setCell ⟨gB, i * 7 + 1, none⟩ (.bool n')).setCell ⟨gB, i * 7 + 2, none⟩ (.string g')).setCell ⟨gB, i * 7 + 3, none⟩ (.int .i64 e')).setCell ⟨gB, i * 7 + 4, none⟩ (.string t')).setCell ⟨gB, i * 7 + 5, none⟩ (.slice la' m' c')).setCell ⟨gB, i * 7 + 6, none⟩ (.slice ka' km' kc2))) := hnext
     clear hnext x0 x1 x2 x3 x4 x5 x6 y0 y1 y2 y3 y4 y5 y6 b5 e0 e1 e2 e3 e4 e5 e6 a5 HG HF HX HI HN f0 f1 f2 f3 f4 f5 f6 hv' hb2
     go_wp2
     go_roundw
     case rel => exact ⟨i + 1, by omega, by go_num, HNX⟩
     case measure => simp [intOf]; omega
   ·have hI : ¬ (i : Int) < (l.length : Int) := by omega
    have hil : i = L1.length := by rw [HLL.out]; omega
    have hk0 := HK.out
    rw [hil, stp_all] at hk0
    have HK2 := hid_intro hk0
    have hk := hk0
    have hb7 := hk.box _ _ _ _ _ _ _ rfl
    rw [show (L1.map srt).length = l.length by rw [List.length_map]; exact HLL.out] at hb7
    obtain ⟨a0, a1, a2, a3, a4, a5, a6, q0, q1, q2, q3, q4, q5, q6⟩ := hb7
    obtain ⟨r0, r1, r2, r3, r4, r5, r6, z0, z1, z2, z3, z4, z5, z6⟩ := hk.res
    have hbel := hk.bel
    clear hk hk0 HK hil
    go_wp2
    refine bodyPost_ret (v := .agg #[.int .i64 6, .bool n, .string g, .int .i64 e, .string t, .slice (some ⟨gB, 0, none⟩) l.length l.length, .slice (some ⟨gA, 0, none⟩) l.length l.length]) (by simp [results, Tryz.results19, go_sem, *]) rfl ?_
    rw [HP.out, HFIN.out]
    refine ⟨fun j => match j with | 0 => .int .i64 6 | 1 => .bool n | 2 => .string g | 3 => .int .i64 e | 4 => .string t | 5 => .slice (some ⟨gB, 0, none⟩) l.length l.length | _ => .slice (some ⟨gA, 0, none⟩) l.length l.length, rfl, cp_end hX HK2.out HSH.out HWF.out rfl rfl rfl rfl rfl (by rw [List.length_map, HLL.out]; rfl) rfl (fun b hb => by repeat rw [Below.heap_setCell _ _ _ _ hb]), ?_⟩
    with_reducible repeat (first | exact hbel | refine bl_s ?_ (Nat.le_succ _) _)
end Go.Proofs.YtjdboekanmfgpaaGreatDoor
