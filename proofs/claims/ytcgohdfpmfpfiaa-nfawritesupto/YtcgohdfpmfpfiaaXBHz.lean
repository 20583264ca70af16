/-
  The automaton of a right tree, outside of blocks set apart; Compile. Conditions: nothing in the tree is longer than 2^20.
-/
import Derived.Test.YtcgohdfpmfpfiaaG42
import Derived.Test.YtcgohdfpmfpfiaaXD4
import Derived.Deep.Strs
namespace Go.Proofs.Ytcgohdfpmfpfiaa
open Go.RowKit Go.Deep
attribute [local go_sem] setCell_drewN alloc_drewN

theorem LZ.made {w : World} {lb sb cap : Nat} {Z : List Nat} (h : LS w lb sb cap []) (hz : ∀ z ∈ Z, z < w.heap.size ∧ z ≠ lb ∧ z ≠ sb) : LZ w lb sb cap Z [] := by
  obtain ⟨M, h0, h1, h2, h3, h4, h5, h6⟩ := h
  have hM : M = [] := by simpa using h0
  exact ⟨M, h0, h1, h2, h3, h4, fun p hp => by rw [hM] at hp; simp at hp, h6, hz⟩
theorem LZ.si {w : World} {lb sb cap : Nat} {Z : List Nat} {L : List ST} (h : LZ w lb sb cap Z L) (hok : ∀ s ∈ L, s.ok) : SI w (fun b => b ∈ Z) L (.slice (some ⟨sb, 0, none⟩) L.length L.length) := by
  have hlen := h.len
  have hz : sb ∉ Z := by
    obtain ⟨M, _, _, _, _, _, _, _, hz⟩ := h
    exact fun e => (hz sb e).2.2 rfl
  refine ⟨_, _, rfl, Nat.le_refl _, by unfold maxLen; omega, hok, ?_⟩
  by_cases hL : L = []
  · exact Or.inl hL
  right
  haveI : Inhabited Value := ⟨.nilIface⟩
  have each : ∀ i, i < L.length → ∃ v : Value, w.cell? ⟨sb, i * 4, none⟩ = some (.int .i64 (sa L i).k) ∧ w.cell? ⟨sb, i * 4 + 1, none⟩ = some v ∧ w.cell? ⟨sb, i * 4 + 2, none⟩ = some (.int .i64 (sa L i).a) ∧ w.cell? ⟨sb, i * 4 + 3, none⟩ = some (.int .i64 (sa L i).b) ∧ RI w (thr lb sb Z) (sa L i).r v := fun i hi => (h.at i hi).1
  obtain ⟨G, hG⟩ := choose_lt each
  refine ⟨sb, 0, G, rfl, hz, fun i hi => ?_⟩
  obtain ⟨h0, h1, h2, h3, hR⟩ := hG i hi
  simp only [Nat.zero_add]
  exact ⟨⟨h0, h1, h2, h3⟩, hR.weak (fun _ h => Or.inr (Or.inr h))⟩
set_option maxRecDepth 100000 in
set_option maxHeartbeats 3200000 in
theorem auto_z (Z : List Nat) (t : RX) (d : Nat) (hr : rightB d t = true) (hbd : BdX 1048576 t) (f : Nat → Value) (w : World) (Y : Nat → Prop) (hv : XI w Y t f) (hz : ∀ z ∈ Z, z < w.heap.size) (hsz : szX t + 1 ≤ 65536) :
    Calls Try.prog 19 #[xa f, .int .i64 ((szX t + 1 : Nat) : Int)] w fun e w' => ∃ sb, e = .returned (.slice (some ⟨sb, 0, none⟩) (szX t + 1) (szX t + 1)) ∧ SI w' (fun b => b ∈ Z) (nfaL t) (.slice (some ⟨sb, 0, none⟩) (szX t + 1) (szX t + 1)) ∧ Below w.heap.size w w' := by
  have hyok := yok_of hr hbd
  obtain ⟨k, a1, n1, c1, lo, hi, z, a2, n2, c2, e0, e1, e2, e3, e4, e5⟩ := hv.six
  have exa : xa f = .agg #[.int .i64 k, .slice a1 n1 c1, .int .i64 lo, .int .i64 hi, .bool z, .slice a2 n2 c2] := by unfold xa; rw [e0, e1, e2, e3, e4, e5]
  obtain ⟨V, hV⟩ : ∃ V, w.alloc (.cells #[.int .i64 k, .slice a1 n1 c1, .int .i64 lo, .int .i64 hi, .bool z, .slice a2 n2 c2] 32) = V := ⟨_, rfl⟩
  have hbV : Below w.heap.size w V := hV ▸ vb_a (Below.refl _ _) _
  have hVs : V.heap.size = w.heap.size + 1 := by rw [← hV]; simp
  have kV : Bk V w.heap.size #[.int .i64 k, .slice a1 n1 c1, .int .i64 lo, .int .i64 hi, .bool z, .slice a2 n2 c2] := hV ▸ Bk.new _ _ _
  obtain ⟨C, hC⟩ : ∃ C, szX t + 1 = C := ⟨_, rfl⟩
  have hmk := make_st V C (by omega)
  have hls := LS.made V C (by omega)
  obtain ⟨o0, ho0⟩ : ∃ o, Obj.cells (madeCells #[.int .i64 0, .slice none 0 0, .int .i64 0, .int .i64 0] (C * 4)) 40 = o := ⟨_, rfl⟩
  rw [ho0] at hmk hls
  obtain ⟨W, hW⟩ : ∃ W, (V.alloc o0).alloc (.cells #[.slice (some ⟨V.heap.size, 0, none⟩) 0 C] 60) = W := ⟨_, rfl⟩
  rw [hW] at hls
  have hbVW : Below V.heap.size V W := hW ▸ vb_a (vb_a (Below.refl _ _) _) _
  have hbW : Below w.heap.size w W := vb_t hbV hbVW
  have htw : ∀ k, two (V.heap.size + 1) V.heap.size k → w.heap.size ≤ k := fun k hk => by rcases hk with hk | hk <;> omega
  have hvW : XI W (two (V.heap.size + 1) V.heap.size) t f := hv.carry (fun b _ hb => ⟨hbW.block b hb, fun hx => by have := htw b hx; omega⟩)
  have hpart := part_any (V.heap.size + 1) V.heap.size C t d f W hr hbd hvW hls.lt
  rw [exa] at hpart
  obtain ⟨k0, k1, k2, k3, k4, k5⟩ := (kV.bel hbVW).c6
  have HLW := hid_intro (LZ.made (Z := Z) hls (fun z h => by have := hz z h; have := hbW.size; omega))
  have HBW := hid_intro hbW
  have HTW := hid_intro htw
  have HY := hid_intro hyok
  have hlen0 : (bld t 0).length = szX t := hyok.len 0
  rw [exa, hC]
  obtain ⟨P, hP⟩ : ∃ P : Ending → World → Prop, P = fun e w' => ∃ sb, e = .returned (.slice (some ⟨sb, 0, none⟩) C C) ∧ SI w' (fun b => b ∈ Z) (nfaL t) (.slice (some ⟨sb, 0, none⟩) C C) ∧ Below w.heap.size w w' := ⟨_, rfl⟩
  rw [← hP]
  have HP := hid_intro hP
  have HC := hid_intro (And.intro hC (And.intro hlen0 hsz))
  have hCI : (0 : Int) ≤ (C : Int) := by omega
  clear hz hP hls hbVW hbW htw hbV ho0 kV hvW hv hr hbd e0 e1 e2 e3 e4 e5 exa hVs hyok hlen0 hC hsz
  go_enter Try.func19, Try.ntmps19
  go_wp2_with fail
  refine hpart.mono ?_; rintro e w2 ⟨v2, rfl, hfn, hb2⟩
  obtain ⟨fnum, caps, rfl, hent, hcall0⟩ := hfn
  have hcall := hcall0 w2 Z [] (But.refl _ _) (HLW.out.below hb2) (by have := HC.out.1; simp; omega)
  rw [List.nil_append, List.length_nil] at hcall
  have HB2 := hid_intro hb2
  clear hpart hcall0 hb2 k0 k1 k2 k3 k4 k5
  go_wp2_with fail
  refine hcall.mono ?_; rintro e w3 ⟨rfl, hlz3, hbt3⟩
  have hls3 := hlz3
  obtain ⟨l3, z3⟩ := hls3.cell
  obtain ⟨Q, hQ⟩ : ∃ Q, (bld t 0).length = Q := ⟨_, rfl⟩
  rw [hQ] at l3
  have HL3 := hid_intro hls3
  have hlt3 := hls3.lt
  have hne3 := hls3.ne
  obtain ⟨M, hM, _, _, _, hown, hRs, _, _⟩ := hls3
  rw [hQ] at hown
  have HB3 := hid_intro hbt3
  have HM := hid_intro (And.intro hM hRs)
  have HQC : Hid (Q + 1 = C) := hid_intro (by have := HC.out; omega)
  have HRM : Hid (Q + 1 ≤ C) := hid_intro (by have := HQC.out; omega)
  have HKEEP : Hid (∀ w6, (w3.alloc (.cells #[.int .i64 7, .slice none 0 0, .int .i64 0, .int .i64 0] 40)).grownBy w6 (some V.heap.size) → w6.cell? ⟨V.heap.size + 1, 0, none⟩ = some (.slice (some ⟨V.heap.size, 0, none⟩) Q C) ∧ w6.frozen? ⟨V.heap.size + 1, 0, none⟩ = false) := hid_intro (fun w6 hg => by
    have e : w6.heap[V.heap.size + 1]? = w3.heap[V.heap.size + 1]? := (hg.block _ (by simp; omega) (fun e => hne3 (by injection e))).trans ((vb_a (Below.refl _ _) _).block _ hlt3.1)
    exact ⟨(World.cell?_of_block (w := w3) (w' := w6) e).trans l3, by rw [← z3]; simp only [World.frozen?, e]⟩)
  have HQ := hid_intro hQ
  clear hM hRs hbt3 hcall hlt3 hne3 hlz3 hent hQ
  go_wp2_with (at_builtin; refine wpList_append_st rfl _ _ rfl V.heap.size Q C (flatS M) rfl (.int .i64 7) (.slice none 0 0) (.int .i64 0) (.int .i64 0) _ rfl rfl HRM.out ⟨rfl, rfl, rfl, rfl⟩ hown ?_; intro w6 ho6 hg6; obtain ⟨l6, z6⟩ := HKEEP.out w6 hg6)
  have hput := LZ.put (w := w3) (Z := Z) (lb := V.heap.size + 1) (sb := V.heap.size) (cap := C) (L := bld t 0) ⟨7, [], 0, 0⟩ (.slice none 0 0) M HM.out.1 HL3.out HM.out.2 (vb_a (Below.refl _ _) _) hg6 (by rw [HQ.out]; exact ho6) (Or.inr ⟨rfl, rfl⟩)
  rw [HQ.out] at hput
  have hfrom := from_any _ _ _ _ _ hput.1.toS
  have el : (bld t 0 ++ [⟨7, [], 0, 0⟩] : List ST).length = C := by rw [List.length_append, HQ.out]; exact HQC.out
  rw [el] at hfrom
  have HPU := hid_intro hput
  clear hput ho6 hg6 l3 z3 hown HKEEP
  go_wp2_with fail
  refine hfrom.mono ?_; rintro e w8 ⟨rfl, hb8⟩
  have hsi := (HPU.out.1.below hb8).si (nfaL_ok t HY.out (by have := HC.out.2.2; omega))
  rw [el] at hsi
  have HSI := hid_intro hsi
  clear hfrom l6 z6 hsi el
  go_wp2_with fail
  rw [HP.out]
  refine ⟨_, rfl, HSI.out, ?_⟩
  exact But.toBelow HBW.out (((But.ofBelow HB2.out).trans (HB3.out.trans HPU.out.2)).below hb8) HTW.out
set_option maxRecDepth 100000 in
set_option maxHeartbeats 1600000 in
theorem comp_okz (Z : List Nat) (t : RX) (hbd : BdX 1048576 t) (f : Nat → Value) (w : World) (Y : Nat → Prop) (hv : XI w Y t f) (hz : ∀ z ∈ Z, z < w.heap.size) (most : Int) (hr : rightB 1000 t = true) (hbig : (szX t : Int) + 1 ≤ min most 65536) :
    Calls Try.prog 10 #[xa f, .int .i64 most] w fun e w' => ∃ sb, e = .returned (.tuple #[.slice (some ⟨sb, 0, none⟩) (szX t + 1) (szX t + 1), .int .i64 0]) ∧ SI w' (fun b => b ∈ Z) (nfaL t) (.slice (some ⟨sb, 0, none⟩) (szX t + 1) (szX t + 1)) ∧ Below w.heap.size w w' := by
  obtain ⟨k, a1, n1, c1, lo, hi, z, a2, n2, c2, e0, e1, e2, e3, e4, e5⟩ := hv.six
  have exa : xa f = .agg #[.int .i64 k, .slice a1 n1 c1, .int .i64 lo, .int .i64 hi, .bool z, .slice a2 n2 c2] := by unfold xa; rw [e0, e1, e2, e3, e4, e5]
  obtain ⟨W, hW⟩ : ∃ W, w.alloc (.cells #[.int .i64 k, .slice a1 n1 c1, .int .i64 lo, .int .i64 hi, .bool z, .slice a2 n2 c2] 32) = W := ⟨_, rfl⟩
  have hbW : Below w.heap.size w W := hW ▸ vb_a (Below.refl _ _) _
  have kX : Bk W w.heap.size #[.int .i64 k, .slice a1 n1 c1, .int .i64 lo, .int .i64 hi, .bool z, .slice a2 n2 c2] := hW ▸ Bk.new _ _ _
  have hs := size_any t f W Y (hbd.mono (by omega)) (hv.kept hbW) (min most 65536) (I64_of (by omega) (by omega))
  have hev : errV t = 0 := by unfold errV; rw [hr]; rfl
  have hsv : sizeV t (min most 65536) = ((szX t + 1 : Nat) : Int) := by unfold sizeV om; rw [hr, if_pos rfl, if_neg (by omega)]; omega
  have hau := fun w' (hb : Below W.heap.size W w') => auto_z Z t 1000 hr hbd f w' Y (hv.kept (vb_t hbW hb)) (fun z h => Nat.lt_of_lt_of_le (hz z h) (vb_t hbW hb).size) (by omega)
  rw [hev, hsv] at hs
  rw [exa] at hs hau ⊢
  obtain ⟨C, hC⟩ : ∃ C, szX t + 1 = C := ⟨_, rfl⟩
  rw [hC] at hs hau ⊢
  have hle : (C : Int) ≤ min most 65536 := by omega
  have HW := hid_intro hW
  have HAU := hid_intro hau
  have HK := hid_intro kX
  have HBW := hid_intro hbW
  obtain ⟨mm, hmm⟩ : ∃ mm, min most 65536 = mm := ⟨_, rfl⟩
  rw [hmm] at hs hle
  clear hz hW hv e0 e1 e2 e3 e4 e5 exa hbd hr hev kX hbig hau hsv hC hbW
  go_enter Try.func10, Try.ntmps10
  go_wp2_with fail
  rw [HW.out]
  refine hs.mono ?_; rintro e w1 ⟨rfl, hb1⟩
  obtain ⟨x0, x1, x2, x3, x4, x5⟩ := (HK.out.bel hb1).c6
  have ha := HAU.out w1 hb1
  have HB1 := hid_intro hb1
  clear hb1 hs
  go_wp2_with fail
  refine ha.mono ?_; rintro e w2 ⟨sb, rfl, hsi, hb2⟩
  have HF := hid_intro (And.intro hsi (vb_t (vb_t HBW.out HB1.out) hb2))
  clear x0 x1 x2 x3 x4 x5 hsi hb2 ha
  go_wp2_with fail
  go_ret2
  exact ⟨sb, rfl, HF.out⟩
theorem comp_genz (Z : List Nat) (t : RX) (hbd : BdX 1048576 t) (f : Nat → Value) (w : World) (Y : Nat → Prop) (hv : XI w Y t f) (hz : ∀ z ∈ Z, z < w.heap.size) (hr : rightB 1000 t = true) :
    Calls Try.prog 10 #[xa f, .int .i64 65536] w fun e w' => ∃ ao n c, e = .returned (.tuple #[.slice ao n c, .int .i64 (erV t)]) ∧ SI w' (fun b => b ∈ Z) (lrV t) (.slice ao n c) ∧ Below w.heap.size w w' := by
  by_cases h : szX t + 1 ≤ 65536
  · refine (comp_okz Z t hbd f w Y hv hz 65536 hr (by omega)).mono fun e w' ⟨sb, h1, h2, h3⟩ => ⟨_, _, _, by unfold erV; rw [if_pos h]; exact h1, by unfold lrV; rw [if_pos h]; exact h2, h3⟩
  · refine (comp_big t hbd f w Y hv 65536 (I64_of (by omega) (by omega)) hr (by omega)).mono fun e w' ⟨h1, h3⟩ => ⟨none, 0, 0, by unfold erV; rw [if_neg h]; exact h1, by unfold lrV; rw [if_neg h]; exact SI.nil _ _, h3⟩
end Go.Proofs.Ytcgohdfpmfpfiaa
