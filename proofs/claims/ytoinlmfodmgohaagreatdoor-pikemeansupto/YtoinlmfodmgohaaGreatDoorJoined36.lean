/-
  The automaton of a right tree; Compile. Conditions: nothing in the tree is longer than 2^20.
  Compile, whole. Conditions: nothing in the tree is longer than 2^20.
  What a choice of two finds is what one of them finds. No condition.
  What a choice of two finds is what one of them finds; a row of a pattern and nothing is the pattern. No condition.
-/
import Derived.Test.YtoinlmfodmgohaaGreatDoorJoined34
import Derived.Test.YtoinlmfodmgohaaGreatDoorJoined35
import Derived.Test.YtoinlmfodmgohaaGreatDoorJoined24
import Derived.Test.YtoinlmfodmgohaaGreatDoorJoined25
namespace Go.Proofs.YtoinlmfodmgohaaGreatDoor
open Go.RowKit
attribute [local go_sem] setCell_drewN alloc_drewN

theorem LS.toZ {w : World} {lb sb cap : Nat} {L : List ST} (h : LS w lb sb cap L) : LZ w lb sb cap [] L := by
  obtain ⟨M, h0, h1, h2, h3, h4, h5, h6⟩ := h
  exact ⟨M, h0, h1, h2, h3, h4, fun p hp => (h5 p hp).weak (fun b hb => by rcases hb with h | h | h; exact Or.inl h; exact Or.inr h; simp at h), h6, fun z hz => by simp at hz⟩
theorem LZ.toS {w : World} {lb sb cap : Nat} {Z : List Nat} {L : List ST} (h : LZ w lb sb cap Z L) : LS w lb sb cap L := by
  obtain ⟨M, h0, h1, h2, h3, h4, h5, h6, h7⟩ := h
  exact ⟨M, h0, h1, h2, h3, h4, fun p hp => (h5 p hp).weak (fun b hb => by rcases hb with h | h; exact Or.inl h; exact Or.inr (Or.inl h)), h6⟩
/-- All states of a tree. -/
def nfaL (t : RX) : List ST := bld t 0 ++ [⟨7, [], 0, 0⟩]
theorem nfaL_len (t : RX) (h : ∀ n, (bld t n).length = szX t) : (nfaL t).length = szX t + 1 := by unfold nfaL; rw [List.length_append, h]; rfl
theorem nfaL_ok (t : RX) (hy : YOK t) (hs : szX t ≤ 65536) : ∀ s ∈ nfaL t, s.ok := by
  intro s hm
  rcases List.mem_append.1 hm with hm | hm
  · obtain ⟨g1, g2, g3, g4, g5, g6, _⟩ := hy.good (szX t) 0 (by omega) s hm
    exact ⟨I64_of (by omega) (by omega), I64_of (by omega) (by omega), I64_of (by omega) (by omega)⟩
  · obtain rfl := List.mem_singleton.1 hm
    exact ⟨I64_of (by simp) (by simp), I64_of (by simp) (by simp), I64_of (by simp) (by simp)⟩
set_option maxRecDepth 100000 in
set_option maxHeartbeats 3200000 in
theorem auto_any (t : RX) (d : Nat) (hr : rightB d t = true) (hbd : BdX 1048576 t) (f : Nat → Value) (w : World) (Y : Nat → Prop) (hv : XI w Y t f) (hsz : szX t + 1 ≤ 65536) :
    Calls Tryz.prog 28 #[xa f, .int .i64 ((szX t + 1 : Nat) : Int)] w fun e w' => ∃ sb, e = .returned (.slice (some ⟨sb, 0, none⟩) (szX t + 1) (szX t + 1)) ∧ SI w' (fun _ => False) (nfaL t) (.slice (some ⟨sb, 0, none⟩) (szX t + 1) (szX t + 1)) ∧ Below w.heap.size w w' := by
  have hyok := yok_of hr hbd
  obtain ⟨k, a1, n1, c1, lo, hi, z, a2, n2, c2, e0, e1, e2, e3, e4, e5⟩ := hv.six
  have exa : xa f = .agg #[.int .i64 k, .slice a1 n1 c1, .int .i64 lo, .int .i64 hi, .bool z, .slice a2 n2 c2] := by unfold xa; rw [e0, e1, e2, e3, e4, e5]
  obtain ⟨V, hV⟩ : ∃ V, w.alloc (.cells #[.int .i64 k, .slice a1 n1 c1, .int .i64 lo, .int .i64 hi, .bool z, .slice a2 n2 c2] 31) = V := ⟨_, rfl⟩
  have hbV : Below w.heap.size w V := hV ▸ vb_a (Below.refl _ _) _
  have hVs : V.heap.size = w.heap.size + 1 := by rw [← hV]; simp
  have kV : Bk V w.heap.size #[.int .i64 k, .slice a1 n1 c1, .int .i64 lo, .int .i64 hi, .bool z, .slice a2 n2 c2] := hV ▸ Bk.new _ _ _
  obtain ⟨C, hC⟩ : ∃ C, szX t + 1 = C := ⟨_, rfl⟩
  have hmk := make_st V C (by omega)
  have hls := LS.made V C (by omega)
  obtain ⟨o0, ho0⟩ : ∃ o, Obj.cells (madeCells #[.int .i64 0, .slice none 0 0, .int .i64 0, .int .i64 0] (C * 4)) 94 = o := ⟨_, rfl⟩
  rw [ho0] at hmk hls
  obtain ⟨W, hW⟩ : ∃ W, (V.alloc o0).alloc (.cells #[.slice (some ⟨V.heap.size, 0, none⟩) 0 C] 90) = W := ⟨_, rfl⟩
  rw [hW] at hls
  have hbVW : Below V.heap.size V W := hW ▸ vb_a (vb_a (Below.refl _ _) _) _
  have hbW : Below w.heap.size w W := vb_t hbV hbVW
  have htw : ∀ k, two (V.heap.size + 1) V.heap.size k → w.heap.size ≤ k := fun k hk => by rcases hk with hk | hk <;> omega
  have hvW : XI W (two (V.heap.size + 1) V.heap.size) t f := hv.carry (fun b _ hb => ⟨hbW.block b hb, fun hx => by have := htw b hx; omega⟩)
  have hpart := part_any (V.heap.size + 1) V.heap.size C t d f W hr hbd hvW hls.lt
  rw [exa] at hpart
  obtain ⟨k0, k1, k2, k3, k4, k5⟩ := (kV.bel hbVW).c6
  have HLW := hid_intro hls.toZ
  have HBW := hid_intro hbW
  have HTW := hid_intro htw
  have HY := hid_intro hyok
  have hlen0 : (bld t 0).length = szX t := hyok.len 0
  rw [exa, hC]
  obtain ⟨P, hP⟩ : ∃ P : Ending → World → Prop, P = fun e w' => ∃ sb, e = .returned (.slice (some ⟨sb, 0, none⟩) C C) ∧ SI w' (fun _ => False) (nfaL t) (.slice (some ⟨sb, 0, none⟩) C C) ∧ Below w.heap.size w w' := ⟨_, rfl⟩
  rw [← hP]
  have HP := hid_intro hP
  have HC := hid_intro (And.intro hC (And.intro hlen0 hsz))
  have hCI : (0 : Int) ≤ (C : Int) := by omega
  clear hP hls hbVW hbW htw hbV ho0 kV hvW hv hr hbd e0 e1 e2 e3 e4 e5 exa hVs hyok hlen0 hC hsz
  go_enter Tryz.func28, Tryz.ntmps28
  go_wp2_with fail
  refine hpart.mono ?_; rintro e w2 ⟨v2, rfl, hfn, hb2⟩
  obtain ⟨fnum, caps, rfl, hent, hcall0⟩ := hfn
  have hcall := hcall0 w2 [] [] (But.refl _ _) (HLW.out.below hb2) (by have := HC.out.1; simp; omega)
  rw [List.nil_append, List.length_nil] at hcall
  have HB2 := hid_intro hb2
  clear hpart hcall0 hb2 k0 k1 k2 k3 k4 k5
  go_wp2_with fail
  refine hcall.mono ?_; rintro e w3 ⟨rfl, hlz3, hbt3⟩
  have hls3 := hlz3.toS
  obtain ⟨l3, z3⟩ := hls3.cell
  obtain ⟨Q, hQ⟩ : ∃ Q, (bld t 0).length = Q := ⟨_, rfl⟩
  rw [hQ] at l3
  have HL3 := hid_intro hls3
  have hlt3 := hls3.lt
  have hne3 := hls3.ne
  obtain ⟨M, hM, _, _, _, hown, hRs, _⟩ := hls3
  rw [hQ] at hown
  have HB3 := hid_intro hbt3
  have HM := hid_intro (And.intro hM hRs)
  have HQC : Hid (Q + 1 = C) := hid_intro (by have := HC.out; omega)
  have HRM : Hid (Q + 1 ≤ C) := hid_intro (by have := HQC.out; omega)
  have HKEEP : Hid (∀ w6, (w3.alloc (.cells #[.int .i64 7, .slice none 0 0, .int .i64 0, .int .i64 0] 94)).grownBy w6 (some V.heap.size) → w6.cell? ⟨V.heap.size + 1, 0, none⟩ = some (.slice (some ⟨V.heap.size, 0, none⟩) Q C) ∧ w6.frozen? ⟨V.heap.size + 1, 0, none⟩ = false) := hid_intro (fun w6 hg => by
    have e : w6.heap[V.heap.size + 1]? = w3.heap[V.heap.size + 1]? := (hg.block _ (by simp; omega) (fun e => hne3 (by injection e))).trans ((vb_a (Below.refl _ _) _).block _ hlt3.1)
    exact ⟨(World.cell?_of_block (w := w3) (w' := w6) e).trans l3, by rw [← z3]; simp only [World.frozen?, e]⟩)
  have HQ := hid_intro hQ
  clear hM hRs hbt3 hcall hlt3 hne3 hlz3 hent hQ
  go_wp2_with (at_builtin; refine wpList_append_st rfl _ _ rfl V.heap.size Q C (flatS M) rfl (.int .i64 7) (.slice none 0 0) (.int .i64 0) (.int .i64 0) _ rfl rfl HRM.out ⟨rfl, rfl, rfl, rfl⟩ hown ?_; intro w6 ho6 hg6; obtain ⟨l6, z6⟩ := HKEEP.out w6 hg6)
  have hput := LS.put (w := w3) (lb := V.heap.size + 1) (sb := V.heap.size) (cap := C) (L := bld t 0) ⟨7, [], 0, 0⟩ (.slice none 0 0) M HM.out.1 HL3.out HM.out.2 (vb_a (Below.refl _ _) _) hg6 (by rw [HQ.out]; exact ho6) (Or.inr ⟨rfl, rfl⟩)
  rw [HQ.out] at hput
  have hfrom := from_any _ _ _ _ _ hput.1
  have el : (bld t 0 ++ [⟨7, [], 0, 0⟩] : List ST).length = C := by rw [List.length_append, HQ.out]; exact HQC.out
  rw [el] at hfrom
  have HPU := hid_intro hput
  clear hput ho6 hg6 l3 z3 hown HKEEP
  go_wp2_with fail
  refine hfrom.mono ?_; rintro e w8 ⟨rfl, hb8⟩
  have hsi := (HPU.out.1.below hb8).si (nfaL_ok t HY.out (by have := HC.out.2.2; omega))
  rw [el] at hsi
  have HSI := hid_intro hsi
  clear hfrom l6 z6 hsi el
  go_wp2_with fail
  rw [HP.out]
  refine ⟨_, rfl, HSI.out, ?_⟩
  exact But.toBelow HBW.out (((But.ofBelow HB2.out).trans (HB3.out.trans HPU.out.2)).below hb8) HTW.out
end Go.Proofs.YtoinlmfodmgohaaGreatDoor

namespace Go.Proofs.YtoinlmfodmgohaaGreatDoor
open Go.RowKit
attribute [local go_sem] setCell_drewN alloc_drewN

set_option maxRecDepth 100000 in
set_option maxHeartbeats 1600000 in
theorem comp_bad (t : RX) (hbd : BdX 1048576 t) (f : Nat → Value) (w : World) (Y : Nat → Prop) (hv : XI w Y t f) (most : Int) (hm : I64 most) (hr : rightB 1000 t = false) :
    Calls Tryz.prog 10 #[xa f, .int .i64 most] w fun e w' => e = .returned (.tuple #[.slice none 0 0, .int .i64 91]) ∧ Below w.heap.size w w' := by
  obtain ⟨k, a1, n1, c1, lo, hi, z, a2, n2, c2, e0, e1, e2, e3, e4, e5⟩ := hv.six
  have exa : xa f = .agg #[.int .i64 k, .slice a1 n1 c1, .int .i64 lo, .int .i64 hi, .bool z, .slice a2 n2 c2] := by unfold xa; rw [e0, e1, e2, e3, e4, e5]
  obtain ⟨W, hW⟩ : ∃ W, w.alloc (.cells #[.int .i64 k, .slice a1 n1 c1, .int .i64 lo, .int .i64 hi, .bool z, .slice a2 n2 c2] 31) = W := ⟨_, rfl⟩
  have hbW : Below w.heap.size w W := hW ▸ vb_a (Below.refl _ _) _
  have kX : Bk W w.heap.size #[.int .i64 k, .slice a1 n1 c1, .int .i64 lo, .int .i64 hi, .bool z, .slice a2 n2 c2] := hW ▸ Bk.new _ _ _
  have hs := size_any t f W Y (hbd.mono (by omega)) (hv.kept hbW) (min most 65536) (I64_of (by unfold I64 at hm; omega) (by omega))
  have hev : errN t = 91 := by unfold errN; rw [hr]; rfl
  rw [hev] at hs
  rw [exa] at hs ⊢
  have HW := hid_intro hW
  generalize sizeV t (min most 65536) = sv at *
  clear hW hv e0 e1 e2 e3 e4 e5 exa hm hbd hr hev kX
  go_enter Tryz.func10, Tryz.ntmps10
  go_wp2_with fail
  rw [HW.out]
  refine hs.mono ?_; rintro e w1 ⟨rfl, hb1⟩
  go_wp2_with fail
  go_ret2
  exact ⟨rfl, vb_t hbW hb1⟩
set_option maxRecDepth 100000 in
set_option maxHeartbeats 1600000 in
theorem comp_big (t : RX) (hbd : BdX 1048576 t) (f : Nat → Value) (w : World) (Y : Nat → Prop) (hv : XI w Y t f) (most : Int) (hm : I64 most) (hr : rightB 1000 t = true) (hbig : min most 65536 < (szX t : Int) + 1) :
    Calls Tryz.prog 10 #[xa f, .int .i64 most] w fun e w' => e = .returned (.tuple #[.slice none 0 0, .int .i64 100]) ∧ Below w.heap.size w w' := by
  obtain ⟨k, a1, n1, c1, lo, hi, z, a2, n2, c2, e0, e1, e2, e3, e4, e5⟩ := hv.six
  have exa : xa f = .agg #[.int .i64 k, .slice a1 n1 c1, .int .i64 lo, .int .i64 hi, .bool z, .slice a2 n2 c2] := by unfold xa; rw [e0, e1, e2, e3, e4, e5]
  obtain ⟨W, hW⟩ : ∃ W, w.alloc (.cells #[.int .i64 k, .slice a1 n1 c1, .int .i64 lo, .int .i64 hi, .bool z, .slice a2 n2 c2] 31) = W := ⟨_, rfl⟩
  have hbW : Below w.heap.size w W := hW ▸ vb_a (Below.refl _ _) _
  have kX : Bk W w.heap.size #[.int .i64 k, .slice a1 n1 c1, .int .i64 lo, .int .i64 hi, .bool z, .slice a2 n2 c2] := hW ▸ Bk.new _ _ _
  have hs := size_any t f W Y (hbd.mono (by omega)) (hv.kept hbW) (min most 65536) (I64_of (by unfold I64 at hm; omega) (by omega))
  have hev : errN t = 0 := by unfold errN; rw [hr]; rfl
  have hsv : min most 65536 < sizeV t (min most 65536) := by unfold sizeV om; rw [hr, if_pos rfl, if_neg (by omega)]; omega
  rw [hev] at hs
  rw [exa] at hs ⊢
  have HW := hid_intro hW
  generalize sizeV t (min most 65536) = sv at *
  generalize hmm : min most 65536 = mm at *
  clear hW hv e0 e1 e2 e3 e4 e5 exa hm hbd hr hev kX hbig
  go_enter Tryz.func10, Tryz.ntmps10
  go_wp2_with fail
  rw [HW.out]
  refine hs.mono ?_; rintro e w1 ⟨rfl, hb1⟩
  go_wp2_with fail
  go_ret2
  exact ⟨rfl, vb_t hbW hb1⟩
set_option maxRecDepth 100000 in
set_option maxHeartbeats 1600000 in
theorem comp_ok (t : RX) (hbd : BdX 1048576 t) (f : Nat → Value) (w : World) (Y : Nat → Prop) (hv : XI w Y t f) (most : Int) (hr : rightB 1000 t = true) (hbig : (szX t : Int) + 1 ≤ min most 65536) :
    Calls Tryz.prog 10 #[xa f, .int .i64 most] w fun e w' => ∃ sb, e = .returned (.tuple #[.slice (some ⟨sb, 0, none⟩) (szX t + 1) (szX t + 1), .int .i64 0]) ∧ SI w' (fun _ => False) (nfaL t) (.slice (some ⟨sb, 0, none⟩) (szX t + 1) (szX t + 1)) ∧ Below w.heap.size w w' := by
  obtain ⟨k, a1, n1, c1, lo, hi, z, a2, n2, c2, e0, e1, e2, e3, e4, e5⟩ := hv.six
  have exa : xa f = .agg #[.int .i64 k, .slice a1 n1 c1, .int .i64 lo, .int .i64 hi, .bool z, .slice a2 n2 c2] := by unfold xa; rw [e0, e1, e2, e3, e4, e5]
  obtain ⟨W, hW⟩ : ∃ W, w.alloc (.cells #[.int .i64 k, .slice a1 n1 c1, .int .i64 lo, .int .i64 hi, .bool z, .slice a2 n2 c2] 31) = W := ⟨_, rfl⟩
  have hbW : Below w.heap.size w W := hW ▸ vb_a (Below.refl _ _) _
  have kX : Bk W w.heap.size #[.int .i64 k, .slice a1 n1 c1, .int .i64 lo, .int .i64 hi, .bool z, .slice a2 n2 c2] := hW ▸ Bk.new _ _ _
  have hs := size_any t f W Y (hbd.mono (by omega)) (hv.kept hbW) (min most 65536) (I64_of (by omega) (by omega))
  have hev : errN t = 0 := by unfold errN; rw [hr]; rfl
  have hsv : sizeV t (min most 65536) = ((szX t + 1 : Nat) : Int) := by unfold sizeV om; rw [hr, if_pos rfl, if_neg (by omega)]; omega
  have hau := fun w' (hb : Below W.heap.size W w') => auto_any t 1000 hr hbd f w' Y (hv.kept (vb_t hbW hb)) (by omega)
  rw [hev, hsv] at hs
  rw [exa] at hs hau ⊢
  obtain ⟨C, hC⟩ : ∃ C, szX t + 1 = C := ⟨_, rfl⟩
  rw [hC] at hs hau ⊢
  have hle : (C : Int) ≤ min most 65536 := by omega
  have HW := hid_intro hW
  have HAU := hid_intro hau
  have HK := hid_intro kX
  have HBW := hid_intro hbW
  obtain ⟨mm, hmm⟩ : ∃ mm, min most 65536 = mm := ⟨_, rfl⟩
  rw [hmm] at hs hle
  clear hW hv e0 e1 e2 e3 e4 e5 exa hbd hr hev kX hbig hau hsv hC hbW
  go_enter Tryz.func10, Tryz.ntmps10
  go_wp2_with fail
  rw [HW.out]
  refine hs.mono ?_; rintro e w1 ⟨rfl, hb1⟩
  obtain ⟨x0, x1, x2, x3, x4, x5⟩ := (HK.out.bel hb1).c6
  have ha := HAU.out w1 hb1
  have HB1 := hid_intro hb1
  clear hb1 hs
  go_wp2_with fail
  refine ha.mono ?_; rintro e w2 ⟨sb, rfl, hsi, hb2⟩
  have HF := hid_intro (And.intro hsi (vb_t (vb_t HBW.out HB1.out) hb2))
  clear x0 x1 x2 x3 x4 x5 hsi hb2 ha
  go_wp2_with fail
  go_ret2
  exact ⟨sb, rfl, HF.out⟩
end Go.Proofs.YtoinlmfodmgohaaGreatDoor

namespace Go.Proofs.YtoinlmfodmgohaaGreatDoor

/-- States that stand in a list from a place on. -/
def At (L : List ST) (n : Nat) (M : List ST) : Prop := ∀ i, i < M.length → sa L (n + i) = shiftS (n : Int) (sa M i)
theorem sa_append_left {A B : List ST} {i : Nat} (h : i < A.length) : sa (A ++ B) i = sa A i := by
  unfold sa; rw [List.getD_eq_getElem?_getD, List.getElem?_append_left h, List.getD_eq_getElem?_getD]
theorem sa_append_right {A B : List ST} (i : Nat) : sa (A ++ B) (A.length + i) = sa B i := by
  unfold sa; rw [List.getD_eq_getElem?_getD, List.getElem?_append_right (by omega), List.getD_eq_getElem?_getD]; simp
theorem sa_map {A : List ST} (d : Int) {i : Nat} (h : i < A.length) : sa (A.map (shiftS d)) i = shiftS d (sa A i) := by
  unfold sa; rw [List.getD_eq_getElem?_getD, List.getElem?_map, List.getD_eq_getElem?_getD, List.getElem?_eq_getElem h]; rfl
theorem at_mid (A B : List ST) (x : RX) : At (A ++ (bld x A.length ++ B)) A.length (bld x 0) := by
  intro i hi
  have e : bld x A.length = (bld x 0).map (shiftS (A.length : Int)) := by have := bld_shift A.length x 0; rwa [Nat.zero_add] at this
  rw [sa_append_right, e, sa_append_left (by simpa using hi), sa_map _ hi]
/-- The last state leads nowhere. -/
theorem nfa_end {x : RX} (hx : (bld x 0).length = szX x) : sa (nfaL x) (szX x) = ⟨7, [], 0, 0⟩ := by
  unfold nfaL
  have := sa_append_right (A := bld x 0) (B := [⟨7, [], 0, 0⟩]) 0
  rw [hx, Nat.add_zero] at this
  rw [this]; rfl
theorem nfa_mid {x : RX} {i : Nat} (hi : i < (bld x 0).length) : sa (nfaL x) i = sa (bld x 0) i := by
  unfold nfaL; exact sa_append_left hi
/-- What a state of a part leads to. -/
structure PartOK (x : RX) : Prop where
  len : (bld x 0).length = szX x
  a : ∀ i, i < szX x → 0 ≤ (sa (bld x 0) i).a ∧ (sa (bld x 0) i).a ≤ (szX x : Int)
  b : ∀ i, i < szX x → 0 ≤ (sa (bld x 0) i).b ∧ (sa (bld x 0) i).b ≤ (szX x : Int)
  k : ∀ i, i < szX x → (sa (bld x 0) i).k ≤ 6
theorem part_ok {x : RX} {d : Nat} (hr : rightB d x = true) : PartOK x := by
  have hl := bld_len x d hr 0
  have hg := fun i (hi : i < szX x) => bld_good x d hr (szX x) 0 (by omega) (sa (bld x 0) i) (sa_mem (by omega))
  exact ⟨hl, fun i hi => ⟨(hg i hi).2.2.1, (hg i hi).2.2.2.1⟩, fun i hi => ⟨(hg i hi).2.2.2.2.1, (hg i hi).2.2.2.2.2.1⟩, fun i hi => (hg i hi).2.1⟩
/-- Only a state of the part itself leads on. -/
theorem part_lt {x : RX} (hx : PartOK x) {t : List Int} {q : Nat} {y : Int} (_h0 : 0 ≤ y) (h1 : y ≤ (szX x : Int)) (hc : letsB t q (sx (nfaL x) y).k = true ∨ (sx (nfaL x) y).k = 2 ∨ (sx (nfaL x) y).k = 1) : y < (szX x : Int) := by
  by_cases e : y = (szX x : Int)
  · have e2 : sx (nfaL x) y = ⟨7, [], 0, 0⟩ := by unfold sx; rw [e, Int.toNat_natCast]; exact nfa_end hx.len
    rw [e2] at hc
    rcases hc with hc | hc | hc
    · exact absurd hc (by simp [letsB])
    · exact absurd hc (by simp)
    · exact absurd hc (by simp)
  · omega
theorem goB_1 {L : List ST} {p y : Int} (h : goB L p y = true) : (sx L y).k = 1 := by
  unfold goB at h
  rw [Bool.and_eq_true, decide_eq_true_iff] at h
  exact h.1
theorem part_sx {x : RX} (hx : PartOK x) {y : Int} (h0 : 0 ≤ y) (h1 : y < (szX x : Int)) : sx (nfaL x) y = sa (bld x 0) y.toNat := nfa_mid (by rw [hx.len]; omega)
theorem way_in {x : RX} (hx : PartOK x) {t : List Int} {p q : Nat} {y : Int} (h : Way (nfaL x) t 0 p y q) : 0 ≤ y ∧ y ≤ (szX x : Int) := by
  induction h with
  | here => exact ⟨Int.le_refl _, by omega⟩
  | @a y p q h hg ih =>
    have hl := part_lt hx ih.1 ih.2 (Or.inl hg)
    rw [part_sx hx ih.1 hl]
    exact hx.a _ (by omega)
  | @b y p q h hk ih =>
    have hl := part_lt (t := t) (q := q) hx ih.1 ih.2 (Or.inr (Or.inl hk))
    rw [part_sx hx ih.1 hl]
    exact hx.b _ (by omega)
  | @eat y p q h hq hg ih =>
    have hl := part_lt (t := t) (q := q) hx ih.1 ih.2 (Or.inr (Or.inr (goB_1 hg)))
    rw [part_sx hx ih.1 hl]
    exact hx.a _ (by omega)
/-- In a list that holds the part. -/
theorem at_sx {L : List ST} {n : Nat} {x : RX} (hx : PartOK x) (hA : At L n (bld x 0)) {y : Int} (h0 : 0 ≤ y) (h1 : y < (szX x : Int)) : sx L ((n : Int) + y) = shiftS (n : Int) (sx (nfaL x) y) := by
  rw [part_sx hx h0 h1, ← hA y.toNat (by rw [hx.len]; omega)]
  unfold sx
  congr 1
  omega
theorem way_up {L : List ST} {n : Nat} {x : RX} (hx : PartOK x) (hA : At L n (bld x 0)) {t : List Int} {p q : Nat} {y : Int} (h : Way (nfaL x) t 0 p y q) : Way L t (n : Int) p ((n : Int) + y) q := by
  induction h with
  | here => rw [Int.add_zero]; exact .here _ _
  | @a y p q h hg ih =>
    have hi := way_in hx h
    have e := at_sx hx hA hi.1 (part_lt hx hi.1 hi.2 (Or.inl hg))
    have := Way.a ih (by rw [e]; exact hg)
    rw [e] at this
    have e2 : (shiftS (n : Int) (sx (nfaL x) y)).a = (n : Int) + (sx (nfaL x) y).a := by unfold shiftS; dsimp only; omega
    rw [e2] at this
    exact this
  | @b y p q h hk ih =>
    have hi := way_in hx h
    have e := at_sx hx hA hi.1 (part_lt (t := t) (q := q) hx hi.1 hi.2 (Or.inr (Or.inl hk)))
    have := Way.b ih (by rw [e]; exact hk)
    rw [e] at this
    have e2 : (shiftS (n : Int) (sx (nfaL x) y)).b = (n : Int) + (sx (nfaL x) y).b := by unfold shiftS; dsimp only; rw [if_pos hk]; omega
    rw [e2] at this
    exact this
  | @eat y p q h hq hg ih =>
    have hi := way_in hx h
    have e := at_sx hx hA hi.1 (part_lt (t := t) (q := q) hx hi.1 hi.2 (Or.inr (Or.inr (goB_1 hg))))
    have := Way.eat ih hq (by unfold goB at hg ⊢; rw [e]; exact hg)
    rw [e] at this
    have e2 : (shiftS (n : Int) (sx (nfaL x) y)).a = (n : Int) + (sx (nfaL x) y).a := by unfold shiftS; dsimp only; omega
    rw [e2] at this
    exact this
/-- A step in the list, at a state of the part, is one in the part. -/
theorem step_down {L : List ST} {n : Nat} {x : RX} (hx : PartOK x) (hA : At L n (bld x 0)) {t : List Int} {p q : Nat} {y : Int} (h : Way (nfaL x) t 0 p y q) (hl : y < (szX x : Int)) :
    (letsB t q (sx L ((n : Int) + y)).k = true → ∃ z, (sx L ((n : Int) + y)).a = (n : Int) + z ∧ Way (nfaL x) t 0 p z q) ∧ ((sx L ((n : Int) + y)).k = 2 → ∃ z, (sx L ((n : Int) + y)).b = (n : Int) + z ∧ Way (nfaL x) t 0 p z q) ∧ (q < t.length → goB L (ia t q) ((n : Int) + y) = true → ∃ z, (sx L ((n : Int) + y)).a = (n : Int) + z ∧ Way (nfaL x) t 0 p z (q + 1)) := by
  have hi := way_in hx h
  have e := at_sx hx hA hi.1 hl
  refine ⟨fun hg => ⟨(sx (nfaL x) y).a, ?_, .a h (by rw [e] at hg; exact hg)⟩, fun hk => ⟨(sx (nfaL x) y).b, ?_, .b h (by rw [e] at hk; exact hk)⟩, fun hq hg => ⟨(sx (nfaL x) y).a, ?_, .eat h hq (by unfold goB at hg ⊢; rw [e] at hg; exact hg)⟩⟩
  · rw [e]; unfold shiftS; dsimp only; omega
  · rw [e] at hk ⊢; unfold shiftS at hk ⊢; dsimp only at hk ⊢; rw [if_pos hk]; omega
  · rw [e]; unfold shiftS; dsimp only; omega
end Go.Proofs.YtoinlmfodmgohaaGreatDoor

namespace Go.Proofs.YtoinlmfodmgohaaGreatDoor

def tAlt (x y : RX) : RX := .mk 4 [] 0 0 false [x, y]
def tSeq (x : RX) : RX := .mk 3 [] 0 0 false [x, .mk 1 [] 0 0 false []]
/-- It finds something. -/
def Finds (L : List ST) (t : List Int) : Prop := ∃ p q z, q ≤ t.length ∧ Way L t 0 p z q ∧ isD L z = true
theorem nfa_seq (x : RX) : nfaL (tSeq x) = nfaL x := by
  unfold nfaL tSeq
  have e : bld (.mk 3 [] 0 0 false [x, .mk 1 [] 0 0 false []]) 0 = bld x 0 := by
    rw [bld]
    simp [bldL, bld]
  rw [e]
theorem nfa_alt (x y : RX) : nfaL (tAlt x y) = [⟨2, [], 1, ((szX x + 2 : Nat) : Int)⟩] ++ (bld x 1 ++ ([⟨2, [], ((szX x + szX y + 2 : Nat) : Int), ((szX x + szX y + 2 : Nat) : Int)⟩] ++ (bld y (szX x + 2) ++ [⟨7, [], 0, 0⟩]))) := by
  unfold nfaL tAlt
  rw [bld]
  simp [bldA, szL]
theorem alt_len {x y : RX} (hx : PartOK x) : ([⟨2, [], 1, ((szX x + 2 : Nat) : Int)⟩] ++ (bld x 1 ++ [⟨2, [], ((szX x + szX y + 2 : Nat) : Int), ((szX x + szX y + 2 : Nat) : Int)⟩]) : List ST).length = szX x + 2 := by
  have e : bld x 1 = (bld x 0).map (shiftS ((1 : Nat) : Int)) := by have := bld_shift 1 x 0; rwa [Nat.zero_add] at this
  rw [e]
  simp [hx.len]
theorem alt_at {x y : RX} (hx : PartOK x) : At (nfaL (tAlt x y)) 1 (bld x 0) ∧ At (nfaL (tAlt x y)) (szX x + 2) (bld y 0) := by
  constructor
  · rw [nfa_alt]
    exact at_mid [⟨2, [], 1, ((szX x + 2 : Nat) : Int)⟩] _ x
  · have h := at_mid ([⟨2, [], 1, ((szX x + 2 : Nat) : Int)⟩] ++ (bld x 1 ++ [⟨2, [], ((szX x + szX y + 2 : Nat) : Int), ((szX x + szX y + 2 : Nat) : Int)⟩])) [⟨7, [], 0, 0⟩] y
    rw [alt_len hx] at h
    rw [nfa_alt]
    simpa using h
theorem alt_0 (x y : RX) : sa (nfaL (tAlt x y)) 0 = ⟨2, [], 1, ((szX x + 2 : Nat) : Int)⟩ := by rw [nfa_alt]; rfl
theorem alt_j {x y : RX} (hx : PartOK x) : sa (nfaL (tAlt x y)) (szX x + 1) = ⟨2, [], ((szX x + szX y + 2 : Nat) : Int), ((szX x + szX y + 2 : Nat) : Int)⟩ := by
  have e : (bld x 1).length = szX x := by have := bld_shift 1 x 0; rw [Nat.zero_add] at this; rw [this]; simp [hx.len]
  rw [nfa_alt, ← List.append_assoc]
  have h := sa_append_right (A := [⟨2, [], 1, ((szX x + 2 : Nat) : Int)⟩] ++ bld x 1) (B := [⟨2, [], ((szX x + szX y + 2 : Nat) : Int), ((szX x + szX y + 2 : Nat) : Int)⟩] ++ (bld y (szX x + 2) ++ [⟨7, [], 0, 0⟩])) 0
  have el : ([⟨2, [], 1, ((szX x + 2 : Nat) : Int)⟩] ++ bld x 1 : List ST).length = szX x + 1 := by simp [e]
  rw [el, Nat.add_zero] at h
  rw [h]; rfl
theorem alt_e {x y : RX} (hx : PartOK x) (hy : PartOK y) : sa (nfaL (tAlt x y)) (szX x + szX y + 2) = ⟨7, [], 0, 0⟩ := by
  have e : (bld x 1).length = szX x := by have := bld_shift 1 x 0; rw [Nat.zero_add] at this; rw [this]; simp [hx.len]
  have e2 : (bld y (szX x + 2)).length = szX y := by have := bld_shift (szX x + 2) y 0; rw [Nat.zero_add] at this; rw [this]; simp [hy.len]
  rw [nfa_alt, ← List.append_assoc, ← List.append_assoc, ← List.append_assoc]
  have h := sa_append_right (A := [⟨2, [], 1, ((szX x + 2 : Nat) : Int)⟩] ++ bld x 1 ++ [⟨2, [], ((szX x + szX y + 2 : Nat) : Int), ((szX x + szX y + 2 : Nat) : Int)⟩] ++ bld y (szX x + 2)) (B := [⟨7, [], 0, 0⟩]) 0
  have el : ([⟨2, [], 1, ((szX x + 2 : Nat) : Int)⟩] ++ bld x 1 ++ [⟨2, [], ((szX x + szX y + 2 : Nat) : Int), ((szX x + szX y + 2 : Nat) : Int)⟩] ++ bld y (szX x + 2) : List ST).length = szX x + szX y + 2 := by simp [e, e2]; omega
  rw [el, Nat.add_zero] at h
  rw [h]; rfl
/-- Where a way in the choice can be. -/
def AltI (x y : RX) (t : List Int) (p : Nat) (z : Int) (q : Nat) : Prop :=
  (z = 0 ∧ q = p) ∨ (∃ j, z = ((1 : Nat) : Int) + j ∧ Way (nfaL x) t 0 p j q) ∨ (∃ j, z = ((szX x + 2 : Nat) : Int) + j ∧ Way (nfaL y) t 0 p j q) ∨ (z = ((szX x + szX y + 2 : Nat) : Int) ∧ Way (nfaL x) t 0 p (szX x : Int) q)
theorem way_alt {x y : RX} (hx : PartOK x) (hy : PartOK y) {t : List Int} {p q : Nat} {z : Int} (h : Way (nfaL (tAlt x y)) t 0 p z q) : AltI x y t p z q := by
  have hA := alt_at (y := y) hx
  have s0 : sx (nfaL (tAlt x y)) 0 = ⟨2, [], 1, ((szX x + 2 : Nat) : Int)⟩ := alt_0 x y
  have sj : sx (nfaL (tAlt x y)) (((1 : Nat) : Int) + (szX x : Int)) = ⟨2, [], ((szX x + szX y + 2 : Nat) : Int), ((szX x + szX y + 2 : Nat) : Int)⟩ := by
    unfold sx; rw [show (((1 : Nat) : Int) + (szX x : Int)).toNat = szX x + 1 by omega]; exact alt_j hx
  have se : sx (nfaL (tAlt x y)) ((szX x + szX y + 2 : Nat) : Int) = ⟨7, [], 0, 0⟩ := by unfold sx; rw [Int.toNat_natCast]; exact alt_e hx hy
  have ey : ((szX x + 2 : Nat) : Int) + (szX y : Int) = ((szX x + szX y + 2 : Nat) : Int) := by omega
  induction h with
  | here p => exact Or.inl ⟨rfl, rfl⟩
  | @a z p q h hg ih =>
    rcases ih with ⟨rfl, rfl⟩ | ⟨j, rfl, hw⟩ | ⟨j, rfl, hw⟩ | ⟨rfl, hw⟩
    · rw [s0]; exact Or.inr (Or.inl ⟨0, rfl, .here _ _⟩)
    · by_cases e : j = (szX x : Int)
      · subst e; rw [sj]; exact Or.inr (Or.inr (Or.inr ⟨rfl, hw⟩))
      · obtain ⟨z', e1, hw'⟩ := (step_down hx hA.1 hw (by have := (way_in hx hw).2; omega)).1 hg
        exact Or.inr (Or.inl ⟨z', e1, hw'⟩)
    · by_cases e : j = (szX y : Int)
      · subst e; rw [ey, se] at hg; exact absurd hg (by simp [letsB])
      · obtain ⟨z', e1, hw'⟩ := (step_down hy hA.2 hw (by have := (way_in hy hw).2; omega)).1 hg
        exact Or.inr (Or.inr (Or.inl ⟨z', e1, hw'⟩))
    · rw [se] at hg; exact absurd hg (by simp [letsB])
  | @b z p q h hk ih =>
    rcases ih with ⟨rfl, rfl⟩ | ⟨j, rfl, hw⟩ | ⟨j, rfl, hw⟩ | ⟨rfl, hw⟩
    · rw [s0]; exact Or.inr (Or.inr (Or.inl ⟨0, by simp, .here _ _⟩))
    · by_cases e : j = (szX x : Int)
      · subst e; rw [sj]; exact Or.inr (Or.inr (Or.inr ⟨rfl, hw⟩))
      · obtain ⟨z', e1, hw'⟩ := (step_down hx hA.1 hw (by have := (way_in hx hw).2; omega)).2.1 hk
        exact Or.inr (Or.inl ⟨z', e1, hw'⟩)
    · by_cases e : j = (szX y : Int)
      · subst e; rw [ey, se] at hk; exact absurd hk (by simp)
      · obtain ⟨z', e1, hw'⟩ := (step_down hy hA.2 hw (by have := (way_in hy hw).2; omega)).2.1 hk
        exact Or.inr (Or.inr (Or.inl ⟨z', e1, hw'⟩))
    · rw [se] at hk; exact absurd hk (by simp)
  | @eat z p q h hq hg ih =>
    rcases ih with ⟨rfl, rfl⟩ | ⟨j, rfl, hw⟩ | ⟨j, rfl, hw⟩ | ⟨rfl, hw⟩
    · have := goB_1 hg; rw [s0] at this; exact absurd this (by simp)
    · by_cases e : j = (szX x : Int)
      · subst e; have := goB_1 hg; rw [sj] at this; exact absurd this (by simp)
      · obtain ⟨z', e1, hw'⟩ := (step_down hx hA.1 hw (by have := (way_in hx hw).2; omega)).2.2 hq hg
        exact Or.inr (Or.inl ⟨z', e1, hw'⟩)
    · by_cases e : j = (szX y : Int)
      · subst e; have := goB_1 hg; rw [ey, se] at this; exact absurd this (by simp)
      · obtain ⟨z', e1, hw'⟩ := (step_down hy hA.2 hw (by have := (way_in hy hw).2; omega)).2.2 hq hg
        exact Or.inr (Or.inr (Or.inl ⟨z', e1, hw'⟩))
    · have := goB_1 hg; rw [se] at this; exact absurd this (by simp)
/-- What is found ends at the last state. -/
theorem finds_end {x : RX} (hx : PartOK x) {t : List Int} : Finds (nfaL x) t ↔ ∃ p q, q ≤ t.length ∧ Way (nfaL x) t 0 p (szX x : Int) q := by
  constructor
  · rintro ⟨p, q, z, hq, hw, hd⟩
    have hi := way_in hx hw
    by_cases e : z = (szX x : Int)
    · subst e; exact ⟨p, q, hq, hw⟩
    · unfold isD at hd
      rw [decide_eq_true_iff, part_sx hx hi.1 (by omega)] at hd
      have := hx.k z.toNat (by omega)
      omega
  · rintro ⟨p, q, hq, hw⟩
    refine ⟨p, q, _, hq, hw, ?_⟩
    unfold isD sx
    rw [Int.toNat_natCast, nfa_end hx.len]
    rfl
theorem finds_alt {x y : RX} (hx : PartOK x) (hy : PartOK y) (t : List Int) : Finds (nfaL (tAlt x y)) t ↔ Finds (nfaL x) t ∨ Finds (nfaL y) t := by
  have hA := alt_at (y := y) hx
  have s0 : sx (nfaL (tAlt x y)) 0 = ⟨2, [], 1, ((szX x + 2 : Nat) : Int)⟩ := alt_0 x y
  have sj : sx (nfaL (tAlt x y)) (((1 : Nat) : Int) + (szX x : Int)) = ⟨2, [], ((szX x + szX y + 2 : Nat) : Int), ((szX x + szX y + 2 : Nat) : Int)⟩ := by
    unfold sx; rw [show (((1 : Nat) : Int) + (szX x : Int)).toNat = szX x + 1 by omega]; exact alt_j hx
  have se : isD (nfaL (tAlt x y)) ((szX x + szX y + 2 : Nat) : Int) = true := by unfold isD sx; rw [Int.toNat_natCast, alt_e hx hy]; rfl
  rw [finds_end hx, finds_end hy]
  constructor
  · rintro ⟨p, q, z, hq, hw, hd⟩
    rcases way_alt hx hy hw with ⟨rfl, rfl⟩ | ⟨j, rfl, hj⟩ | ⟨j, rfl, hj⟩ | ⟨rfl, hj⟩
    · unfold isD at hd; rw [s0] at hd; exact absurd hd (by simp)
    · have hi := way_in hx hj
      by_cases e : j = (szX x : Int)
      · subst e; exact Or.inl ⟨p, q, hq, hj⟩
      · unfold isD at hd
        rw [at_sx hx hA.1 hi.1 (by omega), part_sx hx hi.1 (by omega), decide_eq_true_iff] at hd
        have h6 := hx.k j.toNat (by omega)
        have : (sa (bld x 0) j.toNat).k = 7 := hd
        omega
    · have hi := way_in hy hj
      by_cases e : j = (szX y : Int)
      · subst e; exact Or.inr ⟨p, q, hq, hj⟩
      · unfold isD at hd
        rw [at_sx hy hA.2 hi.1 (by omega), part_sx hy hi.1 (by omega), decide_eq_true_iff] at hd
        have h6 := hy.k j.toNat (by omega)
        have : (sa (bld y 0) j.toNat).k = 7 := hd
        omega
    · exact Or.inl ⟨p, q, hq, hj⟩
  · rintro (⟨p, q, hq, hw⟩ | ⟨p, q, hq, hw⟩)
    · have h1 := way_up hx hA.1 hw
      have h0 : Way (nfaL (tAlt x y)) t 0 p ((1 : Nat) : Int) p := by
        have := Way.a (Way.here (L := nfaL (tAlt x y)) (t := t) 0 p) (by rw [s0]; rfl)
        rw [s0] at this
        exact this
      have h2 := h0.trans h1
      have h3 := Way.b h2 (by rw [sj])
      rw [sj] at h3
      exact ⟨p, q, _, hq, h3, se⟩
    · have h1 := way_up hy hA.2 hw
      have h0 : Way (nfaL (tAlt x y)) t 0 p ((szX x + 2 : Nat) : Int) p := by
        have := Way.b (Way.here (L := nfaL (tAlt x y)) (t := t) 0 p) (by rw [s0])
        rw [s0] at this
        exact this
      have h2 := h0.trans h1
      have ey : ((szX x + 2 : Nat) : Int) + (szX y : Int) = ((szX x + szX y + 2 : Nat) : Int) := by omega
      rw [ey] at h2
      exact ⟨p, q, _, hq, h2, se⟩
theorem sr_finds {L : List ST} {t : List Int} {b : Bool} {n : Nat} (h : SrR L t b n) : b = true ↔ Finds L t := sr_way h
end Go.Proofs.YtoinlmfodmgohaaGreatDoor
