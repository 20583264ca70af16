/-
  How many states a tree has, at most so many and one. Conditions: no row of ranges is longer than 2^40.
  The automaton of a right tree; Compile. Conditions: nothing in the tree is longer than 2^20.
  Compile, whole. Conditions: nothing in the tree is longer than 2^20.
  What ref.Ints answers. No condition.
-/
import Derived.Test.YtoinlmfodmgohaaGreatDoorJoined43
import Derived.Test.YtoinlmfodmgohaaGreatDoorJoined25
import Derived.Lib.MinMax
import Derived.Test.YtoinlmfodmgohaaGreatDoorJoined42
import Derived.Test.YtoinlmfodmgohaaGreatDoorJoined26
import Derived.Test.YtoinlmfodmgohaaGreatDoorJoined13
namespace Go.Proofs.YtoinlmfodmgohaaGreatDoor
open Go.RowKit
attribute [local go_sem] setCell_drewN alloc_drewN

/-- Where counting ends. -/
def om (most : Int) : Int := if most = 9223372036854775807 then most else max most 0 + 1
theorem om_pos (most : Int) (h : I64 most) : 1 ≤ om most ∧ om most ≤ 9223372036854775807 := by
  unfold om; unfold I64 at h; split <;> omega
set_option maxRecDepth 100000 in
theorem oneMore_any (most : Int) (hm : I64 most) (w : World) :
    Calls Tryz.prog 42 #[.int .i64 most] w fun e w' => e = .returned (.int .i64 (om most)) ∧ Below w.heap.size w w' := by
  obtain ⟨h1, h2⟩ := hm
  obtain ⟨P, hP⟩ : ∃ P : Ending → World → Prop, P = fun e w' => e = .returned (.int .i64 (om most)) ∧ Below w.heap.size w w' := ⟨_, rfl⟩
  rw [← hP]
  have HP := hid_intro hP
  clear hP
  by_cases hq : most = 9223372036854775807
  · have HE : Hid (om most = most) := hid_intro (by unfold om; rw [if_pos hq])
    subst hq
    go_enter Tryz.func42, Tryz.ntmps42
    go_wp2_with fail
    rw [HP.out, HE.out]
    exact ⟨rfl, Below.refl _ _⟩
  · by_cases hn : most ≤ 0
    · have HE : Hid (om most = 1) := hid_intro (by unfold om; rw [if_neg hq]; omega)
      have hmx : max most 0 = 0 := by omega
      go_enter Tryz.func42, Tryz.ntmps42
      go_wp2_with fail
      rw [HP.out, HE.out]
      exact ⟨ret_int (by omega), Below.refl _ _⟩
    · have HE : Hid (om most = most + 1) := hid_intro (by unfold om; rw [if_neg hq]; omega)
      have hmx : max most 0 = most := by omega
      have hlt : most + 1 ≤ 9223372036854775807 := by omega
      go_enter Tryz.func42, Tryz.ntmps42
      go_wp2_with fail
      rw [HP.out, HE.out]
      exact ⟨ret_int (by omega), Below.refl _ _⟩
/-- What Size answers. -/
def sizeV (t : RX) (most : Int) : Int := if rightB 1000 t = true then min ((szX t : Int) + 1) (om most) else 0
def errN (t : RX) : Int := if rightB 1000 t = true then 0 else 91
set_option maxRecDepth 100000 in
set_option maxHeartbeats 1600000 in
theorem size_any (t : RX) (f : Nat → Value) (w : World) (X : Nat → Prop) (hbd : BdX 1099511627776 t) (hv : XI w X t f) (most : Int) (hm : I64 most) :
    Calls Tryz.prog 20 #[xa f, .int .i64 most] w fun e w' => e = .returned (.tuple #[.int .i64 (sizeV t most), .int .i64 (errN t)]) ∧ Below w.heap.size w w' := by
  obtain ⟨k, a1, n1, c1, lo, hi, z, a2, n2, c2, e0, e1, e2, e3, e4, e5⟩ := hv.six
  have exa : xa f = .agg #[.int .i64 k, .slice a1 n1 c1, .int .i64 lo, .int .i64 hi, .bool z, .slice a2 n2 c2] := by unfold xa; rw [e0, e1, e2, e3, e4, e5]
  obtain ⟨W, hW⟩ : ∃ W, w.alloc (.cells #[.int .i64 k, .slice a1 n1 c1, .int .i64 lo, .int .i64 hi, .bool z, .slice a2 n2 c2] 31) = W := ⟨_, rfl⟩
  have hbW : Below w.heap.size w W := hW ▸ vb_a (Below.refl _ _) _
  have kX : Bk W w.heap.size #[.int .i64 k, .slice a1 n1 c1, .int .i64 lo, .int .i64 hi, .bool z, .slice a2 n2 c2] := hW ▸ Bk.new _ _ _
  have hck := check_any t f W X hbd (hv.kept hbW)
  have hop := om_pos most hm
  have HOM := hid_intro (fun w' => oneMore_any most hm w')
  have hst : rightB 1000 t = true → ∀ w', Below w.heap.size w w' → Calls Tryz.prog 44 #[.agg #[.int .i64 (om most)], xa f] w' fun e w2 => e = .returned (.int .i64 (min (szX t : Int) (om most))) ∧ Below w'.heap.size w' w2 := fun hr w' hb => states_any (om most) hop.1 hop.2 t 1000 f w' X hr (hv.kept hb)
  have HPL := hid_intro (fun w' => plus_any (om most) (min (szX t : Int) (om most)) 1 (by omega) hop.2 (by omega) (by omega) w')
  rw [exa] at hck ⊢
  obtain ⟨P, hP⟩ : ∃ P : Ending → World → Prop, P = fun e w' => e = .returned (.tuple #[.int .i64 (sizeV t most), .int .i64 (errN t)]) ∧ Below w.heap.size w w' := ⟨_, rfl⟩
  rw [← hP]
  have HP := hid_intro hP
  have HW := hid_intro hW
  have HBW := hid_intro hbW
  have HK := hid_intro kX
  cases hr : rightB 1000 t
  · rw [hr] at hck
    have HE : Hid (sizeV t most = 0 ∧ errN t = 91) := hid_intro (by unfold sizeV errN; rw [hr]; exact ⟨rfl, rfl⟩)
    clear hP hv hst e0 e1 e2 e3 e4 e5 hop hm hW hbW kX exa hr HPL
    go_enter Tryz.func20, Tryz.ntmps20
    go_wp2_with fail
    rw [HW.out]
    refine hck.mono ?_; rintro e w1 ⟨rfl, hb1⟩
    go_wp2_with fail
    rw [HP.out, HE.out.1, HE.out.2]
    exact ⟨rfl, vb_t HBW.out hb1⟩
  · rw [hr] at hck
    have hst := hst hr
    rw [exa] at hst
    have HST := hid_intro hst
    have HE : Hid (sizeV t most = min (min (szX t : Int) (om most) + 1) (om most) ∧ errN t = 0) := hid_intro (by unfold sizeV errN; rw [hr]; exact ⟨by simp; omega, rfl⟩)
    generalize min (szX t : Int) (om most) = vs at *
    clear hP hv hst e0 e1 e2 e3 e4 e5 hop hm hW hbW kX exa hr
    go_enter Tryz.func20, Tryz.ntmps20
    go_wp2_with fail
    rw [HW.out]
    refine hck.mono ?_; rintro e w0 ⟨rfl, hb0⟩
    have HB0 := hid_intro hb0
    clear hb0 hck
    go_wp2_with fail
    refine (HOM.out _).mono ?_; rintro e w1 ⟨rfl, hb1⟩
    obtain ⟨V, hV⟩ : ∃ V, w1.alloc (.cells #[.int .i64 (om most)] 82) = V := ⟨_, rfl⟩
    have hbV : Below w1.heap.size w1 V := hV ▸ vb_a (Below.refl _ _) _
    have kC : Bk V w1.heap.size #[.int .i64 (om most)] := hV ▸ Bk.new _ _ _
    have kX : Bk V w.heap.size #[.int .i64 k, .slice a1 n1 c1, .int .i64 lo, .int .i64 hi, .bool z, .slice a2 n2 c2] := ((HK.out.bel HB0.out).bel hb1).bel hbV
    have hwV : Below w.heap.size w V := vb_t (vb_t (vb_t HBW.out HB0.out) hb1) hbV
    have HS : Hid (∀ w', Below V.heap.size V w' → w'.cell? ⟨w.heap.size, 0, none⟩ = some (.int .i64 k) ∧ w'.cell? ⟨w.heap.size, 1, none⟩ = some (.slice a1 n1 c1) ∧ w'.cell? ⟨w.heap.size, 2, none⟩ = some (.int .i64 lo) ∧ w'.cell? ⟨w.heap.size, 3, none⟩ = some (.int .i64 hi) ∧ w'.cell? ⟨w.heap.size, 4, none⟩ = some (.bool z) ∧ w'.cell? ⟨w.heap.size, 5, none⟩ = some (.slice a2 n2 c2) ∧ w'.cell? ⟨w1.heap.size, 0, none⟩ = some (.int .i64 (om most))) := hid_intro (fun w' hb => by
      obtain ⟨b0, b1, b2, b3, b4, b5⟩ := (kX.bel hb).c6
      exact ⟨b0, b1, b2, b3, b4, b5, (kC.bel hb).cell 0⟩)
    have HST2 := hid_intro (fun w' (hb : Below V.heap.size V w') => HST.out w' (vb_t hwV hb))
    have HV := hid_intro hV
    have HWV := hid_intro hwV
    clear hV hbV kC kX hwV hb1 HOM HST HK
    go_wp2_with fail
    rw [HV.out]
    go_region_held3 (fun w' => w'.cell? ⟨w.heap.size, 0, none⟩ = some (.int .i64 k) ∧ w'.cell? ⟨w.heap.size, 1, none⟩ = some (.slice a1 n1 c1) ∧ w'.cell? ⟨w.heap.size, 2, none⟩ = some (.int .i64 lo) ∧ w'.cell? ⟨w.heap.size, 3, none⟩ = some (.int .i64 hi) ∧ w'.cell? ⟨w.heap.size, 4, none⟩ = some (.bool z) ∧ w'.cell? ⟨w.heap.size, 5, none⟩ = some (.slice a2 n2 c2) ∧ w'.cell? ⟨w1.heap.size, 0, none⟩ = some (.int .i64 (om most))) (first | (refine HS.out _ ?_; with_reducible repeat (first | exact Below.refl _ _ | refine vb_d ?_ | refine vb_t ?_ hb4 | refine vb_t ?_ hb3)) | fail) (first | (go_at_call 44; refine (HST2.out _ ?_).mono ?_; (with_reducible repeat (first | exact Below.refl _ _ | refine vb_d ?_)); rintro e w3 ⟨rfl, hb3⟩) | (go_at_call 43; refine (HPL.out _).mono ?_; rintro e w4 ⟨rfl, hb4⟩) | fail)
    all_goals
      go_wp2_with fail
      rw [HP.out, HE.out.1, HE.out.2]
      exact ⟨rfl, vb_t HWV.out (vb_t (by with_reducible repeat (first | exact Below.refl _ _ | refine vb_d ?_ | refine vb_t ?_ hb3)) hb4)⟩
end Go.Proofs.YtoinlmfodmgohaaGreatDoor

namespace Go.Proofs.YtoinlmfodmgohaaGreatDoor
open Go.RowKit
attribute [local go_sem] setCell_drewN alloc_drewN

theorem LS.toZ {w : World} {lb sb cap : Nat} {L : List ST} (h : LS w lb sb cap L) : LZ w lb sb cap [] L := by
  obtain ⟨M, h0, h1, h2, h3, h4, h5, h6⟩ := h
  exact ⟨M, h0, h1, h2, h3, h4, fun p hp => (h5 p hp).weak (fun b hb => by rcases hb with h | h | h; exact Or.inl h; exact Or.inr h; simp at h), h6, fun z hz => by simp at hz⟩
theorem LZ.toS {w : World} {lb sb cap : Nat} {Z : List Nat} {L : List ST} (h : LZ w lb sb cap Z L) : LS w lb sb cap L := by
  obtain ⟨M, h0, h1, h2, h3, h4, h5, h6, h7⟩ := h
  exact ⟨M, h0, h1, h2, h3, h4, fun p hp => (h5 p hp).weak (fun b hb => by rcases hb with h | h; exact Or.inl h; exact Or.inr (Or.inl h)), h6⟩
/-- All states of a tree. -/
def nfaL (t : RX) : List ST := bld t 0 ++ [⟨7, [], 0, 0⟩]
theorem nfaL_len (t : RX) (h : ∀ n, (bld t n).length = szX t) : (nfaL t).length = szX t + 1 := by unfold nfaL; rw [List.length_append, h]; rfl
theorem nfaL_ok (t : RX) (hy : YOK t) (hs : szX t ≤ 65536) : ∀ s ∈ nfaL t, s.ok := by
  intro s hm
  rcases List.mem_append.1 hm with hm | hm
  · obtain ⟨g1, g2, g3, g4, g5, g6, _⟩ := hy.good (szX t) 0 (by omega) s hm
    exact ⟨I64_of (by omega) (by omega), I64_of (by omega) (by omega), I64_of (by omega) (by omega)⟩
  · obtain rfl := List.mem_singleton.1 hm
    exact ⟨I64_of (by simp) (by simp), I64_of (by simp) (by simp), I64_of (by simp) (by simp)⟩
set_option maxRecDepth 100000 in
set_option maxHeartbeats 3200000 in
theorem auto_any (t : RX) (d : Nat) (hr : rightB d t = true) (hbd : BdX 1048576 t) (f : Nat → Value) (w : World) (Y : Nat → Prop) (hv : XI w Y t f) (hsz : szX t + 1 ≤ 65536) :
    Calls Tryz.prog 28 #[xa f, .int .i64 ((szX t + 1 : Nat) : Int)] w fun e w' => ∃ sb, e = .returned (.slice (some ⟨sb, 0, none⟩) (szX t + 1) (szX t + 1)) ∧ SI w' (fun _ => False) (nfaL t) (.slice (some ⟨sb, 0, none⟩) (szX t + 1) (szX t + 1)) ∧ Below w.heap.size w w' := by
  have hyok := yok_of hr hbd
  obtain ⟨k, a1, n1, c1, lo, hi, z, a2, n2, c2, e0, e1, e2, e3, e4, e5⟩ := hv.six
  have exa : xa f = .agg #[.int .i64 k, .slice a1 n1 c1, .int .i64 lo, .int .i64 hi, .bool z, .slice a2 n2 c2] := by unfold xa; rw [e0, e1, e2, e3, e4, e5]
  obtain ⟨V, hV⟩ : ∃ V, w.alloc (.cells #[.int .i64 k, .slice a1 n1 c1, .int .i64 lo, .int .i64 hi, .bool z, .slice a2 n2 c2] 31) = V := ⟨_, rfl⟩
  have hbV : Below w.heap.size w V := hV ▸ vb_a (Below.refl _ _) _
  have hVs : V.heap.size = w.heap.size + 1 := by rw [← hV]; simp
  have kV : Bk V w.heap.size #[.int .i64 k, .slice a1 n1 c1, .int .i64 lo, .int .i64 hi, .bool z, .slice a2 n2 c2] := hV ▸ Bk.new _ _ _
  obtain ⟨C, hC⟩ : ∃ C, szX t + 1 = C := ⟨_, rfl⟩
  have hmk := make_st V C (by omega)
  have hls := LS.made V C (by omega)
  obtain ⟨o0, ho0⟩ : ∃ o, Obj.cells (madeCells #[.int .i64 0, .slice none 0 0, .int .i64 0, .int .i64 0] (C * 4)) 94 = o := ⟨_, rfl⟩
  rw [ho0] at hmk hls
  obtain ⟨W, hW⟩ : ∃ W, (V.alloc o0).alloc (.cells #[.slice (some ⟨V.heap.size, 0, none⟩) 0 C] 90) = W := ⟨_, rfl⟩
  rw [hW] at hls
  have hbVW : Below V.heap.size V W := hW ▸ vb_a (vb_a (Below.refl _ _) _) _
  have hbW : Below w.heap.size w W := vb_t hbV hbVW
  have htw : ∀ k, two (V.heap.size + 1) V.heap.size k → w.heap.size ≤ k := fun k hk => by rcases hk with hk | hk <;> omega
  have hvW : XI W (two (V.heap.size + 1) V.heap.size) t f := hv.carry (fun b _ hb => ⟨hbW.block b hb, fun hx => by have := htw b hx; omega⟩)
  have hpart := part_any (V.heap.size + 1) V.heap.size C t d f W hr hbd hvW hls.lt
  rw [exa] at hpart
  obtain ⟨k0, k1, k2, k3, k4, k5⟩ := (kV.bel hbVW).c6
  have HLW := hid_intro hls.toZ
  have HBW := hid_intro hbW
  have HTW := hid_intro htw
  have HY := hid_intro hyok
  have hlen0 : (bld t 0).length = szX t := hyok.len 0
  rw [exa, hC]
  obtain ⟨P, hP⟩ : ∃ P : Ending → World → Prop, P = fun e w' => ∃ sb, e = .returned (.slice (some ⟨sb, 0, none⟩) C C) ∧ SI w' (fun _ => False) (nfaL t) (.slice (some ⟨sb, 0, none⟩) C C) ∧ Below w.heap.size w w' := ⟨_, rfl⟩
  rw [← hP]
  have HP := hid_intro hP
  have HC := hid_intro (And.intro hC (And.intro hlen0 hsz))
  have hCI : (0 : Int) ≤ (C : Int) := by omega
  clear hP hls hbVW hbW htw hbV ho0 kV hvW hv hr hbd e0 e1 e2 e3 e4 e5 exa hVs hyok hlen0 hC hsz
  go_enter Tryz.func28, Tryz.ntmps28
  go_wp2_with fail
  refine hpart.mono ?_; rintro e w2 ⟨v2, rfl, hfn, hb2⟩
  obtain ⟨fnum, caps, rfl, hent, hcall0⟩ := hfn
  have hcall := hcall0 w2 [] [] (But.refl _ _) (HLW.out.below hb2) (by have := HC.out.1; simp; omega)
  rw [List.nil_append, List.length_nil] at hcall
  have HB2 := hid_intro hb2
  clear hpart hcall0 hb2 k0 k1 k2 k3 k4 k5
  go_wp2_with fail
  refine hcall.mono ?_; rintro e w3 ⟨rfl, hlz3, hbt3⟩
  have hls3 := hlz3.toS
  obtain ⟨l3, z3⟩ := hls3.cell
  obtain ⟨Q, hQ⟩ : ∃ Q, (bld t 0).length = Q := ⟨_, rfl⟩
  rw [hQ] at l3
  have HL3 := hid_intro hls3
  have hlt3 := hls3.lt
  have hne3 := hls3.ne
  obtain ⟨M, hM, _, _, _, hown, hRs, _⟩ := hls3
  rw [hQ] at hown
  have HB3 := hid_intro hbt3
  have HM := hid_intro (And.intro hM hRs)
  have HQC : Hid (Q + 1 = C) := hid_intro (by have := HC.out; omega)
  have HRM : Hid (Q + 1 ≤ C) := hid_intro (by have := HQC.out; omega)
  have HKEEP : Hid (∀ w6, (w3.alloc (.cells #[.int .i64 7, .slice none 0 0, .int .i64 0, .int .i64 0] 94)).grownBy w6 (some V.heap.size) → w6.cell? ⟨V.heap.size + 1, 0, none⟩ = some (.slice (some ⟨V.heap.size, 0, none⟩) Q C) ∧ w6.frozen? ⟨V.heap.size + 1, 0, none⟩ = false) := hid_intro (fun w6 hg => by
    have e : w6.heap[V.heap.size + 1]? = w3.heap[V.heap.size + 1]? := (hg.block _ (by simp; omega) (fun e => hne3 (by injection e))).trans ((vb_a (Below.refl _ _) _).block _ hlt3.1)
    exact ⟨(World.cell?_of_block (w := w3) (w' := w6) e).trans l3, by rw [← z3]; simp only [World.frozen?, e]⟩)
  have HQ := hid_intro hQ
  clear hM hRs hbt3 hcall hlt3 hne3 hlz3 hent hQ
  go_wp2_with (at_builtin; refine wpList_append_st rfl _ _ rfl V.heap.size Q C (flatS M) rfl (.int .i64 7) (.slice none 0 0) (.int .i64 0) (.int .i64 0) _ rfl rfl HRM.out ⟨rfl, rfl, rfl, rfl⟩ hown ?_; intro w6 ho6 hg6; obtain ⟨l6, z6⟩ := HKEEP.out w6 hg6)
  have hput := LS.put (w := w3) (lb := V.heap.size + 1) (sb := V.heap.size) (cap := C) (L := bld t 0) ⟨7, [], 0, 0⟩ (.slice none 0 0) M HM.out.1 HL3.out HM.out.2 (vb_a (Below.refl _ _) _) hg6 (by rw [HQ.out]; exact ho6) (Or.inr ⟨rfl, rfl⟩)
  rw [HQ.out] at hput
  have hfrom := from_any _ _ _ _ _ hput.1
  have el : (bld t 0 ++ [⟨7, [], 0, 0⟩] : List ST).length = C := by rw [List.length_append, HQ.out]; exact HQC.out
  rw [el] at hfrom
  have HPU := hid_intro hput
  clear hput ho6 hg6 l3 z3 hown HKEEP
  go_wp2_with fail
  refine hfrom.mono ?_; rintro e w8 ⟨rfl, hb8⟩
  have hsi := (HPU.out.1.below hb8).si (nfaL_ok t HY.out (by have := HC.out.2.2; omega))
  rw [el] at hsi
  have HSI := hid_intro hsi
  clear hfrom l6 z6 hsi el
  go_wp2_with fail
  rw [HP.out]
  refine ⟨_, rfl, HSI.out, ?_⟩
  exact But.toBelow HBW.out (((But.ofBelow HB2.out).trans (HB3.out.trans HPU.out.2)).below hb8) HTW.out
end Go.Proofs.YtoinlmfodmgohaaGreatDoor

namespace Go.Proofs.YtoinlmfodmgohaaGreatDoor
open Go.RowKit
attribute [local go_sem] setCell_drewN alloc_drewN

set_option maxRecDepth 100000 in
set_option maxHeartbeats 1600000 in
theorem comp_bad (t : RX) (hbd : BdX 1048576 t) (f : Nat → Value) (w : World) (Y : Nat → Prop) (hv : XI w Y t f) (most : Int) (hm : I64 most) (hr : rightB 1000 t = false) :
    Calls Tryz.prog 10 #[xa f, .int .i64 most] w fun e w' => e = .returned (.tuple #[.slice none 0 0, .int .i64 91]) ∧ Below w.heap.size w w' := by
  obtain ⟨k, a1, n1, c1, lo, hi, z, a2, n2, c2, e0, e1, e2, e3, e4, e5⟩ := hv.six
  have exa : xa f = .agg #[.int .i64 k, .slice a1 n1 c1, .int .i64 lo, .int .i64 hi, .bool z, .slice a2 n2 c2] := by unfold xa; rw [e0, e1, e2, e3, e4, e5]
  obtain ⟨W, hW⟩ : ∃ W, w.alloc (.cells #[.int .i64 k, .slice a1 n1 c1, .int .i64 lo, .int .i64 hi, .bool z, .slice a2 n2 c2] 31) = W := ⟨_, rfl⟩
  have hbW : Below w.heap.size w W := hW ▸ vb_a (Below.refl _ _) _
  have kX : Bk W w.heap.size #[.int .i64 k, .slice a1 n1 c1, .int .i64 lo, .int .i64 hi, .bool z, .slice a2 n2 c2] := hW ▸ Bk.new _ _ _
  have hs := size_any t f W Y (hbd.mono (by omega)) (hv.kept hbW) (min most 65536) (I64_of (by unfold I64 at hm; omega) (by omega))
  have hev : errN t = 91 := by unfold errN; rw [hr]; rfl
  rw [hev] at hs
  rw [exa] at hs ⊢
  have HW := hid_intro hW
  generalize sizeV t (min most 65536) = sv at *
  clear hW hv e0 e1 e2 e3 e4 e5 exa hm hbd hr hev kX
  go_enter Tryz.func10, Tryz.ntmps10
  go_wp2_with fail
  rw [HW.out]
  refine hs.mono ?_; rintro e w1 ⟨rfl, hb1⟩
  go_wp2_with fail
  go_ret2
  exact ⟨rfl, vb_t hbW hb1⟩
set_option maxRecDepth 100000 in
set_option maxHeartbeats 1600000 in
theorem comp_big (t : RX) (hbd : BdX 1048576 t) (f : Nat → Value) (w : World) (Y : Nat → Prop) (hv : XI w Y t f) (most : Int) (hm : I64 most) (hr : rightB 1000 t = true) (hbig : min most 65536 < (szX t : Int) + 1) :
    Calls Tryz.prog 10 #[xa f, .int .i64 most] w fun e w' => e = .returned (.tuple #[.slice none 0 0, .int .i64 100]) ∧ Below w.heap.size w w' := by
  obtain ⟨k, a1, n1, c1, lo, hi, z, a2, n2, c2, e0, e1, e2, e3, e4, e5⟩ := hv.six
  have exa : xa f = .agg #[.int .i64 k, .slice a1 n1 c1, .int .i64 lo, .int .i64 hi, .bool z, .slice a2 n2 c2] := by unfold xa; rw [e0, e1, e2, e3, e4, e5]
  obtain ⟨W, hW⟩ : ∃ W, w.alloc (.cells #[.int .i64 k, .slice a1 n1 c1, .int .i64 lo, .int .i64 hi, .bool z, .slice a2 n2 c2] 31) = W := ⟨_, rfl⟩
  have hbW : Below w.heap.size w W := hW ▸ vb_a (Below.refl _ _) _
  have kX : Bk W w.heap.size #[.int .i64 k, .slice a1 n1 c1, .int .i64 lo, .int .i64 hi, .bool z, .slice a2 n2 c2] := hW ▸ Bk.new _ _ _
  have hs := size_any t f W Y (hbd.mono (by omega)) (hv.kept hbW) (min most 65536) (I64_of (by unfold I64 at hm; omega) (by omega))
  have hev : errN t = 0 := by unfold errN; rw [hr]; rfl
  have hsv : min most 65536 < sizeV t (min most 65536) := by unfold sizeV om; rw [hr, if_pos rfl, if_neg (by omega)]; omega
  rw [hev] at hs
  rw [exa] at hs ⊢
  have HW := hid_intro hW
  generalize sizeV t (min most 65536) = sv at *
  generalize hmm : min most 65536 = mm at *
  clear hW hv e0 e1 e2 e3 e4 e5 exa hm hbd hr hev kX hbig
  go_enter Tryz.func10, Tryz.ntmps10
  go_wp2_with fail
  rw [HW.out]
  refine hs.mono ?_; rintro e w1 ⟨rfl, hb1⟩
  go_wp2_with fail
  go_ret2
  exact ⟨rfl, vb_t hbW hb1⟩
set_option maxRecDepth 100000 in
set_option maxHeartbeats 1600000 in
theorem comp_ok (t : RX) (hbd : BdX 1048576 t) (f : Nat → Value) (w : World) (Y : Nat → Prop) (hv : XI w Y t f) (most : Int) (hr : rightB 1000 t = true) (hbig : (szX t : Int) + 1 ≤ min most 65536) :
    Calls Tryz.prog 10 #[xa f, .int .i64 most] w fun e w' => ∃ sb, e = .returned (.tuple #[.slice (some ⟨sb, 0, none⟩) (szX t + 1) (szX t + 1), .int .i64 0]) ∧ SI w' (fun _ => False) (nfaL t) (.slice (some ⟨sb, 0, none⟩) (szX t + 1) (szX t + 1)) ∧ Below w.heap.size w w' := by
  obtain ⟨k, a1, n1, c1, lo, hi, z, a2, n2, c2, e0, e1, e2, e3, e4, e5⟩ := hv.six
  have exa : xa f = .agg #[.int .i64 k, .slice a1 n1 c1, .int .i64 lo, .int .i64 hi, .bool z, .slice a2 n2 c2] := by unfold xa; rw [e0, e1, e2, e3, e4, e5]
  obtain ⟨W, hW⟩ : ∃ W, w.alloc (.cells #[.int .i64 k, .slice a1 n1 c1, .int .i64 lo, .int .i64 hi, .bool z, .slice a2 n2 c2] 31) = W := ⟨_, rfl⟩
  have hbW : Below w.heap.size w W := hW ▸ vb_a (Below.refl _ _) _
  have kX : Bk W w.heap.size #[.int .i64 k, .slice a1 n1 c1, .int .i64 lo, .int .i64 hi, .bool z, .slice a2 n2 c2] := hW ▸ Bk.new _ _ _
  have hs := size_any t f W Y (hbd.mono (by omega)) (hv.kept hbW) (min most 65536) (I64_of (by omega) (by omega))
  have hev : errN t = 0 := by unfold errN; rw [hr]; rfl
  have hsv : sizeV t (min most 65536) = ((szX t + 1 : Nat) : Int) := by unfold sizeV om; rw [hr, if_pos rfl, if_neg (by omega)]; omega
  have hau := fun w' (hb : Below W.heap.size W w') => auto_any t 1000 hr hbd f w' Y (hv.kept (vb_t hbW hb)) (by omega)
  rw [hev, hsv] at hs
  rw [exa] at hs hau ⊢
  obtain ⟨C, hC⟩ : ∃ C, szX t + 1 = C := ⟨_, rfl⟩
  rw [hC] at hs hau ⊢
  have hle : (C : Int) ≤ min most 65536 := by omega
  have HW := hid_intro hW
  have HAU := hid_intro hau
  have HK := hid_intro kX
  have HBW := hid_intro hbW
  obtain ⟨mm, hmm⟩ : ∃ mm, min most 65536 = mm := ⟨_, rfl⟩
  rw [hmm] at hs hle
  clear hW hv e0 e1 e2 e3 e4 e5 exa hbd hr hev kX hbig hau hsv hC hbW
  go_enter Tryz.func10, Tryz.ntmps10
  go_wp2_with fail
  rw [HW.out]
  refine hs.mono ?_; rintro e w1 ⟨rfl, hb1⟩
  obtain ⟨x0, x1, x2, x3, x4, x5⟩ := (HK.out.bel hb1).c6
  have ha := HAU.out w1 hb1
  have HB1 := hid_intro hb1
  clear hb1 hs
  go_wp2_with fail
  refine ha.mono ?_; rintro e w2 ⟨sb, rfl, hsi, hb2⟩
  have HF := hid_intro (And.intro hsi (vb_t (vb_t HBW.out HB1.out) hb2))
  clear x0 x1 x2 x3 x4 x5 hsi hb2 ha
  go_wp2_with fail
  go_ret2
  exact ⟨sb, rfl, HF.out⟩
end Go.Proofs.YtoinlmfodmgohaaGreatDoor

namespace Go.Proofs.YtoinlmfodmgohaaGreatDoor
open Go.RowKit

/-- A slice of ints as a value. -/
def IRow (w : World) (v : Value) (xs : List Int) : Prop :=
  (xs = [] ∧ ∃ a cap, v = .slice a 0 cap) ∨ ∃ b off cap, v = .slice (some ⟨b, off, none⟩) xs.length cap ∧ xs.length ≤ maxLen ∧ ∀ i, i < xs.length → w.cell? ⟨b, off + i, none⟩ = some (.int .i64 (xs.getD i 0))

theorem IRow.of_own {w : World} {B : Nat} {v : Value} {xs : List Int} (h : w.ownsRow B 3 1 v xs.length (xs.map (Value.int .i64))) : IRow w v xs := by
  rcases h.2 with ⟨rfl, h0⟩ | ⟨g, cap, cur, rfl, hb, hg, hc, hm, hs, ht⟩
  · exact .inl ⟨List.eq_nil_of_length_eq_zero h0, none, 0, rfl⟩
  · refine .inr ⟨g, 0, cap, rfl, by omega, fun i hi => ?_⟩
    rw [Nat.zero_add, h.cellAt i (by omega)]
    simp [hi]

theorem IRow.len {w : World} {v : Value} {xs : List Int} (h : IRow w v xs) : ∃ a cap, v = .slice a xs.length cap ∧ xs.length ≤ maxLen := by
  rcases h with ⟨rfl, a, cap, rfl⟩ | ⟨b, off, cap, rfl, hm, _⟩
  · exact ⟨a, cap, rfl, by simp [maxLen]⟩
  · exact ⟨_, cap, rfl, hm⟩

set_option maxHeartbeats 400000 in
theorem ints_any (va vb : Value) (xs ys : List Int) (w : World) (ha : IRow w va xs) (hb : IRow w vb ys) :
    Calls Tryz.prog 17 #[va, vb] w fun e w' => e = .returned (.bool (decide (xs = ys))) ∧ ∃ n, w' = w.drewN n := by
  by_cases hlen : xs.length = ys.length
  · by_cases h0 : xs.length = 0
    · obtain ⟨a, cap, rfl, _⟩ := ha.len
      obtain ⟨a', cap', rfl, _⟩ := hb.len
      have e : xs = [] := List.eq_nil_of_length_eq_zero h0
      have e' : ys = [] := List.eq_nil_of_length_eq_zero (by omega)
      subst e e'
      clear ha hb hlen h0
      go_enter Tryz.func17, Tryz.ntmps17
      go_wp2
      refine wp_loop_rounds 1 ?_
      rw [rounds_succ]
      go_wp2
      go_ret
      exact ⟨rfl, 0, rfl⟩
    · rcases ha with ⟨rfl, _⟩ | ⟨b, off, cap, rfl, hm, hc⟩
      · exact absurd rfl h0
      rcases hb with ⟨rfl, _⟩ | ⟨b', off', cap', rfl, hm', hc'⟩
      · exact absurd hlen h0
      unfold maxLen at hm hm'
      obtain ⟨n, hl⟩ : ∃ n, n = xs.length := ⟨_, rfl⟩
      have hl' : n = ys.length := by omega
      rw [← hl] at hc hm ⊢
      rw [← hl'] at hc' hm' ⊢
      have HL : Hid (n = xs.length) := hl
      have HL' : Hid (n = ys.length) := hl'
      have hcx := hc
      have hcy := hc'
      clear hc hc' hl hl' h0 hlen
      go_enter Tryz.func17, Tryz.ntmps17
      go_wp2
      go_loopw [5] (fun i wr => ∃ k : Nat, k ≤ n ∧ i = .int .i64 k ∧ Hid (∀ j, j < k → xs.getD j 0 = ys.getD j 0) ∧ ∃ q, wr = w.drewN q) (fun i _ => n - (intOf i).toNat)
      case atStart => exact ⟨0, Nat.zero_le _, rfl, fun j hj => absurd hj (by omega), 0, rfl⟩
      case round =>
        obtain ⟨k, hk, rfl, HE, q, rfl⟩ := hrel
        by_cases hlt : k < n
        · have c1 := hcx k hlt
          have c2 := hcy k hlt
          by_cases he : xs.getD k 0 = ys.getD k 0
          · have HE2 : Hid (∀ j, j < k + 1 → xs.getD j 0 = ys.getD j 0) := fun j hj => by
              by_cases e : j = k
              · rw [e]; exact he
              · exact HE.out j (by omega)
            rw [← he] at c2
            generalize xs.getD k 0 = x at *
            clear he HE hcx hcy
            have hI : (k : Int) < (n : Int) := by omega
            go_wp2_with fail
            go_quiet (fail)
            go_wp2
            go_roundw
            case rel => exact ⟨k + 1, by omega, by go_num, HE2, _, rfl⟩
            case measure => simp [intOf]; omega
          · have HF : Hid (decide (xs = ys) = false) := by
              show decide (xs = ys) = false
              exact decide_eq_false (fun e => he (by rw [e]))
            have hne : (xs.getD k 0 == ys.getD k 0) = false := by simpa using he
            generalize xs.getD k 0 = x at *
            generalize ys.getD k 0 = y at *
            clear he HE hcx hcy
            have hI : (k : Int) < (n : Int) := by omega
            go_wp2_with fail
            go_quiet (fail)
            go_wp2
            go_ret
            exact ⟨ret_bool HF.out.symm, _, by rw [World.drewN_drewN]⟩
        · have e : k = n := by omega
          subst e
          have HF : Hid (decide (xs = ys) = true) := by
            show decide (xs = ys) = true
            refine decide_eq_true (List.ext_getElem (by rw [← HL.out, ← HL'.out]) fun i h1 h2 => ?_)
            have := HE.out i (by rw [← HL.out] at h1; exact h1)
            rw [List.getD_eq_getElem?_getD, List.getD_eq_getElem?_getD, List.getElem?_eq_getElem h1, List.getElem?_eq_getElem h2] at this
            exact this
          clear HE hcx hcy
          go_wp2
          go_ret
          exact ⟨ret_bool HF.out.symm, _, rfl⟩
  · obtain ⟨a, cap, rfl, m1⟩ := ha.len
    obtain ⟨a', cap', rfl, m2⟩ := hb.len
    have HF : Hid (decide (xs = ys) = false) := by
      show decide (xs = ys) = false
      exact decide_eq_false (fun e => hlen (by rw [e]))
    have hne : ((xs.length : Int) == (ys.length : Int)) = false := by simp; omega
    clear ha hb
    go_enter Tryz.func17, Tryz.ntmps17
    go_wp2
    go_ret
    exact ⟨ret_bool HF.out.symm, 0, rfl⟩


end Go.Proofs.YtoinlmfodmgohaaGreatDoor
