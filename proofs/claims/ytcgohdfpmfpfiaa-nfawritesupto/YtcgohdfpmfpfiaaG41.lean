/-
  Which rows of states may be, as the program asks it. Conditions: no row of ranges is longer than 2^40.
  The automaton of a right tree; Compile. Conditions: nothing in the tree is longer than 2^20.
-/
import Derived.Test.YtcgohdfpmfpfiaaXC1
import Derived.Test.YtcgohdfpmfpfiaaXBG
import Derived.Test.YtcgohdfpmfpfiaaG31
import Derived.Test.YtcgohdfpmfpfiaaXN6
namespace Go.Proofs.Ytcgohdfpmfpfiaa
open Go.RowKit
attribute [local go_sem] setCell_drewN alloc_drewN

/-- May the states be? -/
def nfaB (l : List ST) : Bool := decide (l.length ≠ 0) && l.all (stB (l.length : Int))
theorem stB_at {l : List ST} {i : Nat} : sa l i = ⟨(sa l i).k, (sa l i).r, (sa l i).a, (sa l i).b⟩ := rfl
set_option maxRecDepth 100000 in
set_option maxHeartbeats 3200000 in
theorem nfaCheck_any (l : List ST) (v : Value) (w : World) (X : Nat → Prop) (hR : SI w X l v) (hl : ∀ s ∈ l, s.r.length ≤ 1099511627776) :
    Calls Try.prog 7 #[v] w fun e w' => e = .returned (.int .i64 (if nfaB l = true then 0 else 101)) ∧ Below w.heap.size w w' := by
  have hR0 := hR
  obtain ⟨ao, cap, rfl, hc, hcm, hok, hlie⟩ := hR
  have hlI : (l.length : Int) ≤ 9223372036854775807 := by unfold maxLen at hcm; omega
  obtain ⟨P, hP⟩ : ∃ P : Ending → World → Prop, P = fun e w' => e = .returned (.int .i64 (if nfaB l = true then 0 else 101)) ∧ Below w.heap.size w w' := ⟨_, rfl⟩
  rw [← hP]
  have HP := hid_intro hP
  clear hP
  by_cases h0 : l.length = 0
  · have HE : Hid (nfaB l = false) := hid_intro (by unfold nfaB; rw [decide_eq_false (by simpa using h0)]; rfl)
    have hI : (l.length : Int) = 0 := by omega
    clear hlie hR0 hok hl h0
    go_enter Try.func7, Try.ntmps7
    go_wp2_with fail
    rw [HP.out, HE.out]
    exact ⟨rfl, Below.refl _ _⟩
  · have hI0 : ((l.length : Int) == 0) = false := by rw [beq_eq_false_iff_ne]; omega
    have HE : Hid (nfaB l = l.all (stB (l.length : Int))) := hid_intro (by unfold nfaB; rw [decide_eq_true h0]; rfl)
    have HL : Hid (∀ w' i, Below w.heap.size w w' → i < l.length → ∃ b off v2 c2, ao = some ⟨b, off, none⟩ ∧ w'.cell? ⟨b, off + i * 4, none⟩ = some (.int .i64 (sa l i).k) ∧ w'.cell? ⟨b, off + i * 4 + 1, none⟩ = some (.slice v2 (sa l i).r.length c2) ∧ w'.cell? ⟨b, off + i * 4 + 2, none⟩ = some (.int .i64 (sa l i).a) ∧ w'.cell? ⟨b, off + i * 4 + 3, none⟩ = some (.int .i64 (sa l i).b) ∧ RI w' X (sa l i).r (.slice v2 (sa l i).r.length c2)) := hid_intro (fun w' i hb hi => by
      obtain ⟨ao', cap', e, _, _, _, hlie'⟩ := hR0.kept hb
      injection e with e1 _ e3
      rcases hlie' with h | ⟨b, off, G, h1, h2, h3⟩
      · rw [h] at hi; simp at hi
      · obtain ⟨⟨q0, q1, q2, q3⟩, hRi⟩ := h3 i hi
        obtain ⟨v2, c2, e2, _⟩ := hRi.shape
        rw [e2] at q1 hRi
        exact ⟨b, off, v2, c2, e1.trans h1, q0, q1, q2, q3, hRi⟩)
    have HM := hid_intro hl
    clear hlie hR0 hok hl h0
    go_enter Try.func7, Try.ntmps7
    go_wp2_with fail
    go_loopg [10] l.length (fun m s10 wr => ∃ j : Nat, j ≤ l.length ∧ m = l.length - j ∧ s10 = .int .i64 (j : Int) ∧ Hid (∀ i, i < j → stB (l.length : Int) (sa l i) = true) ∧ Hid (Below w.heap.size w wr))
    case atStart => exact ⟨0, Nat.zero_le _, rfl, rfl, fun i h => absurd h (by omega), Below.refl _ _⟩
    case round =>
      obtain ⟨j, hj, rfl, rfl, HA, HZ⟩ := hrel
      by_cases hlt : j < l.length
      · have hJ : (j : Int) < (l.length : Int) := by omega
        obtain ⟨b, off, v2, c2, rfl, q0, q1, q2, q3, hRi⟩ := HL.out wr j HZ.out hlt
        have hmb := fun w' (hb : Below wr.heap.size wr w') => mayS_any (sa l j).k (sa l j).r v2 c2 (sa l j).a (sa l j).b (l.length : Int) w' X (hRi.kept hb) (HM.out _ (sa_mem hlt))
        have HC := hid_intro hmb
        clear hmb hRi HL HM
        have HSB : Hid (stB (l.length : Int) ⟨(sa l j).k, (sa l j).r, (sa l j).a, (sa l j).b⟩ = stB (l.length : Int) (sa l j)) := hid_intro rfl
        have HNO : Hid (stB (l.length : Int) (sa l j) = false → nfaB l = false) := hid_intro (fun h => by
          rw [HE.out, List.all_eq_false]; exact ⟨sa l j, sa_mem hlt, by rw [h]; decide⟩)
        have HYES : Hid (stB (l.length : Int) (sa l j) = true → ∀ i, i < j + 1 → stB (l.length : Int) (sa l i) = true) := hid_intro (fun h i hi => by
          by_cases e : i = j
          · rw [e]; exact h
          · exact HA.out i (by omega))
        rw [HSB.out] at HC
        generalize stB (l.length : Int) (sa l j) = sb at HC HNO HYES
        clear HSB
        generalize (sa l j).k = K at *
        generalize (sa l j).r.length = R at *
        generalize (sa l j).a = A at *
        generalize (sa l j).b = B at *
        cases sb
        · have HF := hid_intro (HNO.out rfl)
          clear HNO HYES HA HE
          go_wp2_with fail
          refine (HC.out _ (vb_a (Below.refl _ _) _)).mono ?_; rintro e w3 ⟨rfl, hb3⟩
          have HB := hid_intro (vb_t HZ.out (vb_t (vb_a (Below.refl _ _) _) hb3))
          clear hb3
          go_wp2_with fail
          rw [HP.out, HF.out]
          exact ⟨rfl, HB.out⟩
        · have HA2 := hid_intro (HYES.out rfl)
          clear HNO HYES HA HE
          go_wp2_with fail
          refine (HC.out _ (vb_a (Below.refl _ _) _)).mono ?_; rintro e w3 ⟨rfl, hb3⟩
          have HB := hid_intro (vb_t HZ.out (vb_t (vb_a (Below.refl _ _) _) hb3))
          clear hb3
          go_wp2_with fail
          go_roundg (l.length - (j + 1))
          case measure => omega
          case rel => exact ⟨j + 1, by omega, rfl, by simp, HA2, HB⟩
      · have hJ : ¬ (j : Int) < (l.length : Int) := by omega
        have HF : Hid (nfaB l = true) := hid_intro (by
          rw [HE.out, List.all_eq_true]
          intro x hx
          obtain ⟨i, hi, rfl⟩ := List.getElem_of_mem hx
          rw [← sa_get hi]
          exact HA.out i (by omega))
        clear HL HM HA HE
        go_wp2_with fail
        rw [HP.out, HF.out]
        exact ⟨rfl, HZ.out⟩
end Go.Proofs.Ytcgohdfpmfpfiaa

namespace Go.Proofs.Ytcgohdfpmfpfiaa
open Go.RowKit
attribute [local go_sem] setCell_drewN alloc_drewN

theorem LS.toZ {w : World} {lb sb cap : Nat} {L : List ST} (h : LS w lb sb cap L) : LZ w lb sb cap [] L := by
  obtain ⟨M, h0, h1, h2, h3, h4, h5, h6⟩ := h
  exact ⟨M, h0, h1, h2, h3, h4, fun p hp => (h5 p hp).weak (fun b hb => by rcases hb with h | h | h; exact Or.inl h; exact Or.inr h; simp at h), h6, fun z hz => by simp at hz⟩
theorem LZ.toS {w : World} {lb sb cap : Nat} {Z : List Nat} {L : List ST} (h : LZ w lb sb cap Z L) : LS w lb sb cap L := by
  obtain ⟨M, h0, h1, h2, h3, h4, h5, h6, h7⟩ := h
  exact ⟨M, h0, h1, h2, h3, h4, fun p hp => (h5 p hp).weak (fun b hb => by rcases hb with h | h; exact Or.inl h; exact Or.inr (Or.inl h)), h6⟩
/-- All states of a tree. -/
def nfaL (t : RX) : List ST := bld t 0 ++ [⟨7, [], 0, 0⟩]
theorem nfaL_len (t : RX) (h : ∀ n, (bld t n).length = szX t) : (nfaL t).length = szX t + 1 := by unfold nfaL; rw [List.length_append, h]; rfl
theorem nfaL_ok (t : RX) (hy : YOK t) (hs : szX t ≤ 65536) : ∀ s ∈ nfaL t, s.ok := by
  intro s hm
  rcases List.mem_append.1 hm with hm | hm
  · obtain ⟨g1, g2, g3, g4, g5, g6, _⟩ := hy.good (szX t) 0 (by omega) s hm
    exact ⟨I64_of (by omega) (by omega), I64_of (by omega) (by omega), I64_of (by omega) (by omega)⟩
  · obtain rfl := List.mem_singleton.1 hm
    exact ⟨I64_of (by simp) (by simp), I64_of (by simp) (by simp), I64_of (by simp) (by simp)⟩
set_option maxRecDepth 100000 in
set_option maxHeartbeats 3200000 in
theorem auto_any (t : RX) (d : Nat) (hr : rightB d t = true) (hbd : BdX 1048576 t) (f : Nat → Value) (w : World) (Y : Nat → Prop) (hv : XI w Y t f) (hsz : szX t + 1 ≤ 65536) :
    Calls Try.prog 19 #[xa f, .int .i64 ((szX t + 1 : Nat) : Int)] w fun e w' => ∃ sb, e = .returned (.slice (some ⟨sb, 0, none⟩) (szX t + 1) (szX t + 1)) ∧ SI w' (fun _ => False) (nfaL t) (.slice (some ⟨sb, 0, none⟩) (szX t + 1) (szX t + 1)) ∧ Below w.heap.size w w' := by
  have hyok := yok_of hr hbd
  obtain ⟨k, a1, n1, c1, lo, hi, z, a2, n2, c2, e0, e1, e2, e3, e4, e5⟩ := hv.six
  have exa : xa f = .agg #[.int .i64 k, .slice a1 n1 c1, .int .i64 lo, .int .i64 hi, .bool z, .slice a2 n2 c2] := by unfold xa; rw [e0, e1, e2, e3, e4, e5]
  obtain ⟨V, hV⟩ : ∃ V, w.alloc (.cells #[.int .i64 k, .slice a1 n1 c1, .int .i64 lo, .int .i64 hi, .bool z, .slice a2 n2 c2] 32) = V := ⟨_, rfl⟩
  have hbV : Below w.heap.size w V := hV ▸ vb_a (Below.refl _ _) _
  have hVs : V.heap.size = w.heap.size + 1 := by rw [← hV]; simp
  have kV : Bk V w.heap.size #[.int .i64 k, .slice a1 n1 c1, .int .i64 lo, .int .i64 hi, .bool z, .slice a2 n2 c2] := hV ▸ Bk.new _ _ _
  obtain ⟨C, hC⟩ : ∃ C, szX t + 1 = C := ⟨_, rfl⟩
  have hmk := make_st V C (by omega)
  have hls := LS.made V C (by omega)
  obtain ⟨o0, ho0⟩ : ∃ o, Obj.cells (madeCells #[.int .i64 0, .slice none 0 0, .int .i64 0, .int .i64 0] (C * 4)) 40 = o := ⟨_, rfl⟩
  rw [ho0] at hmk hls
  obtain ⟨W, hW⟩ : ∃ W, (V.alloc o0).alloc (.cells #[.slice (some ⟨V.heap.size, 0, none⟩) 0 C] 60) = W := ⟨_, rfl⟩
  rw [hW] at hls
  have hbVW : Below V.heap.size V W := hW ▸ vb_a (vb_a (Below.refl _ _) _) _
  have hbW : Below w.heap.size w W := vb_t hbV hbVW
  have htw : ∀ k, two (V.heap.size + 1) V.heap.size k → w.heap.size ≤ k := fun k hk => by rcases hk with hk | hk <;> omega
  have hvW : XI W (two (V.heap.size + 1) V.heap.size) t f := hv.carry (fun b _ hb => ⟨hbW.block b hb, fun hx => by have := htw b hx; omega⟩)
  have hpart := part_any (V.heap.size + 1) V.heap.size C t d f W hr hbd hvW hls.lt
  rw [exa] at hpart
  obtain ⟨k0, k1, k2, k3, k4, k5⟩ := (kV.bel hbVW).c6
  have HLW := hid_intro hls.toZ
  have HBW := hid_intro hbW
  have HTW := hid_intro htw
  have HY := hid_intro hyok
  have hlen0 : (bld t 0).length = szX t := hyok.len 0
  rw [exa, hC]
  obtain ⟨P, hP⟩ : ∃ P : Ending → World → Prop, P = fun e w' => ∃ sb, e = .returned (.slice (some ⟨sb, 0, none⟩) C C) ∧ SI w' (fun _ => False) (nfaL t) (.slice (some ⟨sb, 0, none⟩) C C) ∧ Below w.heap.size w w' := ⟨_, rfl⟩
  rw [← hP]
  have HP := hid_intro hP
  have HC := hid_intro (And.intro hC (And.intro hlen0 hsz))
  have hCI : (0 : Int) ≤ (C : Int) := by omega
  clear hP hls hbVW hbW htw hbV ho0 kV hvW hv hr hbd e0 e1 e2 e3 e4 e5 exa hVs hyok hlen0 hC hsz
  go_enter Try.func19, Try.ntmps19
  go_wp2_with fail
  refine hpart.mono ?_; rintro e w2 ⟨v2, rfl, hfn, hb2⟩
  obtain ⟨fnum, caps, rfl, hent, hcall0⟩ := hfn
  have hcall := hcall0 w2 [] [] (But.refl _ _) (HLW.out.below hb2) (by have := HC.out.1; simp; omega)
  rw [List.nil_append, List.length_nil] at hcall
  have HB2 := hid_intro hb2
  clear hpart hcall0 hb2 k0 k1 k2 k3 k4 k5
  go_wp2_with fail
  refine hcall.mono ?_; rintro e w3 ⟨rfl, hlz3, hbt3⟩
  have hls3 := hlz3.toS
  obtain ⟨l3, z3⟩ := hls3.cell
  obtain ⟨Q, hQ⟩ : ∃ Q, (bld t 0).length = Q := ⟨_, rfl⟩
  rw [hQ] at l3
  have HL3 := hid_intro hls3
  have hlt3 := hls3.lt
  have hne3 := hls3.ne
  obtain ⟨M, hM, _, _, _, hown, hRs, _⟩ := hls3
  rw [hQ] at hown
  have HB3 := hid_intro hbt3
  have HM := hid_intro (And.intro hM hRs)
  have HQC : Hid (Q + 1 = C) := hid_intro (by have := HC.out; omega)
  have HRM : Hid (Q + 1 ≤ C) := hid_intro (by have := HQC.out; omega)
  have HKEEP : Hid (∀ w6, (w3.alloc (.cells #[.int .i64 7, .slice none 0 0, .int .i64 0, .int .i64 0] 40)).grownBy w6 (some V.heap.size) → w6.cell? ⟨V.heap.size + 1, 0, none⟩ = some (.slice (some ⟨V.heap.size, 0, none⟩) Q C) ∧ w6.frozen? ⟨V.heap.size + 1, 0, none⟩ = false) := hid_intro (fun w6 hg => by
    have e : w6.heap[V.heap.size + 1]? = w3.heap[V.heap.size + 1]? := (hg.block _ (by simp; omega) (fun e => hne3 (by injection e))).trans ((vb_a (Below.refl _ _) _).block _ hlt3.1)
    exact ⟨(World.cell?_of_block (w := w3) (w' := w6) e).trans l3, by rw [← z3]; simp only [World.frozen?, e]⟩)
  have HQ := hid_intro hQ
  clear hM hRs hbt3 hcall hlt3 hne3 hlz3 hent hQ
  go_wp2_with (at_builtin; refine wpList_append_st rfl _ _ rfl V.heap.size Q C (flatS M) rfl (.int .i64 7) (.slice none 0 0) (.int .i64 0) (.int .i64 0) _ rfl rfl HRM.out ⟨rfl, rfl, rfl, rfl⟩ hown ?_; intro w6 ho6 hg6; obtain ⟨l6, z6⟩ := HKEEP.out w6 hg6)
  have hput := LS.put (w := w3) (lb := V.heap.size + 1) (sb := V.heap.size) (cap := C) (L := bld t 0) ⟨7, [], 0, 0⟩ (.slice none 0 0) M HM.out.1 HL3.out HM.out.2 (vb_a (Below.refl _ _) _) hg6 (by rw [HQ.out]; exact ho6) (Or.inr ⟨rfl, rfl⟩)
  rw [HQ.out] at hput
  have hfrom := from_any _ _ _ _ _ hput.1
  have el : (bld t 0 ++ [⟨7, [], 0, 0⟩] : List ST).length = C := by rw [List.length_append, HQ.out]; exact HQC.out
  rw [el] at hfrom
  have HPU := hid_intro hput
  clear hput ho6 hg6 l3 z3 hown HKEEP
  go_wp2_with fail
  refine hfrom.mono ?_; rintro e w8 ⟨rfl, hb8⟩
  have hsi := (HPU.out.1.below hb8).si (nfaL_ok t HY.out (by have := HC.out.2.2; omega))
  rw [el] at hsi
  have HSI := hid_intro hsi
  clear hfrom l6 z6 hsi el
  go_wp2_with fail
  rw [HP.out]
  refine ⟨_, rfl, HSI.out, ?_⟩
  exact But.toBelow HBW.out (((But.ofBelow HB2.out).trans (HB3.out.trans HPU.out.2)).below hb8) HTW.out
end Go.Proofs.Ytcgohdfpmfpfiaa
