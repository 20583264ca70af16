/-
  That heads answers true. Conditions: the table of greatest code points holds its four numbers.
  That heads answers true. Conditions: the table of greatest code points holds its four numbers.
-/
import Derived.Test.YtoinlmfodmgohaaGreatDoorJoined39
namespace Go.Proofs.YtoinlmfodmgohaaGreatDoor
open Go.RowKit Go.Maps
attribute [local go_sem] setCell_drewN alloc_drewN

def pA : RX := .mk 2 [(97, 97)] 0 0 false []
def pS : RX := .mk 5 [] 0 (-1) false [pA]
set_option maxRecDepth 100000 in
theorem parse_pS : parseS ⟨#[97, 42]⟩ = some pS := by rfl
set_option maxRecDepth 100000 in
theorem parse_pA : parseS ⟨#[97]⟩ = some pA := by rfl
set_option maxRecDepth 100000 in
theorem pts1 : ptsS ⟨#[97, 97, 98]⟩ = [97, 97, 98] := by rfl
set_option maxRecDepth 100000 in
theorem pts2 : ptsS ⟨#[98, 97]⟩ = [98, 97] := by rfl
set_option maxRecDepth 100000 in
theorem good1 : goodS ⟨#[97, 97, 98]⟩ = true := by rfl
set_option maxRecDepth 100000 in
theorem good2 : goodS ⟨#[98, 97]⟩ = true := by rfl
set_option maxRecDepth 100000 in
theorem good3 : goodS ⟨#[255]⟩ = false := by rfl
def pl1 : List ST := nfaL pS
def pl2 : List ST := nfaL pA
set_option maxRecDepth 100000 in
theorem pl1_nfa : nfaB pl1 = true := by decide
set_option maxRecDepth 100000 in
theorem pl2_nfa : nfaB pl2 = true := by decide
set_option maxRecDepth 100000 in
theorem pl1_r : ∀ s ∈ pl1, s.r.length ≤ 1048576 := by decide
set_option maxRecDepth 100000 in
theorem pl2_r : ∀ s ∈ pl2, s.r.length ≤ 1048576 := by decide
set_option maxRecDepth 100000 in
theorem pl1_ex : exB pl1 [97, 97, 98] false 3 = true ∧ exE pl1 [97, 97, 98] 4 = [0, 1, 2] := by decide
set_option maxRecDepth 100000 in
theorem pl2_ex : exB pl2 [98, 97] true 2 = true ∧ exS pl2 [98, 97] true 3 = 4 ∧ dnB pl2 (exR pl2 [98, 97] true 2).1 = true ∧ dnB pl2 (exR pl2 [98, 97] true 1).1 = false ∧ dnB pl2 (exR pl2 [98, 97] true 0).1 = false := by decide
theorem en_l1 {E : List Int} (h : EnP pl1 [97, 97, 98] 4 E) : E = [0, 1, 2] := by
  have := ex_en (vs_of pl1_nfa) [97, 97, 98] pl1_ex.1 4 (by omega)
  rw [pl1_ex.2] at this
  exact h.uniq this
theorem sr_l2 {b : Bool} {n : Nat} (h : SrR pl2 [98, 97] b n) : b = true ∧ n = 4 := by
  have hL := vs_of pl2_nfa
  have hs := ex_stp hL [98, 97] true pl2_ex.1 3 (by omega)
  rw [pl2_ex.2.1] at hs
  refine h.uniq ⟨2, by simp, hs, Or.inl ⟨rfl, (ex_dn hL _ _ pl2_ex.1).1 pl2_ex.2.2.1, fun P hP hd => ?_⟩⟩
  have := (ex_dn hL [98, 97] true (exB_le (Q := P) pl2_ex.1 (by omega))).2 hd
  match P, hP with
  | 0, _ => rw [pl2_ex.2.2.2.2] at this; cases this
  | 1, _ => rw [pl2_ex.2.2.2.1] at this; cases this
theorem bd_pA : BdX 1048576 pA := .mk (by decide) (by decide) (fun c hc => by simp at hc)
theorem bd_pS : BdX 1048576 pS := .mk (by decide) (by decide) (fun c hc => by simp at hc; subst hc; exact bd_pA)
theorem right_pA : rightB 1000 pA = true := by rfl
theorem right_pS : rightB 1000 pS = true := by rfl
end Go.Proofs.YtoinlmfodmgohaaGreatDoor

namespace Go.Proofs.YtoinlmfodmgohaaGreatDoor
open Go.RowKit Go.Maps
attribute [local go_sem] setCell_drewN alloc_drewN

theorem bel_drewN {a w : World} (h : Below a.heap.size a w) (n : Nat) : Below a.heap.size a (w.drewN n) := ⟨h.os, h.tape, h.output, h.size, h.block⟩
theorem read1 : readE [] ⟨#[97]⟩ = 101 := by rfl
theorem read2 : readE pl2 ⟨#[255]⟩ = 10 := by unfold readE; rw [pl2_nfa, good3]; rfl
set_option maxRecDepth 100000 in
set_option maxHeartbeats 3200000 in
theorem pheads_any (w : World) (hT : Tab w) (hg0 : 0 < w.heap.size) : Calls Tryz.prog 13 #[] w fun e w' => e = .returned (.bool true) ∧ Below w.heap.size w w' := by
  obtain ⟨P, hP⟩ : ∃ P : Ending → World → Prop, P = fun e w' => e = .returned (.bool true) ∧ Below w.heap.size w w' := ⟨_, rfl⟩
  rw [← hP]
  have HP := hid_intro hP
  clear hP
  have h1 := parse_any ⟨#[97, 42]⟩ w hT hg0 (by decide)
  rw [parse_pS] at h1
  have HT : Hid (∀ w', Below w.heap.size w w' → Tab w' ∧ 0 < w'.heap.size) := hid_intro (fun w' hb => ⟨hT.below hb, Nat.lt_of_lt_of_le hg0 hb.size⟩)
  clear hT hg0
  go_enter Tryz.func13, Tryz.ntmps13
  go_wp2_with fail
  refine h1.mono ?_; rintro e w1 ⟨hb1, f, rfl, hx1⟩
  obtain ⟨k, a1, n1, c1, lo, hi_, z, a2, n2, c2, ef⟩ := hx1.lit
  rw [ef]
  obtain ⟨W1, hW1⟩ : ∃ W1, w1.alloc (.cells #[.int .i64 k, .slice a1 n1 c1, .int .i64 lo, .int .i64 hi_, .bool z, .slice a2 n2 c2] 31) = W1 := ⟨_, rfl⟩
  have hbW1 : Below w1.heap.size w1 W1 := hW1 ▸ vb_a (Below.refl _ _) _
  have hc1 := comp_ok pS bd_pS f W1 _ (hx1.kept hbW1) 100 right_pS (by decide)
  rw [ef] at hc1
  have HB1 := hid_intro (vb_t hb1 hbW1)
  have HW1 := hid_intro hW1
  clear h1 hb1 hx1 ef hW1 hbW1
  go_wp2_with fail
  rw [HW1.out]
  refine hc1.mono ?_; rintro e w2 ⟨sb, rfl, hsi, hb2⟩
  obtain ⟨q1, hq1⟩ : ∃ q1, szX pS + 1 = q1 := ⟨_, rfl⟩
  rw [hq1] at hsi ⊢
  have hb02 := vb_t HB1.out hb2
  have h2 := parse_any ⟨#[97]⟩ w2 (HT.out w2 hb02).1 (HT.out w2 hb02).2 (by decide)
  rw [parse_pA] at h2
  have HS1 := hid_intro hsi
  have HB2 := hid_intro hb02
  clear hc1 hsi hb2 hb02 hq1 HW1
  go_wp2_with fail
  refine h2.mono ?_; rintro e w3 ⟨hb3, f2, rfl, hx3⟩
  obtain ⟨k', a1', n1', c1', lo', hi', z', a2', n2', c2', ef⟩ := hx3.lit
  rw [ef]
  obtain ⟨W3, hW3⟩ : ∃ W3, w3.alloc (.cells #[.int .i64 k', .slice a1' n1' c1', .int .i64 lo', .int .i64 hi', .bool z', .slice a2' n2' c2'] 31) = W3 := ⟨_, rfl⟩
  have hbW3 : Below w3.heap.size w3 W3 := hW3 ▸ vb_a (Below.refl _ _) _
  have hc2 := comp_ok pA bd_pA f2 W3 _ (hx3.kept hbW3) 100 right_pA (by decide)
  rw [ef] at hc2
  have HS3 := hid_intro ((HS1.out.kept hb3).kept hbW3)
  have HB3 := hid_intro (vb_t HB2.out (vb_t hb3 hbW3))
  have HW3 := hid_intro hW3
  clear h2 hb3 hx3 ef hW3 hbW3
  go_wp2_with fail
  rw [HW3.out]
  refine hc2.mono ?_; rintro e w4 ⟨sb2, rfl, hsi, hb4⟩
  obtain ⟨q2, hq2⟩ : ∃ q2, szX pA + 1 = q2 := ⟨_, rfl⟩
  rw [hq2] at hsi ⊢
  have hb04 := vb_t HB3.out hb4
  have hen := ends_ok pl1 (by decide) pl1_r ⟨#[97, 97, 98]⟩ (by decide) (.slice (some ⟨sb, 0, none⟩) q1 q1) w4 (HT.out w4 hb04).1 _ (HS3.out.kept hb4) pl1_nfa good1
  rw [pts1] at hen
  have HS4 := hid_intro hsi
  have HB4 := hid_intro hb04
  clear hc2 hsi hb4 hb04 hq2 HW3
  go_wp2_with fail
  refine hen.mono ?_; rintro e w5 ⟨v5, E, rfl, hoE, henE, hb5⟩
  obtain rfl := en_l1 henE
  obtain ⟨eo, ec, rfl, _⟩ := hoE.form
  have hb05 := vb_t HB4.out hb5
  have hs5 := search_ok pl2 (by decide) pl2_r ⟨#[98, 97]⟩ (by decide) (.slice (some ⟨sb2, 0, none⟩) q2 q2) w5 (HT.out w5 hb05).1 _ (HS4.out.kept hb5) pl2_nfa good2
  rw [pts2] at hs5
  have HE := hid_intro hoE
  have HS5 := hid_intro (HS4.out.kept hb5)
  have HB5 := hid_intro hb05
  clear hen henE hoE hb5 hb05
  go_wp2_with fail
  refine hs5.mono ?_; rintro e w6 ⟨b6, n6, rfl, hsr, hb6⟩
  obtain ⟨rfl, rfl⟩ := sr_l2 hsr
  have hb06 := vb_t HB5.out hb6
  have hn6 := search_no [] (fun s hs => by simp at hs) ⟨#[97]⟩ (by decide) (.slice none 0 0) w6 (HT.out w6 hb06).1 (fun _ => False) (SI.nil _ _) (by rw [read1]; decide)
  rw [read1] at hn6
  have HE6 := hid_intro (HE.out.bel hb6)
  have HS6 := hid_intro (HS5.out.kept hb6)
  have HB6 := hid_intro hb06
  clear hs5 hsr hb6 hb06
  go_wp2_with fail
  refine hn6.mono ?_; rintro e w7 ⟨rfl, hb7⟩
  have hb07 := vb_t HB6.out hb7
  have hn7 := search_no pl2 (fun s hs => Nat.le_trans (pl2_r s hs) (by decide)) ⟨#[255]⟩ (by decide) (.slice (some ⟨sb2, 0, none⟩) q2 q2) w7 (HT.out w7 hb07).1 _ (HS6.out.kept hb7) (by rw [read2]; decide)
  rw [read2] at hn7
  have HE7 := hid_intro (HE6.out.bel hb7)
  have HB7 := hid_intro hb07
  clear hn6 hb7 hb07
  go_wp2_with fail
  refine hn7.mono ?_; rintro e w8 ⟨rfl, hb8⟩
  obtain ⟨W8, hW8⟩ : ∃ W8, w8.alloc (.cells #[.int .i64 0, .int .i64 1, .int .i64 2] 3) = W8 := ⟨_, rfl⟩
  have hbW8 : Below w8.heap.size w8 W8 := hW8 ▸ vb_a (Below.refl _ _) _
  have k8 : Bk W8 w8.heap.size #[.int .i64 0, .int .i64 1, .int .i64 2] := hW8 ▸ Bk.new _ _ _
  have hin := ints_any (.slice eo [(0 : Int), 1, 2].length ec) (.slice (some ⟨w8.heap.size, 0, none⟩) 3 3) [0, 1, 2] [0, 1, 2] W8 (IRow.of_own ((HE7.out.bel hb8).bel hbW8).1) (Or.inr ⟨w8.heap.size, 0, 3, rfl, by decide, fun i hi => by
    rw [Nat.zero_add, k8.cell]
    match i, hi with
    | 0, _ => rfl
    | 1, _ => rfl
    | 2, _ => rfl⟩)
  rw [decide_eq_true rfl] at hin
  have HW8 := hid_intro hW8
  have HB8 := hid_intro (vb_t HB7.out (vb_t hb8 hbW8))
  clear hn7 hb8 hbW8 k8 hW8
  go_wp2_with fail
  rw [HW8.out]
  refine hin.mono ?_; rintro e w9 ⟨rfl, q, rfl⟩
  clear hin
  go_wp2_with fail
  rw [HP.out]
  exact ⟨rfl, bel_drewN HB8.out q⟩
end Go.Proofs.YtoinlmfodmgohaaGreatDoor
