/-
  That heads answers true. Conditions: the table of greatest code points holds its four numbers.
  That heads answers true. Conditions: the table of greatest code points holds its four numbers.
  PikeParts, where it asks nothing: too large a tree or text. No condition but those of Size.
  Trees of two parts in a block of twelve cells: what Compile answers of the choice and of the row. Conditions: those of Compile.
-/
import Derived.Test.YtoinlmfodmgohaaGreatDoorJoined39
import Derived.Test.YtoinlmfodmgohaaGreatDoorJoined37
import Derived.Test.YtoinlmfodmgohaaGreatDoorJoined35
import Derived.Test.YtoinlmfodmgohaaGreatDoorJoined36
namespace Go.Proofs.YtoinlmfodmgohaaGreatDoor
open Go.RowKit Go.Maps
attribute [local go_sem] setCell_drewN alloc_drewN

def pA : RX := .mk 2 [(97, 97)] 0 0 false []
def pS : RX := .mk 5 [] 0 (-1) false [pA]
set_option maxRecDepth 100000 in
theorem parse_pS : parseS ⟨#[97, 42]⟩ = some pS := by rfl
set_option maxRecDepth 100000 in
theorem parse_pA : parseS ⟨#[97]⟩ = some pA := by rfl
set_option maxRecDepth 100000 in
theorem pts1 : ptsS ⟨#[97, 97, 98]⟩ = [97, 97, 98] := by rfl
set_option maxRecDepth 100000 in
theorem pts2 : ptsS ⟨#[98, 97]⟩ = [98, 97] := by rfl
set_option maxRecDepth 100000 in
theorem good1 : goodS ⟨#[97, 97, 98]⟩ = true := by rfl
set_option maxRecDepth 100000 in
theorem good2 : goodS ⟨#[98, 97]⟩ = true := by rfl
set_option maxRecDepth 100000 in
theorem good3 : goodS ⟨#[255]⟩ = false := by rfl
def pl1 : List ST := nfaL pS
def pl2 : List ST := nfaL pA
set_option maxRecDepth 100000 in
theorem pl1_nfa : nfaB pl1 = true := by decide
set_option maxRecDepth 100000 in
theorem pl2_nfa : nfaB pl2 = true := by decide
set_option maxRecDepth 100000 in
theorem pl1_r : ∀ s ∈ pl1, s.r.length ≤ 1048576 := by decide
set_option maxRecDepth 100000 in
theorem pl2_r : ∀ s ∈ pl2, s.r.length ≤ 1048576 := by decide
set_option maxRecDepth 100000 in
theorem pl1_ex : exB pl1 [97, 97, 98] false 3 = true ∧ exE pl1 [97, 97, 98] 4 = [0, 1, 2] := by decide
set_option maxRecDepth 100000 in
theorem pl2_ex : exB pl2 [98, 97] true 2 = true ∧ exS pl2 [98, 97] true 3 = 4 ∧ dnB pl2 (exR pl2 [98, 97] true 2).1 = true ∧ dnB pl2 (exR pl2 [98, 97] true 1).1 = false ∧ dnB pl2 (exR pl2 [98, 97] true 0).1 = false := by decide
theorem en_l1 {E : List Int} (h : EnP pl1 [97, 97, 98] 4 E) : E = [0, 1, 2] := by
  have := ex_en (vs_of pl1_nfa) [97, 97, 98] pl1_ex.1 4 (by omega)
  rw [pl1_ex.2] at this
  exact h.uniq this
theorem sr_l2 {b : Bool} {n : Nat} (h : SrR pl2 [98, 97] b n) : b = true ∧ n = 4 := by
  have hL := vs_of pl2_nfa
  have hs := ex_stp hL [98, 97] true pl2_ex.1 3 (by omega)
  rw [pl2_ex.2.1] at hs
  refine h.uniq ⟨2, by simp, hs, Or.inl ⟨rfl, (ex_dn hL _ _ pl2_ex.1).1 pl2_ex.2.2.1, fun P hP hd => ?_⟩⟩
  have := (ex_dn hL [98, 97] true (exB_le (Q := P) pl2_ex.1 (by omega))).2 hd
  match P, hP with
  | 0, _ => rw [pl2_ex.2.2.2.2] at this; cases this
  | 1, _ => rw [pl2_ex.2.2.2.1] at this; cases this
theorem bd_pA : BdX 1048576 pA := .mk (by decide) (by decide) (fun c hc => by simp at hc)
theorem bd_pS : BdX 1048576 pS := .mk (by decide) (by decide) (fun c hc => by simp at hc; subst hc; exact bd_pA)
theorem right_pA : rightB 1000 pA = true := by rfl
theorem right_pS : rightB 1000 pS = true := by rfl
end Go.Proofs.YtoinlmfodmgohaaGreatDoor

namespace Go.Proofs.YtoinlmfodmgohaaGreatDoor
open Go.RowKit Go.Maps
attribute [local go_sem] setCell_drewN alloc_drewN

theorem bel_drewN {a w : World} (h : Below a.heap.size a w) (n : Nat) : Below a.heap.size a (w.drewN n) := ⟨h.os, h.tape, h.output, h.size, h.block⟩
theorem read1 : readE [] ⟨#[97]⟩ = 101 := by rfl
theorem read2 : readE pl2 ⟨#[255]⟩ = 10 := by unfold readE; rw [pl2_nfa, good3]; rfl
set_option maxRecDepth 100000 in
set_option maxHeartbeats 3200000 in
theorem pheads_any (w : World) (hT : Tab w) (hg0 : 0 < w.heap.size) : Calls Tryz.prog 13 #[] w fun e w' => e = .returned (.bool true) ∧ Below w.heap.size w w' := by
  obtain ⟨P, hP⟩ : ∃ P : Ending → World → Prop, P = fun e w' => e = .returned (.bool true) ∧ Below w.heap.size w w' := ⟨_, rfl⟩
  rw [← hP]
  have HP := hid_intro hP
  clear hP
  have h1 := parse_any ⟨#[97, 42]⟩ w hT hg0 (by decide)
  rw [parse_pS] at h1
  have HT : Hid (∀ w', Below w.heap.size w w' → Tab w' ∧ 0 < w'.heap.size) := hid_intro (fun w' hb => ⟨hT.below hb, Nat.lt_of_lt_of_le hg0 hb.size⟩)
  clear hT hg0
  go_enter Tryz.func13, Tryz.ntmps13
  go_wp2_with fail
  refine h1.mono ?_; rintro e w1 ⟨hb1, f, rfl, hx1⟩
  obtain ⟨k, a1, n1, c1, lo, hi_, z, a2, n2, c2, ef⟩ := hx1.lit
  rw [ef]
  obtain ⟨W1, hW1⟩ : ∃ W1, w1.alloc (.cells #[.int .i64 k, .slice a1 n1 c1, .int .i64 lo, .int .i64 hi_, .bool z, .slice a2 n2 c2] 31) = W1 := ⟨_, rfl⟩
  have hbW1 : Below w1.heap.size w1 W1 := hW1 ▸ vb_a (Below.refl _ _) _
  have hc1 := comp_ok pS bd_pS f W1 _ (hx1.kept hbW1) 100 right_pS (by decide)
  rw [ef] at hc1
  have HB1 := hid_intro (vb_t hb1 hbW1)
  have HW1 := hid_intro hW1
  clear h1 hb1 hx1 ef hW1 hbW1
  go_wp2_with fail
  rw [HW1.out]
  refine hc1.mono ?_; rintro e w2 ⟨sb, rfl, hsi, hb2⟩
  obtain ⟨q1, hq1⟩ : ∃ q1, szX pS + 1 = q1 := ⟨_, rfl⟩
  rw [hq1] at hsi ⊢
  have hb02 := vb_t HB1.out hb2
  have h2 := parse_any ⟨#[97]⟩ w2 (HT.out w2 hb02).1 (HT.out w2 hb02).2 (by decide)
  rw [parse_pA] at h2
  have HS1 := hid_intro hsi
  have HB2 := hid_intro hb02
  clear hc1 hsi hb2 hb02 hq1 HW1
  go_wp2_with fail
  refine h2.mono ?_; rintro e w3 ⟨hb3, f2, rfl, hx3⟩
  obtain ⟨k', a1', n1', c1', lo', hi', z', a2', n2', c2', ef⟩ := hx3.lit
  rw [ef]
  obtain ⟨W3, hW3⟩ : ∃ W3, w3.alloc (.cells #[.int .i64 k', .slice a1' n1' c1', .int .i64 lo', .int .i64 hi', .bool z', .slice a2' n2' c2'] 31) = W3 := ⟨_, rfl⟩
  have hbW3 : Below w3.heap.size w3 W3 := hW3 ▸ vb_a (Below.refl _ _) _
  have hc2 := comp_ok pA bd_pA f2 W3 _ (hx3.kept hbW3) 100 right_pA (by decide)
  rw [ef] at hc2
  have HS3 := hid_intro ((HS1.out.kept hb3).kept hbW3)
  have HB3 := hid_intro (vb_t HB2.out (vb_t hb3 hbW3))
  have HW3 := hid_intro hW3
  clear h2 hb3 hx3 ef hW3 hbW3
  go_wp2_with fail
  rw [HW3.out]
  refine hc2.mono ?_; rintro e w4 ⟨sb2, rfl, hsi, hb4⟩
  obtain ⟨q2, hq2⟩ : ∃ q2, szX pA + 1 = q2 := ⟨_, rfl⟩
  rw [hq2] at hsi ⊢
  have hb04 := vb_t HB3.out hb4
  have hen := ends_ok pl1 (by decide) pl1_r ⟨#[97, 97, 98]⟩ (by decide) (.slice (some ⟨sb, 0, none⟩) q1 q1) w4 (HT.out w4 hb04).1 _ (HS3.out.kept hb4) pl1_nfa good1
  rw [pts1] at hen
  have HS4 := hid_intro hsi
  have HB4 := hid_intro hb04
  clear hc2 hsi hb4 hb04 hq2 HW3
  go_wp2_with fail
  refine hen.mono ?_; rintro e w5 ⟨v5, E, rfl, hoE, henE, hb5⟩
  obtain rfl := en_l1 henE
  obtain ⟨eo, ec, rfl, _⟩ := hoE.form
  have hb05 := vb_t HB4.out hb5
  have hs5 := search_ok pl2 (by decide) pl2_r ⟨#[98, 97]⟩ (by decide) (.slice (some ⟨sb2, 0, none⟩) q2 q2) w5 (HT.out w5 hb05).1 _ (HS4.out.kept hb5) pl2_nfa good2
  rw [pts2] at hs5
  have HE := hid_intro hoE
  have HS5 := hid_intro (HS4.out.kept hb5)
  have HB5 := hid_intro hb05
  clear hen henE hoE hb5 hb05
  go_wp2_with fail
  refine hs5.mono ?_; rintro e w6 ⟨b6, n6, rfl, hsr, hb6⟩
  obtain ⟨rfl, rfl⟩ := sr_l2 hsr
  have hb06 := vb_t HB5.out hb6
  have hn6 := search_no [] (fun s hs => by simp at hs) ⟨#[97]⟩ (by decide) (.slice none 0 0) w6 (HT.out w6 hb06).1 (fun _ => False) (SI.nil _ _) (by rw [read1]; decide)
  rw [read1] at hn6
  have HE6 := hid_intro (HE.out.bel hb6)
  have HS6 := hid_intro (HS5.out.kept hb6)
  have HB6 := hid_intro hb06
  clear hs5 hsr hb6 hb06
  go_wp2_with fail
  refine hn6.mono ?_; rintro e w7 ⟨rfl, hb7⟩
  have hb07 := vb_t HB6.out hb7
  have hn7 := search_no pl2 (fun s hs => Nat.le_trans (pl2_r s hs) (by decide)) ⟨#[255]⟩ (by decide) (.slice (some ⟨sb2, 0, none⟩) q2 q2) w7 (HT.out w7 hb07).1 _ (HS6.out.kept hb7) (by rw [read2]; decide)
  rw [read2] at hn7
  have HE7 := hid_intro (HE6.out.bel hb7)
  have HB7 := hid_intro hb07
  clear hn6 hb7 hb07
  go_wp2_with fail
  refine hn7.mono ?_; rintro e w8 ⟨rfl, hb8⟩
  obtain ⟨W8, hW8⟩ : ∃ W8, w8.alloc (.cells #[.int .i64 0, .int .i64 1, .int .i64 2] 3) = W8 := ⟨_, rfl⟩
  have hbW8 : Below w8.heap.size w8 W8 := hW8 ▸ vb_a (Below.refl _ _) _
  have k8 : Bk W8 w8.heap.size #[.int .i64 0, .int .i64 1, .int .i64 2] := hW8 ▸ Bk.new _ _ _
  have hin := ints_any (.slice eo [(0 : Int), 1, 2].length ec) (.slice (some ⟨w8.heap.size, 0, none⟩) 3 3) [0, 1, 2] [0, 1, 2] W8 (IRow.of_own ((HE7.out.bel hb8).bel hbW8).1) (Or.inr ⟨w8.heap.size, 0, 3, rfl, by decide, fun i hi => by
    rw [Nat.zero_add, k8.cell]
    match i, hi with
    | 0, _ => rfl
    | 1, _ => rfl
    | 2, _ => rfl⟩)
  rw [decide_eq_true rfl] at hin
  have HW8 := hid_intro hW8
  have HB8 := hid_intro (vb_t HB7.out (vb_t hb8 hbW8))
  clear hn7 hb8 hbW8 k8 hW8
  go_wp2_with fail
  rw [HW8.out]
  refine hin.mono ?_; rintro e w9 ⟨rfl, q, rfl⟩
  clear hin
  go_wp2_with fail
  rw [HP.out]
  exact ⟨rfl, bel_drewN HB8.out q⟩
end Go.Proofs.YtoinlmfodmgohaaGreatDoor

namespace Go.Proofs.YtoinlmfodmgohaaGreatDoor
open Go.RowKit
attribute [local go_sem] setCell_drewN alloc_drewN

/-- What PikeParts asks before it compiles. -/
def PartsIn (x y : RX) (s : ByteArray) : Prop := rightB 1000 x = true ∧ rightB 1000 y = true ∧ szX x < 500 ∧ szX y < 500 ∧ s.size ≤ 200 ∧ lvX x ≤ 900 ∧ lvX y ≤ 900
set_option maxRecDepth 100000 in
set_option maxHeartbeats 3200000 in
theorem parts_guard (x y : RX) (fx fy : Nat → Value) (s : ByteArray) (hs : s.size ≤ 1048576) (W0 : World) (hT : Tab W0) (hg0 : 0 < W0.heap.size) (X Y : Nat → Prop) (hbx : BdX 1099511627776 x) (hby : BdX 1099511627776 y) (hvx : XI W0 X x fx) (hvy : XI W0 Y y fy) (hno : ¬ PartsIn x y s) :
    Calls Tryz.prog 8 #[xa fx, xa fy, .string s] W0 fun e w' => e = .returned (.bool true) ∧ Below W0.heap.size W0 w' := by
  obtain ⟨k, a1, n1, c1, lo, hi, z, a2, n2, c2, e0, e1, e2, e3, e4, e5⟩ := hvx.six
  have exa : xa fx = .agg #[.int .i64 k, .slice a1 n1 c1, .int .i64 lo, .int .i64 hi, .bool z, .slice a2 n2 c2] := by unfold xa; rw [e0, e1, e2, e3, e4, e5]
  obtain ⟨k', a1', n1', c1', lo', hi', z', a2', n2', c2', e0', e1', e2', e3', e4', e5'⟩ := hvy.six
  have exb : xa fy = .agg #[.int .i64 k', .slice a1' n1' c1', .int .i64 lo', .int .i64 hi', .bool z', .slice a2' n2' c2'] := by unfold xa; rw [e0', e1', e2', e3', e4', e5']
  obtain ⟨W, hW⟩ : ∃ W, (W0.alloc (.cells #[.int .i64 k, .slice a1 n1 c1, .int .i64 lo, .int .i64 hi, .bool z, .slice a2 n2 c2] 31)).alloc (.cells #[.int .i64 k', .slice a1' n1' c1', .int .i64 lo', .int .i64 hi', .bool z', .slice a2' n2' c2'] 31) = W := ⟨_, rfl⟩
  have hbW : Below W0.heap.size W0 W := hW ▸ vb_a (vb_a (Below.refl _ _) _) _
  have kX : Bk W W0.heap.size #[.int .i64 k, .slice a1 n1 c1, .int .i64 lo, .int .i64 hi, .bool z, .slice a2 n2 c2] := hW ▸ (Bk.new _ _ _).al _
  have kY : Bk W (W0.heap.size + 1) #[.int .i64 k', .slice a1' n1' c1', .int .i64 lo', .int .i64 hi', .bool z', .slice a2' n2' c2'] := by
    rw [← hW]; have := Bk.new (W0.alloc (.cells #[.int .i64 k, .slice a1 n1 c1, .int .i64 lo, .int .i64 hi, .bool z, .slice a2 n2 c2] 31)) #[.int .i64 k', .slice a1' n1' c1', .int .i64 lo', .int .i64 hi', .bool z', .slice a2' n2' c2'] 31; simpa using this
  have hsx := fun w' (hb : Below W.heap.size W w') => size_any x fx w' X hbx (hvx.kept (vb_t hbW hb)) 1000 (I64_of (by omega) (by omega))
  have hsy := fun w' (hb : Below W.heap.size W w') => size_any y fy w' Y hby (hvy.kept (vb_t hbW hb)) 1000 (I64_of (by omega) (by omega))
  have hlx := fun (hr : rightB 1000 x = true) w' (hb : Below W.heap.size W w') => levels_any x fx w' X (hvx.kept (vb_t hbW hb)) (lv_right x 1000 hr)
  have hly := fun (hr : rightB 1000 y = true) w' (hb : Below W.heap.size W w') => levels_any y fy w' Y (hvy.kept (vb_t hbW hb)) (lv_right y 1000 hr)
  have HHD := hid_intro (fun w' (hb : Below W.heap.size W w') => pheads_any w' (hT.below (vb_t hbW hb)) (Nat.lt_of_lt_of_le hg0 (vb_t hbW hb).size))
  have hsv : ∀ t, rightB 1000 t = true → sizeV t 1000 = min ((szX t : Int) + 1) 1001 := fun t hr => by unfold sizeV om; rw [hr, if_pos rfl, if_neg (by omega)]; omega
  have hev : ∀ t, rightB 1000 t = true → errN t = 0 := fun t hr => by unfold errN; rw [hr]; rfl
  have hen : ∀ t, rightB 1000 t = false → errN t = 91 := fun t hr => by unfold errN; rw [hr]; rfl
  rw [exa] at hsx hlx
  rw [exb] at hsy hly
  rw [exa, exb]
  obtain ⟨P, hP⟩ : ∃ P : Ending → World → Prop, P = fun e w' => e = .returned (.bool true) ∧ Below W0.heap.size W0 w' := ⟨_, rfl⟩
  rw [← hP]
  have HP := hid_intro hP
  have HW := hid_intro hW
  have HBW := hid_intro hbW
  have HKX := hid_intro kX
  have HKY := hid_intro kY
  clear hP hW hbW kX kY hvx hvy hbx hby exa exb e0 e1 e2 e3 e4 e5 e0' e1' e2' e3' e4' e5' hT hg0
  cases hrx : rightB 1000 x
  · rw [hen x hrx] at hsx
    have HSX := hid_intro hsx
    have HSY := hid_intro hsy
    clear hsx hsy hlx hly hsv hev hen hno hrx
    go_enter Tryz.func8, Tryz.ntmps8
    go_wp2_with fail
    rw [HW.out]
    refine (HSX.out _ (Below.refl _ _)).mono ?_; rintro e w1 ⟨rfl, hb1⟩
    have h2 := HSY.out w1 hb1
    obtain ⟨y0, y1, y2, y3, y4, y5⟩ := (HKY.out.bel hb1).c6
    go_wp2_with fail
    refine h2.mono ?_; rintro e w2 ⟨rfl, hb2⟩
    have HB2 := hid_intro (vb_t hb1 hb2)
    clear h2 hb1 hb2 y0 y1 y2 y3 y4 y5
    go_wp2_with fail
    refine (HHD.out _ HB2.out).mono ?_; rintro e w9 ⟨rfl, hb9⟩
    go_wp2_with fail
    rw [HP.out]
    exact ⟨rfl, vb_t HBW.out (vb_t HB2.out hb9)⟩
  cases hry : rightB 1000 y
  · rw [hev x hrx] at hsx
    rw [hen y hry] at hsy
    have HSX := hid_intro hsx
    have HSY := hid_intro hsy
    clear hsx hsy hlx hly hsv hev hen hno hrx hry
    go_enter Tryz.func8, Tryz.ntmps8
    go_wp2_with fail
    rw [HW.out]
    refine (HSX.out _ (Below.refl _ _)).mono ?_; rintro e w1 ⟨rfl, hb1⟩
    have h2 := HSY.out w1 hb1
    obtain ⟨y0, y1, y2, y3, y4, y5⟩ := (HKY.out.bel hb1).c6
    go_wp2_with fail
    refine h2.mono ?_; rintro e w2 ⟨rfl, hb2⟩
    have HB2 := hid_intro (vb_t hb1 hb2)
    clear h2 hb1 hb2 y0 y1 y2 y3 y4 y5
    go_wp2_with fail
    refine (HHD.out _ HB2.out).mono ?_; rintro e w9 ⟨rfl, hb9⟩
    go_wp2_with fail
    rw [HP.out]
    exact ⟨rfl, vb_t HBW.out (vb_t HB2.out hb9)⟩
  rw [hev x hrx, hsv x hrx] at hsx
  rw [hev y hry, hsv y hry] at hsy
  have HLX := hid_intro (hlx hrx)
  have HLY := hid_intro (hly hry)
  obtain ⟨n, hn⟩ : ∃ n, min ((szX x : Int) + 1) 1001 = n := ⟨_, rfl⟩
  obtain ⟨m, hm⟩ : ∃ m, min ((szX y : Int) + 1) 1001 = m := ⟨_, rfl⟩
  rw [hn] at hsx
  rw [hm] at hsy
  have HSX := hid_intro hsx
  have HSY := hid_intro hsy
  clear hsx hsy hlx hly hsv hev hen
  by_cases q3 : 500 < n
  · clear HLX HLY hno hrx hry hn hm hs
    go_enter Tryz.func8, Tryz.ntmps8
    go_wp2_with fail
    rw [HW.out]
    refine (HSX.out _ (Below.refl _ _)).mono ?_; rintro e w1 ⟨rfl, hb1⟩
    have h2 := HSY.out w1 hb1
    obtain ⟨y0, y1, y2, y3, y4, y5⟩ := (HKY.out.bel hb1).c6
    go_wp2_with fail
    refine h2.mono ?_; rintro e w2 ⟨rfl, hb2⟩
    have HB2 := hid_intro (vb_t hb1 hb2)
    clear h2 hb1 hb2 y0 y1 y2 y3 y4 y5
    go_wp2_with fail
    refine (HHD.out _ HB2.out).mono ?_; rintro e w9 ⟨rfl, hb9⟩
    go_wp2_with fail
    rw [HP.out]
    exact ⟨rfl, vb_t HBW.out (vb_t HB2.out hb9)⟩
  by_cases q4 : 500 < m
  · clear HLX HLY hno hrx hry hn hm hs
    go_enter Tryz.func8, Tryz.ntmps8
    go_wp2_with fail
    rw [HW.out]
    refine (HSX.out _ (Below.refl _ _)).mono ?_; rintro e w1 ⟨rfl, hb1⟩
    have h2 := HSY.out w1 hb1
    obtain ⟨y0, y1, y2, y3, y4, y5⟩ := (HKY.out.bel hb1).c6
    go_wp2_with fail
    refine h2.mono ?_; rintro e w2 ⟨rfl, hb2⟩
    have HB2 := hid_intro (vb_t hb1 hb2)
    clear h2 hb1 hb2 y0 y1 y2 y3 y4 y5
    go_wp2_with fail
    refine (HHD.out _ HB2.out).mono ?_; rintro e w9 ⟨rfl, hb9⟩
    go_wp2_with fail
    rw [HP.out]
    exact ⟨rfl, vb_t HBW.out (vb_t HB2.out hb9)⟩
  by_cases q5 : 200 < s.size
  · clear HLX HLY hno hrx hry hn hm
    go_enter Tryz.func8, Tryz.ntmps8
    go_wp2_with fail
    rw [HW.out]
    refine (HSX.out _ (Below.refl _ _)).mono ?_; rintro e w1 ⟨rfl, hb1⟩
    have h2 := HSY.out w1 hb1
    obtain ⟨y0, y1, y2, y3, y4, y5⟩ := (HKY.out.bel hb1).c6
    go_wp2_with fail
    refine h2.mono ?_; rintro e w2 ⟨rfl, hb2⟩
    have HB2 := hid_intro (vb_t hb1 hb2)
    clear h2 hb1 hb2 y0 y1 y2 y3 y4 y5
    go_wp2_with fail
    refine (HHD.out _ HB2.out).mono ?_; rintro e w9 ⟨rfl, hb9⟩
    go_wp2_with fail
    rw [HP.out]
    exact ⟨rfl, vb_t HBW.out (vb_t HB2.out hb9)⟩
  by_cases q6 : 900 < lvX x
  · clear HLY hno hrx hry hn hm
    go_enter Tryz.func8, Tryz.ntmps8
    go_wp2_with fail
    rw [HW.out]
    refine (HSX.out _ (Below.refl _ _)).mono ?_; rintro e w1 ⟨rfl, hb1⟩
    have h2 := HSY.out w1 hb1
    obtain ⟨y0, y1, y2, y3, y4, y5⟩ := (HKY.out.bel hb1).c6
    go_wp2_with fail
    refine h2.mono ?_; rintro e w2 ⟨rfl, hb2⟩
    have HB2 := hid_intro (vb_t hb1 hb2)
    have h3 := HLX.out w2 (vb_t hb1 hb2)
    obtain ⟨x0, x1, x2, x3, x4, x5⟩ := (HKX.out.bel HB2.out).c6
    clear h2 hb1 hb2 y0 y1 y2 y3 y4 y5
    go_wp2_with fail
    refine h3.mono ?_; rintro e w3 ⟨rfl, hb3⟩
    have HB3 := hid_intro (vb_t HB2.out hb3)
    clear h3 hb3 x0 x1 x2 x3 x4 x5
    go_wp2_with fail
    refine (HHD.out _ HB3.out).mono ?_; rintro e w9 ⟨rfl, hb9⟩
    go_wp2_with fail
    rw [HP.out]
    exact ⟨rfl, vb_t HBW.out (vb_t HB3.out hb9)⟩
  by_cases q7 : 900 < lvX y
  · clear hno hrx hry hn hm
    go_enter Tryz.func8, Tryz.ntmps8
    go_wp2_with fail
    rw [HW.out]
    refine (HSX.out _ (Below.refl _ _)).mono ?_; rintro e w1 ⟨rfl, hb1⟩
    have h2 := HSY.out w1 hb1
    obtain ⟨y0, y1, y2, y3, y4, y5⟩ := (HKY.out.bel hb1).c6
    go_wp2_with fail
    refine h2.mono ?_; rintro e w2 ⟨rfl, hb2⟩
    have HB2 := hid_intro (vb_t hb1 hb2)
    have h3 := HLX.out w2 (vb_t hb1 hb2)
    obtain ⟨x0, x1, x2, x3, x4, x5⟩ := (HKX.out.bel HB2.out).c6
    clear h2 hb1 hb2 y0 y1 y2 y3 y4 y5
    go_wp2_with fail
    refine h3.mono ?_; rintro e w3 ⟨rfl, hb3⟩
    have HB3 := hid_intro (vb_t HB2.out hb3)
    have h4 := HLY.out w3 (vb_t HB2.out hb3)
    obtain ⟨y0, y1, y2, y3, y4, y5⟩ := (HKY.out.bel HB3.out).c6
    clear h3 hb3 x0 x1 x2 x3 x4 x5
    go_wp2_with fail
    refine h4.mono ?_; rintro e w4 ⟨rfl, hb4⟩
    have HB4 := hid_intro (vb_t HB3.out hb4)
    clear h4 hb4 y0 y1 y2 y3 y4 y5
    go_wp2_with fail
    refine (HHD.out _ HB4.out).mono ?_; rintro e w9 ⟨rfl, hb9⟩
    go_wp2_with fail
    rw [HP.out]
    exact ⟨rfl, vb_t HBW.out (vb_t HB4.out hb9)⟩
  exact absurd ⟨hrx, hry, by omega, by omega, by omega, by omega, by omega⟩ hno
end Go.Proofs.YtoinlmfodmgohaaGreatDoor

namespace Go.Proofs.YtoinlmfodmgohaaGreatDoor
open Go.RowKit

theorem xi_two {w : World} {x y : RX} {f g : Nat → Value} (k : Int) (n : Nat) (hk : I64 k) (hx : XI w (fun _ => False) x f) (hy : XI w (fun _ => False) y g) (h : Bk w n #[f 0, f 1, f 2, f 3, f 4, f 5, g 0, g 1, g 2, g 3, g 4, g 5]) :
    XI w (fun _ => False) (.mk k [] 0 0 false [x, y]) (fun i => [Value.int .i64 k, .slice none 0 0, .int .i64 0, .int .i64 0, .bool false, .slice (some ⟨n, 0, none⟩) 2 2].getD i .nilIface) := by
  refine XI.mk (some ⟨n, 0, none⟩) 2 (fun i j => if i = 0 then f j else g j) rfl (RI.nil _ _) rfl rfl rfl rfl ⟨Nat.le_refl _, by unfold maxLen; omega⟩ ⟨hk, I64_of (by omega) (by omega), I64_of (by omega) (by omega)⟩ (Or.inr ⟨n, 0, rfl, fun h => h, fun i hi j hj => ?_⟩) (fun i hi => ?_)
  · have hi' : i < 2 := hi
    rw [h.cell]
    match i, hi', j, hj with
    | 0, _, 0, _ => rfl
    | 0, _, 1, _ => rfl
    | 0, _, 2, _ => rfl
    | 0, _, 3, _ => rfl
    | 0, _, 4, _ => rfl
    | 0, _, 5, _ => rfl
    | 1, _, 0, _ => rfl
    | 1, _, 1, _ => rfl
    | 1, _, 2, _ => rfl
    | 1, _, 3, _ => rfl
    | 1, _, 4, _ => rfl
    | 1, _, 5, _ => rfl
  · have hi' : i < 2 := hi
    match i, hi' with
    | 0, _ => exact hx
    | 1, _ => exact hy
theorem xi_emp (w : World) : XI w (fun _ => False) (.mk 1 [] 0 0 false []) (fun i => [Value.int .i64 1, .slice none 0 0, .int .i64 0, .int .i64 0, .bool false, .slice none 0 0].getD i .nilIface) :=
  XI.mk none 0 (fun _ _ => .nilIface) rfl (RI.nil _ _) rfl rfl rfl rfl ⟨Nat.le_refl _, by unfold maxLen; omega⟩ ⟨I64_of (by omega) (by omega), I64_of (by omega) (by omega), I64_of (by omega) (by omega)⟩ (Or.inl rfl) (fun i hi => by simp at hi)
theorem comp_alt {w : World} {x y : RX} {f g : Nat → Value} {n : Nat} (bx : BdX 1048576 x) (by_ : BdX 1048576 y) (hx : XI w (fun _ => False) x f) (hy : XI w (fun _ => False) y g) (h : Bk w n #[f 0, f 1, f 2, f 3, f 4, f 5, g 0, g 1, g 2, g 3, g 4, g 5]) (hr : rightB 1000 (tAlt x y) = true) (sx : szX x < 500) (sy : szX y < 500) :
    Calls Tryz.prog 10 #[.agg #[.int .i64 4, .slice none 0 0, .int .i64 0, .int .i64 0, .bool false, .slice (some ⟨n, 0, none⟩) 2 2], .int .i64 1010] w fun e w' => ∃ sb, e = .returned (.tuple #[.slice (some ⟨sb, 0, none⟩) (szX x + szX y + 2 + 1) (szX x + szX y + 2 + 1), .int .i64 0]) ∧ SI w' (fun _ => False) (nfaL (tAlt x y)) (.slice (some ⟨sb, 0, none⟩) (szX x + szX y + 2 + 1) (szX x + szX y + 2 + 1)) ∧ Below w.heap.size w w' := by
  have hc := comp_ok (tAlt x y) (.mk (Nat.zero_le _) (by simp) (fun c hc => by simp at hc; rcases hc with rfl | rfl <;> assumption)) _ w _ (xi_two 4 n (I64_of (by omega) (by omega)) hx hy h) 1010 hr (by rw [sz_talt]; omega)
  rw [sz_talt] at hc
  exact hc
theorem comp_seq {w : World} {x : RX} {f : Nat → Value} {n : Nat} (bx : BdX 1048576 x) (hx : XI w (fun _ => False) x f) (h : Bk w n #[f 0, f 1, f 2, f 3, f 4, f 5, .int .i64 1, .slice none 0 0, .int .i64 0, .int .i64 0, .bool false, .slice none 0 0]) (hr : rightB 1000 (tSeq x) = true) (sx : szX x < 500) :
    Calls Tryz.prog 10 #[.agg #[.int .i64 3, .slice none 0 0, .int .i64 0, .int .i64 0, .bool false, .slice (some ⟨n, 0, none⟩) 2 2], .int .i64 1010] w fun e w' => ∃ sb, e = .returned (.tuple #[.slice (some ⟨sb, 0, none⟩) (szX x + 1) (szX x + 1), .int .i64 0]) ∧ SI w' (fun _ => False) (nfaL (tSeq x)) (.slice (some ⟨sb, 0, none⟩) (szX x + 1) (szX x + 1)) ∧ Below w.heap.size w w' := by
  have hc := comp_ok (tSeq x) (.mk (Nat.zero_le _) (by simp) (fun c hc => by
    simp at hc; rcases hc with rfl | rfl
    · exact bx
    · exact .mk (Nat.zero_le _) (Nat.zero_le _) (fun c hc => by simp at hc))) _ w _ (xi_two 3 n (I64_of (by omega) (by omega)) hx (xi_emp w) h) 1010 hr (by rw [sz_tseq]; omega)
  rw [sz_tseq] at hc
  exact hc
end Go.Proofs.YtoinlmfodmgohaaGreatDoor
