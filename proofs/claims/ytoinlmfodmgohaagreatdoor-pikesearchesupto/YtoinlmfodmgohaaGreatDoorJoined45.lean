/-
  The states at a place, reckoned out; the searches that are refused. Conditions: there is room.
  That heads answers true. Conditions: the table of greatest code points holds its four numbers.
  That heads answers true. Conditions: the table of greatest code points holds its four numbers.
  What ref.length, ref.second, ref.step and ref.Good answer: the same step, and the same good beginning. No condition.
  What ref.Good and ref.Points answer: the same good beginning, and the same code points. Conditions: the text is at most 2^44 bytes long.
-/
import Derived.Test.YtoinlmfodmgohaaGreatDoorJoined30
import Derived.Test.YtoinlmfodmgohaaGreatDoorJoined44
import Derived.Test.YtoinlmfodmgohaaGreatDoorJoined3
namespace Go.Proofs.YtoinlmfodmgohaaGreatDoor
open Go.RowKit Go.Maps
attribute [local go_sem] setCell_drewN alloc_drewN

/-- The loop, reckoned out. -/
def run (L : List ST) (g : Int → Bool) : Nat → List Int → List Int → List Int × List Int
  | 0, H, W => (H, W)
  | k + 1, H, W => match W.reverse with
    | [] => (H, [])
    | s :: r => run L g k (fol L g 6 s (H, r.reverse)).1 (fol L g 6 s (H, r.reverse)).2
theorem run_lp {L : List ST} {g : Int → Bool} {F : Int → Prop} (hL : VS L) (hg : GG g) : ∀ (k : Nat) (H W : List Int), Lp L g F H W → Lp L g F (run L g k H W).1 (run L g k H W).2
  | 0, H, W, h => h
  | k + 1, H, W, h => by
    unfold run
    split
    · rename_i hr
      have : W = [] := by simpa using hr
      subst this
      exact h
    · rename_i s r hr
      have e : W = r.reverse ++ [s] := by
        have := congrArg List.reverse hr
        simpa using this
      subst e
      exact run_lp hL hg k _ _ (h.step hL hg 5).1
def exR (L : List ST) (t : List Int) (each : Bool) : Nat → List Int × List Int
  | 0 => run L (letsB t 0) 30 [] [0]
  | P + 1 => run L (letsB t (P + 1)) 30 [] (nxt L (ia t P) (exR L t each P).1 ++ (if each = true then [0] else []))
def exB (L : List ST) (t : List Int) (each : Bool) : Nat → Bool
  | 0 => (exR L t each 0).2.isEmpty
  | P + 1 => exB L t each P && (exR L t each (P + 1)).2.isEmpty
theorem ex_rs {L : List ST} (hL : VS L) (t : List Int) (each : Bool) : ∀ P, exB L t each P = true → (exR L t each P).1.Nodup ∧ ∀ x, x ∈ (exR L t each P).1 ↔ Rs L t each P x
  | 0, h => by
    have hl : Lp L (letsB t 0) (fun x => x ∈ [0]) [] [0] := Lp.start (fun x hx => by simp at hx; subst hx; exact ⟨by omega, by have := hL.1; omega⟩)
    have h1 := run_lp hL (letsB_gg t 0) 30 [] [0] hl
    have e : (run L (letsB t 0) 30 [] [0]).2 = [] := by simpa [exB, exR] using h
    rw [e] at h1
    refine ⟨h1.grd.nd, fun x => (h1.done x).trans ?_⟩
    exact Rch.congr (fun y => by simp) x
  | P + 1, h => by
    simp only [exB, Bool.and_eq_true] at h
    have ih := ex_rs hL t each P h.1
    have hin : ∀ x ∈ nxt L (ia t P) (exR L t each P).1 ++ (if each = true then [0] else []), InL L x := fun x hx => by
      rcases List.mem_append.1 hx with hx | hx
      · exact FrN_inl hL t each (P + 1) x ((nxt_iff ih.2 x).1 hx)
      · by_cases he : each = true
        · rw [if_pos he] at hx; simp at hx; subst hx; exact ⟨by omega, by have := hL.1; omega⟩
        · rw [if_neg he] at hx; simp at hx
    have h1 := run_lp hL (letsB_gg t (P + 1)) 30 [] _ (Lp.start hin)
    have e : (exR L t each (P + 1)).2 = [] := by simpa using h.2
    have e' : (run L (letsB t (P + 1)) 30 [] (nxt L (ia t P) (exR L t each P).1 ++ (if each = true then [0] else []))).2 = [] := e
    rw [e'] at h1
    refine ⟨h1.grd.nd, fun x => (h1.done x).trans ?_⟩
    refine Rch.congr (fun y => ?_) x
    rw [List.mem_append, nxt_iff ih.2 y]
    by_cases he : each = true
    · rw [if_pos he]
      simp only [List.mem_cons, List.not_mem_nil, or_false, FrN]
      constructor
      · rintro (h | h)
        · exact Or.inr h
        · exact Or.inl ⟨he, h⟩
      · rintro (h | h)
        · exact Or.inr h.2
        · exact Or.inl h
    · rw [if_neg he]
      simp only [List.not_mem_nil, or_false, FrN]
      constructor
      · exact fun h => Or.inr h
      · rintro (h | h)
        · exact absurd h.1 he
        · exact h
theorem exB_le {L : List ST} {t : List Int} {each : Bool} : ∀ {P Q : Nat}, exB L t each P = true → Q ≤ P → exB L t each Q = true
  | 0, Q, h, hQ => by obtain rfl : Q = 0 := by omega
                      exact h
  | P + 1, Q, h, hQ => by
    by_cases e : Q = P + 1
    · subst e; exact h
    · simp only [exB, Bool.and_eq_true] at h
      exact exB_le h.1 (by omega)
def exS (L : List ST) (t : List Int) (each : Bool) : Nat → Nat
  | 0 => 0
  | P + 1 => exS L t each P + (exR L t each P).1.length
theorem ex_stp {L : List ST} (hL : VS L) (t : List Int) (each : Bool) {Q : Nat} (h : exB L t each Q = true) : ∀ P, P ≤ Q + 1 → Stp L t each P (exS L t each P)
  | 0, _ => rfl
  | P + 1, hP => ⟨_, _, ex_stp hL t each h P (by omega), ⟨_, (ex_rs hL t each P (exB_le h (by omega))).1, (ex_rs hL t each P (exB_le h (by omega))).2, rfl⟩, rfl⟩
theorem ex_dn {L : List ST} (hL : VS L) (t : List Int) (each : Bool) {P : Nat} (h : exB L t each P = true) : dnB L (exR L t each P).1 = true ↔ Dn L t each P := dn_iff (ex_rs hL t each P h).2
def exE (L : List ST) (t : List Int) : Nat → List Int
  | 0 => []
  | P + 1 => if dnB L (exR L t false P).1 = true then exE L t P ++ [(P : Int)] else exE L t P
theorem ex_en {L : List ST} (hL : VS L) (t : List Int) {Q : Nat} (h : exB L t false Q = true) : ∀ P, P ≤ Q + 1 → EnP L t P (exE L t P)
  | 0, _ => rfl
  | P + 1, hP => by
    have ih := ex_en hL t h P (by omega)
    have hd := ex_dn hL t false (exB_le (Q := P) h (by omega))
    unfold exE
    by_cases e : dnB L (exR L t false P).1 = true
    · rw [if_pos e]; exact ⟨_, ih, Or.inl ⟨hd.1 e, rfl⟩⟩
    · rw [if_neg e]; exact ⟨_, ih, Or.inr ⟨fun h => e (hd.2 h), rfl⟩⟩
set_option maxRecDepth 100000 in
set_option maxHeartbeats 1600000 in
theorem search_no (L : List ST) (hr : ∀ s ∈ L, s.r.length ≤ 1099511627776) (s : ByteArray) (hs : s.size ≤ 1099511627776) (lv : Value) (w : World) (hT : Tab w) (X : Nat → Prop) (hS : SI w X L lv) (h : readE L s ≠ 0) :
    Calls Tryz.prog 12 #[lv, .string s] w fun e w' => e = .returned (.tuple #[.bool false, .int .i64 0, .int .i64 (readE L s)]) ∧ Below w.heap.size w w' := by
  have hrd := read_no L hr s hs lv w hT X hS h
  obtain ⟨a1, c1, rfl, _⟩ := hS
  obtain ⟨q, hq⟩ : ∃ q, readE L s = q := ⟨_, rfl⟩
  rw [hq] at hrd h ⊢
  obtain ⟨P, hP⟩ : ∃ P : Ending → World → Prop, P = fun e w' => e = .returned (.tuple #[.bool false, .int .i64 0, .int .i64 q]) ∧ Below w.heap.size w w' := ⟨_, rfl⟩
  rw [← hP]
  have HP := hid_intro hP
  clear hP hT hr hs hq
  go_enter Tryz.func12, Tryz.ntmps12
  go_wp2_with fail
  refine hrd.mono ?_; rintro e w1 ⟨rfl, hb1⟩
  have HB := hid_intro hb1
  clear hrd hb1
  go_wp2_with fail
  refine bodyPost_ret (v := .tuple #[.bool false, .int .i64 0, .int .i64 q]) (by simp [results, Tryz.results12, go_sem]) rfl ?_
  rw [HP.out]
  exact ⟨rfl, HB.out⟩
end Go.Proofs.YtoinlmfodmgohaaGreatDoor

namespace Go.Proofs.YtoinlmfodmgohaaGreatDoor
open Go.RowKit Go.Maps
attribute [local go_sem] setCell_drewN alloc_drewN

def pA : RX := .mk 2 [(97, 97)] 0 0 false []
def pS : RX := .mk 5 [] 0 (-1) false [pA]
set_option maxRecDepth 100000 in
theorem parse_pS : parseS ⟨#[97, 42]⟩ = some pS := by rfl
set_option maxRecDepth 100000 in
theorem parse_pA : parseS ⟨#[97]⟩ = some pA := by rfl
set_option maxRecDepth 100000 in
theorem pts1 : ptsS ⟨#[97, 97, 98]⟩ = [97, 97, 98] := by rfl
set_option maxRecDepth 100000 in
theorem pts2 : ptsS ⟨#[98, 97]⟩ = [98, 97] := by rfl
set_option maxRecDepth 100000 in
theorem good1 : goodS ⟨#[97, 97, 98]⟩ = true := by rfl
set_option maxRecDepth 100000 in
theorem good2 : goodS ⟨#[98, 97]⟩ = true := by rfl
set_option maxRecDepth 100000 in
theorem good3 : goodS ⟨#[255]⟩ = false := by rfl
def pl1 : List ST := nfaL pS
def pl2 : List ST := nfaL pA
set_option maxRecDepth 100000 in
theorem pl1_nfa : nfaB pl1 = true := by decide
set_option maxRecDepth 100000 in
theorem pl2_nfa : nfaB pl2 = true := by decide
set_option maxRecDepth 100000 in
theorem pl1_r : ∀ s ∈ pl1, s.r.length ≤ 1048576 := by decide
set_option maxRecDepth 100000 in
theorem pl2_r : ∀ s ∈ pl2, s.r.length ≤ 1048576 := by decide
set_option maxRecDepth 100000 in
theorem pl1_ex : exB pl1 [97, 97, 98] false 3 = true ∧ exE pl1 [97, 97, 98] 4 = [0, 1, 2] := by decide
set_option maxRecDepth 100000 in
theorem pl2_ex : exB pl2 [98, 97] true 2 = true ∧ exS pl2 [98, 97] true 3 = 4 ∧ dnB pl2 (exR pl2 [98, 97] true 2).1 = true ∧ dnB pl2 (exR pl2 [98, 97] true 1).1 = false ∧ dnB pl2 (exR pl2 [98, 97] true 0).1 = false := by decide
theorem en_l1 {E : List Int} (h : EnP pl1 [97, 97, 98] 4 E) : E = [0, 1, 2] := by
  have := ex_en (vs_of pl1_nfa) [97, 97, 98] pl1_ex.1 4 (by omega)
  rw [pl1_ex.2] at this
  exact h.uniq this
theorem sr_l2 {b : Bool} {n : Nat} (h : SrR pl2 [98, 97] b n) : b = true ∧ n = 4 := by
  have hL := vs_of pl2_nfa
  have hs := ex_stp hL [98, 97] true pl2_ex.1 3 (by omega)
  rw [pl2_ex.2.1] at hs
  refine h.uniq ⟨2, by simp, hs, Or.inl ⟨rfl, (ex_dn hL _ _ pl2_ex.1).1 pl2_ex.2.2.1, fun P hP hd => ?_⟩⟩
  have := (ex_dn hL [98, 97] true (exB_le (Q := P) pl2_ex.1 (by omega))).2 hd
  match P, hP with
  | 0, _ => rw [pl2_ex.2.2.2.2] at this; cases this
  | 1, _ => rw [pl2_ex.2.2.2.1] at this; cases this
theorem bd_pA : BdX 1048576 pA := .mk (by decide) (by decide) (fun c hc => by simp at hc)
theorem bd_pS : BdX 1048576 pS := .mk (by decide) (by decide) (fun c hc => by simp at hc; subst hc; exact bd_pA)
theorem right_pA : rightB 1000 pA = true := by rfl
theorem right_pS : rightB 1000 pS = true := by rfl
end Go.Proofs.YtoinlmfodmgohaaGreatDoor

namespace Go.Proofs.YtoinlmfodmgohaaGreatDoor
open Go.RowKit Go.Maps
attribute [local go_sem] setCell_drewN alloc_drewN

theorem bel_drewN {a w : World} (h : Below a.heap.size a w) (n : Nat) : Below a.heap.size a (w.drewN n) := ⟨h.os, h.tape, h.output, h.size, h.block⟩
theorem read1 : readE [] ⟨#[97]⟩ = 101 := by rfl
theorem read2 : readE pl2 ⟨#[255]⟩ = 10 := by unfold readE; rw [pl2_nfa, good3]; rfl
set_option maxRecDepth 100000 in
set_option maxHeartbeats 3200000 in
theorem pheads_any (w : World) (hT : Tab w) (hg0 : 0 < w.heap.size) : Calls Tryz.prog 13 #[] w fun e w' => e = .returned (.bool true) ∧ Below w.heap.size w w' := by
  obtain ⟨P, hP⟩ : ∃ P : Ending → World → Prop, P = fun e w' => e = .returned (.bool true) ∧ Below w.heap.size w w' := ⟨_, rfl⟩
  rw [← hP]
  have HP := hid_intro hP
  clear hP
  have h1 := parse_any ⟨#[97, 42]⟩ w hT hg0 (by decide)
  rw [parse_pS] at h1
  have HT : Hid (∀ w', Below w.heap.size w w' → Tab w' ∧ 0 < w'.heap.size) := hid_intro (fun w' hb => ⟨hT.below hb, Nat.lt_of_lt_of_le hg0 hb.size⟩)
  clear hT hg0
  go_enter Tryz.func13, Tryz.ntmps13
  go_wp2_with fail
  refine h1.mono ?_; rintro e w1 ⟨hb1, f, rfl, hx1⟩
  obtain ⟨k, a1, n1, c1, lo, hi_, z, a2, n2, c2, ef⟩ := hx1.lit
  rw [ef]
  obtain ⟨W1, hW1⟩ : ∃ W1, w1.alloc (.cells #[.int .i64 k, .slice a1 n1 c1, .int .i64 lo, .int .i64 hi_, .bool z, .slice a2 n2 c2] 31) = W1 := ⟨_, rfl⟩
  have hbW1 : Below w1.heap.size w1 W1 := hW1 ▸ vb_a (Below.refl _ _) _
  have hc1 := comp_ok pS bd_pS f W1 _ (hx1.kept hbW1) 100 right_pS (by decide)
  rw [ef] at hc1
  have HB1 := hid_intro (vb_t hb1 hbW1)
  have HW1 := hid_intro hW1
  clear h1 hb1 hx1 ef hW1 hbW1
  go_wp2_with fail
  rw [HW1.out]
  refine hc1.mono ?_; rintro e w2 ⟨sb, rfl, hsi, hb2⟩
  obtain ⟨q1, hq1⟩ : ∃ q1, szX pS + 1 = q1 := ⟨_, rfl⟩
  rw [hq1] at hsi ⊢
  have hb02 := vb_t HB1.out hb2
  have h2 := parse_any ⟨#[97]⟩ w2 (HT.out w2 hb02).1 (HT.out w2 hb02).2 (by decide)
  rw [parse_pA] at h2
  have HS1 := hid_intro hsi
  have HB2 := hid_intro hb02
  clear hc1 hsi hb2 hb02 hq1 HW1
  go_wp2_with fail
  refine h2.mono ?_; rintro e w3 ⟨hb3, f2, rfl, hx3⟩
  obtain ⟨k', a1', n1', c1', lo', hi', z', a2', n2', c2', ef⟩ := hx3.lit
  rw [ef]
  obtain ⟨W3, hW3⟩ : ∃ W3, w3.alloc (.cells #[.int .i64 k', .slice a1' n1' c1', .int .i64 lo', .int .i64 hi', .bool z', .slice a2' n2' c2'] 31) = W3 := ⟨_, rfl⟩
  have hbW3 : Below w3.heap.size w3 W3 := hW3 ▸ vb_a (Below.refl _ _) _
  have hc2 := comp_ok pA bd_pA f2 W3 _ (hx3.kept hbW3) 100 right_pA (by decide)
  rw [ef] at hc2
  have HS3 := hid_intro ((HS1.out.kept hb3).kept hbW3)
  have HB3 := hid_intro (vb_t HB2.out (vb_t hb3 hbW3))
  have HW3 := hid_intro hW3
  clear h2 hb3 hx3 ef hW3 hbW3
  go_wp2_with fail
  rw [HW3.out]
  refine hc2.mono ?_; rintro e w4 ⟨sb2, rfl, hsi, hb4⟩
  obtain ⟨q2, hq2⟩ : ∃ q2, szX pA + 1 = q2 := ⟨_, rfl⟩
  rw [hq2] at hsi ⊢
  have hb04 := vb_t HB3.out hb4
  have hen := ends_ok pl1 (by decide) pl1_r ⟨#[97, 97, 98]⟩ (by decide) (.slice (some ⟨sb, 0, none⟩) q1 q1) w4 (HT.out w4 hb04).1 _ (HS3.out.kept hb4) pl1_nfa good1
  rw [pts1] at hen
  have HS4 := hid_intro hsi
  have HB4 := hid_intro hb04
  clear hc2 hsi hb4 hb04 hq2 HW3
  go_wp2_with fail
  refine hen.mono ?_; rintro e w5 ⟨v5, E, rfl, hoE, henE, hb5⟩
  obtain rfl := en_l1 henE
  obtain ⟨eo, ec, rfl, _⟩ := hoE.form
  have hb05 := vb_t HB4.out hb5
  have hs5 := search_ok pl2 (by decide) pl2_r ⟨#[98, 97]⟩ (by decide) (.slice (some ⟨sb2, 0, none⟩) q2 q2) w5 (HT.out w5 hb05).1 _ (HS4.out.kept hb5) pl2_nfa good2
  rw [pts2] at hs5
  have HE := hid_intro hoE
  have HS5 := hid_intro (HS4.out.kept hb5)
  have HB5 := hid_intro hb05
  clear hen henE hoE hb5 hb05
  go_wp2_with fail
  refine hs5.mono ?_; rintro e w6 ⟨b6, n6, rfl, hsr, hb6⟩
  obtain ⟨rfl, rfl⟩ := sr_l2 hsr
  have hb06 := vb_t HB5.out hb6
  have hn6 := search_no [] (fun s hs => by simp at hs) ⟨#[97]⟩ (by decide) (.slice none 0 0) w6 (HT.out w6 hb06).1 (fun _ => False) (SI.nil _ _) (by rw [read1]; decide)
  rw [read1] at hn6
  have HE6 := hid_intro (HE.out.bel hb6)
  have HS6 := hid_intro (HS5.out.kept hb6)
  have HB6 := hid_intro hb06
  clear hs5 hsr hb6 hb06
  go_wp2_with fail
  refine hn6.mono ?_; rintro e w7 ⟨rfl, hb7⟩
  have hb07 := vb_t HB6.out hb7
  have hn7 := search_no pl2 (fun s hs => Nat.le_trans (pl2_r s hs) (by decide)) ⟨#[255]⟩ (by decide) (.slice (some ⟨sb2, 0, none⟩) q2 q2) w7 (HT.out w7 hb07).1 _ (HS6.out.kept hb7) (by rw [read2]; decide)
  rw [read2] at hn7
  have HE7 := hid_intro (HE6.out.bel hb7)
  have HB7 := hid_intro hb07
  clear hn6 hb7 hb07
  go_wp2_with fail
  refine hn7.mono ?_; rintro e w8 ⟨rfl, hb8⟩
  obtain ⟨W8, hW8⟩ : ∃ W8, w8.alloc (.cells #[.int .i64 0, .int .i64 1, .int .i64 2] 3) = W8 := ⟨_, rfl⟩
  have hbW8 : Below w8.heap.size w8 W8 := hW8 ▸ vb_a (Below.refl _ _) _
  have k8 : Bk W8 w8.heap.size #[.int .i64 0, .int .i64 1, .int .i64 2] := hW8 ▸ Bk.new _ _ _
  have hin := ints_any (.slice eo [(0 : Int), 1, 2].length ec) (.slice (some ⟨w8.heap.size, 0, none⟩) 3 3) [0, 1, 2] [0, 1, 2] W8 (IRow.of_own ((HE7.out.bel hb8).bel hbW8).1) (Or.inr ⟨w8.heap.size, 0, 3, rfl, by decide, fun i hi => by
    rw [Nat.zero_add, k8.cell]
    match i, hi with
    | 0, _ => rfl
    | 1, _ => rfl
    | 2, _ => rfl⟩)
  rw [decide_eq_true rfl] at hin
  have HW8 := hid_intro hW8
  have HB8 := hid_intro (vb_t HB7.out (vb_t hb8 hbW8))
  clear hn7 hb8 hbW8 k8 hW8
  go_wp2_with fail
  rw [HW8.out]
  refine hin.mono ?_; rintro e w9 ⟨rfl, q, rfl⟩
  clear hin
  go_wp2_with fail
  rw [HP.out]
  exact ⟨rfl, bel_drewN HB8.out q⟩
end Go.Proofs.YtoinlmfodmgohaaGreatDoor

namespace Go.Proofs.YtoinlmfodmgohaaGreatDoor
open Go.RowKit

set_option maxHeartbeats 400000 in
theorem rlength_any (c : Int) (w : World) :
    Calls Tryz.prog 53 #[.int .u8 c] w fun e w' => e = .returned (.int .i64 (stN c)) ∧ w = w' := by
  go_enter Tryz.func53, Tryz.ntmps53
  go_wp2
  all_goals go_ret
  all_goals refine ⟨ret_int ?_, rfl⟩
  all_goals unfold stN
  all_goals repeat' split
  all_goals omega

theorem secB_mk (c d : Int) (x : Bool) (lo hi : Int) (h1 : (if c = 224 then (160 : Int) else if c = 240 then 144 else 128) = lo) (h2 : (if c = 237 then (159 : Int) else if c = 244 then 143 else 191) = hi)
    (h : x = true ↔ (lo ≤ d ∧ d ≤ hi)) : x = secB c d := by
  rw [Bool.eq_iff_iff, h, secB_iff, h1, h2]

set_option maxHeartbeats 400000 in
theorem second_any (c d : Int) (w : World) :
    Calls Tryz.prog 54 #[.int .u8 c, .int .u8 d] w fun e w' => e = .returned (.bool (secB c d)) ∧ w = w' := by
  by_cases h1 : c = 224
  · subst h1
    go_enter Tryz.func54, Tryz.ntmps54
    go_wp2
    all_goals go_ret
    all_goals refine ⟨ret_bool (secB_mk 224 d _ 160 191 rfl rfl ?_), rfl⟩
    all_goals (try simp only [decide_eq_true_iff, Bool.false_eq_true, false_iff])
    all_goals omega
  · by_cases h2 : c = 237
    · subst h2
      go_enter Tryz.func54, Tryz.ntmps54
      go_wp2
      all_goals go_ret
      all_goals refine ⟨ret_bool (secB_mk 237 d _ 128 159 rfl rfl ?_), rfl⟩
      all_goals (try simp only [decide_eq_true_iff, Bool.false_eq_true, false_iff])
      all_goals omega
    · by_cases h3 : c = 240
      · subst h3
        go_enter Tryz.func54, Tryz.ntmps54
        go_wp2
        all_goals go_ret
        all_goals refine ⟨ret_bool (secB_mk 240 d _ 144 191 rfl rfl ?_), rfl⟩
        all_goals (try simp only [decide_eq_true_iff, Bool.false_eq_true, false_iff])
        all_goals omega
      · by_cases h4 : c = 244
        · subst h4
          go_enter Tryz.func54, Tryz.ntmps54
          go_wp2
          all_goals go_ret
          all_goals refine ⟨ret_bool (secB_mk 244 d _ 128 143 rfl rfl ?_), rfl⟩
          all_goals (try simp only [decide_eq_true_iff, Bool.false_eq_true, false_iff])
          all_goals omega
        · have k1 : (c == 224) = false := by simpa using h1
          have k2 : (c == 237) = false := by simpa using h2
          have k3 : (c == 240) = false := by simpa using h3
          have k4 : (c == 244) = false := by simpa using h4
          have HM : Hid (∀ x : Bool, (x = true ↔ (128 ≤ d ∧ d ≤ 191)) → x = secB c d) := fun x h => secB_mk c d x 128 191 (by rw [if_neg h1, if_neg h3]) (by rw [if_neg h2, if_neg h4]) h
          clear h1 h2 h3 h4
          go_enter Tryz.func54, Tryz.ntmps54
          go_wp2
          all_goals go_ret
          all_goals refine ⟨ret_bool (HM.out _ ?_), rfl⟩
          all_goals (try simp only [decide_eq_true_iff, Bool.false_eq_true, false_iff])
          all_goals omega

set_option maxHeartbeats 1000000 in
theorem rstep_any (b off len cap p : Nat) (f : Nat → Int) (w : World) (hL : Lies w b off len f) (hp : p < len) (hm : len ≤ maxLen) :
    Calls Tryz.prog 30 #[.slice (some ⟨b, off, none⟩) len cap, .int .i64 (p : Int)] w fun e w' => e = .returned (.tuple #[.int .i64 ((stepF (len - p) fun i => f (p + i)).1 : Nat), .bool (stepF (len - p) fun i => f (p + i)).2]) ∧ w = w' := by
  unfold maxLen at hm
  have c0 : w.cell? ⟨b, off + p, none⟩ = some (.int .u8 (f p)) := hL.cell p hp
  have hpI : (p : Int) < (len : Int) := by omega
  have hl := fun w => rlength_any (f p) w
  by_cases hz : stN (f p) = 0
  · have hs := stepF_none (len - p) (fun i => f (p + i)) hz
    rw [hs]
    rw [hz] at hl
    clear hs hz
    go_enter Tryz.func30, Tryz.ntmps30
    go_wp2_with (go_at_call 53; refine (hl _).mono ?_; rintro e w' ⟨rfl, rfl⟩)
    go_ret2
    exact ⟨rfl, rfl⟩
  · have b0 := hL.lo p
    have b1 := hL.hi p
    obtain ⟨z1, n1, n4, z2⟩ := first_good (f p) b0 b1 hz
    clear z1 z2
    obtain ⟨n, hn⟩ : ∃ n : Nat, (n : Int) = stN (f p) := ⟨(stN (f p)).toNat, by omega⟩
    rw [← hn] at hl n1 n4
    have HN : Hid ((n : Int) = stN ((fun i => f (p + i)) 0)) := hn
    have HZ : Hid (stN ((fun i => f (p + i)) 0) ≠ 0) := hz
    have HP := stepF_part (len - p) (fun i => f (p + i)) b0 b1
    have HW := stepF_whole (len - p) (fun i => f (p + i)) b0 b1 HZ.out
    have hne : ((n : Int) == 0) = false := by simp; omega
    have hsec := fun d w => second_any (f p) d w
    have HPN := passed_next (len - p) (fun i => f (p + i))
    clear hn hz
    generalize hS : stepF (len - p) (fun i => f (p + i)) = S at *
    go_enter Tryz.func30, Tryz.ntmps30
    go_wp2_with (go_at_call 53; refine (hl _).mono ?_; rintro e w' ⟨rfl, rfl⟩)
    go_loop [7] (fun i => ∃ j : Nat, 1 ≤ j ∧ j ≤ n ∧ i = .int .i64 j ∧ Hid (passed (len - p) (fun i => f (p + i)) j)) (fun i => n - (intOf i).toNat)
    case atStart => exact ⟨1, by omega, by omega, rfl, passed_one _ _⟩
    case round =>
      obtain ⟨j, hj1, hjn, rfl, HJ⟩ := hrel
      by_cases hlt : j < n
      · have hjs : (j : Int) < stN ((fun i => f (p + i)) 0) := by rw [← HN.out]; omega
        by_cases hle : p + j < len
        · have cj : w.cell? ⟨b, off + (p + j), none⟩ = some (.int .u8 (f (p + j))) := hL.cell (p + j) hle
          have hle' : (p : Int) + (j : Int) < (len : Int) := by omega
          have hne' : ((p : Int) + (j : Int) == (len : Int)) = false := by simp; omega
          by_cases hj : j = 1
          · subst hj
            have ga : (p : Int) + 1 < (len : Int) := by omega
            have gb : ((p : Int) + 1 == (len : Int)) = false := by simp; omega
            have gc : (1 : Int) < (n : Int) := by omega
            clear hle' hne'
            cases hs : secB (f p) (f (p + 1))
            · have HF : Hid (S = (1, false)) := by
                show S = _
                rw [HP 1 (by omega) hjs HJ.out (.inr (.inr (by simpa [okAt] using hs)))]
              have h2 := hsec (f (p + 1))
              rw [hs] at h2
              clear hs HP HW HPN hjs
              go_wp2_with (go_at_call 54; refine (h2 _).mono ?_; rintro e w' ⟨rfl, rfl⟩)
              go_ret2
              exact ⟨ret_ib (by rw [HF.out]; rfl) (by rw [HF.out]), rfl⟩
            · have HF : Hid (passed (len - p) (fun i => f (p + i)) 2) := HPN 1 (by omega) (by omega) (secB_fol _ _ hs) (by simpa [okAt] using hs) HJ.out
              have h2 := hsec (f (p + 1))
              rw [hs] at h2
              clear hs HP HW HPN hjs
              go_wp2_with (go_at_call 54; refine (h2 _).mono ?_; rintro e w' ⟨rfl, rfl⟩)
              go_round
              case rel => exact ⟨2, by omega, by omega, rfl, HF⟩
              case measure => simp [intOf]; omega
          · have hj2 : (1 : Int) < (j : Int) := by omega
            have hjE : ((j : Int) == 1) = false := by simp; omega
            have hok : okAt (fun i => f (p + i)) j = true := by simp [okAt, hj]
            by_cases k1 : f (p + j) < 128
            · have HF : Hid (S = (j, false)) := by
                show S = _
                rw [HP j hj1 hjs HJ.out (.inr (.inl (by rw [← Bool.not_eq_true, folB_iff]; omega)))]
              clear HP HW HPN hjs hok
              go_wp2
              go_ret2
              exact ⟨ret_ib (by rw [HF.out]) (by rw [HF.out]), rfl⟩
            · by_cases k2 : 191 < f (p + j)
              · have HF : Hid (S = (j, false)) := by
                  show S = _
                  rw [HP j hj1 hjs HJ.out (.inr (.inl (by rw [← Bool.not_eq_true, folB_iff]; omega)))]
                clear HP HW HPN hjs hok
                go_wp2
                go_ret2
                exact ⟨ret_ib (by rw [HF.out]) (by rw [HF.out]), rfl⟩
              · have HF : Hid (passed (len - p) (fun i => f (p + i)) (j + 1)) := HPN j hj1 (by omega) (by rw [folB_iff]; omega) hok HJ.out
                clear HP HW HPN hjs hok
                go_wp2
                go_round
                case rel => exact ⟨j + 1, by omega, by omega, by go_num, HF⟩
                case measure => simp [intOf]; omega
        · have HF : Hid (S = (j, false)) := by
            show S = _
            rw [HP j hj1 hjs HJ.out (.inl (by omega))]
          have hjl : ((p : Int) + (j : Int) == (len : Int)) = true := by
            obtain ⟨q2, q3, q4⟩ := HJ.out
            simp; omega
          have hub : p + j ≤ len := by
            obtain ⟨q2, q3, q4⟩ := HJ.out
            omega
          clear HP HW HPN hjs
          go_wp2
          go_ret2
          exact ⟨ret_ib (by rw [HF.out]) (by rw [HF.out]), rfl⟩
      · have e : j = n := by omega
        subst e
        have HF : Hid (S = (j, true)) := by
          show S = _
          rw [HW j HN.out HJ.out]
        clear HP HW HPN
        go_wp2
        go_ret2
        exact ⟨ret_ib (by rw [HF.out]) (by rw [HF.out]), rfl⟩
end Go.Proofs.YtoinlmfodmgohaaGreatDoor

namespace Go.Proofs.YtoinlmfodmgohaaGreatDoor
open Go.RowKit

set_option maxHeartbeats 400000 in
theorem rgood_some (b off len cap : Nat) (f : Nat → Int) (w : World) (hL : Lies w b off len f) (hc : len ≤ cap) (hm : cap ≤ maxLen) :
    Calls Tryz.prog 29 #[.slice (some ⟨b, off, none⟩) len cap] w fun e w' => e = .returned (.tuple #[.int .i64 ((good len f).1 : Nat), .bool (good len f).2]) ∧ w = w' := by
  unfold maxLen at hm
  go_enter Tryz.func29, Tryz.ntmps29
  go_wp2
  go_loop [4] (fun t => ∃ p k : Nat, p ≤ len ∧ t = .int .i64 p ∧ len ≤ p + k ∧ Hid (goodF len f k p = good len f)) (fun t => len - (intOf t).toNat)
  case atStart => exact ⟨0, len, by omega, rfl, by omega, (rfl : goodF len f len 0 = good len f)⟩
  case round =>
    obtain ⟨p, k, hp, rfl, hk, HG⟩ := hrel
    by_cases hlt : p < len
    · obtain ⟨k', rfl⟩ : ∃ k', k = k' + 1 := ⟨k - 1, by omega⟩
      have hb := rstep_any b off len cap p f w hL hlt (by unfold maxLen; omega)
      have s1 := stepF_le (len - p) (fun i => f (p + i)) (by omega)
      have hG := HG.out
      clear HG
      unfold goodF at hG
      rw [if_neg (by omega)] at hG
      have s2 := stepF_pos (len - p) (fun i => f (p + i))
      generalize stepF (len - p) (fun i => f (p + i)) = s at *
      obtain ⟨a, t⟩ := s
      cases t
      · have hF : (p + a, false) = good len f := by simpa using hG
        have HF : Hid ((p + a, false) = good len f) := hF
        clear hF hG s2
        go_wp2_with (go_at_call 30; refine hb.mono ?_; rintro e w' ⟨rfl, rfl⟩)
        go_ret2
        exact ⟨ret_ib (by rw [← HF.out]; rfl) (by rw [← HF.out]), rfl⟩
      · have hF : goodF len f k' (p + a) = good len f := by simpa using hG
        have HF : Hid (goodF len f k' (p + a) = good len f) := hF
        have s3 : 1 ≤ a := s2 rfl
        have s4 : a ≤ len - p := s1
        clear hF hG s2 s1
        go_wp2_with (go_at_call 30; refine hb.mono ?_; rintro e w' ⟨rfl, rfl⟩)
        go_round
        case rel => exact ⟨p + a, k', by omega, by go_num, by omega, HF⟩
        case measure => simp [intOf]; omega
    · have e : p = len := by omega
      subst e
      have HF : Hid ((p, true) = good p f) := by
        have := HG.out
        cases k
        · exact this
        · unfold goodF at this; rw [if_pos (by omega)] at this; exact this
      clear HG
      go_wp2
      go_ret2
      exact ⟨ret_ib (by rw [← HF.out]) (by rw [← HF.out]), rfl⟩

set_option maxHeartbeats 400000 in
theorem rgood_any (v : Value) (len : Nat) (f : Nat → Int) (w : World) (hR : Row w v len f) :
    Calls Tryz.prog 29 #[v] w fun e w' => e = .returned (.tuple #[.int .i64 ((good len f).1 : Nat), .bool (good len f).2]) ∧ w = w' := by
  rcases hR with ⟨rfl, a, cap, rfl, _⟩ | ⟨b, off, cap, rfl, hc, hm, hL⟩
  · go_enter Tryz.func29, Tryz.ntmps29
    go_wp2
    refine wp_loop_rounds 1 ?_
    rw [rounds_succ]
    go_wp2
    go_ret2
    exact ⟨rfl, rfl⟩
  · exact rgood_some b off len cap f w hL hc hm

theorem i64_or_add (X Y : Int) (i : Nat) (h0 : 0 ≤ X) (h1 : 0 ≤ Y) (hx : X.toNat % 2 ^ i = 0) (hy : Y.toNat < 2 ^ i) (hs : X + Y < 4611686018427387904) : bits .or .i64 X Y = X + Y := by
  obtain ⟨a, rfl⟩ := Int.eq_ofNat_of_zero_le h0
  obtain ⟨b, rfl⟩ := Int.eq_ofNat_of_zero_le h1
  have := i64_or_nat a b i (by simpa using hx) (by simpa using hy) (by omega)
  simpa using this
theorem i64_and31 (x : Int) (h0 : 0 ≤ x) (h : x < 4611686018427387904) : bits .and .i64 x 31 = x % 32 := by
  obtain ⟨a, rfl⟩ := Int.eq_ofNat_of_zero_le h0
  show IntKind.i64.wrap ((BitVec.ofInt 64 (a : Int) &&& BitVec.ofInt 64 ((31 : Nat) : Int)).toNat : Int) = _
  rw [BitVec.toNat_and, ofInt_u64 a (by omega), ofInt_u64 31 (by omega), nat_mask5]
  rw [Lib.wrap_i64_small _ (by omega)]
  omega
theorem i64_and15 (x : Int) (h0 : 0 ≤ x) (h : x < 4611686018427387904) : bits .and .i64 x 15 = x % 16 := by
  obtain ⟨a, rfl⟩ := Int.eq_ofNat_of_zero_le h0
  show IntKind.i64.wrap ((BitVec.ofInt 64 (a : Int) &&& BitVec.ofInt 64 ((15 : Nat) : Int)).toNat : Int) = _
  rw [BitVec.toNat_and, ofInt_u64 a (by omega), ofInt_u64 15 (by omega), nat_mask4]
  rw [Lib.wrap_i64_small _ (by omega)]
  omega
theorem i64_and7 (x : Int) (h0 : 0 ≤ x) (h : x < 4611686018427387904) : bits .and .i64 x 7 = x % 8 := by
  obtain ⟨a, rfl⟩ := Int.eq_ofNat_of_zero_le h0
  show IntKind.i64.wrap ((BitVec.ofInt 64 (a : Int) &&& BitVec.ofInt 64 ((7 : Nat) : Int)).toNat : Int) = _
  rw [BitVec.toNat_and, ofInt_u64 a (by omega), ofInt_u64 7 (by omega), nat_mask3]
  rw [Lib.wrap_i64_small _ (by omega)]
  omega
end Go.Proofs.YtoinlmfodmgohaaGreatDoor
