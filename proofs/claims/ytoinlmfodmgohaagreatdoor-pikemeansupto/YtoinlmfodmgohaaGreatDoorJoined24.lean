/-
  Which trees may be, as the program asks it. Conditions: no row of ranges is longer than 2^40.
  Whether ranges are a set, by the document's answer. Conditions: none.
  Which trees may be, by the document's answer. Conditions: none.
  Which states may be, as the program asks it. Conditions: no row of ranges is longer than 2^40.
  Which rows of states may be, as the program asks it. Conditions: no row of ranges is longer than 2^40.
-/
import Derived.Test.YtoinlmfodmgohaaGreatDoorJoined23
import Derived.Test.YtoinlmfodmgohaaGreatDoorJoined8
import Derived.BigQuiet
import Derived.Test.YtoinlmfodmgohaaGreatDoorJoined5
namespace Go.Proofs.YtoinlmfodmgohaaGreatDoor
open Go.RowKit
attribute [local go_sem] setCell_drewN alloc_drewN

set_option maxRecDepth 100000 in
set_option maxHeartbeats 3200000 in
theorem may_any : ∀ (d : Nat), d ≤ 1000 → ∀ (t : RX) (f : Nat → Value) (w : World) (X : Nat → Prop), BdX 1099511627776 t → XI w X t f →
    Calls Tryz.prog 66 #[xa f, .int .i64 (d : Int)] w fun r' w' => r' = .returned (.bool (mayB d t)) ∧ Below w.heap.size w w' := by
  intro d
  induction d with
  | zero =>
    intro _ t f w X _ hv
    obtain ⟨k, a, n, c, lo, hi, z, a', n', c', e0, e1, e2, e3, e4, e5⟩ := hv.six
    have exa : xa f = .agg #[.int .i64 k, .slice a n c, .int .i64 lo, .int .i64 hi, .bool z, .slice a' n' c'] := by unfold xa; rw [e0, e1, e2, e3, e4, e5]
    rw [exa]
    have em : mayB 0 t = false := rfl
    rw [em]
    obtain ⟨P, hP⟩ : ∃ P : Ending → World → Prop, P = fun r' w' => r' = .returned (.bool false) ∧ Below w.heap.size w w' := ⟨_, rfl⟩
    rw [← hP]
    have HP := hid_intro hP
    clear hP hv exa em
    go_enter Tryz.func66, Tryz.ntmps66
    go_wp2_with fail
    rw [HP.out]
    exact ⟨rfl, vb_a (Below.refl _ _) _⟩
  | succ d ih =>
    intro hd1 t f w X hbd hv
    obtain ⟨k, r, lo, hi, z, s⟩ := t
    have hbr := hbd.r
    have hbs := hbd.s
    cases hv with
    | mk ao cap G f0 f1 f2 f3 f4 f5 hc hw hl hr =>
    obtain ⟨a1, c1, e1, _⟩ := f1.shape
    have exa : xa f = .agg #[.int .i64 k, .slice a1 r.length c1, .int .i64 lo, .int .i64 hi, .bool z, .slice ao s.length cap] := by unfold xa; rw [f0, e1, f2, f3, f4, f5]
    rw [exa]
    have hlI : (s.length : Int) ≤ 9223372036854775807 := by have := hc.1; have := hc.2; unfold maxLen at this; omega
    obtain ⟨P, hP⟩ : ∃ P : Ending → World → Prop, P = fun r' w' => r' = .returned (.bool (mayB (d + 1) (.mk k r lo hi z s))) ∧ Below w.heap.size w w' := ⟨_, rfl⟩
    rw [← hP]
    have HP := hid_intro hP
    clear hP
    obtain ⟨W, hW⟩ : ∃ W, w.alloc (.cells #[.int .i64 k, .slice a1 r.length c1, .int .i64 lo, .int .i64 hi, .bool z, .slice ao s.length cap] 31) = W := ⟨_, rfl⟩
    have hbW : Below w.heap.size w W := hW ▸ vb_a (Below.refl _ _) _
    have kX : Bk W w.heap.size #[.int .i64 k, .slice a1 r.length c1, .int .i64 lo, .int .i64 hi, .bool z, .slice ao s.length cap] := hW ▸ Bk.new _ _ _
    have hown := own_any k r a1 c1 lo hi z ao s.length cap W X ((e1 ▸ f1).kept hbW) hbr
    have HL : Hid (∀ w', Below W.heap.size W w' → (s = [] ∨ ∃ b off, ao = some ⟨b, off, none⟩ ∧ ∀ i, i < s.length → ∀ j, j < 6 → w'.cell? ⟨b, off + i * 6 + j, none⟩ = some (G i j))) := hid_intro (fun w' hb => by
      rcases hl with hl | ⟨b, off, h1, _, h3⟩
      · exact .inl hl
      · exact .inr ⟨b, off, h1, fun i hi j hj => by rw [(vb_t hbW hb).cell (p := ⟨b, off + i * 6 + j, none⟩) (World.block_lt_of_cell? w _ (h3 i hi j hj))]; exact h3 i hi j hj⟩)
    have HI : Hid (∀ w' i (h : i < s.length), Below W.heap.size W w' → Calls Tryz.prog 66 #[.agg #[G i 0, G i 1, G i 2, G i 3, G i 4, G i 5], .int .i64 (d : Int)] w' fun r' w2 => r' = .returned (.bool (mayB d s[i])) ∧ Below w'.heap.size w' w2) := hid_intro (fun w' i h hb =>
      ih (by omega) s[i] (G i) w' X (hbs _ (List.getElem_mem h)) ((hr i h).kept (vb_t hbW hb)))
    have HSix := hid_intro (fun i h => (hr i h).six)
    have HE : Hid (mayB (d + 1) (.mk k r lo hi z s) = (ownB k r lo hi z s.length && s.all (mayB d))) := hid_intro rfl
    have HX := hid_intro hbW
    have HW := hid_intro hW
    have HK := hid_intro kX
    have hdI : (d : Int) + 1 ≤ 1000 := by omega
    have hdz : ¬ ((d : Int) + 1 = 0) := by omega
    have ecast : ((d + 1 : Nat) : Int) = (d : Int) + 1 := rfl
    rw [ecast]
    clear hl hr ih hbW kX hW exa f1 hbd hbr hbs ecast hd1 hw
    go_enter Tryz.func66, Tryz.ntmps66
    go_wp2_with fail
    rw [HW.out]
    refine hown.mono ?_; rintro r' w1 ⟨rfl, hb1⟩
    obtain ⟨a0, a1', a2, a3, a4, a5⟩ := (HK.out.bel hb1).c6
    cases hob : ownB k r lo hi z s.length
    · have HF : Hid (mayB (d + 1) (.mk k r lo hi z s) = false) := hid_intro (by rw [HE.out, hob]; rfl)
      clear hob HE HL HI HSix
      go_wp2_with fail
      rw [HP.out, HF.out]
      exact ⟨rfl, vb_t HX.out hb1⟩
    · have HE2 : Hid (mayB (d + 1) (.mk k r lo hi z s) = s.all (mayB d)) := hid_intro (by rw [HE.out, hob]; rfl)
      clear hob HE
      go_wp2_with fail
      clear a0 a1' a2 a3 a4 a5
      go_loopg [17] s.length (fun me s17 wr => ∃ j : Nat, j ≤ s.length ∧ me = s.length - j ∧ s17 = .int .i64 (j : Int) ∧ Hid (∀ i (h : i < s.length), i < j → mayB d s[i] = true) ∧ Hid (Below W.heap.size W wr))
      case atStart => exact ⟨0, Nat.zero_le _, rfl, rfl, fun i _ h => absurd h (by omega), hb1⟩
      case round =>
        obtain ⟨j, hj, rfl, rfl, HA, HZ⟩ := hrel
        clear hb1
        by_cases hlt : j < s.length
        · have hJ : (j : Int) < (s.length : Int) := by omega
          obtain ⟨b, off, rfl, h3⟩ := (HL.out wr HZ.out).resolve_left (fun e => by rw [e] at hlt; exact absurd hlt (by simp))
          have g0 : wr.cell? ⟨b, off + j * 6, none⟩ = some (G j 0) := h3 j hlt 0 (by omega)
          have g1 := h3 j hlt 1 (by omega)
          have g2 := h3 j hlt 2 (by omega)
          have g3 := h3 j hlt 3 (by omega)
          have g4 := h3 j hlt 4 (by omega)
          have g5 := h3 j hlt 5 (by omega)
          have HC : Hid (∀ w', Below wr.heap.size wr w' → Calls Tryz.prog 66 #[.agg #[G j 0, G j 1, G j 2, G j 3, G j 4, G j 5], .int .i64 (d : Int)] w' fun r' w2 => r' = .returned (.bool (mayB d s[j])) ∧ Below w'.heap.size w' w2) := hid_intro (fun w' hb => HI.out w' j hlt (vb_t HZ.out hb))
          obtain ⟨x0, x1, x2, x3, x4, x5, x6, x7, x8, x9, e0, e1, e2, e3, e4, e5⟩ := HSix.out j hlt
          rw [e0] at g0 HC
          rw [e1] at g1 HC
          rw [e2] at g2 HC
          rw [e3] at g3 HC
          rw [e4] at g4 HC
          rw [e5] at g5 HC
          clear e0 e1 e2 e3 e4 e5 HSix HL HI h3
          cases hmb : mayB d s[j]
          · have HF : Hid (mayB (d + 1) (.mk k r lo hi z s) = false) := hid_intro (by
              rw [HE2.out, List.all_eq_false]
              exact ⟨s[j], List.getElem_mem hlt, by rw [hmb]; decide⟩)
            rw [hmb] at HC
            clear hmb HA HE2
            go_wp2_with fail
            refine (HC.out _ (vb_a (Below.refl _ _) _)).mono ?_; rintro r' w3 ⟨rfl, hb3⟩
            have HB := hid_intro (vb_t (vb_a (Below.refl _ _) _) hb3)
            clear hb3
            go_wp2_with fail
            rw [HP.out, HF.out]
            exact ⟨rfl, vb_t HX.out (vb_t HZ.out HB.out)⟩
          · have HA2 : Hid (∀ i (h : i < s.length), i < j + 1 → mayB d s[i] = true) := hid_intro (fun i h hi => by
              by_cases e : i = j
              · subst e; exact hmb
              · exact HA.out i h (by omega))
            rw [hmb] at HC
            clear hmb HA HE2
            go_wp2_with fail
            refine (HC.out _ (vb_a (Below.refl _ _) _)).mono ?_; rintro r' w3 ⟨rfl, hb3⟩
            have HB := hid_intro (vb_t HZ.out (vb_t (vb_a (Below.refl _ _) _) hb3))
            clear hb3
            go_wp2_with fail
            go_roundg (s.length - (j + 1))
            case measure => omega
            case rel => exact ⟨j + 1, by omega, rfl, by simp, HA2, HB⟩
        · have hJ : ¬ (j : Int) < (s.length : Int) := by omega
          have HF : Hid (mayB (d + 1) (.mk k r lo hi z s) = true) := hid_intro (by
            rw [HE2.out, List.all_eq_true]
            intro x hx
            obtain ⟨i, hi, rfl⟩ := List.getElem_of_mem hx
            exact HA.out i hi (by omega))
          clear HL HI HA HE2
          go_wp2_with fail
          rw [HP.out, HF.out]
          exact ⟨rfl, vb_t HX.out HZ.out⟩
set_option maxRecDepth 100000 in
set_option maxHeartbeats 800000 in
theorem check_any (t : RX) (f : Nat → Value) (w : World) (X : Nat → Prop) (hbd : BdX 1099511627776 t) (hv : XI w X t f) :
    Calls Tryz.prog 41 #[xa f] w fun r' w' => r' = .returned (.int .i64 (if rightB 1000 t = true then 0 else 91)) ∧ Below w.heap.size w w' := by
  obtain ⟨k, a, n, c, lo, hi, z, a', n', c', e0, e1, e2, e3, e4, e5⟩ := hv.six
  have exa : xa f = .agg #[.int .i64 k, .slice a n c, .int .i64 lo, .int .i64 hi, .bool z, .slice a' n' c'] := by unfold xa; rw [e0, e1, e2, e3, e4, e5]
  have hm := may_any 1000 (by omega) t f _ X hbd (hv.kept (vb_a (Below.refl w.heap.size w) (.cells #[.int .i64 k, .slice a n c, .int .i64 lo, .int .i64 hi, .bool z, .slice a' n' c'] 31)))
  rw [may_right, exa] at hm
  rw [exa]
  obtain ⟨P, hP⟩ : ∃ P : Ending → World → Prop, P = fun r' w' => r' = .returned (.int .i64 (if rightB 1000 t = true then 0 else 91)) ∧ Below w.heap.size w w' := ⟨_, rfl⟩
  rw [← hP]
  have HP := hid_intro hP
  clear hP hv exa e0 e1 e2 e3 e4 e5 hbd
  cases hb : rightB 1000 t
  all_goals
    rw [hb] at hm HP
    clear hb
    go_enter Tryz.func41, Tryz.ntmps41
    go_wp2_with fail
    refine hm.mono ?_; rintro r' w1 ⟨rfl, hb1⟩
    have HB := hid_intro (vb_t (vb_a (Below.refl _ _) _) hb1)
    clear hb1
    go_wp2_with fail
    rw [HP.out]
    exact ⟨rfl, HB.out⟩
end Go.Proofs.YtoinlmfodmgohaaGreatDoor

namespace Go.Proofs.YtoinlmfodmgohaaGreatDoor
open Go.RowKit
attribute [local go_sem] setCell_drewN alloc_drewN

end Go.Proofs.YtoinlmfodmgohaaGreatDoor

namespace Go.Proofs.YtoinlmfodmgohaaGreatDoor
open Go.RowKit
attribute [local go_sem] setCell_drewN alloc_drewN

theorem headB_no {k : Int} {r : List (Int × Int)} {lo hi : Int} {z : Bool} (h : (k ≠ 2 ∧ r.length > 0) ∨ (k ≠ 5 ∧ (lo ≠ 0 ∨ hi ≠ 0 ∨ z = true))) : headB k r lo hi z = false := by
  unfold headB
  rcases h with ⟨h1, h2⟩ | ⟨h1, h2⟩
  · rw [decide_eq_true h1, decide_eq_true h2]; rfl
  · rw [decide_eq_true h1]
    rcases h2 with h2 | h2 | h2
    · rw [decide_eq_true h2]; simp
    · rw [decide_eq_true h2]; simp
    · rw [h2]; simp
theorem headB_yes {k : Int} {r : List (Int × Int)} {lo hi : Int} {z : Bool} (h : (k = 2 ∨ r.length = 0) ∧ (k = 5 ∨ (lo = 0 ∧ hi = 0 ∧ z = false))) : headB k r lo hi z = rgB r := by
  unfold headB
  obtain ⟨h1, h2⟩ := h
  have e1 : (decide (k ≠ 2) && decide (r.length > 0)) = false := by
    rcases h1 with h | h
    · rw [decide_eq_false (by simpa using h)]; rfl
    · rw [decide_eq_false (by omega : ¬ r.length > 0)]; simp
  have e2 : (decide (k ≠ 5) && (decide (lo ≠ 0) || decide (hi ≠ 0) || z)) = false := by
    rcases h2 with h | ⟨h, h', h''⟩
    · rw [decide_eq_false (by simpa using h)]; rfl
    · rw [decide_eq_false (show ¬ lo ≠ 0 by simpa using h), decide_eq_false (show ¬ hi ≠ 0 by simpa using h'), h'']; simp
  rw [e1, e2]; simp
theorem kindB_34 {k : Int} (hk : k = 3 ∨ k = 4) (lo hi : Int) (n : Nat) : kindB k lo hi n = !decide (n < 2) := if_pos hk
theorem kindB_5 (lo hi : Int) (n : Nat) : kindB 5 lo hi n = !(decide (n ≠ 1) || decide (lo < 0) || decide (lo > 1000) || decide (hi < -1) || decide (hi > 1000) || (decide (hi ≥ 0) && decide (hi < lo))) := rfl
theorem kindB_1 {k : Int} (hk : k = 2 ∨ k = 1 ∨ k = 6 ∨ k = 7 ∨ k = 8 ∨ k = 9) (lo hi : Int) (n : Nat) : kindB k lo hi n = !decide (n > 0) := by
  unfold kindB; rw [if_neg (by omega), if_neg (by omega), if_pos hk]
theorem kindB_no {k : Int} (h3 : ¬ (k = 3 ∨ k = 4)) (h5 : ¬ k = 5) (h1 : ¬ (k = 2 ∨ k = 1 ∨ k = 6 ∨ k = 7 ∨ k = 8 ∨ k = 9)) (lo hi : Int) (n : Nat) : kindB k lo hi n = false := by
  unfold kindB; rw [if_neg h3, if_neg h5, if_neg h1]

end Go.Proofs.YtoinlmfodmgohaaGreatDoor

namespace Go.Proofs.YtoinlmfodmgohaaGreatDoor
open Go.RowKit
attribute [local go_sem] setCell_drewN alloc_drewN

theorem right_set (r : List (Int × Int)) : rightB 1000 (.mk 2 r 0 0 false []) = rgB r := by
  show (headB 2 r 0 0 false && kindB 2 0 0 ([] : List RX).length && ([] : List RX).all (rightB 999)) = _
  rw [headB_yes ⟨Or.inl rfl, Or.inr ⟨rfl, rfl, rfl⟩⟩, kindB_1 (Or.inl rfl)]
  simp
theorem xi_set1 (w : World) (X : Nat → Prop) (l : List (Int × Int)) (v : Value) (h : RI w X l v) : XI w X (.mk 2 l 0 0 false []) (fun i => [Value.int .i64 2, v, .int .i64 0, .int .i64 0, .bool false, .slice none 0 0].getD i .nilIface) :=
  XI.mk none 0 (fun _ _ => .nilIface) rfl h rfl rfl rfl rfl ⟨Nat.le_refl _, by unfold maxLen; omega⟩ ⟨I64_of (by omega) (by omega), I64_of (by omega) (by omega), I64_of (by omega) (by omega)⟩ (Or.inl rfl) (fun i hi => by simp at hi)
set_option maxRecDepth 100000 in
theorem nfaSet_any (r : List (Int × Int)) (v : Value) (w : World) (X : Nat → Prop) (hR : RI w X r v) (hl : r.length ≤ 1099511627776) :
    Calls Tryz.prog 117 #[v] w fun e w' => e = .returned (.bool (rgB r)) ∧ Below w.heap.size w w' := by
  have hck := check_any _ _ w X (BdX.mk hl (by simp) (fun c hc => by simp at hc)) (xi_set1 w X r v hR)
  have e2 : xa (fun i => [Value.int .i64 2, v, .int .i64 0, .int .i64 0, .bool false, .slice none 0 0].getD i .nilIface) = .agg #[.int .i64 2, v, .int .i64 0, .int .i64 0, .bool false, .slice none 0 0] := rfl
  rw [e2, right_set] at hck
  obtain ⟨ao, cc, rfl, _⟩ := hR.shape
  clear e2 hR hl
  generalize rgB r = gb at *
  cases gb
  all_goals
    go_enter Tryz.func117, Tryz.ntmps117
    go_wp2_with fail
    refine hck.mono ?_; rintro e w1 ⟨rfl, hb1⟩
    go_wp2_with fail
    go_ret
    exact ⟨rfl, hb1⟩
/-- Is a number a state's? -/
def inB (a n : Int) : Bool := decide (0 ≤ a) && decide (a < n)
set_option maxRecDepth 100000 in
theorem isState_any (a n : Int) (q : Nat) (w : World) (hc : w.cell? ⟨q, 0, none⟩ = some (.int .i64 n)) :
    Calls Tryz.prog 116 #[.int .i64 a, .pointer (some ⟨q, 0, none⟩)] w fun e w' => e = .returned (.bool (inB a n)) ∧ Below w.heap.size w w' := by
  by_cases h1 : 0 ≤ a
  · have e : inB a n = decide (a < n) := by unfold inB; rw [decide_eq_true h1]; rfl
    rw [e]
    go_enter Tryz.func116, Tryz.ntmps116
    go_wp2_with fail
    go_ret
    exact ⟨rfl, Below.refl _ _⟩
  · have e : inB a n = false := by unfold inB; rw [decide_eq_false h1]; rfl
    rw [e]
    go_enter Tryz.func116, Tryz.ntmps116
    go_wp2_with fail
    go_ret
    exact ⟨rfl, Below.refl _ _⟩
/-- May a state be one of n? -/
def stB (n : Int) (s : ST) : Bool :=
  if s.k = 1 then inB s.a n && decide (s.b = 0) && rgB s.r
  else if s.k = 2 then inB s.a n && inB s.b n && decide (s.r.length = 0)
  else if s.k = 3 ∨ s.k = 4 ∨ s.k = 5 ∨ s.k = 6 then inB s.a n && decide (s.b = 0) && decide (s.r.length = 0)
  else if s.k = 7 then decide (s.a = 0) && decide (s.b = 0) && decide (s.r.length = 0)
  else false
theorem stB_3 {k : Int} (hk : k = 3 ∨ k = 4 ∨ k = 5 ∨ k = 6) (n : Int) (r : List (Int × Int)) (a b : Int) : stB n ⟨k, r, a, b⟩ = (inB a n && decide (b = 0) && decide (r.length = 0)) := by
  unfold stB; dsimp only; rw [if_neg (by omega), if_neg (by omega), if_pos hk]
theorem stB_no {k : Int} (h1 : ¬ k = 1) (h2 : ¬ k = 2) (h3 : ¬ (k = 3 ∨ k = 4 ∨ k = 5 ∨ k = 6)) (h7 : ¬ k = 7) (n : Int) (r : List (Int × Int)) (a b : Int) : stB n ⟨k, r, a, b⟩ = false := by
  unfold stB; dsimp only; rw [if_neg h1, if_neg h2, if_neg h3, if_neg h7]
set_option maxRecDepth 100000 in
set_option maxHeartbeats 6400000 in
theorem mayS_any (k : Int) (r : List (Int × Int)) (v : Option Addr) (c : Nat) (a b : Int) (n : Int) (w : World) (X : Nat → Prop) (hR : RI w X r (.slice v r.length c)) (hl : r.length ≤ 1099511627776) :
    Calls Tryz.prog 85 #[.agg #[.int .i64 k, .slice v r.length c, .int .i64 a, .int .i64 b], .int .i64 n] w fun e w' => e = .returned (.bool (stB n ⟨k, r, a, b⟩)) ∧ Below w.heap.size w w' := by
  obtain ⟨P, hP⟩ : ∃ P : Ending → World → Prop, P = fun e w' => e = .returned (.bool (stB n ⟨k, r, a, b⟩)) ∧ Below w.heap.size w w' := ⟨_, rfl⟩
  rw [← hP]
  have HP := hid_intro hP
  clear hP
  have HIS := hid_intro (fun w' (hb : Below w.heap.size w w') => nfaSet_any r (.slice v r.length c) w' X (hR.kept hb) hl)
  have hmf : ∀ (fn : Fn) (first cap : Array Value) (w : World), (Instr.makeFunc fn first cap).run Tryz.prog w = .ok (.func fn first cap) w := fun _ _ _ _ => rfl
  clear hR hl
  have h1 : k = 1 → stB n ⟨k, r, a, b⟩ = (inB a n && decide (b = 0) && rgB r) := fun e => by subst e; rfl
  have h2 : k = 2 → stB n ⟨k, r, a, b⟩ = (inB a n && inB b n && decide (r.length = 0)) := fun e => by subst e; rfl
  have h3 : (k = 3 ∨ k = 4 ∨ k = 5 ∨ k = 6) → stB n ⟨k, r, a, b⟩ = (inB a n && decide (b = 0) && decide (r.length = 0)) := fun e => stB_3 e _ _ _ _
  have h7 : k = 7 → stB n ⟨k, r, a, b⟩ = (decide (a = 0) && decide (b = 0) && decide (r.length = 0)) := fun e => by subst e; rfl
  have h0 : ¬ k = 1 → ¬ k = 2 → ¬ (k = 3 ∨ k = 4 ∨ k = 5 ∨ k = 6) → ¬ k = 7 → stB n ⟨k, r, a, b⟩ = false := fun x1 x2 x3 x7 => stB_no x1 x2 x3 x7 _ _ _ _
  generalize stB n ⟨k, r, a, b⟩ = ob at *
  generalize rgB r = gb at *
  generalize r.length = m at *
  obtain ⟨W, hW⟩ : ∃ W, (w.alloc (.cells #[.int .i64 k, .slice v m c, .int .i64 a, .int .i64 b] 94)).alloc (.cells #[.int .i64 n] 3) = W := ⟨_, rfl⟩
  have hbW : Below w.heap.size w W := hW ▸ vb_a (vb_a (Below.refl _ _) _) _
  have kX : Bk W w.heap.size #[.int .i64 k, .slice v m c, .int .i64 a, .int .i64 b] := hW ▸ (Bk.new _ _ _).al _
  have kN : Bk W (w.heap.size + 1) #[.int .i64 n] := hW ▸ Bk.new' _ _ _ _ (by simp)
  have HW := hid_intro hW
  have HBW := hid_intro hbW
  have HK := hid_intro (And.intro kX kN)
  have HST := hid_intro (fun (x : Int) w' (hb : Below W.heap.size W w') => isState_any x n (w.heap.size + 1) w' ((kN.bel hb).cell 0))
  clear hW hbW kX kN
  by_cases k1 : k = 1
  · have hO := h1 k1
    subst k1
    clear h1 h2 h3 h7 h0
    generalize hi1 : inB a n = i1 at hO
    have hs1 := HST.out a _ (Below.refl _ _)
    rw [hi1] at hs1
    clear hi1
    cases i1
    · have HE : Hid (ob = false) := hid_intro (by rw [hO]; simp)
      clear hO
      go_enter Tryz.func85, Tryz.ntmps85
      go_wp2_with fail
      rw [HW.out]
      refine hs1.mono ?_; rintro e u1 ⟨rfl, hb1⟩
      have HB1 := hid_intro (vb_t (Below.refl _ _) hb1)
      clear hb1
      go_wp2_with fail
      rw [HP.out, HE.out]
      first | exact ⟨rfl, vb_t HBW.out HB1.out⟩ | exact ⟨ret_bool (by simp; omega), vb_t HBW.out HB1.out⟩
    · rw [Bool.true_and] at hO
      go_enter Tryz.func85, Tryz.ntmps85
      go_wp2_with fail
      rw [HW.out]
      refine hs1.mono ?_; rintro e u1 ⟨rfl, hb1⟩
      have HB1 := hid_intro (vb_t (Below.refl _ _) hb1)
      clear hb1
      obtain ⟨kx, kn⟩ := HK.out
      have x0 := (kx.bel HB1.out).cell 0
      have x1 := (kx.bel HB1.out).cell 1
      have x2 := (kx.bel HB1.out).cell 2
      have x3 := (kx.bel HB1.out).cell 3
      clear kx kn
      by_cases q2 : b = 0
      · rw [decide_eq_true q2] at hO
        have hs3 := HIS.out _ (vb_t HBW.out HB1.out)
        cases gb
        · have HE : Hid (ob = false) := hid_intro (by rw [hO]; simp)
          clear hO
          go_wp2_with fail
          refine hs3.mono ?_; rintro e u3 ⟨rfl, hb3⟩
          have HB3 := hid_intro (vb_t HB1.out hb3)
          clear hb3
          go_wp2_with fail
          rw [HP.out, HE.out]
          first | exact ⟨rfl, vb_t HBW.out HB3.out⟩ | exact ⟨ret_bool (by simp; omega), vb_t HBW.out HB3.out⟩
        · have HE : Hid (ob = true) := hid_intro (by rw [hO]; simp)
          clear hO
          go_wp2_with fail
          refine hs3.mono ?_; rintro e u3 ⟨rfl, hb3⟩
          have HB3 := hid_intro (vb_t HB1.out hb3)
          clear hb3
          go_wp2_with fail
          rw [HP.out, HE.out]
          first | exact ⟨rfl, vb_t HBW.out HB3.out⟩ | exact ⟨ret_bool (by simp; omega), vb_t HBW.out HB3.out⟩
      · have HE : Hid (ob = false) := hid_intro (by rw [hO, decide_eq_false q2]; simp)
        clear hO
        go_wp2_with fail
        rw [HP.out, HE.out]
        first | exact ⟨rfl, vb_t HBW.out HB1.out⟩ | exact ⟨ret_bool (by simp; omega), vb_t HBW.out HB1.out⟩
  · by_cases k2 : k = 2
    · have hO := h2 k2
      subst k2
      clear h1 h2 h3 h7 h0 HIS k1
      generalize hi1 : inB a n = i1 at hO
      have hs1 := HST.out a _ (Below.refl _ _)
      rw [hi1] at hs1
      clear hi1
      cases i1
      · have HE : Hid (ob = false) := hid_intro (by rw [hO]; simp)
        clear hO
        go_enter Tryz.func85, Tryz.ntmps85
        go_wp2_with fail
        rw [HW.out]
        refine hs1.mono ?_; rintro e u1 ⟨rfl, hb1⟩
        have HB1 := hid_intro (vb_t (Below.refl _ _) hb1)
        clear hb1
        go_wp2_with fail
        rw [HP.out, HE.out]
        first | exact ⟨rfl, vb_t HBW.out HB1.out⟩ | exact ⟨ret_bool (by simp; omega), vb_t HBW.out HB1.out⟩
      · rw [Bool.true_and] at hO
        go_enter Tryz.func85, Tryz.ntmps85
        go_wp2_with fail
        rw [HW.out]
        refine hs1.mono ?_; rintro e u1 ⟨rfl, hb1⟩
        have HB1 := hid_intro (vb_t (Below.refl _ _) hb1)
        clear hb1
        obtain ⟨kx, kn⟩ := HK.out
        have x0 := (kx.bel HB1.out).cell 0
        have x1 := (kx.bel HB1.out).cell 1
        have x2 := (kx.bel HB1.out).cell 2
        have x3 := (kx.bel HB1.out).cell 3
        clear kx kn
        generalize hi2 : inB b n = i2 at hO
        have hs2 := HST.out b _ HB1.out
        rw [hi2] at hs2
        clear hi2
        cases i2
        · have HE : Hid (ob = false) := hid_intro (by rw [hO]; simp)
          clear hO
          go_wp2_with fail
          refine hs2.mono ?_; rintro e u2 ⟨rfl, hb2⟩
          have HB2 := hid_intro (vb_t HB1.out hb2)
          clear hb2
          go_wp2_with fail
          rw [HP.out, HE.out]
          first | exact ⟨rfl, vb_t HBW.out HB2.out⟩ | exact ⟨ret_bool (by simp; omega), vb_t HBW.out HB2.out⟩
        · go_wp2_with fail
          refine hs2.mono ?_; rintro e u2 ⟨rfl, hb2⟩
          have HB2 := hid_intro (vb_t HB1.out hb2)
          clear hb2
          clear x0 x1 x2 x3
          obtain ⟨kx, kn⟩ := HK.out
          have x0 := (kx.bel HB2.out).cell 0
          have x1 := (kx.bel HB2.out).cell 1
          have x2 := (kx.bel HB2.out).cell 2
          have x3 := (kx.bel HB2.out).cell 3
          clear kx kn
          by_cases q3 : m = 0
          · rw [decide_eq_true q3] at hO
            have qi3 : (m : Int) = 0 := by omega
            clear q3
            have HE : Hid (ob = true) := hid_intro (by rw [hO]; simp)
            clear hO
            go_wp2_with fail
            rw [HP.out, HE.out]
            first | exact ⟨rfl, vb_t HBW.out HB2.out⟩ | exact ⟨ret_bool (by simp; omega), vb_t HBW.out HB2.out⟩
          · have HE : Hid (ob = false) := hid_intro (by rw [hO, decide_eq_false q3]; simp)
            have qi3 : ¬ (m : Int) = 0 := by omega
            clear hO q3
            go_wp2_with fail
            rw [HP.out, HE.out]
            first | exact ⟨rfl, vb_t HBW.out HB2.out⟩ | exact ⟨ret_bool (by simp; omega), vb_t HBW.out HB2.out⟩
    · by_cases k3 : k = 3 ∨ k = 4 ∨ k = 5 ∨ k = 6
      · have hO := h3 k3
        clear h1 h2 h3 h7 h0 HIS k1 k2
        rcases k3 with rfl | rfl | rfl | rfl
        all_goals
          generalize hi1 : inB a n = i1 at hO
          have hs1 := HST.out a _ (Below.refl _ _)
          rw [hi1] at hs1
          clear hi1
          cases i1
          · have HE : Hid (ob = false) := hid_intro (by rw [hO]; simp)
            clear hO
            go_enter Tryz.func85, Tryz.ntmps85
            go_wp2_with fail
            rw [HW.out]
            refine hs1.mono ?_; rintro e u1 ⟨rfl, hb1⟩
            have HB1 := hid_intro (vb_t (Below.refl _ _) hb1)
            clear hb1
            go_wp2_with fail
            rw [HP.out, HE.out]
            first | exact ⟨rfl, vb_t HBW.out HB1.out⟩ | exact ⟨ret_bool (by simp; omega), vb_t HBW.out HB1.out⟩
          · rw [Bool.true_and] at hO
            go_enter Tryz.func85, Tryz.ntmps85
            go_wp2_with fail
            rw [HW.out]
            refine hs1.mono ?_; rintro e u1 ⟨rfl, hb1⟩
            have HB1 := hid_intro (vb_t (Below.refl _ _) hb1)
            clear hb1
            obtain ⟨kx, kn⟩ := HK.out
            have x0 := (kx.bel HB1.out).cell 0
            have x1 := (kx.bel HB1.out).cell 1
            have x2 := (kx.bel HB1.out).cell 2
            have x3 := (kx.bel HB1.out).cell 3
            clear kx kn
            by_cases q2 : b = 0
            · rw [decide_eq_true q2] at hO
              by_cases q3 : m = 0
              · rw [decide_eq_true q3] at hO
                have qi3 : (m : Int) = 0 := by omega
                clear q3
                have HE : Hid (ob = true) := hid_intro (by rw [hO]; simp)
                clear hO
                go_wp2_with fail
                rw [HP.out, HE.out]
                first | exact ⟨rfl, vb_t HBW.out HB1.out⟩ | exact ⟨ret_bool (by simp; omega), vb_t HBW.out HB1.out⟩
              · have HE : Hid (ob = false) := hid_intro (by rw [hO, decide_eq_false q3]; simp)
                have qi3 : ¬ (m : Int) = 0 := by omega
                clear hO q3
                go_wp2_with fail
                rw [HP.out, HE.out]
                first | exact ⟨rfl, vb_t HBW.out HB1.out⟩ | exact ⟨ret_bool (by simp; omega), vb_t HBW.out HB1.out⟩
            · have HE : Hid (ob = false) := hid_intro (by rw [hO, decide_eq_false q2]; simp)
              clear hO
              go_wp2_with fail
              rw [HP.out, HE.out]
              first | exact ⟨rfl, vb_t HBW.out HB1.out⟩ | exact ⟨ret_bool (by simp; omega), vb_t HBW.out HB1.out⟩
      · by_cases k7 : k = 7
        · have hO := h7 k7
          subst k7
          clear h1 h2 h3 h7 h0 HIS k1 k2 k3
          by_cases q1 : a = 0
          · rw [decide_eq_true q1] at hO
            by_cases q2 : b = 0
            · rw [decide_eq_true q2] at hO
              by_cases q3 : m = 0
              · rw [decide_eq_true q3] at hO
                have qi3 : (m : Int) = 0 := by omega
                clear q3
                have HE : Hid (ob = true) := hid_intro (by rw [hO]; simp)
                clear hO
                go_enter Tryz.func85, Tryz.ntmps85
                go_wp2_with fail
                rw [HP.out, HE.out]
                first | exact ⟨rfl, (by with_reducible repeat (first | exact Below.refl _ _ | refine vb_a ?_ _))⟩ | exact ⟨ret_bool (by simp; omega), (by with_reducible repeat (first | exact Below.refl _ _ | refine vb_a ?_ _))⟩
              · have HE : Hid (ob = false) := hid_intro (by rw [hO, decide_eq_false q3]; simp)
                have qi3 : ¬ (m : Int) = 0 := by omega
                clear hO q3
                go_enter Tryz.func85, Tryz.ntmps85
                go_wp2_with fail
                rw [HP.out, HE.out]
                first | exact ⟨rfl, (by with_reducible repeat (first | exact Below.refl _ _ | refine vb_a ?_ _))⟩ | exact ⟨ret_bool (by simp; omega), (by with_reducible repeat (first | exact Below.refl _ _ | refine vb_a ?_ _))⟩
            · have HE : Hid (ob = false) := hid_intro (by rw [hO, decide_eq_false q2]; simp)
              clear hO
              go_enter Tryz.func85, Tryz.ntmps85
              go_wp2_with fail
              rw [HP.out, HE.out]
              first | exact ⟨rfl, (by with_reducible repeat (first | exact Below.refl _ _ | refine vb_a ?_ _))⟩ | exact ⟨ret_bool (by simp; omega), (by with_reducible repeat (first | exact Below.refl _ _ | refine vb_a ?_ _))⟩
          · have HE : Hid (ob = false) := hid_intro (by rw [hO, decide_eq_false q1]; simp)
            clear hO
            go_enter Tryz.func85, Tryz.ntmps85
            go_wp2_with fail
            rw [HP.out, HE.out]
            first | exact ⟨rfl, (by with_reducible repeat (first | exact Below.refl _ _ | refine vb_a ?_ _))⟩ | exact ⟨ret_bool (by simp; omega), (by with_reducible repeat (first | exact Below.refl _ _ | refine vb_a ?_ _))⟩
        · have HE := hid_intro (h0 k1 k2 k3 k7)
          have q3 : ¬ k = 3 := by omega
          have q4 : ¬ k = 4 := by omega
          have q5 : ¬ k = 5 := by omega
          have q6 : ¬ k = 6 := by omega
          clear h1 h2 h3 h7 h0 HIS k3
          go_enter Tryz.func85, Tryz.ntmps85
          go_wp2_with fail
          rw [HP.out, HE.out]
          first | exact ⟨rfl, (by with_reducible repeat (first | exact Below.refl _ _ | refine vb_a ?_ _))⟩ | exact ⟨ret_bool (by simp; omega), (by with_reducible repeat (first | exact Below.refl _ _ | refine vb_a ?_ _))⟩
end Go.Proofs.YtoinlmfodmgohaaGreatDoor

namespace Go.Proofs.YtoinlmfodmgohaaGreatDoor
open Go.RowKit
attribute [local go_sem] setCell_drewN alloc_drewN

/-- May the states be? -/
def nfaB (l : List ST) : Bool := decide (l.length ≠ 0) && l.all (stB (l.length : Int))
theorem stB_at {l : List ST} {i : Nat} : sa l i = ⟨(sa l i).k, (sa l i).r, (sa l i).a, (sa l i).b⟩ := rfl
set_option maxRecDepth 100000 in
set_option maxHeartbeats 3200000 in
theorem nfaCheck_any (l : List ST) (v : Value) (w : World) (X : Nat → Prop) (hR : SI w X l v) (hl : ∀ s ∈ l, s.r.length ≤ 1099511627776) :
    Calls Tryz.prog 55 #[v] w fun e w' => e = .returned (.int .i64 (if nfaB l = true then 0 else 101)) ∧ Below w.heap.size w w' := by
  have hR0 := hR
  obtain ⟨ao, cap, rfl, hc, hcm, hok, hlie⟩ := hR
  have hlI : (l.length : Int) ≤ 9223372036854775807 := by unfold maxLen at hcm; omega
  obtain ⟨P, hP⟩ : ∃ P : Ending → World → Prop, P = fun e w' => e = .returned (.int .i64 (if nfaB l = true then 0 else 101)) ∧ Below w.heap.size w w' := ⟨_, rfl⟩
  rw [← hP]
  have HP := hid_intro hP
  clear hP
  by_cases h0 : l.length = 0
  · have HE : Hid (nfaB l = false) := hid_intro (by unfold nfaB; rw [decide_eq_false (by simpa using h0)]; rfl)
    have hI : (l.length : Int) = 0 := by omega
    clear hlie hR0 hok hl h0
    go_enter Tryz.func55, Tryz.ntmps55
    go_wp2_with fail
    rw [HP.out, HE.out]
    exact ⟨rfl, Below.refl _ _⟩
  · have hI0 : ((l.length : Int) == 0) = false := by rw [beq_eq_false_iff_ne]; omega
    have HE : Hid (nfaB l = l.all (stB (l.length : Int))) := hid_intro (by unfold nfaB; rw [decide_eq_true h0]; rfl)
    have HL : Hid (∀ w' i, Below w.heap.size w w' → i < l.length → ∃ b off v2 c2, ao = some ⟨b, off, none⟩ ∧ w'.cell? ⟨b, off + i * 4, none⟩ = some (.int .i64 (sa l i).k) ∧ w'.cell? ⟨b, off + i * 4 + 1, none⟩ = some (.slice v2 (sa l i).r.length c2) ∧ w'.cell? ⟨b, off + i * 4 + 2, none⟩ = some (.int .i64 (sa l i).a) ∧ w'.cell? ⟨b, off + i * 4 + 3, none⟩ = some (.int .i64 (sa l i).b) ∧ RI w' X (sa l i).r (.slice v2 (sa l i).r.length c2)) := hid_intro (fun w' i hb hi => by
      obtain ⟨ao', cap', e, _, _, _, hlie'⟩ := hR0.kept hb
      injection e with e1 _ e3
      rcases hlie' with h | ⟨b, off, G, h1, h2, h3⟩
      · rw [h] at hi; simp at hi
      · obtain ⟨⟨q0, q1, q2, q3⟩, hRi⟩ := h3 i hi
        obtain ⟨v2, c2, e2, _⟩ := hRi.shape
        rw [e2] at q1 hRi
        exact ⟨b, off, v2, c2, e1.trans h1, q0, q1, q2, q3, hRi⟩)
    have HM := hid_intro hl
    clear hlie hR0 hok hl h0
    go_enter Tryz.func55, Tryz.ntmps55
    go_wp2_with fail
    go_loopg [10] l.length (fun m s10 wr => ∃ j : Nat, j ≤ l.length ∧ m = l.length - j ∧ s10 = .int .i64 (j : Int) ∧ Hid (∀ i, i < j → stB (l.length : Int) (sa l i) = true) ∧ Hid (Below w.heap.size w wr))
    case atStart => exact ⟨0, Nat.zero_le _, rfl, rfl, fun i h => absurd h (by omega), Below.refl _ _⟩
    case round =>
      obtain ⟨j, hj, rfl, rfl, HA, HZ⟩ := hrel
      by_cases hlt : j < l.length
      · have hJ : (j : Int) < (l.length : Int) := by omega
        obtain ⟨b, off, v2, c2, rfl, q0, q1, q2, q3, hRi⟩ := HL.out wr j HZ.out hlt
        have hmb := fun w' (hb : Below wr.heap.size wr w') => mayS_any (sa l j).k (sa l j).r v2 c2 (sa l j).a (sa l j).b (l.length : Int) w' X (hRi.kept hb) (HM.out _ (sa_mem hlt))
        have HC := hid_intro hmb
        clear hmb hRi HL HM
        have HSB : Hid (stB (l.length : Int) ⟨(sa l j).k, (sa l j).r, (sa l j).a, (sa l j).b⟩ = stB (l.length : Int) (sa l j)) := hid_intro rfl
        have HNO : Hid (stB (l.length : Int) (sa l j) = false → nfaB l = false) := hid_intro (fun h => by
          rw [HE.out, List.all_eq_false]; exact ⟨sa l j, sa_mem hlt, by rw [h]; decide⟩)
        have HYES : Hid (stB (l.length : Int) (sa l j) = true → ∀ i, i < j + 1 → stB (l.length : Int) (sa l i) = true) := hid_intro (fun h i hi => by
          by_cases e : i = j
          · rw [e]; exact h
          · exact HA.out i (by omega))
        rw [HSB.out] at HC
        generalize stB (l.length : Int) (sa l j) = sb at HC HNO HYES
        clear HSB
        generalize (sa l j).k = K at *
        generalize (sa l j).r.length = R at *
        generalize (sa l j).a = A at *
        generalize (sa l j).b = B at *
        cases sb
        · have HF := hid_intro (HNO.out rfl)
          clear HNO HYES HA HE
          go_wp2_with fail
          refine (HC.out _ (vb_a (Below.refl _ _) _)).mono ?_; rintro e w3 ⟨rfl, hb3⟩
          have HB := hid_intro (vb_t HZ.out (vb_t (vb_a (Below.refl _ _) _) hb3))
          clear hb3
          go_wp2_with fail
          rw [HP.out, HF.out]
          exact ⟨rfl, HB.out⟩
        · have HA2 := hid_intro (HYES.out rfl)
          clear HNO HYES HA HE
          go_wp2_with fail
          refine (HC.out _ (vb_a (Below.refl _ _) _)).mono ?_; rintro e w3 ⟨rfl, hb3⟩
          have HB := hid_intro (vb_t HZ.out (vb_t (vb_a (Below.refl _ _) _) hb3))
          clear hb3
          go_wp2_with fail
          go_roundg (l.length - (j + 1))
          case measure => omega
          case rel => exact ⟨j + 1, by omega, rfl, by simp, HA2, HB⟩
      · have hJ : ¬ (j : Int) < (l.length : Int) := by omega
        have HF : Hid (nfaB l = true) := hid_intro (by
          rw [HE.out, List.all_eq_true]
          intro x hx
          obtain ⟨i, hi, rfl⟩ := List.getElem_of_mem hx
          rw [← sa_get hi]
          exact HA.out i (by omega))
        clear HL HM HA HE
        go_wp2_with fail
        rw [HP.out, HF.out]
        exact ⟨rfl, HZ.out⟩
end Go.Proofs.YtoinlmfodmgohaaGreatDoor
