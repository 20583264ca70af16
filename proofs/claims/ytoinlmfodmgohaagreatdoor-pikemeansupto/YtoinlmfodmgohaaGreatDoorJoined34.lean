/-
  A right tree, compiled. Conditions: there is room; nothing in the tree is longer than 2^20.
  A list of states made, and its states read as a row. No condition.
  The automaton of a choice of two sets. Conditions: at most 2^40 ranges each.
-/
import Derived.Test.YtoinlmfodmgohaaGreatDoorJoined33
import Derived.Test.YtoinlmfodmgohaaGreatDoorJoined27
import Derived.Deep.Strs
namespace Go.Proofs.YtoinlmfodmgohaaGreatDoor
open Go.RowKit
attribute [local go_sem] setCell_drewN alloc_drewN

theorem kinds_of {d : Nat} {k : Int} {r : List (Int × Int)} {lo hi : Int} {z : Bool} {s : List RX} (hr : rightB d (.mk k r lo hi z s) = true) : k = 1 ∨ k = 2 ∨ k = 3 ∨ k = 4 ∨ k = 5 ∨ k = 6 ∨ k = 7 ∨ k = 8 ∨ k = 9 := by
  cases d with
  | zero => simp [rightB] at hr
  | succ d =>
    simp only [rightB, Bool.and_eq_true] at hr
    have h3 := hr.1.2
    unfold kindB at h3
    by_cases c : k = 1 ∨ k = 2 ∨ k = 3 ∨ k = 4 ∨ k = 5 ∨ k = 6 ∨ k = 7 ∨ k = 8 ∨ k = 9
    · exact c
    · rw [if_neg (by omega), if_neg (by omega), if_neg (by omega)] at h3; cases h3
set_option maxRecDepth 100000 in
set_option maxHeartbeats 6400000 in
theorem part_any (lb sb cap : Nat) : ∀ (t : RX) (d : Nat) (f : Nat → Value) (w : World), rightB d t = true → BdX 1048576 t → XI w (two lb sb) t f → (lb < w.heap.size ∧ sb < w.heap.size) →
    Calls Tryz.prog 51 #[.pointer (some ⟨lb, 0, none⟩), xa f] w fun e w' => ∃ v, e = .returned v ∧ FnOK w' lb sb cap t v ∧ Below w.heap.size w w' := by
  intro t
  induction t using RX.ind with
  | h k r lo hi z s ih =>
    intro d f w hrt hbd hv hlt
    have kk := kinds_of hrt
    obtain ⟨⟨e, rfl, hre⟩, hk4, hk5⟩ := right_parts hrt
    cases hv with
    | mk ao cp G f0 f1 f2 f3 f4 f5 hc hw hl hr =>
    have hPO : PartsOK w lb sb cap s ao cp G := ⟨hl, fun i hi => (hr i hi).six, fun i hi w' hb => ih s[i] (List.getElem_mem hi) e (G i) w' (hre _ (List.getElem_mem hi)) (hbd.s _ (List.getElem_mem hi)) ((hr i hi).but hb (fun _ h => h)) ⟨Nat.lt_of_lt_of_le hlt.1 hb.size, Nat.lt_of_lt_of_le hlt.2 hb.size⟩, hc, fun x hx n => bld_len x e (hre x hx) n⟩
    obtain ⟨a1, c1, e1, _⟩ := f1.shape
    have hR : RI w (two lb sb) r (.slice a1 r.length c1) := e1 ▸ f1
    have exa : xa f = .agg #[.int .i64 k, .slice a1 r.length c1, .int .i64 lo, .int .i64 hi, .bool z, .slice ao s.length cp] := by unfold xa; rw [f0, e1, f2, f3, f4, f5]
    rw [exa]
    obtain ⟨W, hW⟩ : ∃ W, w.alloc (.cells #[.int .i64 k, .slice a1 r.length c1, .int .i64 lo, .int .i64 hi, .bool z, .slice ao s.length cp] 31) = W := ⟨_, rfl⟩
    have hbW : Below w.heap.size w W := hW ▸ vb_a (Below.refl _ _) _
    have hltW : lb < W.heap.size ∧ sb < W.heap.size := ⟨Nat.lt_of_lt_of_le hlt.1 hbW.size, Nat.lt_of_lt_of_le hlt.2 hbW.size⟩
    have HW := hid_intro hW
    have HBW := hid_intro hbW
    clear hW hbW hl hr ih f1 exa f0 f2 f3 f4 f5 e1 hw hrt hc hlt
    by_cases ck : k = 1
    · subst ck
      have HFN : Hid (∀ w', FnOK w' lb sb cap (.mk 1 r lo hi z s) (.func (.func 84) #[] #[])) := hid_intro (fun w' =>
        ⟨_, _, rfl, enters_of Tryz.func84 (by kernel_rfl) rfl, fun w2 Z L hb hl hr => by
          have eb : bld (.mk 1 r lo hi z s) L.length = [] := by rw [bld]; rfl
          rw [eb, List.append_nil]
          exact (part1_any w2).mono fun e w3 ⟨h1, h2⟩ => ⟨h1, hl.below h2, But.ofBelow h2⟩⟩)
      clear hbd hR hPO
      go_enter Tryz.func51, Tryz.ntmps51
      go_wp2_with fail
      go_ret
      rw [HW.out]
      exact ⟨_, rfl, HFN.out _, HBW.out⟩
    · have n9 := ck
      clear ck
      by_cases ck : k = 2
      · subst ck
        have hsg := single_any lb sb 1 r (.slice a1 r.length c1) W hltW (hR.kept HBW.out)
        have HFN : Hid (∀ p q s' w', Cap3 w' lb sb p q s' 1 r → FnOK w' lb sb cap (.mk 2 r lo hi z s) (.func (.func 105) #[] #[.pointer (some ⟨p, 0, none⟩), .pointer (some ⟨q, 0, none⟩), .pointer (some ⟨s', 0, none⟩)])) := hid_intro (fun p q s' w' hc =>
          ⟨_, _, rfl, enters_of Tryz.func105 (by kernel_rfl) rfl, fun w2 Z L hb hl hr => by
            have eb : bld (.mk 2 r lo hi z s) L.length = [⟨1, r, (L.length : Int) + 1, 0⟩] := by rw [bld]; rfl
            have es : szX (.mk 2 r lo hi z s) = 1 := by rw [szX]; rfl
            rw [eb]
            rw [es] at hr
            exact single1Z_any lb sb cap p q s' 1 r Z L w2 hl (hc.but hb) hr (by have := hbd.r; omega)⟩)
        clear hbd hR hPO
        go_enter Tryz.func51, Tryz.ntmps51
        go_wp2_with fail
        rw [HW.out]
        refine hsg.mono ?_; rintro e w2 ⟨p, q, s', rfl, hc, hb2⟩
        have HF := hid_intro (And.intro (HFN.out p q s' w2 hc) (vb_t HBW.out hb2))
        clear hc hb2
        go_wp2_with fail
        go_ret
        exact ⟨_, rfl, HF.out⟩
      · have n8 := ck
        clear ck
        by_cases ck : k = 6
        · subst ck
          have hsg := single_any lb sb 3 [] (.slice none 0 0) W hltW (RI.nil _ _)
          have HFN : Hid (∀ p q s' w', Cap3 w' lb sb p q s' 3 [] → FnOK w' lb sb cap (.mk 6 r lo hi z s) (.func (.func 105) #[] #[.pointer (some ⟨p, 0, none⟩), .pointer (some ⟨q, 0, none⟩), .pointer (some ⟨s', 0, none⟩)])) := hid_intro (fun p q s' w' hc =>
            ⟨_, _, rfl, enters_of Tryz.func105 (by kernel_rfl) rfl, fun w2 Z L hb hl hr => by
              have eb : bld (.mk 6 r lo hi z s) L.length = [⟨3, [], (L.length : Int) + 1, 0⟩] := by rw [bld]; rfl
              have es : szX (.mk 6 r lo hi z s) = 1 := by rw [szX]; rfl
              rw [eb]
              rw [es] at hr
              exact single1Z_any lb sb cap p q s' 3 [] Z L w2 hl (hc.but hb) hr (by simp)⟩)
          clear hbd hR hPO
          go_enter Tryz.func51, Tryz.ntmps51
          go_wp2_with fail
          rw [HW.out]
          refine hsg.mono ?_; rintro e w2 ⟨p, q, s', rfl, hc, hb2⟩
          have HF := hid_intro (And.intro (HFN.out p q s' w2 hc) (vb_t HBW.out hb2))
          clear hc hb2
          go_wp2_with fail
          go_ret
          exact ⟨_, rfl, HF.out⟩
        · have n7 := ck
          clear ck
          by_cases ck : k = 7
          · subst ck
            have hsg := single_any lb sb 4 [] (.slice none 0 0) W hltW (RI.nil _ _)
            have HFN : Hid (∀ p q s' w', Cap3 w' lb sb p q s' 4 [] → FnOK w' lb sb cap (.mk 7 r lo hi z s) (.func (.func 105) #[] #[.pointer (some ⟨p, 0, none⟩), .pointer (some ⟨q, 0, none⟩), .pointer (some ⟨s', 0, none⟩)])) := hid_intro (fun p q s' w' hc =>
              ⟨_, _, rfl, enters_of Tryz.func105 (by kernel_rfl) rfl, fun w2 Z L hb hl hr => by
                have eb : bld (.mk 7 r lo hi z s) L.length = [⟨4, [], (L.length : Int) + 1, 0⟩] := by rw [bld]; rfl
                have es : szX (.mk 7 r lo hi z s) = 1 := by rw [szX]; rfl
                rw [eb]
                rw [es] at hr
                exact single1Z_any lb sb cap p q s' 4 [] Z L w2 hl (hc.but hb) hr (by simp)⟩)
            clear hbd hR hPO
            go_enter Tryz.func51, Tryz.ntmps51
            go_wp2_with fail
            rw [HW.out]
            refine hsg.mono ?_; rintro e w2 ⟨p, q, s', rfl, hc, hb2⟩
            have HF := hid_intro (And.intro (HFN.out p q s' w2 hc) (vb_t HBW.out hb2))
            clear hc hb2
            go_wp2_with fail
            go_ret
            exact ⟨_, rfl, HF.out⟩
          · have n6 := ck
            clear ck
            by_cases ck : k = 8
            · subst ck
              have hsg := single_any lb sb 5 [] (.slice none 0 0) W hltW (RI.nil _ _)
              have HFN : Hid (∀ p q s' w', Cap3 w' lb sb p q s' 5 [] → FnOK w' lb sb cap (.mk 8 r lo hi z s) (.func (.func 105) #[] #[.pointer (some ⟨p, 0, none⟩), .pointer (some ⟨q, 0, none⟩), .pointer (some ⟨s', 0, none⟩)])) := hid_intro (fun p q s' w' hc =>
                ⟨_, _, rfl, enters_of Tryz.func105 (by kernel_rfl) rfl, fun w2 Z L hb hl hr => by
                  have eb : bld (.mk 8 r lo hi z s) L.length = [⟨5, [], (L.length : Int) + 1, 0⟩] := by rw [bld]; rfl
                  have es : szX (.mk 8 r lo hi z s) = 1 := by rw [szX]; rfl
                  rw [eb]
                  rw [es] at hr
                  exact single1Z_any lb sb cap p q s' 5 [] Z L w2 hl (hc.but hb) hr (by simp)⟩)
              clear hbd hR hPO
              go_enter Tryz.func51, Tryz.ntmps51
              go_wp2_with fail
              rw [HW.out]
              refine hsg.mono ?_; rintro e w2 ⟨p, q, s', rfl, hc, hb2⟩
              have HF := hid_intro (And.intro (HFN.out p q s' w2 hc) (vb_t HBW.out hb2))
              clear hc hb2
              go_wp2_with fail
              go_ret
              exact ⟨_, rfl, HF.out⟩
            · have n5 := ck
              clear ck
              by_cases ck : k = 9
              · subst ck
                have hsg := single_any lb sb 6 [] (.slice none 0 0) W hltW (RI.nil _ _)
                have HFN : Hid (∀ p q s' w', Cap3 w' lb sb p q s' 6 [] → FnOK w' lb sb cap (.mk 9 r lo hi z s) (.func (.func 105) #[] #[.pointer (some ⟨p, 0, none⟩), .pointer (some ⟨q, 0, none⟩), .pointer (some ⟨s', 0, none⟩)])) := hid_intro (fun p q s' w' hc =>
                  ⟨_, _, rfl, enters_of Tryz.func105 (by kernel_rfl) rfl, fun w2 Z L hb hl hr => by
                    have eb : bld (.mk 9 r lo hi z s) L.length = [⟨6, [], (L.length : Int) + 1, 0⟩] := by rw [bld]; rfl
                    have es : szX (.mk 9 r lo hi z s) = 1 := by rw [szX]; rfl
                    rw [eb]
                    rw [es] at hr
                    exact single1Z_any lb sb cap p q s' 6 [] Z L w2 hl (hc.but hb) hr (by simp)⟩)
                clear hbd hR hPO
                go_enter Tryz.func51, Tryz.ntmps51
                go_wp2_with fail
                rw [HW.out]
                refine hsg.mono ?_; rintro e w2 ⟨p, q, s', rfl, hc, hb2⟩
                have HF := hid_intro (And.intro (HFN.out p q s' w2 hc) (vb_t HBW.out hb2))
                clear hc hb2
                go_wp2_with fail
                go_ret
                exact ⟨_, rfl, HF.out⟩
              · have n4 := ck
                clear ck
                by_cases ck : k = 3
                · subst ck
                  have hrow := row_any lb sb ao s.length cp W hltW
                  have HFN : Hid (∀ p q w', Below w.heap.size w w' → w'.cell? ⟨p, 0, none⟩ = some (.slice ao s.length cp) → w'.cell? ⟨q, 0, none⟩ = some (.pointer (some ⟨lb, 0, none⟩)) → ¬ two lb sb p → ¬ two lb sb q → FnOK w' lb sb cap (.mk 3 r lo hi z s) (.func (.func 107) #[] #[.pointer (some ⟨p, 0, none⟩), .pointer (some ⟨q, 0, none⟩)])) := hid_intro (fun p q w' hb0 h1 h2 h3 h4 =>
                    ⟨_, _, rfl, enters_of Tryz.func107 (by kernel_rfl) rfl, fun w2 Z L hb hl hr => by
                      rw [bld_3]
                      rw [szX_3] at hr
                      exact row1_any lb sb cap s ao cp G w2 ((hPO.but (But.ofBelow hb0)).but hb) p q Z L (cell_but h1 h3 hb) (cell_but h2 h4 hb) h4 hl hr⟩)
                  clear hbd hR hPO
                  go_enter Tryz.func51, Tryz.ntmps51
                  go_wp2_with fail
                  rw [HW.out]
                  refine hrow.mono ?_; rintro e w2 ⟨p, q, rfl, h1, h2, h3, h4, hb2⟩
                  have HF := hid_intro (And.intro (HFN.out p q w2 (vb_t HBW.out hb2) h1 h2 h3 h4) (vb_t HBW.out hb2))
                  clear h1 h2 h3 h4 hb2 hrow
                  go_wp2_with fail
                  go_ret
                  exact ⟨_, rfl, HF.out⟩
                · have n3 := ck
                  clear ck
                  by_cases ck : k = 4
                  · have h2s := hk4 ck
                    subst ck
                    have hsm := hbd.n
                    have hch := choice_any lb sb ao s.length cp ⟨h2s, hsm⟩ W hltW
                    have HFN : Hid (∀ p q r0 w', Below w.heap.size w w' → w'.cell? ⟨p, 0, none⟩ = some (.slice ao s.length cp) → w'.cell? ⟨q, 0, none⟩ = some (.int .i64 ((s.length : Int) - 1)) → w'.cell? ⟨r0, 0, none⟩ = some (.pointer (some ⟨lb, 0, none⟩)) → (¬ two lb sb p ∧ ¬ two lb sb q ∧ ¬ two lb sb r0) → FnOK w' lb sb cap (.mk 4 r lo hi z s) (.func (.func 108) #[] #[.pointer (some ⟨p, 0, none⟩), .pointer (some ⟨q, 0, none⟩), .pointer (some ⟨r0, 0, none⟩)])) := hid_intro (fun p q r0 w' hb0 h1 h2 h3 h4 =>
                      ⟨_, _, rfl, enters_of Tryz.func108 (by kernel_rfl) rfl, fun w2 Z L hb hl hr => by
                        rw [bld_4]
                        rw [szX_4] at hr
                        exact choice1_any lb sb cap s ao cp G w2 ((hPO.but (But.ofBelow hb0)).but hb) h2s hsm p q r0 Z L (cell_but h1 h4.1 hb) (cell_but h2 h4.2.1 hb) (cell_but h3 h4.2.2 hb) h4.1 h4.2.1 h4.2.2 hl hr⟩)
                    clear hbd hR hPO hsm h2s
                    go_enter Tryz.func51, Tryz.ntmps51
                    go_wp2_with fail
                    rw [HW.out]
                    refine hch.mono ?_; rintro e w2 ⟨p, q, r0, rfl, h1, h2, h3, h4, hb2⟩
                    have HF := hid_intro (And.intro (HFN.out p q r0 w2 (vb_t HBW.out hb2) h1 h2 h3 h4) (vb_t HBW.out hb2))
                    clear h1 h2 h3 h4 hb2 hch
                    go_wp2_with fail
                    go_ret
                    exact ⟨_, rfl, HF.out⟩
                  · have n2 := ck
                    clear ck
                    have ck : k = 5 := by omega
                    obtain ⟨hs1, hlo0, hlo1, hhi⟩ := hk5 ck
                    subst ck
                    obtain ⟨y, rfl⟩ : ∃ y, s = [y] := by
                      match s, hs1 with
                      | [y], _ => exact ⟨y, rfl⟩
                    obtain ⟨ln, rfl⟩ : ∃ ln : Nat, lo = (ln : Int) := ⟨lo.toNat, by omega⟩
                    have hyok := yok_of (hre y (by simp)) (hbd.s y (by simp))
                    have hrp := repeat_fn lb sb 5 a1 r.length c1 (ln : Int) hi z ao 1 cp W hltW
                    have HFN : Hid (∀ p q w', Below w.heap.size w w' → w'.cell? ⟨p, 0, none⟩ = some (.pointer (some ⟨lb, 0, none⟩)) → (w'.cell? ⟨q, 2, none⟩ = some (.int .i64 (ln : Int)) ∧ w'.cell? ⟨q, 3, none⟩ = some (.int .i64 hi) ∧ w'.cell? ⟨q, 5, none⟩ = some (.slice ao 1 cp)) → ¬ two lb sb p → ¬ two lb sb q → FnOK w' lb sb cap (.mk 5 r (ln : Int) hi z [y]) (.func (.func 111) #[] #[.pointer (some ⟨p, 0, none⟩), .pointer (some ⟨q, 0, none⟩)])) := hid_intro (fun p q w' hb0 h1 h2 h3 h4 =>
                      ⟨_, _, rfl, enters_of Tryz.func111 (by kernel_rfl) rfl, fun w2 Z L hb hl hr => 
                        repeat1_any lb sb cap y ao cp G w2 ((hPO.but (But.ofBelow hb0)).but hb) hyok ln (by omega) hi hhi r z p q Z L (cell_but h1 h3 hb) (cell_but h2.1 h4 hb) (cell_but h2.2.1 h4 hb) (cell_but h2.2.2 h4 hb) h3 h4 hl hr⟩)
                    have HW5 : Hid (w.alloc (.cells #[.int .i64 5, .slice a1 r.length c1, .int .i64 (ln : Int), .int .i64 hi, .bool z, .slice ao 1 cp] 31) = W) := HW
                    clear hbd hR hPO hyok hs1 hlo0 hlo1 hhi hre
                    go_enter Tryz.func51, Tryz.ntmps51
                    go_wp2_with fail
                    rw [HW5.out]
                    refine hrp.mono ?_; rintro e w2 ⟨p, q, rfl, h1, h2, h3, h4, hb2⟩
                    have HF := hid_intro (And.intro (HFN.out p q w2 (vb_t HBW.out hb2) h1 h2 h3 h4) (vb_t HBW.out hb2))
                    clear h1 h2 h3 h4 hb2 hrp
                    go_wp2_with fail
                    go_ret
                    exact ⟨_, rfl, HF.out⟩
end Go.Proofs.YtoinlmfodmgohaaGreatDoor

namespace Go.Proofs.YtoinlmfodmgohaaGreatDoor
open Go.RowKit Go.Deep
attribute [local go_sem] setCell_drewN alloc_drewN

theorem make_st (w : World) (c : Nat) (hc : c ≤ 65536) : (Instr.makeSlice 24 (.int .i64 0) (.int .i64 (c : Int))).run Tryz.prog w = .ok (.slice (some ⟨w.heap.size, 0, none⟩) 0 c) (w.alloc (.cells (madeCells #[.int .i64 0, .slice none 0 0, .int .i64 0, .int .i64 0] (c * 4)) 94)) := by
  obtain ⟨i0, hi, hz0, hz1, hz2⟩ := info_parts infoState
  have := run_make (P := Tryz.prog) w 24 94 i0 (.agg #[.int .i64 0, .slice none 0 0, .int .i64 0, .int .i64 0]) Tryz.underlying24 hi hz0 .i64 .i64 0 (c : Int) (by omega) (by omega) (by rw [hz2]; omega) (by omega)
  rw [hz1] at this
  simpa [Value.cells] using this
theorem LS.made (w : World) (c : Nat) (hc : c ≤ 65536) : LS ((w.alloc (.cells (madeCells #[.int .i64 0, .slice none 0 0, .int .i64 0, .int .i64 0] (c * 4)) 94)).alloc (.cells #[.slice (some ⟨w.heap.size, 0, none⟩) 0 c] 90)) (w.heap.size + 1) w.heap.size c [] := by
  have k : Bk ((w.alloc (.cells (madeCells #[.int .i64 0, .slice none 0 0, .int .i64 0, .int .i64 0] (c * 4)) 94)).alloc (.cells #[.slice (some ⟨w.heap.size, 0, none⟩) 0 c] 90)) (w.heap.size + 1) #[.slice (some ⟨w.heap.size, 0, none⟩) 0 c] := Bk.new' _ _ _ _ (by simp)
  have ho := World.ownsRow_made (base := 0) (e := 94) (size := 4) w (madeCells #[.int .i64 0, .slice none 0 0, .int .i64 0, .int .i64 0] (c * 4)) c (Nat.zero_le _) (by unfold maxLen; omega) (by rw [size_madeCells])
  exact ⟨[], rfl, k.cell 0, k.frz 0, by omega, ho.alloc _, fun p hp => by simp at hp, hc⟩
/-- The list's states as a row. -/
theorem LS.si {w : World} {lb sb cap : Nat} {L : List ST} (h : LS w lb sb cap L) (hok : ∀ s ∈ L, s.ok) : SI w (fun _ => False) L (.slice (some ⟨sb, 0, none⟩) L.length L.length) := by
  have hlen := h.len
  refine ⟨_, _, rfl, Nat.le_refl _, by unfold maxLen; omega, hok, ?_⟩
  by_cases hL : L = []
  · exact Or.inl hL
  right
  haveI : Inhabited Value := ⟨.nilIface⟩
  have each : ∀ i, i < L.length → ∃ v : Value, w.cell? ⟨sb, i * 4, none⟩ = some (.int .i64 (sa L i).k) ∧ w.cell? ⟨sb, i * 4 + 1, none⟩ = some v ∧ w.cell? ⟨sb, i * 4 + 2, none⟩ = some (.int .i64 (sa L i).a) ∧ w.cell? ⟨sb, i * 4 + 3, none⟩ = some (.int .i64 (sa L i).b) ∧ RI w (two lb sb) (sa L i).r v := fun i hi => (h.at i hi).1
  obtain ⟨G, hG⟩ := choose_lt each
  refine ⟨sb, 0, G, rfl, fun h => h, fun i hi => ?_⟩
  obtain ⟨h0, h1, h2, h3, hR⟩ := hG i hi
  simp only [Nat.zero_add]
  exact ⟨⟨h0, h1, h2, h3⟩, hR.weak (fun _ h => h.elim)⟩
/-- A last state, in a region that does not draw. -/
theorem wpList_append_st {w : World} {ops : Array Oper} {rest : List Oper} {o : Oper} {a : Act} {Q : Exit → Act → World → Prop} (hgd : o.guard = none) (s x : Operand)
    (ho : o.op = .call { callee := .builtin .append, args := #[s, x], argTypes := #[24, 24] }) (sb n cap : Nat) (xs : List Value) (hs : a.eval s = .slice (some ⟨sb, 0, none⟩) n cap)
    (c0 c1 c2 c3 : Value) (t : Nat) (ht : w.heap.size = t) (hx : a.eval x = .slice (some ⟨t, 0, none⟩) 1 1) (hroom : n + 1 ≤ cap) (hone : c0.oneCell' = true ∧ c1.oneCell' = true ∧ c2.oneCell' = true ∧ c3.oneCell' = true)
    (hown : w.ownsRow 0 94 4 (.slice (some ⟨sb, 0, none⟩) n cap) n xs)
    (h : ∀ w', w'.ownsRow 0 94 4 (.slice (some ⟨sb, 0, none⟩) (n + 1) cap) (n + 1) (xs ++ [c0, c1, c2, c3]) → (w.alloc (.cells #[c0, c1, c2, c3] 94)).grownBy w' (some sb) → wpList Tryz.prog ops Q rest (a.put o.dst (.slice (some ⟨sb, 0, none⟩) (n + 1) cap)) w') :
    wpList Tryz.prog ops Q (o :: rest) a (w.alloc (.cells #[c0, c1, c2, c3] 94)) := by
  subst ht
  obtain ⟨i0, hi, hz0, hz1, hz2⟩ := info_parts infoState
  have hT : Bk (w.alloc (.cells #[c0, c1, c2, c3] 94)) w.heap.size #[c0, c1, c2, c3] := Bk.new _ _ _
  exact wpList_append_fits _ hgd s x 24 ho 0 94 i0 4 Tryz.underlying24 hi hz1 sb n cap xs hs (hown.alloc _) ⟨w.heap.size, 0, none⟩ 1 1 [c0, c1, c2, c3] hx rfl (fun j u hj => by
    rw [add_at, hT.cell]
    match j, hj with
    | 0, hj => exact hj
    | 1, hj => exact hj
    | 2, hj => exact hj
    | 3, hj => exact hj) (fun u hu => by
    simp at hu
    rcases hu with rfl | rfl | rfl | rfl
    · exact hone.1
    · exact hone.2.1
    · exact hone.2.2.1
    · exact hone.2.2.2) hroom h
end Go.Proofs.YtoinlmfodmgohaaGreatDoor

namespace Go.Proofs.YtoinlmfodmgohaaGreatDoor
open Go.RowKit
attribute [local go_sem] setCell_drewN alloc_drewN

theorem But.toBelow {X : Nat → Prop} {w W w' : World} (h0 : Below w.heap.size w W) (h : But X W w') (hX : ∀ b, X b → w.heap.size ≤ b) : Below w.heap.size w w' :=
  ⟨h.os.trans h0.os, h.tape.trans h0.tape, h.output.trans h0.output, Nat.le_trans h0.size h.size, fun k hk => (h.block k (Nat.lt_of_lt_of_le hk h0.size) (fun hx => by have := hX k hx; omega)).trans (h0.block k hk)⟩
/-- The five states. -/
def auto5 (r1 r2 : List (Int × Int)) : List ST := [⟨2, [], 1, 3⟩, ⟨1, r1, 2, 0⟩, ⟨2, [], 4, 4⟩, ⟨1, r2, 4, 0⟩, ⟨7, [], 0, 0⟩]
theorem auto5_alt (r1 r2 : List (Int × Int)) : alt6 [] r1 r2 ++ [⟨7, [], 0, 0⟩] = auto5 r1 r2 := rfl
theorem alt6_len (r1 r2 : List (Int × Int)) : (alt6 [] r1 r2).length = 4 := rfl
theorem auto5_ok (r1 r2 : List (Int × Int)) : ∀ s ∈ auto5 r1 r2, s.ok := by
  intro s hs
  simp only [auto5, List.mem_cons, List.not_mem_nil, or_false] at hs
  rcases hs with rfl | rfl | rfl | rfl | rfl <;> exact ⟨I64_of (by simp) (by simp), I64_of (by simp) (by simp), I64_of (by simp) (by simp)⟩
set_option maxRecDepth 100000 in
set_option maxHeartbeats 3200000 in
theorem auto2_any (a : Option Addr) (n c b off cp : Nat) (hcp : 2 ≤ cp) (a1 a2 d1 d2 : Option Addr) (r1 r2 : List (Int × Int)) (c1 c2 n1 m1 n2 m2 : Nat) (w : World)
    (g1 : w.cell? ⟨b, off, none⟩ = some (.int .i64 2) ∧ w.cell? ⟨b, off + 1, none⟩ = some (.slice a1 r1.length c1) ∧ w.cell? ⟨b, off + 2, none⟩ = some (.int .i64 0) ∧ w.cell? ⟨b, off + 3, none⟩ = some (.int .i64 0) ∧ w.cell? ⟨b, off + 4, none⟩ = some (.bool false) ∧ w.cell? ⟨b, off + 5, none⟩ = some (.slice d1 n1 m1)) (g2 : w.cell? ⟨b, off + 6, none⟩ = some (.int .i64 2) ∧ w.cell? ⟨b, off + 6 + 1, none⟩ = some (.slice a2 r2.length c2) ∧ w.cell? ⟨b, off + 6 + 2, none⟩ = some (.int .i64 0) ∧ w.cell? ⟨b, off + 6 + 3, none⟩ = some (.int .i64 0) ∧ w.cell? ⟨b, off + 6 + 4, none⟩ = some (.bool false) ∧ w.cell? ⟨b, off + 6 + 5, none⟩ = some (.slice d2 n2 m2))
    (hR1 : RI w (fun _ => False) r1 (.slice a1 r1.length c1)) (hR2 : RI w (fun _ => False) r2 (.slice a2 r2.length c2)) (hl1 : r1.length ≤ 1099511627776) (hl2 : r2.length ≤ 1099511627776) :
    Calls Tryz.prog 28 #[.agg #[.int .i64 4, .slice a n c, .int .i64 0, .int .i64 0, .bool false, .slice (some ⟨b, off, none⟩) 2 cp], .int .i64 5] w fun e w' => ∃ sb, e = .returned (.slice (some ⟨sb, 0, none⟩) 5 5) ∧ SI w' (fun _ => False) (auto5 r1 r2) (.slice (some ⟨sb, 0, none⟩) 5 5) ∧ Below w.heap.size w w' := by
  have hblt : b < w.heap.size := World.block_lt_of_cell? w _ g1.1
  obtain ⟨V, hV⟩ : ∃ V, w.alloc (.cells #[.int .i64 4, .slice a n c, .int .i64 0, .int .i64 0, .bool false, .slice (some ⟨b, off, none⟩) 2 cp] 31) = V := ⟨_, rfl⟩
  have hbV : Below w.heap.size w V := hV ▸ vb_a (Below.refl _ _) _
  have hVs : V.heap.size = w.heap.size + 1 := by rw [← hV]; simp
  have kV : Bk V w.heap.size #[.int .i64 4, .slice a n c, .int .i64 0, .int .i64 0, .bool false, .slice (some ⟨b, off, none⟩) 2 cp] := hV ▸ Bk.new _ _ _
  have hmk := make_st V 5 (by omega)
  have hls := LS.made V 5 (by omega)
  obtain ⟨o0, ho0⟩ : ∃ o, Obj.cells (madeCells #[.int .i64 0, .slice none 0 0, .int .i64 0, .int .i64 0] (5 * 4)) 94 = o := ⟨_, rfl⟩
  rw [ho0] at hmk hls
  obtain ⟨W, hW⟩ : ∃ W, (V.alloc o0).alloc (.cells #[.slice (some ⟨V.heap.size, 0, none⟩) 0 5] 90) = W := ⟨_, rfl⟩
  rw [hW] at hls
  have hbVW : Below V.heap.size V W := hW ▸ vb_a (vb_a (Below.refl _ _) _) _
  have hbW : Below w.heap.size w W := vb_t hbV hbVW
  have htw : ∀ k, two (V.heap.size + 1) V.heap.size k → w.heap.size ≤ k := fun k hk => by rcases hk with hk | hk <;> omega
  have hnb : ¬ two (V.heap.size + 1) V.heap.size b := fun hk => by have := htw b hk; omega
  have hRW : ∀ r v, RI w (fun _ => False) r v → RI W (two (V.heap.size + 1) V.heap.size) r v := fun r v h => h.carry (fun k _ hk => ⟨hbW.block k hk, fun hx => by have := htw k hx; omega⟩)
  have hpart := partAlt_any (V.heap.size + 1) V.heap.size a n c b off cp W hls.lt
  have hkey : ∀ o v, w.cell? ⟨b, o, none⟩ = some v → ∀ w', Below w.heap.size w w' → w'.cell? ⟨b, o, none⟩ = some v := fun o v hv w' hb => (hb.cell (p := ⟨b, o, none⟩) hblt).trans hv
  have HCH : Hid (∀ p q s w', Below W.heap.size W w' → Cap4 w' (V.heap.size + 1) V.heap.size p q s b off cp → Calls Tryz.prog 108 #[.pointer (some ⟨p, 0, none⟩), .pointer (some ⟨q, 0, none⟩), .pointer (some ⟨s, 0, none⟩)] w' fun e w2 => e = .returned (.tuple #[]) ∧ LS w2 (V.heap.size + 1) V.heap.size 5 (alt6 [] r1 r2) ∧ But (two (V.heap.size + 1) V.heap.size) w' w2) := hid_intro (fun p q s w' hb hc => by
    have hb2 := vb_t hbW hb
    obtain ⟨x0, x1, x2, x3, x4, x5⟩ := g1
    obtain ⟨y0, y1, y2, y3, y4, y5⟩ := g2
    exact choice2_any _ _ 5 [] p q s b off cp a1 a2 d1 d2 r1 r2 c1 c2 n1 m1 n2 m2 w' (hls.below hb) (by simp) hc hcp hnb ⟨hkey _ _ x0 _ hb2, hkey _ _ x1 _ hb2, hkey _ _ x2 _ hb2, hkey _ _ x3 _ hb2, hkey _ _ x4 _ hb2, hkey _ _ x5 _ hb2⟩ ⟨hkey _ _ y0 _ hb2, hkey _ _ y1 _ hb2, hkey _ _ y2 _ hb2, hkey _ _ y3 _ hb2, hkey _ _ y4 _ hb2, hkey _ _ y5 _ hb2⟩ ((hRW _ _ hR1).kept hb) ((hRW _ _ hR2).kept hb) hl1 hl2)
  obtain ⟨k0, k1, k2, k3, k4, k5⟩ := (kV.bel hbVW).c6
  have HW := hid_intro hW
  have HV := hid_intro hV
  have HBW := hid_intro hbW
  have HTW := hid_intro htw
  have HMK := hid_intro hmk
  obtain ⟨P, hP⟩ : ∃ P : Ending → World → Prop, P = fun e w' => ∃ sb, e = .returned (.slice (some ⟨sb, 0, none⟩) 5 5) ∧ SI w' (fun _ => False) (auto5 r1 r2) (.slice (some ⟨sb, 0, none⟩) 5 5) ∧ Below w.heap.size w w' := ⟨_, rfl⟩
  rw [← hP]
  have HP := hid_intro hP
  clear hP g1 g2 hR1 hR2 hl1 hl2 hls hbVW hbW htw hnb hRW hkey hbV hcp ho0 kV hblt
  have hmk5 : (Instr.makeSlice 24 (.int .i64 0) (.int .i64 5)).run Tryz.prog V = .ok (.slice (some ⟨V.heap.size, 0, none⟩) 0 5) (V.alloc o0) := hmk
  clear hmk HMK hVs
  go_enter Tryz.func28, Tryz.ntmps28
  go_wp2_with fail
  refine hpart.mono ?_; rintro e w2 ⟨p, q, s, rfl, hc, hb2⟩
  have hch := HCH.out p q s w2 hb2 hc
  have HB2 := hid_intro hb2
  clear hpart hc hb2 HCH k0 k1 k2 k3 k4 k5
  go_wp2_with fail
  refine hch.mono ?_; rintro e w3 ⟨rfl, hls3, hbt3⟩
  obtain ⟨l3, z3⟩ := hls3.cell
  rw [alt6_len] at l3
  have HL3 := hid_intro hls3
  have hlt3 := hls3.lt
  have hne3 := hls3.ne
  obtain ⟨M, hM, _, _, _, hown, hRs, _⟩ := hls3
  have hown4 : w3.ownsRow 0 94 4 (.slice (some ⟨V.heap.size, 0, none⟩) 4 5) 4 (flatS M) := hown
  have HB3 := hid_intro hbt3
  have HM := hid_intro (And.intro hM hRs)
  have HKEEP : Hid (∀ w6, (w3.alloc (.cells #[.int .i64 7, .slice none 0 0, .int .i64 0, .int .i64 0] 94)).grownBy w6 (some V.heap.size) → w6.cell? ⟨V.heap.size + 1, 0, none⟩ = some (.slice (some ⟨V.heap.size, 0, none⟩) 4 5) ∧ w6.frozen? ⟨V.heap.size + 1, 0, none⟩ = false) := hid_intro (fun w6 hg => by
    have e : w6.heap[V.heap.size + 1]? = w3.heap[V.heap.size + 1]? := (hg.block _ (by simp; omega) (fun e => hne3 (by injection e))).trans ((vb_a (Below.refl _ _) _).block _ hlt3.1)
    exact ⟨(World.cell?_of_block (w := w3) (w' := w6) e).trans l3, by rw [← z3]; simp only [World.frozen?, e]⟩)
  clear hM hRs hown hbt3 hch hlt3 hne3
  go_wp2_with (at_builtin; refine wpList_append_st rfl _ _ rfl V.heap.size 4 5 (flatS M) rfl (.int .i64 7) (.slice none 0 0) (.int .i64 0) (.int .i64 0) _ rfl rfl (by omega) ⟨rfl, rfl, rfl, rfl⟩ hown4 ?_; intro w6 ho6 hg6; obtain ⟨l6, z6⟩ := HKEEP.out w6 hg6)
  have hput := LS.put (w := w3) (lb := V.heap.size + 1) (sb := V.heap.size) (cap := 5) (L := alt6 [] r1 r2) ⟨7, [], 0, 0⟩ (.slice none 0 0) M HM.out.1 HL3.out HM.out.2 (vb_a (Below.refl _ _) _) hg6 ho6 (Or.inr ⟨rfl, rfl⟩)
  rw [auto5_alt, alt6_len] at hput
  have hfrom := from_any _ _ _ _ _ hput.1
  have HPU := hid_intro hput
  clear hput ho6 hg6 l3 z3 hown4 HKEEP
  go_wp2_with fail
  refine hfrom.mono ?_; rintro e w8 ⟨rfl, hb8⟩
  clear hfrom l6 z6
  go_wp2_with fail
  rw [HP.out]
  refine ⟨_, rfl, (HPU.out.1.below hb8).si (auto5_ok _ _), ?_⟩
  exact But.toBelow HBW.out (((But.ofBelow HB2.out).trans (HB3.out.trans HPU.out.2)).below hb8) HTW.out
end Go.Proofs.YtoinlmfodmgohaaGreatDoor
