/-
  A right tree, compiled. Conditions: there is room; nothing in the tree is longer than 2^20.
-/
import Derived.Test.YtcgohdfpmfpfiaaXBF
namespace Go.Proofs.Ytcgohdfpmfpfiaa
open Go.RowKit
attribute [local go_sem] setCell_drewN alloc_drewN

theorem kinds_of {d : Nat} {k : Int} {r : List (Int × Int)} {lo hi : Int} {z : Bool} {s : List RX} (hr : rightB d (.mk k r lo hi z s) = true) : k = 1 ∨ k = 2 ∨ k = 3 ∨ k = 4 ∨ k = 5 ∨ k = 6 ∨ k = 7 ∨ k = 8 ∨ k = 9 := by
  cases d with
  | zero => simp [rightB] at hr
  | succ d =>
    simp only [rightB, Bool.and_eq_true] at hr
    have h3 := hr.1.2
    unfold kindB at h3
    by_cases c : k = 1 ∨ k = 2 ∨ k = 3 ∨ k = 4 ∨ k = 5 ∨ k = 6 ∨ k = 7 ∨ k = 8 ∨ k = 9
    · exact c
    · rw [if_neg (by omega), if_neg (by omega), if_neg (by omega)] at h3; cases h3
set_option maxRecDepth 100000 in
set_option maxHeartbeats 6400000 in
theorem part_any (lb sb cap : Nat) : ∀ (t : RX) (d : Nat) (f : Nat → Value) (w : World), rightB d t = true → BdX 1048576 t → XI w (two lb sb) t f → (lb < w.heap.size ∧ sb < w.heap.size) →
    Calls Try.prog 27 #[.pointer (some ⟨lb, 0, none⟩), xa f] w fun e w' => ∃ v, e = .returned v ∧ FnOK w' lb sb cap t v ∧ Below w.heap.size w w' := by
  intro t
  induction t using RX.ind with
  | h k r lo hi z s ih =>
    intro d f w hrt hbd hv hlt
    have kk := kinds_of hrt
    obtain ⟨⟨e, rfl, hre⟩, hk4, hk5⟩ := right_parts hrt
    cases hv with
    | mk ao cp G f0 f1 f2 f3 f4 f5 hc hw hl hr =>
    have hPO : PartsOK w lb sb cap s ao cp G := ⟨hl, fun i hi => (hr i hi).six, fun i hi w' hb => ih s[i] (List.getElem_mem hi) e (G i) w' (hre _ (List.getElem_mem hi)) (hbd.s _ (List.getElem_mem hi)) ((hr i hi).but hb (fun _ h => h)) ⟨Nat.lt_of_lt_of_le hlt.1 hb.size, Nat.lt_of_lt_of_le hlt.2 hb.size⟩, hc, fun x hx n => bld_len x e (hre x hx) n⟩
    obtain ⟨a1, c1, e1, _⟩ := f1.shape
    have hR : RI w (two lb sb) r (.slice a1 r.length c1) := e1 ▸ f1
    have exa : xa f = .agg #[.int .i64 k, .slice a1 r.length c1, .int .i64 lo, .int .i64 hi, .bool z, .slice ao s.length cp] := by unfold xa; rw [f0, e1, f2, f3, f4, f5]
    rw [exa]
    obtain ⟨W, hW⟩ : ∃ W, w.alloc (.cells #[.int .i64 k, .slice a1 r.length c1, .int .i64 lo, .int .i64 hi, .bool z, .slice ao s.length cp] 32) = W := ⟨_, rfl⟩
    have hbW : Below w.heap.size w W := hW ▸ vb_a (Below.refl _ _) _
    have hltW : lb < W.heap.size ∧ sb < W.heap.size := ⟨Nat.lt_of_lt_of_le hlt.1 hbW.size, Nat.lt_of_lt_of_le hlt.2 hbW.size⟩
    have HW := hid_intro hW
    have HBW := hid_intro hbW
    clear hW hbW hl hr ih f1 exa f0 f2 f3 f4 f5 e1 hw hrt hc hlt
    by_cases ck : k = 1
    · subst ck
      have HFN : Hid (∀ w', FnOK w' lb sb cap (.mk 1 r lo hi z s) (.func (.func 38) #[] #[])) := hid_intro (fun w' =>
        ⟨_, _, rfl, enters_of Try.func38 (by kernel_rfl) rfl, fun w2 Z L hb hl hr => by
          have eb : bld (.mk 1 r lo hi z s) L.length = [] := by rw [bld]; rfl
          rw [eb, List.append_nil]
          exact (part1_any w2).mono fun e w3 ⟨h1, h2⟩ => ⟨h1, hl.below h2, But.ofBelow h2⟩⟩)
      clear hbd hR hPO
      go_enter Try.func27, Try.ntmps27
      go_wp2_with fail
      go_ret
      rw [HW.out]
      exact ⟨_, rfl, HFN.out _, HBW.out⟩
    · have n9 := ck
      clear ck
      by_cases ck : k = 2
      · subst ck
        have hsg := single_any lb sb 1 r (.slice a1 r.length c1) W hltW (hR.kept HBW.out)
        have HFN : Hid (∀ p q s' w', Cap3 w' lb sb p q s' 1 r → FnOK w' lb sb cap (.mk 2 r lo hi z s) (.func (.func 40) #[] #[.pointer (some ⟨p, 0, none⟩), .pointer (some ⟨q, 0, none⟩), .pointer (some ⟨s', 0, none⟩)])) := hid_intro (fun p q s' w' hc =>
          ⟨_, _, rfl, enters_of Try.func40 (by kernel_rfl) rfl, fun w2 Z L hb hl hr => by
            have eb : bld (.mk 2 r lo hi z s) L.length = [⟨1, r, (L.length : Int) + 1, 0⟩] := by rw [bld]; rfl
            have es : szX (.mk 2 r lo hi z s) = 1 := by rw [szX]; rfl
            rw [eb]
            rw [es] at hr
            exact single1Z_any lb sb cap p q s' 1 r Z L w2 hl (hc.but hb) hr (by have := hbd.r; omega)⟩)
        clear hbd hR hPO
        go_enter Try.func27, Try.ntmps27
        go_wp2_with fail
        rw [HW.out]
        refine hsg.mono ?_; rintro e w2 ⟨p, q, s', rfl, hc, hb2⟩
        have HF := hid_intro (And.intro (HFN.out p q s' w2 hc) (vb_t HBW.out hb2))
        clear hc hb2
        go_wp2_with fail
        go_ret
        exact ⟨_, rfl, HF.out⟩
      · have n8 := ck
        clear ck
        by_cases ck : k = 6
        · subst ck
          have hsg := single_any lb sb 3 [] (.slice none 0 0) W hltW (RI.nil _ _)
          have HFN : Hid (∀ p q s' w', Cap3 w' lb sb p q s' 3 [] → FnOK w' lb sb cap (.mk 6 r lo hi z s) (.func (.func 40) #[] #[.pointer (some ⟨p, 0, none⟩), .pointer (some ⟨q, 0, none⟩), .pointer (some ⟨s', 0, none⟩)])) := hid_intro (fun p q s' w' hc =>
            ⟨_, _, rfl, enters_of Try.func40 (by kernel_rfl) rfl, fun w2 Z L hb hl hr => by
              have eb : bld (.mk 6 r lo hi z s) L.length = [⟨3, [], (L.length : Int) + 1, 0⟩] := by rw [bld]; rfl
              have es : szX (.mk 6 r lo hi z s) = 1 := by rw [szX]; rfl
              rw [eb]
              rw [es] at hr
              exact single1Z_any lb sb cap p q s' 3 [] Z L w2 hl (hc.but hb) hr (by simp)⟩)
          clear hbd hR hPO
          go_enter Try.func27, Try.ntmps27
          go_wp2_with fail
          rw [HW.out]
          refine hsg.mono ?_; rintro e w2 ⟨p, q, s', rfl, hc, hb2⟩
          have HF := hid_intro (And.intro (HFN.out p q s' w2 hc) (vb_t HBW.out hb2))
          clear hc hb2
          go_wp2_with fail
          go_ret
          exact ⟨_, rfl, HF.out⟩
        · have n7 := ck
          clear ck
          by_cases ck : k = 7
          · subst ck
            have hsg := single_any lb sb 4 [] (.slice none 0 0) W hltW (RI.nil _ _)
            have HFN : Hid (∀ p q s' w', Cap3 w' lb sb p q s' 4 [] → FnOK w' lb sb cap (.mk 7 r lo hi z s) (.func (.func 40) #[] #[.pointer (some ⟨p, 0, none⟩), .pointer (some ⟨q, 0, none⟩), .pointer (some ⟨s', 0, none⟩)])) := hid_intro (fun p q s' w' hc =>
              ⟨_, _, rfl, enters_of Try.func40 (by kernel_rfl) rfl, fun w2 Z L hb hl hr => by
                have eb : bld (.mk 7 r lo hi z s) L.length = [⟨4, [], (L.length : Int) + 1, 0⟩] := by rw [bld]; rfl
                have es : szX (.mk 7 r lo hi z s) = 1 := by rw [szX]; rfl
                rw [eb]
                rw [es] at hr
                exact single1Z_any lb sb cap p q s' 4 [] Z L w2 hl (hc.but hb) hr (by simp)⟩)
            clear hbd hR hPO
            go_enter Try.func27, Try.ntmps27
            go_wp2_with fail
            rw [HW.out]
            refine hsg.mono ?_; rintro e w2 ⟨p, q, s', rfl, hc, hb2⟩
            have HF := hid_intro (And.intro (HFN.out p q s' w2 hc) (vb_t HBW.out hb2))
            clear hc hb2
            go_wp2_with fail
            go_ret
            exact ⟨_, rfl, HF.out⟩
          · have n6 := ck
            clear ck
            by_cases ck : k = 8
            · subst ck
              have hsg := single_any lb sb 5 [] (.slice none 0 0) W hltW (RI.nil _ _)
              have HFN : Hid (∀ p q s' w', Cap3 w' lb sb p q s' 5 [] → FnOK w' lb sb cap (.mk 8 r lo hi z s) (.func (.func 40) #[] #[.pointer (some ⟨p, 0, none⟩), .pointer (some ⟨q, 0, none⟩), .pointer (some ⟨s', 0, none⟩)])) := hid_intro (fun p q s' w' hc =>
                ⟨_, _, rfl, enters_of Try.func40 (by kernel_rfl) rfl, fun w2 Z L hb hl hr => by
                  have eb : bld (.mk 8 r lo hi z s) L.length = [⟨5, [], (L.length : Int) + 1, 0⟩] := by rw [bld]; rfl
                  have es : szX (.mk 8 r lo hi z s) = 1 := by rw [szX]; rfl
                  rw [eb]
                  rw [es] at hr
                  exact single1Z_any lb sb cap p q s' 5 [] Z L w2 hl (hc.but hb) hr (by simp)⟩)
              clear hbd hR hPO
              go_enter Try.func27, Try.ntmps27
              go_wp2_with fail
              rw [HW.out]
              refine hsg.mono ?_; rintro e w2 ⟨p, q, s', rfl, hc, hb2⟩
              have HF := hid_intro (And.intro (HFN.out p q s' w2 hc) (vb_t HBW.out hb2))
              clear hc hb2
              go_wp2_with fail
              go_ret
              exact ⟨_, rfl, HF.out⟩
            · have n5 := ck
              clear ck
              by_cases ck : k = 9
              · subst ck
                have hsg := single_any lb sb 6 [] (.slice none 0 0) W hltW (RI.nil _ _)
                have HFN : Hid (∀ p q s' w', Cap3 w' lb sb p q s' 6 [] → FnOK w' lb sb cap (.mk 9 r lo hi z s) (.func (.func 40) #[] #[.pointer (some ⟨p, 0, none⟩), .pointer (some ⟨q, 0, none⟩), .pointer (some ⟨s', 0, none⟩)])) := hid_intro (fun p q s' w' hc =>
                  ⟨_, _, rfl, enters_of Try.func40 (by kernel_rfl) rfl, fun w2 Z L hb hl hr => by
                    have eb : bld (.mk 9 r lo hi z s) L.length = [⟨6, [], (L.length : Int) + 1, 0⟩] := by rw [bld]; rfl
                    have es : szX (.mk 9 r lo hi z s) = 1 := by rw [szX]; rfl
                    rw [eb]
                    rw [es] at hr
                    exact single1Z_any lb sb cap p q s' 6 [] Z L w2 hl (hc.but hb) hr (by simp)⟩)
                clear hbd hR hPO
                go_enter Try.func27, Try.ntmps27
                go_wp2_with fail
                rw [HW.out]
                refine hsg.mono ?_; rintro e w2 ⟨p, q, s', rfl, hc, hb2⟩
                have HF := hid_intro (And.intro (HFN.out p q s' w2 hc) (vb_t HBW.out hb2))
                clear hc hb2
                go_wp2_with fail
                go_ret
                exact ⟨_, rfl, HF.out⟩
              · have n4 := ck
                clear ck
                by_cases ck : k = 3
                · subst ck
                  have hrow := row_any lb sb ao s.length cp W hltW
                  have HFN : Hid (∀ p q w', Below w.heap.size w w' → w'.cell? ⟨p, 0, none⟩ = some (.slice ao s.length cp) → w'.cell? ⟨q, 0, none⟩ = some (.pointer (some ⟨lb, 0, none⟩)) → ¬ two lb sb p → ¬ two lb sb q → FnOK w' lb sb cap (.mk 3 r lo hi z s) (.func (.func 42) #[] #[.pointer (some ⟨p, 0, none⟩), .pointer (some ⟨q, 0, none⟩)])) := hid_intro (fun p q w' hb0 h1 h2 h3 h4 =>
                    ⟨_, _, rfl, enters_of Try.func42 (by kernel_rfl) rfl, fun w2 Z L hb hl hr => by
                      rw [bld_3]
                      rw [szX_3] at hr
                      exact row1_any lb sb cap s ao cp G w2 ((hPO.but (But.ofBelow hb0)).but hb) p q Z L (cell_but h1 h3 hb) (cell_but h2 h4 hb) h4 hl hr⟩)
                  clear hbd hR hPO
                  go_enter Try.func27, Try.ntmps27
                  go_wp2_with fail
                  rw [HW.out]
                  refine hrow.mono ?_; rintro e w2 ⟨p, q, rfl, h1, h2, h3, h4, hb2⟩
                  have HF := hid_intro (And.intro (HFN.out p q w2 (vb_t HBW.out hb2) h1 h2 h3 h4) (vb_t HBW.out hb2))
                  clear h1 h2 h3 h4 hb2 hrow
                  go_wp2_with fail
                  go_ret
                  exact ⟨_, rfl, HF.out⟩
                · have n3 := ck
                  clear ck
                  by_cases ck : k = 4
                  · have h2s := hk4 ck
                    subst ck
                    have hsm := hbd.n
                    have hch := choice_any lb sb ao s.length cp ⟨h2s, hsm⟩ W hltW
                    have HFN : Hid (∀ p q r0 w', Below w.heap.size w w' → w'.cell? ⟨p, 0, none⟩ = some (.slice ao s.length cp) → w'.cell? ⟨q, 0, none⟩ = some (.int .i64 ((s.length : Int) - 1)) → w'.cell? ⟨r0, 0, none⟩ = some (.pointer (some ⟨lb, 0, none⟩)) → (¬ two lb sb p ∧ ¬ two lb sb q ∧ ¬ two lb sb r0) → FnOK w' lb sb cap (.mk 4 r lo hi z s) (.func (.func 43) #[] #[.pointer (some ⟨p, 0, none⟩), .pointer (some ⟨q, 0, none⟩), .pointer (some ⟨r0, 0, none⟩)])) := hid_intro (fun p q r0 w' hb0 h1 h2 h3 h4 =>
                      ⟨_, _, rfl, enters_of Try.func43 (by kernel_rfl) rfl, fun w2 Z L hb hl hr => by
                        rw [bld_4]
                        rw [szX_4] at hr
                        exact choice1_any lb sb cap s ao cp G w2 ((hPO.but (But.ofBelow hb0)).but hb) h2s hsm p q r0 Z L (cell_but h1 h4.1 hb) (cell_but h2 h4.2.1 hb) (cell_but h3 h4.2.2 hb) h4.1 h4.2.1 h4.2.2 hl hr⟩)
                    clear hbd hR hPO hsm h2s
                    go_enter Try.func27, Try.ntmps27
                    go_wp2_with fail
                    rw [HW.out]
                    refine hch.mono ?_; rintro e w2 ⟨p, q, r0, rfl, h1, h2, h3, h4, hb2⟩
                    have HF := hid_intro (And.intro (HFN.out p q r0 w2 (vb_t HBW.out hb2) h1 h2 h3 h4) (vb_t HBW.out hb2))
                    clear h1 h2 h3 h4 hb2 hch
                    go_wp2_with fail
                    go_ret
                    exact ⟨_, rfl, HF.out⟩
                  · have n2 := ck
                    clear ck
                    have ck : k = 5 := by omega
                    obtain ⟨hs1, hlo0, hlo1, hhi⟩ := hk5 ck
                    subst ck
                    obtain ⟨y, rfl⟩ : ∃ y, s = [y] := by
                      match s, hs1 with
                      | [y], _ => exact ⟨y, rfl⟩
                    obtain ⟨ln, rfl⟩ : ∃ ln : Nat, lo = (ln : Int) := ⟨lo.toNat, by omega⟩
                    have hyok := yok_of (hre y (by simp)) (hbd.s y (by simp))
                    have hrp := repeat_fn lb sb 5 a1 r.length c1 (ln : Int) hi z ao 1 cp W hltW
                    have HFN : Hid (∀ p q w', Below w.heap.size w w' → w'.cell? ⟨p, 0, none⟩ = some (.pointer (some ⟨lb, 0, none⟩)) → (w'.cell? ⟨q, 2, none⟩ = some (.int .i64 (ln : Int)) ∧ w'.cell? ⟨q, 3, none⟩ = some (.int .i64 hi) ∧ w'.cell? ⟨q, 5, none⟩ = some (.slice ao 1 cp)) → ¬ two lb sb p → ¬ two lb sb q → FnOK w' lb sb cap (.mk 5 r (ln : Int) hi z [y]) (.func (.func 46) #[] #[.pointer (some ⟨p, 0, none⟩), .pointer (some ⟨q, 0, none⟩)])) := hid_intro (fun p q w' hb0 h1 h2 h3 h4 =>
                      ⟨_, _, rfl, enters_of Try.func46 (by kernel_rfl) rfl, fun w2 Z L hb hl hr => 
                        repeat1_any lb sb cap y ao cp G w2 ((hPO.but (But.ofBelow hb0)).but hb) hyok ln (by omega) hi hhi r z p q Z L (cell_but h1 h3 hb) (cell_but h2.1 h4 hb) (cell_but h2.2.1 h4 hb) (cell_but h2.2.2 h4 hb) h3 h4 hl hr⟩)
                    have HW5 : Hid (w.alloc (.cells #[.int .i64 5, .slice a1 r.length c1, .int .i64 (ln : Int), .int .i64 hi, .bool z, .slice ao 1 cp] 32) = W) := HW
                    clear hbd hR hPO hyok hs1 hlo0 hlo1 hhi hre
                    go_enter Try.func27, Try.ntmps27
                    go_wp2_with fail
                    rw [HW5.out]
                    refine hrp.mono ?_; rintro e w2 ⟨p, q, rfl, h1, h2, h3, h4, hb2⟩
                    have HF := hid_intro (And.intro (HFN.out p q w2 (vb_t HBW.out hb2) h1 h2 h3 h4) (vb_t HBW.out hb2))
                    clear h1 h2 h3 h4 hb2 hrp
                    go_wp2_with fail
                    go_ret
                    exact ⟨_, rfl, HF.out⟩
end Go.Proofs.Ytcgohdfpmfpfiaa
