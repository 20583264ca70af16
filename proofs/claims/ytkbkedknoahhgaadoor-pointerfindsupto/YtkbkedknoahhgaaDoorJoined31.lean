/-
  ref6.right, ref6.Check: they answer, whatever the value. Conditions: lists and texts of at most 2^30.
-/
import Derived.Test.YtkbkedknoahhgaaDoorJoined30
namespace Go.Proofs.YtkbkedknoahhgaaDoor
open Go.RowKit
attribute [local go_sem] setCell_drewN alloc_drewN

set_option maxRecDepth 100000 in
set_option maxHeartbeats 3200000 in
theorem right_any (v : JV) : Sm v → Sz v → ∀ (f : Nat → Value) (w : World) (L : Int), VI w (fun _ => False) v f →
    Calls Tryd.prog 15 #[va f, .int .i64 L] w fun r w' => BoolR r ∧ Below w.heap.size w w' := by
  induction v using JV.ind with
  | h k n g e t l ks ih =>
  intro hsm hsz f w L hv
  cases hsm with
  | mk s1 s2 s3 =>
  cases hsz with
  | mk z1 z2 z3 z4 =>
  obtain ⟨ao, cap, ko, kc, G, hva, _, _, hr, hl, hk⟩ := hv.open
  rw [hva]
  clear hva hv
  obtain ⟨x, hx⟩ := neq_zero n g e
  have hlI : (l.length : Int) ≤ 1073741824 := by omega
  have hkI : (ks.length : Int) ≤ 1073741824 := by omega
  generalize hW : w.alloc (.cells #[.int .i64 k, .bool n, .string g, .int .i64 e, .string t, .slice ao l.length cap, .slice ko ks.length kc] 28) = W
  have hbW : Below w.heap.size w W := by rw [← hW]; exact bl_a (Below.refl _ _) _
  have hA : C7 W w.heap.size (.int .i64 k) (.bool n) (.string g) (.int .i64 e) (.string t) (.slice ao l.length cap) (.slice ko ks.length kc) := by
    rw [← hW]; exact C7.new w _ _ _ _ _ _ _ _
  have HA : Hid (∀ w', Below W.heap.size W w' → C7 w' w.heap.size (.int .i64 k) (.bool n) (.string g) (.int .i64 e) (.string t) (.slice ao l.length cap) (.slice ko ks.length kc)) := fun w' hb => hA.below hb hA.lt
  have HC : Hid (∀ w', Calls Tryd.prog 26 #[.agg #[.bool n, .string g, .int .i64 e]] w' fun r w2 => (∃ c, r = .returned (.int .i64 c)) ∧ Below w'.heap.size w' w2) := fun w' => rcheck3_any n g e w' z1
  have HV : Hid (∀ w', Calls Tryd.prog 27 #[.string t] w' fun r w2 => r = .returned (.bool (gdL t.data.toList)) ∧ Below w'.heap.size w' w2) := fun w' => valid_any t w' (by unfold maxLen; omega)
  have HX : Hid (∀ w', Below W.heap.size W w' → Below w.heap.size w w') := fun w' hb => bl_t hbW hb
  by_cases k0 : k < 0
  · obtain ⟨a0, a1, a2, a3, a4, a5, a6, _, _, _, _, _, _, _⟩ := hA
    clear HA HC HV hk hl hr ih
    go_enter Tryd.func15, Tryd.ntmps15
    go_wp2
    go_ret
    exact ⟨⟨_, rfl⟩, hbW⟩
  · by_cases k6 : 6 < k
    · obtain ⟨a0, a1, a2, a3, a4, a5, a6, _, _, _, _, _, _, _⟩ := hA
      clear HA HC HV hk hl hr ih
      go_enter Tryd.func15, Tryd.ntmps15
      go_wp2
      go_ret
      exact ⟨⟨_, rfl⟩, hbW⟩
    · generalize gdL t.data.toList = gd at *
      have hkk : (k = 0 ∨ k = 1 ∨ k = 2 ∨ k = 3 ∨ k = 4) ∨ k = 5 ∨ k = 6 := by omega
      rcases hkk with hkk | rfl | rfl
      · exact right_low k n g e t l.length ks.length ao ko cap kc w L hkk z1 z2
      · have HI : Hid (∀ w' i (h : i < l.length) (L' : Int), Below W.heap.size W w' → Calls Tryd.prog 15 #[.agg #[G i 0, G i 1, G i 2, G i 3, G i 4, G i 5, G i 6], .int .i64 L'] w' fun r w2 => BoolR r ∧ Below w'.heap.size w' w2) := fun w' i h L' hb => ih l[i] (List.getElem_mem h) (s3 _ (List.getElem_mem h)) (z4 _ (List.getElem_mem h)) (G i) w' L' ((hr i h).kept (bl_t hbW hb))
        have HL : Hid (∀ w', Below W.heap.size W w' → (l = [] ∨ ∃ b off, ao = some ⟨b, off, none⟩ ∧ ∀ i, i < l.length → ∀ j, j < 7 → w'.cell? ⟨b, off + i * 7 + j, none⟩ = some (G i j))) := fun w' hb => by
          rcases hl with hl | ⟨b, off, h1, h2, h3⟩
          · exact .inl hl
          · exact .inr ⟨b, off, h1, fun i hi j hj => by rw [(bl_t hbW hb).cell (p := ⟨b, off + i * 7 + j, none⟩) h2]; exact h3 i hi j hj⟩
        clear hk hl hr ih s1 s2 s3 z1 z2 z3 z4
        generalize ks.length = kl at *
        by_cases h1 : kl = 0
        · subst h1
          obtain ⟨a0, a1, a2, a3, a4, a5, a6, _, _, _, _, _, _, _⟩ := hA
          cases x
          · cases hte : (t.toList == [])
            · go_enter Tryd.func15, Tryd.ntmps15
              go_wp2
              go_ret
              exact ⟨⟨_, rfl⟩, hbW⟩
            · go_enter Tryd.func15, Tryd.ntmps15
              go_wp2_with fail
              refine (HC.out _).mono ?_
              rintro r w1 ⟨⟨c, rfl⟩, hb1⟩
              clear a0 a1 a2 a3 a4 a5 a6
              obtain ⟨a0, a1, a2, a3, a4, a5, a6, _, _, _, _, _, _, _⟩ := HA.out w1 hb1
              cases hcz : (c != 0)
              · go_wp2_with fail
                refine (HV.out _).mono ?_
                rintro r w2 ⟨rfl, hb2⟩
                have HW0 : Hid (Below W.heap.size W w2) := bl_t hb1 hb2
                clear a0 a1 a2 a3 a4 a5 a6 hb1 hb2
                obtain ⟨a0, a1, a2, a3, a4, a5, a6, _, _, _, _, _, _, _⟩ := HA.out w2 HW0.out
                cases gd
                · go_wp2
                  go_ret
                  exact ⟨⟨_, rfl⟩, HX.out _ HW0.out⟩
                · cases hLz : (L == 0)
                  · go_wp2_with fail
                    refine wp_loop_rounds 1 ?_
                    rw [rounds_succ]
                    go_wp2_with fail
                    clear a0 a1 a2 a3 a4 a5 a6
                    go_loopw [7] (fun tv wr => ∃ i : Nat, i ≤ l.length ∧ tv = .int .i64 i ∧ Hid (Below W.heap.size W wr)) (fun tv _ => l.length - (intOf tv).toNat)
                    case atStart => exact ⟨0, Nat.zero_le _, rfl, HW0⟩
                    case round =>
                      obtain ⟨i, hi, rfl, HWr⟩ := hrel
                      clear HW0
                      have a5 := (HA.out wr HWr.out).c5
                      by_cases hlt : i < l.length
                      · have hI : (i : Int) < (l.length : Int) := by omega
                        obtain ⟨b, off, rfl, hce⟩ := (HL.out wr HWr.out).resolve_left (fun e => by rw [e] at hlt; exact absurd hlt (by simp))
                        have e0 : wr.cell? ⟨b, off + i * 7, none⟩ = some (G i 0) := hce i hlt 0 (by omega)
                        have e1 := hce i hlt 1 (by omega)
                        have e2 := hce i hlt 2 (by omega)
                        have e3 := hce i hlt 3 (by omega)
                        have e4 := hce i hlt 4 (by omega)
                        have e5 := hce i hlt 5 (by omega)
                        have e6 := hce i hlt 6 (by omega)
                        have hcal := fun L' => HI.out wr i hlt L' HWr.out
                        clear hce HC HV HA HL HI hx 
                        go_wp2_with fail
                        refine (hcal _).mono ?_
                        rintro r w3 ⟨⟨bb, rfl⟩, hb3⟩
                        clear a5 e0 e1 e2 e3 e4 e5 e6 hcal
                        have HN : Hid (Below W.heap.size W w3) := bl_t HWr.out hb3
                        cases bb
                        · go_wp2
                          go_ret
                          exact ⟨⟨_, rfl⟩, HX.out _ HN.out⟩
                        · go_wp2
                          go_roundw
                          case rel => exact ⟨i + 1, by omega, by go_num, HN⟩
                          case measure => simp [intOf]; omega
                      · have hI : ¬ (i : Int) < (l.length : Int) := by omega
                        clear HC HV HA HL HI hx 
                        go_wp2
                        go_ret
                        exact ⟨⟨_, rfl⟩, HX.out _ HWr.out⟩
                  · go_wp2
                    go_ret
                    exact ⟨⟨_, rfl⟩, HX.out _ HW0.out⟩
              · go_wp2
                go_ret
                exact ⟨⟨_, rfl⟩, HX.out _ hb1⟩
          · go_enter Tryd.func15, Tryd.ntmps15
            go_wp2
            go_ret
            exact ⟨⟨_, rfl⟩, hbW⟩
        · have h1' : (0 : Int) < (kl : Int) := by omega
          obtain ⟨a0, a1, a2, a3, a4, a5, a6, _, _, _, _, _, _, _⟩ := hA
          go_enter Tryd.func15, Tryd.ntmps15
          go_wp2
          all_goals (go_ret; exact ⟨⟨_, rfl⟩, hbW⟩)
      · have HI : Hid (∀ w' i (h : i < l.length) (L' : Int), Below W.heap.size W w' → Calls Tryd.prog 15 #[.agg #[G i 0, G i 1, G i 2, G i 3, G i 4, G i 5, G i 6], .int .i64 L'] w' fun r w2 => BoolR r ∧ Below w'.heap.size w' w2) := fun w' i h L' hb => ih l[i] (List.getElem_mem h) (s3 _ (List.getElem_mem h)) (z4 _ (List.getElem_mem h)) (G i) w' L' ((hr i h).kept (bl_t hbW hb))
        have HL : Hid (∀ w', Below W.heap.size W w' → (l = [] ∨ ∃ b off, ao = some ⟨b, off, none⟩ ∧ ∀ i, i < l.length → ∀ j, j < 7 → w'.cell? ⟨b, off + i * 7 + j, none⟩ = some (G i j))) := fun w' hb => by
          rcases hl with hl | ⟨b, off, h1, h2, h3⟩
          · exact .inl hl
          · exact .inr ⟨b, off, h1, fun i hi j hj => by rw [(bl_t hbW hb).cell (p := ⟨b, off + i * 7 + j, none⟩) h2]; exact h3 i hi j hj⟩
        have HKY : Hid (∀ w', Below W.heap.size W w' → (ks = [] ∨ ∃ b off, ko = some ⟨b, off, none⟩ ∧ ∀ i (h : i < ks.length), w'.cell? ⟨b, off + i, none⟩ = some (.string ks[i]))) := fun w' hb => by
          rcases hk with hk | ⟨b, off, h1, h2, h3⟩
          · exact .inl hk
          · exact .inr ⟨b, off, h1, fun i hi => by rw [(bl_t hbW hb).cell (p := ⟨b, off + i, none⟩) h2]; exact h3 i hi⟩
        have HVK : Hid (∀ w' i (h : i < ks.length), Calls Tryd.prog 27 #[.string ks[i]] w' fun r w2 => r = .returned (.bool (gdL ks[i].data.toList)) ∧ Below w'.heap.size w' w2) := fun w' i h => valid_any ks[i] w' (by have := z3 _ (List.getElem_mem h); unfold maxLen; omega)
        clear hk hl hr ih s1 s2 s3 z1 z2 z3 z4
        by_cases hlen : ks.length = l.length
        · have hq : ((ks.length : Int) != (l.length : Int)) = false := by rw [hlen]; simp
          clear hlen
          obtain ⟨a0, a1, a2, a3, a4, a5, a6, _, _, _, _, _, _, _⟩ := hA
          cases x
          · cases hte : (t.toList == [])
            · go_enter Tryd.func15, Tryd.ntmps15
              go_wp2
              go_ret
              exact ⟨⟨_, rfl⟩, hbW⟩
            · go_enter Tryd.func15, Tryd.ntmps15
              go_wp2_with fail
              refine (HC.out _).mono ?_
              rintro r w1 ⟨⟨c, rfl⟩, hb1⟩
              clear a0 a1 a2 a3 a4 a5 a6
              obtain ⟨a0, a1, a2, a3, a4, a5, a6, _, _, _, _, _, _, _⟩ := HA.out w1 hb1
              cases hcz : (c != 0)
              · go_wp2_with fail
                refine (HV.out _).mono ?_
                rintro r w2 ⟨rfl, hb2⟩
                have HW0 : Hid (Below W.heap.size W w2) := bl_t hb1 hb2
                clear a0 a1 a2 a3 a4 a5 a6 hb1 hb2
                obtain ⟨a0, a1, a2, a3, a4, a5, a6, _, _, _, _, _, _, _⟩ := HA.out w2 HW0.out
                cases gd
                · go_wp2
                  go_ret
                  exact ⟨⟨_, rfl⟩, HX.out _ HW0.out⟩
                · cases hLz : (L == 0)
                  · go_wp2_with fail
                    go_loopw [5] (fun tv wr => ∃ i : Nat, i ≤ ks.length ∧ tv = .int .i64 i ∧ Hid (Below W.heap.size W wr)) (fun tv _ => ks.length - (intOf tv).toNat)
                    case atStart => exact ⟨0, Nat.zero_le _, rfl, HW0⟩
                    case round =>
                      obtain ⟨i, hi, rfl, HWr⟩ := hrel
                      clear HW0 a0 a1 a2 a3 a4 a5 a6
                      have a6 := (HA.out wr HWr.out).c6
                      by_cases hlt : i < ks.length
                      · have hI : (i : Int) < (ks.length : Int) := by omega
                        obtain ⟨b, off, rfl, hce⟩ := (HKY.out wr HWr.out).resolve_left (fun e => by rw [e] at hlt; exact absurd hlt (by simp))
                        have e0 := hce i hlt
                        have hva := HVK.out wr i hlt
                        have HKI : Hid (∀ w' j, j < i → Below W.heap.size W w' → w'.cell? ⟨w.heap.size, 6, none⟩ = some (.slice (some ⟨b, off, none⟩) ks.length kc) ∧ w'.cell? ⟨b, off + i, none⟩ = some (.string (ks[i]'hlt)) ∧ ∃ y, w'.cell? ⟨b, off + j, none⟩ = some (.string y)) := fun w' j hj hb => by
                          obtain ⟨b2, off2, h2, hc2⟩ := (HKY.out w' hb).resolve_left (fun e => by rw [e] at hlt; exact absurd hlt (by simp))
                          injection h2 with h2
                          injection h2 with h2a h2b _
                          subst h2a h2b
                          exact ⟨(HA.out w' hb).c6, hc2 i hlt, _, hc2 j (by omega)⟩
                        have hii : (i : Int) ≤ 1073741824 := by omega
                        clear hce HC HV HL HI hx HKY HVK HA
                        generalize ks[i] = yi at *
                        cases hgk : gdL yi.data.toList
                        · rw [hgk] at hva
                          clear hgk
                          go_wp2_with (go_at_call 27; refine hva.mono ?_; rintro r w3 ⟨rfl, hb3⟩)
                          go_ret
                          exact ⟨⟨_, rfl⟩, HX.out _ (bl_t HWr.out hb3)⟩
                        · rw [hgk] at hva
                          clear hgk
                          go_wp2_with fail
                          refine hva.mono ?_
                          rintro r w3 ⟨rfl, hb3⟩
                          have HN : Hid (Below W.heap.size W w3) := bl_t HWr.out hb3
                          clear hva hb3 HWr a6 e0
                          go_wp2_with fail
                          go_loopw [6] (fun tv wq => ∃ j : Nat, j ≤ i ∧ tv = .int .i64 j ∧ Hid (Below W.heap.size W wq)) (fun tv _ => i - (intOf tv).toNat)
                          case atStart => exact ⟨0, Nat.zero_le _, rfl, HN⟩
                          case round =>
                            obtain ⟨j, hj, rfl, HQ⟩ := hrel
                            clear HN
                            by_cases hjl : j < i
                            · have hJ : (j : Int) < (i : Int) := by omega
                              have hJ2 : (j : Int) < (ks.length : Int) := by omega
                              obtain ⟨g6, gi, y, gj⟩ := HKI.out wr j hjl HQ.out
                              clear HKI
                              cases hey : (y.toList == yi.toList)
                              · go_wp2_with fail
                                go_quiet (fail)
                                go_wp2
                                go_roundw
                                case rel => exact ⟨j + 1, by omega, by go_num, bl_n HQ.out _⟩
                                case measure => simp [intOf]; omega
                              · go_wp2_with fail
                                go_quiet (fail)
                                go_wp2
                                go_ret
                                exact ⟨⟨_, rfl⟩, HX.out _ (bl_n HQ.out _)⟩
                            · have hJ : ¬ (j : Int) < (i : Int) := by omega
                              clear HKI
                              go_wp2
                              go_roundw
                              case rel => exact ⟨i + 1, by omega, by go_num, HQ⟩
                              case measure => simp [intOf]; omega
                      · have hI : ¬ (i : Int) < (ks.length : Int) := by omega
                        clear HKY HVK
                        go_wp2_with fail
                        have HW0 : Hid (Below W.heap.size W wr) := HWr
                        clear HWr a6
                        go_loopw [7] (fun tv wr => ∃ i : Nat, i ≤ l.length ∧ tv = .int .i64 i ∧ Hid (Below W.heap.size W wr)) (fun tv _ => l.length - (intOf tv).toNat)
                        case atStart => exact ⟨0, Nat.zero_le _, rfl, HW0⟩
                        case round =>
                          obtain ⟨i, hi, rfl, HWr⟩ := hrel
                          clear HW0
                          have a5 := (HA.out wr HWr.out).c5
                          by_cases hlt : i < l.length
                          · have hI : (i : Int) < (l.length : Int) := by omega
                            obtain ⟨b, off, rfl, hce⟩ := (HL.out wr HWr.out).resolve_left (fun e => by rw [e] at hlt; exact absurd hlt (by simp))
                            have e0 : wr.cell? ⟨b, off + i * 7, none⟩ = some (G i 0) := hce i hlt 0 (by omega)
                            have e1 := hce i hlt 1 (by omega)
                            have e2 := hce i hlt 2 (by omega)
                            have e3 := hce i hlt 3 (by omega)
                            have e4 := hce i hlt 4 (by omega)
                            have e5 := hce i hlt 5 (by omega)
                            have e6 := hce i hlt 6 (by omega)
                            have hcal := fun L' => HI.out wr i hlt L' HWr.out
                            clear hce HC HV HA HL HI hx 
                            go_wp2_with fail
                            refine (hcal _).mono ?_
                            rintro r w3 ⟨⟨bb, rfl⟩, hb3⟩
                            clear a5 e0 e1 e2 e3 e4 e5 e6 hcal
                            have HN : Hid (Below W.heap.size W w3) := bl_t HWr.out hb3
                            cases bb
                            · go_wp2
                              go_ret
                              exact ⟨⟨_, rfl⟩, HX.out _ HN.out⟩
                            · go_wp2
                              go_roundw
                              case rel => exact ⟨i + 1, by omega, by go_num, HN⟩
                              case measure => simp [intOf]; omega
                          · have hI : ¬ (i : Int) < (l.length : Int) := by omega
                            clear HC HV HA HL HI hx 
                            go_wp2
                            go_ret
                            exact ⟨⟨_, rfl⟩, HX.out _ HWr.out⟩
                  · go_wp2
                    go_ret
                    exact ⟨⟨_, rfl⟩, HX.out _ HW0.out⟩
              · go_wp2
                go_ret
                exact ⟨⟨_, rfl⟩, HX.out _ hb1⟩
          · go_enter Tryd.func15, Tryd.ntmps15
            go_wp2
            go_ret
            exact ⟨⟨_, rfl⟩, hbW⟩
        · have hq : ((ks.length : Int) != (l.length : Int)) = true := by simp; omega
          obtain ⟨a0, a1, a2, a3, a4, a5, a6, _, _, _, _, _, _, _⟩ := hA
          clear HI HL HKY HVK HA HC HV hlen
          cases x
          · cases hte : (t.toList == [])
            all_goals
              go_enter Tryd.func15, Tryd.ntmps15
              go_wp2
              go_ret
              exact ⟨⟨_, rfl⟩, hbW⟩
          · go_enter Tryd.func15, Tryd.ntmps15
            go_wp2
            go_ret
            exact ⟨⟨_, rfl⟩, hbW⟩
end Go.Proofs.YtkbkedknoahhgaaDoor
