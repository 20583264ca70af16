/-
  ref6.right, ref6.Check: they answer, whatever the value. Conditions: lists and texts of at most 2^30.
-/
import Derived.Test.YtkbkedknoahhgaaDoorJoined34
namespace Go.Proofs.YtkbkedknoahhgaaDoor
open Go.RowKit
attribute [local go_sem] setCell_drewN alloc_drewN

set_option maxRecDepth 100000 in
set_option maxHeartbeats 3200000 in
theorem rightS_any (v : JV) : Sm v → Sz v → ∀ (f : Nat → Value) (w : World) (L : Int), VI w (fun _ => False) v f →
    Calls Tryd.prog 15 #[va f, .int .i64 L] w fun r w' => RiR (ShV v) r ∧ Below w.heap.size w w' := by
  induction v using JV.ind with
  | h k n g e t l ks ih =>
  intro hsm hsz f w L hv
  cases hsm with
  | mk s1 s2 s3 =>
  cases hsz with
  | mk z1 z2 z3 z4 =>
  obtain ⟨ao, cap, ko, kc, G, hva, _, _, hr, hl, hk⟩ := hv.open
  rw [hva]
  clear hva hv
  obtain ⟨x, hx⟩ := neq_zero n g e
  have hlI : (l.length : Int) ≤ 1073741824 := by omega
  have hkI : (ks.length : Int) ≤ 1073741824 := by omega
  generalize hW : w.alloc (.cells #[.int .i64 k, .bool n, .string g, .int .i64 e, .string t, .slice ao l.length cap, .slice ko ks.length kc] 28) = W
  have hbW : Below w.heap.size w W := by rw [← hW]; exact bl_a (Below.refl _ _) _
  have hA : C7 W w.heap.size (.int .i64 k) (.bool n) (.string g) (.int .i64 e) (.string t) (.slice ao l.length cap) (.slice ko ks.length kc) := by
    rw [← hW]; exact C7.new w _ _ _ _ _ _ _ _
  have HA : Hid (∀ w', Below W.heap.size W w' → C7 w' w.heap.size (.int .i64 k) (.bool n) (.string g) (.int .i64 e) (.string t) (.slice ao l.length cap) (.slice ko ks.length kc)) := fun w' hb => hA.below hb hA.lt
  have HC : Hid (∀ w', Calls Tryd.prog 26 #[.agg #[.bool n, .string g, .int .i64 e]] w' fun r w2 => (∃ c, r = .returned (.int .i64 c)) ∧ Below w'.heap.size w' w2) := fun w' => rcheck3_any n g e w' z1
  have HV : Hid (∀ w', Calls Tryd.prog 27 #[.string t] w' fun r w2 => r = .returned (.bool (gdL t.data.toList)) ∧ Below w'.heap.size w' w2) := fun w' => valid_any t w' (by unfold maxLen; omega)
  have HX : Hid (∀ w', Below W.heap.size W w' → Below w.heap.size w w') := fun w' hb => bl_t hbW hb
  by_cases k0 : k < 0
  · obtain ⟨a0, a1, a2, a3, a4, a5, a6, _, _, _, _, _, _, _⟩ := hA
    clear HA HC HV hk hl hr ih
    go_enter Tryd.func15, Tryd.ntmps15
    go_wp2
    go_ret
    exact ⟨rir_no, hbW⟩
  · by_cases k6 : 6 < k
    · obtain ⟨a0, a1, a2, a3, a4, a5, a6, _, _, _, _, _, _, _⟩ := hA
      clear HA HC HV hk hl hr ih
      go_enter Tryd.func15, Tryd.ntmps15
      go_wp2
      go_ret
      exact ⟨rir_no, hbW⟩
    · generalize gdL t.data.toList = gd at *
      have hkk : (k = 0 ∨ k = 1 ∨ k = 2 ∨ k = 3 ∨ k = 4) ∨ k = 5 ∨ k = 6 := by omega
      rcases hkk with hkk | rfl | rfl
      · exact rightS_low _ k n g e t l.length ks.length ao ko cap kc w L hkk z1 z2 (fun q1 q2 => .mk (fun _ _ => q1) (fun _ => q2) (fun q => by omega) (fun c hc => by rw [List.eq_nil_of_length_eq_zero q1] at hc; simp at hc) (fun i j hi _ _ => by omega))
      · have HI : Hid (∀ w' i (h : i < l.length) (L' : Int), Below W.heap.size W w' → Calls Tryd.prog 15 #[.agg #[G i 0, G i 1, G i 2, G i 3, G i 4, G i 5, G i 6], .int .i64 L'] w' fun r w2 => RiR (ShV l[i]) r ∧ Below w'.heap.size w' w2) := fun w' i h L' hb => ih l[i] (List.getElem_mem h) (s3 _ (List.getElem_mem h)) (z4 _ (List.getElem_mem h)) (G i) w' L' ((hr i h).kept (bl_t hbW hb))
        have HL : Hid (∀ w', Below W.heap.size W w' → (l = [] ∨ ∃ b off, ao = some ⟨b, off, none⟩ ∧ ∀ i, i < l.length → ∀ j, j < 7 → w'.cell? ⟨b, off + i * 7 + j, none⟩ = some (G i j))) := fun w' hb => by
          rcases hl with hl | ⟨b, off, h1, h2, h3⟩
          · exact .inl hl
          · exact .inr ⟨b, off, h1, fun i hi j hj => by rw [(bl_t hbW hb).cell (p := ⟨b, off + i * 7 + j, none⟩) h2]; exact h3 i hi j hj⟩
        have HSH : Hid (ks.length = 0 → (∀ j (h : j < l.length), ShV l[j]) → ShV (.mk 5 n g e t l ks)) := fun q1 q2 => .mk (fun q _ => absurd rfl q) (fun _ => q1) (fun q => absurd q (by decide)) (fun c hc => by obtain ⟨j, hj, rfl⟩ := List.getElem_of_mem hc; exact q2 j hj) (fun i j hi _ _ => by omega)
        clear hk hl hr ih s1 s2 s3 z1 z2 z3 z4
        generalize ks.length = kl at *
        by_cases h1 : kl = 0
        · have HSH' := hid_intro (HSH.out h1)
          clear HSH
          subst h1
          obtain ⟨a0, a1, a2, a3, a4, a5, a6, _, _, _, _, _, _, _⟩ := hA
          cases x
          · cases hte : (t.toList == [])
            · go_enter Tryd.func15, Tryd.ntmps15
              go_wp2
              go_ret
              exact ⟨rir_no, hbW⟩
            · go_enter Tryd.func15, Tryd.ntmps15
              go_wp2_with fail
              refine (HC.out _).mono ?_
              rintro r w1 ⟨⟨c, rfl⟩, hb1⟩
              clear a0 a1 a2 a3 a4 a5 a6
              obtain ⟨a0, a1, a2, a3, a4, a5, a6, _, _, _, _, _, _, _⟩ := HA.out w1 hb1
              cases hcz : (c != 0)
              · go_wp2_with fail
                refine (HV.out _).mono ?_
                rintro r w2 ⟨rfl, hb2⟩
                have HW0 : Hid (Below W.heap.size W w2) := bl_t hb1 hb2
                clear a0 a1 a2 a3 a4 a5 a6 hb1 hb2
                obtain ⟨a0, a1, a2, a3, a4, a5, a6, _, _, _, _, _, _, _⟩ := HA.out w2 HW0.out
                cases gd
                · go_wp2
                  go_ret
                  exact ⟨rir_no, HX.out _ HW0.out⟩
                · cases hLz : (L == 0)
                  · go_wp2_with fail
                    refine wp_loop_rounds 1 ?_
                    rw [rounds_succ]
                    go_wp2_with fail
                    clear a0 a1 a2 a3 a4 a5 a6
                    go_loopw [7] (fun tv wr => ∃ i : Nat, i ≤ l.length ∧ tv = .int .i64 i ∧ Hid (Below W.heap.size W wr) ∧ Hid (∀ j (h : j < l.length), j < i → ShV l[j])) (fun tv _ => l.length - (intOf tv).toNat)
                    case atStart => exact ⟨0, Nat.zero_le _, rfl, HW0, fun j _ h => absurd h (Nat.not_lt_zero j)⟩
                    case round =>
                      obtain ⟨i, hi, rfl, HWr, HSJ⟩ := hrel
                      clear HW0
                      have a5 := (HA.out wr HWr.out).c5
                      by_cases hlt : i < l.length
                      · have hI : (i : Int) < (l.length : Int) := by omega
                        obtain ⟨b, off, rfl, hce⟩ := (HL.out wr HWr.out).resolve_left (fun e => by rw [e] at hlt; exact absurd hlt (by simp))
                        have e0 : wr.cell? ⟨b, off + i * 7, none⟩ = some (G i 0) := hce i hlt 0 (by omega)
                        have e1 := hce i hlt 1 (by omega)
                        have e2 := hce i hlt 2 (by omega)
                        have e3 := hce i hlt 3 (by omega)
                        have e4 := hce i hlt 4 (by omega)
                        have e5 := hce i hlt 5 (by omega)
                        have e6 := hce i hlt 6 (by omega)
                        have hcal := fun L' => HI.out wr i hlt L' HWr.out
                        clear hce HC HV HA HL HI hx 
                        go_wp2_with fail
                        refine (hcal _).mono ?_
                        rintro r w3 ⟨⟨bb, rfl, hbb⟩, hb3⟩
                        have HBB := hid_intro hbb
                        clear hbb
                        clear a5 e0 e1 e2 e3 e4 e5 e6 hcal
                        have HN : Hid (Below W.heap.size W w3) := bl_t HWr.out hb3
                        cases bb
                        · go_wp2
                          go_ret
                          exact ⟨rir_no, HX.out _ HN.out⟩
                        · go_wp2
                          go_roundw
                          case rel => exact ⟨i + 1, by omega, by go_num, HN, fun j hj hji => by
                              by_cases e : j = i
                              · subst e; exact HBB.out trivial
                              · exact HSJ.out j hj (by omega)⟩
                          case measure => simp [intOf]; omega
                      · have hI : ¬ (i : Int) < (l.length : Int) := by omega
                        clear HC HV HA HL HI hx 
                        go_wp2
                        go_ret
                        exact ⟨rir_yes (HSH'.out (fun j hj => HSJ.out j hj (by omega))), HX.out _ HWr.out⟩
                  · go_wp2
                    go_ret
                    exact ⟨rir_no, HX.out _ HW0.out⟩
              · go_wp2
                go_ret
                exact ⟨rir_no, HX.out _ hb1⟩
          · go_enter Tryd.func15, Tryd.ntmps15
            go_wp2
            go_ret
            exact ⟨rir_no, hbW⟩
        · have h1' : (0 : Int) < (kl : Int) := by omega
          obtain ⟨a0, a1, a2, a3, a4, a5, a6, _, _, _, _, _, _, _⟩ := hA
          go_enter Tryd.func15, Tryd.ntmps15
          go_wp2
          all_goals (go_ret; exact ⟨rir_no, hbW⟩)
      · have HI : Hid (∀ w' i (h : i < l.length) (L' : Int), Below W.heap.size W w' → Calls Tryd.prog 15 #[.agg #[G i 0, G i 1, G i 2, G i 3, G i 4, G i 5, G i 6], .int .i64 L'] w' fun r w2 => RiR (ShV l[i]) r ∧ Below w'.heap.size w' w2) := fun w' i h L' hb => ih l[i] (List.getElem_mem h) (s3 _ (List.getElem_mem h)) (z4 _ (List.getElem_mem h)) (G i) w' L' ((hr i h).kept (bl_t hbW hb))
        have HL : Hid (∀ w', Below W.heap.size W w' → (l = [] ∨ ∃ b off, ao = some ⟨b, off, none⟩ ∧ ∀ i, i < l.length → ∀ j, j < 7 → w'.cell? ⟨b, off + i * 7 + j, none⟩ = some (G i j))) := fun w' hb => by
          rcases hl with hl | ⟨b, off, h1, h2, h3⟩
          · exact .inl hl
          · exact .inr ⟨b, off, h1, fun i hi j hj => by rw [(bl_t hbW hb).cell (p := ⟨b, off + i * 7 + j, none⟩) h2]; exact h3 i hi j hj⟩
        have HKY : Hid (∀ w', Below W.heap.size W w' → (ks = [] ∨ ∃ b off, ko = some ⟨b, off, none⟩ ∧ ∀ i (h : i < ks.length), w'.cell? ⟨b, off + i, none⟩ = some (.string ks[i]))) := fun w' hb => by
          rcases hk with hk | ⟨b, off, h1, h2, h3⟩
          · exact .inl hk
          · exact .inr ⟨b, off, h1, fun i hi => by rw [(bl_t hbW hb).cell (p := ⟨b, off + i, none⟩) h2]; exact h3 i hi⟩
        have HVK : Hid (∀ w' i (h : i < ks.length), Calls Tryd.prog 27 #[.string ks[i]] w' fun r w2 => r = .returned (.bool (gdL ks[i].data.toList)) ∧ Below w'.heap.size w' w2) := fun w' i h => valid_any ks[i] w' (by have := z3 _ (List.getElem_mem h); unfold maxLen; omega)
        clear hk hl hr ih s1 s2 s3 z1 z2 z3 z4
        by_cases hlen : ks.length = l.length
        · have HSH6 : Hid ((∀ i j (hi : i < ks.length) (hj : j < ks.length), i < j → ks[i] ≠ ks[j]) → (∀ j (h : j < l.length), ShV l[j]) → ShV (.mk 6 n g e t l ks)) := fun q1 q2 => .mk (fun _ q => absurd rfl q) (fun q => absurd rfl q) (fun _ => hlen) (fun c hc => by obtain ⟨j, hj, rfl⟩ := List.getElem_of_mem hc; exact q2 j hj) q1
          have hq : ((ks.length : Int) != (l.length : Int)) = false := by rw [hlen]; simp
          clear hlen
          obtain ⟨a0, a1, a2, a3, a4, a5, a6, _, _, _, _, _, _, _⟩ := hA
          cases x
          · cases hte : (t.toList == [])
            · go_enter Tryd.func15, Tryd.ntmps15
              go_wp2
              go_ret
              exact ⟨rir_no, hbW⟩
            · go_enter Tryd.func15, Tryd.ntmps15
              go_wp2_with fail
              refine (HC.out _).mono ?_
              rintro r w1 ⟨⟨c, rfl⟩, hb1⟩
              clear a0 a1 a2 a3 a4 a5 a6
              obtain ⟨a0, a1, a2, a3, a4, a5, a6, _, _, _, _, _, _, _⟩ := HA.out w1 hb1
              cases hcz : (c != 0)
              · go_wp2_with fail
                refine (HV.out _).mono ?_
                rintro r w2 ⟨rfl, hb2⟩
                have HW0 : Hid (Below W.heap.size W w2) := bl_t hb1 hb2
                clear a0 a1 a2 a3 a4 a5 a6 hb1 hb2
                obtain ⟨a0, a1, a2, a3, a4, a5, a6, _, _, _, _, _, _, _⟩ := HA.out w2 HW0.out
                cases gd
                · go_wp2
                  go_ret
                  exact ⟨rir_no, HX.out _ HW0.out⟩
                · cases hLz : (L == 0)
                  · go_wp2_with fail
                    go_loopw [5] (fun tv wr => ∃ i : Nat, i ≤ ks.length ∧ tv = .int .i64 i ∧ Hid (Below W.heap.size W wr) ∧ Hid (∀ a b (ha : a < ks.length) (hb : b < ks.length), a < b → b < i → ks[a] ≠ ks[b])) (fun tv _ => ks.length - (intOf tv).toNat)
                    case atStart => exact ⟨0, Nat.zero_le _, rfl, HW0, fun a b _ _ _ h => absurd h (Nat.not_lt_zero b)⟩
                    case round =>
                      obtain ⟨i, hi, rfl, HWr, HUN⟩ := hrel
                      clear HW0 a0 a1 a2 a3 a4 a5 a6
                      have a6 := (HA.out wr HWr.out).c6
                      by_cases hlt : i < ks.length
                      · have hI : (i : Int) < (ks.length : Int) := by omega
                        obtain ⟨b, off, rfl, hce⟩ := (HKY.out wr HWr.out).resolve_left (fun e => by rw [e] at hlt; exact absurd hlt (by simp))
                        have e0 := hce i hlt
                        have hva := HVK.out wr i hlt
                        have HKI : Hid (∀ w' j, j < i → Below W.heap.size W w' → w'.cell? ⟨w.heap.size, 6, none⟩ = some (.slice (some ⟨b, off, none⟩) ks.length kc) ∧ w'.cell? ⟨b, off + i, none⟩ = some (.string (ks[i]'hlt)) ∧ ∃ y, w'.cell? ⟨b, off + j, none⟩ = some (.string y) ∧ ∃ (hj2 : j < ks.length), ks[j] = y) := fun w' j hj hb => by
                          obtain ⟨b2, off2, h2, hc2⟩ := (HKY.out w' hb).resolve_left (fun e => by rw [e] at hlt; exact absurd hlt (by simp))
                          injection h2 with h2
                          injection h2 with h2a h2b _
                          subst h2a h2b
                          exact ⟨(HA.out w' hb).c6, hc2 i hlt, _, hc2 j (by omega), by omega, rfl⟩
                        have hii : (i : Int) ≤ 1073741824 := by omega
                        clear hce HC HV HL HI hx HKY HVK HA
                        generalize hyi : ks[i] = yi at hva e0 HKI
                        have HYI : Hid (ks[i]'hlt = yi) := hid_intro hyi
                        have HLT := hid_intro hlt
                        clear hyi
                        cases hgk : gdL yi.data.toList
                        · rw [hgk] at hva
                          clear hgk
                          go_wp2_with (go_at_call 27; refine hva.mono ?_; rintro r w3 ⟨rfl, hb3⟩)
                          go_ret
                          exact ⟨rir_no, HX.out _ (bl_t HWr.out hb3)⟩
                        · rw [hgk] at hva
                          clear hgk
                          go_wp2_with fail
                          refine hva.mono ?_
                          rintro r w3 ⟨rfl, hb3⟩
                          have HN : Hid (Below W.heap.size W w3) := bl_t HWr.out hb3
                          clear hva hb3 HWr a6 e0
                          go_wp2_with fail
                          go_loopw [6] (fun tv wq => ∃ j : Nat, j ≤ i ∧ tv = .int .i64 j ∧ Hid (Below W.heap.size W wq) ∧ Hid (∀ a (ha : a < ks.length), a < j → ks[a] ≠ yi)) (fun tv _ => i - (intOf tv).toNat)
                          case atStart => exact ⟨0, Nat.zero_le _, rfl, HN, fun a _ h => absurd h (Nat.not_lt_zero a)⟩
                          case round =>
                            obtain ⟨j, hj, rfl, HQ, HU2⟩ := hrel
                            clear HN
                            by_cases hjl : j < i
                            · have hJ : (j : Int) < (i : Int) := by omega
                              have hJ2 : (j : Int) < (ks.length : Int) := by omega
                              obtain ⟨g6, gi, y, gj, hj2, hjy⟩ := HKI.out wr j hjl HQ.out
                              have HJY := hid_intro hjy
                              have HJL := hid_intro hjl
                              clear hjy
                              clear HKI
                              cases hey : (y.toList == yi.toList)
                              · have HNE : Hid (y ≠ yi) := hid_intro (fun h => by rw [h] at hey; simp at hey)
                                go_wp2_with fail
                                go_quiet (fail)
                                go_wp2
                                go_roundw
                                case rel => exact ⟨j + 1, by have := HJL.out; omega, by go_num, bl_n HQ.out _, fun a ha haj => by
                                  by_cases e : a = j
                                  · subst e; rw [HJY.out]; exact HNE.out
                                  · exact HU2.out a ha (by omega)⟩
                                case measure => simp [intOf]; omega
                              · go_wp2_with fail
                                go_quiet (fail)
                                go_wp2
                                go_ret
                                exact ⟨rir_no, HX.out _ (bl_n HQ.out _)⟩
                            · have hJ : ¬ (j : Int) < (i : Int) := by omega
                              clear HKI
                              go_wp2
                              go_roundw
                              case rel => exact ⟨i + 1, by have := HLT.out; omega, by go_num, HQ, fun a b ha hb hab hbi => by
                                by_cases e : b = i
                                · subst e; rw [HYI.out]; exact HU2.out a ha (by omega)
                                · exact HUN.out a b ha hb hab (by omega)⟩
                              case measure => simp [intOf]; omega
                      · have hI : ¬ (i : Int) < (ks.length : Int) := by omega
                        have HKEY : Hid (∀ a b (ha : a < ks.length) (hb : b < ks.length), a < b → ks[a] ≠ ks[b]) := hid_intro (fun a b ha hb hab => HUN.out a b ha hb hab (by omega))
                        clear HKY HVK
                        go_wp2_with fail
                        have HW0 : Hid (Below W.heap.size W wr) := HWr
                        clear HWr a6
                        go_loopw [7] (fun tv wr => ∃ i : Nat, i ≤ l.length ∧ tv = .int .i64 i ∧ Hid (Below W.heap.size W wr) ∧ Hid (∀ j (h : j < l.length), j < i → ShV l[j])) (fun tv _ => l.length - (intOf tv).toNat)
                        case atStart => exact ⟨0, Nat.zero_le _, rfl, HW0, fun j _ h => absurd h (Nat.not_lt_zero j)⟩
                        case round =>
                          obtain ⟨i, hi, rfl, HWr, HSJ⟩ := hrel
                          clear HW0
                          have a5 := (HA.out wr HWr.out).c5
                          by_cases hlt : i < l.length
                          · have hI : (i : Int) < (l.length : Int) := by omega
                            obtain ⟨b, off, rfl, hce⟩ := (HL.out wr HWr.out).resolve_left (fun e => by rw [e] at hlt; exact absurd hlt (by simp))
                            have e0 : wr.cell? ⟨b, off + i * 7, none⟩ = some (G i 0) := hce i hlt 0 (by omega)
                            have e1 := hce i hlt 1 (by omega)
                            have e2 := hce i hlt 2 (by omega)
                            have e3 := hce i hlt 3 (by omega)
                            have e4 := hce i hlt 4 (by omega)
                            have e5 := hce i hlt 5 (by omega)
                            have e6 := hce i hlt 6 (by omega)
                            have hcal := fun L' => HI.out wr i hlt L' HWr.out
                            clear hce HC HV HA HL HI hx 
                            go_wp2_with fail
                            refine (hcal _).mono ?_
                            rintro r w3 ⟨⟨bb, rfl, hbb⟩, hb3⟩
                            have HBB := hid_intro hbb
                            clear hbb
                            clear a5 e0 e1 e2 e3 e4 e5 e6 hcal
                            have HN : Hid (Below W.heap.size W w3) := bl_t HWr.out hb3
                            cases bb
                            · go_wp2
                              go_ret
                              exact ⟨rir_no, HX.out _ HN.out⟩
                            · go_wp2
                              go_roundw
                              case rel => exact ⟨i + 1, by omega, by go_num, HN, fun j hj hji => by
                                  by_cases e : j = i
                                  · subst e; exact HBB.out trivial
                                  · exact HSJ.out j hj (by omega)⟩
                              case measure => simp [intOf]; omega
                          · have hI : ¬ (i : Int) < (l.length : Int) := by omega
                            clear HC HV HA HL HI hx 
                            go_wp2
                            go_ret
                            exact ⟨rir_yes (HSH6.out HKEY.out (fun j hj => HSJ.out j hj (by omega))), HX.out _ HWr.out⟩
                  · go_wp2
                    go_ret
                    exact ⟨rir_no, HX.out _ HW0.out⟩
              · go_wp2
                go_ret
                exact ⟨rir_no, HX.out _ hb1⟩
          · go_enter Tryd.func15, Tryd.ntmps15
            go_wp2
            go_ret
            exact ⟨rir_no, hbW⟩
        · have hq : ((ks.length : Int) != (l.length : Int)) = true := by simp; omega
          obtain ⟨a0, a1, a2, a3, a4, a5, a6, _, _, _, _, _, _, _⟩ := hA
          clear HI HL HKY HVK HA HC HV hlen
          cases x
          · cases hte : (t.toList == [])
            all_goals
              go_enter Tryd.func15, Tryd.ntmps15
              go_wp2
              go_ret
              exact ⟨rir_no, hbW⟩
          · go_enter Tryd.func15, Tryd.ntmps15
            go_wp2
            go_ret
            exact ⟨rir_no, hbW⟩
set_option maxRecDepth 100000 in
set_option maxHeartbeats 800000 in
theorem check6S_any (v : JV) (f : Nat → Value) (w : World) (hs : Sm v) (hz : Sz v) (hv : VI w (fun _ => False) v f) :
    Calls Tryd.prog 5 #[.agg #[f 0, f 1, f 2, f 3, f 4, f 5, f 6]] w fun r w' => (∃ c, r = .returned (.int .i64 c) ∧ (c = 0 → ShV v)) ∧ Below w.heap.size w w' := by
  have hr : ∀ w', Below w.heap.size w w' → Calls Tryd.prog 15 #[.agg #[f 0, f 1, f 2, f 3, f 4, f 5, f 6], .int .i64 10000] w' fun r w2 => RiR (ShV v) r ∧ Below w'.heap.size w' w2 := fun w' hb => rightS_any v hs hz f w' 10000 (hv.kept hb)
  obtain ⟨k, n, g, e, t, la, lm, lc, ka, km, kc, f0, f1, f2, f3, f4, f5, f6⟩ := hv.shape
  rw [f0, f1, f2, f3, f4, f5, f6] at hr ⊢
  clear hv f0 f1 f2 f3 f4 f5 f6 hs hz
  go_enter Tryd.func5, Tryd.ntmps5
  go_wp2_with fail
  refine (hr _ (bl_a (Below.refl _ _) _)).mono ?_
  rintro r w1 ⟨⟨b, rfl, hbb⟩, hb1⟩
  have HBB := hid_intro hbb
  clear hbb
  have hbel : Below w.heap.size w w1 := bl_t (bl_a (Below.refl _ _) _) hb1
  clear hr hb1
  cases b
  · go_wp2
    go_ret
    exact ⟨⟨_, rfl, fun h => absurd h (by decide)⟩, hbel⟩
  · go_wp2
    go_ret
    exact ⟨⟨_, rfl, fun _ => HBB.out trivial⟩, hbel⟩
end Go.Proofs.YtkbkedknoahhgaaDoor
