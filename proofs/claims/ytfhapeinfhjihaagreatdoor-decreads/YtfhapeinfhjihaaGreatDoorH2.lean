/-
  What ref3.Value answers: the number of parts, however far its exponent is. Conditions: the parts are digits.
-/
import Derived.Test.YtfhapeinfhjihaaGreatDoorH1
namespace Go.Proofs.YtfhapeinfhjihaaGreatDoor
open Go.RowKit
attribute [local go_sem] setCell_drewN alloc_drewN

/-- The number of parts, however far its exponent is. -/
def vD (p : P3) : D3 := if dgOf p = [] then zeroD else ⟨p.neg, dgOf p, exOf 99999999 p⟩
theorem extract_mid (s : ByteArray) (i j : Nat) : s.extract i j = bs ((s.data.toList.take j).drop i) := by
  have h := Lib.extract_toList s i j
  rw [← bs_self (s.extract i j), ← ByteArray.toList_eq, h, List.drop_take]

set_option maxRecDepth 100000 in
set_option maxHeartbeats 3200000 in
theorem rvalue_any (p : P3) (w : World) (hs : (allOf p).length ≤ 140737488355328) (hd : p.exp.all isD = true) (hx : p.exp.length ≤ maxLen) :
    Calls Tryz.prog 27 #[pv p] w fun e w' => e = .returned (d3 (vD p)) ∧ Below w.heap.size w w' := by
  have ha : bs p.int ++ bs p.frac = bs (allOf p) := bs_append _ _
  have hx9 : (bs p.exp).size ≤ maxLen := by rw [bs_size]; exact hx
  have hd9 : (bs p.exp).data.toList.all isD = true := by rw [bs_list]; exact hd
  obtain ⟨A, hAe⟩ : ∃ A, bs (allOf p) = A := ⟨_, rfl⟩
  rw [hAe] at ha
  have HA : Hid (allOf p = A.data.toList) := by show _ = _; rw [← hAe, bs_list]
  have hAs : A.size ≤ 140737488355328 := by rw [← hAe, bs_size]; exact hs
  have hAI : (A.size : Int) ≤ 140737488355328 := by omega
  have hsN : (bs p.int).size + (bs p.frac).size ≤ 140737488355328 := by rw [bs_size, bs_size]; unfold allOf at hs; rw [List.length_append] at hs; exact hs
  have hsI : ((bs p.int).size : Int) + ((bs p.frac).size : Int) ≤ 140737488355328 := by omega
  clear hAe hs hd hx
  unfold pv
  go_enter Tryz.func27, Tryz.ntmps27
  go_wp2_with fail
  go_loop [4] (fun i => ∃ k : Nat, k ≤ A.size ∧ i = .int .i64 k ∧ Hid (∀ (j : Nat) (c : UInt8), j < k → A.data.toList[j]? = some c → c = 48)) (fun i => A.size - (intOf i).toNat)
  case atStart => exact ⟨0, Nat.zero_le _, rfl, fun j c hj => absurd hj (by omega)⟩
  case round =>
    obtain ⟨k, hk, rfl, HK⟩ := hrel
    by_cases hlt : k < A.size
    · have kI : (k : Int) < (A.size : Int) := by omega
      have hxk := cx_at A k hlt
      by_cases h48 : cx A k = 48
      · rw [h48] at hxk
        have HK2 : Hid (∀ (j : Nat) (c : UInt8), j < k + 1 → A.data.toList[j]? = some c → c = 48) := fun j c hj hc => by
          by_cases e : j = k
          · subst e
            obtain ⟨b', hb', hc'⟩ := cx_get A j hlt
            rw [hb'] at hc
            have := Option.some.inj hc
            subst this
            exact UInt8.toNat_inj.1 (by have : (48 : UInt8).toNat = 48 := rfl; omega)
          · exact HK.out j c (by omega) hc
        clear HK h48
        go_wp2
        go_round
        case rel => exact ⟨k + 1, by omega, by go_num, HK2.out⟩
        case measure => simp [intOf] <;> omega
      · have HF : Hid (k = A.data.toList.length ∨ ∀ c, A.data.toList[k]? = some c → c ≠ 48) := .inr (fun c hc e => h48 (by
          obtain ⟨b', hb', hc'⟩ := cx_get A k hlt
          rw [hb'] at hc
          have := Option.some.inj hc
          rw [this, e] at hc'
          rw [← hc']; rfl))
        have hnk : ((cx A k) == 48) = false := beq_eq_false_iff_ne.2 h48
        rw [← hxk] at hnk
        clear h48 hxk
        go_wp2_with fail
        try clear hnk
        go_loop [5] (fun i => ∃ h : Nat, k ≤ h ∧ h ≤ A.size ∧ i = .int .i64 h ∧ Hid (∀ (j : Nat) (c : UInt8), h ≤ j → A.data.toList[j]? = some c → c = 48)) (fun i => (intOf i).toNat)
        case atStart => exact ⟨A.size, hk, Nat.le_refl _, rfl, fun j c hj hc => by rw [List.getElem?_eq_none (by rw [len_of]; exact hj)] at hc; cases hc⟩
        case round =>
          obtain ⟨h, hkh, hhA, rfl, HH⟩ := hrel
          by_cases hlt : k < h
          · obtain ⟨g, rfl⟩ : ∃ g, h = g + 1 := ⟨h - 1, by omega⟩
            have i0 : ((g + 1 : Nat) : Int) - 1 = (g : Int) := by omega
            have i1 : (g : Int) < (A.size : Int) := by omega
            have i2 : (k : Int) < ((g + 1 : Nat) : Int) := by omega
            have hgA : g < A.size := by omega
            have hx := cx_at A g hgA
            by_cases h48 : cx A g = 48
            · rw [h48] at hx
              have HH2 : Hid (∀ (j : Nat) (c : UInt8), g ≤ j → A.data.toList[j]? = some c → c = 48) := fun j c hj hc => by
                by_cases e : j = g
                · subst e
                  obtain ⟨b', hb', hc'⟩ := cx_get A j hgA
                  rw [hb'] at hc
                  have := Option.some.inj hc
                  subst this
                  exact UInt8.toNat_inj.1 (by have : (48 : UInt8).toNat = 48 := rfl; omega)
                · exact HH.out j c (by omega) hc
              clear HH h48
              go_wp2
              go_round
              case rel => exact ⟨g, by omega, by omega, by go_num, HH2.out⟩
              case measure => simp [intOf] <;> omega
            · have hC : Cuts A.data.toList k (g + 1) := ⟨by omega, by rw [len_of]; omega, HK.out, HF.out, HH.out, .inr (fun c hc e => h48 (by
                rw [show g + 1 - 1 = g by omega] at hc
                obtain ⟨b', hb', hc'⟩ := cx_get A g hgA
                rw [hb'] at hc
                have := Option.some.inj hc
                rw [this, e] at hc'
                rw [← hc']; rfl))⟩
              have hne : ((cx A g) == 48) = false := beq_eq_false_iff_ne.2 h48
              rw [← hx] at hne
              obtain ⟨e1, e2, e3⟩ := hC.some (by omega)
              have hdg : dgOf p = (A.data.toList.take (g + 1)).drop k := by rw [← e2, ← HA.out]; rfl
              have hup : (upOf p).length = g + 1 := by rw [show upOf p = A.data.toList.take (g + 1) by rw [← e1, ← HA.out]; rfl, List.length_take, len_of]; omega
              have HR : Hid (vD p = ⟨p.neg, dgOf p, exOf 99999999 p⟩) := if_neg (by rw [hdg]; exact e3)
              have HX : Hid (A.extract k (g + 1) = bs (dgOf p)) := by show _ = _; rw [extract_mid, hdg]
              have HE : Hid (expOf 99999999 p - ((bs p.frac).size : Int) + ((A.size : Int) - ((g + 1 : Nat) : Int)) = exOf 99999999 p) := by
                show _ = _
                unfold exOf
                rw [hup, HA.out, len_of, bs_size]; omega
              have hfb : (bs p.frac).size ≤ A.size := by
                rw [bs_size, ← len_of A, ← HA.out]; unfold allOf; simp
              have hfar := fun w => rfar_any (bs p.exp) w hx9 hd9
              have hcap : capN 99999999 (bs p.exp) (bs p.exp).size = min (num p.exp) 99999999 := by
                unfold capN; rw [bs_list, bs_size, List.take_length]
              have hcb := capN_bd 99999999 (by decide) (bs p.exp) (bs p.exp).size hd9
              have HCE : Hid ((if p.minus = true then -(capN 99999999 (bs p.exp) (bs p.exp).size) else capN 99999999 (bs p.exp) (bs p.exp).size) = expOf 99999999 p) := by
                show _ = _
                unfold expOf; rw [hcap]
              have kg : k ≠ g + 1 := by omega
              have kgI : ((k : Int) == ((g + 1 : Nat) : Int)) = false := beq_eq_false_iff_ne.2 (by omega)
              clear hC e1 e2 e3 hdg hup h48 hcap HH
              generalize capN 99999999 (bs p.exp) (bs p.exp).size = Q at *
              generalize bs p.exp = x at *
              generalize bs p.frac = b at *
              generalize bs p.int = a at *
              cases hm : p.minus
              all_goals
                rw [hm] at HCE
                simp only [Bool.false_eq_true, if_false, if_true] at HCE
                clear hm
                go_wp2_with (go_at_call 57; refine (hfar _).mono ?_; rintro e w' ⟨rfl, rfl⟩)
                go_region
                all_goals (try go_wp2)
                all_goals (refine bodyPost_ret (v := d3 (vD p)) ?_ rfl ?_)
                all_goals first | (exact ⟨rfl, (by with_reducible repeat (first | exact Below.refl _ _ | refine bl_d ?_ | refine bl_n ?_ _ | refine bl_a ?_ _ | refine bl_s ?_ (by omega) _))⟩) | (simp [results, Tryz.results27, go_sem, d3, HR.out, HX.out, HCE.out]; done) | (rw [HR.out]; simp only [d3]; rw [← HX.out, ← HE.out, ← HCE.out]; simp [results, Tryz.results27, go_sem])
          · obtain rfl : h = k := by omega
            have hC : Cuts A.data.toList h h := ⟨Nat.le_refl _, by rw [len_of]; omega, HK.out, HF.out, HH.out, .inl rfl⟩
            have e1 := hC.none
            rw [← HA.out] at e1
            have HR : Hid (vD p = zeroD) := if_pos e1
            have hzz : d3 zeroD = .agg #[.bool false, .string ⟨#[]⟩, .int .i64 0] := rfl
            clear hC e1 HH hlt
            go_wp2
            refine bodyPost_ret (v := d3 (vD p)) ?_ rfl ?_
            · rw [HR.out, hzz]; simp [results, Tryz.results27, go_sem]
            · exact ⟨rfl, (by with_reducible repeat (first | exact Below.refl _ _ | refine bl_d ?_ | refine bl_n ?_ _ | refine bl_a ?_ _ | refine bl_s ?_ (by omega) _))⟩
    · have HF : Hid (k = A.data.toList.length ∨ ∀ c, A.data.toList[k]? = some c → c ≠ 48) := .inl (by rw [len_of]; omega)
      have kd : decide (k < A.size) = false := decide_eq_false hlt
      clear hlt
      go_wp2_with fail
      try clear kd
      go_loop [5] (fun i => ∃ h : Nat, k ≤ h ∧ h ≤ A.size ∧ i = .int .i64 h ∧ Hid (∀ (j : Nat) (c : UInt8), h ≤ j → A.data.toList[j]? = some c → c = 48)) (fun i => (intOf i).toNat)
      case atStart => exact ⟨A.size, hk, Nat.le_refl _, rfl, fun j c hj hc => by rw [List.getElem?_eq_none (by rw [len_of]; exact hj)] at hc; cases hc⟩
      case round =>
        obtain ⟨h, hkh, hhA, rfl, HH⟩ := hrel
        by_cases hlt : k < h
        · obtain ⟨g, rfl⟩ : ∃ g, h = g + 1 := ⟨h - 1, by omega⟩
          have i0 : ((g + 1 : Nat) : Int) - 1 = (g : Int) := by omega
          have i1 : (g : Int) < (A.size : Int) := by omega
          have i2 : (k : Int) < ((g + 1 : Nat) : Int) := by omega
          have hgA : g < A.size := by omega
          have hx := cx_at A g hgA
          by_cases h48 : cx A g = 48
          · rw [h48] at hx
            have HH2 : Hid (∀ (j : Nat) (c : UInt8), g ≤ j → A.data.toList[j]? = some c → c = 48) := fun j c hj hc => by
              by_cases e : j = g
              · subst e
                obtain ⟨b', hb', hc'⟩ := cx_get A j hgA
                rw [hb'] at hc
                have := Option.some.inj hc
                subst this
                exact UInt8.toNat_inj.1 (by have : (48 : UInt8).toNat = 48 := rfl; omega)
              · exact HH.out j c (by omega) hc
            clear HH h48
            go_wp2
            go_round
            case rel => exact ⟨g, by omega, by omega, by go_num, HH2.out⟩
            case measure => simp [intOf] <;> omega
          · have hC : Cuts A.data.toList k (g + 1) := ⟨by omega, by rw [len_of]; omega, HK.out, HF.out, HH.out, .inr (fun c hc e => h48 (by
              rw [show g + 1 - 1 = g by omega] at hc
              obtain ⟨b', hb', hc'⟩ := cx_get A g hgA
              rw [hb'] at hc
              have := Option.some.inj hc
              rw [this, e] at hc'
              rw [← hc']; rfl))⟩
            have hne : ((cx A g) == 48) = false := beq_eq_false_iff_ne.2 h48
            rw [← hx] at hne
            obtain ⟨e1, e2, e3⟩ := hC.some (by omega)
            have hdg : dgOf p = (A.data.toList.take (g + 1)).drop k := by rw [← e2, ← HA.out]; rfl
            have hup : (upOf p).length = g + 1 := by rw [show upOf p = A.data.toList.take (g + 1) by rw [← e1, ← HA.out]; rfl, List.length_take, len_of]; omega
            have HR : Hid (vD p = ⟨p.neg, dgOf p, exOf 99999999 p⟩) := if_neg (by rw [hdg]; exact e3)
            have HX : Hid (A.extract k (g + 1) = bs (dgOf p)) := by show _ = _; rw [extract_mid, hdg]
            have HE : Hid (expOf 99999999 p - ((bs p.frac).size : Int) + ((A.size : Int) - ((g + 1 : Nat) : Int)) = exOf 99999999 p) := by
              show _ = _
              unfold exOf
              rw [hup, HA.out, len_of, bs_size]; omega
            have hfb : (bs p.frac).size ≤ A.size := by
              rw [bs_size, ← len_of A, ← HA.out]; unfold allOf; simp
            have hfar := fun w => rfar_any (bs p.exp) w hx9 hd9
            have hcap : capN 99999999 (bs p.exp) (bs p.exp).size = min (num p.exp) 99999999 := by
              unfold capN; rw [bs_list, bs_size, List.take_length]
            have hcb := capN_bd 99999999 (by decide) (bs p.exp) (bs p.exp).size hd9
            have HCE : Hid ((if p.minus = true then -(capN 99999999 (bs p.exp) (bs p.exp).size) else capN 99999999 (bs p.exp) (bs p.exp).size) = expOf 99999999 p) := by
              show _ = _
              unfold expOf; rw [hcap]
            have kg : k ≠ g + 1 := by omega
            have kgI : ((k : Int) == ((g + 1 : Nat) : Int)) = false := beq_eq_false_iff_ne.2 (by omega)
            clear hC e1 e2 e3 hdg hup h48 hcap HH
            generalize capN 99999999 (bs p.exp) (bs p.exp).size = Q at *
            generalize bs p.exp = x at *
            generalize bs p.frac = b at *
            generalize bs p.int = a at *
            cases hm : p.minus
            all_goals
              rw [hm] at HCE
              simp only [Bool.false_eq_true, if_false, if_true] at HCE
              clear hm
              go_wp2_with (go_at_call 57; refine (hfar _).mono ?_; rintro e w' ⟨rfl, rfl⟩)
              go_region
              all_goals (try go_wp2)
              all_goals (refine bodyPost_ret (v := d3 (vD p)) ?_ rfl ?_)
              all_goals first | (exact ⟨rfl, (by with_reducible repeat (first | exact Below.refl _ _ | refine bl_d ?_ | refine bl_n ?_ _ | refine bl_a ?_ _ | refine bl_s ?_ (by omega) _))⟩) | (simp [results, Tryz.results27, go_sem, d3, HR.out, HX.out, HCE.out]; done) | (rw [HR.out]; simp only [d3]; rw [← HX.out, ← HE.out, ← HCE.out]; simp [results, Tryz.results27, go_sem])
        · obtain rfl : h = k := by omega
          have hC : Cuts A.data.toList h h := ⟨Nat.le_refl _, by rw [len_of]; omega, HK.out, HF.out, HH.out, .inl rfl⟩
          have e1 := hC.none
          rw [← HA.out] at e1
          have HR : Hid (vD p = zeroD) := if_pos e1
          have hzz : d3 zeroD = .agg #[.bool false, .string ⟨#[]⟩, .int .i64 0] := rfl
          clear hC e1 HH hlt
          go_wp2
          refine bodyPost_ret (v := d3 (vD p)) ?_ rfl ?_
          · rw [HR.out, hzz]; simp [results, Tryz.results27, go_sem]
          · exact ⟨rfl, (by with_reducible repeat (first | exact Below.refl _ _ | refine bl_d ?_ | refine bl_n ?_ _ | refine bl_a ?_ _ | refine bl_s ?_ (by omega) _))⟩
end Go.Proofs.YtfhapeinfhjihaaGreatDoor
