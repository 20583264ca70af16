/-
  What the document's reader holds a number against is what json's does. Conditions: the limits are at most the greatest.
  What ref3.Value answers: the number of parts, however far its exponent is. Conditions: the parts are digits.
  How a number's text is cut into parts, place by place: plain mathematics. No condition.
-/
import Derived.Test.YtfoehebnmommfaaGreatDoorJoined31
import Derived.Test.YtfoehebnmommfaaGreatDoorJoined1
namespace Go.Proofs.YtfoehebnmommfaaGreatDoor
open Go.RowKit

theorem drop_at {l : List UInt8} {i : Nat} {p : Int → Bool} (h : Lx.hasAt l i p = true) : ∃ c : UInt8, l.drop i = c :: l.drop (i + 1) ∧ p (c.toNat : Int) = true ∧ Lx.bx l i = (c.toNat : Int) := by
 have hi := Lx.hasAt_lt h
 refine ⟨l[i], List.drop_eq_getElem_cons hi, ?_, ?_⟩
 ·simp [Lx.hasAt, Lx.bx, hi] at h
  exact h
 ·simp [Lx.bx, hi]
theorem dig_isD (c : UInt8) : Lx.digitB (c.toNat : Int) = isD c := by
 unfold Lx.digitB isD
 by_cases a : 48 ≤ c.toNat <;> by_cases b : c.toNat ≤ 57 <;> simp [a, b] <;> omega
theorem pass_dig (l : List UInt8) : ∀ n i, l.length - i = n → ∃ D : List UInt8, l.drop i = D ++ l.drop (Lx.pass l Lx.digitB i) ∧ D.all isD = true
 | 0, i, h => by
  have : Lx.hasAt l i Lx.digitB = false := by
   cases e : Lx.hasAt l i Lx.digitB with
   | false => rfl
   | true => have := Lx.hasAt_lt e; omega
  rw [Lx.pass_stop this]
  exact ⟨[], rfl, rfl⟩
 | n + 1, i, h => by
  cases e : Lx.hasAt l i Lx.digitB with
  | false =>
   rw [Lx.pass_stop e]
   exact ⟨[], rfl, rfl⟩
  | true =>
   obtain ⟨c, h1, h2, _⟩ := drop_at e
   obtain ⟨D, h3, h4⟩ := pass_dig l n (i + 1) (by omega)
   rw [Lx.pass_go e]
   refine ⟨c :: D, by rw [h1, h3]; rfl, ?_⟩
   rw [List.all_cons, h4, ← dig_isD, h2]; rfl
theorem digits_parts {l : List UInt8} {i k : Nat} (h : Lx.digitsL l i = .ok k) : ∃ D : List UInt8, l.drop i = D ++ l.drop k ∧ D.all isD = true ∧ D ≠ [] := by
 unfold Lx.digitsL at h
 split at h
 ·rename_i g
  injection h with h
  obtain ⟨c, h1, h2, _⟩ := drop_at g
  obtain ⟨D, h3, h4⟩ := pass_dig l _ (i + 1) rfl
  rw [h] at h3
  refine ⟨c :: D, by rw [h1, h3]; rfl, ?_, by simp⟩
  rw [List.all_cons, h4, ← dig_isD, h2]; rfl
 ·cases h
theorem c_of {c n : UInt8} (h : ((c.toNat : Int) == (n.toNat : Int)) = true) : c = n := UInt8.toNat_inj.1 (by have := eq_of_beq h; omega)
structure NP (s : List UInt8) (M W F E : List UInt8) : Prop where
 eq : s = M ++ (W ++ (F ++ E))
 m : M = [] ∨ M = [45]
 w : W.all isD = true ∧ W ≠ [] ∧ (W = [48] ∨ W.head? ≠ some 48)
 f : F = [] ∨ ∃ D : List UInt8, F = 46 :: D ∧ D.all isD = true ∧ D ≠ []
 e : E = [] ∨ ∃ (c : UInt8) (G D : List UInt8), E = c :: (G ++ D) ∧ (c = 101 ∨ c = 69) ∧ (G = [] ∨ G = [43] ∨ G = [45]) ∧ D.all isD = true ∧ D ≠ []
theorem whole_parts2 {l : List UInt8} {i k : Nat} (h : Lx.wholeL l i = .ok k) : ∃ M W : List UInt8, l.drop i = M ++ (W ++ l.drop k) ∧ (M = [] ∨ M = [45]) ∧ W.all isD = true ∧ W ≠ [] ∧ (W = [48] ∨ W.head? ≠ some 48) := by
 obtain ⟨M, hM, hM2⟩ : ∃ M : List UInt8, l.drop i = M ++ l.drop (Lx.aft l i (· == 45)) ∧ (M = [] ∨ M = [45]) := by
  unfold Lx.aft
  split
  ·rename_i g
   obtain ⟨c, h1, h2, _⟩ := drop_at g
   have : c = 45 := c_of h2
   exact ⟨[45], by rw [h1, this]; rfl, Or.inr rfl⟩
  ·exact ⟨[], rfl, Or.inl rfl⟩
 unfold Lx.wholeL at h
 split at h
 ·rename_i g
  injection h with h
  obtain ⟨c, h1, h2, _⟩ := drop_at g
  have : c = 48 := c_of h2
  rw [h] at h1
  exact ⟨M, [48], by rw [hM, h1, this]; rfl, hM2, rfl, by simp, Or.inl rfl⟩
 ·rename_i g
  obtain ⟨D, h1, h2, h3⟩ := digits_parts h
  refine ⟨M, D, by rw [hM, h1], hM2, h2, h3, Or.inr fun hh => g ?_⟩
  cases D with
  | nil => simp at hh
  | cons c D =>
   obtain rfl : c = 48 := by simpa using hh
   have hlt : Lx.aft l i (· == 45) < l.length := by
    rcases Nat.lt_or_ge (Lx.aft l i (· == 45)) l.length with a | a
    ·exact a
    ·rw [List.drop_eq_nil_of_le a] at h1
     cases h1
   rw [List.drop_eq_getElem_cons hlt] at h1
   have h1 : l[Lx.aft l i (· == 45)] = 48 := by injection h1
   simp [Lx.hasAt, Lx.bx, hlt, h1]
theorem frac_parts {l : List UInt8} {k b : Nat} (h : Lx.fracPart l (.ok k) = .ok b) : ∃ F : List UInt8, l.drop k = F ++ l.drop b ∧ (F = [] ∨ ∃ D : List UInt8, F = 46 :: D ∧ D.all isD = true ∧ D ≠ []) := by
 unfold Lx.fracPart at h
 simp only at h
 split at h
 ·rename_i g
  obtain ⟨c, h1, h2, _⟩ := drop_at g
  have : c = 46 := c_of h2
  obtain ⟨D, h3, h4, h5⟩ := digits_parts h
  exact ⟨46 :: D, by rw [h1, h3, this]; rfl, Or.inr ⟨D, rfl, h4, h5⟩⟩
 ·injection h with h
  exact ⟨[], by rw [h]; rfl, Or.inl rfl⟩
theorem exp_parts {l : List UInt8} {k b : Nat} (h : Lx.expPart l (.ok k) = .ok b) : ∃ E : List UInt8, l.drop k = E ++ l.drop b ∧ (E = [] ∨ ∃ (c : UInt8) (G D : List UInt8), E = c :: (G ++ D) ∧ (c = 101 ∨ c = 69) ∧ (G = [] ∨ G = [43] ∨ G = [45]) ∧ D.all isD = true ∧ D ≠ []) := by
 unfold Lx.expPart at h
 simp only at h
 split at h
 ·rename_i g
  obtain ⟨c, h1, h2, _⟩ := drop_at g
  have hc : c = 101 ∨ c = 69 := by
   rcases Bool.or_eq_true _ _ ▸ h2 with a | a
   ·exact Or.inl (c_of a)
   ·exact Or.inr (c_of a)
  unfold Lx.exponentL at h
  obtain ⟨G, hG, hG2⟩ : ∃ G : List UInt8, l.drop (k + 1) = G ++ l.drop (Lx.aft l (k + 1) (fun c => c == 43 || c == 45)) ∧ (G = [] ∨ G = [43] ∨ G = [45]) := by
   unfold Lx.aft
   split
   ·rename_i g
    obtain ⟨c, h1, h2, _⟩ := drop_at g
    rcases Bool.or_eq_true _ _ ▸ h2 with a | a
    ·have : c = 43 := c_of a
     exact ⟨[43], by rw [h1, this]; rfl, Or.inr (Or.inl rfl)⟩
    ·have : c = 45 := c_of a
     exact ⟨[45], by rw [h1, this]; rfl, Or.inr (Or.inr rfl)⟩
   ·exact ⟨[], rfl, Or.inl rfl⟩
  obtain ⟨D, h3, h4, h5⟩ := digits_parts h
  exact ⟨c :: (G ++ D), by rw [h1, hG, h3]; simp, Or.inr ⟨c, G, D, rfl, hc, hG2, h4, h5⟩⟩
 ·injection h with h
  exact ⟨[], by rw [h]; rfl, Or.inl rfl⟩
theorem num_np {l : List UInt8} {i k : Nat} (h : Lx.numberL l i = .ok k) (hk : k ≤ l.length) : ∃ M W F E, NP (Lx.sub l i k) M W F E := by
 obtain ⟨a, b, h1, h2, h3, h4, h5, h6⟩ := Lx.number_parts h
 obtain ⟨M, W, e1, m, w⟩ := whole_parts2 h1
 obtain ⟨F, e2, f⟩ := frac_parts h2
 obtain ⟨E, e3, e⟩ := exp_parts h3
 refine ⟨M, W, F, E, ?_, m, w, f, e⟩
 have e4 : l.drop i = (M ++ (W ++ (F ++ E))) ++ l.drop k := by rw [e1, e2, e3]; simp
 have e5 : (M ++ (W ++ (F ++ E))).length = k - i := by
  have := congrArg List.length e4
  rw [List.length_append, List.length_drop, List.length_drop] at this
  omega
 unfold Lx.sub
 rw [e4, ← e5, List.take_left]
end Go.Proofs.YtfoehebnmommfaaGreatDoor

namespace Go.Proofs.YtfoehebnmommfaaGreatDoor
open Go.RowKit
attribute [local go_sem] setCell_drewN alloc_drewN

def vD (p : P3) : D3 := if dgOf p = [] then zeroD else ⟨p.neg, dgOf p, exOf 99999999 p⟩
theorem extract_mid (s : ByteArray) (i j : Nat) : s.extract i j = bs ((s.data.toList.take j).drop i) := by
 have h := Lib.extract_toList s i j
 rw [← bs_self (s.extract i j), ← ByteArray.toList_eq, h, List.drop_take]
set_option maxRecDepth 100000 in
set_option maxHeartbeats 3200000 in
theorem rvalue_any (p : P3) (w : World) (hs : (allOf p).length ≤ 140737488355328) (hd : p.exp.all isD = true) (hx : p.exp.length ≤ maxLen) :
  Calls Tryz.prog 92 #[pv p] w fun e w' => e = .returned (d3 (vD p)) ∧ Below w.heap.size w w' := by
 have ha : bs p.int ++ bs p.frac = bs (allOf p) := bs_append _ _
 have hx9 : (bs p.exp).size ≤ maxLen := by rw [bs_size]; exact hx
 have hd9 : (bs p.exp).data.toList.all isD = true := by rw [bs_list]; exact hd
 obtain ⟨A, hAe⟩ : ∃ A, bs (allOf p) = A := ⟨_, rfl⟩
 rw [hAe] at ha
 have HA : Hid (allOf p = A.data.toList) := by show _ = _; rw [← hAe, bs_list]
 have hAs : A.size ≤ 140737488355328 := by rw [← hAe, bs_size]; exact hs
 have hAI : (A.size : Int) ≤ 140737488355328 := by omega
 have hsN : (bs p.int).size + (bs p.frac).size ≤ 140737488355328 := by rw [bs_size, bs_size]; unfold allOf at hs; rw [List.length_append] at hs; exact hs
 have hsI : ((bs p.int).size : Int) + ((bs p.frac).size : Int) ≤ 140737488355328 := by omega
 clear hAe hs hd hx
 unfold pv
 go_enter Tryz.func92, Tryz.ntmps92
 go_wp2_with fail
 go_loop [4] (fun i => ∃ k : Nat, k ≤ A.size ∧ i = .int .i64 k ∧ Hid (∀ (j : Nat) (c : UInt8), j < k → A.data.toList[j]? = some c → c = 48)) (fun i => A.size - (intOf i).toNat)
 case atStart => exact ⟨0, Nat.zero_le _, rfl, fun j c hj => absurd hj (by omega)⟩
 case round =>
  obtain ⟨k, hk, rfl, HK⟩ := hrel
  by_cases hlt : k < A.size
  ·have kI : (k : Int) < (A.size : Int) := by omega
   have hxk := cx_at A k hlt
   by_cases h48 : cx A k = 48
   ·rw [h48] at hxk
    have HK2 : Hid (∀ (j : Nat) (c : UInt8), j < k + 1 → A.data.toList[j]? = some c → c = 48) := fun j c hj hc => by
     by_cases e : j = k
     ·subst e
      obtain ⟨b', hb', hc'⟩ := cx_get A j hlt
      rw [hb'] at hc
      have := Option.some.inj hc
      subst this
      exact UInt8.toNat_inj.1 (by have : (48 : UInt8).toNat = 48 := rfl; omega)
     ·exact HK.out j c (by omega) hc
    clear HK h48
    go_wp2
    go_round
    case rel => exact ⟨k + 1, by omega, by go_num, HK2.out⟩
    case measure => simp [intOf] <;> omega
   ·have HF : Hid (k = A.data.toList.length ∨ ∀ c, A.data.toList[k]? = some c → c ≠ 48) := .inr (fun c hc e => h48 (by
     obtain ⟨b', hb', hc'⟩ := cx_get A k hlt
     rw [hb'] at hc
     have := Option.some.inj hc
     rw [this, e] at hc'
     rw [← hc']; rfl))
    have hnk : ((cx A k) == 48) = false := beq_eq_false_iff_ne.2 h48
    rw [← hxk] at hnk
    clear h48 hxk
    go_wp2_with fail
    try clear hnk
    go_loop [5] (fun i => ∃ h : Nat, k ≤ h ∧ h ≤ A.size ∧ i = .int .i64 h ∧ Hid (∀ (j : Nat) (c : UInt8), h ≤ j → A.data.toList[j]? = some c → c = 48)) (fun i => (intOf i).toNat)
    case atStart => exact ⟨A.size, hk, Nat.le_refl _, rfl, fun j c hj hc => by rw [List.getElem?_eq_none (by rw [len_of]; exact hj)] at hc; cases hc⟩
    case round =>
     obtain ⟨h, hkh, hhA, rfl, HH⟩ := hrel
     by_cases hlt : k < h
     ·obtain ⟨g, rfl⟩ : ∃ g, h = g + 1 := ⟨h - 1, by omega⟩
      have i0 : ((g + 1 : Nat) : Int) - 1 = (g : Int) := by omega
      have i1 : (g : Int) < (A.size : Int) := by omega
      have i2 : (k : Int) < ((g + 1 : Nat) : Int) := by omega
      have hgA : g < A.size := by omega
      have hx := cx_at A g hgA
      by_cases h48 : cx A g = 48
      ·rw [h48] at hx
       have HH2 : Hid (∀ (j : Nat) (c : UInt8), g ≤ j → A.data.toList[j]? = some c → c = 48) := fun j c hj hc => by
        by_cases e : j = g
        ·subst e
         obtain ⟨b', hb', hc'⟩ := cx_get A j hgA
         rw [hb'] at hc
         have := Option.some.inj hc
         subst this
         exact UInt8.toNat_inj.1 (by have : (48 : UInt8).toNat = 48 := rfl; omega)
        ·exact HH.out j c (by omega) hc
       clear HH h48
       go_wp2
       go_round
       case rel => exact ⟨g, by omega, by omega, by go_num, HH2.out⟩
       case measure => simp [intOf] <;> omega
      ·have hC : Cuts A.data.toList k (g + 1) := ⟨by omega, by rw [len_of]; omega, HK.out, HF.out, HH.out, .inr (fun c hc e => h48 (by
        rw [show g + 1 - 1 = g by omega] at hc
        obtain ⟨b', hb', hc'⟩ := cx_get A g hgA
        rw [hb'] at hc
        have := Option.some.inj hc
        rw [this, e] at hc'
        rw [← hc']; rfl))⟩
       have hne : ((cx A g) == 48) = false := beq_eq_false_iff_ne.2 h48
       rw [← hx] at hne
       obtain ⟨e1, e2, e3⟩ := hC.some (by omega)
       have hdg : dgOf p = (A.data.toList.take (g + 1)).drop k := by rw [← e2, ← HA.out]; rfl
       have hup : (upOf p).length = g + 1 := by rw [show upOf p = A.data.toList.take (g + 1) by rw [← e1, ← HA.out]; rfl, List.length_take, len_of]; omega
       have HR : Hid (vD p = ⟨p.neg, dgOf p, exOf 99999999 p⟩) := if_neg (by rw [hdg]; exact e3)
       have HX : Hid (A.extract k (g + 1) = bs (dgOf p)) := by show _ = _; rw [extract_mid, hdg]
       have HE : Hid (expOf 99999999 p - ((bs p.frac).size : Int) + ((A.size : Int) - ((g + 1 : Nat) : Int)) = exOf 99999999 p) := by
        show _ = _
        unfold exOf
        rw [hup, HA.out, len_of, bs_size]; omega
       have hfb : (bs p.frac).size ≤ A.size := by
        rw [bs_size, ← len_of A, ← HA.out]; unfold allOf; simp
       have hfar := fun w => rfar_any (bs p.exp) w hx9 hd9
       have hcap : capN 99999999 (bs p.exp) (bs p.exp).size = min (num p.exp) 99999999 := by
        unfold capN; rw [bs_list, bs_size, List.take_length]
       have hcb := capN_bd 99999999 (by decide) (bs p.exp) (bs p.exp).size hd9
       have HCE : Hid ((if p.minus = true then -(capN 99999999 (bs p.exp) (bs p.exp).size) else capN 99999999 (bs p.exp) (bs p.exp).size) = expOf 99999999 p) := by
        show _ = _
        unfold expOf; rw [hcap]
       have kg : k ≠ g + 1 := by omega
       have kgI : ((k : Int) == ((g + 1 : Nat) : Int)) = false := beq_eq_false_iff_ne.2 (by omega)
       clear hC e1 e2 e3 hdg hup h48 hcap HH
       generalize capN 99999999 (bs p.exp) (bs p.exp).size = Q at *
       generalize bs p.exp = x at *
       generalize bs p.frac = b at *
       generalize bs p.int = a at *
       cases hm : p.minus
       all_goals
        rw [hm] at HCE
        simp only [Bool.false_eq_true, if_false, if_true] at HCE
        clear hm
        go_wp2_with (go_at_call 112; refine (hfar _).mono ?_; rintro e w' ⟨rfl, rfl⟩)
        go_region
        all_goals (try go_wp2)
        all_goals (refine bodyPost_ret (v := d3 (vD p)) ?_ rfl ?_)
        all_goals first | (exact ⟨rfl, (by with_reducible repeat (first | exact Below.refl _ _ | refine bl_d ?_ | refine bl_n ?_ _ | refine bl_a ?_ _ | refine bl_s ?_ (by omega) _))⟩) | (simp [results, Tryz.results92, go_sem, d3, HR.out, HX.out, HCE.out]; done) | (rw [HR.out]; simp only [d3]; rw [← HX.out, ← HE.out, ← HCE.out]; simp [results, Tryz.results92, go_sem])
     ·obtain rfl : h = k := by omega
      have hC : Cuts A.data.toList h h := ⟨Nat.le_refl _, by rw [len_of]; omega, HK.out, HF.out, HH.out, .inl rfl⟩
      have e1 := hC.none
      rw [← HA.out] at e1
      have HR : Hid (vD p = zeroD) := if_pos e1
      have hzz : d3 zeroD = .agg #[.bool false, .string ⟨#[]⟩, .int .i64 0] := rfl
      clear hC e1 HH hlt
      go_wp2
      refine bodyPost_ret (v := d3 (vD p)) ?_ rfl ?_
      ·rw [HR.out, hzz]; simp [results, Tryz.results92, go_sem]
      ·exact ⟨rfl, (by with_reducible repeat (first | exact Below.refl _ _ | refine bl_d ?_ | refine bl_n ?_ _ | refine bl_a ?_ _ | refine bl_s ?_ (by omega) _))⟩
  ·have HF : Hid (k = A.data.toList.length ∨ ∀ c, A.data.toList[k]? = some c → c ≠ 48) := .inl (by rw [len_of]; omega)
   have kd : decide (k < A.size) = false := decide_eq_false hlt
   clear hlt
   go_wp2_with fail
   try clear kd
   go_loop [5] (fun i => ∃ h : Nat, k ≤ h ∧ h ≤ A.size ∧ i = .int .i64 h ∧ Hid (∀ (j : Nat) (c : UInt8), h ≤ j → A.data.toList[j]? = some c → c = 48)) (fun i => (intOf i).toNat)
   case atStart => exact ⟨A.size, hk, Nat.le_refl _, rfl, fun j c hj hc => by rw [List.getElem?_eq_none (by rw [len_of]; exact hj)] at hc; cases hc⟩
   case round =>
    obtain ⟨h, hkh, hhA, rfl, HH⟩ := hrel
    by_cases hlt : k < h
    ·obtain ⟨g, rfl⟩ : ∃ g, h = g + 1 := ⟨h - 1, by omega⟩
     have i0 : ((g + 1 : Nat) : Int) - 1 = (g : Int) := by omega
     have i1 : (g : Int) < (A.size : Int) := by omega
     have i2 : (k : Int) < ((g + 1 : Nat) : Int) := by omega
     have hgA : g < A.size := by omega
     have hx := cx_at A g hgA
     by_cases h48 : cx A g = 48
     ·rw [h48] at hx
      have HH2 : Hid (∀ (j : Nat) (c : UInt8), g ≤ j → A.data.toList[j]? = some c → c = 48) := fun j c hj hc => by
       by_cases e : j = g
       ·subst e
        obtain ⟨b', hb', hc'⟩ := cx_get A j hgA
        rw [hb'] at hc
        have := Option.some.inj hc
        subst this
        exact UInt8.toNat_inj.1 (by have : (48 : UInt8).toNat = 48 := rfl; omega)
       ·exact HH.out j c (by omega) hc
      clear HH h48
      go_wp2
      go_round
      case rel => exact ⟨g, by omega, by omega, by go_num, HH2.out⟩
      case measure => simp [intOf] <;> omega
     ·have hC : Cuts A.data.toList k (g + 1) := ⟨by omega, by rw [len_of]; omega, HK.out, HF.out, HH.out, .inr (fun c hc e => h48 (by
       rw [show g + 1 - 1 = g by omega] at hc
       obtain ⟨b', hb', hc'⟩ := cx_get A g hgA
       rw [hb'] at hc
       have := Option.some.inj hc
       rw [this, e] at hc'
       rw [← hc']; rfl))⟩
      have hne : ((cx A g) == 48) = false := beq_eq_false_iff_ne.2 h48
      rw [← hx] at hne
      obtain ⟨e1, e2, e3⟩ := hC.some (by omega)
      have hdg : dgOf p = (A.data.toList.take (g + 1)).drop k := by rw [← e2, ← HA.out]; rfl
      have hup : (upOf p).length = g + 1 := by rw [show upOf p = A.data.toList.take (g + 1) by rw [← e1, ← HA.out]; rfl, List.length_take, len_of]; omega
      have HR : Hid (vD p = ⟨p.neg, dgOf p, exOf 99999999 p⟩) := if_neg (by rw [hdg]; exact e3)
      have HX : Hid (A.extract k (g + 1) = bs (dgOf p)) := by show _ = _; rw [extract_mid, hdg]
      have HE : Hid (expOf 99999999 p - ((bs p.frac).size : Int) + ((A.size : Int) - ((g + 1 : Nat) : Int)) = exOf 99999999 p) := by
       show _ = _
       unfold exOf
       rw [hup, HA.out, len_of, bs_size]; omega
      have hfb : (bs p.frac).size ≤ A.size := by
       rw [bs_size, ← len_of A, ← HA.out]; unfold allOf; simp
      have hfar := fun w => rfar_any (bs p.exp) w hx9 hd9
      have hcap : capN 99999999 (bs p.exp) (bs p.exp).size = min (num p.exp) 99999999 := by
       unfold capN; rw [bs_list, bs_size, List.take_length]
      have hcb := capN_bd 99999999 (by decide) (bs p.exp) (bs p.exp).size hd9
      have HCE : Hid ((if p.minus = true then -(capN 99999999 (bs p.exp) (bs p.exp).size) else capN 99999999 (bs p.exp) (bs p.exp).size) = expOf 99999999 p) := by
       show _ = _
       unfold expOf; rw [hcap]
      have kg : k ≠ g + 1 := by omega
      have kgI : ((k : Int) == ((g + 1 : Nat) : Int)) = false := beq_eq_false_iff_ne.2 (by omega)
      clear hC e1 e2 e3 hdg hup h48 hcap HH
      generalize capN 99999999 (bs p.exp) (bs p.exp).size = Q at *
      generalize bs p.exp = x at *
      generalize bs p.frac = b at *
      generalize bs p.int = a at *
      cases hm : p.minus
      all_goals
       rw [hm] at HCE
       simp only [Bool.false_eq_true, if_false, if_true] at HCE
       clear hm
       go_wp2_with (go_at_call 112; refine (hfar _).mono ?_; rintro e w' ⟨rfl, rfl⟩)
       go_region
       all_goals (try go_wp2)
       all_goals (refine bodyPost_ret (v := d3 (vD p)) ?_ rfl ?_)
       all_goals first | (exact ⟨rfl, (by with_reducible repeat (first | exact Below.refl _ _ | refine bl_d ?_ | refine bl_n ?_ _ | refine bl_a ?_ _ | refine bl_s ?_ (by omega) _))⟩) | (simp [results, Tryz.results92, go_sem, d3, HR.out, HX.out, HCE.out]; done) | (rw [HR.out]; simp only [d3]; rw [← HX.out, ← HE.out, ← HCE.out]; simp [results, Tryz.results92, go_sem])
    ·obtain rfl : h = k := by omega
     have hC : Cuts A.data.toList h h := ⟨Nat.le_refl _, by rw [len_of]; omega, HK.out, HF.out, HH.out, .inl rfl⟩
     have e1 := hC.none
     rw [← HA.out] at e1
     have HR : Hid (vD p = zeroD) := if_pos e1
     have hzz : d3 zeroD = .agg #[.bool false, .string ⟨#[]⟩, .int .i64 0] := rfl
     clear hC e1 HH hlt
     go_wp2
     refine bodyPost_ret (v := d3 (vD p)) ?_ rfl ?_
     ·rw [HR.out, hzz]; simp [results, Tryz.results92, go_sem]
     ·exact ⟨rfl, (by with_reducible repeat (first | exact Below.refl _ _ | refine bl_d ?_ | refine bl_n ?_ _ | refine bl_a ?_ _ | refine bl_s ?_ (by omega) _))⟩
end Go.Proofs.YtfoehebnmommfaaGreatDoor

namespace Go.Proofs.YtfoehebnmommfaaGreatDoor
open Go.RowKit

def hdB (s : ByteArray) (k : Nat) (c : Int) : Bool := decide (k < s.size ∧ cx s k = c)
theorem hdB_lt {s : ByteArray} {k : Nat} {c : Int} (h : hdB s k c = true) : k < s.size := (of_decide_eq_true h).1
theorem hdB_lt2 {s : ByteArray} {k : Nat} {c d : Int} (h : (hdB s k c || hdB s k d) = true) : k < s.size := by
 rcases Bool.or_eq_true_iff.1 h with h | h
 ·exact hdB_lt h
 ·exact hdB_lt h
theorem hd_iff (s : ByteArray) (k : Nat) (c : UInt8) : (s.data.toList.drop k).head? = some c ↔ hdB s k (c.toNat : Int) = true := by
 rw [List.head?_drop]
 constructor
 ·intro h
  have hk : k < s.size := by rw [← len_of]; exact (List.getElem?_eq_some_iff.1 h).1
  obtain ⟨b, hb, hc⟩ := cx_get s k hk
  rw [h] at hb
  have e := Option.some.inj hb
  exact decide_eq_true ⟨hk, by rw [← hc, ← e]⟩
 ·intro h
  obtain ⟨hk, hx⟩ := of_decide_eq_true h
  obtain ⟨b, hb, hc⟩ := cx_get s k hk
  rw [hb]
  congr 1
  exact UInt8.toNat_inj.1 (by omega)
theorem hd_yes {s : ByteArray} {k : Nat} (c : UInt8) {x : Int} (hx : x = (c.toNat : Int)) (h : hdB s k x = true) : (s.data.toList.drop k).head? = some c := (hd_iff s k c).2 (by rw [← hx]; exact h)
theorem hd_no {s : ByteArray} {k : Nat} (c : UInt8) {x : Int} (hx : x = (c.toNat : Int)) (h : hdB s k x = false) : ¬ (s.data.toList.drop k).head? = some c := fun e => by
 have := (hd_iff s k c).1 e
 rw [← hx, h] at this
 cases this
theorem tail_drop (l : List UInt8) (k : Nat) : (l.drop k).tail = l.drop (k + 1) := by rw [List.tail_drop]
def badB (D : ByteArray) : Bool := decide (D.size = 0 ∨ (1 < D.size ∧ cx D 0 = 48))
def TwDw (s : ByteArray) (i k : Nat) : Prop := tw (s.data.toList.drop i) = (s.data.toList.drop i).take (k - i) ∧ dw (s.data.toList.drop i) = s.data.toList.drop k
theorem twdw_of {s : ByteArray} {i k : Nat} (hik : i ≤ k) (hk : k ≤ s.size) (h1 : ∀ j, i ≤ j → j < k → 48 ≤ cx s j ∧ cx s j ≤ 57) (h2 : k < s.size → ¬ (48 ≤ cx s k ∧ cx s k ≤ 57)) : TwDw s i k := by
 have key : ∀ j b, s.data.toList[j]? = some b → j < s.size ∧ (b.toNat : Int) = cx s j := fun j b hb => by
  have hj : j < s.size := by rw [← len_of]; exact (List.getElem?_eq_some_iff.1 hb).1
  obtain ⟨b', hb', hc⟩ := cx_get s j hj
  rw [hb] at hb'
  rw [Option.some.inj hb']
  exact ⟨hj, hc⟩
 obtain ⟨a, b⟩ := tw_len (s.data.toList.drop i) (k - i) (by rw [List.length_drop, len_of]; omega) (fun j b hj hb => by
  rw [List.getElem?_drop] at hb
  obtain ⟨hj2, hc⟩ := key _ _ hb
  have := h1 (i + j) (by omega) (by omega)
  rw [isD_iff]
  omega) (fun b hb => by
  rw [List.getElem?_drop, show i + (k - i) = k by omega] at hb
  obtain ⟨hj2, hc⟩ := key _ _ hb
  have := h2 hj2
  cases hd : isD b
  ·rfl
  ·have := (isD_iff b).1 hd; omega)
 refine ⟨a, ?_⟩
 rw [b, List.drop_drop, show i + (k - i) = k by omega]
theorem TwDw.mid {s : ByteArray} {i k : Nat} (h : TwDw s i k) : s.extract i k = bs (tw (s.data.toList.drop i)) := by
 rw [extract_mid, h.1, List.drop_take]
theorem TwDw.len {s : ByteArray} {i k : Nat} (h : TwDw s i k) : (tw (s.data.toList.drop i)).length ≤ s.size := by
 rw [h.1, List.length_take, List.length_drop, len_of]; omega
def CutOK (l : List UInt8) (n : Bool) (a b : ByteArray) (m : Bool) (x : ByteArray) (ok : Bool) : Prop :=
 (cutL l = none ∧ ok = false) ∨ ∃ p, cutL l = some p ∧ ok = true ∧ n = p.neg ∧ a = bs p.int ∧ b = bs p.frac ∧ m = p.minus ∧ x = bs p.exp
theorem ok_of {s : ByteArray} {n m : Bool} {a b : ByteArray} {x : List UInt8} {i : Nat} (hi : i ≤ s.size) (h : cutL s.data.toList = wholeL (some (⟨n, a.data.toList, b.data.toList, m, x⟩, s.data.toList.drop i))) : CutOK s.data.toList n a b m (bs x) ((i : Int) == (s.size : Int)) := by
 by_cases e : i = s.size
 ·subst e
  refine .inr ⟨⟨n, a.data.toList, b.data.toList, m, x⟩, ?_, by simp, rfl, rfl, rfl, rfl, rfl⟩
  rw [h]
  simp only [wholeL]
  rw [if_pos (by rw [List.drop_eq_nil_iff, len_of]; exact Nat.le_refl _)]
 ·refine .inl ⟨?_, beq_eq_false_iff_ne.2 (by omega)⟩
  rw [h]
  simp only [wholeL]
  rw [if_neg (by rw [List.drop_eq_nil_iff, len_of]; omega)]
def CutM (s : ByteArray) (i : Nat) (neg : Bool) : Prop := decide (s.data.toList.head? = some 45) = neg ∧ minusL s.data.toList = s.data.toList.drop i
theorem cutM_none {s : ByteArray} (h : hdB s 0 45 = false) : CutM s 0 false := by
 have := hd_no 45 rfl h
 rw [List.drop_zero] at this
 exact ⟨decide_eq_false this, by unfold minusL; rw [if_neg this, List.drop_zero]⟩
theorem cutM_some {s : ByteArray} (h : hdB s 0 45 = true) : CutM s 1 true := by
 have := hd_yes 45 rfl h
 rw [List.drop_zero] at this
 exact ⟨decide_eq_true this, by unfold minusL; rw [if_pos this, ← tail_drop, List.drop_zero]⟩
def CutI (s : ByteArray) (k : Nat) (neg : Bool) (D : ByteArray) : Prop := cutL s.data.toList = wholeL (behindL neg D.data.toList (s.data.toList.drop k))
theorem bad_iff {D : List UInt8} : badB (bs D) = true ↔ (D = [] ∨ (1 < D.length ∧ D.head? = some 48)) := by
 unfold badB
 rw [decide_eq_true_iff, bs_size]
 constructor
 ·rintro (h | ⟨h, hx⟩)
  ·exact .inl (List.eq_nil_of_length_eq_zero h)
  ·refine .inr ⟨h, ?_⟩
   have := (head_cx (bs D) (by rw [bs_size]; omega)).2 hx
   rwa [bs_list] at this
 ·rintro (h | ⟨h, hx⟩)
  ·exact .inl (by rw [h]; rfl)
  ·refine .inr ⟨h, ?_⟩
   exact (head_cx (bs D) (by rw [bs_size]; omega)).1 (by rw [bs_list]; exact hx)
theorem CutM.int_some {s : ByteArray} {i k : Nat} {neg : Bool} {D : ByteArray} (h : CutM s i neg) (hD : bs (tw (s.data.toList.drop i)) = D) (hE : TwDw s i k) (hb : badB D = false) : CutI s k neg D := by
 unfold CutI cutL
 rw [h.2, h.1, if_neg, hE.2]
 ·rw [← hD, bs_list]
 ·intro e
  have := bad_iff.2 e
  rw [hD, hb] at this
  cases this
theorem CutM.int_none {s : ByteArray} {i : Nat} {neg : Bool} {D : ByteArray} (h : CutM s i neg) (hD : bs (tw (s.data.toList.drop i)) = D) (hb : badB D = true) : cutL s.data.toList = none := by
 unfold cutL
 rw [h.2, if_pos]
 exact bad_iff.1 (by rw [hD]; exact hb)
def expB (neg : Bool) (a b : List UInt8) (x : Option (Bool × List UInt8 × List UInt8)) : Option (P3 × List UInt8) :=
 match x with
 | none => none
 | some (m, x, r) => some (⟨neg, a, b, m, x⟩, r)
theorem behind_some {neg : Bool} {a l f r : List UInt8} (h : fracL l = some (f, r)) : behindL neg a l = expB neg a f (expL r) := by
 unfold behindL
 rw [h]
 dsimp only
 cases expL r <;> rfl
theorem behind_none {neg : Bool} {a l : List UInt8} (h : fracL l = none) : behindL neg a l = none := by
 unfold behindL
 rw [h]
def CutF (s : ByteArray) (k : Nat) (neg : Bool) (D F : ByteArray) : Prop := cutL s.data.toList = wholeL (expB neg D.data.toList F.data.toList (expL (s.data.toList.drop k)))
theorem CutI.no_frac {s : ByteArray} {k : Nat} {neg : Bool} {D : ByteArray} (h : CutI s k neg D) (hf : hdB s k 46 = false) : CutF s k neg D ⟨#[]⟩ := by
 unfold CutF
 rw [show cutL s.data.toList = _ from h, behind_some (f := []) (r := s.data.toList.drop k) (by unfold fracL; rw [if_neg (hd_no 46 rfl hf)])]
theorem CutI.frac_none {s : ByteArray} {k : Nat} {neg : Bool} {D : ByteArray} (h : CutI s k neg D) (hf : hdB s k 46 = true) (ht : tw (s.data.toList.drop (k + 1)) = []) : cutL s.data.toList = none := by
 rw [show cutL s.data.toList = _ from h, behind_none (by unfold fracL; rw [if_pos (hd_yes 46 rfl hf), tail_drop, if_pos ht])]
 rfl
theorem CutI.frac_some {s : ByteArray} {k k3 : Nat} {neg : Bool} {D : ByteArray} {c : UInt8} {t : List UInt8} (h : CutI s k neg D) (hf : hdB s k 46 = true) (ht : tw (s.data.toList.drop (k + 1)) = c :: t) (hE : TwDw s (k + 1) k3) : CutF s k3 neg D (bs (c :: t)) := by
 unfold CutF
 rw [show cutL s.data.toList = _ from h, behind_some (f := c :: t) (r := s.data.toList.drop k3) (by unfold fracL; rw [if_pos (hd_yes 46 rfl hf), tail_drop, ht, if_neg (by simp), hE.2]), bs_list]
theorem CutF.no_exp {s : ByteArray} {k : Nat} {neg : Bool} {D F : ByteArray} (h : CutF s k neg D F) (he : (hdB s k 101 || hdB s k 69) = false) (hk : k ≤ s.size) : CutOK s.data.toList neg D F false ⟨#[]⟩ ((k : Int) == (s.size : Int)) := by
 have h1 : hdB s k 101 = false ∧ hdB s k 69 = false := by simpa using he
 have e : expL (s.data.toList.drop k) = some (false, [], s.data.toList.drop k) := by
  unfold expL
  rw [if_neg]
  rintro (q | q)
  ·exact hd_no 101 rfl h1.1 q
  ·exact hd_no 69 rfl h1.2 q
 exact ok_of (x := []) hk (by rw [show cutL s.data.toList = _ from h, e]; rfl)
def CutE (s : ByteArray) (q : Nat) (neg : Bool) (D F : ByteArray) : Prop :=
 cutL s.data.toList = wholeL (expB neg D.data.toList F.data.toList (if tw (signL (s.data.toList.drop q)) = [] then none else some (decide ((s.data.toList.drop q).head? = some 45), tw (signL (s.data.toList.drop q)), dw (signL (s.data.toList.drop q)))))
theorem CutF.at_exp {s : ByteArray} {k : Nat} {neg : Bool} {D F : ByteArray} (h : CutF s k neg D F) (he : (hdB s k 101 || hdB s k 69) = true) : CutE s (k + 1) neg D F := by
 unfold CutE
 rw [show cutL s.data.toList = _ from h]
 unfold expL
 rw [if_pos, tail_drop]
 rcases Bool.or_eq_true_iff.1 he with q | q
 ·exact .inl (hd_yes 101 rfl q)
 ·exact .inr (hd_yes 69 rfl q)
def SignAt (s : ByteArray) (q i : Nat) (mi : Bool) : Prop := signL (s.data.toList.drop q) = s.data.toList.drop i ∧ decide ((s.data.toList.drop q).head? = some 45) = mi
theorem signAt_none {s : ByteArray} {q : Nat} (h : (hdB s q 43 || hdB s q 45) = false) : SignAt s q q false := by
 have h1 : hdB s q 43 = false ∧ hdB s q 45 = false := by simpa using h
 refine ⟨?_, decide_eq_false (hd_no 45 rfl h1.2)⟩
 unfold signL
 rw [if_neg]
 rintro (e | e)
 ·exact hd_no 43 rfl h1.1 e
 ·exact hd_no 45 rfl h1.2 e
theorem signAt_some {s : ByteArray} {q : Nat} (h : (hdB s q 43 || hdB s q 45) = true) : q < s.size ∧ SignAt s q (q + 1) (cx s q == 45) := by
 have hq := hdB_lt2 h
 refine ⟨hq, ?_, ?_⟩
 ·unfold signL
  rw [if_pos, tail_drop]
  rcases Bool.or_eq_true_iff.1 h with e | e
  ·exact .inl (hd_yes 43 rfl e)
  ·exact .inr (hd_yes 45 rfl e)
 ·by_cases e : cx s q = 45
  ·rw [decide_eq_true (hd_yes 45 rfl (decide_eq_true ⟨hq, e⟩)), e]; rfl
  ·rw [decide_eq_false (hd_no 45 rfl (decide_eq_false (fun h => e h.2)))]
   exact (beq_eq_false_iff_ne.2 e).symm
theorem CutE.exp_none {s : ByteArray} {q i : Nat} {neg mi : Bool} {D F : ByteArray} (h : CutE s q neg D F) (hS : SignAt s q i mi) (hX : tw (s.data.toList.drop i) = []) : cutL s.data.toList = none := by
 rw [show cutL s.data.toList = _ from h, hS.1, if_pos hX]
 rfl
theorem CutE.exp_some {s : ByteArray} {q i k : Nat} {neg mi : Bool} {D F : ByteArray} {c : UInt8} {t : List UInt8} (h : CutE s q neg D F) (hS : SignAt s q i mi) (hX : tw (s.data.toList.drop i) = c :: t) (hE : TwDw s i k) (hk : k ≤ s.size) : CutOK s.data.toList neg D F mi (bs (c :: t)) ((k : Int) == (s.size : Int)) :=
 ok_of (x := c :: t) hk (by rw [show cutL s.data.toList = _ from h, hS.1, hX, if_neg (by simp), hS.2, hE.2]; rfl)
end Go.Proofs.YtfoehebnmommfaaGreatDoor
