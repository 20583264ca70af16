/-
  What ref4.number answers: the same as lex.number. Conditions: the bytes lie in memory, at most 2^48 of them.
  What ref4.Blank answers, and plain facts on what is read at a place. No condition.
  What is bad depends on nothing behind it: plain mathematics of what lex.Next answers. No condition.
  What is bad becomes good by another end: plain mathematics of what lex.Next answers. No condition.
  What is bad becomes good by another end: escapes. Plain mathematics. No condition.
  What is bad becomes good by another end: strings, and all. Plain mathematics. No condition.
  What is read of bytes that are cut off, or that others stand behind: plain mathematics of what lex.Next answers. No condition.
  What json reads of bytes that are cut off where they are bad, or that others stand behind. Conditions: none.
  A bad text stays bad at the same place, whatever stands behind; cut off just ahead it is bad there, or it is whole. Conditions: at most 2^20 bytes.
-/
import Derived.Test.YtfoehebnmommfaaGreatDoorJoined24
import Derived.Deep.DeepCutAuto
import Derived.Test.YtfoehebnmommfaaGreatDoorJoined27
import Derived.Test.YtfoehebnmommfaaGreatDoorJoined13
import Derived.Test.YtfoehebnmommfaaGreatDoorJoined20
namespace Go.Proofs.YtfoehebnmommfaaGreatDoor.Lx
open Go.RowKit
attribute [local go_sem] setCell_drewN alloc_drewN

theorem digitsL_error {l : List UInt8} {i n : Nat} (h : digitsL l i = .error n) : n = i + 1 := by
 unfold digitsL at h
 split at h
 ·cases h
 ·exact (Except.error.inj h).symm
theorem digitsL_ok {l : List UInt8} {i k : Nat} (h : digitsL l i = .ok k) : k ≤ l.length := (digitsL_le h).2
set_option maxRecDepth 100000 in
set_option maxHeartbeats 6400000 in
theorem rnumber_any (l : List UInt8) (i : Nat) (v : Value) (w : World) (hB : Byt w v l) (hi : i < l.length) (hm : l.length ≤ 281474976710656) :
  Calls Tryz.prog 37 #[v, .int .i64 i] w fun r w' => r = .returned (rpV (numberL l i)) ∧ w = w' := by
 have hlI : (l.length : Int) ≤ 281474976710656 := by omega
 have hs := fun k (hk : k ≤ l.length) => (rsome_any l k v w hB hk hm).mono fun r w' h => (show r = .returned (rpV (digitsL l k)) ∧ w = w' from ⟨h.1, h.2.symm⟩)
 rcases hB with ⟨h0, _⟩ | ⟨b, off, cap, rfl, hc, hm', hL⟩
 ·omega
 clear hc hm'
 have hc0 := hL.cell i hi
 have hiI : (i : Int) < (l.length : Int) := by omega
 have hal : aft l i (· == 45) ≤ l.length := (aft_le l i (· == 45)).2.2 (by omega)
 have HN : Hid (numberL l i = expPart l (fracPart l (if hasAt l (aft l i (· == 45)) (· == 48) = true then .ok (aft l i (· == 45) + 1) else digitsL l (aft l i (· == 45))))) := rfl
 go_enter Tryz.func37, Tryz.ntmps37
 go_upto_if 11 with fail
 go_cut [1] (fun s1 wx => s1 = .int .i64 ((aft l i (· == 45) : Nat) : Int) ∧ w = wx)
 case first =>
  by_cases e : bx l i = 45
  ·have HA : Hid (aft l i (· == 45) = i + 1) := by show _ = _; simp [aft, hasAt_in _ hi, e]
   have hbt : (bx l i == 45) = true := by rw [e]; rfl
   clear e HN hal hs
   generalize bx l i = c at *
   go_wp2_with fail
   go_meet
   exact ⟨by rw [HA.out]; go_num, rfl⟩
  ·have HA : Hid (aft l i (· == 45) = i) := by show _ = _; simp [aft, hasAt_in _ hi, e]
   have hne : (bx l i == 45) = false := beq_eq_false_iff_ne.2 e
   clear e HN hal hs
   generalize bx l i = c at *
   go_wp2_with fail
   go_meet
   exact ⟨by rw [HA.out], rfl⟩
 case rest =>
  obtain ⟨rfl, rfl⟩ := hcut
  clear hc0 hiI hi
  generalize aft l i (· == 45) = a at *
  have haI : (a : Int) ≤ 281474976710656 := by omega
  go_upto_region 4 with fail
  go_cut [24] (fun s wx => s = .bool (hasAt l a (· == 48)) ∧ w = wx)
  case first =>
   by_cases hin : a < l.length
   ·have hcell := hL.cell a hin
    have hI : (a : Int) < (l.length : Int) := by omega
    have HQ : Hid (hasAt l a (· == 48) = (bx l a == 48)) := hasAt_in _ hin
    clear hs hin HN hal
    by_cases e0 : bx l a = 48
    ·rw [e0] at hcell
     go_wp2_with fail
     go_meet
     exact ⟨by rw [HQ.out, e0]; rfl, rfl⟩
    ·have hne0 : (bx l a == 48) = false := beq_eq_false_iff_ne.2 e0
     have HQ2 : Hid (hasAt l a (· == 48) = false) := by show _ = _; rw [HQ.out, hne0]; try rfl
     clear e0 HQ
     generalize bx l a = c at *
     go_wp2_with fail
     go_meet
     exact ⟨by rw [HQ2.out], rfl⟩
   ·have hI : ¬ (a : Int) < (l.length : Int) := by omega
    have HQ2 : Hid (hasAt l a (· == 48) = false) := hasAt_out _ hin
    clear hs hin hL HN hal
    go_wp2_with fail
    go_meet
    exact ⟨by rw [HQ2.out], rfl⟩
  case rest =>
   obtain ⟨rfl, rfl⟩ := hcut
   go_upto_if 24 with fail
   go_cut [1, 6] (fun s1 s6 wx => ∃ k : Nat, k ≤ l.length ∧ Hid (numberL l i = expPart l (fracPart l (.ok k))) ∧ s1 = .int .i64 (k : Int) ∧ s6 = .int .i64 0 ∧ w = wx)
   case first =>
    cases hq : hasAt l a (· == 48)
    ·have HN2 : Hid (numberL l i = expPart l (fracPart l (digitsL l a))) := by show _ = _; rw [HN.out, if_neg (by rw [hq]; simp)]
     have h1 := hs a hal
     clear HN hs
     cases hd : digitsL l a with
     | error n =>
      have hn := digitsL_error hd
      rw [hd] at h1 HN2
      simp only [rpV] at h1
      have hn0 : (0 : Int) < (n : Int) := by omega
      clear hn hd
      go_wp2_with (go_at_call 58; refine h1.mono ?_; rintro r w' ⟨rfl, rfl⟩)
      go_ret2
      exact ⟨r_pl (by rw [HN2.out]; simp [rpV, expPart, fracPart]), rfl⟩
     | ok m =>
      have hm2 := digitsL_ok hd
      rw [hd] at h1 HN2
      simp only [rpV] at h1
      clear hd
      go_wp2_with (go_at_call 58; refine h1.mono ?_; rintro r w' ⟨rfl, rfl⟩)
      go_meet
      exact ⟨m, hm2, HN2, rfl, rfl, rfl⟩
    ·have HA : Hid (numberL l i = expPart l (fracPart l (.ok (a + 1)))) := by show _ = _; rw [HN.out, if_pos hq]
     have hlt := hasAt_lt hq
     clear HN hs
     go_wp2_with fail
     go_meet
     exact ⟨a + 1, by omega, HA, by go_num, rfl, rfl⟩
   case rest =>
    obtain ⟨k, hk, HK, rfl, rfl, rfl⟩ := hcut
    clear HN hal haI
    have hkI : (k : Int) ≤ 281474976710656 := by omega
    go_upto_region 9 with fail
    go_cut [46] (fun s wx => s = .bool (hasAt l k (· == 46)) ∧ w = wx)
    case first =>
     by_cases hin : k < l.length
     ·have hcell := hL.cell k hin
      have hI : (k : Int) < (l.length : Int) := by omega
      have HQ : Hid (hasAt l k (· == 46) = (bx l k == 46)) := hasAt_in _ hin
      clear hs hin HK hk
      by_cases e0 : bx l k = 46
      ·rw [e0] at hcell
       go_wp2_with fail
       go_meet
       exact ⟨by rw [HQ.out, e0]; rfl, rfl⟩
      ·have hne0 : (bx l k == 46) = false := beq_eq_false_iff_ne.2 e0
       have HQ2 : Hid (hasAt l k (· == 46) = false) := by show _ = _; rw [HQ.out, hne0]; try rfl
       clear e0 HQ
       generalize bx l k = c at *
       go_wp2_with fail
       go_meet
       exact ⟨by rw [HQ2.out], rfl⟩
     ·have hI : ¬ (k : Int) < (l.length : Int) := by omega
      have HQ2 : Hid (hasAt l k (· == 46) = false) := hasAt_out _ hin
      clear hs hin hL HK hk
      go_wp2_with fail
      go_meet
      exact ⟨by rw [HQ2.out], rfl⟩
    case rest =>
     obtain ⟨rfl, rfl⟩ := hcut
     go_upto_if 46 with fail
     go_cut [1, 6] (fun s1 s6 wx => ∃ k : Nat, k ≤ l.length ∧ Hid (numberL l i = expPart l (.ok k)) ∧ s1 = .int .i64 (k : Int) ∧ s6 = .int .i64 0 ∧ w = wx)
     case first =>
      cases hq : hasAt l k (· == 46)
      ·have HN2 : Hid (numberL l i = expPart l (.ok k)) := by show _ = _; rw [HK.out]; simp only [fracPart]; rw [if_neg (by rw [hq]; simp)]
       clear HK hs
       go_wp2_with fail
       go_meet
       exact ⟨k, hk, HN2, rfl, rfl, rfl⟩
      ·have HN2 : Hid (numberL l i = expPart l (digitsL l (k + 1))) := by show _ = _; rw [HK.out]; simp only [fracPart]; rw [if_pos hq]
       have hlt := hasAt_lt hq
       have h1 := hs (k + 1) (by omega)
       have e1 : ((k + 1 : Nat) : Int) = (k : Int) + 1 := by omega
       rw [e1] at h1
       clear HK hs e1
       cases hd : digitsL l (k + 1) with
       | error n =>
        have hn := digitsL_error hd
        rw [hd] at h1 HN2
        simp only [rpV] at h1
        have hn0 : (0 : Int) < (n : Int) := by omega
        clear hn hd
        go_wp2_with (go_at_call 58; refine h1.mono ?_; rintro r w' ⟨rfl, rfl⟩)
        go_ret2
        exact ⟨r_pl (by rw [HN2.out]; simp [rpV, expPart]), rfl⟩
       | ok m =>
        have hm2 := digitsL_ok hd
        rw [hd] at h1 HN2
        simp only [rpV] at h1
        clear hd
        go_wp2_with (go_at_call 58; refine h1.mono ?_; rintro r w' ⟨rfl, rfl⟩)
        go_meet
        exact ⟨m, hm2, HN2, rfl, rfl, rfl⟩
     case rest =>
      obtain ⟨p, hp, HP, rfl, rfl, rfl⟩ := hcut
      clear HK hk hkI
      have hpI : (p : Int) ≤ 281474976710656 := by omega
      go_upto_region 13 with fail
      go_cut [74] (fun s wx => s = .bool (hasAt l p (fun c => c == 101 || c == 69)) ∧ w = wx)
      case first =>
       by_cases hin : p < l.length
       ·have hcell := hL.cell p hin
        have hI : (p : Int) < (l.length : Int) := by omega
        have HQ : Hid (hasAt l p (fun c => c == 101 || c == 69) = (bx l p == 101 || bx l p == 69)) := hasAt_in _ hin
        clear hs hin HP hp
        by_cases e0 : bx l p = 101
        ·rw [e0] at hcell
         go_wp2_with fail
         go_meet
         exact ⟨by rw [HQ.out, e0]; rfl, rfl⟩
        ·have hne0 : (bx l p == 101) = false := beq_eq_false_iff_ne.2 e0
         by_cases e1 : bx l p = 69
         ·rw [e1] at hcell
          clear e0 hne0
          go_wp2_with fail
          go_meet
          exact ⟨by rw [HQ.out, e1]; rfl, rfl⟩
         ·have hne1 : (bx l p == 69) = false := beq_eq_false_iff_ne.2 e1
          have HQ2 : Hid (hasAt l p (fun c => c == 101 || c == 69) = false) := by show _ = _; rw [HQ.out, hne0, hne1]; try rfl
          clear e0 e1 HQ
          generalize bx l p = c at *
          go_wp2_with fail
          go_meet
          exact ⟨by rw [HQ2.out], rfl⟩
       ·have hI : ¬ (p : Int) < (l.length : Int) := by omega
        have HQ2 : Hid (hasAt l p (fun c => c == 101 || c == 69) = false) := hasAt_out _ hin
        clear hs hin hL HP hp
        go_wp2_with fail
        go_meet
        exact ⟨by rw [HQ2.out], rfl⟩
      case rest =>
       obtain ⟨rfl, rfl⟩ := hcut
       cases hq : hasAt l p (fun c => c == 101 || c == 69)
       ·have HF : Hid (numberL l i = .ok p) := by show _ = _; rw [HP.out]; simp only [expPart]; rw [if_neg (by rw [hq]; simp)]
        clear HP hs hL
        go_wp2
        go_ret2
        exact ⟨r_pl (by rw [HF.out]; simp [rpV]), rfl⟩
       ·have hp2 := hasAt_lt hq
        have HF : Hid (numberL l i = digitsL l (aft l (p + 1) (fun c => c == 43 || c == 45))) := by show _ = _; rw [HP.out]; simp only [expPart]; rw [if_pos hq]; rfl
        have hal : aft l (p + 1) (fun c => c == 43 || c == 45) ≤ l.length := (aft_le l (p + 1) (fun c => c == 43 || c == 45)).2.2 (by omega)
        have hpl : p + 1 ≤ l.length := by omega
        clear HP
        go_upto_region 14 with fail
        go_cut [1] (fun s1 wx => s1 = .int .i64 ((p + 1 : Nat) : Int) ∧ w = wx)
        case first =>
         clear hs HF
         go_wp2_with fail
         go_meet
         exact ⟨by go_num, rfl⟩
        case rest =>
         obtain ⟨rfl, rfl⟩ := hcut
         clear hq hp2 hp hpI
         generalize p + 1 = q at *
         have hqI : (q : Int) ≤ 281474976710656 := by omega
         go_upto_region 15 with fail
         go_cut [94] (fun s wx => s = .bool (hasAt l q (fun c => c == 43 || c == 45)) ∧ w = wx)
         case first =>
          by_cases hin : q < l.length
          ·have hcell := hL.cell q hin
           have hI : (q : Int) < (l.length : Int) := by omega
           have HQ : Hid (hasAt l q (fun c => c == 43 || c == 45) = (bx l q == 43 || bx l q == 45)) := hasAt_in _ hin
           clear hs hin HF hal
           by_cases e0 : bx l q = 43
           ·rw [e0] at hcell
            go_wp2_with fail
            go_meet
            exact ⟨by rw [HQ.out, e0]; rfl, rfl⟩
           ·have hne0 : (bx l q == 43) = false := beq_eq_false_iff_ne.2 e0
            by_cases e1 : bx l q = 45
            ·rw [e1] at hcell
             clear e0 hne0
             go_wp2_with fail
             go_meet
             exact ⟨by rw [HQ.out, e1]; rfl, rfl⟩
            ·have hne1 : (bx l q == 45) = false := beq_eq_false_iff_ne.2 e1
             have HQ2 : Hid (hasAt l q (fun c => c == 43 || c == 45) = false) := by show _ = _; rw [HQ.out, hne0, hne1]; try rfl
             clear e0 e1 HQ
             generalize bx l q = c at *
             go_wp2_with fail
             go_meet
             exact ⟨by rw [HQ2.out], rfl⟩
          ·have hI : ¬ (q : Int) < (l.length : Int) := by omega
           have HQ2 : Hid (hasAt l q (fun c => c == 43 || c == 45) = false) := hasAt_out _ hin
           clear hs hin hL HF hal
           go_wp2_with fail
           go_meet
           exact ⟨by rw [HQ2.out], rfl⟩
         case rest =>
          obtain ⟨rfl, rfl⟩ := hcut
          go_upto_if 94 with fail
          go_cut [1] (fun s1 wx => s1 = .int .i64 ((aft l q (fun c => c == 43 || c == 45) : Nat) : Int) ∧ w = wx)
          case first =>
           cases hq : hasAt l q (fun c => c == 43 || c == 45)
           ·have HA : Hid (aft l q (fun c => c == 43 || c == 45) = q) := by show _ = _; simp [aft, hq]
            clear HF hs hal
            go_wp2_with fail
            go_meet
            exact ⟨by rw [HA.out], rfl⟩
           ·have HA : Hid (aft l q (fun c => c == 43 || c == 45) = q + 1) := by show _ = _; simp [aft, hq]
            clear HF hs hal
            go_wp2_with fail
            go_meet
            exact ⟨by rw [HA.out]; go_num, rfl⟩
          case rest =>
           obtain ⟨rfl, rfl⟩ := hcut
           have h1 := hs _ hal
           clear hs
           generalize aft l q (fun c => c == 43 || c == 45) = a at *
           cases hd : digitsL l a with
           | error n =>
            have hn := digitsL_error hd
            rw [hd] at h1 HF
            simp only [rpV] at h1
            have hn0 : (0 : Int) < (n : Int) := by omega
            clear hn hd
            go_wp2_with (go_at_call 58; refine h1.mono ?_; rintro r w' ⟨rfl, rfl⟩)
            go_ret2
            exact ⟨r_pl (by rw [HF.out]; simp [rpV]), rfl⟩
           | ok m =>
            have hm2 := digitsL_ok hd
            rw [hd] at h1 HF
            simp only [rpV] at h1
            clear hd
            go_wp2_with (go_at_call 58; refine h1.mono ?_; rintro r w' ⟨rfl, rfl⟩)
            go_ret2
            exact ⟨r_pl (by rw [HF.out]; simp [rpV]), rfl⟩
end Go.Proofs.YtfoehebnmommfaaGreatDoor.Lx

namespace Go.Proofs.YtfoehebnmommfaaGreatDoor.Lx
open Go.RowKit
attribute [local go_sem] setCell_drewN alloc_drewN

theorem rblank_any (c : Int) (w : World) : Calls Tryz.prog 34 #[.int .u8 c] w fun r w' => r = .returned (.bool (blankB c)) ∧ w' = w := by
 by_cases h1 : c = 9
 ·subst h1
  go_enter Tryz.func34, Tryz.ntmps34
  go_wp2
  go_ret
  exact ⟨rfl, rfl⟩
 ·by_cases h2 : c = 10
  ·subst h2
   go_enter Tryz.func34, Tryz.ntmps34
   go_wp2
   go_ret
   exact ⟨rfl, rfl⟩
  ·by_cases h3 : c = 13
   ·subst h3
    go_enter Tryz.func34, Tryz.ntmps34
    go_wp2
    go_ret
    exact ⟨rfl, rfl⟩
   ·have e1 : (c == 9) = false := beq_eq_false_iff_ne.2 h1
    have e2 : (c == 10) = false := beq_eq_false_iff_ne.2 h2
    have e3 : (c == 13) = false := beq_eq_false_iff_ne.2 h3
    have HR : Hid (blankB c = (c == 32)) := by show _ = _; unfold blankB; rw [e1, e2, e3]; simp
    clear h1 h2 h3
    go_enter Tryz.func34, Tryz.ntmps34
    go_wp2
    go_ret
    exact ⟨r_bool HR.out.symm, rfl⟩
theorem spelled_sub {l : List UInt8} (cs : List UInt8) : ∀ {i k : Nat}, spelledL l i cs = .ok k → sub l i k = cs := by
 induction cs with
 | nil => intro i k h; simp [spelledL] at h; subst h; exact sub_self _ _
 | cons c cs ih =>
  intro i k h
  simp only [spelledL] at h
  split at h
  ·rename_i g
   have hl := hasAt_lt g
   have e := ih h
   have hk := (spelledL_le cs h).1
   rw [hasAt_in _ hl] at g
   have g2 : bx l i = (c.toNat : Int) := by simpa using g
   rw [← bx_at hl] at g2
   have g3 : l[i] = c := UInt8.toNat.inj (by omega)
   rw [← sub_cat (m := 1) (by omega), e]
   simp [sub, List.drop_eq_getElem_cons hl, g3]
  ·cases h
theorem readL_word {l : List UInt8} {p : Nat} (hp : p < l.length) (hs : signB (bx l p) = false) :
  (bx l p = 110 → readL l p = stands 3 l p (spelledL l p [110, 117, 108, 108])) ∧ (bx l p = 116 → readL l p = stands 3 l p (spelledL l p [116, 114, 117, 101])) ∧ (bx l p = 102 → readL l p = stands 3 l p (spelledL l p [102, 97, 108, 115, 101])) ∧
  (bx l p = 45 → readL l p = stands 2 l p (numberL l p)) ∧ (digitB (bx l p) = true → readL l p = stands 2 l p (numberL l p)) ∧ (bx l p = 34 → readL l p = textL l p) := by
 have h0 : ¬ p = l.length := by omega
 unfold readL
 rw [if_neg h0, if_neg (by rw [hs]; simp)]
 refine ⟨fun h => ?_, fun h => ?_, fun h => ?_, fun h => ?_, fun h => ?_, fun h => ?_⟩
 ·rw [if_pos h]
 ·rw [if_neg (by omega), if_pos h]
 ·rw [if_neg (by omega), if_neg (by omega), if_pos h]
 ·rw [if_neg (by omega), if_neg (by omega), if_neg (by omega), if_pos (.inl h)]
 ·have g : 48 ≤ bx l p ∧ bx l p ≤ 57 := by simpa [digitB] using h
  rw [if_neg (by omega), if_neg (by omega), if_neg (by omega), if_pos (.inr h)]
 ·rw [if_neg (by omega), if_neg (by omega), if_neg (by omega), if_neg (by rw [h]; decide), if_pos h]
theorem readL_none {l : List UInt8} {p : Nat} (hp : p < l.length) (hs : signB (bx l p) = false) (n1 : bx l p ≠ 110) (n2 : bx l p ≠ 116) (n3 : bx l p ≠ 102) (n4 : bx l p ≠ 45) (n5 : digitB (bx l p) = false) (n6 : bx l p ≠ 34) : readL l p = .error (p + 1) := by
 unfold readL
 rw [if_neg (by omega), if_neg (by rw [hs]; simp), if_neg n1, if_neg n2, if_neg n3, if_neg (by rw [n5]; simp [n4]), if_neg n6]
theorem readL_sign {l : List UInt8} {p : Nat} (hp : p < l.length) (hs : signB (bx l p) = true) : readL l p = .ok ⟨4, sub l p (p + 1), p, p + 1⟩ := by
 unfold readL
 rw [if_neg (by omega), if_pos hs]
theorem numberL_error {l : List UInt8} {i n : Nat} (h : numberL l i = .error n) : 0 < n := by
 unfold numberL at h
 cases hw : wholeL l i with
 | error a =>
  rw [hw] at h
  have e : a = n := Except.error.inj h
  unfold wholeL at hw
  split at hw
  ·cases hw
  ·have := digitsL_error hw; omega
 | ok a =>
  rw [hw] at h
  cases hf : fracPart l (.ok a) with
  | error b =>
   rw [hf] at h
   have e : b = n := Except.error.inj h
   simp only [fracPart] at hf
   split at hf
   ·have := digitsL_error hf; omega
   ·cases hf
  | ok b =>
   rw [hf] at h
   simp only [expPart] at h
   split at h
   ·have := digitsL_error h; omega
   ·cases h
theorem textF_error {l : List UInt8} {fr : Nat} (f : Nat) : ∀ {i n : Nat} {out : List UInt8}, textF l fr f i out = .error n → 0 < n := by
 induction f with
 | zero => intro i n out h; simp only [textF] at h; have := Except.error.inj h; omega
 | succ f ih =>
  intro i n out h
  simp only [textF] at h
  cases hp : plainL l i with
  | error m =>
   rw [hp] at h
   have e : m = n := Except.error.inj h
   unfold plainL at hp
   split at hp
   ·cases hp
   ·have := Except.error.inj hp; omega
  | ok e =>
   rw [hp] at h
   simp only at h
   split at h
   ·cases h
   ·cases hx : escapeL l e with
    | error m =>
     rw [hx] at h
     have e2 : m = n := Except.error.inj h
     by_cases hb : hasAt l e (· == 92) = true
     ·rw [escape_of hb] at hx
      cases hy : escL l (e + 1) with
      | error q => rw [hy] at hx; have := escL_error hy; have := Except.error.inj hx; omega
      | ok r => rw [hy] at hx; cases hx
     ·unfold escapeL at hx
      rw [if_neg hb] at hx
      have := Except.error.inj hx
      omega
    | ok r => rw [hx] at h; exact ih h
theorem textL_error {l : List UInt8} {i n : Nat} (h : textL l i = .error n) : 0 < n := textF_error _ h
theorem textF_ok {l : List UInt8} {fr : Nat} (f : Nat) : ∀ {i : Nat} {out : List UInt8} {t : Tok}, textF l fr f i out = .ok t → t.kind = 1 ∧ t.fr = fr := by
 induction f with
 | zero => intro i out t h; simp [textF] at h
 | succ f ih =>
  intro i out t h
  simp only [textF] at h
  cases hp : plainL l i with
  | error m => rw [hp] at h; cases h
  | ok e =>
   rw [hp] at h
   simp only at h
   split at h
   ·have := Except.ok.inj h; subst this; exact ⟨rfl, rfl⟩
   ·cases hx : escapeL l e with
    | error m => rw [hx] at h; cases h
    | ok r => rw [hx] at h; exact ih h
theorem keep2 {w w' : World} {a b c d : Value} {a' b' c' d' : Value} {ty : TypeId} (h : Below ((w.alloc (.cells #[a, b, c, d] ty)).alloc (.cells #[a', b', c', d'] ty)).heap.size ((w.alloc (.cells #[a, b, c, d] ty)).alloc (.cells #[a', b', c', d'] ty)) w') :
  (∀ o, w'.cell? ⟨w.heap.size, o, none⟩ = #[a, b, c, d][o]?) ∧ (∀ o, w'.frozen? ⟨w.heap.size, o, none⟩ = false) ∧ (∀ o, w'.cell? ⟨w.heap.size + 1, o, none⟩ = #[a', b', c', d'][o]?) ∧ (∀ o, w'.frozen? ⟨w.heap.size + 1, o, none⟩ = false) ∧ w.heap.size + 1 < w'.heap.size := by
 have z := h.size
 simp only [World.size_alloc] at z
 refine ⟨fun o => ?_, fun o => ?_, fun o => ?_, fun o => ?_, by omega⟩
 ·rw [h.cell (p := ⟨w.heap.size, o, none⟩) (by simp only [World.size_alloc]; omega)]
  simp [go_sem]
 ·rw [h.frozen (p := ⟨w.heap.size, o, none⟩) (by simp only [World.size_alloc]; omega)]
  simp [go_sem]
 ·rw [h.cell (p := ⟨w.heap.size + 1, o, none⟩) (by simp only [World.size_alloc]; omega)]
  simp [go_sem]
 ·rw [h.frozen (p := ⟨w.heap.size + 1, o, none⟩) (by simp only [World.size_alloc]; omega)]
  simp [go_sem]
end Go.Proofs.YtfoehebnmommfaaGreatDoor.Lx

namespace Go.Proofs.YtfoehebnmommfaaGreatDoor.Lx
open Go.RowKit

theorem stands_err {k : Nat} {l : List UInt8} {i n : Nat} {p : Pl} (h : stands k l i p = .error n) : p = .error n := by
  cases p with
  | error m =>
    have h' : (Except.error m : Tk) = .error n := h
    rw [Except.error.inj h']
  | ok e => cases h
theorem readL_bad {l : List UInt8} {p n : Nat} (hp : p ≤ l.length) (h : readL l p = .error n) : p < l.length ∧ signB (bx l p) = false ∧
    ((bx l p = 110 ∧ spelledL l p [110, 117, 108, 108] = .error n) ∨ (bx l p = 116 ∧ spelledL l p [116, 114, 117, 101] = .error n) ∨ (bx l p = 102 ∧ spelledL l p [102, 97, 108, 115, 101] = .error n) ∨
     ((bx l p = 45 ∨ digitB (bx l p) = true) ∧ numberL l p = .error n) ∨ (bx l p = 34 ∧ textL l p = .error n) ∨
     (bx l p ≠ 110 ∧ bx l p ≠ 116 ∧ bx l p ≠ 102 ∧ bx l p ≠ 45 ∧ digitB (bx l p) = false ∧ bx l p ≠ 34 ∧ n = p + 1)) := by
  unfold readL at h
  split at h
  · cases h
  · rename_i h0
    split at h
    · cases h
    · rename_i hs
      refine ⟨by omega, by simpa using hs, ?_⟩
      split at h
      · rename_i c; exact .inl ⟨c, stands_err h⟩
      · rename_i n1
        split at h
        · rename_i c; exact .inr (.inl ⟨c, stands_err h⟩)
        · rename_i n2
          split at h
          · rename_i c; exact .inr (.inr (.inl ⟨c, stands_err h⟩))
          · rename_i n3
            split at h
            · rename_i c; exact .inr (.inr (.inr (.inl ⟨c, stands_err h⟩)))
            · rename_i n4
              split at h
              · rename_i c; exact .inr (.inr (.inr (.inr (.inl ⟨c, h⟩))))
              · rename_i n5
                have e := Except.error.inj h
                have n6 : ¬ bx l p = 45 := fun c => n4 (.inl c)
                have n7 : digitB (bx l p) = false := by
                  cases hd : digitB (bx l p)
                  · rfl
                  · exact absurd (.inr hd) n4
                exact .inr (.inr (.inr (.inr (.inr ⟨n1, n2, n3, n6, n7, n5, e.symm⟩))))
end Go.Proofs.YtfoehebnmommfaaGreatDoor.Lx

namespace Go.Proofs.YtfoehebnmommfaaGreatDoor.Lx
open Go.RowKit

end Go.Proofs.YtfoehebnmommfaaGreatDoor.Lx

namespace Go.Proofs.YtfoehebnmommfaaGreatDoor.Lx
open Go.RowKit

end Go.Proofs.YtfoehebnmommfaaGreatDoor.Lx

namespace Go.Proofs.YtfoehebnmommfaaGreatDoor.Lx
open Go.RowKit

end Go.Proofs.YtfoehebnmommfaaGreatDoor.Lx

namespace Go.Proofs.YtfoehebnmommfaaGreatDoor.Lx
open Go.RowKit

theorem Agree.symm {l l' : List UInt8} {n : Nat} (h : Agree l l' n) : Agree l' l n := ⟨h.le', h.le, fun j hj => (h.at_ j hj).symm⟩
theorem exp_le {l : List UInt8} {i k : Nat} (h : expPart l (.ok i) = .ok k) : i ≤ k := by
 simp only [expPart] at h
 split at h
 ·have := exponentL_le h; omega
 ·have := Except.ok.inj h; omega
theorem number_parts {l : List UInt8} {i k : Nat} (h : numberL l i = .ok k) : ∃ a b, wholeL l i = .ok a ∧ fracPart l (.ok a) = .ok b ∧ expPart l (.ok b) = .ok k ∧ a ≤ b ∧ b ≤ k ∧ i < a := by
 unfold numberL at h
 cases hw : wholeL l i with
 | error a => rw [hw] at h; cases h
 | ok a =>
  rw [hw] at h
  have hwl := wholeL_le hw
  cases hf : fracPart l (.ok a) with
  | error b => rw [hf] at h; cases h
  | ok b =>
   rw [hf] at h
   exact ⟨a, b, rfl, hf, h, (fracPart_le hwl.2 hf).1, exp_le h, hwl.1⟩
theorem read_kind {l : List UInt8} {p : Nat} {t : Tok} (hlt : p < l.length) (h : readL l p = .ok t) : t.kind ≠ 0 := by
 unfold readL at h
 rw [if_neg (by omega)] at h
 have hst : ∀ (kd : Nat) (y : Pl), kd ≠ 0 → stands kd l p y = .ok t → t.kind ≠ 0 := fun kd y hkd hy => by
  obtain ⟨e, _, ht⟩ := stands_ok hy
  rw [ht]; exact hkd
 split at h
 ·injection h with h; rw [← h]; simp
 ·split at h
  ·exact hst 3 _ (by decide) h
  ·split at h
   ·exact hst 3 _ (by decide) h
   ·split at h
    ·exact hst 3 _ (by decide) h
    ·split at h
     ·exact hst 2 _ (by decide) h
     ·split at h
      ·have := (textF_gt _ h).2.2.1; omega
      ·cases h
theorem read_num {l : List UInt8} {p : Nat} {t : Tok} (hlt : p < l.length) (h : readL l p = .ok t) (h2 : t.kind = 2) : signB (bx l p) = false ∧ (bx l p = 45 ∨ digitB (bx l p) = true) ∧ numberL l p = .ok t.to ∧ t = ⟨2, sub l p t.to, p, t.to⟩ := by
 unfold readL at h
 rw [if_neg (by omega)] at h
 split at h
 ·injection h with h; rw [← h] at h2; simp at h2
 ·rename_i hs
  refine ⟨by simpa using hs, ?_⟩
  have hst : ∀ (kd : Nat) (y : Pl), kd ≠ 2 → stands kd l p y = .ok t → False := fun kd y hkd hy => by
   obtain ⟨e, _, ht⟩ := stands_ok hy
   rw [ht] at h2; exact hkd h2
  split at h
  ·exact (hst 3 _ (by decide) h).elim
  ·split at h
   ·exact (hst 3 _ (by decide) h).elim
   ·split at h
    ·exact (hst 3 _ (by decide) h).elim
    ·split at h
     ·rename_i c
      obtain ⟨e, he, ht⟩ := stands_ok h
      exact ⟨c, by rw [ht]; exact he, by rw [ht]⟩
     ·split at h
      ·have := (textF_gt _ h).2.2.1; omega
      ·cases h
end Go.Proofs.YtfoehebnmommfaaGreatDoor.Lx

namespace Go.Proofs.YtfoehebnmommfaaGreatDoor
open Go.RowKit

theorem takeS_eq (fs : ByteArray) (l : List UInt8) (i : Nat) : takeS fs l i = if Lx.hasAt l (Lx.pass l Lx.blankB i) (may fs) = true then Lx.readL l (Lx.pass l Lx.blankB i) else .error (Lx.pass l Lx.blankB i + 1) := by
 unfold takeS takeL Lx.nextL
 rw [Lx.pass_stop (Lx.pass_end l Lx.blankB i)]
structure Lk (l l' : List UInt8) (n : Nat) : Prop where
 len : n ≤ l'.length + 1
 ok : ∀ fs i t, takeS fs l i = .ok t → t.to < n → takeS fs l' i = .ok t
 err : ∀ fs i, i < n → i ≤ l.length → takeS fs l i = .error n → takeS fs l' i = .error n
 key : ∀ fs i t, takeS fs l i = .ok t → t.kind = 1 → t.to = n → takeS fs l' i = .ok t ∨ takeS fs l' i = .error n
theorem takeS_at {fs : ByteArray} {l : List UInt8} {i : Nat} {t : Lx.Tok} (h : takeS fs l i = .ok t) : Lx.pass l Lx.blankB i < l.length ∧ Lx.hasAt l (Lx.pass l Lx.blankB i) (may fs) = true ∧ Lx.readL l (Lx.pass l Lx.blankB i) = .ok t ∧ Lx.pass l Lx.blankB i < t.to := by
 rw [takeS_eq] at h
 split at h
 ·rename_i hh
  have hlt := Lx.hasAt_lt hh
  refine ⟨hlt, hh, h, ?_⟩
  rcases Lx.readL_le (Nat.le_of_lt hlt) h with ⟨_, e⟩ | ⟨e, _⟩
  ·omega
  ·exact e
 ·cases h
theorem key_kind {l : List UInt8} {i : Nat} {t : Lx.Tok} (hl : l.length ≤ 1048576) (h : takeS fosC l i = .ok t) (hf : sgnB t sgF = false) : t.kind = 1 := by
 obtain ⟨h1, h2, h3, h4⟩ := takeS_at h
 generalize Lx.pass l Lx.blankB i = p at *
 rw [Lx.hasAt_in _ h1] at h2
 have hb : Lx.bx l p = 34 ∨ Lx.bx l p = 125 := by
  have e2 : Lx.bx l p = (l[p].toNat : Int) := by simp [Lx.bx, h1]
  have : ∀ c : Nat, c < 256 → may fosC (c : Int) = true → c = 34 ∨ c = 125 := by decide +kernel
  rw [e2] at h2 ⊢
  have := this _ (UInt8.toNat_lt _) h2
  omega
 rcases hb with hb | hb
 ·have hs : Lx.signB (Lx.bx l p) = false := by rw [hb]; decide
  rw [(Lx.readL_word h1 hs).2.2.2.2.2 hb] at h3
  exact (Lx.textF_gt _ h3).2.2.1
 ·exfalso
  have hs : Lx.signB (Lx.bx l p) = true := by rw [hb]; decide
  rw [Lx.readL_sign h1 hs] at h3
  injection h3 with h3
  have e1 : Lx.sub l p (p + 1) = [l[p]] := by
   unfold Lx.sub
   rw [show p + 1 - p = 1 by omega, List.drop_eq_getElem_cons h1]
   rfl
  have e2 : l[p] = 125 := by
   have : Lx.bx l p = (l[p].toNat : Int) := by simp [Lx.bx, h1]
   rw [this] at hb
   have hb : l[p].toNat = 125 := by omega
   exact UInt8.toNat_inj.1 hb
  rw [← h3, e1, e2] at hf
  unfold sgnB isL jeqT at hf
  have : (decide (((4 : Nat) : Int) = 4 ∧ txtB ⟨4, [125], p, p + 1⟩ = sgF ∧ (p : Int) = (p : Int) ∧ ((p + 1 : Nat) : Int) = wrap64 ((p : Int) + (sgF.size : Int)))) = true := by
   rw [decide_eq_true_eq]
   refine ⟨rfl, rfl, rfl, ?_⟩
   have e : (sgF.size : Int) = 1 := rfl
   rw [e]
   unfold wrap64
   omega
  rw [this] at hf
  cases hf
theorem key_kind' {l : List UInt8} {i : Nat} {t : Lx.Tok} (h : takeS fos l i = .ok t) : t.kind = 1 := by
 obtain ⟨h1, h2, h3, h4⟩ := takeS_at h
 generalize Lx.pass l Lx.blankB i = p at *
 rw [Lx.hasAt_in _ h1] at h2
 have hb : Lx.bx l p = 34 := by
  have e2 : Lx.bx l p = (l[p].toNat : Int) := by simp [Lx.bx, h1]
  have : ∀ c : Nat, c < 256 → may fos (c : Int) = true → c = 34 := by decide +kernel
  rw [e2] at h2 ⊢
  have := this _ (UInt8.toNat_lt _) h2
  omega
 have hs : Lx.signB (Lx.bx l p) = false := by rw [hb]; decide
 rw [(Lx.readL_word h1 hs).2.2.2.2.2 hb] at h3
 exact (Lx.textF_gt _ h3).2.2.1
end Go.Proofs.YtfoehebnmommfaaGreatDoor

namespace Go.Proofs.YtfoehebnmommfaaGreatDoor
open Go.RowKit

theorem valueOf_le {l : List UInt8} {t : Lx.Tok} {s : SS} {x : Lx.Tok × SS} (h : valueOfS l t s = .ok x) : x.2.i ≤ l.length := by
 unfold valueOfS at h
 split at h
 ·cases h
 ·split at h
  ·cases h
  ·split at h
   ·cases h
   ·rename_i t2 h2
    injection h with h
    rw [← h]
    exact (takeL_ok h2).2.1
theorem first_le {l : List UInt8} {m : LM} : ∀ k t s x, firstS l m k t s = .ok x → s.i ≤ x.2.i
 | 0, _, _, _, h => by simp [firstS] at h
 | k + 1, t, s, x, h => by
  unfold firstS at h
  split at h
  ·split at h
   ·cases h
   ·rename_i t1 h1
    have := first_le k _ _ _ h
    have e : ({ openS 5 s with i := t1.to } : SS).i = t1.to := rfl
    rw [e] at this
    have := (takeL_ok h1).1
    omega
  ·split at h
   ·split at h
    ·cases h
    ·rename_i t1 h1
     have o1 := (takeL_ok h1).1
     have e : ({ openS 6 s with i := t1.to } : SS).i = t1.to := rfl
     split at h
     ·have := first_le k _ _ _ h
      rw [e] at this
      omega
     ·split at h
      ·cases h
      ·rename_i t2 s2 h2
       have o2 := (valueOfS_ok h2).1
       rw [e] at o2
       have := first_le k _ _ _ h
       simp only at o2
       omega
   ·split at h
    ·injection h with h; rw [← h]; exact Nat.le_refl _
    ·injection h with h; rw [← h]; exact Nat.le_refl _
end Go.Proofs.YtfoehebnmommfaaGreatDoor
