/-
  What ref4.Next answers: the same as lex.Next. Conditions: the bytes lie in memory, at most 2^47 - 4096 of them; the place lies within them.
  What ref4.Next answers: the same as lex.Next. Conditions: the bytes lie in memory, at most 2^47 - 4096 of them; the place lies within them.
  What ref4.Next answers: the same as lex.Next. Conditions: the bytes lie in memory, at most 2^47 - 4096 of them, one at least; the place lies within them.
  What lex.Next and ref4.Next answer at every place, also one that lies outside. Conditions: the bytes lie in memory, at most 2^47 - 4096 of them; for lex.Next the variables as they are laid.
-/
import Derived.Test.YtfoehebnmommfaaGreatDoorJoined28
import Derived.Deep.RegionHeld3
import Derived.Deep.DeepCutAuto
import Derived.Deep.LoopGhost
import Derived.Deep.CutBlock
import Derived.Test.YtfoehebnmommfaaGreatDoorJoined42
import Derived.Test.YtfoehebnmommfaaGreatDoorJoined20
namespace Go.Proofs.YtfoehebnmommfaaGreatDoor.Lx
open Go.RowKit
attribute [local go_sem] setCell_drewN alloc_drewN

set_option maxRecDepth 100000 in
set_option maxHeartbeats 12800000 in
theorem rnext_t (l : List UInt8) (i : Nat) (v : Value) (w : World) (hB : Byt w v l) (h0 : 0 < l.length) (hi : i ≤ l.length) (hm : l.length ≤ 140737488351232) (hc0 : (pass l blankB i < l.length ∧ bx l (pass l blankB i) = 34)) :
  Calls Tryz.prog 20 #[v, .int .i64 i] w fun r w' => r = .returned (nxV (nextL l i)) ∧ Below w.heap.size w w' := by
 obtain ⟨b, off, cap, ev, hc, hm'⟩ : ∃ b off cap, v = .slice (some ⟨b, off, none⟩) l.length cap ∧ l.length ≤ cap ∧ cap ≤ maxLen := by
  rcases hB with ⟨h, _⟩ | ⟨b, off, cap, e, hc, hm', _⟩
  ·omega
  ·exact ⟨b, off, cap, e, hc, hm'⟩
 subst ev
 have hcI : (cap : Int) ≤ 9223372036854775807 := by unfold maxLen at hm'; omega
 have hcI2 : (l.length : Int) ≤ (cap : Int) := by omega
 have hlI : (l.length : Int) ≤ 140737488351232 := by omega
 have hiI : (i : Int) ≤ (l.length : Int) := by omega
 have hd0 : decide ((i : Int) < 0) = false := decide_eq_false (by omega)
 have hd1 : decide ((l.length : Int) < (i : Int)) = false := decide_eq_false (by omega)
 have hd2 : decide (l.length < i) = false := decide_eq_false (by omega)
 have hB0 : Byt (w.alloc (.cells #[.int .i64 0, .string ⟨#[]⟩, .int .i64 0, .int .i64 0] 50)) (.slice (some ⟨b, off, none⟩) l.length cap) l := Row.alloc hB _
 have hBo : ∀ o, Byt ((w.alloc (.cells #[.int .i64 0, .string ⟨#[]⟩, .int .i64 0, .int .i64 0] 50)).alloc o) (.slice (some ⟨b, off, none⟩) l.length cap) l := fun o => Row.alloc hB0 _
 have hL0 := (byt_lies hB0 h0).1
 have hLo := fun o => (byt_lies (hBo o) h0).1
 have HN : Hid (nextL l i = readL l (pass l blankB i)) := rfl
 have hpl := pass_le (l := l) (p := blankB) hi
 have HX : Hid (pass l blankB i < l.length ∧ bx l (pass l blankB i) = 34) := hc0
 clear hB hc0
 go_enter Tryz.func20, Tryz.ntmps20
 go_upto_block 0 with fail
 go_cut [1] (fun s1 wx => s1 = .int .i64 ((pass l blankB i : Nat) : Int) ∧ (w.alloc (.cells #[.int .i64 0, .string ⟨#[]⟩, .int .i64 0, .int .i64 0] 50)) = wx)
 case first =>
  clear hBo hLo HN hpl HX
  go_wp2_with fail
  go_loopg [1] (l.length - i) (fun g s1 wx => ∃ k : Nat, k ≤ l.length ∧ g = l.length - k ∧ s1 = .int .i64 (k : Int) ∧ Hid (pass l blankB k = pass l blankB i) ∧ (w.alloc (.cells #[.int .i64 0, .string ⟨#[]⟩, .int .i64 0, .int .i64 0] 50)) = wx)
  case atStart => exact ⟨i, hi, rfl, rfl, rfl, rfl⟩
  case round =>
   obtain ⟨k, hk, rfl, rfl, HP, rfl⟩ := hrel
   by_cases hkl : k < l.length
   ·have hcell := hL0.cell k hkl
    have hI : (k : Int) < (l.length : Int) := by omega
    have h2 := fun w => (rblank_any (bx l k) w).mono fun r w' h => (show r = .returned (.bool (blankB (bx l k))) ∧ w = w' from ⟨h.1, h.2.symm⟩)
    have hq := hasAt_in (l := l) blankB hkl
    cases hp : blankB (bx l k)
    ·rw [hp] at h2 hq
     have HF : Hid (pass l blankB i = k) := by show _ = _; rw [← HP.out, pass_stop hq]
     clear HP hq hp
     generalize bx l k = c at *
     go_wp2_with (go_at_call 34; refine (h2 _).mono ?_; rintro r w' ⟨rfl, rfl⟩)
     go_meet
     exact ⟨by rw [HF.out], rfl⟩
    ·rw [hp] at h2 hq
     have HF : Hid (pass l blankB (k + 1) = pass l blankB i) := by show _ = _; rw [← HP.out, pass_go hq]
     clear HP hq hp
     generalize bx l k = c at *
     go_wp2_with (go_at_call 34; refine (h2 _).mono ?_; rintro r w' ⟨rfl, rfl⟩)
     go_roundg (l.length - (k + 1))
     case measure => omega
     case rel => exact ⟨k + 1, by omega, rfl, by go_num, HF, rfl⟩
   ·have hI : ¬ (k : Int) < (l.length : Int) := by omega
    have d : decide ((k : Int) < (l.length : Int)) = false := decide_eq_false hI
    have HF : Hid (pass l blankB i = k) := by show _ = _; rw [← HP.out, pass_stop (hasAt_out _ hkl)]
    clear HP
    go_wp2
    go_meet
    exact ⟨by rw [HF.out], rfl⟩
 case rest =>
  obtain ⟨rfl, rfl⟩ := hcut
  clear hd0 hd1 hd2 hL0 hB0
  generalize pass l blankB i = p at *
  have hpI : (p : Int) ≤ (l.length : Int) := by omega
  by_cases hpe : p = l.length
  ·have z := HX.out.1
   omega
  ·have hpl2 : p < l.length := by omega
   have hne : ((p : Int) == (l.length : Int)) = false := beq_eq_false_iff_ne.2 (by omega)
   have hpI2 : (p : Int) < (l.length : Int) := by omega
   have hcell := fun o => hLo o |>.cell p hpl2
   have hpc : (p : Int) < (cap : Int) := by omega
   have hpc1 : (p : Int) + 1 ≤ (cap : Int) := by omega
   have hpc2 : (p : Int) ≤ (p : Int) + 1 := by omega
   have hnat : ((p : Int) + 1).toNat = p + 1 := by omega
   have RS := fun hs => readL_sign (l := l) hpl2 hs
   have RW := fun hs => readL_word (l := l) hpl2 hs
   have RN := readL_none (l := l) hpl2
   rw [← HN.out] at RS RW RN
   obtain ⟨c, hbc⟩ : ∃ c, bx l p = c := ⟨_, rfl⟩
   rw [hbc] at RS RW RN hcell
   have HX2 : Hid (p < l.length ∧ c = 34) := by have z := HX.out; rw [hbc] at z; exact z
   clear HX
   have HX := HX2
   clear HX2
   have HS : Hid (signB c = true → nextL l i = .ok ⟨4, sub l p (p + 1), p, p + 1⟩) := RS
   have HW := (show Hid (signB c = false → _) from RW)
   have HNO : Hid (signB c = false → c ≠ 110 → c ≠ 116 → c ≠ 102 → c ≠ 45 → digitB c = false → c ≠ 34 → nextL l i = .error (p + 1)) := RN
   clear RS RW RN HN hpe hLo hbc
   go_upto_region 11 with fail
   go_cut [46] (fun s wx => s = .bool (signB c) ∧ ((w.alloc (.cells #[.int .i64 0, .string ⟨#[]⟩, .int .i64 0, .int .i64 0] 50)).alloc (.cells #[.int .i64 0, .string ⟨#[]⟩, .int .i64 (p : Int), .int .i64 (p : Int)] 50)) = wx)
   case first =>
    clear HS HW HNO hBo hcell HX
    by_cases e0 : c = 91
    ·have t : (c == 91) = true := by rw [e0]; rfl
     have HQ : Hid (signB c = true) := by show _ = _; rw [e0]; rfl
     clear e0 
     go_wp2_with fail
     go_meet
     exact ⟨by rw [HQ.out], rfl⟩
    have f0 : (c == 91) = false := beq_eq_false_iff_ne.2 e0
    by_cases e1 : c = 93
    ·have t : (c == 93) = true := by rw [e1]; rfl
     have HQ : Hid (signB c = true) := by show _ = _; rw [e1]; rfl
     clear e1 e0
     go_wp2_with fail
     go_meet
     exact ⟨by rw [HQ.out], rfl⟩
    have f1 : (c == 93) = false := beq_eq_false_iff_ne.2 e1
    by_cases e2 : c = 123
    ·have t : (c == 123) = true := by rw [e2]; rfl
     have HQ : Hid (signB c = true) := by show _ = _; rw [e2]; rfl
     clear e2 e0 e1
     go_wp2_with fail
     go_meet
     exact ⟨by rw [HQ.out], rfl⟩
    have f2 : (c == 123) = false := beq_eq_false_iff_ne.2 e2
    by_cases e3 : c = 125
    ·have t : (c == 125) = true := by rw [e3]; rfl
     have HQ : Hid (signB c = true) := by show _ = _; rw [e3]; rfl
     clear e3 e0 e1 e2
     go_wp2_with fail
     go_meet
     exact ⟨by rw [HQ.out], rfl⟩
    have f3 : (c == 125) = false := beq_eq_false_iff_ne.2 e3
    by_cases e4 : c = 44
    ·have t : (c == 44) = true := by rw [e4]; rfl
     have HQ : Hid (signB c = true) := by show _ = _; rw [e4]; rfl
     clear e4 e0 e1 e2 e3
     go_wp2_with fail
     go_meet
     exact ⟨by rw [HQ.out], rfl⟩
    have f4 : (c == 44) = false := beq_eq_false_iff_ne.2 e4
    by_cases e5 : c = 58
    ·have t : (c == 58) = true := by rw [e5]; rfl
     have HQ : Hid (signB c = true) := by show _ = _; rw [e5]; rfl
     clear e5 e0 e1 e2 e3 e4
     go_wp2_with fail
     go_meet
     exact ⟨by rw [HQ.out], rfl⟩
    have f5 : (c == 58) = false := beq_eq_false_iff_ne.2 e5
    have HQ : Hid (signB c = false) := by show _ = _; simp [signB, e0, e1, e2, e3, e4, e5]
    clear e0 e1 e2 e3 e4 e5
    go_wp2_with fail
    go_meet
    exact ⟨by rw [HQ.out], rfl⟩
   case rest =>
    obtain ⟨rfl, rfl⟩ := hcut
    cases hsg : signB c
    ·have HW2 := HW.out hsg
     have HN2 := HNO.out hsg
     clear hsg HS HW HNO
     by_cases b0 : c = 110
     ·have z := HX.out
      omega
     have f0 : (c == 110) = false := beq_eq_false_iff_ne.2 b0
     by_cases b1 : c = 116
     ·have z := HX.out
      omega
     have f1 : (c == 116) = false := beq_eq_false_iff_ne.2 b1
     by_cases b2 : c = 102
     ·have z := HX.out
      omega
     have f2 : (c == 102) = false := beq_eq_false_iff_ne.2 b2
     have gd := fun w => (rdigit_any c w).mono fun r w' h => (show r = .returned (.bool (digitB c)) ∧ w = w' from ⟨h.1, h.2.symm⟩)
     by_cases b3 : c = 45
     ·have z := HX.out
      omega
     have f3 : (c == 45) = false := beq_eq_false_iff_ne.2 b3
     cases hdg : digitB c
     ·rw [hdg] at gd
      by_cases b4 : c = 34
      ·have hR := HW2.2.2.2.2.2 b4
       have t : (c == 34) = true := by rw [b4]; rfl
       have g := fun w' (hb : Byt w' (.slice (some ⟨b, off, none⟩) l.length cap) l) => rtext_any l p _ w' hb hpl2 hm
       clear b0 b1 b2 b3 b4 HW2 HN2 hdg
       cases hd : textL l p with
       | error n =>
        rw [hd] at hR g
        simp only [rtxV] at g
        have HR : Hid (nextL l i = .error n) := hR
        have hn0 : (0 : Int) < (n : Int) := by have := textL_error hd; omega
        clear hd hR hcell
        go_wp2_with (first | (go_at_call 36; refine (gd _).mono ?_; rintro r w' ⟨rfl, rfl⟩) | (go_at_call 38; refine (g _ (hBo _)).mono ?_; rintro r w3 ⟨rfl, hb3⟩; obtain ⟨kc, kf, kc2, kf2, kz⟩ := keep2 hb3))
        refine bodyPost_ret (v := .tuple #[tokV ⟨0, [], 0, 0⟩, .int .i64 n, .int .i64 50]) ?_ rfl ?_
        ·clear hBo g
         simp [results, Tryz.results20, go_sem, tokV, kc]
        ·have hbz : Below w.heap.size w w3 := bl_t (bl_a (bl_a (Below.refl _ _) _) _) hb3
         have hr2 : (Ending.returned (.tuple #[tokV ⟨0, [], 0, 0⟩, .int .i64 n, .int .i64 50]) : Ending) = .returned (nxV (nextL l i)) := by rw [HR.out]; rfl
         refine ⟨hr2, ?_⟩
         exact bl_s (bl_s (bl_s (bl_s (bl_s (bl_s hbz (by omega) _) (by omega) _) (Nat.le_refl _) _) (Nat.le_refl _) _) (Nat.le_refl _) _) (Nat.le_refl _) _
       | ok t =>
        have hkf := textF_ok _ hd
        obtain ⟨tk, tt, tf, te⟩ := t
        obtain ⟨rfl, rfl⟩ : tk = 1 ∧ tf = p := hkf
        rw [hd] at hR g
        simp only [rtxV] at g
        have HR : Hid (nextL l i = .ok ⟨1, tt, tf, te⟩) := hR
        clear hd hR hcell
        go_wp2_with (first | (go_at_call 36; refine (gd _).mono ?_; rintro r w' ⟨rfl, rfl⟩) | (go_at_call 38; refine (g _ (hBo _)).mono ?_; rintro r w3 ⟨rfl, hb3⟩; obtain ⟨kc, kf, kc2, kf2, kz⟩ := keep2 hb3))
        refine bodyPost_ret (v := .tuple #[tokV ⟨1, tt, tf, te⟩, .int .i64 0, .int .i64 0]) ?_ rfl ?_
        ·clear hBo g
         simp [results, Tryz.results20, go_sem, tokV, kc]
        ·have hbz : Below w.heap.size w w3 := bl_t (bl_a (bl_a (Below.refl _ _) _) _) hb3
         have hr2 : (Ending.returned (.tuple #[tokV ⟨1, tt, tf, te⟩, .int .i64 0, .int .i64 0]) : Ending) = .returned (nxV (nextL l i)) := by rw [HR.out]; rfl
         refine ⟨hr2, ?_⟩
         exact bl_s (bl_s (bl_s (bl_s (bl_s (bl_s hbz (by omega) _) (by omega) _) (Nat.le_refl _) _) (Nat.le_refl _) _) (Nat.le_refl _) _) (Nat.le_refl _) _
      ·have z := HX.out
       simp [digitB] at hdg
       omega
     ·have z := HX.out
      simp [digitB] at hdg
      omega
    ·have z := HX.out
     simp [signB] at hsg
     omega
end Go.Proofs.YtfoehebnmommfaaGreatDoor.Lx

namespace Go.Proofs.YtfoehebnmommfaaGreatDoor.Lx
open Go.RowKit
attribute [local go_sem] setCell_drewN alloc_drewN

set_option maxRecDepth 100000 in
set_option maxHeartbeats 12800000 in
theorem rnext_s (l : List UInt8) (i : Nat) (v : Value) (w : World) (hB : Byt w v l) (h0 : 0 < l.length) (hi : i ≤ l.length) (hm : l.length ≤ 140737488351232) (hc0 : (pass l blankB i < l.length → (bx l (pass l blankB i) ≠ 110 ∧ bx l (pass l blankB i) ≠ 116 ∧ bx l (pass l blankB i) ≠ 102 ∧ bx l (pass l blankB i) ≠ 45 ∧ ¬ (48 ≤ bx l (pass l blankB i) ∧ bx l (pass l blankB i) ≤ 57) ∧ bx l (pass l blankB i) ≠ 34))) :
  Calls Tryz.prog 20 #[v, .int .i64 i] w fun r w' => r = .returned (nxV (nextL l i)) ∧ Below w.heap.size w w' := by
 obtain ⟨b, off, cap, ev, hc, hm'⟩ : ∃ b off cap, v = .slice (some ⟨b, off, none⟩) l.length cap ∧ l.length ≤ cap ∧ cap ≤ maxLen := by
  rcases hB with ⟨h, _⟩ | ⟨b, off, cap, e, hc, hm', _⟩
  ·omega
  ·exact ⟨b, off, cap, e, hc, hm'⟩
 subst ev
 have hcI : (cap : Int) ≤ 9223372036854775807 := by unfold maxLen at hm'; omega
 have hcI2 : (l.length : Int) ≤ (cap : Int) := by omega
 have hlI : (l.length : Int) ≤ 140737488351232 := by omega
 have hiI : (i : Int) ≤ (l.length : Int) := by omega
 have hd0 : decide ((i : Int) < 0) = false := decide_eq_false (by omega)
 have hd1 : decide ((l.length : Int) < (i : Int)) = false := decide_eq_false (by omega)
 have hd2 : decide (l.length < i) = false := decide_eq_false (by omega)
 have hB0 : Byt (w.alloc (.cells #[.int .i64 0, .string ⟨#[]⟩, .int .i64 0, .int .i64 0] 50)) (.slice (some ⟨b, off, none⟩) l.length cap) l := Row.alloc hB _
 have hBo : ∀ o, Byt ((w.alloc (.cells #[.int .i64 0, .string ⟨#[]⟩, .int .i64 0, .int .i64 0] 50)).alloc o) (.slice (some ⟨b, off, none⟩) l.length cap) l := fun o => Row.alloc hB0 _
 have hL0 := (byt_lies hB0 h0).1
 have hLo := fun o => (byt_lies (hBo o) h0).1
 have HN : Hid (nextL l i = readL l (pass l blankB i)) := rfl
 have hpl := pass_le (l := l) (p := blankB) hi
 have HX : Hid (pass l blankB i < l.length → (bx l (pass l blankB i) ≠ 110 ∧ bx l (pass l blankB i) ≠ 116 ∧ bx l (pass l blankB i) ≠ 102 ∧ bx l (pass l blankB i) ≠ 45 ∧ ¬ (48 ≤ bx l (pass l blankB i) ∧ bx l (pass l blankB i) ≤ 57) ∧ bx l (pass l blankB i) ≠ 34)) := hc0
 clear hB hc0
 go_enter Tryz.func20, Tryz.ntmps20
 go_upto_block 0 with fail
 go_cut [1] (fun s1 wx => s1 = .int .i64 ((pass l blankB i : Nat) : Int) ∧ (w.alloc (.cells #[.int .i64 0, .string ⟨#[]⟩, .int .i64 0, .int .i64 0] 50)) = wx)
 case first =>
  clear hBo hLo HN hpl HX
  go_wp2_with fail
  go_loopg [1] (l.length - i) (fun g s1 wx => ∃ k : Nat, k ≤ l.length ∧ g = l.length - k ∧ s1 = .int .i64 (k : Int) ∧ Hid (pass l blankB k = pass l blankB i) ∧ (w.alloc (.cells #[.int .i64 0, .string ⟨#[]⟩, .int .i64 0, .int .i64 0] 50)) = wx)
  case atStart => exact ⟨i, hi, rfl, rfl, rfl, rfl⟩
  case round =>
   obtain ⟨k, hk, rfl, rfl, HP, rfl⟩ := hrel
   by_cases hkl : k < l.length
   ·have hcell := hL0.cell k hkl
    have hI : (k : Int) < (l.length : Int) := by omega
    have h2 := fun w => (rblank_any (bx l k) w).mono fun r w' h => (show r = .returned (.bool (blankB (bx l k))) ∧ w = w' from ⟨h.1, h.2.symm⟩)
    have hq := hasAt_in (l := l) blankB hkl
    cases hp : blankB (bx l k)
    ·rw [hp] at h2 hq
     have HF : Hid (pass l blankB i = k) := by show _ = _; rw [← HP.out, pass_stop hq]
     clear HP hq hp
     generalize bx l k = c at *
     go_wp2_with (go_at_call 34; refine (h2 _).mono ?_; rintro r w' ⟨rfl, rfl⟩)
     go_meet
     exact ⟨by rw [HF.out], rfl⟩
    ·rw [hp] at h2 hq
     have HF : Hid (pass l blankB (k + 1) = pass l blankB i) := by show _ = _; rw [← HP.out, pass_go hq]
     clear HP hq hp
     generalize bx l k = c at *
     go_wp2_with (go_at_call 34; refine (h2 _).mono ?_; rintro r w' ⟨rfl, rfl⟩)
     go_roundg (l.length - (k + 1))
     case measure => omega
     case rel => exact ⟨k + 1, by omega, rfl, by go_num, HF, rfl⟩
   ·have hI : ¬ (k : Int) < (l.length : Int) := by omega
    have d : decide ((k : Int) < (l.length : Int)) = false := decide_eq_false hI
    have HF : Hid (pass l blankB i = k) := by show _ = _; rw [← HP.out, pass_stop (hasAt_out _ hkl)]
    clear HP
    go_wp2
    go_meet
    exact ⟨by rw [HF.out], rfl⟩
 case rest =>
  obtain ⟨rfl, rfl⟩ := hcut
  clear hd0 hd1 hd2 hL0 hB0
  generalize pass l blankB i = p at *
  have hpI : (p : Int) ≤ (l.length : Int) := by omega
  by_cases hpe : p = l.length
  ·have HR : Hid (nextL l i = .ok ⟨0, [], p, p⟩) := by show _ = _; rw [HN.out]; unfold readL; rw [if_pos hpe]
   have heq : ((p : Int) == (l.length : Int)) = true := by rw [hpe]; simp
   clear HN hBo hLo hpe
   go_wp2
   refine bodyPost_ret (v := .tuple #[tokV ⟨0, [], p, p⟩, .int .i64 0, .int .i64 0]) ?_ rfl ?_
   all_goals first | (exact ⟨by rw [HR.out]; rfl, (by with_reducible repeat (first | exact Below.refl _ _ | refine bl_d ?_ | refine bl_n ?_ _ | refine bl_a ?_ _ | refine bl_s ?_ (by omega) _))⟩) | (simp [results, Tryz.results20, go_sem, tokV])
  ·have hpl2 : p < l.length := by omega
   have hne : ((p : Int) == (l.length : Int)) = false := beq_eq_false_iff_ne.2 (by omega)
   have hpI2 : (p : Int) < (l.length : Int) := by omega
   have hcell := fun o => hLo o |>.cell p hpl2
   have hpc : (p : Int) < (cap : Int) := by omega
   have hpc1 : (p : Int) + 1 ≤ (cap : Int) := by omega
   have hpc2 : (p : Int) ≤ (p : Int) + 1 := by omega
   have hnat : ((p : Int) + 1).toNat = p + 1 := by omega
   have RS := fun hs => readL_sign (l := l) hpl2 hs
   have RW := fun hs => readL_word (l := l) hpl2 hs
   have RN := readL_none (l := l) hpl2
   rw [← HN.out] at RS RW RN
   obtain ⟨c, hbc⟩ : ∃ c, bx l p = c := ⟨_, rfl⟩
   rw [hbc] at RS RW RN hcell
   have HX2 : Hid (p < l.length → (c ≠ 110 ∧ c ≠ 116 ∧ c ≠ 102 ∧ c ≠ 45 ∧ ¬ (48 ≤ c ∧ c ≤ 57) ∧ c ≠ 34)) := by have z := HX.out; rw [hbc] at z; exact z
   clear HX
   have HX := HX2
   clear HX2
   have HS : Hid (signB c = true → nextL l i = .ok ⟨4, sub l p (p + 1), p, p + 1⟩) := RS
   have HW := (show Hid (signB c = false → _) from RW)
   have HNO : Hid (signB c = false → c ≠ 110 → c ≠ 116 → c ≠ 102 → c ≠ 45 → digitB c = false → c ≠ 34 → nextL l i = .error (p + 1)) := RN
   clear RS RW RN HN hpe hLo hbc
   go_upto_region 11 with fail
   go_cut [46] (fun s wx => s = .bool (signB c) ∧ ((w.alloc (.cells #[.int .i64 0, .string ⟨#[]⟩, .int .i64 0, .int .i64 0] 50)).alloc (.cells #[.int .i64 0, .string ⟨#[]⟩, .int .i64 (p : Int), .int .i64 (p : Int)] 50)) = wx)
   case first =>
    clear HS HW HNO hBo hcell HX
    by_cases e0 : c = 91
    ·have t : (c == 91) = true := by rw [e0]; rfl
     have HQ : Hid (signB c = true) := by show _ = _; rw [e0]; rfl
     clear e0 
     go_wp2_with fail
     go_meet
     exact ⟨by rw [HQ.out], rfl⟩
    have f0 : (c == 91) = false := beq_eq_false_iff_ne.2 e0
    by_cases e1 : c = 93
    ·have t : (c == 93) = true := by rw [e1]; rfl
     have HQ : Hid (signB c = true) := by show _ = _; rw [e1]; rfl
     clear e1 e0
     go_wp2_with fail
     go_meet
     exact ⟨by rw [HQ.out], rfl⟩
    have f1 : (c == 93) = false := beq_eq_false_iff_ne.2 e1
    by_cases e2 : c = 123
    ·have t : (c == 123) = true := by rw [e2]; rfl
     have HQ : Hid (signB c = true) := by show _ = _; rw [e2]; rfl
     clear e2 e0 e1
     go_wp2_with fail
     go_meet
     exact ⟨by rw [HQ.out], rfl⟩
    have f2 : (c == 123) = false := beq_eq_false_iff_ne.2 e2
    by_cases e3 : c = 125
    ·have t : (c == 125) = true := by rw [e3]; rfl
     have HQ : Hid (signB c = true) := by show _ = _; rw [e3]; rfl
     clear e3 e0 e1 e2
     go_wp2_with fail
     go_meet
     exact ⟨by rw [HQ.out], rfl⟩
    have f3 : (c == 125) = false := beq_eq_false_iff_ne.2 e3
    by_cases e4 : c = 44
    ·have t : (c == 44) = true := by rw [e4]; rfl
     have HQ : Hid (signB c = true) := by show _ = _; rw [e4]; rfl
     clear e4 e0 e1 e2 e3
     go_wp2_with fail
     go_meet
     exact ⟨by rw [HQ.out], rfl⟩
    have f4 : (c == 44) = false := beq_eq_false_iff_ne.2 e4
    by_cases e5 : c = 58
    ·have t : (c == 58) = true := by rw [e5]; rfl
     have HQ : Hid (signB c = true) := by show _ = _; rw [e5]; rfl
     clear e5 e0 e1 e2 e3 e4
     go_wp2_with fail
     go_meet
     exact ⟨by rw [HQ.out], rfl⟩
    have f5 : (c == 58) = false := beq_eq_false_iff_ne.2 e5
    have HQ : Hid (signB c = false) := by show _ = _; simp [signB, e0, e1, e2, e3, e4, e5]
    clear e0 e1 e2 e3 e4 e5
    go_wp2_with fail
    go_meet
    exact ⟨by rw [HQ.out], rfl⟩
   case rest =>
    obtain ⟨rfl, rfl⟩ := hcut
    cases hsg : signB c
    ·have HW2 := HW.out hsg
     have HN2 := HNO.out hsg
     clear hsg HS HW HNO
     by_cases b0 : c = 110
     ·have z := HX.out
      omega
     have f0 : (c == 110) = false := beq_eq_false_iff_ne.2 b0
     by_cases b1 : c = 116
     ·have z := HX.out
      omega
     have f1 : (c == 116) = false := beq_eq_false_iff_ne.2 b1
     by_cases b2 : c = 102
     ·have z := HX.out
      omega
     have f2 : (c == 102) = false := beq_eq_false_iff_ne.2 b2
     have gd := fun w => (rdigit_any c w).mono fun r w' h => (show r = .returned (.bool (digitB c)) ∧ w = w' from ⟨h.1, h.2.symm⟩)
     by_cases b3 : c = 45
     ·have z := HX.out
      omega
     have f3 : (c == 45) = false := beq_eq_false_iff_ne.2 b3
     cases hdg : digitB c
     ·rw [hdg] at gd
      by_cases b4 : c = 34
      ·have z := HX.out
       omega
      ·have HR : Hid (nextL l i = .error (p + 1)) := HN2 b0 b1 b2 b3 hdg b4
       have f4 : (c == 34) = false := beq_eq_false_iff_ne.2 b4
       have hn0 : (0 : Int) < (p : Int) + 1 := by omega
       clear b0 b1 b2 b3 b4 HW2 HN2 hdg hBo hcell
       go_wp2_with (go_at_call 36; refine (gd _).mono ?_; rintro r w' ⟨rfl, rfl⟩)
       refine bodyPost_ret (v := .tuple #[tokV ⟨0, [], 0, 0⟩, .int .i64 ((p : Int) + 1), .int .i64 50]) ?_ rfl ?_
       all_goals first | (exact ⟨by rw [HR.out]; rfl, (by with_reducible repeat (first | exact Below.refl _ _ | refine bl_d ?_ | refine bl_n ?_ _ | refine bl_a ?_ _ | refine bl_s ?_ (by omega) _))⟩) | (simp [results, Tryz.results20, go_sem, tokV])
     ·have z := HX.out
      simp [digitB] at hdg
      omega
    ·have HR : Hid (nextL l i = .ok ⟨4, sub l p (p + 1), p, p + 1⟩) := HS.out hsg
     have hcv := fun o => conv_list (((w.alloc (.cells #[.int .i64 0, .string ⟨#[]⟩, .int .i64 0, .int .i64 0] 50)).alloc o).drew) _ _ (Byt.below (byt_sub (byt_lies (hBo o) h0).1 hc hm' (Nat.le_succ p) hpl2) (bl_d (Below.refl _ _)))
     rw [show p.succ - p = 1 by omega] at hcv
     obtain ⟨tx, htx⟩ : ∃ tx, sub l p (p + 1) = tx := ⟨_, rfl⟩
     rw [show p.succ = p + 1 from rfl, htx] at hcv
     rw [htx] at HR
     have hwr : IntKind.i64.wrap ((p : Int) + 1) = (p : Int) + 1 := by rw [IntKind.wrap_i64]; omega
     clear htx hsg HS HW HNO hBo hcell
     go_wp2_with fail
     go_region
     all_goals (try go_wp2)
     refine bodyPost_ret (v := .tuple #[tokV ⟨4, tx, p, p + 1⟩, .int .i64 0, .int .i64 0]) ?_ rfl ?_
     all_goals first | (exact ⟨by rw [HR.out]; rfl, (by with_reducible repeat (first | exact Below.refl _ _ | refine bl_d ?_ | refine bl_n ?_ _ | refine bl_a ?_ _ | refine bl_s ?_ (by omega) _))⟩) | (simp [results, Tryz.results20, go_sem, tokV])
end Go.Proofs.YtfoehebnmommfaaGreatDoor.Lx

namespace Go.Proofs.YtfoehebnmommfaaGreatDoor.Lx
open Go.RowKit

theorem rnext_some (l : List UInt8) (i : Nat) (v : Value) (w : World) (hB : Byt w v l) (h0 : 0 < l.length) (hi : i ≤ l.length) (hm : l.length ≤ 140737488351232) :
  Calls Tryz.prog 20 #[v, .int .i64 i] w fun r w' => r = .returned (nxV (nextL l i)) ∧ Below w.heap.size w w' := by
 by_cases hw : pass l blankB i < l.length ∧ (bx l (pass l blankB i) = 110 ∨ bx l (pass l blankB i) = 116 ∨ bx l (pass l blankB i) = 102)
 ·exact rnext_w l i v w hB h0 hi hm hw
 ·by_cases hn : pass l blankB i < l.length ∧ (bx l (pass l blankB i) = 45 ∨ (48 ≤ bx l (pass l blankB i) ∧ bx l (pass l blankB i) ≤ 57))
  ·exact rnext_n l i v w hB h0 hi hm hn
  ·by_cases ht : pass l blankB i < l.length ∧ bx l (pass l blankB i) = 34
   ·exact rnext_t l i v w hB h0 hi hm ht
   ·exact rnext_s l i v w hB h0 hi hm (fun h => by omega)
end Go.Proofs.YtfoehebnmommfaaGreatDoor.Lx

namespace Go.Proofs.YtfoehebnmommfaaGreatDoor.Lx
open Go.RowKit
attribute [local go_sem] setCell_drewN alloc_drewN

set_option maxRecDepth 100000 in
set_option maxHeartbeats 1600000 in
theorem rnext_empty (v : Value) (w : World) (hB : Byt w v []) :
  Calls Tryz.prog 20 #[v, .int .i64 (0 : Nat)] w fun r w' => r = .returned (nxV (nextL [] 0)) ∧ Below w.heap.size w w' := by
 obtain ⟨a, cap, rfl, _⟩ := hB.shape
 have HR : Hid (nextL [] 0 = .ok ⟨0, [], 0, 0⟩) := rfl
 clear hB
 go_enter Tryz.func20, Tryz.ntmps20
 go_wp2
 refine wp_loop_rounds 1 ?_
 rw [rounds_succ]
 go_wp2
 refine bodyPost_ret (v := .tuple #[tokV ⟨0, [], 0, 0⟩, .int .i64 0, .int .i64 0]) ?_ rfl ?_
 all_goals first | (exact ⟨by rw [HR.out]; rfl, (by with_reducible repeat (first | exact Below.refl _ _ | refine bl_a ?_ _ | refine bl_s ?_ (by omega) _))⟩) | (simp [results, Tryz.results20, go_sem, tokV])
theorem rnext_any (l : List UInt8) (i : Nat) (v : Value) (w : World) (hB : Byt w v l) (hi : i ≤ l.length) (hm : l.length ≤ 140737488351232) :
  Calls Tryz.prog 20 #[v, .int .i64 i] w fun r w' => r = .returned (nxV (nextL l i)) ∧ Below w.heap.size w w' := by
 by_cases h0 : 0 < l.length
 ·exact rnext_some l i v w hB h0 hi hm
 ·obtain rfl : l = [] := List.length_eq_zero_iff.1 (by omega)
  obtain rfl : i = 0 := by simpa using hi
  exact rnext_empty v w hB
end Go.Proofs.YtfoehebnmommfaaGreatDoor.Lx
