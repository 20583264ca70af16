/-
  (*reader).escaped: the rest of an escape that stands for one number. Conditions: the table of greatest code points holds its four numbers.
-/
import Derived.Test.YtppilokmgdpnnaaGreatDoorJoined13
namespace Go.Proofs.YtppilokmgdpnnaaGreatDoor
open Go.RowKit
attribute [local go_sem] setCell_drewN alloc_drewN

theorem ne_b {c k : Int} (h : ¬ c = k) : (c == k) = false := by rw [beq_eq_false_iff_ne]; exact h
set_option maxRecDepth 100000 in
set_option maxHeartbeats 3200000 in
theorem escaped_any (w : World) (rb : Nat) (c : Int) (l : List Int) (g : Int) (hT : Tab w) (hrb : ¬ 0 = rb) (hc0 : 0 ≤ c) (hc1 : c ≤ 1114111) (h : RD w rb l g) :
    Calls Tryz.prog 99 #[.pointer (some ⟨rb, 0, none⟩), .int .i64 c] w (IntR (escapedL c l) rb g w) := by
  obtain ⟨P, hP⟩ : ∃ P, P = IntR (escapedL c l) rb g w := ⟨_, rfl⟩
  rw [← hP]
  have HP := hid_intro hP
  clear hP
  by_cases h116 : c = 116
  · subst h116
    have HE : Hid (escapedL 116 l = some (9, l)) := hid_intro rfl
    clear hT hrb hc0 hc1
    go_enter Tryz.func99, Tryz.ntmps99
    go_wp2_with fail
    rw [HP.out, HE.out]
    exact ⟨But.refl _ _, rfl, h⟩
  have b116 := ne_b h116
  by_cases h110 : c = 110
  · subst h110
    have HE : Hid (escapedL 110 l = some (10, l)) := hid_intro rfl
    clear hT hrb hc0 hc1
    go_enter Tryz.func99, Tryz.ntmps99
    go_wp2_with fail
    rw [HP.out, HE.out]
    exact ⟨But.refl _ _, rfl, h⟩
  have b110 := ne_b h110
  by_cases h118 : c = 118
  · subst h118
    have HE : Hid (escapedL 118 l = some (11, l)) := hid_intro rfl
    clear hT hrb hc0 hc1
    go_enter Tryz.func99, Tryz.ntmps99
    go_wp2_with fail
    rw [HP.out, HE.out]
    exact ⟨But.refl _ _, rfl, h⟩
  have b118 := ne_b h118
  by_cases h102 : c = 102
  · subst h102
    have HE : Hid (escapedL 102 l = some (12, l)) := hid_intro rfl
    clear hT hrb hc0 hc1
    go_enter Tryz.func99, Tryz.ntmps99
    go_wp2_with fail
    rw [HP.out, HE.out]
    exact ⟨But.refl _ _, rfl, h⟩
  have b102 := ne_b h102
  by_cases h114 : c = 114
  · subst h114
    have HE : Hid (escapedL 114 l = some (13, l)) := hid_intro rfl
    clear hT hrb hc0 hc1
    go_enter Tryz.func99, Tryz.ntmps99
    go_wp2_with fail
    rw [HP.out, HE.out]
    exact ⟨But.refl _ _, rfl, h⟩
  have b114 := ne_b h114
  by_cases h48 : c = 48
  · subst h48
    have hf := nought_any w rb l g h
    have HE : Hid (escapedL 48 l = noughtL l) := hid_intro rfl
    cases e1 : noughtL l with
    | none =>
      rw [e1] at hf HE
      clear hT hrb hc0 hc1 h e1
      go_enter Tryz.func99, Tryz.ntmps99
      go_wp2_with fail
      refine hf.mono ?_; rintro r w1 ⟨hb1, rfl⟩
      go_wp2_with fail
      refine ⟨rfl, ?_⟩
      rw [HP.out, HE.out]
      exact ⟨hb1, rfl⟩
    | some y =>
      obtain ⟨p, l2⟩ := y
      rw [e1] at hf HE
      clear hT hrb hc0 hc1 h e1
      go_enter Tryz.func99, Tryz.ntmps99
      go_wp2_with fail
      refine hf.mono ?_; rintro r w1 ⟨hb1, rfl, hr1⟩
      go_wp2_with fail
      rw [HP.out, HE.out]
      exact ⟨hb1, rfl, hr1⟩
  have b48 := ne_b h48
  by_cases h99 : c = 99
  · subst h99
    have hf := control_any w rb l g h
    have HE : Hid (escapedL 99 l = controlL l) := hid_intro rfl
    cases e1 : controlL l with
    | none =>
      rw [e1] at hf HE
      clear hT hrb hc0 hc1 h e1
      go_enter Tryz.func99, Tryz.ntmps99
      go_wp2_with fail
      refine hf.mono ?_; rintro r w1 ⟨hb1, rfl⟩
      go_wp2_with fail
      refine ⟨rfl, ?_⟩
      rw [HP.out, HE.out]
      exact ⟨hb1, rfl⟩
    | some y =>
      obtain ⟨p, l2⟩ := y
      rw [e1] at hf HE
      clear hT hrb hc0 hc1 h e1
      go_enter Tryz.func99, Tryz.ntmps99
      go_wp2_with fail
      refine hf.mono ?_; rintro r w1 ⟨hb1, rfl, hr1⟩
      go_wp2_with fail
      rw [HP.out, HE.out]
      exact ⟨hb1, rfl, hr1⟩
  have b99 := ne_b h99
  by_cases h120 : c = 120
  · subst h120
    have hf := hex_any w rb l g 2 (by omega) h
    have HE : Hid (escapedL 120 l = hexG 2 0 l) := hid_intro rfl
    cases e1 : hexG 2 0 l with
    | none =>
      rw [e1] at hf HE
      clear hT hrb hc0 hc1 h e1
      go_enter Tryz.func99, Tryz.ntmps99
      go_wp2_with fail
      refine hf.mono ?_; rintro r w1 ⟨hb1, rfl⟩
      go_wp2_with fail
      refine ⟨rfl, ?_⟩
      rw [HP.out, HE.out]
      exact ⟨hb1, rfl⟩
    | some y =>
      obtain ⟨p, l2⟩ := y
      rw [e1] at hf HE
      clear hT hrb hc0 hc1 h e1
      go_enter Tryz.func99, Tryz.ntmps99
      go_wp2_with fail
      refine hf.mono ?_; rintro r w1 ⟨hb1, rfl, hr1⟩
      go_wp2_with fail
      rw [HP.out, HE.out]
      exact ⟨hb1, rfl, hr1⟩
  have b120 := ne_b h120
  by_cases h117 : c = 117
  · subst h117
    have hf := unicode_any w rb l g hT hrb h
    have HE : Hid (escapedL 117 l = unicodeL l) := hid_intro rfl
    cases e1 : unicodeL l with
    | none =>
      rw [e1] at hf HE
      clear hT hrb hc0 hc1 h e1
      go_enter Tryz.func99, Tryz.ntmps99
      go_wp2_with fail
      refine hf.mono ?_; rintro r w1 ⟨hb1, rfl⟩
      go_wp2_with fail
      refine ⟨rfl, ?_⟩
      rw [HP.out, HE.out]
      exact ⟨hb1, rfl⟩
    | some y =>
      obtain ⟨p, l2⟩ := y
      rw [e1] at hf HE
      clear hT hrb hc0 hc1 h e1
      go_enter Tryz.func99, Tryz.ntmps99
      go_wp2_with fail
      refine hf.mono ?_; rintro r w1 ⟨hb1, rfl, hr1⟩
      go_wp2_with fail
      rw [HP.out, HE.out]
      exact ⟨hb1, rfl, hr1⟩
  have b117 := ne_b h117
  have hcn := fun w => contains_b c w hc0 hc1
  have hw : IntKind.i32.wrap c = c := by simp [IntKind.wrap, IntKind.bits, IntKind.signed]; omega
  have HE0 : escapedL c l = if synS c = true then some (c, l) else none := by
    unfold escapedL
    rw [if_neg h116, if_neg h110, if_neg h118, if_neg h102, if_neg h114, if_neg h48, if_neg h99, if_neg h120, if_neg h117]
  cases e1 : synS c
  · rw [e1] at hcn HE0
    have HE : Hid (escapedL c l = none) := hid_intro HE0
    clear hT hrb hc0 hc1 h e1 HE0 h116 h110 h118 h102 h114 h48 h99 h120 h117
    go_enter Tryz.func99, Tryz.ntmps99
    go_wp2_with fail
    refine (hcn _).mono ?_; rintro r w1 ⟨rfl, hb1⟩
    go_wp2_with fail
    refine ⟨rfl, ?_⟩
    rw [HP.out, HE.out]
    exact ⟨But.ofBelow hb1, rfl⟩
  · rw [e1] at hcn HE0
    have HE : Hid (escapedL c l = some (c, l)) := hid_intro HE0
    clear hT hrb hc0 hc1 e1 HE0 h116 h110 h118 h102 h114 h48 h99 h120 h117
    go_enter Tryz.func99, Tryz.ntmps99
    go_wp2_with fail
    refine (hcn _).mono ?_; rintro r w1 ⟨rfl, hb1⟩
    go_wp2_with fail
    rw [HP.out, HE.out]
    exact ⟨But.ofBelow hb1, rfl, h.below hb1⟩
end Go.Proofs.YtppilokmgdpnnaaGreatDoor
