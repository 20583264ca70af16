/-
  The reference's mark. No condition.
-/
import Derived.Test.YthbbkcdlcpbepaaGreatDoorJoined24
namespace Go.Proofs.YthbbkcdlcpbepaaGreatDoor
open Go.RowKit
attribute [local go_sem] setCell_drewN alloc_drewN

theorem mark_out {S : List Int} {a : Nat} (h : S.length ≤ a) : markL (S.drop a) = none := by rw [drop_out h]; rfl
theorem mark_plain {S : List Int} {a : Nat} (h : a < S.length) (hq : pk S a ≠ 92) : markL (S.drop a) = some (.one (pk S a), S.drop (a + 1)) := by
  unfold markL
  rw [sw2 (by omega) (by omega), sw2 (by omega) (by omega), sw1 (by omega), decide_eq_false hq, drop_at h]; rfl
theorem mark_b {S : List Int} {a : Nat} (hq : pk S a = 92) (hb : pk S (a + 1) = 98) : markL (S.drop a) = some (.one 8, S.drop (a + 2)) := by
  unfold markL
  rw [sw2 (by omega) (by omega), decide_eq_true hq, decide_eq_true hb, List.drop_drop]; rfl
theorem mark_d {S : List Int} {a : Nat} (hq : pk S a = 92) (hb : pk S (a + 1) = 45) : markL (S.drop a) = some (.one 45, S.drop (a + 2)) := by
  unfold markL
  rw [sw2 (by omega) (by omega), sw2 (by omega) (by omega), decide_eq_true hq, decide_eq_false (by omega), decide_eq_true hb, List.drop_drop]; rfl
theorem mark_e {S : List Int} {a : Nat} (hq : pk S a = 92) (hb : pk S (a + 1) ≠ 98) (hd : pk S (a + 1) ≠ 45) : markL (S.drop a) = escapeL (S.drop (a + 1)) := by
  unfold markL
  rw [sw2 (by omega) (by omega), sw2 (by omega) (by omega), sw1 (by omega), decide_eq_true hq, decide_eq_false hb, decide_eq_false hd]
  simp only [List.drop_drop, Bool.and_false, Bool.false_eq_true, reduceIte]

set_option maxRecDepth 100000 in
set_option maxHeartbeats 1600000 in
theorem rmark_any (w : World) (pb a : Nat) (S : List Int) (g : Int) (h : RP w pb S a g false) :
    Calls Tryz.prog 93 #[.pointer (some ⟨pb, 0, none⟩)] w (EscP (markL (S.drop a)) S pb g w) := by
  obtain ⟨P, hP⟩ : ∃ P, P = EscP (markL (S.drop a)) S pb g w := ⟨_, rfl⟩
  rw [← hP]
  have HP := hid_intro hP
  have HPK := hid_intro (rpeek_any w pb a S g false h)
  have hlen := h.len
  have hmem := h.mem
  have hw : wrap64 ((a : Int) + 1) = (a : Int) + 1 := w64 (by omega) (by omega)
  have HR0 := hid_intro h
  clear hP h
  by_cases hk : a < S.length
  · have hrg := hmem _ (pk_mem hk)
    have HK := hid_intro hk
    have HAL : Hid (a + 1 ≤ S.length + 1) := hid_intro (by omega)
    by_cases hq : pk S a = 92
    · rw [hq] at HPK
      have hT := fun w' (h : RP w' pb S (a + 1) g false) => rtake_any w' pb (a + 1) S g 98 false (by omega) h
      have hT2 := fun w' (h : RP w' pb S (a + 1) g false) => rtake_any w' pb (a + 1) S g 45 false (by omega) h
      by_cases hb : pk S (a + 1) = 98
      · have HE := hid_intro (mark_b hq hb)
        have HK2 := hid_intro (pk_lt (S := S) (a := a + 1) (by omega))
        rw [hb] at hT
        rw [show decide ((98 : Int) = 98) = true by decide, show tk S (a + 1) 98 = a + 2 by unfold tk; rw [if_pos hb]] at hT
        have HT := hid_intro hT
        clear hq hb hrg hmem hlen hk hT hT2
        go_enter Tryz.func93, Tryz.ntmps93
        go_wp2_with fail
        refine HPK.out.mono ?_; rintro r w1 ⟨rfl, hb1⟩
        have HR1 := hid_intro (HR0.out.below hb1)
        have HB1 : Hid (But (· = pb) w (w1.setCell ⟨pb, 1, none⟩ (.int .i64 ((a : Int) + 1)))) := hid_intro (But.setr (But.ofBelow hb1) _)
        have HR2 : Hid (RP (w1.setCell ⟨pb, 1, none⟩ (.int .i64 ((a : Int) + 1))) pb S (a + 1) g false) := hid_intro (HR1.out.at (a + 1) HAL.out _ (by omega))
        obtain ⟨ao, cap, c0, c1, c2, c3, fr, h1, h2, h3, h4, h5, h6⟩ := HR1.out
        have ff := fr 1
        clear h6 h4 h3 c2 c3 fr h5 h2 h1 c0 hb1
        go_wp2_with fail
        generalize w1.setCell ⟨pb, 1, none⟩ (.int .i64 ((a : Int) + 1)) = W2 at *
        clear HR1 c1 ff hw
        refine (HT.out _ HR2.out).mono ?_; rintro r w3 ⟨rfl, hb3, hr3⟩
        have HR3 := hid_intro hr3
        have HB3 := hid_intro (HB1.out.trans hb3)
        clear hb3 hr3
        go_wp2_with fail
        refine (rone_any 8 _ ⟨by omega, by omega⟩).mono ?_; rintro r w9 ⟨v9, rfl, ho9, hb9⟩
        have HF := hid_intro (And.intro (HB3.out.below hb9) (And.intro (HR3.out.below hb9) (ho9.ri (· < w.heap.size) (fun b hb h => by have := HB3.out.size; have h2 : b < w.heap.size := h; omega))))
        clear hb9 ho9
        go_wp2_with fail
        rw [HP.out, HE.out]
        exact ⟨_, _, rfl, HF.out.1, a + 2, HF.out.2.1, HK2.out, rfl, rfl, HF.out.2.2⟩
      · by_cases hd : pk S (a + 1) = 45
        · have HE := hid_intro (mark_d hq hd)
          have HK2 := hid_intro (pk_lt (S := S) (a := a + 1) (by omega))
          rw [hd] at hT hT2
          rw [show decide ((45 : Int) = 98) = false by decide, show tk S (a + 1) 98 = a + 1 by unfold tk; rw [if_neg hb]] at hT
          rw [show decide ((45 : Int) = 45) = true by decide, show tk S (a + 1) 45 = a + 2 by unfold tk; rw [if_pos hd]] at hT2
          have HT := hid_intro hT
          have HT2 := hid_intro hT2
          clear hq hb hrg hmem hlen hk hT hT2 hd
          go_enter Tryz.func93, Tryz.ntmps93
          go_wp2_with fail
          refine HPK.out.mono ?_; rintro r w1 ⟨rfl, hb1⟩
          have HR1 := hid_intro (HR0.out.below hb1)
          have HB1 : Hid (But (· = pb) w (w1.setCell ⟨pb, 1, none⟩ (.int .i64 ((a : Int) + 1)))) := hid_intro (But.setr (But.ofBelow hb1) _)
          have HR2 : Hid (RP (w1.setCell ⟨pb, 1, none⟩ (.int .i64 ((a : Int) + 1))) pb S (a + 1) g false) := hid_intro (HR1.out.at (a + 1) HAL.out _ (by omega))
          obtain ⟨ao, cap, c0, c1, c2, c3, fr, h1, h2, h3, h4, h5, h6⟩ := HR1.out
          have ff := fr 1
          clear h6 h4 h3 c2 c3 fr h5 h2 h1 c0 hb1
          go_wp2_with fail
          generalize w1.setCell ⟨pb, 1, none⟩ (.int .i64 ((a : Int) + 1)) = W2 at *
          clear HR1 c1 ff hw
          refine (HT.out _ HR2.out).mono ?_; rintro r w3 ⟨rfl, hb3, hr3⟩
          have HR3 := hid_intro hr3
          have HB3 := hid_intro (HB1.out.trans hb3)
          clear hb3 hr3
          go_wp2_with fail
          refine (HT2.out _ HR3.out).mono ?_; rintro r w4 ⟨rfl, hb4, hr4⟩
          have HR4 := hid_intro hr4
          have HB4 := hid_intro (HB3.out.trans hb4)
          clear hb4 hr4
          go_wp2_with fail
          refine (rone_any 45 _ ⟨by omega, by omega⟩).mono ?_; rintro r w9 ⟨v9, rfl, ho9, hb9⟩
          have HF := hid_intro (And.intro (HB4.out.below hb9) (And.intro (HR4.out.below hb9) (ho9.ri (· < w.heap.size) (fun b hb h => by have := HB4.out.size; have h2 : b < w.heap.size := h; omega))))
          clear hb9 ho9
          go_wp2_with fail
          rw [HP.out, HE.out]
          exact ⟨_, _, rfl, HF.out.1, a + 2, HF.out.2.1, HK2.out, rfl, rfl, HF.out.2.2⟩
        · have HE := hid_intro (mark_e hq hb hd)
          rw [decide_eq_false hb, show tk S (a + 1) 98 = a + 1 by unfold tk; rw [if_neg hb]] at hT
          rw [decide_eq_false hd, show tk S (a + 1) 45 = a + 1 by unfold tk; rw [if_neg hd]] at hT2
          have HT := hid_intro hT
          have HT2 := hid_intro hT2
          have HES := hid_intro (fun w' (h : RP w' pb S (a + 1) g false) => rescape_any w' pb (a + 1) S g HK.out h)
          clear hq hb hrg hmem hlen hk hT hT2 hd
          obtain ⟨U, hU⟩ : ∃ U, escapeL (S.drop (a + 1)) = U := ⟨_, rfl⟩
          rw [hU] at HE HES
          clear hU
          go_enter Tryz.func93, Tryz.ntmps93
          go_wp2_with fail
          refine HPK.out.mono ?_; rintro r w1 ⟨rfl, hb1⟩
          have HR1 := hid_intro (HR0.out.below hb1)
          have HB1 : Hid (But (· = pb) w (w1.setCell ⟨pb, 1, none⟩ (.int .i64 ((a : Int) + 1)))) := hid_intro (But.setr (But.ofBelow hb1) _)
          have HR2 : Hid (RP (w1.setCell ⟨pb, 1, none⟩ (.int .i64 ((a : Int) + 1))) pb S (a + 1) g false) := hid_intro (HR1.out.at (a + 1) HAL.out _ (by omega))
          obtain ⟨ao, cap, c0, c1, c2, c3, fr, h1, h2, h3, h4, h5, h6⟩ := HR1.out
          have ff := fr 1
          clear h6 h4 h3 c2 c3 fr h5 h2 h1 c0 hb1
          go_wp2_with fail
          generalize w1.setCell ⟨pb, 1, none⟩ (.int .i64 ((a : Int) + 1)) = W2 at *
          clear HR1 c1 ff hw
          refine (HT.out _ HR2.out).mono ?_; rintro r w3 ⟨rfl, hb3, hr3⟩
          have HR3 := hid_intro hr3
          have HB3 := hid_intro (HB1.out.trans hb3)
          clear hb3 hr3
          go_wp2_with fail
          refine (HT2.out _ HR3.out).mono ?_; rintro r w4 ⟨rfl, hb4, hr4⟩
          have HR4 := hid_intro hr4
          have HB4 := hid_intro (HB3.out.trans hb4)
          clear hb4 hr4
          go_wp2_with fail
          refine (HES.out _ HR4.out).mono ?_; rintro r w9 ⟨v9, nm9, rfl, hb9, hm9⟩
          have HM9 := hid_intro hm9
          have HB9 := hid_intro (HB4.out.trans hb9)
          have HSZ := hid_intro HB4.out.size
          clear hb9 hm9
          go_wp2_with fail
          rw [HP.out, HE.out]
          refine ⟨v9, nm9, rfl, HB9.out, ?_⟩
          have hm := HM9.out
          have hsz := HSZ.out
          cases U with
          | none =>
            obtain ⟨a', h1, h2⟩ := hm
            refine ⟨a', h1, ?_⟩
            rcases h2 with h2 | ⟨rl, h3, h4, h5⟩
            · exact Or.inl h2
            · exact Or.inr ⟨rl, h3.weak (fun b hb => by have h2 : b < w.heap.size := hb; show b < _; omega), h4, h5⟩
          | some y =>
            obtain ⟨m, l'⟩ := y
            obtain ⟨a', h1, h2, h3, h4, h5⟩ := hm
            exact ⟨a', h1, h2, h3, h4, h5.weak (fun b hb => by have h2 : b < w.heap.size := hb; show b < _; omega)⟩
    · have HE := hid_intro (mark_plain hk hq)
      have hq0 : ¬ pk S a < 0 := by omega
      have hq1 : (pk S a != 92) = true := by simpa using hq
      have HI : Hid (I64 (pk S a)) := hid_intro ⟨by omega, by omega⟩
      generalize pk S a = q at *
      clear hq hrg hmem hlen hk
      go_enter Tryz.func93, Tryz.ntmps93
      go_wp2_with fail
      refine HPK.out.mono ?_; rintro r w1 ⟨rfl, hb1⟩
      have HR1 := hid_intro (HR0.out.below hb1)
      have HB1 : Hid (But (· = pb) w (w1.setCell ⟨pb, 1, none⟩ (.int .i64 ((a : Int) + 1)))) := hid_intro (But.setr (But.ofBelow hb1) _)
      have HR2 : Hid (RP (w1.setCell ⟨pb, 1, none⟩ (.int .i64 ((a : Int) + 1))) pb S (a + 1) g false) := hid_intro (HR1.out.at (a + 1) HAL.out _ (by omega))
      obtain ⟨ao, cap, c0, c1, c2, c3, fr, h1, h2, h3, h4, h5, h6⟩ := HR1.out
      have ff := fr 1
      clear h6 h4 h3 c2 c3 fr h5 h2 h1 c0 hb1
      go_wp2_with fail
      generalize w1.setCell ⟨pb, 1, none⟩ (.int .i64 ((a : Int) + 1)) = W2 at *
      clear HR1 c1 ff hw
      refine (rone_any q _ HI.out).mono ?_; rintro r w9 ⟨v9, rfl, ho9, hb9⟩
      have HF := hid_intro (And.intro (HB1.out.below hb9) (And.intro (HR2.out.below hb9) (ho9.ri (· < w.heap.size) (fun b hb h => by have := HB1.out.size; have h2 : b < w.heap.size := h; omega))))
      clear hb9 ho9
      go_wp2_with fail
      rw [HP.out, HE.out]
      exact ⟨_, _, rfl, HF.out.1, a + 1, HF.out.2.1, HK.out, rfl, rfl, HF.out.2.2⟩
  · have HE := hid_intro (mark_out (S := S) (a := a) (by omega))
    rw [pk_out (by omega)] at HPK
    clear hmem hlen hk hw
    go_enter Tryz.func93, Tryz.ntmps93
    go_wp2_with fail
    refine HPK.out.mono ?_; rintro r w1 ⟨rfl, hb1⟩
    have HR1 := hid_intro (HR0.out.below hb1)
    have HB1 : Hid (But (· = pb) w w1) := hid_intro (But.ofBelow hb1)
    clear hb1
    go_wp2_with fail
    refine (rfail_any _ _ _ _ _ _ HR1.out).mono ?_; rintro r w2 ⟨rfl, hb2, hr2⟩
    have HR2 := hid_intro hr2
    have HB2 := hid_intro (HB1.out.trans hb2)
    clear hb2 hr2
    go_wp2_with fail
    refine (rone_any 0 _ ⟨by omega, by omega⟩).mono ?_; rintro r w9 ⟨v9, rfl, ho9, hb9⟩
    have HF := hid_intro (And.intro (HB2.out.below hb9) (And.intro (HR2.out.below hb9) (ho9.ri (· < w.heap.size) (fun b hb h => by have := HB2.out.size; have h2 : b < w.heap.size := h; omega))))
    clear hb9 ho9
    go_wp2_with fail
    rw [HP.out, HE.out]
    exact ⟨_, _, rfl, HF.out.1, _, HF.out.2.1, Or.inr ⟨_, HF.out.2.2, by simp, by simp⟩⟩
end Go.Proofs.YthbbkcdlcpbepaaGreatDoor
