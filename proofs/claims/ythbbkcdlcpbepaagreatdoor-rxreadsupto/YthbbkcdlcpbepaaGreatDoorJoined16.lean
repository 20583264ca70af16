/-
  The reference's unicode. No condition.
  (*reader).escaped: the rest of an escape that stands for one number. Conditions: the table of greatest code points holds its four numbers.
-/
import Derived.Test.YthbbkcdlcpbepaaGreatDoorJoined12
import Derived.Test.YthbbkcdlcpbepaaGreatDoorJoined15
namespace Go.Proofs.YthbbkcdlcpbepaaGreatDoor
open Go.RowKit
attribute [local go_sem] setCell_drewN alloc_drewN

theorem drop_inj {S : List Int} {a b : Nat} (ha : a ≤ S.length) (hb : b ≤ S.length) (h : S.drop a = S.drop b) : a = b := by
  have := congrArg List.length h
  simp only [List.length_drop] at this
  omega
theorem sw1 {c : Int} {S : List Int} {a : Nat} (hc : c ≠ -1) : startsW [c] (S.drop a) = decide (pk S a = c) := by
  by_cases h : a < S.length
  · rw [drop_at h]; simp only [startsW, Bool.and_true]
    by_cases e : pk S a = c <;> simp [e]
  · rw [drop_out (by omega), pk_out (by omega)]
    simp only [startsW]
    exact (decide_eq_false (fun e => hc e.symm)).symm
theorem sw2 {c d : Int} {S : List Int} {a : Nat} (hc : c ≠ -1) (hd : d ≠ -1) : startsW [c, d] (S.drop a) = (decide (pk S a = c) && decide (pk S (a + 1) = d)) := by
  by_cases h : a < S.length
  · rw [drop_at h]
    have := sw1 (c := d) (S := S) (a := a + 1) hd
    simp only [startsW] at this ⊢
    rw [this]
    by_cases e : pk S a = c <;> simp [e]
  · rw [drop_out (by omega), pk_out (by omega)]
    simp only [startsW]
    rw [decide_eq_false (fun e => hc e.symm)]; rfl
theorem pk_lt {S : List Int} {a : Nat} (h : 0 ≤ pk S a) : a < S.length := by
  by_cases hk : a < S.length
  · exact hk
  · rw [pk_out (by omega)] at h; omega
theorem hexG1 {S : List Int} {a : Nat} (acc : Int) : hexG 1 acc (S.drop a) = match hexD (pk S a) with | none => none | some d => some (acc * 16 + d, S.drop (a + 1)) := by
  by_cases h : a < S.length
  · rw [drop_at h]; simp only [hexG]
    cases hexD (pk S a) <;> rfl
  · rw [drop_out (by omega), pk_out (by omega)]
    have : hexD (-1) = none := by decide
    rw [this]; rfl
/-- What the digits in braces have been read as so far. -/
def BrI (S : List Int) (b k : Nat) (x : Int) : Prop :=
  k ≤ S.length ∧ ((k = b ∧ x = -1) ∨ (b < k ∧ 0 ≤ x ∧ x ≤ 1114111 ∧ bracedL (S.drop b) = bracedG ((S.drop k).length + 1) x (S.drop k)) ∨ (b < k ∧ x = 1114112 ∧ bracedL (S.drop b) = none))
theorem BrI.bd {S : List Int} {b k : Nat} {x : Int} (h : BrI S b k x) : -1 ≤ x ∧ x ≤ 1114112 := by
  rcases h.2 with ⟨_, h⟩ | ⟨_, h1, h2, _⟩ | ⟨_, h, _⟩ <;> omega
theorem BrI.no {S : List Int} {b k : Nat} {x : Int} (h : BrI S b k x) (hq : pk S k ≠ 125) (hd : hexD (pk S k) = none) : bracedL (S.drop b) = none := by
  have e1 := hexG1 (S := S) (a := k) 0
  rw [hd] at e1
  rcases h.2 with ⟨rfl, _⟩ | ⟨_, _, _, e⟩ | ⟨_, _, e⟩
  · unfold bracedL; rw [e1]
  · rw [e]; unfold bracedG
    rw [sw1 (by omega), decide_eq_false hq, e1]; rfl
  · exact e
theorem BrI.next {S : List Int} {b k : Nat} {x d : Int} (h : BrI S b k x) (hq : pk S k ≠ 125) (hd : hexD (pk S k) = some d) : BrI S b (k + 1) (min (16 * max x 0 + d) 1114112) := by
  have hk : k < S.length := pk_lt (hexD_rng hd).1
  have hb := hexD_bd hd
  have e1 := hexG1 (S := S) (a := k) 0
  rw [hd] at e1
  obtain ⟨h0, h⟩ := h
  refine ⟨hk, ?_⟩
  rcases h with ⟨rfl, rfl⟩ | ⟨h1, h2, h3, e⟩ | ⟨h1, rfl, e⟩
  · refine Or.inr (Or.inl ⟨by omega, by omega, by omega, ?_⟩)
    unfold bracedL; rw [e1]
    simp only
    congr 1; omega
  · have e2 : bracedG ((S.drop k).length + 1) x (S.drop k) = if x * 16 + d > 1114111 then none else bracedG ((S.drop (k + 1)).length + 1) (x * 16 + d) (S.drop (k + 1)) := by
      conv => lhs; unfold bracedG
      rw [sw1 (by omega), decide_eq_false hq, e1, show (S.drop k).length = (S.drop (k + 1)).length + 1 by rw [List.length_drop, List.length_drop]; omega]
      simp only [Int.zero_mul, Int.zero_add]; rfl
    rw [e2] at e
    by_cases ho : x * 16 + d > 1114111
    · rw [if_pos ho] at e
      exact Or.inr (Or.inr ⟨by omega, by omega, e⟩)
    · rw [if_neg ho] at e
      refine Or.inr (Or.inl ⟨by omega, by omega, by omega, ?_⟩)
      rw [e]; congr 1; omega
  · exact Or.inr (Or.inr ⟨by omega, by omega, e⟩)
theorem BrI.out {S : List Int} {b k : Nat} {x : Int} (h : BrI S b k x) (hq : pk S k = -1) : bracedL (S.drop b) = none :=
  h.no (by omega) (by rw [hq]; decide)
theorem BrI.ends {S : List Int} {b k : Nat} {x : Int} (h : BrI S b k x) (hq : pk S k = 125) : (x < 0 → bracedL (S.drop b) = none) ∧ (0 ≤ x → bracedL (S.drop b) = if isPt x = true then some (x, S.drop (k + 1)) else none) := by
  have hk : k < S.length := pk_lt (by omega)
  have e1 := hexG1 (S := S) (a := k) 0
  rw [hq, show hexD 125 = none by decide] at e1
  rcases h.2 with ⟨rfl, rfl⟩ | ⟨_, h1, _, e⟩ | ⟨_, rfl, e⟩
  · refine ⟨fun _ => ?_, fun h => by omega⟩
    unfold bracedL; rw [e1]
  · refine ⟨fun h => by omega, fun _ => ?_⟩
    rw [e]; unfold bracedG
    rw [sw1 (by omega), decide_eq_true hq, List.drop_drop]; rfl
  · refine ⟨fun h => by omega, fun _ => ?_⟩
    rw [e, if_neg (by decide)]
theorem uni_br {S : List Int} {a : Nat} (h : pk S a = 123) : unicodeL (S.drop a) = bracedL (S.drop (a + 1)) := by
  unfold unicodeL
  rw [sw1 (by omega), decide_eq_true h, List.drop_drop]; rfl

set_option maxRecDepth 100000 in
set_option maxHeartbeats 1600000 in
theorem runi_br (w : World) (pb a : Nat) (S : List Int) (g : Int) (bad : Bool) (hq : pk S a = 123) (h : RP w pb S a g bad) :
    Calls Tryz.prog 96 #[.pointer (some ⟨pb, 0, none⟩)] w fun r w' => ∃ x a', r = .returned (.int .i64 x) ∧ But (· = pb) w w' ∧ RP w' pb S a' g bad ∧ a' ≤ S.length ∧ HexQ (unicodeL (S.drop a)) S x a' := by
  rw [uni_br hq]
  obtain ⟨P, hP⟩ : ∃ P : Ending → World → Prop, P = fun r w' => ∃ x a', r = .returned (.int .i64 x) ∧ But (· = pb) w w' ∧ RP w' pb S a' g bad ∧ a' ≤ S.length ∧ HexQ (bracedL (S.drop (a + 1))) S x a' := ⟨_, rfl⟩
  rw [← hP]
  have HP := hid_intro hP
  have ht := rtake_any w pb a S g 123 bad (by omega) h
  rw [decide_eq_true hq, show tk S a 123 = a + 1 by unfold tk; rw [if_pos hq]] at ht
  have HK : Hid (a + 1 ≤ S.length) := hid_intro (pk_lt (by omega))
  clear hP h hq
  go_enter Tryz.func96, Tryz.ntmps96
  go_wp2_with fail
  refine ht.mono ?_; rintro r w1 ⟨rfl, hb1, hr1⟩
  have HR1 := hid_intro hr1
  have HB1 := hid_intro hb1
  clear ht hb1 hr1
  go_wp2_with fail
  go_loopg [3] (S.length - (a + 1)) (fun m s3 wr => ∃ (k : Nat) (x : Int), m = S.length - k ∧ s3 = .int .i64 x ∧ Hid (BrI S (a + 1) k x ∧ But (· = pb) w wr ∧ RP wr pb S k g bad))
  case atStart => exact ⟨a + 1, -1, rfl, rfl, ⟨HK.out, Or.inl ⟨rfl, rfl⟩⟩, HB1.out, HR1.out⟩
  case round =>
    obtain ⟨k, x, rfl, rfl, HI⟩ := hrel
    have hbd := HI.out.1.bd
    have hrg := HI.out.2.2.pkr k
    have HPK := hid_intro (fun w' (h : RP w' pb S k g bad) => rpeek_any w' pb k S g bad h)
    by_cases hq0 : pk S k = -1
    · have HE := hid_intro (HI.out.1.out hq0)
      have HTK := hid_intro (fun w' (h : RP w' pb S k g bad) => rtake_any w' pb k S g 125 bad (by omega) h)
      rw [hq0] at HPK HTK
      rw [show decide ((-1 : Int) = 125) = false by decide, show tk S k 125 = k by unfold tk; rw [if_neg (by omega)]] at HTK
      clear hbd hrg hq0
      go_wp2_with fail
      refine (HPK.out wr HI.out.2.2).mono ?_; rintro r w2 ⟨rfl, hb2⟩
      have HR2 := hid_intro (HI.out.2.2.below hb2)
      have HB2 := hid_intro (HI.out.2.1.below hb2)
      clear hb2
      go_wp2_with fail
      refine (HTK.out w2 HR2.out).mono ?_; rintro r w3 ⟨rfl, hb3, hr3⟩
      have HR3 := hid_intro hr3
      have HB3 := hid_intro (HB2.out.trans hb3)
      clear hb3 hr3
      go_wp2_with fail
      rw [HP.out]
      exact ⟨-1, k, rfl, HB3.out, HR3.out, HI.out.1.1, by rw [HE.out]; rfl⟩
    · have hq1 : 0 ≤ pk S k := by omega
      have HKL := hid_intro (pk_lt hq1)
      by_cases hq2 : pk S k = 125
      · have HE := hid_intro (HI.out.1.ends hq2)
        have HTK := hid_intro (fun w' (h : RP w' pb S k g bad) => rtake_any w' pb k S g 125 bad (by omega) h)
        rw [hq2] at HPK HTK
        rw [show decide ((125 : Int) = 125) = true by decide, show tk S k 125 = k + 1 by unfold tk; rw [if_pos hq2]] at HTK
        clear hrg hq0 hq1 hq2
        have HSC := hid_intro (fun w' => scalar_any x w')
        by_cases hx : x < 0
        · clear hbd
          go_wp2_with fail
          refine (HPK.out wr HI.out.2.2).mono ?_; rintro r w2 ⟨rfl, hb2⟩
          have HR2 := hid_intro (HI.out.2.2.below hb2)
          have HB2 := hid_intro (HI.out.2.1.below hb2)
          clear hb2
          go_wp2_with fail
          refine (HPK.out w2 HR2.out).mono ?_; rintro r w4 ⟨rfl, hb4⟩
          have HR4 := hid_intro (HR2.out.below hb4)
          have HB4 := hid_intro (HB2.out.below hb4)
          clear hb4
          go_wp2_with fail
          refine (HTK.out w4 HR4.out).mono ?_; rintro r w3 ⟨rfl, hb3, hr3⟩
          have HR3 := hid_intro hr3
          have HB3 := hid_intro (HB4.out.trans hb3)
          clear hb3 hr3
          go_wp2_with fail
          rw [HP.out]
          exact ⟨-1, k + 1, rfl, HB3.out, HR3.out, HKL.out, by rw [HE.out.1 hx]; rfl⟩
        · have HE2 := hid_intro (HE.out.2 (by omega))
          rw [isPt_ptB] at HE2
          clear hbd HE
          cases hpt : ptB x
          · rw [hpt] at HSC HE2
            clear hpt
            go_wp2_with fail
            refine (HPK.out wr HI.out.2.2).mono ?_; rintro r w2 ⟨rfl, hb2⟩
            have HR2 := hid_intro (HI.out.2.2.below hb2)
            have HB2 := hid_intro (HI.out.2.1.below hb2)
            clear hb2
            go_wp2_with fail
            refine (HPK.out w2 HR2.out).mono ?_; rintro r w4 ⟨rfl, hb4⟩
            have HR4 := hid_intro (HR2.out.below hb4)
            have HB4 := hid_intro (HB2.out.below hb4)
            clear hb4
            go_wp2_with fail
            refine (HTK.out w4 HR4.out).mono ?_; rintro r w3 ⟨rfl, hb3, hr3⟩
            have HR3 := hid_intro hr3
            have HB3 := hid_intro (HB4.out.trans hb3)
            clear hb3 hr3
            go_wp2_with fail
            refine (HSC.out _).mono ?_; rintro r w5 ⟨rfl, rfl⟩
            go_wp2_with fail
            rw [HP.out]
            exact ⟨-1, k + 1, rfl, HB3.out, HR3.out, HKL.out, by rw [HE2.out]; rfl⟩
          · rw [hpt] at HSC HE2
            clear hpt
            go_wp2_with fail
            refine (HPK.out wr HI.out.2.2).mono ?_; rintro r w2 ⟨rfl, hb2⟩
            have HR2 := hid_intro (HI.out.2.2.below hb2)
            have HB2 := hid_intro (HI.out.2.1.below hb2)
            clear hb2
            go_wp2_with fail
            refine (HPK.out w2 HR2.out).mono ?_; rintro r w4 ⟨rfl, hb4⟩
            have HR4 := hid_intro (HR2.out.below hb4)
            have HB4 := hid_intro (HB2.out.below hb4)
            clear hb4
            go_wp2_with fail
            refine (HTK.out w4 HR4.out).mono ?_; rintro r w3 ⟨rfl, hb3, hr3⟩
            have HR3 := hid_intro hr3
            have HB3 := hid_intro (HB4.out.trans hb3)
            clear hb3 hr3
            go_wp2_with fail
            refine (HSC.out _).mono ?_; rintro r w5 ⟨rfl, rfl⟩
            go_wp2_with fail
            rw [HP.out]
            exact ⟨x, k + 1, rfl, HB3.out, HR3.out, HKL.out, by rw [HE2.out]; exact ⟨rfl, rfl, HKL.out⟩⟩
      · have hq3 : (pk S k != 125) = true := by simpa using hq2
        have HHX := hid_intro (fun w' (h : RP w' pb S k g bad) => rhex_any w' pb k S g bad 1 (by omega) (Nat.le_of_lt HKL.out) h)
        cases hd : hexD (pk S k) with
        | none =>
          have HE := hid_intro (HI.out.1.no hq2 hd)
          rw [hexG1, hd] at HHX
          clear hbd hrg hq0 hd hq2
          generalize pk S k = q at *
          go_wp2_with fail
          refine (HPK.out wr HI.out.2.2).mono ?_; rintro r w2 ⟨rfl, hb2⟩
          have HR2 := hid_intro (HI.out.2.2.below hb2)
          have HB2 := hid_intro (HI.out.2.1.below hb2)
          clear hb2
          go_wp2_with fail
          refine (HPK.out w2 HR2.out).mono ?_; rintro r w4 ⟨rfl, hb4⟩
          have HR4 := hid_intro (HR2.out.below hb4)
          have HB4 := hid_intro (HB2.out.below hb4)
          clear hb4
          go_wp2_with fail
          refine (HHX.out w4 HR4.out).mono ?_; rintro r w3 ⟨x3, a3, rfl, hb3, hr3, hl3, hx3⟩
          obtain rfl : x3 = -1 := hx3
          have HR3 := hid_intro hr3
          have HB3 := hid_intro (HB4.out.trans hb3)
          have HL3 := hid_intro hl3
          clear hb3 hr3 hl3
          go_wp2_with fail
          rw [HP.out]
          exact ⟨-1, a3, rfl, HB3.out, HR3.out, HL3.out, by rw [HE.out]; rfl⟩
        | some d =>
          have HN := hid_intro (HI.out.1.next hq2 hd)
          have hdb := hexD_bd hd
          rw [hexG1, hd] at HHX
          clear hrg hq0 hd hq2
          generalize pk S k = q at *
          have hd0 : ¬ d < 0 := by omega
          have hx : 0 ≤ x ∨ x = -1 := by omega
          rcases hx with hx | rfl
          · have hw1 : wrap64 (16 * x) = 16 * x := w64 (by omega) (by omega)
            have hw2 : wrap64 (16 * x + d) = 16 * x + d := w64 (by omega) (by omega)
            by_cases ho : 16 * x + d ≤ 1114112
            · rw [show min (16 * max x 0 + d) 1114112 = 16 * x + d by omega] at HN
              clear hbd hdb
              go_wp2_with fail
              refine (HPK.out wr HI.out.2.2).mono ?_; rintro r w2 ⟨rfl, hb2⟩
              have HR2 := hid_intro (HI.out.2.2.below hb2)
              have HB2 := hid_intro (HI.out.2.1.below hb2)
              clear hb2
              go_wp2_with fail
              refine (HPK.out w2 HR2.out).mono ?_; rintro r w4 ⟨rfl, hb4⟩
              have HR4 := hid_intro (HR2.out.below hb4)
              have HB4 := hid_intro (HB2.out.below hb4)
              clear hb4
              go_wp2_with fail
              refine (HHX.out w4 HR4.out).mono ?_; rintro r w3 ⟨x3, a3, rfl, hb3, hr3, hl3, hx3, hd3, _⟩
              obtain rfl : a3 = k + 1 := drop_inj hl3 HKL.out hd3.symm
              obtain rfl : x3 = d := by rw [hx3]; omega
              have HR3 := hid_intro hr3
              have HB3 := hid_intro (HB4.out.trans hb3)
              clear hb3 hr3 hl3 hx3 hd3
              go_wp2_with fail
              go_roundg (S.length - (k + 1))
              case measure => have := HKL.out; omega
              case rel => exact ⟨k + 1, _, rfl, rfl, HN.out, HB3.out, HR3.out⟩
            · rw [show min (16 * max x 0 + d) 1114112 = 1114112 by omega] at HN
              clear hbd hdb
              go_wp2_with fail
              refine (HPK.out wr HI.out.2.2).mono ?_; rintro r w2 ⟨rfl, hb2⟩
              have HR2 := hid_intro (HI.out.2.2.below hb2)
              have HB2 := hid_intro (HI.out.2.1.below hb2)
              clear hb2
              go_wp2_with fail
              refine (HPK.out w2 HR2.out).mono ?_; rintro r w4 ⟨rfl, hb4⟩
              have HR4 := hid_intro (HR2.out.below hb4)
              have HB4 := hid_intro (HB2.out.below hb4)
              clear hb4
              go_wp2_with fail
              refine (HHX.out w4 HR4.out).mono ?_; rintro r w3 ⟨x3, a3, rfl, hb3, hr3, hl3, hx3, hd3, _⟩
              obtain rfl : a3 = k + 1 := drop_inj hl3 HKL.out hd3.symm
              obtain rfl : x3 = d := by rw [hx3]; omega
              have HR3 := hid_intro hr3
              have HB3 := hid_intro (HB4.out.trans hb3)
              clear hb3 hr3 hl3 hx3 hd3
              go_wp2_with fail
              go_roundg (S.length - (k + 1))
              case measure => have := HKL.out; omega
              case rel => exact ⟨k + 1, _, rfl, rfl, HN.out, HB3.out, HR3.out⟩
          · rw [show min (16 * max (-1) 0 + d) 1114112 = d by omega] at HN
            have ho : d ≤ 1114112 := by omega
            clear hbd hdb
            go_wp2_with fail
            refine (HPK.out wr HI.out.2.2).mono ?_; rintro r w2 ⟨rfl, hb2⟩
            have HR2 := hid_intro (HI.out.2.2.below hb2)
            have HB2 := hid_intro (HI.out.2.1.below hb2)
            clear hb2
            go_wp2_with fail
            refine (HPK.out w2 HR2.out).mono ?_; rintro r w4 ⟨rfl, hb4⟩
            have HR4 := hid_intro (HR2.out.below hb4)
            have HB4 := hid_intro (HB2.out.below hb4)
            clear hb4
            go_wp2_with fail
            refine (HHX.out w4 HR4.out).mono ?_; rintro r w3 ⟨x3, a3, rfl, hb3, hr3, hl3, hx3, hd3, _⟩
            obtain rfl : a3 = k + 1 := drop_inj hl3 HKL.out hd3.symm
            obtain rfl : x3 = d := by rw [hx3]; omega
            have HR3 := hid_intro hr3
            have HB3 := hid_intro (HB4.out.trans hb3)
            clear hb3 hr3 hl3 hx3 hd3
            go_wp2_with fail
            go_roundg (S.length - (k + 1))
            case measure => have := HKL.out; omega
            case rel => exact ⟨k + 1, _, rfl, rfl, HN.out, HB3.out, HR3.out⟩
end Go.Proofs.YthbbkcdlcpbepaaGreatDoor

namespace Go.Proofs.YthbbkcdlcpbepaaGreatDoor
open Go.RowKit
attribute [local go_sem] setCell_drewN alloc_drewN

theorem ne_b {c k : Int} (h : ¬ c = k) : (c == k) = false := by rw [beq_eq_false_iff_ne]; exact h
set_option maxRecDepth 100000 in
set_option maxHeartbeats 3200000 in
theorem escaped_any (w : World) (rb : Nat) (c : Int) (l : List Int) (g : Int) (hT : Tab w) (hrb : ¬ 0 = rb) (hc0 : 0 ≤ c) (hc1 : c ≤ 1114111) (h : RD w rb l g) :
    Calls Tryz.prog 109 #[.pointer (some ⟨rb, 0, none⟩), .int .i64 c] w (IntR (escapedL c l) rb g w) := by
  obtain ⟨P, hP⟩ : ∃ P, P = IntR (escapedL c l) rb g w := ⟨_, rfl⟩
  rw [← hP]
  have HP := hid_intro hP
  clear hP
  by_cases h116 : c = 116
  · subst h116
    have HE : Hid (escapedL 116 l = some (9, l)) := hid_intro rfl
    clear hT hrb hc0 hc1
    go_enter Tryz.func109, Tryz.ntmps109
    go_wp2_with fail
    rw [HP.out, HE.out]
    exact ⟨But.refl _ _, rfl, h⟩
  have b116 := ne_b h116
  by_cases h110 : c = 110
  · subst h110
    have HE : Hid (escapedL 110 l = some (10, l)) := hid_intro rfl
    clear hT hrb hc0 hc1
    go_enter Tryz.func109, Tryz.ntmps109
    go_wp2_with fail
    rw [HP.out, HE.out]
    exact ⟨But.refl _ _, rfl, h⟩
  have b110 := ne_b h110
  by_cases h118 : c = 118
  · subst h118
    have HE : Hid (escapedL 118 l = some (11, l)) := hid_intro rfl
    clear hT hrb hc0 hc1
    go_enter Tryz.func109, Tryz.ntmps109
    go_wp2_with fail
    rw [HP.out, HE.out]
    exact ⟨But.refl _ _, rfl, h⟩
  have b118 := ne_b h118
  by_cases h102 : c = 102
  · subst h102
    have HE : Hid (escapedL 102 l = some (12, l)) := hid_intro rfl
    clear hT hrb hc0 hc1
    go_enter Tryz.func109, Tryz.ntmps109
    go_wp2_with fail
    rw [HP.out, HE.out]
    exact ⟨But.refl _ _, rfl, h⟩
  have b102 := ne_b h102
  by_cases h114 : c = 114
  · subst h114
    have HE : Hid (escapedL 114 l = some (13, l)) := hid_intro rfl
    clear hT hrb hc0 hc1
    go_enter Tryz.func109, Tryz.ntmps109
    go_wp2_with fail
    rw [HP.out, HE.out]
    exact ⟨But.refl _ _, rfl, h⟩
  have b114 := ne_b h114
  by_cases h48 : c = 48
  · subst h48
    have hf := nought_any w rb l g h
    have HE : Hid (escapedL 48 l = noughtL l) := hid_intro rfl
    cases e1 : noughtL l with
    | none =>
      rw [e1] at hf HE
      clear hT hrb hc0 hc1 h e1
      go_enter Tryz.func109, Tryz.ntmps109
      go_wp2_with fail
      refine hf.mono ?_; rintro r w1 ⟨hb1, rfl⟩
      go_wp2_with fail
      refine ⟨rfl, ?_⟩
      rw [HP.out, HE.out]
      exact ⟨hb1, rfl⟩
    | some y =>
      obtain ⟨p, l2⟩ := y
      rw [e1] at hf HE
      clear hT hrb hc0 hc1 h e1
      go_enter Tryz.func109, Tryz.ntmps109
      go_wp2_with fail
      refine hf.mono ?_; rintro r w1 ⟨hb1, rfl, hr1⟩
      go_wp2_with fail
      rw [HP.out, HE.out]
      exact ⟨hb1, rfl, hr1⟩
  have b48 := ne_b h48
  by_cases h99 : c = 99
  · subst h99
    have hf := control_any w rb l g h
    have HE : Hid (escapedL 99 l = controlL l) := hid_intro rfl
    cases e1 : controlL l with
    | none =>
      rw [e1] at hf HE
      clear hT hrb hc0 hc1 h e1
      go_enter Tryz.func109, Tryz.ntmps109
      go_wp2_with fail
      refine hf.mono ?_; rintro r w1 ⟨hb1, rfl⟩
      go_wp2_with fail
      refine ⟨rfl, ?_⟩
      rw [HP.out, HE.out]
      exact ⟨hb1, rfl⟩
    | some y =>
      obtain ⟨p, l2⟩ := y
      rw [e1] at hf HE
      clear hT hrb hc0 hc1 h e1
      go_enter Tryz.func109, Tryz.ntmps109
      go_wp2_with fail
      refine hf.mono ?_; rintro r w1 ⟨hb1, rfl, hr1⟩
      go_wp2_with fail
      rw [HP.out, HE.out]
      exact ⟨hb1, rfl, hr1⟩
  have b99 := ne_b h99
  by_cases h120 : c = 120
  · subst h120
    have hf := hex_any w rb l g 2 (by omega) h
    have HE : Hid (escapedL 120 l = hexG 2 0 l) := hid_intro rfl
    cases e1 : hexG 2 0 l with
    | none =>
      rw [e1] at hf HE
      clear hT hrb hc0 hc1 h e1
      go_enter Tryz.func109, Tryz.ntmps109
      go_wp2_with fail
      refine hf.mono ?_; rintro r w1 ⟨hb1, rfl⟩
      go_wp2_with fail
      refine ⟨rfl, ?_⟩
      rw [HP.out, HE.out]
      exact ⟨hb1, rfl⟩
    | some y =>
      obtain ⟨p, l2⟩ := y
      rw [e1] at hf HE
      clear hT hrb hc0 hc1 h e1
      go_enter Tryz.func109, Tryz.ntmps109
      go_wp2_with fail
      refine hf.mono ?_; rintro r w1 ⟨hb1, rfl, hr1⟩
      go_wp2_with fail
      rw [HP.out, HE.out]
      exact ⟨hb1, rfl, hr1⟩
  have b120 := ne_b h120
  by_cases h117 : c = 117
  · subst h117
    have hf := unicode_any w rb l g hT hrb h
    have HE : Hid (escapedL 117 l = unicodeL l) := hid_intro rfl
    cases e1 : unicodeL l with
    | none =>
      rw [e1] at hf HE
      clear hT hrb hc0 hc1 h e1
      go_enter Tryz.func109, Tryz.ntmps109
      go_wp2_with fail
      refine hf.mono ?_; rintro r w1 ⟨hb1, rfl⟩
      go_wp2_with fail
      refine ⟨rfl, ?_⟩
      rw [HP.out, HE.out]
      exact ⟨hb1, rfl⟩
    | some y =>
      obtain ⟨p, l2⟩ := y
      rw [e1] at hf HE
      clear hT hrb hc0 hc1 h e1
      go_enter Tryz.func109, Tryz.ntmps109
      go_wp2_with fail
      refine hf.mono ?_; rintro r w1 ⟨hb1, rfl, hr1⟩
      go_wp2_with fail
      rw [HP.out, HE.out]
      exact ⟨hb1, rfl, hr1⟩
  have b117 := ne_b h117
  have hcn := fun w => contains_b c w hc0 hc1
  have hw : IntKind.i32.wrap c = c := by simp [IntKind.wrap, IntKind.bits, IntKind.signed]; omega
  have HE0 : escapedL c l = if synS c = true then some (c, l) else none := by
    unfold escapedL
    rw [if_neg h116, if_neg h110, if_neg h118, if_neg h102, if_neg h114, if_neg h48, if_neg h99, if_neg h120, if_neg h117]
  cases e1 : synS c
  · rw [e1] at hcn HE0
    have HE : Hid (escapedL c l = none) := hid_intro HE0
    clear hT hrb hc0 hc1 h e1 HE0 h116 h110 h118 h102 h114 h48 h99 h120 h117
    go_enter Tryz.func109, Tryz.ntmps109
    go_wp2_with fail
    refine (hcn _).mono ?_; rintro r w1 ⟨rfl, hb1⟩
    go_wp2_with fail
    refine ⟨rfl, ?_⟩
    rw [HP.out, HE.out]
    exact ⟨But.ofBelow hb1, rfl⟩
  · rw [e1] at hcn HE0
    have HE : Hid (escapedL c l = some (c, l)) := hid_intro HE0
    clear hT hrb hc0 hc1 e1 HE0 h116 h110 h118 h102 h114 h48 h99 h120 h117
    go_enter Tryz.func109, Tryz.ntmps109
    go_wp2_with fail
    refine (hcn _).mono ?_; rintro r w1 ⟨rfl, hb1⟩
    go_wp2_with fail
    rw [HP.out, HE.out]
    exact ⟨But.ofBelow hb1, rfl, h.below hb1⟩
end Go.Proofs.YthbbkcdlcpbepaaGreatDoor
