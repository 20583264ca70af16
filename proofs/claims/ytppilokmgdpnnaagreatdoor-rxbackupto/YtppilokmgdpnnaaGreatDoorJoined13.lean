/-
  What utf.Pair answers. Conditions: the table of greatest code points holds its four numbers.
  Code points by their number: isPoint, braced, unicode, escaped. Conditions: the table of greatest code points holds its four numbers.
-/
import Derived.Test.YtppilokmgdpnnaaGreatDoorJoined12
import Derived.Test.YtppilokmgdpnnaaGreatDoorJoined11
namespace Go.Proofs.YtppilokmgdpnnaaGreatDoor
open Go.RowKit

theorem least4 (w : World) (hT : Tab w) : Calls Tryz.prog 93 #[.int .i64 4] w fun e w' => e = .returned (.int .i64 65536) ∧ w = w' :=
  (least_any 4 w hT (by omega) (by omega)).mono fun e w' h => ⟨h.1, h.2.symm⟩

set_option maxHeartbeats 400000 in
theorem pair_bad (h l : Int) (w : World) (hb : h < 55296 ∨ 56319 < h ∨ l < 56320 ∨ 57343 < l) :
    Calls Tryz.prog 140 #[.int .i64 h, .int .i64 l] w fun e w' => e = .returned (.tuple #[.int .i64 0, .int .i64 11]) ∧ w' = w := by
  by_cases h1 : h < 55296
  · go_enter Tryz.func140, Tryz.ntmps140
    go_wp2
    go_ret2
    exact ⟨rfl, rfl⟩
  · by_cases h2 : 56319 < h
    · go_enter Tryz.func140, Tryz.ntmps140
      go_wp2
      go_ret2
      exact ⟨rfl, rfl⟩
    · by_cases h3 : l < 56320
      · go_enter Tryz.func140, Tryz.ntmps140
        go_wp2
        go_ret2
        exact ⟨rfl, rfl⟩
      · have h4 : 57343 < l := by omega
        go_enter Tryz.func140, Tryz.ntmps140
        go_wp2
        go_ret2
        exact ⟨rfl, rfl⟩
set_option maxHeartbeats 400000 in
theorem pair_ok (h l : Int) (w : World) (hT : Tab w) (h1 : 55296 ≤ h) (h2 : h ≤ 56319) (h3 : 56320 ≤ l) (h4 : l ≤ 57343) :
    Calls Tryz.prog 140 #[.int .i64 h, .int .i64 l] w fun e w' => e = .returned (.tuple #[.int .i64 (65536 + (h - 55296) * 1024 + (l - 56320)), .int .i64 0]) ∧ w = w' := by
  go_enter Tryz.func140, Tryz.ntmps140
  go_wp2_with (go_at_call 93; refine (least4 _ hT).mono ?_; rintro e w' ⟨rfl, rfl⟩)
  go_ret2
  exact ⟨ret2_int rfl rfl, rfl⟩
end Go.Proofs.YtppilokmgdpnnaaGreatDoor

namespace Go.Proofs.YtppilokmgdpnnaaGreatDoor
open Go.RowKit
attribute [local go_sem] setCell_drewN alloc_drewN

theorem hexG1_bd2 {l l' : List Int} {p : Int} (h : hexG 1 0 l = some (p, l')) : 0 ≤ p ∧ p ≤ 15 := by
  cases l with
  | nil => simp [hexG] at h
  | cons c l =>
    simp only [hexG] at h
    cases hd : hexD c with
    | none => rw [hd] at h; simp at h
    | some d =>
      rw [hd] at h
      have := hexD_bd hd
      simp only [Option.some.injEq, Prod.mk.injEq] at h
      omega
theorem hexG1_bd {l l' : List Int} {p : Int} (h : hexG 1 0 l = some (p, l')) : 0 ≤ p ∧ p ≤ 1114111 := by
  have := hexG1_bd2 h; omega
theorem isPt_ptB (p : Int) : isPt p = ptB p := by
  unfold isPt ptB
  rw [Bool.eq_iff_iff]
  simp only [Bool.or_eq_true, Bool.and_eq_true, decide_eq_true_eq]
  omega
set_option maxHeartbeats 400000 in
theorem isPt_any (p : Int) (w : World) (hT : Tab w) : Calls Tryz.prog 87 #[.int .i64 p] w fun r w' => r = .returned (.bool (isPt p)) ∧ Below w.heap.size w w' := by
  rw [isPt_ptB]
  cases hp : ptB p
  · have h := put_bad (.slice none 0 0) p w hT hp
    clear hp hT
    go_enter Tryz.func87, Tryz.ntmps87
    go_wp2_with (go_at_call 88; refine h.mono ?_; rintro r w1 ⟨rfl, rfl⟩)
    go_ret
    exact ⟨rfl, Below.refl _ _⟩
  · have h := put_ok (.slice none 0 0) 0 (fun _ => 0) p w hT hp (Or.inl ⟨rfl, none, 0, rfl, fun _ => rfl⟩) (by omega)
    unfold PutOk at h
    clear hp hT
    go_enter Tryz.func87, Tryz.ntmps87
    go_wp2_with (go_at_call 88; refine h.mono ?_; rintro r w1 ⟨v, rfl, hv, hb⟩)
    go_ret
    exact ⟨rfl, hb⟩

set_option maxRecDepth 100000 in
set_option maxHeartbeats 1600000 in
theorem braced_any (w : World) (rb : Nat) (l : List Int) (g : Int) (hT : Tab w) (hrb : ¬ 0 = rb) (h : RD w rb l g) :
    Calls Tryz.prog 139 #[.pointer (some ⟨rb, 0, none⟩)] w (IntR (bracedL l) rb g w) := by
  obtain ⟨P, hP⟩ : ∃ P, P = IntR (bracedL l) rb g w := ⟨_, rfl⟩
  rw [← hP]
  have HP := hid_intro hP
  clear hP
  have hx := hex_any w rb l g 1 (by omega) h
  cases e1 : hexG 1 0 l with
  | none =>
    rw [e1] at hx
    have HE : Hid (bracedL l = none) := hid_intro (by unfold bracedL; rw [e1])
    clear h e1
    go_enter Tryz.func139, Tryz.ntmps139
    go_wp2_with fail
    refine hx.mono ?_; rintro r w1 ⟨hb1, rfl⟩
    go_wp2_with fail
    refine ⟨rfl, ?_⟩
    rw [HP.out, HE.out]
    exact ⟨hb1, rfl⟩
  | some y =>
    obtain ⟨p0, l1⟩ := y
    rw [e1] at hx
    have HE : Hid (bracedL l = bracedG (l1.length + 1) p0 l1) := hid_intro (by unfold bracedL; rw [e1])
    have HC : Hid (0 ≤ p0 ∧ p0 ≤ 1114111) := hid_intro (hexG1_bd e1)
    have HT := hid_intro hT
    have HN := hid_intro hrb
    clear h e1 hT hrb
    go_enter Tryz.func139, Tryz.ntmps139
    go_wp2_with fail
    refine hx.mono ?_; rintro r w1 ⟨hb1, rfl, hr1⟩
    go_wp2_with fail
    have HB := hid_intro hb1
    have HR := hid_intro hr1
    clear hb1 hr1 hx
    go_loopg [3] l1.length (fun m s3 wr => ∃ (p : Int) (l' : List Int), m = l'.length ∧ s3 = .int .i64 p ∧ Hid (0 ≤ p ∧ p ≤ 1114111) ∧ Hid (bracedG (l'.length + 1) p l' = bracedL l) ∧ But (· = rb) w wr ∧ RD wr rb l' g)
    case atStart => exact ⟨p0, l1, rfl, rfl, HC, HE.out.symm, HB.out, HR.out⟩
    case round =>
      clear HB HR HC HE
      obtain ⟨p, l', rfl, rfl, HC, HG, hb, hR⟩ := hrel
      have ht := take_any wr rb l' g ⟨#[125]⟩ (by decide) hR
      rw [i125] at ht
      obtain ⟨p0', p1'⟩ := HC.out
      have HTr : Hid (Tab wr) := hid_intro (hb.tab HT.out HN.out)
      cases s1 : startsW [125] l'
      · have r1 : rest [125] l' = l' := by unfold rest; rw [s1]; rfl
        rw [s1, r1] at ht
        have hx := fun w (h : RD w rb l' g) => hex_any w rb l' g 1 (by omega) h
        cases e1 : hexG 1 0 l' with
        | none =>
          have HE : Hid (bracedL l = none) := hid_intro (by rw [← HG.out]; simp only [bracedG, s1, e1, Bool.false_eq_true, reduceIte])
          rw [e1] at hx
          clear HG s1 r1 e1 hR
          go_wp2_with fail
          refine ht.mono ?_; rintro r w1 ⟨rfl, hb1, hr1⟩
          go_wp2_with fail
          refine (hx _ hr1).mono ?_; rintro r w2 ⟨hb2, rfl⟩
          go_wp2_with fail
          refine ⟨rfl, ?_⟩
          rw [HP.out, HE.out]
          exact ⟨(hb.trans hb1).trans hb2, rfl⟩
        | some y =>
          obtain ⟨d, l2⟩ := y
          rw [e1] at hx
          have hd := hexG1_bd2 e1
          have hlen := hexG_len _ _ _ _ e1
          simp only at hlen
          obtain ⟨d0, d1⟩ := hd
          by_cases hgt : p * 16 + d > 1114111
          · have HE : Hid (bracedL l = none) := hid_intro (by rw [← HG.out]; simp only [bracedG, s1, e1, Bool.false_eq_true, reduceIte]; rw [if_pos hgt])
            have hg2 : (1114111 : Int) < p * 16 + d := hgt
            clear HG s1 r1 e1 hR hgt hlen
            go_wp2_with fail
            refine ht.mono ?_; rintro r w1 ⟨rfl, hb1, hr1⟩
            go_wp2_with fail
            refine (hx _ hr1).mono ?_; rintro r w2 ⟨hb2, rfl, hr2⟩
            go_wp2_with fail
            refine ⟨rfl, ?_⟩
            rw [HP.out, HE.out]
            exact ⟨(hb.trans hb1).trans hb2, rfl⟩
          · have HE : Hid (bracedG (l2.length + 1) (p * 16 + d) l2 = bracedL l) := hid_intro (by
              rw [← HG.out, ← hlen]
              conv => rhs; unfold bracedG
              simp only [s1, e1, Bool.false_eq_true, reduceIte]
              rw [if_neg hgt])
            have hg2 : ¬ (1114111 : Int) < p * 16 + d := hgt
            have HC2 : Hid (0 ≤ p * 16 + d ∧ p * 16 + d ≤ 1114111) := hid_intro (by omega)
            have HL := hid_intro hlen
            clear HG s1 r1 e1 hR hgt hlen
            go_wp2_with fail
            refine ht.mono ?_; rintro r w1 ⟨rfl, hb1, hr1⟩
            go_wp2_with fail
            refine (hx _ hr1).mono ?_; rintro r w2 ⟨hb2, rfl, hr2⟩
            go_wp2_with fail
            go_roundg l2.length
            case measure => have := HL.out; omega
            case rel => exact ⟨_, l2, rfl, rfl, HC2, HE, (hb.trans hb1).trans hb2, hr2⟩
      · have r1 : rest [125] l' = l'.drop 1 := by unfold rest; rw [s1]; rfl
        rw [s1, r1] at ht
        have hpt := fun w (h : Tab w) => isPt_any p w h
        cases e1 : isPt p
        · have HE : Hid (bracedL l = none) := hid_intro (by rw [← HG.out]; simp only [bracedG, s1, e1, Bool.false_eq_true, reduceIte])
          rw [e1] at hpt
          clear HG s1 r1 e1 hR
          go_wp2_with fail
          refine ht.mono ?_; rintro r w1 ⟨rfl, hb1, hr1⟩
          go_wp2_with fail
          refine (hpt _ (hb1.tab HTr.out HN.out)).mono ?_; rintro r w2 ⟨rfl, hb2⟩
          go_wp2_with fail
          refine ⟨rfl, ?_⟩
          rw [HP.out, HE.out]
          exact ⟨(hb.trans hb1).below hb2, rfl⟩
        · have HE : Hid (bracedL l = some (p, l'.drop 1)) := hid_intro (by rw [← HG.out]; simp only [bracedG, s1, e1, reduceIte])
          rw [e1] at hpt
          clear HG s1 r1 e1 hR
          go_wp2_with fail
          refine ht.mono ?_; rintro r w1 ⟨rfl, hb1, hr1⟩
          go_wp2_with fail
          refine (hpt _ (hb1.tab HTr.out HN.out)).mono ?_; rintro r w2 ⟨rfl, hb2⟩
          go_wp2_with fail
          rw [HP.out, HE.out]
          exact ⟨(hb.trans hb1).below hb2, rfl, hr1.below hb2⟩

set_option maxRecDepth 100000 in
set_option maxHeartbeats 1600000 in
theorem unicode_any (w : World) (rb : Nat) (l : List Int) (g : Int) (hT : Tab w) (hrb : ¬ 0 = rb) (h : RD w rb l g) :
    Calls Tryz.prog 124 #[.pointer (some ⟨rb, 0, none⟩)] w (IntR (unicodeL l) rb g w) := by
  obtain ⟨P, hP⟩ : ∃ P, P = IntR (unicodeL l) rb g w := ⟨_, rfl⟩
  rw [← hP]
  have HP := hid_intro hP
  have HT := hid_intro hT
  have HN := hid_intro hrb
  clear hP hT hrb
  have ht := take_any w rb l g ⟨#[123]⟩ (by decide) h
  have i123 : ints ⟨#[123]⟩ = [123] := rfl
  rw [i123] at ht
  cases s1 : startsW [123] l
  · have r1 : rest [123] l = l := by unfold rest; rw [s1]; rfl
    rw [s1, r1] at ht
    have hx := fun w (h : RD w rb l g) => hex_any w rb l g 4 (by omega) h
    cases e1 : hexG 4 0 l with
    | none =>
      rw [e1] at hx
      have HE : Hid (unicodeL l = none) := hid_intro (by unfold unicodeL; simp only [s1, e1, Bool.false_eq_true, reduceIte])
      clear h s1 r1 e1 i123
      go_enter Tryz.func124, Tryz.ntmps124
      go_wp2_with fail
      refine ht.mono ?_; rintro r w1 ⟨rfl, hb1, hr1⟩
      go_wp2_with fail
      refine (hx _ hr1).mono ?_; rintro r w2 ⟨hb2, rfl⟩
      go_wp2_with fail
      refine ⟨rfl, ?_⟩
      rw [HP.out, HE.out]
      exact ⟨hb1.trans hb2, rfl⟩
    | some y =>
      obtain ⟨p, l1⟩ := y
      rw [e1] at hx
      have hpt := fun w (h : Tab w) => isPt_any p w h
      cases e2 : isPt p
      · rw [e2] at hpt
        cases s2 : startsW [92, 117] l1
        · have hn := fun w (h : RD w rb l1 g) => need_no w rb l1 g ⟨#[92, 117]⟩ (by decide) h s2
          have HE : Hid (unicodeL l = none) := hid_intro (by unfold unicodeL; simp only [s1, e1, e2, s2, Bool.false_eq_true, reduceIte])
          clear h s1 r1 e1 i123 e2 s2
          go_enter Tryz.func124, Tryz.ntmps124
          go_wp2_with fail
          refine ht.mono ?_; rintro r w1 ⟨rfl, hb1, hr1⟩
          go_wp2_with fail
          refine (hx _ hr1).mono ?_; rintro r w2 ⟨hb2, rfl, hr2⟩
          go_wp2_with fail
          refine (hpt _ ((hb1.trans hb2).tab HT.out HN.out)).mono ?_; rintro r w3 ⟨rfl, hb3⟩
          go_wp2_with fail
          refine (hn _ (hr2.below hb3)).mono ?_; rintro r w4 ⟨rfl, hb4⟩
          go_wp2_with fail
          refine ⟨rfl, ?_⟩
          rw [HP.out, HE.out]
          exact ⟨((hb1.trans hb2).below hb3).trans hb4, rfl⟩
        · have hn := fun w (h : RD w rb l1 g) => need_ok w rb l1 g ⟨#[92, 117]⟩ (by decide) h s2
          have hx2 := fun w (h : RD w rb (l1.drop 2) g) => hex_any w rb (l1.drop 2) g 4 (by omega) h
          cases e3 : hexG 4 0 (l1.drop 2) with
          | none =>
            rw [e3] at hx2
            have HE : Hid (unicodeL l = none) := hid_intro (by unfold unicodeL; simp only [s1, e1, e2, s2, e3, Bool.false_eq_true, reduceIte])
            clear h s1 r1 e1 i123 e2 s2 e3
            go_enter Tryz.func124, Tryz.ntmps124
            go_wp2_with fail
            refine ht.mono ?_; rintro r w1 ⟨rfl, hb1, hr1⟩
            go_wp2_with fail
            refine (hx _ hr1).mono ?_; rintro r w2 ⟨hb2, rfl, hr2⟩
            go_wp2_with fail
            refine (hpt _ ((hb1.trans hb2).tab HT.out HN.out)).mono ?_; rintro r w3 ⟨rfl, hb3⟩
            go_wp2_with fail
            refine (hn _ (hr2.below hb3)).mono ?_; rintro r w4 ⟨rfl, hb4, hr4⟩
            go_wp2_with fail
            refine (hx2 _ hr4).mono ?_; rintro r w5 ⟨hb5, rfl⟩
            go_wp2_with fail
            refine ⟨rfl, ?_⟩
            rw [HP.out, HE.out]
            exact ⟨(((hb1.trans hb2).below hb3).trans hb4).trans hb5, rfl⟩
          | some y =>
            obtain ⟨q, l2⟩ := y
            rw [e3] at hx2
            by_cases hpr : (55296 ≤ p ∧ p ≤ 56319) ∧ 56320 ≤ q ∧ q ≤ 57343
            · have hpo := fun w (hT : Tab w) => pair_ok p q w hT hpr.1.1 hpr.1.2 hpr.2.1 hpr.2.2
              have HE : Hid (unicodeL l = some (65536 + (p - 55296) * 1024 + (q - 56320), l2)) := hid_intro (by
                unfold unicodeL; simp only [s1, e1, e2, s2, e3, Bool.false_eq_true, reduceIte, pairO]
                rw [if_pos hpr])
              clear h s1 r1 e1 i123 e2 s2 e3 hpr
              generalize 65536 + (p - 55296) * 1024 + (q - 56320) = X at *
              go_enter Tryz.func124, Tryz.ntmps124
              go_wp2_with fail
              refine ht.mono ?_; rintro r w1 ⟨rfl, hb1, hr1⟩
              go_wp2_with fail
              refine (hx _ hr1).mono ?_; rintro r w2 ⟨hb2, rfl, hr2⟩
              go_wp2_with fail
              refine (hpt _ ((hb1.trans hb2).tab HT.out HN.out)).mono ?_; rintro r w3 ⟨rfl, hb3⟩
              go_wp2_with fail
              refine (hn _ (hr2.below hb3)).mono ?_; rintro r w4 ⟨rfl, hb4, hr4⟩
              go_wp2_with fail
              refine (hx2 _ hr4).mono ?_; rintro r w5 ⟨hb5, rfl, hr5⟩
              go_wp2_with fail
              refine (hpo _ (((((hb1.trans hb2).below hb3).trans hb4).trans hb5).tab HT.out HN.out)).mono ?_; rintro r w6 ⟨rfl, rfl⟩
              go_wp2_with fail
              rw [HP.out, HE.out]
              exact ⟨(((hb1.trans hb2).below hb3).trans hb4).trans hb5, rfl, hr5⟩
            · have hpo := fun w => pair_bad p q w (by omega)
              have HE : Hid (unicodeL l = none) := hid_intro (by
                unfold unicodeL; simp only [s1, e1, e2, s2, e3, Bool.false_eq_true, reduceIte, pairO]
                rw [if_neg hpr])
              clear h s1 r1 e1 i123 e2 s2 e3 hpr
              go_enter Tryz.func124, Tryz.ntmps124
              go_wp2_with fail
              refine ht.mono ?_; rintro r w1 ⟨rfl, hb1, hr1⟩
              go_wp2_with fail
              refine (hx _ hr1).mono ?_; rintro r w2 ⟨hb2, rfl, hr2⟩
              go_wp2_with fail
              refine (hpt _ ((hb1.trans hb2).tab HT.out HN.out)).mono ?_; rintro r w3 ⟨rfl, hb3⟩
              go_wp2_with fail
              refine (hn _ (hr2.below hb3)).mono ?_; rintro r w4 ⟨rfl, hb4, hr4⟩
              go_wp2_with fail
              refine (hx2 _ hr4).mono ?_; rintro r w5 ⟨hb5, rfl, hr5⟩
              go_wp2_with fail
              refine (hpo _).mono ?_; rintro r w6 ⟨rfl, rfl⟩
              go_wp2_with fail
              refine ⟨rfl, ?_⟩
              rw [HP.out, HE.out]
              exact ⟨(((hb1.trans hb2).below hb3).trans hb4).trans hb5, rfl⟩
      · rw [e2] at hpt
        have HE : Hid (unicodeL l = some (p, l1)) := hid_intro (by unfold unicodeL; simp only [s1, e1, e2, Bool.false_eq_true, reduceIte])
        clear h s1 r1 e1 i123 e2
        go_enter Tryz.func124, Tryz.ntmps124
        go_wp2_with fail
        refine ht.mono ?_; rintro r w1 ⟨rfl, hb1, hr1⟩
        go_wp2_with fail
        refine (hx _ hr1).mono ?_; rintro r w2 ⟨hb2, rfl, hr2⟩
        go_wp2_with fail
        refine (hpt _ ((hb1.trans hb2).tab HT.out HN.out)).mono ?_; rintro r w3 ⟨rfl, hb3⟩
        go_wp2_with fail
        rw [HP.out, HE.out]
        exact ⟨(hb1.trans hb2).below hb3, rfl, hr2.below hb3⟩
  · have r1 : rest [123] l = l.drop 1 := by unfold rest; rw [s1]; rfl
    rw [s1, r1] at ht
    have hbr := fun w (hT : Tab w) (h : RD w rb (l.drop 1) g) => braced_any w rb (l.drop 1) g hT HN.out h
    have HE : Hid (unicodeL l = bracedL (l.drop 1)) := hid_intro (by unfold unicodeL; simp only [s1, reduceIte])
    cases e1 : bracedL (l.drop 1) with
    | none =>
      rw [e1] at hbr HE
      clear h s1 r1 e1 i123
      go_enter Tryz.func124, Tryz.ntmps124
      go_wp2_with fail
      refine ht.mono ?_; rintro r w1 ⟨rfl, hb1, hr1⟩
      go_wp2_with fail
      refine (hbr _ (hb1.tab HT.out HN.out) hr1).mono ?_; rintro r w2 ⟨hb2, rfl⟩
      go_wp2_with fail
      refine ⟨rfl, ?_⟩
      rw [HP.out, HE.out]
      exact ⟨hb1.trans hb2, rfl⟩
    | some y =>
      obtain ⟨p, l2⟩ := y
      rw [e1] at hbr HE
      clear h s1 r1 e1 i123
      go_enter Tryz.func124, Tryz.ntmps124
      go_wp2_with fail
      refine ht.mono ?_; rintro r w1 ⟨rfl, hb1, hr1⟩
      go_wp2_with fail
      refine (hbr _ (hb1.tab HT.out HN.out) hr1).mono ?_; rintro r w2 ⟨hb2, rfl, hr2⟩
      go_wp2_with fail
      rw [HP.out, HE.out]
      exact ⟨hb1.trans hb2, rfl, hr2⟩
end Go.Proofs.YtppilokmgdpnnaaGreatDoor
