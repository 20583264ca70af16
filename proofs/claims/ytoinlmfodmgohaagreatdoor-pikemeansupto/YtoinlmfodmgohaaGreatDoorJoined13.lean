/-
  Code points by their number: isPoint, braced, unicode, escaped. Conditions: the table of greatest code points holds its four numbers.
  (*reader).escaped: the rest of an escape that stands for one number. Conditions: the table of greatest code points holds its four numbers.
-/
import Derived.Test.YtoinlmfodmgohaaGreatDoorJoined11
import Derived.Test.YtoinlmfodmgohaaGreatDoorJoined12
namespace Go.Proofs.YtoinlmfodmgohaaGreatDoor
open Go.RowKit
attribute [local go_sem] setCell_drewN alloc_drewN

theorem hexG1_bd2 {l l' : List Int} {p : Int} (h : hexG 1 0 l = some (p, l')) : 0 ≤ p ∧ p ≤ 15 := by
  cases l with
  | nil => simp [hexG] at h
  | cons c l =>
    simp only [hexG] at h
    cases hd : hexD c with
    | none => rw [hd] at h; simp at h
    | some d =>
      rw [hd] at h
      have := hexD_bd hd
      simp only [Option.some.injEq, Prod.mk.injEq] at h
      omega
theorem hexG1_bd {l l' : List Int} {p : Int} (h : hexG 1 0 l = some (p, l')) : 0 ≤ p ∧ p ≤ 1114111 := by
  have := hexG1_bd2 h; omega
theorem isPt_ptB (p : Int) : isPt p = ptB p := by
  unfold isPt ptB
  rw [Bool.eq_iff_iff]
  simp only [Bool.or_eq_true, Bool.and_eq_true, decide_eq_true_eq]
  omega
set_option maxHeartbeats 400000 in
theorem isPt_any (p : Int) (w : World) (hT : Tab w) : Calls Tryz.prog 179 #[.int .i64 p] w fun r w' => r = .returned (.bool (isPt p)) ∧ Below w.heap.size w w' := by
  rw [isPt_ptB]
  cases hp : ptB p
  · have h := put_bad (.slice none 0 0) p w hT hp
    clear hp hT
    go_enter Tryz.func179, Tryz.ntmps179
    go_wp2_with (go_at_call 182; refine h.mono ?_; rintro r w1 ⟨rfl, rfl⟩)
    go_ret
    exact ⟨rfl, Below.refl _ _⟩
  · have h := put_ok (.slice none 0 0) 0 (fun _ => 0) p w hT hp (Or.inl ⟨rfl, none, 0, rfl, fun _ => rfl⟩) (by omega)
    unfold PutOk at h
    clear hp hT
    go_enter Tryz.func179, Tryz.ntmps179
    go_wp2_with (go_at_call 182; refine h.mono ?_; rintro r w1 ⟨v, rfl, hv, hb⟩)
    go_ret
    exact ⟨rfl, hb⟩

set_option maxRecDepth 100000 in
set_option maxHeartbeats 1600000 in
theorem braced_any (w : World) (rb : Nat) (l : List Int) (g : Int) (hT : Tab w) (hrb : ¬ 0 = rb) (h : RD w rb l g) :
    Calls Tryz.prog 178 #[.pointer (some ⟨rb, 0, none⟩)] w (IntR (bracedL l) rb g w) := by
  obtain ⟨P, hP⟩ : ∃ P, P = IntR (bracedL l) rb g w := ⟨_, rfl⟩
  rw [← hP]
  have HP := hid_intro hP
  clear hP
  have hx := hex_any w rb l g 1 (by omega) h
  cases e1 : hexG 1 0 l with
  | none =>
    rw [e1] at hx
    have HE : Hid (bracedL l = none) := hid_intro (by unfold bracedL; rw [e1])
    clear h e1
    go_enter Tryz.func178, Tryz.ntmps178
    go_wp2_with fail
    refine hx.mono ?_; rintro r w1 ⟨hb1, rfl⟩
    go_wp2_with fail
    refine ⟨rfl, ?_⟩
    rw [HP.out, HE.out]
    exact ⟨hb1, rfl⟩
  | some y =>
    obtain ⟨p0, l1⟩ := y
    rw [e1] at hx
    have HE : Hid (bracedL l = bracedG (l1.length + 1) p0 l1) := hid_intro (by unfold bracedL; rw [e1])
    have HC : Hid (0 ≤ p0 ∧ p0 ≤ 1114111) := hid_intro (hexG1_bd e1)
    have HT := hid_intro hT
    have HN := hid_intro hrb
    clear h e1 hT hrb
    go_enter Tryz.func178, Tryz.ntmps178
    go_wp2_with fail
    refine hx.mono ?_; rintro r w1 ⟨hb1, rfl, hr1⟩
    go_wp2_with fail
    have HB := hid_intro hb1
    have HR := hid_intro hr1
    clear hb1 hr1 hx
    go_loopg [3] l1.length (fun m s3 wr => ∃ (p : Int) (l' : List Int), m = l'.length ∧ s3 = .int .i64 p ∧ Hid (0 ≤ p ∧ p ≤ 1114111) ∧ Hid (bracedG (l'.length + 1) p l' = bracedL l) ∧ But (· = rb) w wr ∧ RD wr rb l' g)
    case atStart => exact ⟨p0, l1, rfl, rfl, HC, HE.out.symm, HB.out, HR.out⟩
    case round =>
      clear HB HR HC HE
      obtain ⟨p, l', rfl, rfl, HC, HG, hb, hR⟩ := hrel
      have ht := take_any wr rb l' g ⟨#[125]⟩ (by decide) hR
      rw [i125] at ht
      obtain ⟨p0', p1'⟩ := HC.out
      have HTr : Hid (Tab wr) := hid_intro (hb.tab HT.out HN.out)
      cases s1 : startsW [125] l'
      · have r1 : rest [125] l' = l' := by unfold rest; rw [s1]; rfl
        rw [s1, r1] at ht
        have hx := fun w (h : RD w rb l' g) => hex_any w rb l' g 1 (by omega) h
        cases e1 : hexG 1 0 l' with
        | none =>
          have HE : Hid (bracedL l = none) := hid_intro (by rw [← HG.out]; simp only [bracedG, s1, e1, Bool.false_eq_true, reduceIte])
          rw [e1] at hx
          clear HG s1 r1 e1 hR
          go_wp2_with fail
          refine ht.mono ?_; rintro r w1 ⟨rfl, hb1, hr1⟩
          go_wp2_with fail
          refine (hx _ hr1).mono ?_; rintro r w2 ⟨hb2, rfl⟩
          go_wp2_with fail
          refine ⟨rfl, ?_⟩
          rw [HP.out, HE.out]
          exact ⟨(hb.trans hb1).trans hb2, rfl⟩
        | some y =>
          obtain ⟨d, l2⟩ := y
          rw [e1] at hx
          have hd := hexG1_bd2 e1
          have hlen := hexG_len _ _ _ _ e1
          simp only at hlen
          obtain ⟨d0, d1⟩ := hd
          by_cases hgt : p * 16 + d > 1114111
          · have HE : Hid (bracedL l = none) := hid_intro (by rw [← HG.out]; simp only [bracedG, s1, e1, Bool.false_eq_true, reduceIte]; rw [if_pos hgt])
            have hg2 : (1114111 : Int) < p * 16 + d := hgt
            clear HG s1 r1 e1 hR hgt hlen
            go_wp2_with fail
            refine ht.mono ?_; rintro r w1 ⟨rfl, hb1, hr1⟩
            go_wp2_with fail
            refine (hx _ hr1).mono ?_; rintro r w2 ⟨hb2, rfl, hr2⟩
            go_wp2_with fail
            refine ⟨rfl, ?_⟩
            rw [HP.out, HE.out]
            exact ⟨(hb.trans hb1).trans hb2, rfl⟩
          · have HE : Hid (bracedG (l2.length + 1) (p * 16 + d) l2 = bracedL l) := hid_intro (by
              rw [← HG.out, ← hlen]
              conv => rhs; unfold bracedG
              simp only [s1, e1, Bool.false_eq_true, reduceIte]
              rw [if_neg hgt])
            have hg2 : ¬ (1114111 : Int) < p * 16 + d := hgt
            have HC2 : Hid (0 ≤ p * 16 + d ∧ p * 16 + d ≤ 1114111) := hid_intro (by omega)
            have HL := hid_intro hlen
            clear HG s1 r1 e1 hR hgt hlen
            go_wp2_with fail
            refine ht.mono ?_; rintro r w1 ⟨rfl, hb1, hr1⟩
            go_wp2_with fail
            refine (hx _ hr1).mono ?_; rintro r w2 ⟨hb2, rfl, hr2⟩
            go_wp2_with fail
            go_roundg l2.length
            case measure => have := HL.out; omega
            case rel => exact ⟨_, l2, rfl, rfl, HC2, HE, (hb.trans hb1).trans hb2, hr2⟩
      · have r1 : rest [125] l' = l'.drop 1 := by unfold rest; rw [s1]; rfl
        rw [s1, r1] at ht
        have hpt := fun w (h : Tab w) => isPt_any p w h
        cases e1 : isPt p
        · have HE : Hid (bracedL l = none) := hid_intro (by rw [← HG.out]; simp only [bracedG, s1, e1, Bool.false_eq_true, reduceIte])
          rw [e1] at hpt
          clear HG s1 r1 e1 hR
          go_wp2_with fail
          refine ht.mono ?_; rintro r w1 ⟨rfl, hb1, hr1⟩
          go_wp2_with fail
          refine (hpt _ (hb1.tab HTr.out HN.out)).mono ?_; rintro r w2 ⟨rfl, hb2⟩
          go_wp2_with fail
          refine ⟨rfl, ?_⟩
          rw [HP.out, HE.out]
          exact ⟨(hb.trans hb1).below hb2, rfl⟩
        · have HE : Hid (bracedL l = some (p, l'.drop 1)) := hid_intro (by rw [← HG.out]; simp only [bracedG, s1, e1, reduceIte])
          rw [e1] at hpt
          clear HG s1 r1 e1 hR
          go_wp2_with fail
          refine ht.mono ?_; rintro r w1 ⟨rfl, hb1, hr1⟩
          go_wp2_with fail
          refine (hpt _ (hb1.tab HTr.out HN.out)).mono ?_; rintro r w2 ⟨rfl, hb2⟩
          go_wp2_with fail
          rw [HP.out, HE.out]
          exact ⟨(hb.trans hb1).below hb2, rfl, hr1.below hb2⟩

set_option maxRecDepth 100000 in
set_option maxHeartbeats 1600000 in
theorem unicode_any (w : World) (rb : Nat) (l : List Int) (g : Int) (hT : Tab w) (hrb : ¬ 0 = rb) (h : RD w rb l g) :
    Calls Tryz.prog 171 #[.pointer (some ⟨rb, 0, none⟩)] w (IntR (unicodeL l) rb g w) := by
  obtain ⟨P, hP⟩ : ∃ P, P = IntR (unicodeL l) rb g w := ⟨_, rfl⟩
  rw [← hP]
  have HP := hid_intro hP
  have HT := hid_intro hT
  have HN := hid_intro hrb
  clear hP hT hrb
  have ht := take_any w rb l g ⟨#[123]⟩ (by decide) h
  have i123 : ints ⟨#[123]⟩ = [123] := rfl
  rw [i123] at ht
  cases s1 : startsW [123] l
  · have r1 : rest [123] l = l := by unfold rest; rw [s1]; rfl
    rw [s1, r1] at ht
    have hx := fun w (h : RD w rb l g) => hex_any w rb l g 4 (by omega) h
    cases e1 : hexG 4 0 l with
    | none =>
      rw [e1] at hx
      have HE : Hid (unicodeL l = none) := hid_intro (by unfold unicodeL; simp only [s1, e1, Bool.false_eq_true, reduceIte])
      clear h s1 r1 e1 i123
      go_enter Tryz.func171, Tryz.ntmps171
      go_wp2_with fail
      refine ht.mono ?_; rintro r w1 ⟨rfl, hb1, hr1⟩
      go_wp2_with fail
      refine (hx _ hr1).mono ?_; rintro r w2 ⟨hb2, rfl⟩
      go_wp2_with fail
      refine ⟨rfl, ?_⟩
      rw [HP.out, HE.out]
      exact ⟨hb1.trans hb2, rfl⟩
    | some y =>
      obtain ⟨p, l1⟩ := y
      rw [e1] at hx
      have hpt := fun w (h : Tab w) => isPt_any p w h
      cases e2 : isPt p
      · rw [e2] at hpt
        cases s2 : startsW [92, 117] l1
        · have hn := fun w (h : RD w rb l1 g) => need_no w rb l1 g ⟨#[92, 117]⟩ (by decide) h s2
          have HE : Hid (unicodeL l = none) := hid_intro (by unfold unicodeL; simp only [s1, e1, e2, s2, Bool.false_eq_true, reduceIte])
          clear h s1 r1 e1 i123 e2 s2
          go_enter Tryz.func171, Tryz.ntmps171
          go_wp2_with fail
          refine ht.mono ?_; rintro r w1 ⟨rfl, hb1, hr1⟩
          go_wp2_with fail
          refine (hx _ hr1).mono ?_; rintro r w2 ⟨hb2, rfl, hr2⟩
          go_wp2_with fail
          refine (hpt _ ((hb1.trans hb2).tab HT.out HN.out)).mono ?_; rintro r w3 ⟨rfl, hb3⟩
          go_wp2_with fail
          refine (hn _ (hr2.below hb3)).mono ?_; rintro r w4 ⟨rfl, hb4⟩
          go_wp2_with fail
          refine ⟨rfl, ?_⟩
          rw [HP.out, HE.out]
          exact ⟨((hb1.trans hb2).below hb3).trans hb4, rfl⟩
        · have hn := fun w (h : RD w rb l1 g) => need_ok w rb l1 g ⟨#[92, 117]⟩ (by decide) h s2
          have hx2 := fun w (h : RD w rb (l1.drop 2) g) => hex_any w rb (l1.drop 2) g 4 (by omega) h
          cases e3 : hexG 4 0 (l1.drop 2) with
          | none =>
            rw [e3] at hx2
            have HE : Hid (unicodeL l = none) := hid_intro (by unfold unicodeL; simp only [s1, e1, e2, s2, e3, Bool.false_eq_true, reduceIte])
            clear h s1 r1 e1 i123 e2 s2 e3
            go_enter Tryz.func171, Tryz.ntmps171
            go_wp2_with fail
            refine ht.mono ?_; rintro r w1 ⟨rfl, hb1, hr1⟩
            go_wp2_with fail
            refine (hx _ hr1).mono ?_; rintro r w2 ⟨hb2, rfl, hr2⟩
            go_wp2_with fail
            refine (hpt _ ((hb1.trans hb2).tab HT.out HN.out)).mono ?_; rintro r w3 ⟨rfl, hb3⟩
            go_wp2_with fail
            refine (hn _ (hr2.below hb3)).mono ?_; rintro r w4 ⟨rfl, hb4, hr4⟩
            go_wp2_with fail
            refine (hx2 _ hr4).mono ?_; rintro r w5 ⟨hb5, rfl⟩
            go_wp2_with fail
            refine ⟨rfl, ?_⟩
            rw [HP.out, HE.out]
            exact ⟨(((hb1.trans hb2).below hb3).trans hb4).trans hb5, rfl⟩
          | some y =>
            obtain ⟨q, l2⟩ := y
            rw [e3] at hx2
            by_cases hpr : (55296 ≤ p ∧ p ≤ 56319) ∧ 56320 ≤ q ∧ q ≤ 57343
            · have hpo := fun w (hT : Tab w) => pair_ok p q w hT hpr.1.1 hpr.1.2 hpr.2.1 hpr.2.2
              have HE : Hid (unicodeL l = some (65536 + (p - 55296) * 1024 + (q - 56320), l2)) := hid_intro (by
                unfold unicodeL; simp only [s1, e1, e2, s2, e3, Bool.false_eq_true, reduceIte, pairO]
                rw [if_pos hpr])
              clear h s1 r1 e1 i123 e2 s2 e3 hpr
              generalize 65536 + (p - 55296) * 1024 + (q - 56320) = X at *
              go_enter Tryz.func171, Tryz.ntmps171
              go_wp2_with fail
              refine ht.mono ?_; rintro r w1 ⟨rfl, hb1, hr1⟩
              go_wp2_with fail
              refine (hx _ hr1).mono ?_; rintro r w2 ⟨hb2, rfl, hr2⟩
              go_wp2_with fail
              refine (hpt _ ((hb1.trans hb2).tab HT.out HN.out)).mono ?_; rintro r w3 ⟨rfl, hb3⟩
              go_wp2_with fail
              refine (hn _ (hr2.below hb3)).mono ?_; rintro r w4 ⟨rfl, hb4, hr4⟩
              go_wp2_with fail
              refine (hx2 _ hr4).mono ?_; rintro r w5 ⟨hb5, rfl, hr5⟩
              go_wp2_with fail
              refine (hpo _ (((((hb1.trans hb2).below hb3).trans hb4).trans hb5).tab HT.out HN.out)).mono ?_; rintro r w6 ⟨rfl, rfl⟩
              go_wp2_with fail
              rw [HP.out, HE.out]
              exact ⟨(((hb1.trans hb2).below hb3).trans hb4).trans hb5, rfl, hr5⟩
            · have hpo := fun w => pair_bad p q w (by omega)
              have HE : Hid (unicodeL l = none) := hid_intro (by
                unfold unicodeL; simp only [s1, e1, e2, s2, e3, Bool.false_eq_true, reduceIte, pairO]
                rw [if_neg hpr])
              clear h s1 r1 e1 i123 e2 s2 e3 hpr
              go_enter Tryz.func171, Tryz.ntmps171
              go_wp2_with fail
              refine ht.mono ?_; rintro r w1 ⟨rfl, hb1, hr1⟩
              go_wp2_with fail
              refine (hx _ hr1).mono ?_; rintro r w2 ⟨hb2, rfl, hr2⟩
              go_wp2_with fail
              refine (hpt _ ((hb1.trans hb2).tab HT.out HN.out)).mono ?_; rintro r w3 ⟨rfl, hb3⟩
              go_wp2_with fail
              refine (hn _ (hr2.below hb3)).mono ?_; rintro r w4 ⟨rfl, hb4, hr4⟩
              go_wp2_with fail
              refine (hx2 _ hr4).mono ?_; rintro r w5 ⟨hb5, rfl, hr5⟩
              go_wp2_with fail
              refine (hpo _).mono ?_; rintro r w6 ⟨rfl, rfl⟩
              go_wp2_with fail
              refine ⟨rfl, ?_⟩
              rw [HP.out, HE.out]
              exact ⟨(((hb1.trans hb2).below hb3).trans hb4).trans hb5, rfl⟩
      · rw [e2] at hpt
        have HE : Hid (unicodeL l = some (p, l1)) := hid_intro (by unfold unicodeL; simp only [s1, e1, e2, Bool.false_eq_true, reduceIte])
        clear h s1 r1 e1 i123 e2
        go_enter Tryz.func171, Tryz.ntmps171
        go_wp2_with fail
        refine ht.mono ?_; rintro r w1 ⟨rfl, hb1, hr1⟩
        go_wp2_with fail
        refine (hx _ hr1).mono ?_; rintro r w2 ⟨hb2, rfl, hr2⟩
        go_wp2_with fail
        refine (hpt _ ((hb1.trans hb2).tab HT.out HN.out)).mono ?_; rintro r w3 ⟨rfl, hb3⟩
        go_wp2_with fail
        rw [HP.out, HE.out]
        exact ⟨(hb1.trans hb2).below hb3, rfl, hr2.below hb3⟩
  · have r1 : rest [123] l = l.drop 1 := by unfold rest; rw [s1]; rfl
    rw [s1, r1] at ht
    have hbr := fun w (hT : Tab w) (h : RD w rb (l.drop 1) g) => braced_any w rb (l.drop 1) g hT HN.out h
    have HE : Hid (unicodeL l = bracedL (l.drop 1)) := hid_intro (by unfold unicodeL; simp only [s1, reduceIte])
    cases e1 : bracedL (l.drop 1) with
    | none =>
      rw [e1] at hbr HE
      clear h s1 r1 e1 i123
      go_enter Tryz.func171, Tryz.ntmps171
      go_wp2_with fail
      refine ht.mono ?_; rintro r w1 ⟨rfl, hb1, hr1⟩
      go_wp2_with fail
      refine (hbr _ (hb1.tab HT.out HN.out) hr1).mono ?_; rintro r w2 ⟨hb2, rfl⟩
      go_wp2_with fail
      refine ⟨rfl, ?_⟩
      rw [HP.out, HE.out]
      exact ⟨hb1.trans hb2, rfl⟩
    | some y =>
      obtain ⟨p, l2⟩ := y
      rw [e1] at hbr HE
      clear h s1 r1 e1 i123
      go_enter Tryz.func171, Tryz.ntmps171
      go_wp2_with fail
      refine ht.mono ?_; rintro r w1 ⟨rfl, hb1, hr1⟩
      go_wp2_with fail
      refine (hbr _ (hb1.tab HT.out HN.out) hr1).mono ?_; rintro r w2 ⟨hb2, rfl, hr2⟩
      go_wp2_with fail
      rw [HP.out, HE.out]
      exact ⟨hb1.trans hb2, rfl, hr2⟩
end Go.Proofs.YtoinlmfodmgohaaGreatDoor

namespace Go.Proofs.YtoinlmfodmgohaaGreatDoor
open Go.RowKit
attribute [local go_sem] setCell_drewN alloc_drewN

theorem ne_b {c k : Int} (h : ¬ c = k) : (c == k) = false := by rw [beq_eq_false_iff_ne]; exact h
set_option maxRecDepth 100000 in
set_option maxHeartbeats 3200000 in
theorem escaped_any (w : World) (rb : Nat) (c : Int) (l : List Int) (g : Int) (hT : Tab w) (hrb : ¬ 0 = rb) (hc0 : 0 ≤ c) (hc1 : c ≤ 1114111) (h : RD w rb l g) :
    Calls Tryz.prog 159 #[.pointer (some ⟨rb, 0, none⟩), .int .i64 c] w (IntR (escapedL c l) rb g w) := by
  obtain ⟨P, hP⟩ : ∃ P, P = IntR (escapedL c l) rb g w := ⟨_, rfl⟩
  rw [← hP]
  have HP := hid_intro hP
  clear hP
  by_cases h116 : c = 116
  · subst h116
    have HE : Hid (escapedL 116 l = some (9, l)) := hid_intro rfl
    clear hT hrb hc0 hc1
    go_enter Tryz.func159, Tryz.ntmps159
    go_wp2_with fail
    rw [HP.out, HE.out]
    exact ⟨But.refl _ _, rfl, h⟩
  have b116 := ne_b h116
  by_cases h110 : c = 110
  · subst h110
    have HE : Hid (escapedL 110 l = some (10, l)) := hid_intro rfl
    clear hT hrb hc0 hc1
    go_enter Tryz.func159, Tryz.ntmps159
    go_wp2_with fail
    rw [HP.out, HE.out]
    exact ⟨But.refl _ _, rfl, h⟩
  have b110 := ne_b h110
  by_cases h118 : c = 118
  · subst h118
    have HE : Hid (escapedL 118 l = some (11, l)) := hid_intro rfl
    clear hT hrb hc0 hc1
    go_enter Tryz.func159, Tryz.ntmps159
    go_wp2_with fail
    rw [HP.out, HE.out]
    exact ⟨But.refl _ _, rfl, h⟩
  have b118 := ne_b h118
  by_cases h102 : c = 102
  · subst h102
    have HE : Hid (escapedL 102 l = some (12, l)) := hid_intro rfl
    clear hT hrb hc0 hc1
    go_enter Tryz.func159, Tryz.ntmps159
    go_wp2_with fail
    rw [HP.out, HE.out]
    exact ⟨But.refl _ _, rfl, h⟩
  have b102 := ne_b h102
  by_cases h114 : c = 114
  · subst h114
    have HE : Hid (escapedL 114 l = some (13, l)) := hid_intro rfl
    clear hT hrb hc0 hc1
    go_enter Tryz.func159, Tryz.ntmps159
    go_wp2_with fail
    rw [HP.out, HE.out]
    exact ⟨But.refl _ _, rfl, h⟩
  have b114 := ne_b h114
  by_cases h48 : c = 48
  · subst h48
    have hf := nought_any w rb l g h
    have HE : Hid (escapedL 48 l = noughtL l) := hid_intro rfl
    cases e1 : noughtL l with
    | none =>
      rw [e1] at hf HE
      clear hT hrb hc0 hc1 h e1
      go_enter Tryz.func159, Tryz.ntmps159
      go_wp2_with fail
      refine hf.mono ?_; rintro r w1 ⟨hb1, rfl⟩
      go_wp2_with fail
      refine ⟨rfl, ?_⟩
      rw [HP.out, HE.out]
      exact ⟨hb1, rfl⟩
    | some y =>
      obtain ⟨p, l2⟩ := y
      rw [e1] at hf HE
      clear hT hrb hc0 hc1 h e1
      go_enter Tryz.func159, Tryz.ntmps159
      go_wp2_with fail
      refine hf.mono ?_; rintro r w1 ⟨hb1, rfl, hr1⟩
      go_wp2_with fail
      rw [HP.out, HE.out]
      exact ⟨hb1, rfl, hr1⟩
  have b48 := ne_b h48
  by_cases h99 : c = 99
  · subst h99
    have hf := control_any w rb l g h
    have HE : Hid (escapedL 99 l = controlL l) := hid_intro rfl
    cases e1 : controlL l with
    | none =>
      rw [e1] at hf HE
      clear hT hrb hc0 hc1 h e1
      go_enter Tryz.func159, Tryz.ntmps159
      go_wp2_with fail
      refine hf.mono ?_; rintro r w1 ⟨hb1, rfl⟩
      go_wp2_with fail
      refine ⟨rfl, ?_⟩
      rw [HP.out, HE.out]
      exact ⟨hb1, rfl⟩
    | some y =>
      obtain ⟨p, l2⟩ := y
      rw [e1] at hf HE
      clear hT hrb hc0 hc1 h e1
      go_enter Tryz.func159, Tryz.ntmps159
      go_wp2_with fail
      refine hf.mono ?_; rintro r w1 ⟨hb1, rfl, hr1⟩
      go_wp2_with fail
      rw [HP.out, HE.out]
      exact ⟨hb1, rfl, hr1⟩
  have b99 := ne_b h99
  by_cases h120 : c = 120
  · subst h120
    have hf := hex_any w rb l g 2 (by omega) h
    have HE : Hid (escapedL 120 l = hexG 2 0 l) := hid_intro rfl
    cases e1 : hexG 2 0 l with
    | none =>
      rw [e1] at hf HE
      clear hT hrb hc0 hc1 h e1
      go_enter Tryz.func159, Tryz.ntmps159
      go_wp2_with fail
      refine hf.mono ?_; rintro r w1 ⟨hb1, rfl⟩
      go_wp2_with fail
      refine ⟨rfl, ?_⟩
      rw [HP.out, HE.out]
      exact ⟨hb1, rfl⟩
    | some y =>
      obtain ⟨p, l2⟩ := y
      rw [e1] at hf HE
      clear hT hrb hc0 hc1 h e1
      go_enter Tryz.func159, Tryz.ntmps159
      go_wp2_with fail
      refine hf.mono ?_; rintro r w1 ⟨hb1, rfl, hr1⟩
      go_wp2_with fail
      rw [HP.out, HE.out]
      exact ⟨hb1, rfl, hr1⟩
  have b120 := ne_b h120
  by_cases h117 : c = 117
  · subst h117
    have hf := unicode_any w rb l g hT hrb h
    have HE : Hid (escapedL 117 l = unicodeL l) := hid_intro rfl
    cases e1 : unicodeL l with
    | none =>
      rw [e1] at hf HE
      clear hT hrb hc0 hc1 h e1
      go_enter Tryz.func159, Tryz.ntmps159
      go_wp2_with fail
      refine hf.mono ?_; rintro r w1 ⟨hb1, rfl⟩
      go_wp2_with fail
      refine ⟨rfl, ?_⟩
      rw [HP.out, HE.out]
      exact ⟨hb1, rfl⟩
    | some y =>
      obtain ⟨p, l2⟩ := y
      rw [e1] at hf HE
      clear hT hrb hc0 hc1 h e1
      go_enter Tryz.func159, Tryz.ntmps159
      go_wp2_with fail
      refine hf.mono ?_; rintro r w1 ⟨hb1, rfl, hr1⟩
      go_wp2_with fail
      rw [HP.out, HE.out]
      exact ⟨hb1, rfl, hr1⟩
  have b117 := ne_b h117
  have hcn := fun w => contains_b c w hc0 hc1
  have hw : IntKind.i32.wrap c = c := by simp [IntKind.wrap, IntKind.bits, IntKind.signed]; omega
  have HE0 : escapedL c l = if synS c = true then some (c, l) else none := by
    unfold escapedL
    rw [if_neg h116, if_neg h110, if_neg h118, if_neg h102, if_neg h114, if_neg h48, if_neg h99, if_neg h120, if_neg h117]
  cases e1 : synS c
  · rw [e1] at hcn HE0
    have HE : Hid (escapedL c l = none) := hid_intro HE0
    clear hT hrb hc0 hc1 h e1 HE0 h116 h110 h118 h102 h114 h48 h99 h120 h117
    go_enter Tryz.func159, Tryz.ntmps159
    go_wp2_with fail
    refine (hcn _).mono ?_; rintro r w1 ⟨rfl, hb1⟩
    go_wp2_with fail
    refine ⟨rfl, ?_⟩
    rw [HP.out, HE.out]
    exact ⟨But.ofBelow hb1, rfl⟩
  · rw [e1] at hcn HE0
    have HE : Hid (escapedL c l = some (c, l)) := hid_intro HE0
    clear hT hrb hc0 hc1 e1 HE0 h116 h110 h118 h102 h114 h48 h99 h120 h117
    go_enter Tryz.func159, Tryz.ntmps159
    go_wp2_with fail
    refine (hcn _).mono ?_; rintro r w1 ⟨rfl, hb1⟩
    go_wp2_with fail
    rw [HP.out, HE.out]
    exact ⟨But.ofBelow hb1, rfl, h.below hb1⟩
end Go.Proofs.YtoinlmfodmgohaaGreatDoor
