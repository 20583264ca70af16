/-
  (*reader).escape, mark; between. Conditions: the table of greatest code points holds its four numbers.
-/
import Derived.Test.YtppilokmgdpnnaaGreatDoorJoined14
import Derived.Test.YtppilokmgdpnnaaGreatDoorJoined17
namespace Go.Proofs.YtppilokmgdpnnaaGreatDoor
open Go.RowKit
attribute [local go_sem] setCell_drewN alloc_drewN

theorem RD.mem {w : World} {rb : Nat} {l : List Int} {g : Int} (h : RD w rb l g) : ∀ c ∈ l, 0 ≤ c ∧ c ≤ 1114111 := by
  obtain ⟨ao, n, cap, a, c0, c1, c2, fr, h1, h2, h3, h4, h5, h6⟩ := h
  exact h4
theorem RD.len {w : World} {rb : Nat} {l : List Int} {g : Int} (h : RD w rb l g) : l.length ≤ 4096 := by
  obtain ⟨ao, n, cap, a, c0, c1, c2, fr, h1, h2, h3, h4, h5, h6⟩ := h
  omega
theorem hexG_bd : ∀ (n : Nat) (acc : Int) (l : List Int) (x : Int × List Int), hexG n acc l = some x → 0 ≤ acc → 0 ≤ x.1 ∧ x.1 < (acc + 1) * 16 ^ n
  | 0, acc, l, x, h, h0 => by simp only [hexG, Option.some.injEq] at h; subst h; simp; omega
  | n + 1, acc, [], x, h, h0 => by simp [hexG] at h
  | n + 1, acc, c :: l, x, h, h0 => by
    simp only [hexG] at h
    split at h
    · simp at h
    · rename_i d hd
      have hb := hexD_bd hd
      have := hexG_bd n (acc * 16 + d) l x h (by omega)
      refine ⟨this.1, Int.lt_of_lt_of_le this.2 ?_⟩
      rw [Int.pow_succ, Int.mul_comm (16 ^ n) 16, ← Int.mul_assoc]
      exact Int.mul_le_mul_of_nonneg_right (by omega) (Int.le_of_lt (Int.pow_pos (by omega)))
theorem isPt_bd {p : Int} (h : isPt p = true) : 0 ≤ p ∧ p ≤ 1114111 := by
  simp only [isPt, Bool.or_eq_true, Bool.and_eq_true, decide_eq_true_eq] at h; omega
theorem bracedG_bd : ∀ (n : Nat) (p : Int) (l : List Int) (x : Int × List Int), bracedG n p l = some x → 0 ≤ x.1 ∧ x.1 ≤ 1114111
  | 0, p, l, x, h => by simp [bracedG] at h
  | n + 1, p, l, x, h => by
    simp only [bracedG] at h
    split at h
    · split at h
      · rename_i e; simp only [Option.some.injEq] at h; subst h; exact isPt_bd e
      · simp at h
    · split at h
      · simp at h
      · split at h
        · simp at h
        · exact bracedG_bd n _ _ x h
theorem unicodeL_bd (l : List Int) (x : Int × List Int) (h : unicodeL l = some x) : 0 ≤ x.1 ∧ x.1 ≤ 1114111 := by
  unfold unicodeL at h
  split at h
  · unfold bracedL at h
    split at h
    · simp at h
    · exact bracedG_bd _ _ _ _ h
  · split at h
    · simp at h
    · rename_i e
      split at h
      · rename_i e2; simp only [Option.some.injEq] at h; subst h; exact isPt_bd e2
      · split at h
        · split at h
          · simp at h
          · split at h
            · simp at h
            · rename_i e3
              simp only [Option.some.injEq] at h; subst h
              unfold pairO at e3
              split at e3
              · simp only [Option.some.injEq] at e3; simp only; omega
              · simp at e3
        · simp at h
theorem escapedL_bd (c : Int) (l : List Int) (x : Int × List Int) (hc : 0 ≤ c ∧ c ≤ 1114111) (h : escapedL c l = some x) : 0 ≤ x.1 ∧ x.1 ≤ 1114111 := by
  unfold escapedL at h
  repeat' (split at h)
  all_goals first
    | (simp at h; done)
    | exact unicodeL_bd l x h
    | (have := hexG_bd _ _ _ _ h (by omega); have e : (16 : Int) ^ 2 = 256 := by decide
       rw [e] at this; omega)
    | (unfold noughtL at h; split at h <;> first | (simp at h; done) | (simp only [Option.some.injEq] at h; subst h; simp))
    | (cases l with
       | nil => simp [controlL] at h
       | cons c2 l2 =>
         simp only [controlL] at h
         split at h
         · simp only [Option.some.injEq] at h; subst h; simp only; omega
         · simp at h)
    | (simp only [Option.some.injEq] at h; subst h; simp only; omega)
/-- A mark and what is left, or the panic. -/
def MarkR (x : Option (Mark × List Int)) (rb : Nat) (g : Int) (w : World) (r : Ending) (w' : World) : Prop :=
  But (· = rb) w w' ∧ match x with
    | none => r = stopX
    | some y => ∃ v, r = .returned (mkV v y.1.named) ∧ RI w' (· < w.heap.size) y.1.ranges v ∧ RD w' rb y.2 g

set_option maxRecDepth 100000 in
set_option maxHeartbeats 1600000 in
theorem escape_any (w : World) (rb : Nat) (l : List Int) (g : Int) (hT : Tab w) (hrb : ¬ 0 = rb) (h : RD w rb l g) :
    Calls Tryz.prog 74 #[.pointer (some ⟨rb, 0, none⟩)] w (MarkR (escapeL l) rb g w) := by
  obtain ⟨P, hP⟩ : ∃ P, P = MarkR (escapeL l) rb g w := ⟨_, rfl⟩
  rw [← hP]
  have HP := hid_intro hP
  have HT := hid_intro hT
  have HN := hid_intro hrb
  have hrl := h.lt
  have hmem := h.mem
  have hR0 : RD (w.alloc (.cells #[.slice none 0 0, .bool false] 95)) rb l g := h.below (vb_a (Below.refl _ _) _)
  have hB0 : But (· = rb) w (w.alloc (.cells #[.slice none 0 0, .bool false] 95)) := (But.refl _ _).alloc _
  have k0 : Bk (w.alloc (.cells #[.slice none 0 0, .bool false] 95)) w.heap.size #[.slice none 0 0, .bool false] := Bk.new _ _ _
  have hnr : ¬ w.heap.size = rb := by omega
  clear hP hT hrb h
  cases l with
  | nil =>
    have hn := next_no _ rb g hR0
    have HE : Hid (escapeL [] = none) := hid_intro rfl
    go_enter Tryz.func74, Tryz.ntmps74
    go_wp2_with fail
    refine hn.mono ?_; rintro r w1 ⟨rfl, hb1⟩
    go_wp2_with fail
    refine ⟨rfl, ?_⟩
    rw [HP.out, HE.out]
    exact ⟨hB0.trans hb1, rfl⟩
  | cons c l =>
    have hn := next_ok _ rb c l g hR0
    have hcb := hmem c (by simp)
    have hnm := fun w => namedBy_any c w
    cases e1 : namedBy c with
    | some s =>
      rw [e1] at hnm
      have HE : Hid (escapeL (c :: l) = some (.set s, l)) := hid_intro (by simp only [escapeL, e1])
      clear e1 hR0 hmem hcb
      go_enter Tryz.func74, Tryz.ntmps74
      go_wp2_with fail
      refine hn.mono ?_; rintro r w1 ⟨rfl, hb1, hr1⟩
      go_wp2_with fail
      refine (hnm _).mono ?_; rintro r w2 ⟨hb2, v2, rfl, hri2⟩
      have hX : w.heap.size < w1.heap.size := Nat.lt_of_lt_of_le (by simp) hb1.size
      have hXw : ∀ b, b < w.heap.size → b < w1.heap.size := fun b hb => by omega
      have kk := ((k0.but hb1 hnr).bel hb2)
      obtain ⟨c0, c1⟩ := kk.c2
      obtain ⟨z0, z1⟩ := kk.z2
      have HBW := hid_intro ((hB0.trans hb1).below hb2)
      have HRI := hid_intro hri2
      have HRD := hid_intro (hr1.below hb2)
      obtain ⟨ao, cap, hsh, _⟩ := HRI.out.shape
      generalize hnn : List.length _ = nn at hsh
      subst hsh
      clear kk
      go_wp2_with fail
      refine bodyPost_ret (v := .agg #[.slice ao nn cap, .bool true]) (by simp [results, Tryz.results74, go_sem, c0, c1]) rfl ?_
      rw [HP.out, HE.out]
      refine ⟨(HBW.out.set (Or.inr (Nat.le_refl _)) _).set (Or.inr (Nat.le_refl _)) _, _, rfl, ((HRI.out.set hX _).set hX _).weak hXw, (HRD.out.away hrl _).away hrl _⟩
    | none =>
      rw [e1] at hnm
      have hes := fun w (hT : Tab w) (h : RD w rb l g) => escaped_any w rb c l g hT HN.out hcb.1 hcb.2 h
      cases e2 : escapedL c l with
      | none =>
        rw [e2] at hes
        have HE : Hid (escapeL (c :: l) = none) := hid_intro (by simp only [escapeL, e1, e2])
        clear e1 e2 hR0 hmem hcb
        go_enter Tryz.func74, Tryz.ntmps74
        go_wp2_with fail
        refine hn.mono ?_; rintro r w1 ⟨rfl, hb1, hr1⟩
        go_wp2_with fail
        refine (hnm _).mono ?_; rintro r w2 ⟨hb2, rfl⟩
        go_wp2_with fail
        refine (hes _ (((hB0.trans hb1).below hb2).tab HT.out HN.out) (hr1.below hb2)).mono ?_; rintro r w3 ⟨hb3, rfl⟩
        go_wp2_with fail
        refine ⟨rfl, ?_⟩
        rw [HP.out, HE.out]
        exact ⟨((hB0.trans hb1).below hb2).trans hb3, rfl⟩
      | some y =>
        obtain ⟨p, l2⟩ := y
        rw [e2] at hes
        have hpb := escapedL_bd c l _ hcb e2
        have hsg := fun w => singleR_any p (I64_of (by simp only at hpb; omega) (by simp only at hpb; omega)) w
        have HE : Hid (escapeL (c :: l) = some (.one p, l2)) := hid_intro (by simp only [escapeL, e1, e2])
        clear e1 e2 hR0 hmem hcb hpb
        go_enter Tryz.func74, Tryz.ntmps74
        go_wp2_with fail
        refine hn.mono ?_; rintro r w1 ⟨rfl, hb1, hr1⟩
        go_wp2_with fail
        refine (hnm _).mono ?_; rintro r w2 ⟨hb2, rfl⟩
        go_wp2_with fail
        refine (hes _ (((hB0.trans hb1).below hb2).tab HT.out HN.out) (hr1.below hb2)).mono ?_; rintro r w3 ⟨hb3, rfl, hr3⟩
        go_wp2_with fail
        refine (hsg _).mono ?_; rintro r w4 ⟨v4, rfl, hri4, hb4⟩
        have hX : w.heap.size < w3.heap.size := Nat.lt_of_lt_of_le (by simp) (Nat.le_trans hb1.size (Nat.le_trans hb2.size hb3.size))
        have hXw : ∀ b, b < w.heap.size → b < w3.heap.size := fun b hb => by omega
        simp only [mkV]
        have kk := ((((k0.but hb1 hnr).bel hb2).but hb3 hnr).bel hb4)
        obtain ⟨c0, c1⟩ := kk.c2
        obtain ⟨z0, z1⟩ := kk.z2
        have HBW := hid_intro ((((hB0.trans hb1).below hb2).trans hb3).below hb4)
        have HRI := hid_intro hri4
        have HRD := hid_intro (hr3.below hb4)
        obtain ⟨ao, cap, hsh, _⟩ := HRI.out.shape
        generalize hnn : List.length _ = nn at hsh
        subst hsh
        clear kk
        go_wp2_with fail
        refine bodyPost_ret (v := .agg #[.slice ao nn cap, .bool false]) (by simp [results, Tryz.results74, go_sem, c0, c1]) rfl ?_
        rw [HP.out, HE.out]
        refine ⟨(HBW.out.set (Or.inr (Nat.le_refl _)) _).set (Or.inr (Nat.le_refl _)) _, _, rfl, ((HRI.out.set hX _).set hX _).weak hXw, (HRD.out.away hrl _).away hrl _⟩

set_option maxRecDepth 100000 in
set_option maxHeartbeats 1600000 in
theorem mark_any (w : World) (rb : Nat) (l : List Int) (g : Int) (hT : Tab w) (hrb : ¬ 0 = rb) (h : RD w rb l g) :
    Calls Tryz.prog 119 #[.pointer (some ⟨rb, 0, none⟩)] w (MarkR (markL l) rb g w) := by
  obtain ⟨P, hP⟩ : ∃ P, P = MarkR (markL l) rb g w := ⟨_, rfl⟩
  rw [← hP]
  have HP := hid_intro hP
  have HT := hid_intro hT
  have HN := hid_intro hrb
  have hrl := h.lt
  have hmem := h.mem
  have hR0 : RD (w.alloc (.cells #[.slice none 0 0, .bool false] 95)) rb l g := h.below (vb_a (Below.refl _ _) _)
  have hB0 : But (· = rb) w (w.alloc (.cells #[.slice none 0 0, .bool false] 95)) := (But.refl _ _).alloc _
  have k0 : Bk (w.alloc (.cells #[.slice none 0 0, .bool false] 95)) w.heap.size #[.slice none 0 0, .bool false] := Bk.new _ _ _
  have hnr : ¬ w.heap.size = rb := by omega
  clear hP hT hrb h
  have ht1 := take_any _ rb l g ⟨#[92, 98]⟩ (by decide) hR0
  have i1 : ints ⟨#[92, 98]⟩ = [92, 98] := rfl
  rw [i1] at ht1
  cases s1 : startsW [92, 98] l
  · have r1 : rest [92, 98] l = l := by unfold rest; rw [s1]; rfl
    rw [s1, r1] at ht1
    have ht2 := fun w (h : RD w rb l g) => take_any w rb l g ⟨#[92, 45]⟩ (by decide) h
    have i2 : ints ⟨#[92, 45]⟩ = [92, 45] := rfl
    rw [i2] at ht2
    cases s2 : startsW [92, 45] l
    · have r2 : rest [92, 45] l = l := by unfold rest; rw [s2]; rfl
      rw [s2, r2] at ht2
      have ht3 := fun w (h : RD w rb l g) => take_any w rb l g ⟨#[92]⟩ (by decide) h
      have i3 : ints ⟨#[92]⟩ = [92] := rfl
      rw [i3] at ht3
      cases s3 : startsW [92] l
      · have r3 : rest [92] l = l := by unfold rest; rw [s3]; rfl
        rw [s3, r3] at ht3
        cases l with
        | nil =>
          have hn := fun w (h : RD w rb [] g) => next_no w rb g h
          have HE : Hid (markL [] = none) := hid_intro rfl
          clear s1 s2 s3 r1 r2 r3 i1 i2 i3
          go_enter Tryz.func119, Tryz.ntmps119
          go_wp2_with fail
          refine ht1.mono ?_; rintro r w1 ⟨rfl, hb1, hr1⟩
          go_wp2_with fail
          refine (ht2 _ hr1).mono ?_; rintro r w2 ⟨rfl, hb2, hr2⟩
          go_wp2_with fail
          refine (ht3 _ hr2).mono ?_; rintro r w3 ⟨rfl, hb3, hr3⟩
          go_wp2_with fail
          refine (hn _ hr3).mono ?_; rintro r w4 ⟨rfl, hb4⟩
          go_wp2_with fail
          refine ⟨rfl, ?_⟩
          rw [HP.out, HE.out]
          exact ⟨(((hB0.trans hb1).trans hb2).trans hb3).trans hb4, rfl⟩
        | cons c l =>
          have hn := fun w (h : RD w rb (c :: l) g) => next_ok w rb c l g h
          have hcb := hmem c (by simp)
          have hsg := fun w => singleR_any c (I64_of (by omega) (by omega)) w
          have HE : Hid (markL (c :: l) = some (.one c, l)) := hid_intro (by simp only [markL, s1, s2, s3, Bool.false_eq_true, reduceIte])
          clear s1 s2 s3 r1 r2 r3 i1 i2 i3 hmem hcb
          go_enter Tryz.func119, Tryz.ntmps119
          go_wp2_with fail
          refine ht1.mono ?_; rintro r w1 ⟨rfl, hb1, hr1⟩
          go_wp2_with fail
          refine (ht2 _ hr1).mono ?_; rintro r w2 ⟨rfl, hb2, hr2⟩
          go_wp2_with fail
          refine (ht3 _ hr2).mono ?_; rintro r w3 ⟨rfl, hb3, hr3⟩
          go_wp2_with fail
          refine (hn _ hr3).mono ?_; rintro r w4 ⟨rfl, hb4, hr4⟩
          go_wp2_with fail
          refine (hsg _).mono ?_; rintro r w5 ⟨v5, rfl, hri5, hb5⟩
          have hX : w.heap.size < w4.heap.size := Nat.lt_of_lt_of_le (by simp) (Nat.le_trans hb1.size (Nat.le_trans hb2.size (Nat.le_trans hb3.size hb4.size)))
          have hXw : ∀ b, b < w.heap.size → b < w4.heap.size := fun b hb => by omega
          simp only [mkV]
          have kk := (((((k0.but hb1 hnr).but hb2 hnr).but hb3 hnr).but hb4 hnr).bel hb5)
          obtain ⟨c0, c1⟩ := kk.c2
          obtain ⟨z0, z1⟩ := kk.z2
          have HBW := hid_intro (((((hB0.trans hb1).trans hb2).trans hb3).trans hb4).below hb5)
          have HRI := hid_intro hri5
          have HRD := hid_intro (hr4.below hb5)
          obtain ⟨ao, cap, hsh, _⟩ := HRI.out.shape
          generalize hnn : List.length _ = nn at hsh
          subst hsh
          clear kk
          go_wp2_with fail
          refine bodyPost_ret (v := .agg #[.slice ao nn cap, .bool false]) (by simp [results, Tryz.results119, go_sem, c0, c1]) rfl ?_
          rw [HP.out, HE.out]
          refine ⟨(HBW.out.set (Or.inr (Nat.le_refl _)) _).set (Or.inr (Nat.le_refl _)) _, _, rfl, ((HRI.out.set hX _).set hX _).weak hXw, (HRD.out.away hrl _).away hrl _⟩
      · have r3 : rest [92] l = l.drop 1 := by unfold rest; rw [s3]; rfl
        rw [s3, r3] at ht3
        have hes := fun w (hT : Tab w) (h : RD w rb (l.drop 1) g) => escape_any w rb (l.drop 1) g hT HN.out h
        have HE0 : markL l = escapeL (l.drop 1) := by unfold markL; simp only [s1, s2, s3, Bool.false_eq_true, reduceIte]
        cases e1 : escapeL (l.drop 1) with
        | none =>
          rw [e1] at hes HE0
          have HE := hid_intro HE0
          clear s1 s2 s3 r1 r2 r3 i1 i2 i3 hmem e1 HE0
          go_enter Tryz.func119, Tryz.ntmps119
          go_wp2_with fail
          refine ht1.mono ?_; rintro r w1 ⟨rfl, hb1, hr1⟩
          go_wp2_with fail
          refine (ht2 _ hr1).mono ?_; rintro r w2 ⟨rfl, hb2, hr2⟩
          go_wp2_with fail
          refine (ht3 _ hr2).mono ?_; rintro r w3 ⟨rfl, hb3, hr3⟩
          go_wp2_with fail
          refine (hes _ ((((hB0.trans hb1).trans hb2).trans hb3).tab HT.out HN.out) hr3).mono ?_; rintro r w4 ⟨hb4, rfl⟩
          go_wp2_with fail
          refine ⟨rfl, ?_⟩
          rw [HP.out, HE.out]
          exact ⟨(((hB0.trans hb1).trans hb2).trans hb3).trans hb4, rfl⟩
        | some y =>
          obtain ⟨m, l2⟩ := y
          rw [e1] at hes HE0
          have HE := hid_intro HE0
          clear s1 s2 s3 r1 r2 r3 i1 i2 i3 hmem e1 HE0
          go_enter Tryz.func119, Tryz.ntmps119
          go_wp2_with fail
          refine ht1.mono ?_; rintro r w1 ⟨rfl, hb1, hr1⟩
          go_wp2_with fail
          refine (ht2 _ hr1).mono ?_; rintro r w2 ⟨rfl, hb2, hr2⟩
          go_wp2_with fail
          refine (ht3 _ hr2).mono ?_; rintro r w3 ⟨rfl, hb3, hr3⟩
          go_wp2_with fail
          refine (hes _ ((((hB0.trans hb1).trans hb2).trans hb3).tab HT.out HN.out) hr3).mono ?_; rintro r w4 ⟨hb4, v4, rfl, hri4, hr4⟩
          have hX : w.heap.size < w3.heap.size := Nat.lt_of_lt_of_le (by simp) (Nat.le_trans hb1.size (Nat.le_trans hb2.size hb3.size))
          have hXw : ∀ b, b < w.heap.size → b < w3.heap.size := fun b hb => by omega
          simp only [mkV] at *
          generalize hmn : m.named = mb at *
          have kk := ((((k0.but hb1 hnr).but hb2 hnr).but hb3 hnr).but hb4 hnr)
          obtain ⟨c0, c1⟩ := kk.c2
          obtain ⟨z0, z1⟩ := kk.z2
          have HBW := hid_intro ((((hB0.trans hb1).trans hb2).trans hb3).trans hb4)
          have HRI := hid_intro hri4
          have HRD := hid_intro hr4
          obtain ⟨ao, cap, hsh, _⟩ := HRI.out.shape
          generalize hnn : List.length _ = nn at hsh
          subst hsh
          clear kk
          go_wp2_with fail
          refine bodyPost_ret (v := .agg #[.slice ao nn cap, .bool mb]) (by simp [results, Tryz.results119, go_sem, c0, c1]) rfl ?_
          rw [HP.out, HE.out]
          refine ⟨(HBW.out.set (Or.inr (Nat.le_refl _)) _).set (Or.inr (Nat.le_refl _)) _, _, by rw [← hmn]; rfl, ((HRI.out.set hX _).set hX _).weak hXw, (HRD.out.away hrl _).away hrl _⟩
    · have r2 : rest [92, 45] l = l.drop 2 := by unfold rest; rw [s2]; rfl
      rw [s2, r2] at ht2
      have hsg := fun w => singleR_any 45 (I64_of (by omega) (by omega)) w
      have HE : Hid (markL l = some (.one 45, l.drop 2)) := hid_intro (by unfold markL; simp only [s1, s2, Bool.false_eq_true, reduceIte])
      clear s1 s2 r1 r2 i1 i2 hmem
      go_enter Tryz.func119, Tryz.ntmps119
      go_wp2_with fail
      refine ht1.mono ?_; rintro r w1 ⟨rfl, hb1, hr1⟩
      go_wp2_with fail
      refine (ht2 _ hr1).mono ?_; rintro r w2 ⟨rfl, hb2, hr2⟩
      go_wp2_with fail
      refine (hsg _).mono ?_; rintro r w3 ⟨v3, rfl, hri3, hb3⟩
      have hX : w.heap.size < w2.heap.size := Nat.lt_of_lt_of_le (by simp) (Nat.le_trans hb1.size hb2.size)
      have hXw : ∀ b, b < w.heap.size → b < w2.heap.size := fun b hb => by omega
      simp only [mkV]
      have kk := (((k0.but hb1 hnr).but hb2 hnr).bel hb3)
      obtain ⟨c0, c1⟩ := kk.c2
      obtain ⟨z0, z1⟩ := kk.z2
      have HBW := hid_intro (((hB0.trans hb1).trans hb2).below hb3)
      have HRI := hid_intro hri3
      have HRD := hid_intro (hr2.below hb3)
      obtain ⟨ao, cap, hsh, _⟩ := HRI.out.shape
      generalize hnn : List.length _ = nn at hsh
      subst hsh
      clear kk
      go_wp2_with fail
      refine bodyPost_ret (v := .agg #[.slice ao nn cap, .bool false]) (by simp [results, Tryz.results119, go_sem, c0, c1]) rfl ?_
      rw [HP.out, HE.out]
      refine ⟨(HBW.out.set (Or.inr (Nat.le_refl _)) _).set (Or.inr (Nat.le_refl _)) _, _, rfl, ((HRI.out.set hX _).set hX _).weak hXw, (HRD.out.away hrl _).away hrl _⟩
  · have r1 : rest [92, 98] l = l.drop 2 := by unfold rest; rw [s1]; rfl
    rw [s1, r1] at ht1
    have hsg := fun w => singleR_any 8 (I64_of (by omega) (by omega)) w
    have HE : Hid (markL l = some (.one 8, l.drop 2)) := hid_intro (by unfold markL; simp only [s1, reduceIte])
    clear s1 r1 i1 hmem
    go_enter Tryz.func119, Tryz.ntmps119
    go_wp2_with fail
    refine ht1.mono ?_; rintro r w1 ⟨rfl, hb1, hr1⟩
    go_wp2_with fail
    refine (hsg _).mono ?_; rintro r w2 ⟨v2, rfl, hri2, hb2⟩
    have hX : w.heap.size < w1.heap.size := Nat.lt_of_lt_of_le (by simp) hb1.size
    have hXw : ∀ b, b < w.heap.size → b < w1.heap.size := fun b hb => by omega
    simp only [mkV]
    have kk := ((k0.but hb1 hnr).bel hb2)
    obtain ⟨c0, c1⟩ := kk.c2
    obtain ⟨z0, z1⟩ := kk.z2
    have HBW := hid_intro ((hB0.trans hb1).below hb2)
    have HRI := hid_intro hri2
    have HRD := hid_intro (hr1.below hb2)
    obtain ⟨ao, cap, hsh, _⟩ := HRI.out.shape
    generalize hnn : List.length _ = nn at hsh
    subst hsh
    clear kk
    go_wp2_with fail
    refine bodyPost_ret (v := .agg #[.slice ao nn cap, .bool false]) (by simp [results, Tryz.results119, go_sem, c0, c1]) rfl ?_
    rw [HP.out, HE.out]
    refine ⟨(HBW.out.set (Or.inr (Nat.le_refl _)) _).set (Or.inr (Nat.le_refl _)) _, _, rfl, ((HRI.out.set hX _).set hX _).weak hXw, (HRD.out.away hrl _).away hrl _⟩
end Go.Proofs.YtppilokmgdpnnaaGreatDoor
