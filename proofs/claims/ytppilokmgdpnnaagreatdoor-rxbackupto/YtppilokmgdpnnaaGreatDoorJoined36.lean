/-
  (*reader).term, row, pattern. Conditions: the table of greatest code points holds its four numbers; at most 200 groups are open.
-/
import Derived.Test.YtppilokmgdpnnaaGreatDoorJoined35
namespace Go.Proofs.YtppilokmgdpnnaaGreatDoor
open Go.RowKit
attribute [local go_sem] setCell_drewN alloc_drewN

set_option maxRecDepth 100000 in
set_option maxHeartbeats 3200000 in
theorem term_any (pat : List Int → Option (RX × List Int)) (w : World) (rb : Nat) (l : List Int) (g : Int) (hg0 : 0 ≤ g) (hg : g ≤ 200) (hpat : g + 1 ≤ 200 → PatC pat rb (g + 1)) (hnone : ¬ g + 1 ≤ 200 → ∀ l, pat l = none) (hT : Tab w) (hrb : ¬ 0 = rb) (h : RD w rb l g) :
    Calls Tryz.prog 50 #[.pointer (some ⟨rb, 0, none⟩)] w (TreeR (termP pat l) rb g w) := by
  obtain ⟨P, hP⟩ : ∃ P, P = TreeR (termP pat l) rb g w := ⟨_, rfl⟩
  rw [← hP]
  have HP := hid_intro hP
  have HT := hid_intro hT
  have HN := hid_intro hrb
  have hrl := h.lt
  have hmem := h.mem
  have hlen := h.len
  have hR0 : RD (w.alloc (.cells #[.int .i64 0, .slice none 0 0, .int .i64 0, .int .i64 0, .bool false, .slice none 0 0] 26)) rb l g := h.below (vb_a (Below.refl _ _) _)
  have hB0 : But (· = rb) w (w.alloc (.cells #[.int .i64 0, .slice none 0 0, .int .i64 0, .int .i64 0, .bool false, .slice none 0 0] 26)) := (But.refl _ _).alloc _
  have k0 : Bk (w.alloc (.cells #[.int .i64 0, .slice none 0 0, .int .i64 0, .int .i64 0, .bool false, .slice none 0 0] 26)) w.heap.size zX := Bk.new _ _ _
  have hT0 : Tab (w.alloc (.cells #[.int .i64 0, .slice none 0 0, .int .i64 0, .int .i64 0, .bool false, .slice none 0 0] 26)) := hT.below (vb_a (Below.refl _ _) _)
  have hz0 : (w.alloc (.cells #[.int .i64 0, .slice none 0 0, .int .i64 0, .int .i64 0, .bool false, .slice none 0 0] 26)).heap.size = w.heap.size + 1 := by simp
  have hnr : ¬ w.heap.size = rb := by omega
  clear hP hT hrb h
  clear hmem hlen
  have ht1 := take_any _ rb l g ⟨#[94]⟩ (by decide) hR0
  have i1 : ints ⟨#[94]⟩ = [94] := rfl
  rw [i1] at ht1
  have ht2 := fun w (h : RD w rb l g) => take_any w rb l g ⟨#[36]⟩ (by decide) h
  have i2 : ints ⟨#[36]⟩ = [36] := rfl
  rw [i2] at ht2
  have ht3 := fun w (h : RD w rb l g) => take_any w rb l g ⟨#[92, 98]⟩ (by decide) h
  have i3 : ints ⟨#[92, 98]⟩ = [92, 98] := rfl
  rw [i3] at ht3
  have ht4 := fun w (h : RD w rb l g) => take_any w rb l g ⟨#[92, 66]⟩ (by decide) h
  have i4 : ints ⟨#[92, 66]⟩ = [92, 66] := rfl
  rw [i4] at ht4
  cases s1 : startsW [94] l
  rotate_left
  · have r1 : rest [94] l = l.drop 1 := by unfold rest; rw [s1]; rfl
    rw [s1, r1] at ht1
    have HE : Hid (termP pat l = some (leaf 6, l.drop 1)) := hid_intro (by unfold termP; simp only [s1, reduceIte])
    clear s1 r1 hpat hnone
    go_enter Tryz.func50, Tryz.ntmps50
    go_wp2_with fail
    refine ht1.mono ?_; rintro r w1 ⟨rfl, hb1, hr1⟩
    have kk := (k0.but hb1 hnr)
    obtain ⟨c0, c1, c2, c3, c4, c5⟩ := kk.c6
    obtain ⟨z0, z1, z2, z3, z4, z5⟩ := kk.z6
    have HBW := hid_intro (hB0.trans hb1)
    have HRD := hid_intro hr1
    clear kk
    go_wp2_with fail
    refine bodyPost_ret (v := .agg #[.int .i64 6, .slice none 0 0, .int .i64 0, .int .i64 0, .bool false, .slice none 0 0]) (by simp [results, Tryz.results50, go_sem, c0, c1, c2, c3, c4, c5]) rfl ?_
    rw [HP.out, HE.out]
    refine ⟨?_, _, rfl, xi_leaf _ _ 6 (I64_of (by omega) (by omega)), ?_⟩
    · with_reducible repeat (first | exact HBW.out | refine But.set ?_ (Or.inr (Nat.le_refl _)) _)
    · with_reducible repeat (first | exact HRD.out | refine RD.away ?_ hrl _)
  have r1 : rest [94] l = l := by unfold rest; rw [s1]; rfl
  rw [s1, r1] at ht1
  cases s2 : startsW [36] l
  rotate_left
  · have r2 : rest [36] l = l.drop 1 := by unfold rest; rw [s2]; rfl
    rw [s2, r2] at ht2
    have HE : Hid (termP pat l = some (leaf 7, l.drop 1)) := hid_intro (by unfold termP; simp only [s1, s2, Bool.false_eq_true, reduceIte])
    clear s1 r1 s2 r2 hpat hnone
    go_enter Tryz.func50, Tryz.ntmps50
    go_wp2_with fail
    refine ht1.mono ?_; rintro r w1 ⟨rfl, hb1, hr1⟩
    go_wp2_with fail
    refine (ht2 _ hr1).mono ?_; rintro r w2 ⟨rfl, hb2, hr2⟩
    have kk := ((k0.but hb1 hnr).but hb2 hnr)
    obtain ⟨c0, c1, c2, c3, c4, c5⟩ := kk.c6
    obtain ⟨z0, z1, z2, z3, z4, z5⟩ := kk.z6
    have HBW := hid_intro ((hB0.trans hb1).trans hb2)
    have HRD := hid_intro hr2
    clear kk
    go_wp2_with fail
    refine bodyPost_ret (v := .agg #[.int .i64 7, .slice none 0 0, .int .i64 0, .int .i64 0, .bool false, .slice none 0 0]) (by simp [results, Tryz.results50, go_sem, c0, c1, c2, c3, c4, c5]) rfl ?_
    rw [HP.out, HE.out]
    refine ⟨?_, _, rfl, xi_leaf _ _ 7 (I64_of (by omega) (by omega)), ?_⟩
    · with_reducible repeat (first | exact HBW.out | refine But.set ?_ (Or.inr (Nat.le_refl _)) _)
    · with_reducible repeat (first | exact HRD.out | refine RD.away ?_ hrl _)
  have r2 : rest [36] l = l := by unfold rest; rw [s2]; rfl
  rw [s2, r2] at ht2
  cases s3 : startsW [92, 98] l
  rotate_left
  · have r3 : rest [92, 98] l = l.drop 2 := by unfold rest; rw [s3]; rfl
    rw [s3, r3] at ht3
    have HE : Hid (termP pat l = some (leaf 8, l.drop 2)) := hid_intro (by unfold termP; simp only [s1, s2, s3, Bool.false_eq_true, reduceIte])
    clear s1 r1 s2 r2 s3 r3 hpat hnone
    go_enter Tryz.func50, Tryz.ntmps50
    go_wp2_with fail
    refine ht1.mono ?_; rintro r w1 ⟨rfl, hb1, hr1⟩
    go_wp2_with fail
    refine (ht2 _ hr1).mono ?_; rintro r w2 ⟨rfl, hb2, hr2⟩
    go_wp2_with fail
    refine (ht3 _ hr2).mono ?_; rintro r w3 ⟨rfl, hb3, hr3⟩
    have kk := (((k0.but hb1 hnr).but hb2 hnr).but hb3 hnr)
    obtain ⟨c0, c1, c2, c3, c4, c5⟩ := kk.c6
    obtain ⟨z0, z1, z2, z3, z4, z5⟩ := kk.z6
    have HBW := hid_intro (((hB0.trans hb1).trans hb2).trans hb3)
    have HRD := hid_intro hr3
    clear kk
    go_wp2_with fail
    refine bodyPost_ret (v := .agg #[.int .i64 8, .slice none 0 0, .int .i64 0, .int .i64 0, .bool false, .slice none 0 0]) (by simp [results, Tryz.results50, go_sem, c0, c1, c2, c3, c4, c5]) rfl ?_
    rw [HP.out, HE.out]
    refine ⟨?_, _, rfl, xi_leaf _ _ 8 (I64_of (by omega) (by omega)), ?_⟩
    · with_reducible repeat (first | exact HBW.out | refine But.set ?_ (Or.inr (Nat.le_refl _)) _)
    · with_reducible repeat (first | exact HRD.out | refine RD.away ?_ hrl _)
  have r3 : rest [92, 98] l = l := by unfold rest; rw [s3]; rfl
  rw [s3, r3] at ht3
  cases s4 : startsW [92, 66] l
  rotate_left
  · have r4 : rest [92, 66] l = l.drop 2 := by unfold rest; rw [s4]; rfl
    rw [s4, r4] at ht4
    have HE : Hid (termP pat l = some (leaf 9, l.drop 2)) := hid_intro (by unfold termP; simp only [s1, s2, s3, s4, Bool.false_eq_true, reduceIte])
    clear s1 r1 s2 r2 s3 r3 s4 r4 hpat hnone
    go_enter Tryz.func50, Tryz.ntmps50
    go_wp2_with fail
    refine ht1.mono ?_; rintro r w1 ⟨rfl, hb1, hr1⟩
    go_wp2_with fail
    refine (ht2 _ hr1).mono ?_; rintro r w2 ⟨rfl, hb2, hr2⟩
    go_wp2_with fail
    refine (ht3 _ hr2).mono ?_; rintro r w3 ⟨rfl, hb3, hr3⟩
    go_wp2_with fail
    refine (ht4 _ hr3).mono ?_; rintro r w4 ⟨rfl, hb4, hr4⟩
    have kk := ((((k0.but hb1 hnr).but hb2 hnr).but hb3 hnr).but hb4 hnr)
    obtain ⟨c0, c1, c2, c3, c4, c5⟩ := kk.c6
    obtain ⟨z0, z1, z2, z3, z4, z5⟩ := kk.z6
    have HBW := hid_intro ((((hB0.trans hb1).trans hb2).trans hb3).trans hb4)
    have HRD := hid_intro hr4
    clear kk
    go_wp2_with fail
    refine bodyPost_ret (v := .agg #[.int .i64 9, .slice none 0 0, .int .i64 0, .int .i64 0, .bool false, .slice none 0 0]) (by simp [results, Tryz.results50, go_sem, c0, c1, c2, c3, c4, c5]) rfl ?_
    rw [HP.out, HE.out]
    refine ⟨?_, _, rfl, xi_leaf _ _ 9 (I64_of (by omega) (by omega)), ?_⟩
    · with_reducible repeat (first | exact HBW.out | refine But.set ?_ (Or.inr (Nat.le_refl _)) _)
    · with_reducible repeat (first | exact HRD.out | refine RD.away ?_ hrl _)
  have r4 : rest [92, 66] l = l := by unfold rest; rw [s4]; rfl
  rw [s4, r4] at ht4
  have hat := fun w (hT : Tab w) (h : RD w rb l g) => atom_any pat w rb l g hg0 hg hpat hnone hT HN.out h
  have HE0 : termP pat l = match atomP pat l with
    | none => none
    | some y => countedL y.1 y.2 := by
    unfold termP
    simp only [s1, s2, s3, s4, Bool.false_eq_true, reduceIte]
    cases atomP pat l <;> rfl
  clear s1 s2 s3 s4 r1 r2 r3 r4 i1 i2 i3 i4
  cases e1 : atomP pat l with
  | none =>
    rw [e1] at hat HE0
    have HE := hid_intro HE0
    clear HE0 e1 hpat hnone
    go_enter Tryz.func50, Tryz.ntmps50
    go_wp2_with fail
    refine ht1.mono ?_; rintro r w1 ⟨rfl, hb1, hr1⟩
    go_wp2_with fail
    refine (ht2 _ hr1).mono ?_; rintro r w2 ⟨rfl, hb2, hr2⟩
    go_wp2_with fail
    refine (ht3 _ hr2).mono ?_; rintro r w3 ⟨rfl, hb3, hr3⟩
    go_wp2_with fail
    refine (ht4 _ hr3).mono ?_; rintro r w4 ⟨rfl, hb4, hr4⟩
    go_wp2_with fail
    refine (hat _ (((((hB0.trans hb1).trans hb2).trans hb3).trans hb4).tab HT.out HN.out) hr4).mono ?_; rintro r w5 ⟨hb5, rfl⟩
    go_wp2_with fail
    refine ⟨rfl, ?_⟩
    rw [HP.out, HE.out]
    exact ⟨((((hB0.trans hb1).trans hb2).trans hb3).trans hb4).trans hb5, rfl⟩
  | some y =>
    obtain ⟨x, l2⟩ := y
    rw [e1] at hat HE0
    simp only at HE0
    have hcd := fun (w5 w4 : World) (f : Nat → Value) (h1 : rb < w4.heap.size) (h2 : w4.heap.size ≤ w5.heap.size) (h3 : XI w5 (· < w4.heap.size) x f) (h4 : RD w5 rb l2 g) => counted_any w5 rb l2 g (· < w4.heap.size) (fun b hb => Nat.lt_of_lt_of_le hb h2) h1 x f h3 h4
    cases e2 : countedL x l2 with
    | none =>
      rw [e2] at hcd HE0
      have HE := hid_intro HE0
      clear HE0 e1 e2 hpat hnone
      go_enter Tryz.func50, Tryz.ntmps50
      go_wp2_with fail
      refine ht1.mono ?_; rintro r w1 ⟨rfl, hb1, hr1⟩
      go_wp2_with fail
      refine (ht2 _ hr1).mono ?_; rintro r w2 ⟨rfl, hb2, hr2⟩
      go_wp2_with fail
      refine (ht3 _ hr2).mono ?_; rintro r w3 ⟨rfl, hb3, hr3⟩
      go_wp2_with fail
      refine (ht4 _ hr3).mono ?_; rintro r w4 ⟨rfl, hb4, hr4⟩
      go_wp2_with fail
      refine (hat _ (((((hB0.trans hb1).trans hb2).trans hb3).trans hb4).tab HT.out HN.out) hr4).mono ?_; rintro r w5 ⟨hb5, f, rfl, hx5, hr5⟩
      go_wp2_with fail
      refine (hcd w5 w4 f hr4.lt hb5.size hx5 hr5).mono ?_; rintro r w6 ⟨hb6, rfl⟩
      go_wp2_with fail
      refine ⟨rfl, ?_⟩
      rw [HP.out, HE.out]
      exact ⟨(((((hB0.trans hb1).trans hb2).trans hb3).trans hb4).trans hb5).trans hb6, rfl⟩
    | some y2 =>
      obtain ⟨x2, l3⟩ := y2
      rw [e2] at hcd HE0
      have HE := hid_intro HE0
      clear HE0 e1 e2 hpat hnone
      go_enter Tryz.func50, Tryz.ntmps50
      go_wp2_with fail
      refine ht1.mono ?_; rintro r w1 ⟨rfl, hb1, hr1⟩
      go_wp2_with fail
      refine (ht2 _ hr1).mono ?_; rintro r w2 ⟨rfl, hb2, hr2⟩
      go_wp2_with fail
      refine (ht3 _ hr2).mono ?_; rintro r w3 ⟨rfl, hb3, hr3⟩
      go_wp2_with fail
      refine (ht4 _ hr3).mono ?_; rintro r w4 ⟨rfl, hb4, hr4⟩
      go_wp2_with fail
      refine (hat _ (((((hB0.trans hb1).trans hb2).trans hb3).trans hb4).tab HT.out HN.out) hr4).mono ?_; rintro r w5 ⟨hb5, f, rfl, hx5, hr5⟩
      go_wp2_with fail
      refine (hcd w5 w4 f hr4.lt hb5.size hx5 hr5).mono ?_; rintro r w6 ⟨hb6, f6, rfl, hx6, hr6⟩
      have hsz1 : w.heap.size + 1 ≤ w4.heap.size := by have := hb1.size; have := hb2.size; have := hb3.size; have := hb4.size; simp at *; omega
      have kk := ((((((k0.but hb1 hnr).but hb2 hnr).but hb3 hnr).but hb4 hnr).but hb5 hnr).but hb6 hnr)
      obtain ⟨c0, c1, c2, c3, c4, c5⟩ := kk.c6
      obtain ⟨z0, z1, z2, z3, z4, z5⟩ := kk.z6
      have HBW := hid_intro ((((((hB0.trans hb1).trans hb2).trans hb3).trans hb4).trans hb5).trans hb6)
      have HXI := hid_intro (hx6.weak (Y := fun b => b < w.heap.size + 1) (fun b hb => by omega))
      have HRD := hid_intro hr6
      obtain ⟨k_, a1, n1, q1, lo, hi, z, a2, n2, q2, ef⟩ := HXI.out.lit
      have HEF := hid_intro ef
      rw [ef]
      clear kk ef
      go_wp2_with fail
      refine bodyPost_ret (v := .agg #[.int .i64 k_, .slice a1 n1 q1, .int .i64 lo, .int .i64 hi, .bool z, .slice a2 n2 q2]) (by simp [results, Tryz.results50, go_sem, c0, c1, c2, c3, c4, c5]) rfl ?_
      rw [HP.out, HE.out]
      refine ⟨?_, f6, by rw [HEF.out], XI.weak (X := fun b => b < w.heap.size + 1) ?_ (fun b hb => by omega), ?_⟩
      · with_reducible repeat (first | exact HBW.out | refine But.set ?_ (Or.inr (Nat.le_refl _)) _)
      · with_reducible repeat (first | exact HXI.out | refine XI.set ?_ (Nat.lt_succ_self _) _)
      · with_reducible repeat (first | exact HRD.out | refine RD.away ?_ hrl _)

theorem xa_cells {f : Nat → Value} {cs : Array Value} (h : xa f = .agg cs) : cs = #[f 0, f 1, f 2, f 3, f 4, f 5] := by
  unfold xa at h; injection h with h; exact h.symm
theorem OwnX.ahead {w : World} {B : Nat} {v : Value} {ps : List PX} (h : OwnX w B v ps) : ∀ k, k < B → v.ownBlock ≠ some k := fun k hk e => by have := (h.lt k e).1; omega

set_option maxRecDepth 100000 in
set_option maxHeartbeats 3200000 in
theorem rowP_any (pat : List Int → Option (RX × List Int)) (w : World) (rb : Nat) (l : List Int) (g : Int) (hg0 : 0 ≤ g) (hg : g ≤ 200) (hpat : g + 1 ≤ 200 → PatC pat rb (g + 1)) (hnone : ¬ g + 1 ≤ 200 → ∀ l, pat l = none) (hshr : Shr pat) (hT : Tab w) (hrb : ¬ 0 = rb) (h : RD w rb l g) :
    Calls Tryz.prog 40 #[.pointer (some ⟨rb, 0, none⟩)] w (TreeR (rowP pat l) rb g w) := by
  obtain ⟨P, hP⟩ : ∃ P, P = TreeR (rowP pat l) rb g w := ⟨_, rfl⟩
  rw [← hP]
  have HP := hid_intro hP
  have HT := hid_intro hT
  have HN := hid_intro hrb
  have hrl := h.lt
  have hmem := h.mem
  have hlen := h.len
  have hR0 : RD (w.alloc (.cells #[.int .i64 0, .slice none 0 0, .int .i64 0, .int .i64 0, .bool false, .slice none 0 0] 26)) rb l g := h.below (vb_a (Below.refl _ _) _)
  have hB0 : But (· = rb) w (w.alloc (.cells #[.int .i64 0, .slice none 0 0, .int .i64 0, .int .i64 0, .bool false, .slice none 0 0] 26)) := (But.refl _ _).alloc _
  have k0 : Bk (w.alloc (.cells #[.int .i64 0, .slice none 0 0, .int .i64 0, .int .i64 0, .bool false, .slice none 0 0] 26)) w.heap.size zX := Bk.new _ _ _
  have hT0 : Tab (w.alloc (.cells #[.int .i64 0, .slice none 0 0, .int .i64 0, .int .i64 0, .bool false, .slice none 0 0] 26)) := hT.below (vb_a (Below.refl _ _) _)
  have hz0 : (w.alloc (.cells #[.int .i64 0, .slice none 0 0, .int .i64 0, .int .i64 0, .bool false, .slice none 0 0] 26)).heap.size = w.heap.size + 1 := by simp
  have hnr : ¬ w.heap.size = rb := by omega
  clear hP hT hrb h
  have htm := fun (l' : List Int) w (hT : Tab w) (h : RD w rb l' g) => term_any pat w rb l' g hg0 hg hpat hnone hT HN.out h
  have HE0 : Hid (rowP pat l = match rowG (termP pat) l.length [] l with
    | none => none
    | some y => some (together 3 y.1, y.2)) := hid_intro (by unfold rowP; cases rowG (termP pat) l.length [] l <;> rfl)
  have HR0 := hid_intro hR0
  have HB0 := hid_intro hB0
  have HK0 := hid_intro k0
  have HL0 := hid_intro hlen
  clear hmem hpat hnone hR0 hB0 k0 hlen hT0
  go_enter Tryz.func40, Tryz.ntmps40
  go_wp2_with fail
  go_loopg [3] l.length (fun m s3 wr => ∃ (n : Nat) (ps : List PX) (l' : List Int), m = l'.length ∧ l'.length ≤ n ∧ Hid (ps.length + l'.length ≤ 4096) ∧ OwnX wr (w.heap.size + 1) s3 ps ∧ Hid (rowG (termP pat) n (ps.map (·.1)) l' = rowG (termP pat) l.length [] l) ∧ But (· = rb) w wr ∧ w.heap.size + 1 ≤ wr.heap.size ∧ RD wr rb l' g ∧ Bk wr w.heap.size zX)
  case atStart => exact ⟨l.length, [], l, rfl, Nat.le_refl _, by have := HL0.out; show 0 + _ ≤ _; omega, OwnX.nil _ _, rfl, HB0.out, Nat.le_of_eq hz0.symm, HR0.out, HK0.out⟩
  case round =>
    clear HB0 HR0 HK0 HL0
    obtain ⟨n, ps, l', rfl, hn, HA, hown, HG, hb, hsz, hR, hk⟩ := hrel
    have hpl : ps.length ≤ 4096 := by have := HA.out; omega
    have hxo : ∀ b, b = rb → b < w.heap.size + 1 := fun b hb => by omega
    have hen := ended_any wr rb l' g hR
    have hpk := fun w (h : RD w rb l' g) => peek_any w rb l' g 0 (by omega) h
    have HOW := hid_intro hown
    have HKK := hid_intro hk
    have HRR := hid_intro hR
    have HTr : Hid (Tab wr) := hid_intro (hb.tab HT.out HN.out)
    clear hown hk hR
    cases l' with
    | nil =>
      have HE : Hid (rowP pat l = some (together 3 (ps.map (·.1)), [])) := hid_intro (by rw [HE0.out, ← HG.out]; cases n <;> rfl)
      clear HG HA HE0
      go_wp2_with fail
      refine hen.mono ?_; rintro r w1 ⟨rfl, hb1⟩
      have hbe : Below wr.heap.size wr w1 := hb1
      have htg := together_any 3 (I64_of (by omega) (by omega)) _ ps w1 (w.heap.size + 1) (HOW.out.below hbe) (by omega)
      go_wp2_with fail
      refine htg.mono ?_; rintro r wt ⟨f, rfl, hxt, hbt⟩
      have kk := ((HKK.out.bel hbe).bel hbt)
      obtain ⟨c0, c1, c2, c3, c4, c5⟩ := kk.c6
      obtain ⟨z0, z1, z2, z3, z4, z5⟩ := kk.z6
      have HBW := hid_intro ((hb.below hbe).below hbt)
      have HXI := hid_intro hxt
      have HRD := hid_intro ((HRR.out.below hbe).below hbt)
      obtain ⟨k_, a1, n1, q1, lo, hi, z, a2, n2, q2, ef⟩ := HXI.out.lit
      have HEF := hid_intro ef
      rw [ef]
      clear kk ef
      go_wp2_with fail
      refine bodyPost_ret (v := .agg #[.int .i64 k_, .slice a1 n1 q1, .int .i64 lo, .int .i64 hi, .bool z, .slice a2 n2 q2]) (by simp [results, Tryz.results40, go_sem, c0, c1, c2, c3, c4, c5]) rfl ?_
      rw [HP.out, HE.out]
      refine ⟨?_, f, by rw [HEF.out], XI.weak (X := fun b => b < w.heap.size + 1) ?_ (fun b hb => by omega), ?_⟩
      · with_reducible repeat (first | exact HBW.out | refine But.set ?_ (Or.inr (Nat.le_refl _)) _)
      · with_reducible repeat (first | exact HXI.out | refine XI.set ?_ (Nat.lt_succ_self _) _)
      · with_reducible repeat (first | exact HRD.out | refine RD.away ?_ hrl _)
    | cons c r =>
      obtain ⟨n, rfl⟩ : ∃ n', n = n' + 1 := ⟨n - 1, by simp at hn; omega⟩
      have hpc : pk (c :: r) 0 = c := rfl
      rw [hpc] at hpk
      by_cases h124 : c = 124
      · subst h124
        have HE : Hid (rowP pat l = some (together 3 (ps.map (·.1)), 124 :: r)) := hid_intro (by rw [HE0.out, ← HG.out]; rfl)
        clear HG HA HE0
        go_wp2_with fail
        refine hen.mono ?_; rintro r w1 ⟨rfl, hb1⟩
        go_wp2_with fail
        refine (hpk _ (HRR.out.below hb1)).mono ?_; rintro r w2 ⟨rfl, hb2⟩
        have hbe : Below wr.heap.size wr w2 := vb_t hb1 hb2
        have htg := together_any 3 (I64_of (by omega) (by omega)) _ ps w2 (w.heap.size + 1) (HOW.out.below hbe) (by omega)
        go_wp2_with fail
        refine htg.mono ?_; rintro r wt ⟨f, rfl, hxt, hbt⟩
        have kk := ((HKK.out.bel hbe).bel hbt)
        obtain ⟨c0, c1, c2, c3, c4, c5⟩ := kk.c6
        obtain ⟨z0, z1, z2, z3, z4, z5⟩ := kk.z6
        have HBW := hid_intro ((hb.below hbe).below hbt)
        have HXI := hid_intro hxt
        have HRD := hid_intro ((HRR.out.below hbe).below hbt)
        obtain ⟨k_, a1, n1, q1, lo, hi, z, a2, n2, q2, ef⟩ := HXI.out.lit
        have HEF := hid_intro ef
        rw [ef]
        clear kk ef
        go_wp2_with fail
        refine bodyPost_ret (v := .agg #[.int .i64 k_, .slice a1 n1 q1, .int .i64 lo, .int .i64 hi, .bool z, .slice a2 n2 q2]) (by simp [results, Tryz.results40, go_sem, c0, c1, c2, c3, c4, c5]) rfl ?_
        rw [HP.out, HE.out]
        refine ⟨?_, f, by rw [HEF.out], XI.weak (X := fun b => b < w.heap.size + 1) ?_ (fun b hb => by omega), ?_⟩
        · with_reducible repeat (first | exact HBW.out | refine But.set ?_ (Or.inr (Nat.le_refl _)) _)
        · with_reducible repeat (first | exact HXI.out | refine XI.set ?_ (Nat.lt_succ_self _) _)
        · with_reducible repeat (first | exact HRD.out | refine RD.away ?_ hrl _)
      · have b124 : (c != 124) = true := by simpa using h124
        by_cases h41 : c = 41
        · subst h41
          have HE : Hid (rowP pat l = some (together 3 (ps.map (·.1)), 41 :: r)) := hid_intro (by rw [HE0.out, ← HG.out]; rfl)
          clear HG HA HE0
          go_wp2_with fail
          refine hen.mono ?_; rintro r w1 ⟨rfl, hb1⟩
          go_wp2_with fail
          refine (hpk _ (HRR.out.below hb1)).mono ?_; rintro r w2 ⟨rfl, hb2⟩
          go_wp2_with fail
          refine (hpk _ ((HRR.out.below hb1).below hb2)).mono ?_; rintro r w3 ⟨rfl, hb3⟩
          have hbe : Below wr.heap.size wr w3 := vb_t (vb_t hb1 hb2) hb3
          have htg := together_any 3 (I64_of (by omega) (by omega)) _ ps w3 (w.heap.size + 1) (HOW.out.below hbe) (by omega)
          go_wp2_with fail
          refine htg.mono ?_; rintro r wt ⟨f, rfl, hxt, hbt⟩
          have kk := ((HKK.out.bel hbe).bel hbt)
          obtain ⟨c0, c1, c2, c3, c4, c5⟩ := kk.c6
          obtain ⟨z0, z1, z2, z3, z4, z5⟩ := kk.z6
          have HBW := hid_intro ((hb.below hbe).below hbt)
          have HXI := hid_intro hxt
          have HRD := hid_intro ((HRR.out.below hbe).below hbt)
          obtain ⟨k_, a1, n1, q1, lo, hi, z, a2, n2, q2, ef⟩ := HXI.out.lit
          have HEF := hid_intro ef
          rw [ef]
          clear kk ef
          go_wp2_with fail
          refine bodyPost_ret (v := .agg #[.int .i64 k_, .slice a1 n1 q1, .int .i64 lo, .int .i64 hi, .bool z, .slice a2 n2 q2]) (by simp [results, Tryz.results40, go_sem, c0, c1, c2, c3, c4, c5]) rfl ?_
          rw [HP.out, HE.out]
          refine ⟨?_, f, by rw [HEF.out], XI.weak (X := fun b => b < w.heap.size + 1) ?_ (fun b hb => by omega), ?_⟩
          · with_reducible repeat (first | exact HBW.out | refine But.set ?_ (Or.inr (Nat.le_refl _)) _)
          · with_reducible repeat (first | exact HXI.out | refine XI.set ?_ (Nat.lt_succ_self _) _)
          · with_reducible repeat (first | exact HRD.out | refine RD.away ?_ hrl _)
        · have b41 : (c != 41) = true := by simpa using h41
          have hT1 := htm (c :: r)
          have hor : ¬ (c = 124 ∨ c = 41) := by rintro (h | h); exact h124 h; exact h41 h
          cases e1 : termP pat (c :: r) with
          | none =>
            rw [e1] at hT1
            have HE : Hid (rowP pat l = none) := hid_intro (by rw [HE0.out, ← HG.out]; simp only [rowG]; rw [if_neg hor, e1])
            clear HG HA HE0 e1 h124 h41 hor
            go_wp2_with fail
            refine hen.mono ?_; rintro r w1 ⟨rfl, hb1⟩
            go_wp2_with fail
            refine (hpk _ (HRR.out.below hb1)).mono ?_; rintro r w2 ⟨rfl, hb2⟩
            go_wp2_with fail
            refine (hpk _ ((HRR.out.below hb1).below hb2)).mono ?_; rintro r w3 ⟨rfl, hb3⟩
            go_wp2_with fail
            refine (hT1 _ (HTr.out.below (vb_t (vb_t hb1 hb2) hb3)) (((HRR.out.below hb1).below hb2).below hb3)).mono ?_; rintro r w4 ⟨hb4, rfl⟩
            go_wp2_with fail
            refine ⟨rfl, ?_⟩
            rw [HP.out, HE.out]
            exact ⟨(hb.below (vb_t (vb_t hb1 hb2) hb3)).trans hb4, rfl⟩
          | some y =>
            obtain ⟨x, l2⟩ := y
            have hln := termP_len hshr _ _ e1
            simp only [List.length_cons] at hln
            rw [e1] at hT1
            have HG2 : Hid (rowG (termP pat) n (ps.map (·.1) ++ [x]) l2 = rowG (termP pat) l.length [] l) := hid_intro (by
              rw [← HG.out]
              conv => rhs; unfold rowG
              simp only
              rw [if_neg hor, e1])
            have HA2 : Hid (ps.length + 1 + l2.length ≤ 4096) := hid_intro (by have := HA.out; simp only [List.length_cons] at this; omega)
            have HLN : Hid (l2.length < r.length + 1 ∧ l2.length ≤ n) := hid_intro (by simp only [List.length_cons] at hn; omega)
            clear HG HA e1 h124 h41 hor hln
            go_wp2_with fail
            refine hen.mono ?_; rintro r w1 ⟨rfl, hb1⟩
            go_wp2_with fail
            refine (hpk _ (HRR.out.below hb1)).mono ?_; rintro r w2 ⟨rfl, hb2⟩
            go_wp2_with fail
            refine (hpk _ ((HRR.out.below hb1).below hb2)).mono ?_; rintro r w3 ⟨rfl, hb3⟩
            go_wp2_with fail
            refine (hT1 _ (HTr.out.below (vb_t (vb_t hb1 hb2) hb3)) (((HRR.out.below hb1).below hb2).below hb3)).mono ?_; rintro r w4 ⟨hb4, f, rfl, hx4, hr4⟩
            have hbe : Below wr.heap.size wr w3 := vb_t (vb_t hb1 hb2) hb3
            have ho4 := (HOW.out.below hbe).but hb4 hxo
            have hlt3 := (HOW.out.below hbe).lt
            have hx4' : XI w4 (fun b => b < w.heap.size + 1 ∨ u3.ownBlock = some b) x f := hx4.weak (fun b hb => by
              rcases hb with hb | hb
              · have := hbe.size; omega
              · exact (hlt3 b hb).2)
            obtain ⟨k_, a1, n1, q1, lo, hi, z, a2, n2, q2, ef⟩ := hx4.lit
            have hcs := xa_cells ef
            rw [ef]
            have HO4 := hid_intro ho4
            have HX4 := hid_intro hx4'
            have HB4 := hid_intro ((hb.below hbe).trans hb4)
            have HR4 := hid_intro hr4
            have HK4 := hid_intro ((HKK.out.bel hbe).but hb4 hnr)
            have HS4 := hid_intro (Nat.le_trans hsz (Nat.le_trans hbe.size hb4.size))
            have HCS := hid_intro hcs
            clear hb1 hb2 hb3 hb4 hbe ho4 hlt3 hx4' hx4 hr4 ef hcs
            go_wp2_with (at_builtin; refine wpList_append_tree rfl _ _ rfl (w.heap.size + 1) _ ps x f rfl (HO4.out.below (vb_a (Below.refl _ _) _)) ?cB ?cS (HX4.out.kept (vb_a (Below.refl _ _) _)) _ rfl ?cK ?_)
            case cB => have := HS4.out; simp; omega
            case cS => omega
            case cK => rw [← HCS.out]; exact Bk.new _ _ _
            intro v' w5 ho5 hg5
            have hlt := HO4.out.lt
            have hal : Below w4.heap.size w4 (w4.alloc (.cells #[.int .i64 k_, .slice a1 n1 q1, .int .i64 lo, .int .i64 hi, .bool z, .slice a2 n2 q2] 26)) := vb_a (Below.refl _ _) _
            have hb5 : But (· = rb) w w5 := (HB4.out.below hal).grown hg5 (fun b hb => Or.inr (by have := (hlt b hb).1; omega))
            have hr5 : RD w5 rb l2 g := (HR4.out.below hal).carry (fun k hk => hg5.block k (by have := HR4.out.lt; simp; omega) (fun e => by have := (hlt k e.symm).1; omega))
            have hk5 : Bk w5 w.heap.size zX := (HK4.out.al _).grown hg5 (fun e => by have := (hlt _ e).1; omega)
            have hs5 : w.heap.size + 1 ≤ w5.heap.size := Nat.le_trans HS4.out (Nat.le_trans hal.size hg5.size)
            have HXX := hid_intro (And.intro ho5 (And.intro hb5 (And.intro hr5 (And.intro hk5 hs5))))
            clear ho5 hg5 hb5 hr5 hk5 hlt hal hs5
            go_wp2_with fail
            go_roundg l2.length
            case measure => have := HLN.out.1; simp; omega
            case rel => exact ⟨n, ps ++ [(x, f)], l2, rfl, HLN.out.2, by have := HA2.out; show (ps ++ [(x, f)]).length + _ ≤ _; simp; omega, HXX.out.1, by rw [List.map_append]; exact HG2, HXX.out.2.1, HXX.out.2.2.2.2, HXX.out.2.2.1, HXX.out.2.2.2.1⟩
end Go.Proofs.YtppilokmgdpnnaaGreatDoor
