/-
  (*reader).group, atom, term, row, pattern. Conditions: the table of greatest code points holds its four numbers; at most 200 groups are open.
-/
import Derived.Test.YtppilokmgdpnnaaGreatDoorJoined34
namespace Go.Proofs.YtppilokmgdpnnaaGreatDoor
open Go.RowKit
attribute [local go_sem] setCell_drewN alloc_drewN

/-- What pattern answers with so many groups open. -/
def PatC (pat : List Int → Option (RX × List Int)) (rb : Nat) (g : Int) : Prop :=
  ∀ (w : World) (l : List Int), Tab w → RD w rb l g → Calls Tryz.prog 27 #[.pointer (some ⟨rb, 0, none⟩)] w (TreeR (pat l) rb g w)
theorem RD.two {w : World} {rb : Nat} {l : List Int} {g : Int} (h : RD w rb l g) : w.cell? ⟨rb, 2, none⟩ = some (.int .i64 g) ∧ w.frozen? ⟨rb, 2, none⟩ = false := by
  obtain ⟨ao, n, cap, a, c0, c1, c2, fr, h1, h2, h3, h4, h5, h6⟩ := h
  exact ⟨c2, fr 2⟩
theorem field_mark (ao : Option Addr) (n cap : Nat) (b : Bool) (w : World) : (Instr.field 95 (.agg #[.slice ao n cap, .bool b]) 0).run Tryz.prog w = .ok (.slice ao n cap) w := by
  simp [Instr.field, run_underlying Tryz.underlying95, go_sem]
  rfl

set_option maxRecDepth 100000 in
set_option maxHeartbeats 3200000 in
theorem group_any (pat : List Int → Option (RX × List Int)) (w : World) (rb : Nat) (l : List Int) (g : Int) (hg0 : 0 ≤ g) (hg : g ≤ 200) (hpat : g + 1 ≤ 200 → PatC pat rb (g + 1)) (hnone : ¬ g + 1 ≤ 200 → ∀ l, pat l = none) (hT : Tab w) (hrb : ¬ 0 = rb) (h : RD w rb l g) :
    Calls Tryz.prog 71 #[.pointer (some ⟨rb, 0, none⟩)] w (TreeR (groupP pat l) rb g w) := by
  obtain ⟨P, hP⟩ : ∃ P, P = TreeR (groupP pat l) rb g w := ⟨_, rfl⟩
  rw [← hP]
  have HP := hid_intro hP
  have HT := hid_intro hT
  have HN := hid_intro hrb
  have hrl := h.lt
  have hmem := h.mem
  have hlen := h.len
  have hR0 : RD (w.alloc (.cells #[.int .i64 0, .slice none 0 0, .int .i64 0, .int .i64 0, .bool false, .slice none 0 0] 26)) rb l g := h.below (vb_a (Below.refl _ _) _)
  have hB0 : But (· = rb) w (w.alloc (.cells #[.int .i64 0, .slice none 0 0, .int .i64 0, .int .i64 0, .bool false, .slice none 0 0] 26)) := (But.refl _ _).alloc _
  have k0 : Bk (w.alloc (.cells #[.int .i64 0, .slice none 0 0, .int .i64 0, .int .i64 0, .bool false, .slice none 0 0] 26)) w.heap.size zX := Bk.new _ _ _
  have hT0 : Tab (w.alloc (.cells #[.int .i64 0, .slice none 0 0, .int .i64 0, .int .i64 0, .bool false, .slice none 0 0] 26)) := hT.below (vb_a (Below.refl _ _) _)
  have hz0 : (w.alloc (.cells #[.int .i64 0, .slice none 0 0, .int .i64 0, .int .i64 0, .bool false, .slice none 0 0] 26)).heap.size = w.heap.size + 1 := by simp
  have hnr : ¬ w.heap.size = rb := by omega
  clear hP hT hrb h
  have ht1 := take_any _ rb l g ⟨#[63, 58]⟩ (by decide) hR0
  have i1 : ints ⟨#[63, 58]⟩ = [63, 58] := rfl
  rw [i1] at ht1
  obtain ⟨tb, htb⟩ : ∃ tb, startsW [63, 58] l = tb := ⟨_, rfl⟩
  obtain ⟨l1, hl1⟩ : ∃ l1, rest [63, 58] l = l1 := ⟨_, rfl⟩
  rw [htb, hl1] at ht1
  have HE0 : groupP pat l = match pat l1 with
    | none => none
    | some y => if startsW [41] y.2 = true then some (y.1, y.2.drop 1) else none := by
    unfold groupP
    have : (if startsW [63, 58] l = true then l.drop 2 else l) = l1 := by rw [← hl1]; rfl
    rw [this]
    cases pat l1 <;> rfl
  clear htb hl1 i1
  by_cases hgg : g + 1 ≤ 200
  · have hpc := hpat hgg
    cases e1 : pat l1 with
    | none =>
      have HE : Hid (groupP pat l = none) := hid_intro (by rw [HE0, e1])
      clear hpat hnone HE0
      go_enter Tryz.func71, Tryz.ntmps71
      go_wp2_with fail
      refine ht1.mono ?_; rintro r w1 ⟨rfl, hb1, hr1⟩
      obtain ⟨t0, t1⟩ := hr1.two
      have hrG := hr1.grp (g + 1) ⟨by omega, by omega⟩
      have hbG := But.setr (o := 2) (But.refl (· = rb) w1) (.int .i64 (g + 1))
      have hc := hpc _ l1 (((hB0.trans hb1).trans hbG).tab HT.out HN.out) hrG
      rw [e1] at hc
      have hgd : ¬ (200 : Int) < g + 1 := by omega
      clear hpc e1 hrG
      go_wp2_with fail
      refine hc.mono ?_; rintro r w2 ⟨hb2, rfl⟩
      go_wp2_with fail
      refine ⟨rfl, ?_⟩
      rw [HP.out, HE.out]
      exact ⟨((hB0.trans hb1).trans hbG).trans hb2, rfl⟩
    | some y =>
      obtain ⟨x, l2⟩ := y
      cases s1 : startsW [41] l2
      · have HE : Hid (groupP pat l = none) := hid_intro (by rw [HE0, e1]; simp only [s1, Bool.false_eq_true, reduceIte])
        have hnd := fun w (h : RD w rb l2 (g + 1)) => need_no w rb l2 (g + 1) ⟨#[41]⟩ (by decide) h s1
        clear hpat hnone HE0 s1
        go_enter Tryz.func71, Tryz.ntmps71
        go_wp2_with fail
        refine ht1.mono ?_; rintro r w1 ⟨rfl, hb1, hr1⟩
        obtain ⟨t0, t1⟩ := hr1.two
        have hrG := hr1.grp (g + 1) ⟨by omega, by omega⟩
        have hbG := But.setr (o := 2) (But.refl (· = rb) w1) (.int .i64 (g + 1))
        have hc := hpc _ l1 (((hB0.trans hb1).trans hbG).tab HT.out HN.out) hrG
        rw [e1] at hc
        have hgd : ¬ (200 : Int) < g + 1 := by omega
        clear hpc e1 hrG
        go_wp2_with fail
        refine hc.mono ?_; rintro r w2 ⟨hb2, f, rfl, hx2, hr2⟩
        obtain ⟨k_, a1, n1, q1, lo, hi, z, a2, n2, q2, ef⟩ := hx2.lit
        rw [ef]
        go_wp2_with fail
        refine (hnd _ (hr2.below (vb_a (Below.refl _ _) _))).mono ?_; rintro r w3 ⟨rfl, hb3⟩
        go_wp2_with fail
        refine ⟨rfl, ?_⟩
        rw [HP.out, HE.out]
        exact ⟨((((hB0.trans hb1).trans hbG).trans hb2).below (vb_a (Below.refl _ _) _)).trans hb3, rfl⟩
      · have HE : Hid (groupP pat l = some (x, l2.drop 1)) := hid_intro (by rw [HE0, e1]; simp only [s1, reduceIte])
        have hnd := fun w (h : RD w rb l2 (g + 1)) => need_ok w rb l2 (g + 1) ⟨#[41]⟩ (by decide) h s1
        clear hpat hnone HE0 s1
        go_enter Tryz.func71, Tryz.ntmps71
        go_wp2_with fail
        refine ht1.mono ?_; rintro r w1 ⟨rfl, hb1, hr1⟩
        obtain ⟨t0, t1⟩ := hr1.two
        have hrG := hr1.grp (g + 1) ⟨by omega, by omega⟩
        have hbG := But.setr (o := 2) (But.refl (· = rb) w1) (.int .i64 (g + 1))
        have hc := hpc _ l1 (((hB0.trans hb1).trans hbG).tab HT.out HN.out) hrG
        rw [e1] at hc
        have hgd : ¬ (200 : Int) < g + 1 := by omega
        have hsz1 : w.heap.size + 1 ≤ w1.heap.size := by have := hb1.size; simp at this; omega
        clear hpc e1 hrG
        go_wp2_with fail
        refine hc.mono ?_; rintro r w2 ⟨hb2, f, rfl, hx2, hr2⟩
        obtain ⟨k_, a1, n1, q1, lo, hi, z, a2, n2, q2, ef⟩ := hx2.lit
        have HEF := hid_intro ef
        rw [ef]
        go_wp2_with fail
        refine (hnd _ (hr2.below (vb_a (Below.refl _ _) _))).mono ?_; rintro r w3 ⟨rfl, hb3, hr3⟩
        have hr3 : RD w3 rb (l2.drop 1) (g + 1) := hr3
        have hsz2 : w1.heap.size ≤ w2.heap.size := by have := hb2.size; simpa using this
        have kB := (Bk.new _ _ _).but hb3 (show ¬ w2.heap.size = rb by omega)
        have kk := ((((k0.but hb1 hnr).but hbG hnr).but hb2 hnr).al _).but hb3 hnr
        obtain ⟨c0, c1, c2, c3, c4, c5⟩ := kk.c6
        obtain ⟨z0, z1, z2, z3, z4, z5⟩ := kk.z6
        obtain ⟨d0, d1, d2, d3, d4, d5⟩ := kB.c6
        obtain ⟨t2, t3⟩ := hr3.two
        have hx3 := (hx2.kept (vb_a (Below.refl _ _) _)).but hb3 (fun b hb => by show b < _; rw [hb]; simp; omega)
        have HXI : Hid (XI w3 (fun b => b < w.heap.size + 1) x f) := hid_intro (hx3.weak (fun b hb => by show b < _; simp; omega))
        have HBW := hid_intro (((((hB0.trans hb1).trans hbG).trans hb2).below (vb_a (Below.refl _ _) _)).trans hb3)
        have HRD := hid_intro (hr3.grp g ⟨by omega, by omega⟩)
        have hgw : IntKind.i64.wrap (g + 1 - 1) = g := by simp [IntKind.wrap, IntKind.bits, IntKind.signed]; omega
        have nw2 : ¬ w2.heap.size = rb := by omega
        have nwb : ¬ w.heap.size = w2.heap.size := by omega
        clear kk kB hx3 hx2 hr2 hr3 hr1 hb1 hb2 hb3 k0 t0 t1 ef hc hnd
        go_wp2_with fail
        refine bodyPost_ret (v := .agg #[.int .i64 k_, .slice a1 n1 q1, .int .i64 lo, .int .i64 hi, .bool z, .slice a2 n2 q2]) (by simp [results, Tryz.results71, go_sem, c0, c1, c2, c3, c4, c5]) rfl ?_
        rw [HP.out, HE.out]
        refine ⟨?_, f, by rw [HEF.out], XI.weak (X := fun b => b < w.heap.size + 1) ?_ (fun b hb => by omega), ?_⟩
        · with_reducible repeat (first | exact HBW.out | refine But.setr ?_ _ | refine But.set ?_ (Or.inr (Nat.le_refl _)) _)
        · have hrs : rb < w.heap.size + 1 := by omega
          with_reducible repeat (first | exact HXI.out | refine XI.set ?_ (Nat.lt_succ_self _) _ | refine XI.set ?_ hrs _)
        · show RD _ rb (l2.drop 1) g
          with_reducible repeat (first | exact HRD.out | refine RD.away ?_ hrl _)
  · have HE : Hid (groupP pat l = none) := hid_intro (by rw [HE0, hnone hgg])
    have hgd : (200 : Int) < g + 1 := by omega
    clear hpat hnone HE0
    go_enter Tryz.func71, Tryz.ntmps71
    go_wp2_with fail
    refine ht1.mono ?_; rintro r w1 ⟨rfl, hb1, hr1⟩
    obtain ⟨t0, t1⟩ := hr1.two
    have HBG := hid_intro (But.setr (o := 2) (hB0.trans hb1) (.int .i64 (g + 1)))
    clear hr1
    go_wp2_with fail
    refine ⟨rfl, ?_⟩
    rw [HP.out, HE.out]
    exact ⟨HBG.out, rfl⟩

set_option maxRecDepth 100000 in
set_option maxHeartbeats 3200000 in
theorem atom_any (pat : List Int → Option (RX × List Int)) (w : World) (rb : Nat) (l : List Int) (g : Int) (hg0 : 0 ≤ g) (hg : g ≤ 200) (hpat : g + 1 ≤ 200 → PatC pat rb (g + 1)) (hnone : ¬ g + 1 ≤ 200 → ∀ l, pat l = none) (hT : Tab w) (hrb : ¬ 0 = rb) (h : RD w rb l g) :
    Calls Tryz.prog 60 #[.pointer (some ⟨rb, 0, none⟩)] w (TreeR (atomP pat l) rb g w) := by
  obtain ⟨P, hP⟩ : ∃ P, P = TreeR (atomP pat l) rb g w := ⟨_, rfl⟩
  rw [← hP]
  have HP := hid_intro hP
  have HT := hid_intro hT
  have HN := hid_intro hrb
  have hrl := h.lt
  have hmem := h.mem
  have hlen := h.len
  have hR0 : RD (w.alloc (.cells #[.int .i64 0, .slice none 0 0, .int .i64 0, .int .i64 0, .bool false, .slice none 0 0] 26)) rb l g := h.below (vb_a (Below.refl _ _) _)
  have hB0 : But (· = rb) w (w.alloc (.cells #[.int .i64 0, .slice none 0 0, .int .i64 0, .int .i64 0, .bool false, .slice none 0 0] 26)) := (But.refl _ _).alloc _
  have k0 : Bk (w.alloc (.cells #[.int .i64 0, .slice none 0 0, .int .i64 0, .int .i64 0, .bool false, .slice none 0 0] 26)) w.heap.size zX := Bk.new _ _ _
  have hT0 : Tab (w.alloc (.cells #[.int .i64 0, .slice none 0 0, .int .i64 0, .int .i64 0, .bool false, .slice none 0 0] 26)) := hT.below (vb_a (Below.refl _ _) _)
  have hz0 : (w.alloc (.cells #[.int .i64 0, .slice none 0 0, .int .i64 0, .int .i64 0, .bool false, .slice none 0 0] 26)).heap.size = w.heap.size + 1 := by simp
  have hnr : ¬ w.heap.size = rb := by omega
  clear hP hT hrb h
  cases l with
  | nil =>
    have hn := next_no _ rb g hR0
    have HE : Hid (atomP pat [] = none) := hid_intro rfl
    go_enter Tryz.func60, Tryz.ntmps60
    go_wp2_with fail
    refine hn.mono ?_; rintro r w1 ⟨rfl, hb1⟩
    go_wp2_with fail
    refine ⟨rfl, ?_⟩
    rw [HP.out, HE.out]
    exact ⟨hB0.trans hb1, rfl⟩
  | cons c l =>
    have hn := next_ok _ rb c l g hR0
    have hcb := hmem c (by simp)
    by_cases h40 : c = 40
    · subst h40
      have hf := fun w (hT : Tab w) (h : RD w rb l g) => group_any pat w rb l g hg0 hg hpat hnone hT HN.out h
      have HE : Hid (atomP pat (40 :: l) = groupP pat l) := hid_intro rfl
      cases e1 : groupP pat l with
      | none =>
        rw [e1] at hf HE
        go_enter Tryz.func60, Tryz.ntmps60
        go_wp2_with fail
        refine hn.mono ?_; rintro r w1 ⟨rfl, hb1, hr1⟩
        go_wp2_with fail
        refine (hf _ ((hB0.trans hb1).tab HT.out HN.out) hr1).mono ?_; rintro r w2 ⟨hb2, rfl⟩
        go_wp2_with fail
        refine ⟨rfl, ?_⟩
        rw [HP.out, HE.out]
        exact ⟨(hB0.trans hb1).trans hb2, rfl⟩
      | some y =>
        obtain ⟨x, l2⟩ := y
        rw [e1] at hf HE
        go_enter Tryz.func60, Tryz.ntmps60
        go_wp2_with fail
        refine hn.mono ?_; rintro r w1 ⟨rfl, hb1, hr1⟩
        go_wp2_with fail
        refine (hf _ ((hB0.trans hb1).tab HT.out HN.out) hr1).mono ?_; rintro r w2 ⟨hb2, f, rfl, hx2, hr2⟩
        have hsz1 : w.heap.size + 1 ≤ w1.heap.size := by have := hb1.size; simp at this; omega
        have kk := ((k0.but hb1 hnr).but hb2 hnr)
        obtain ⟨c0, c1, c2, c3, c4, c5⟩ := kk.c6
        obtain ⟨z0, z1, z2, z3, z4, z5⟩ := kk.z6
        have HBW := hid_intro ((hB0.trans hb1).trans hb2)
        have HXI := hid_intro (hx2.weak (Y := fun b => b < w.heap.size + 1) (fun b hb => by omega))
        have HRD := hid_intro hr2
        obtain ⟨k_, a1, n1, q1, lo, hi, z, a2, n2, q2, ef⟩ := HXI.out.lit
        have HEF := hid_intro ef
        rw [ef]
        clear kk ef
        go_wp2_with fail
        refine bodyPost_ret (v := .agg #[.int .i64 k_, .slice a1 n1 q1, .int .i64 lo, .int .i64 hi, .bool z, .slice a2 n2 q2]) (by simp [results, Tryz.results60, go_sem, c0, c1, c2, c3, c4, c5]) rfl ?_
        rw [HP.out, HE.out]
        refine ⟨?_, f, by rw [HEF.out], XI.weak (X := fun b => b < w.heap.size + 1) ?_ (fun b hb => by omega), ?_⟩
        · with_reducible repeat (first | exact HBW.out | refine But.set ?_ (Or.inr (Nat.le_refl _)) _)
        · with_reducible repeat (first | exact HXI.out | refine XI.set ?_ (Nat.lt_succ_self _) _)
        · with_reducible repeat (first | exact HRD.out | refine RD.away ?_ hrl _)
    have b40 := ne_b h40
    by_cases h91 : c = 91
    · subst h91
      have hf := fun w (hT : Tab w) (h : RD w rb l g) => class_any w rb l g hT HN.out h
      have HE : Hid (atomP pat (91 :: l) = classL l) := hid_intro rfl
      cases e1 : classL l with
      | none =>
        rw [e1] at hf HE
        go_enter Tryz.func60, Tryz.ntmps60
        go_wp2_with fail
        refine hn.mono ?_; rintro r w1 ⟨rfl, hb1, hr1⟩
        go_wp2_with fail
        refine (hf _ ((hB0.trans hb1).tab HT.out HN.out) hr1).mono ?_; rintro r w2 ⟨hb2, rfl⟩
        go_wp2_with fail
        refine ⟨rfl, ?_⟩
        rw [HP.out, HE.out]
        exact ⟨(hB0.trans hb1).trans hb2, rfl⟩
      | some y =>
        obtain ⟨x, l2⟩ := y
        rw [e1] at hf HE
        go_enter Tryz.func60, Tryz.ntmps60
        go_wp2_with fail
        refine hn.mono ?_; rintro r w1 ⟨rfl, hb1, hr1⟩
        go_wp2_with fail
        refine (hf _ ((hB0.trans hb1).tab HT.out HN.out) hr1).mono ?_; rintro r w2 ⟨hb2, f, rfl, hx2, hr2⟩
        have hsz1 : w.heap.size + 1 ≤ w1.heap.size := by have := hb1.size; simp at this; omega
        have kk := ((k0.but hb1 hnr).but hb2 hnr)
        obtain ⟨c0, c1, c2, c3, c4, c5⟩ := kk.c6
        obtain ⟨z0, z1, z2, z3, z4, z5⟩ := kk.z6
        have HBW := hid_intro ((hB0.trans hb1).trans hb2)
        have HXI := hid_intro (hx2.weak (Y := fun b => b < w.heap.size + 1) (fun b hb => by omega))
        have HRD := hid_intro hr2
        obtain ⟨k_, a1, n1, q1, lo, hi, z, a2, n2, q2, ef⟩ := HXI.out.lit
        have HEF := hid_intro ef
        rw [ef]
        clear kk ef
        go_wp2_with fail
        refine bodyPost_ret (v := .agg #[.int .i64 k_, .slice a1 n1 q1, .int .i64 lo, .int .i64 hi, .bool z, .slice a2 n2 q2]) (by simp [results, Tryz.results60, go_sem, c0, c1, c2, c3, c4, c5]) rfl ?_
        rw [HP.out, HE.out]
        refine ⟨?_, f, by rw [HEF.out], XI.weak (X := fun b => b < w.heap.size + 1) ?_ (fun b hb => by omega), ?_⟩
        · with_reducible repeat (first | exact HBW.out | refine But.set ?_ (Or.inr (Nat.le_refl _)) _)
        · with_reducible repeat (first | exact HXI.out | refine XI.set ?_ (Nat.lt_succ_self _) _)
        · with_reducible repeat (first | exact HRD.out | refine RD.away ?_ hrl _)
    have b91 := ne_b h91
    by_cases h46 : c = 46
    · subst h46
      have HE : Hid (atomP pat (46 :: l) = some (setX inLines, l)) := hid_intro rfl
      have hil := fun w => inLines_any w
      go_enter Tryz.func60, Tryz.ntmps60
      go_wp2_with fail
      refine hn.mono ?_; rintro r w1 ⟨rfl, hb1, hr1⟩
      go_wp2_with fail
      refine (hil _).mono ?_; rintro r w2 ⟨v2, rfl, hri2, hb2⟩
      have hso := setOf_any inLines v2 w2 _ hri2 (by decide)
      go_wp2_with fail
      refine hso.mono ?_; rintro r w3 ⟨f, rfl, hx3, hb3⟩
      have hsz1 : w.heap.size + 1 ≤ w2.heap.size := by have := hb1.size; have := hb2.size; simp at *; omega
      have kk := (((k0.but hb1 hnr).bel hb2).bel hb3)
      obtain ⟨c0, c1, c2, c3, c4, c5⟩ := kk.c6
      obtain ⟨z0, z1, z2, z3, z4, z5⟩ := kk.z6
      have HBW := hid_intro (((hB0.trans hb1).below hb2).below hb3)
      have HXI := hid_intro (hx3.weak (Y := fun b => b < w.heap.size + 1) (fun b hb => by omega))
      have HRD := hid_intro ((hr1.below hb2).below hb3)
      obtain ⟨k_, a1, n1, q1, lo, hi, z, a2, n2, q2, ef⟩ := HXI.out.lit
      have HEF := hid_intro ef
      rw [ef]
      clear kk ef
      go_wp2_with fail
      refine bodyPost_ret (v := .agg #[.int .i64 k_, .slice a1 n1 q1, .int .i64 lo, .int .i64 hi, .bool z, .slice a2 n2 q2]) (by simp [results, Tryz.results60, go_sem, c0, c1, c2, c3, c4, c5]) rfl ?_
      rw [HP.out, HE.out]
      refine ⟨?_, f, by rw [HEF.out], XI.weak (X := fun b => b < w.heap.size + 1) ?_ (fun b hb => by omega), ?_⟩
      · with_reducible repeat (first | exact HBW.out | refine But.set ?_ (Or.inr (Nat.le_refl _)) _)
      · with_reducible repeat (first | exact HXI.out | refine XI.set ?_ (Nat.lt_succ_self _) _)
      · with_reducible repeat (first | exact HRD.out | refine RD.away ?_ hrl _)
    have b46 := ne_b h46
    by_cases h92 : c = 92
    · subst h92
      have hes := fun w (hT : Tab w) (h : RD w rb l g) => escape_any w rb l g hT HN.out h
      cases e1 : escapeL l with
      | none =>
        rw [e1] at hes
        have HE : Hid (atomP pat (92 :: l) = none) := hid_intro (by show (match escapeL l with | none => none | some (m, r') => some (setX m.ranges, r')) = none; rw [e1])
        go_enter Tryz.func60, Tryz.ntmps60
        go_wp2_with fail
        refine hn.mono ?_; rintro r w1 ⟨rfl, hb1, hr1⟩
        go_wp2_with fail
        refine (hes _ ((hB0.trans hb1).tab HT.out HN.out) hr1).mono ?_; rintro r w2 ⟨hb2, rfl⟩
        go_wp2_with fail
        refine ⟨rfl, ?_⟩
        rw [HP.out, HE.out]
        exact ⟨(hB0.trans hb1).trans hb2, rfl⟩
      | some y =>
        obtain ⟨m, l2⟩ := y
        have hml := escapeL_rl e1
        simp only at hml
        rw [e1] at hes
        have HE : Hid (atomP pat (92 :: l) = some (setX m.ranges, l2)) := hid_intro (by show (match escapeL l with | none => none | some (m, r') => some (setX m.ranges, r')) = _; rw [e1])
        go_enter Tryz.func60, Tryz.ntmps60
        go_wp2_with fail
        refine hn.mono ?_; rintro r w1 ⟨rfl, hb1, hr1⟩
        go_wp2_with fail
        refine (hes _ ((hB0.trans hb1).tab HT.out HN.out) hr1).mono ?_; rintro r w2 ⟨hb2, v2, rfl, hri2, hr2⟩
        obtain ⟨ao, cap, hsh, _⟩ := hri2.shape
        generalize hnn : List.length _ = nn at hsh
        subst hsh
        have hso := setOf_any m.ranges _ w2 _ hri2 (by omega)
        simp only [mkV]
        have hfl := fun w => field_mark ao nn cap m.named w
        go_wp2_with fail
        refine hso.mono ?_; rintro r w3 ⟨f, rfl, hx3, hb3⟩
        have hsz1 : w.heap.size + 1 ≤ w2.heap.size := by have := hb1.size; have := hb2.size; simp at *; omega
        have kk := (((k0.but hb1 hnr).but hb2 hnr).bel hb3)
        obtain ⟨c0, c1, c2, c3, c4, c5⟩ := kk.c6
        obtain ⟨z0, z1, z2, z3, z4, z5⟩ := kk.z6
        have HBW := hid_intro (((hB0.trans hb1).trans hb2).below hb3)
        have HXI := hid_intro (hx3.weak (Y := fun b => b < w.heap.size + 1) (fun b hb => by omega))
        have HRD := hid_intro (hr2.below hb3)
        obtain ⟨k_, a1, n1, q1, lo, hi, z, a2, n2, q2, ef⟩ := HXI.out.lit
        have HEF := hid_intro ef
        rw [ef]
        clear kk ef
        go_wp2_with fail
        refine bodyPost_ret (v := .agg #[.int .i64 k_, .slice a1 n1 q1, .int .i64 lo, .int .i64 hi, .bool z, .slice a2 n2 q2]) (by simp [results, Tryz.results60, go_sem, c0, c1, c2, c3, c4, c5]) rfl ?_
        rw [HP.out, HE.out]
        refine ⟨?_, f, by rw [HEF.out], XI.weak (X := fun b => b < w.heap.size + 1) ?_ (fun b hb => by omega), ?_⟩
        · with_reducible repeat (first | exact HBW.out | refine But.set ?_ (Or.inr (Nat.le_refl _)) _)
        · with_reducible repeat (first | exact HXI.out | refine XI.set ?_ (Nat.lt_succ_self _) _)
        · with_reducible repeat (first | exact HRD.out | refine RD.away ?_ hrl _)
    have b92 := ne_b h92
    have hcn := fun w => contains_a c w hcb.1 hcb.2
    have hw : IntKind.i32.wrap c = c := by simp [IntKind.wrap, IntKind.bits, IntKind.signed]; omega
    have HE0 : atomP pat (c :: l) = if synB c = true then none else some (setX [(c, c)], l) := by
      unfold atomP
      simp only
      rw [if_neg h40, if_neg h91, if_neg h46, if_neg h92]
    cases e1 : synB c
    · rw [e1] at hcn HE0
      have HE : Hid (atomP pat (c :: l) = some (setX [(c, c)], l)) := hid_intro HE0
      have hi64 : I64 c := I64_of (by omega) (by omega)
      have hon := fun w => only_any c w
      clear h40 h91 h46 h92 HE0 e1 hcb hmem hpat hnone
      go_enter Tryz.func60, Tryz.ntmps60
      go_wp2_with fail
      refine hn.mono ?_; rintro r w1 ⟨rfl, hb1, hr1⟩
      go_wp2_with fail
      refine (hcn _).mono ?_; rintro r w2 ⟨rfl, hb2⟩
      go_wp2_with fail
      refine (hon _).mono ?_; rintro r w3 ⟨rfl, hb3⟩
      have hpp : ∀ r ∈ [(c, c)], I64 r.1 ∧ I64 r.2 := fun r hr => by
        obtain rfl : r = (c, c) := by simpa using hr
        exact ⟨hi64, hi64⟩
      have hli := (OwnR.lit w3 w3.heap.size [(c, c)] #[.int .i64 c, .int .i64 c] rfl (Nat.le_refl _) (by simp) hpp 1 rfl).ri (fun _ => False) (fun _ _ h => h)
      have hso := setOf_any [(c, c)] _ _ _ hli (by simp)
      go_wp2_with fail
      refine hso.mono ?_; rintro r w4 ⟨f, rfl, hx4, hb4⟩
      have hb34 : Below w3.heap.size w3 w4 := vb_t (vb_a (Below.refl _ _) _) hb4
      have hsz1 : w.heap.size + 1 ≤ w3.heap.size := by have := hb1.size; have := hb2.size; have := hb3.size; simp at *; omega
      have kk := ((((k0.but hb1 hnr).bel hb2).bel hb3).bel hb34)
      obtain ⟨c0, c1, c2, c3, c4, c5⟩ := kk.c6
      obtain ⟨z0, z1, z2, z3, z4, z5⟩ := kk.z6
      have HBW := hid_intro ((((hB0.trans hb1).below hb2).below hb3).below hb34)
      have HXI := hid_intro (hx4.weak (Y := fun b => b < w.heap.size + 1) (fun b hb => by show b < _; simp; omega))
      have HRD := hid_intro (((hr1.below hb2).below hb3).below hb34)
      obtain ⟨k_, a1, n1, q1, lo, hi, z, a2, n2, q2, ef⟩ := HXI.out.lit
      have HEF := hid_intro ef
      rw [ef]
      clear kk ef
      go_wp2_with fail
      refine bodyPost_ret (v := .agg #[.int .i64 k_, .slice a1 n1 q1, .int .i64 lo, .int .i64 hi, .bool z, .slice a2 n2 q2]) (by simp [results, Tryz.results60, go_sem, c0, c1, c2, c3, c4, c5]) rfl ?_
      rw [HP.out, HE.out]
      refine ⟨?_, f, by rw [HEF.out], XI.weak (X := fun b => b < w.heap.size + 1) ?_ (fun b hb => by omega), ?_⟩
      · with_reducible repeat (first | exact HBW.out | refine But.set ?_ (Or.inr (Nat.le_refl _)) _)
      · with_reducible repeat (first | exact HXI.out | refine XI.set ?_ (Nat.lt_succ_self _) _)
      · with_reducible repeat (first | exact HRD.out | refine RD.away ?_ hrl _)
    · rw [e1] at hcn HE0
      have HE : Hid (atomP pat (c :: l) = none) := hid_intro HE0
      clear h40 h91 h46 h92 HE0 e1 hcb hmem hpat hnone
      go_enter Tryz.func60, Tryz.ntmps60
      go_wp2_with fail
      refine hn.mono ?_; rintro r w1 ⟨rfl, hb1, hr1⟩
      go_wp2_with fail
      refine (hcn _).mono ?_; rintro r w2 ⟨rfl, hb2⟩
      go_wp2_with fail
      refine ⟨rfl, ?_⟩
      rw [HP.out, HE.out]
      exact ⟨(hB0.trans hb1).below hb2, rfl⟩
end Go.Proofs.YtppilokmgdpnnaaGreatDoor
