/-
  (*reader).class. Conditions: the table of greatest code points holds its four numbers.
  Rows of trees of the call's own; together; (*reader).counted. No condition.
-/
import Derived.Test.YtoinlmfodmgohaaGreatDoorJoined18
import Derived.Maps.AppendAt
namespace Go.Proofs.YtoinlmfodmgohaaGreatDoor
open Go.RowKit
attribute [local go_sem] setCell_drewN alloc_drewN

theorem namedBy_len {c : Int} {s : List (Int × Int)} (h : namedBy c = some s) : s ≠ [] ∧ s.length ≤ 16 := by
  unfold namedBy at h
  repeat' (split at h)
  all_goals first
    | (simp at h; done)
    | (simp only [Option.some.injEq] at h; subst h; decide)
theorem escapeL_rl {l : List Int} {y : Mark × List Int} (h : escapeL l = some y) : y.1.ranges ≠ [] ∧ y.1.ranges.length ≤ 16 := by
  unfold escapeL at h
  split at h
  · simp at h
  · split at h
    · rename_i e
      simp only [Option.some.injEq] at h; subst h
      exact namedBy_len e
    · split at h
      · simp at h
      · simp only [Option.some.injEq] at h; subst h
        exact ⟨by simp [Mark.ranges], by simp [Mark.ranges]⟩
theorem markL_rl {l : List Int} {y : Mark × List Int} (h : markL l = some y) : y.1.ranges ≠ [] ∧ y.1.ranges.length ≤ 16 := by
  unfold markL at h
  have one : ∀ (p : Int) (l2 : List Int), some (Mark.one p, l2) = some y → y.1.ranges ≠ [] ∧ y.1.ranges.length ≤ 16 := fun p l2 h => by
    simp only [Option.some.injEq] at h; subst h
    exact ⟨by simp [Mark.ranges], by simp [Mark.ranges]⟩
  split at h
  · exact one _ _ h
  split at h
  · exact one _ _ h
  split at h
  · exact escapeL_rl h
  split at h
  · simp at h
  · exact one _ _ h
theorem itemL_rl {l : List Int} {y : List (Int × Int) × List Int} (h : itemL l = some y) : y.1 ≠ [] ∧ y.1.length ≤ 16 := by
  unfold itemL at h
  split at h
  · simp at h
  · rename_i e
    split at h
    · simp only [Option.some.injEq] at h; subst h
      exact markL_rl e
    · split at h
      · simp at h
      · rename_i m _ _ _ m2 _ _
        split at h
        · simp at h
        · rename_i r e3
          simp only [Option.some.injEq] at h; subst h
          cases m <;> cases m2 <;> simp only [between] at e3
          all_goals first
            | (simp at e3; done)
            | (split at e3
               · simp at e3
               · simp only [Option.some.injEq] at e3; subst e3; exact ⟨by simp, by simp⟩)
theorem RD.carry {w w' : World} {rb : Nat} {l : List Int} {g : Int} (h : RD w rb l g) (hk : ∀ k, k ≤ rb → w'.heap[k]? = w.heap[k]?) : RD w' rb l g := by
  obtain ⟨ao, n, cap, a, c0, c1, c2, fr, h1, h2, h3, h4, h5, h6⟩ := h
  have cc : ∀ p : Addr, p.block ≤ rb → w'.cell? p = w.cell? p := fun p hp => World.cell?_of_block (w := w) (w' := w') (hk _ hp)
  refine ⟨ao, n, cap, a, (cc _ (Nat.le_refl _)).trans c0, (cc _ (Nat.le_refl _)).trans c1, (cc _ (Nat.le_refl _)).trans c2, fun o => (World.frozen?_of_block (w := w) (w' := w') (hk _ (Nat.le_refl _))).trans (fr o), h1, h2, h3, h4, h5, ?_⟩
  rcases h6 with h6 | ⟨pb, po, e, hne, h7⟩
  · exact Or.inl h6
  · exact Or.inr ⟨pb, po, e, hne, fun i hi => (cc _ (by show pb ≤ rb; omega)).trans (h7 i hi)⟩
theorem OwnR.but {w w' : World} {B : Nat} {v : Value} {l : List (Int × Int)} {X : Nat → Prop} (h : OwnR w B v l) (hb : But X w w') (hx : ∀ b, B ≤ b → ¬ X b) : OwnR w' B v l :=
  h.kept fun k hk => hb.block k (h.lt k hk).2 (hx k (h.lt k hk).1)
theorem Bk.grown {w w' : World} {b : Nat} {cs : Array Value} {o : Option Nat} (h : Bk w b cs) (hg : w.grownBy w' o) (hn : o ≠ some b) : Bk w' b cs := by
  have hl := h.lt
  obtain ⟨T, h⟩ := h
  exact ⟨T, (hg.block b hl (fun e => hn e.symm)).trans h⟩
theorem XI.lit {w : World} {X : Nat → Prop} {t : RX} {f : Nat → Value} (h : XI w X t f) : ∃ k a1 n1 c1 lo hi z a2 n2 c2, xa f = .agg #[.int .i64 k, .slice a1 n1 c1, .int .i64 lo, .int .i64 hi, .bool z, .slice a2 n2 c2] := by
  cases h with
  | mk ao cap G f0 f1 f2 f3 f4 f5 hc hw hl hr =>
    obtain ⟨a1, c1, e1, _⟩ := f1.shape
    exact ⟨_, a1, _, c1, _, _, _, ao, _, cap, by unfold xa; rw [f0, e1, f2, f3, f4, f5]⟩
theorem turnG_len : ∀ (m : List (Int × Int)) (f : Int), (turnG m f).length ≤ m.length + 1
  | [], f => by unfold turnG; split <;> simp
  | r :: m, f => by
    unfold turnG
    have := turnG_len m (r.2 + 1)
    split <;> simp only [List.length_cons] <;> omega
theorem turn_len (l : List (Int × Int)) : (turnL l).length ≤ l.length + 1 := by
  have h1 := turnG_len (mergeL l) 0
  have h2 := merge_len l
  unfold turnL; omega
/-- A tree and what is left, or the panic. -/
def TreeR (x : Option (RX × List Int)) (rb : Nat) (g : Int) (w : World) (r : Ending) (w' : World) : Prop :=
  But (· = rb) w w' ∧ match x with
    | none => r = stopX
    | some y => ∃ f, r = .returned (xa f) ∧ XI w' (· < w.heap.size) y.1 f ∧ RD w' rb y.2 g
abbrev zX : Array Value := #[.int .i64 0, .slice none 0 0, .int .i64 0, .int .i64 0, .bool false, .slice none 0 0]

set_option maxRecDepth 100000 in
set_option maxHeartbeats 3200000 in
theorem class_any (w : World) (rb : Nat) (l : List Int) (g : Int) (hT : Tab w) (hrb : ¬ 0 = rb) (h : RD w rb l g) :
    Calls Tryz.prog 147 #[.pointer (some ⟨rb, 0, none⟩)] w (TreeR (classL l) rb g w) := by
  obtain ⟨P, hP⟩ : ∃ P, P = TreeR (classL l) rb g w := ⟨_, rfl⟩
  rw [← hP]
  have HP := hid_intro hP
  have HT := hid_intro hT
  have HN := hid_intro hrb
  have hrl := h.lt
  have hll := h.len
  have hR0 : RD (w.alloc (.cells #[.int .i64 0, .slice none 0 0, .int .i64 0, .int .i64 0, .bool false, .slice none 0 0] 31)) rb l g := h.below (vb_a (Below.refl _ _) _)
  have hB0 : But (· = rb) w (w.alloc (.cells #[.int .i64 0, .slice none 0 0, .int .i64 0, .int .i64 0, .bool false, .slice none 0 0] 31)) := (But.refl _ _).alloc _
  have k0 : Bk (w.alloc (.cells #[.int .i64 0, .slice none 0 0, .int .i64 0, .int .i64 0, .bool false, .slice none 0 0] 31)) w.heap.size zX := Bk.new _ _ _
  have hnr : ¬ w.heap.size = rb := by omega
  clear hP hT hrb h
  have ht1 := take_any _ rb l g ⟨#[94]⟩ (by decide) hR0
  have i1 : ints ⟨#[94]⟩ = [94] := rfl
  rw [i1] at ht1
  obtain ⟨tb, htb⟩ : ∃ tb, startsW [94] l = tb := ⟨_, rfl⟩
  obtain ⟨l1, hl1⟩ : ∃ l1, rest [94] l = l1 := ⟨_, rfl⟩
  rw [htb, hl1] at ht1
  have hl1l : l1.length ≤ l.length := by rw [← hl1]; unfold rest; split <;> simp
  have HE0 : Hid (classL l = match itemsG (l.length + 1) [] l1 with
    | none => none
    | some y => some (setX (if tb = true then turnL y.1 else y.1), y.2)) := hid_intro (by
    unfold classL
    have : (if startsW [94] l = true then l.drop 1 else l) = l1 := by rw [← hl1]; rfl
    rw [this, htb]
    cases itemsG (l.length + 1) [] l1 <;> rfl)
  clear htb hl1 i1
  go_enter Tryz.func147, Tryz.ntmps147
  go_wp2_with fail
  refine ht1.mono ?_; rintro r w1 ⟨rfl, hb1, hr1⟩
  have HB1 := hid_intro (hB0.trans hb1)
  have HR1 := hid_intro hr1
  have HK1 := hid_intro (k0.but hb1 hnr)
  have hw1 : w.heap.size < w1.heap.size := Nat.lt_of_lt_of_le (by simp) hb1.size
  have HL := hid_intro (And.intro hll hl1l)
  clear hb1 hr1 k0 ht1 hR0 hB0 hll hl1l
  go_wp2_with fail
  go_loopg [4] l1.length (fun m s4 wr => ∃ (n : Nat) (acc : List (Int × Int)) (l' : List Int), m = l'.length ∧ l'.length < n ∧ Hid (acc.length + 16 * l'.length ≤ 65536) ∧ OwnR wr w1.heap.size s4 acc ∧ Hid (itemsG n acc l' = itemsG (l.length + 1) [] l1) ∧ But (· = rb) w wr ∧ w1.heap.size ≤ wr.heap.size ∧ RD wr rb l' g ∧ Bk wr w.heap.size zX)
  case atStart => exact ⟨l.length + 1, [], l1, rfl, by have := HL.out; omega, by have := HL.out; show [].length + _ ≤ _; simp; omega, OwnR.nil _ _, rfl, HB1.out, Nat.le_refl _, HR1.out, HK1.out⟩
  case round =>
    clear HB1 HR1 HK1 HL
    obtain ⟨n, acc, l', rfl, hn, HA, hown, HG, hb, hsz, hR, hk⟩ := hrel
    obtain ⟨n, rfl⟩ : ∃ n', n = n' + 1 := ⟨n - 1, by omega⟩
    have ht := take_any wr rb l' g ⟨#[93]⟩ (by decide) hR
    have i1 : ints ⟨#[93]⟩ = [93] := rfl
    rw [i1] at ht
    have HTr : Hid (Tab wr) := hid_intro (hb.tab HT.out HN.out)
    have hxo : ∀ b, w1.heap.size ≤ b → ¬ b = rb := fun b hb => by omega
    cases s1 : startsW [93] l'
    · have r1 : rest [93] l' = l' := by unfold rest; rw [s1]; rfl
      rw [s1, r1] at ht
      have hit := fun w (hT : Tab w) (h : RD w rb l' g) => item_any w rb l' g hT HN.out h
      cases e1 : itemL l' with
      | none =>
        rw [e1] at hit
        have HE : Hid (classL l = none) := hid_intro (by
          rw [HE0.out, ← HG.out]
          simp only [itemsG, s1, e1, Bool.false_eq_true, reduceIte])
        clear HG s1 r1 i1 e1 hR hown hk HA
        go_wp2_with fail
        refine ht.mono ?_; rintro r w2 ⟨rfl, hb2, hr2⟩
        go_wp2_with fail
        refine (hit _ (hb2.tab HTr.out HN.out) hr2).mono ?_; rintro r w3 ⟨hb3, rfl⟩
        go_wp2_with fail
        refine ⟨rfl, ?_⟩
        rw [HP.out, HE.out]
        exact ⟨(hb.trans hb2).trans hb3, rfl⟩
      | some y =>
        obtain ⟨rs, l2⟩ := y
        rw [e1] at hit
        have hrl2 := itemL_rl e1
        have hlen := itemL_len _ _ e1
        simp only at hrl2 hlen
        have HG2 : Hid (itemsG n (acc ++ rs) l2 = itemsG (l.length + 1) [] l1) := hid_intro (by
          rw [← HG.out]
          conv => rhs; unfold itemsG
          simp only [s1, e1, Bool.false_eq_true, reduceIte])
        have HA2 : Hid ((acc ++ rs).length + 16 * l2.length ≤ 65536) := hid_intro (by have := HA.out; rw [List.length_append]; omega)
        have hal : acc.length ≤ 65536 := by have := HA.out; omega
        have HLN := hid_intro hlen
        have HOW := hid_intro hown
        have HKK := hid_intro hk
        clear HG s1 r1 i1 e1 hR hown hk HA hlen
        go_wp2_with fail
        refine ht.mono ?_; rintro r w2 ⟨rfl, hb2, hr2⟩
        go_wp2_with fail
        refine (hit _ (hb2.tab HTr.out HN.out) hr2).mono ?_; rintro r w3 ⟨hb3, v3, rfl, hri3, hr3⟩
        have HO3 := hid_intro ((HOW.out.but hb2 hxo).but hb3 hxo)
        have HK3 := hid_intro ((HKK.out.but hb2 hnr).but hb3 hnr)
        have HB3 := hid_intro ((hb.trans hb2).trans hb3)
        have HR3 := hid_intro hr3
        have HS3 := hid_intro (Nat.le_trans hsz (Nat.le_trans hb2.size hb3.size))
        have HRI := hid_intro hri3
        clear hb2 hb3 hr2 hr3 hri3
        go_wp2_with (at_builtin; refine wpList_append_rngs rfl _ _ rfl w1.heap.size _ v3 acc rs rfl HO3.out HS3.out ?cS _ HRI.out hrl2.1 rfl ?_)
        case cS => have := hrl2.2; omega
        intro v' w4 ho4 hg4
        have hlt := HO3.out.lt
        have hb4 : But (· = rb) w w4 := HB3.out.grown hg4 (fun b hb => Or.inr (by have := (hlt b hb).1; omega))
        have hr4 : RD w4 rb l2 g := HR3.out.carry (fun k hk => hg4.block k (by have := HR3.out.lt; omega) (fun e => by have := (hlt k e.symm).1; omega))
        have hk4 : Bk w4 w.heap.size zX := HK3.out.grown hg4 (fun e => by have := (hlt _ e).1; omega)
        have HX := hid_intro (And.intro ho4 (And.intro hb4 (And.intro hr4 (And.intro hk4 (Nat.le_trans HS3.out hg4.size)))))
        clear ho4 hg4 hb4 hr4 hk4 hlt
        go_wp2_with fail
        go_roundg l2.length
        case measure => have := HLN.out; omega
        case rel => exact ⟨n, acc ++ rs, l2, rfl, by have := HLN.out; omega, HA2, HX.out.1, HG2, HX.out.2.1, HX.out.2.2.2.2, HX.out.2.2.1, HX.out.2.2.2.1⟩
    · have r1 : rest [93] l' = l'.drop 1 := by unfold rest; rw [s1]; rfl
      rw [s1, r1] at ht
      have hal : acc.length ≤ 65536 := by have := HA.out; omega
      have HOW := hid_intro hown
      have HKK := hid_intro hk
      cases tb
      · have HE : Hid (classL l = some (setX acc, l'.drop 1)) := hid_intro (by
          rw [HE0.out, ← HG.out]
          simp only [itemsG, s1, Bool.false_eq_true, reduceIte])
        clear HG s1 r1 i1 hR hown hk HA HE0
        go_wp2_with fail
        refine ht.mono ?_; rintro r w2 ⟨rfl, hb2, hr2⟩
        have hso := setOf_any acc _ w2 (fun _ => False) ((HOW.out.but hb2 hxo).ri _ (fun _ _ h => h)) (by omega)
        have HZ := hid_intro hb2.size
        go_wp2_with fail
        refine hso.mono ?_; rintro r w3 ⟨f, rfl, hx3, hb3⟩
        have kk := (((HKK.out.but hb2 hnr)).bel hb3)
        obtain ⟨c0, c1, c2, c3, c4, c5⟩ := kk.c6
        obtain ⟨z0, z1, z2, z3, z4, z5⟩ := kk.z6
        have HBW := hid_intro ((hb.trans hb2).below hb3)
        have HXI := hid_intro (hx3.weak (Y := fun b => b < w.heap.size + 1) (fun b hb => by have := HZ.out; omega))
        have HRD := hid_intro (hr2.below hb3)
        obtain ⟨k_, a1, n1, q1, lo, hi, z, a2, n2, q2, ef⟩ := HXI.out.lit
        have HEF := hid_intro ef
        rw [ef]
        clear kk ef
        go_wp2_with fail
        refine bodyPost_ret (v := .agg #[.int .i64 k_, .slice a1 n1 q1, .int .i64 lo, .int .i64 hi, .bool z, .slice a2 n2 q2]) (by simp [results, Tryz.results147, go_sem, c0, c1, c2, c3, c4, c5]) rfl ?_
        rw [HP.out, HE.out]
        refine ⟨?_, f, by rw [HEF.out], XI.weak (X := fun b => b < w.heap.size + 1) ?_ (fun b hb => by omega), ?_⟩
        · with_reducible repeat (first | exact HBW.out | refine But.set ?_ (Or.inr (Nat.le_refl _)) _)
        · with_reducible repeat (first | exact HXI.out | refine XI.set ?_ (Nat.lt_succ_self _) _)
        · with_reducible repeat (first | exact HRD.out | refine RD.away ?_ hrl _)
      · have HE : Hid (classL l = some (setX (turnL acc), l'.drop 1)) := hid_intro (by
          rw [HE0.out, ← HG.out]
          simp only [itemsG, s1, reduceIte])
        clear HG s1 r1 i1 hR hown hk HA HE0
        go_wp2_with fail
        refine ht.mono ?_; rintro r w2 ⟨rfl, hb2, hr2⟩
        have htn := turn_any acc _ w2 (fun _ => False) ((HOW.out.but hb2 hxo).ri _ (fun _ _ h => h)) (by omega)
        have HZ := hid_intro hb2.size
        go_wp2_with fail
        refine htn.mono ?_; rintro r w3 ⟨v3, rfl, ho3, hb3⟩
        have hso := setOf_any (turnL acc) v3 w3 (fun _ => False) (ho3.ri _ (fun _ _ h => h)) (by have := turn_len acc; omega)
        go_wp2_with fail
        refine hso.mono ?_; rintro r w4 ⟨f, rfl, hx4, hb4⟩
        have kk := ((((HKK.out.but hb2 hnr)).bel hb3).bel hb4)
        obtain ⟨c0, c1, c2, c3, c4, c5⟩ := kk.c6
        obtain ⟨z0, z1, z2, z3, z4, z5⟩ := kk.z6
        have HBW := hid_intro (((hb.trans hb2).below hb3).below hb4)
        have HXI := hid_intro (hx4.weak (Y := fun b => b < w.heap.size + 1) (fun b hb => by have := HZ.out; have := hb3.size; omega))
        have HRD := hid_intro ((hr2.below hb3).below hb4)
        obtain ⟨k_, a1, n1, q1, lo, hi, z, a2, n2, q2, ef⟩ := HXI.out.lit
        have HEF := hid_intro ef
        rw [ef]
        clear kk ef
        go_wp2_with fail
        refine bodyPost_ret (v := .agg #[.int .i64 k_, .slice a1 n1 q1, .int .i64 lo, .int .i64 hi, .bool z, .slice a2 n2 q2]) (by simp [results, Tryz.results147, go_sem, c0, c1, c2, c3, c4, c5]) rfl ?_
        rw [HP.out, HE.out]
        refine ⟨?_, f, by rw [HEF.out], XI.weak (X := fun b => b < w.heap.size + 1) ?_ (fun b hb => by omega), ?_⟩
        · with_reducible repeat (first | exact HBW.out | refine But.set ?_ (Or.inr (Nat.le_refl _)) _)
        · with_reducible repeat (first | exact HXI.out | refine XI.set ?_ (Nat.lt_succ_self _) _)
        · with_reducible repeat (first | exact HRD.out | refine RD.away ?_ hrl _)
end Go.Proofs.YtoinlmfodmgohaaGreatDoor

namespace Go.Proofs.YtoinlmfodmgohaaGreatDoor
open Go.RowKit
attribute [local go_sem] setCell_drewN alloc_drewN

abbrev PX := RX × (Nat → Value)
def flat6 (ps : List PX) : List Value := ps.flatMap fun p => [p.2 0, p.2 1, p.2 2, p.2 3, p.2 4, p.2 5]
theorem flat6_len (ps : List PX) : (flat6 ps).length = ps.length * 6 := by
  induction ps with
  | nil => rfl
  | cons r l ih => simp only [flat6, List.flatMap_cons, List.length_append, List.length_cons, List.length_nil] at ih ⊢; omega
def px (ps : List PX) (i : Nat) : PX := ps.getD i (.mk 0 [] 0 0 false [], fun _ => .nilIface)
theorem px_mem {ps : List PX} {i : Nat} (h : i < ps.length) : px ps i ∈ ps := by
  unfold px; rw [List.getD_eq_getElem?_getD, List.getElem?_eq_getElem h]; exact List.getElem_mem h
theorem px_get {ps : List PX} {i : Nat} (h : i < ps.length) : px ps i = ps[i] := by
  unfold px; rw [List.getD_eq_getElem?_getD, List.getElem?_eq_getElem h]; rfl
theorem flat6_at (ps : List PX) (i j : Nat) (h : i < ps.length) (hj : j < 6) : (flat6 ps)[i * 6 + j]? = some ((px ps i).2 j) := by
  induction ps generalizing i with
  | nil => simp at h
  | cons r l ih =>
    cases i with
    | zero =>
      match j, hj with
      | 0, _ => rfl
      | 1, _ => rfl
      | 2, _ => rfl
      | 3, _ => rfl
      | 4, _ => rfl
      | 5, _ => rfl
    | succ i =>
      have := ih i (by simpa using h)
      have e : px (r :: l) (i + 1) = px l i := rfl
      rw [e, show (i + 1) * 6 + j = (i * 6 + j) + 6 by omega]
      exact this
/-- A row of trees of the call's own. -/
def OwnX (w : World) (B : Nat) (v : Value) (ps : List PX) : Prop := w.ownsRow B 31 6 v ps.length (flat6 ps) ∧ ∀ p ∈ ps, XI w (fun b => b < B ∨ v.ownBlock = some b) p.1 p.2
theorem OwnX.nil (w : World) (B : Nat) : OwnX w B (.slice none 0 0) [] := ⟨World.ownsRow_nil w B _ 6, fun r hr => by simp at hr⟩
theorem OwnX.lt {w : World} {B : Nat} {v : Value} {ps : List PX} (h : OwnX w B v ps) : ∀ k, v.ownBlock = some k → B ≤ k ∧ k < w.heap.size := h.1.lt
theorem OwnX.but {w w' : World} {B : Nat} {v : Value} {ps : List PX} {X : Nat → Prop} (h : OwnX w B v ps) (hb : But X w w') (hx : ∀ b, X b → b < B) : OwnX w' B v ps := by
  have hlt := h.lt
  obtain ⟨⟨h1, h2⟩, h3⟩ := h
  refine ⟨⟨h1, ?_⟩, fun p hp => (h3 p hp).but hb (fun b hb => Or.inl (hx b hb))⟩
  rcases h2 with h2 | ⟨g, cap, cur, rfl, hB, hg, rest⟩
  · exact Or.inl h2
  · exact Or.inr ⟨g, cap, cur, rfl, hB, by rw [hb.block g (hlt g rfl).2 (fun hx' => by have := hx g hx'; omega)]; exact hg, rest⟩
theorem OwnX.below {w w' : World} {B : Nat} {v : Value} {ps : List PX} (h : OwnX w B v ps) (hb : Below w.heap.size w w') : OwnX w' B v ps := h.but (X := fun _ => False) (But.ofBelow hb) (fun _ h => h.elim)
theorem OwnX.shape {w : World} {B : Nat} {v : Value} {ps : List PX} (h : OwnX w B v ps) : ∃ ao cap, v = .slice ao ps.length cap := by
  rcases h.1.2 with ⟨rfl, hn⟩ | ⟨g, cap, cur, rfl, _⟩
  · exact ⟨none, 0, by rw [hn]⟩
  · exact ⟨_, cap, rfl⟩
theorem infoRx : (Tryz.prog.info? 31).map (fun i => (i.zero, i.size, i.bytes)) = some (some (.agg #[.int .i64 0, .slice none 0 0, .int .i64 0, .int .i64 0, .bool false, .slice none 0 0]), 6, 80) := by kernel_rfl
theorem one6 {w : World} {X : Nat → Prop} {t : RX} {f : Nat → Value} (h : XI w X t f) : (f 0).oneCell' = true ∧ (f 1).oneCell' = true ∧ (f 2).oneCell' = true ∧ (f 3).oneCell' = true ∧ (f 4).oneCell' = true ∧ (f 5).oneCell' = true := by
  cases h with
  | mk ao cap G f0 f1 f2 f3 f4 f5 hc hw hl hr =>
    obtain ⟨a1, c1, e1, _⟩ := f1.shape
    rw [f0, e1, f2, f3, f4, f5]
    exact ⟨rfl, rfl, rfl, rfl, rfl, rfl⟩
/-- One tree more. -/
theorem wpList_append_tree {W : World} {ops : Array Oper} {rest : List Oper} {o : Oper} {a : Act} {Q : Exit → Act → World → Prop} (hgd : o.guard = none) (s x : Operand)
    (ho : o.op = .call { callee := .builtin .append, args := #[s, x], argTypes := #[29, 29] })
    (B : Nat) (v : Value) (ps : List PX) (t : RX) (f : Nat → Value) (hs : a.eval s = v) (hown : OwnX W B v ps) (hB : B ≤ W.heap.size) (hsz : ps.length + 1 ≤ 1073741824) (hx : XI W (fun b => b < B ∨ v.ownBlock = some b) t f)
    (tb : Nat) (hxv : a.eval x = .slice (some ⟨tb, 0, none⟩) 1 1) (hc : Bk W tb #[f 0, f 1, f 2, f 3, f 4, f 5])
    (h : ∀ v' w', OwnX w' B v' (ps ++ [(t, f)]) → W.grownBy w' v.ownBlock → wpList Tryz.prog ops Q rest (a.put o.dst v') w') :
    wpList Tryz.prog ops Q (o :: rest) a W := by
  obtain ⟨i0, hi, hz0, hz1, hz2⟩ := info_parts infoRx
  have hlt := hown.lt
  obtain ⟨o0, o1, o2, o3, o4, o5⟩ := one6 hx
  refine wpList_append_own_at _ hgd s x 29 ho B 31 i0 _ 6 80 Tryz.underlying29 hi hz0 hz1 hz2 rfl (by decide) v ps.length (flat6 ps) hs hown.1 ⟨tb, 0, none⟩ 1 1 [f 0, f 1, f 2, f 3, f 4, f 5] hxv rfl ?_ ?_ ?_ ?_ hB ?_
  · intro j u hj
    rw [add_at, Nat.zero_add, hc.cell j]
    match j, hj with
    | 0, hj => exact hj
    | 1, hj => exact hj
    | 2, hj => exact hj
    | 3, hj => exact hj
    | 4, hj => exact hj
    | 5, hj => exact hj
  · intro u hu
    simp only [List.mem_cons, List.not_mem_nil, or_false] at hu
    rcases hu with rfl | rfl | rfl | rfl | rfl | rfl <;> assumption
  · unfold maxLen; omega
  · omega
  · intro v' w' h1 h2 _ h4
    refine h v' w' ⟨?_, fun p hp => ?_⟩ h2
    · have : flat6 (ps ++ [(t, f)]) = flat6 ps ++ [f 0, f 1, f 2, f 3, f 4, f 5] := by simp [flat6]
      rw [this, List.length_append]
      exact h1
    · have key : ∀ b, ¬ (b < B ∨ v.ownBlock = some b) → b < W.heap.size → w'.heap[b]? = W.heap[b]? ∧ ¬ (b < B ∨ v'.ownBlock = some b) := fun b hb hl => by
        refine ⟨h2.block b hl (fun e => hb (Or.inr e.symm)), ?_⟩
        rintro (hb2 | hb2)
        · exact hb (Or.inl hb2)
        · rcases h4 with h4 | h4
          · exact hb (Or.inr (h4 ▸ hb2))
          · rw [h4] at hb2; simp at hb2; omega
      rcases List.mem_append.1 hp with hp | hp
      · exact (hown.2 p hp).carry key
      · obtain rfl : p = (t, f) := by simpa using hp
        exact hx.carry key
/-- A row of one. -/
theorem OwnX.lit {w : World} {B : Nat} {t : RX} {f : Nat → Value} {tb : Nat} (hc : w.heap[tb]? = some (.cells #[f 0, f 1, f 2, f 3, f 4, f 5] 31 (0, 0))) (hB : B ≤ tb) (hx : XI w (fun b => b < B ∨ tb = b) t f) : OwnX w B (.slice (some ⟨tb, 0, none⟩) 1 1) [(t, f)] := by
  refine ⟨⟨rfl, Or.inr ⟨tb, 1, _, rfl, hB, hc, Nat.le_refl _, by unfold maxLen; omega, rfl, rfl⟩⟩, fun p hp => ?_⟩
  obtain rfl : p = (t, f) := by simpa using hp
  exact hx.weak (fun b hb => by
    rcases hb with hb | hb
    · exact Or.inl hb
    · right; simpa [Value.ownBlock] using hb)

theorem xi_leaf (w : World) (X : Nat → Prop) (k : Int) (hk : I64 k) : XI w X (leaf k) (fun i => [Value.int .i64 k, .slice none 0 0, .int .i64 0, .int .i64 0, .bool false, .slice none 0 0].getD i .nilIface) :=
  XI.mk none 0 (fun _ _ => .nilIface) rfl (RI.nil _ _) rfl rfl rfl rfl ⟨Nat.le_refl _, by unfold maxLen; omega⟩ ⟨hk, I64_of (by omega) (by omega), I64_of (by omega) (by omega)⟩ (Or.inl rfl) (fun i hi => by simp at hi)
set_option maxRecDepth 100000 in
set_option maxHeartbeats 1600000 in
theorem together_any (k : Int) (hk : I64 k) (v : Value) (ps : List PX) (w : World) (B : Nat) (hown : OwnX w B v ps) (hl : ps.length ≤ 1073741824) :
    Calls Tryz.prog 123 #[.int .i64 k, v] w fun r w' => ∃ f, r = .returned (xa f) ∧ XI w' (· < B) (together k (ps.map (·.1))) f ∧ Below w.heap.size w w' := by
  have hxs := hown.2
  have hlt := hown.lt
  obtain ⟨ao, cap, hsh⟩ := hown.shape
  rcases ps with _ | ⟨p, _ | ⟨q, ps⟩⟩
  · subst hsh
    go_enter Tryz.func123, Tryz.ntmps123
    go_wp2_with fail
    refine bodyPost_ret (v := .agg #[.int .i64 1, .slice none 0 0, .int .i64 0, .int .i64 0, .bool false, .slice none 0 0]) (by simp [results, Tryz.results123, go_sem]) rfl ?_
    refine ⟨_, rfl, xi_leaf _ _ 1 (I64_of (by omega) (by omega)), ?_⟩
    with_reducible repeat (first | exact Below.refl _ _ | refine vb_a ?_ _ | refine vb_s ?_ (Nat.le_refl _) _)
  · obtain ⟨t, f⟩ := p
    have hx := (hxs (t, f) (by simp)).weak (Y := (· < B)) (fun b hb => Or.inl hb)
    have ho := hown.1
    rcases ho.2 with ⟨_, hn⟩ | ⟨g, cap', cur, hv, hB, hg, hc, hm, hs, ht⟩
    · simp at hn
    rw [hv] at hsh ho
    injection hsh with e1 _ e2
    subst e1 e2
    subst hv
    have cel : ∀ j, j < 6 → w.cell? ⟨g, j, none⟩ = some (f j) := fun j hj => by
      have := (ho.cellAt j (by simp; omega)).trans (flat6_at [(t, f)] 0 j (by simp) hj |> fun h => by simpa using h)
      exact this
    obtain ⟨k_, a1, n1, q1, lo, hi, z, a2, n2, q2, ef⟩ := hx.lit
    unfold xa at ef
    injection ef with ef
    simp only [Array.mk.injEq, List.cons.injEq, and_true] at ef
    obtain ⟨g0, g1, g2, g3, g4, g5⟩ := ef
    have d0 := (cel 0 (by omega)).trans (congrArg some g0)
    have d1 := (cel 1 (by omega)).trans (congrArg some g1)
    have d2 := (cel 2 (by omega)).trans (congrArg some g2)
    have d3 := (cel 3 (by omega)).trans (congrArg some g3)
    have d4 := (cel 4 (by omega)).trans (congrArg some g4)
    have d5 := (cel 5 (by omega)).trans (congrArg some g5)
    have hgl := (hlt g rfl).2
    have HX := hid_intro hx
    have HEF : Hid (xa f = .agg #[.int .i64 k_, .slice a1 n1 q1, .int .i64 lo, .int .i64 hi, .bool z, .slice a2 n2 q2]) := hid_intro (by unfold xa; rw [g0, g1, g2, g3, g4, g5])
    clear cel g0 g1 g2 g3 g4 g5 hx hxs hown ho hlt hg ht hs hc hm hl
    go_enter Tryz.func123, Tryz.ntmps123
    go_wp2_with fail
    refine bodyPost_ret (v := .agg #[.int .i64 k_, .slice a1 n1 q1, .int .i64 lo, .int .i64 hi, .bool z, .slice a2 n2 q2]) (by simp [results, Tryz.results123, go_sem]) rfl ?_
    refine ⟨f, by rw [HEF.out], HX.out.kept ?_, ?_⟩ <;> with_reducible repeat (first | exact Below.refl _ _ | refine vb_a ?_ _ | refine vb_s ?_ (Nat.le_refl _) _)
  · have ho := hown.1
    have hnz : ((((p :: q :: ps).length : Nat) : Int) == 0) = false := by rw [beq_eq_false_iff_ne]; simp only [List.length_cons]; omega
    have hno : ((((p :: q :: ps).length : Nat) : Int) == 1) = false := by rw [beq_eq_false_iff_ne]; simp only [List.length_cons]; omega
    have htg : together k ((p :: q :: ps).map (·.1)) = .mk k [] 0 0 false ((p :: q :: ps).map (·.1)) := rfl
    rw [htg]
    generalize hps : p :: q :: ps = ps' at *
    rcases ho.2 with ⟨_, hn⟩ | ⟨g, cap', cur, hv, hB, hg, hc, hm, hs, ht⟩
    · rw [← hps] at hn; simp at hn
    rw [hv] at hsh ho
    injection hsh with e1 _ e2
    subst e1 e2
    subst hv
    have cel : ∀ i, i < ps'.length → ∀ j, j < 6 → w.cell? ⟨g, i * 6 + j, none⟩ = some ((px ps' i).2 j) := fun i hi j hj => (ho.cellAt (i * 6 + j) (by omega)).trans (flat6_at ps' i j hi hj)
    have HX : ∀ w', Below w.heap.size w w' → XI w' (· < B) (.mk k [] 0 0 false (ps'.map (·.1))) (fun i => [Value.int .i64 k, .slice none 0 0, .int .i64 0, .int .i64 0, .bool false, .slice (some ⟨g, 0, none⟩) ps'.length cap'].getD i .nilIface) := fun w' hb => by
      refine XI.mk (some ⟨g, 0, none⟩) cap' (fun i => (px ps' i).2) rfl (RI.nil _ _) rfl rfl rfl (by simp) ⟨by simpa using hc, hm⟩ ⟨hk, I64_of (by omega) (by omega), I64_of (by omega) (by omega)⟩ (Or.inr ⟨g, 0, rfl, by omega, fun i hi j hj => ?_⟩) (fun i hi => ?_)
      · have hi' : i < ps'.length := by simpa using hi
        rw [Nat.zero_add]
        exact (hb.cell (p := ⟨g, i * 6 + j, none⟩) (World.block_lt_of_cell? w _ (cel i hi' j hj))).trans (cel i hi' j hj)
      · have hi' : i < ps'.length := by simpa using hi
        have := (hxs _ (px_mem hi')).weak (Y := (· < B)) (fun b hb => Or.inl hb)
        have e : (ps'.map (·.1))[i] = (px ps' i).1 := by rw [px_get hi']; simp
        rw [e]
        exact this.kept hb
    have HXH := hid_intro HX
    clear HX cel hxs hown ho hlt hg ht hs hc hm hl htg hps
    go_enter Tryz.func123, Tryz.ntmps123
    go_wp2_with fail
    refine bodyPost_ret (v := .agg #[.int .i64 k, .slice none 0 0, .int .i64 0, .int .i64 0, .bool false, .slice (some ⟨g, 0, none⟩) ps'.length cap']) (by simp [results, Tryz.results123, go_sem]) rfl ?_
    refine ⟨_, rfl, HXH.out _ ?_, ?_⟩ <;> with_reducible repeat (first | exact Below.refl _ _ | refine vb_a ?_ _ | refine vb_s ?_ (Nat.le_refl _) _)
end Go.Proofs.YtoinlmfodmgohaaGreatDoor
