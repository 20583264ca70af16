/-
  (*reader).class. Conditions: the table of greatest code points holds its four numbers.
-/
import Derived.Test.YtppilokmgdpnnaaGreatDoorJoined19
namespace Go.Proofs.YtppilokmgdpnnaaGreatDoor
open Go.RowKit
attribute [local go_sem] setCell_drewN alloc_drewN

theorem namedBy_len {c : Int} {s : List (Int × Int)} (h : namedBy c = some s) : s ≠ [] ∧ s.length ≤ 16 := by
  unfold namedBy at h
  repeat' (split at h)
  all_goals first
    | (simp at h; done)
    | (simp only [Option.some.injEq] at h; subst h; decide)
theorem escapeL_rl {l : List Int} {y : Mark × List Int} (h : escapeL l = some y) : y.1.ranges ≠ [] ∧ y.1.ranges.length ≤ 16 := by
  unfold escapeL at h
  split at h
  · simp at h
  · split at h
    · rename_i e
      simp only [Option.some.injEq] at h; subst h
      exact namedBy_len e
    · split at h
      · simp at h
      · simp only [Option.some.injEq] at h; subst h
        exact ⟨by simp [Mark.ranges], by simp [Mark.ranges]⟩
theorem markL_rl {l : List Int} {y : Mark × List Int} (h : markL l = some y) : y.1.ranges ≠ [] ∧ y.1.ranges.length ≤ 16 := by
  unfold markL at h
  have one : ∀ (p : Int) (l2 : List Int), some (Mark.one p, l2) = some y → y.1.ranges ≠ [] ∧ y.1.ranges.length ≤ 16 := fun p l2 h => by
    simp only [Option.some.injEq] at h; subst h
    exact ⟨by simp [Mark.ranges], by simp [Mark.ranges]⟩
  split at h
  · exact one _ _ h
  split at h
  · exact one _ _ h
  split at h
  · exact escapeL_rl h
  split at h
  · simp at h
  · exact one _ _ h
theorem itemL_rl {l : List Int} {y : List (Int × Int) × List Int} (h : itemL l = some y) : y.1 ≠ [] ∧ y.1.length ≤ 16 := by
  unfold itemL at h
  split at h
  · simp at h
  · rename_i e
    split at h
    · simp only [Option.some.injEq] at h; subst h
      exact markL_rl e
    · split at h
      · simp at h
      · rename_i m _ _ _ m2 _ _
        split at h
        · simp at h
        · rename_i r e3
          simp only [Option.some.injEq] at h; subst h
          cases m <;> cases m2 <;> simp only [between] at e3
          all_goals first
            | (simp at e3; done)
            | (split at e3
               · simp at e3
               · simp only [Option.some.injEq] at e3; subst e3; exact ⟨by simp, by simp⟩)
theorem RD.carry {w w' : World} {rb : Nat} {l : List Int} {g : Int} (h : RD w rb l g) (hk : ∀ k, k ≤ rb → w'.heap[k]? = w.heap[k]?) : RD w' rb l g := by
  obtain ⟨ao, n, cap, a, c0, c1, c2, fr, h1, h2, h3, h4, h5, h6⟩ := h
  have cc : ∀ p : Addr, p.block ≤ rb → w'.cell? p = w.cell? p := fun p hp => World.cell?_of_block (w := w) (w' := w') (hk _ hp)
  refine ⟨ao, n, cap, a, (cc _ (Nat.le_refl _)).trans c0, (cc _ (Nat.le_refl _)).trans c1, (cc _ (Nat.le_refl _)).trans c2, fun o => (World.frozen?_of_block (w := w) (w' := w') (hk _ (Nat.le_refl _))).trans (fr o), h1, h2, h3, h4, h5, ?_⟩
  rcases h6 with h6 | ⟨pb, po, e, hne, h7⟩
  · exact Or.inl h6
  · exact Or.inr ⟨pb, po, e, hne, fun i hi => (cc _ (by show pb ≤ rb; omega)).trans (h7 i hi)⟩
theorem OwnR.but {w w' : World} {B : Nat} {v : Value} {l : List (Int × Int)} {X : Nat → Prop} (h : OwnR w B v l) (hb : But X w w') (hx : ∀ b, B ≤ b → ¬ X b) : OwnR w' B v l :=
  h.kept fun k hk => hb.block k (h.lt k hk).2 (hx k (h.lt k hk).1)
theorem Bk.grown {w w' : World} {b : Nat} {cs : Array Value} {o : Option Nat} (h : Bk w b cs) (hg : w.grownBy w' o) (hn : o ≠ some b) : Bk w' b cs := by
  have hl := h.lt
  obtain ⟨T, h⟩ := h
  exact ⟨T, (hg.block b hl (fun e => hn e.symm)).trans h⟩
theorem XI.lit {w : World} {X : Nat → Prop} {t : RX} {f : Nat → Value} (h : XI w X t f) : ∃ k a1 n1 c1 lo hi z a2 n2 c2, xa f = .agg #[.int .i64 k, .slice a1 n1 c1, .int .i64 lo, .int .i64 hi, .bool z, .slice a2 n2 c2] := by
  cases h with
  | mk ao cap G f0 f1 f2 f3 f4 f5 hc hw hl hr =>
    obtain ⟨a1, c1, e1, _⟩ := f1.shape
    exact ⟨_, a1, _, c1, _, _, _, ao, _, cap, by unfold xa; rw [f0, e1, f2, f3, f4, f5]⟩
theorem turnG_len : ∀ (m : List (Int × Int)) (f : Int), (turnG m f).length ≤ m.length + 1
  | [], f => by unfold turnG; split <;> simp
  | r :: m, f => by
    unfold turnG
    have := turnG_len m (r.2 + 1)
    split <;> simp only [List.length_cons] <;> omega
theorem turn_len (l : List (Int × Int)) : (turnL l).length ≤ l.length + 1 := by
  have h1 := turnG_len (mergeL l) 0
  have h2 := merge_len l
  unfold turnL; omega
/-- A tree and what is left, or the panic. -/
def TreeR (x : Option (RX × List Int)) (rb : Nat) (g : Int) (w : World) (r : Ending) (w' : World) : Prop :=
  But (· = rb) w w' ∧ match x with
    | none => r = stopX
    | some y => ∃ f, r = .returned (xa f) ∧ XI w' (· < w.heap.size) y.1 f ∧ RD w' rb y.2 g
abbrev zX : Array Value := #[.int .i64 0, .slice none 0 0, .int .i64 0, .int .i64 0, .bool false, .slice none 0 0]

set_option maxRecDepth 100000 in
set_option maxHeartbeats 3200000 in
theorem class_any (w : World) (rb : Nat) (l : List Int) (g : Int) (hT : Tab w) (hrb : ¬ 0 = rb) (h : RD w rb l g) :
    Calls Tryz.prog 72 #[.pointer (some ⟨rb, 0, none⟩)] w (TreeR (classL l) rb g w) := by
  obtain ⟨P, hP⟩ : ∃ P, P = TreeR (classL l) rb g w := ⟨_, rfl⟩
  rw [← hP]
  have HP := hid_intro hP
  have HT := hid_intro hT
  have HN := hid_intro hrb
  have hrl := h.lt
  have hll := h.len
  have hR0 : RD (w.alloc (.cells #[.int .i64 0, .slice none 0 0, .int .i64 0, .int .i64 0, .bool false, .slice none 0 0] 26)) rb l g := h.below (vb_a (Below.refl _ _) _)
  have hB0 : But (· = rb) w (w.alloc (.cells #[.int .i64 0, .slice none 0 0, .int .i64 0, .int .i64 0, .bool false, .slice none 0 0] 26)) := (But.refl _ _).alloc _
  have k0 : Bk (w.alloc (.cells #[.int .i64 0, .slice none 0 0, .int .i64 0, .int .i64 0, .bool false, .slice none 0 0] 26)) w.heap.size zX := Bk.new _ _ _
  have hnr : ¬ w.heap.size = rb := by omega
  clear hP hT hrb h
  have ht1 := take_any _ rb l g ⟨#[94]⟩ (by decide) hR0
  have i1 : ints ⟨#[94]⟩ = [94] := rfl
  rw [i1] at ht1
  obtain ⟨tb, htb⟩ : ∃ tb, startsW [94] l = tb := ⟨_, rfl⟩
  obtain ⟨l1, hl1⟩ : ∃ l1, rest [94] l = l1 := ⟨_, rfl⟩
  rw [htb, hl1] at ht1
  have hl1l : l1.length ≤ l.length := by rw [← hl1]; unfold rest; split <;> simp
  have HE0 : Hid (classL l = match itemsG (l.length + 1) [] l1 with
    | none => none
    | some y => some (setX (if tb = true then turnL y.1 else y.1), y.2)) := hid_intro (by
    unfold classL
    have : (if startsW [94] l = true then l.drop 1 else l) = l1 := by rw [← hl1]; rfl
    rw [this, htb]
    cases itemsG (l.length + 1) [] l1 <;> rfl)
  clear htb hl1 i1
  go_enter Tryz.func72, Tryz.ntmps72
  go_wp2_with fail
  refine ht1.mono ?_; rintro r w1 ⟨rfl, hb1, hr1⟩
  have HB1 := hid_intro (hB0.trans hb1)
  have HR1 := hid_intro hr1
  have HK1 := hid_intro (k0.but hb1 hnr)
  have hw1 : w.heap.size < w1.heap.size := Nat.lt_of_lt_of_le (by simp) hb1.size
  have HL := hid_intro (And.intro hll hl1l)
  clear hb1 hr1 k0 ht1 hR0 hB0 hll hl1l
  go_wp2_with fail
  go_loopg [4] l1.length (fun m s4 wr => ∃ (n : Nat) (acc : List (Int × Int)) (l' : List Int), m = l'.length ∧ l'.length < n ∧ Hid (acc.length + 16 * l'.length ≤ 65536) ∧ OwnR wr w1.heap.size s4 acc ∧ Hid (itemsG n acc l' = itemsG (l.length + 1) [] l1) ∧ But (· = rb) w wr ∧ w1.heap.size ≤ wr.heap.size ∧ RD wr rb l' g ∧ Bk wr w.heap.size zX)
  case atStart => exact ⟨l.length + 1, [], l1, rfl, by have := HL.out; omega, by have := HL.out; show [].length + _ ≤ _; simp; omega, OwnR.nil _ _, rfl, HB1.out, Nat.le_refl _, HR1.out, HK1.out⟩
  case round =>
    clear HB1 HR1 HK1 HL
    obtain ⟨n, acc, l', rfl, hn, HA, hown, HG, hb, hsz, hR, hk⟩ := hrel
    obtain ⟨n, rfl⟩ : ∃ n', n = n' + 1 := ⟨n - 1, by omega⟩
    have ht := take_any wr rb l' g ⟨#[93]⟩ (by decide) hR
    have i1 : ints ⟨#[93]⟩ = [93] := rfl
    rw [i1] at ht
    have HTr : Hid (Tab wr) := hid_intro (hb.tab HT.out HN.out)
    have hxo : ∀ b, w1.heap.size ≤ b → ¬ b = rb := fun b hb => by omega
    cases s1 : startsW [93] l'
    · have r1 : rest [93] l' = l' := by unfold rest; rw [s1]; rfl
      rw [s1, r1] at ht
      have hit := fun w (hT : Tab w) (h : RD w rb l' g) => item_any w rb l' g hT HN.out h
      cases e1 : itemL l' with
      | none =>
        rw [e1] at hit
        have HE : Hid (classL l = none) := hid_intro (by
          rw [HE0.out, ← HG.out]
          simp only [itemsG, s1, e1, Bool.false_eq_true, reduceIte])
        clear HG s1 r1 i1 e1 hR hown hk HA
        go_wp2_with fail
        refine ht.mono ?_; rintro r w2 ⟨rfl, hb2, hr2⟩
        go_wp2_with fail
        refine (hit _ (hb2.tab HTr.out HN.out) hr2).mono ?_; rintro r w3 ⟨hb3, rfl⟩
        go_wp2_with fail
        refine ⟨rfl, ?_⟩
        rw [HP.out, HE.out]
        exact ⟨(hb.trans hb2).trans hb3, rfl⟩
      | some y =>
        obtain ⟨rs, l2⟩ := y
        rw [e1] at hit
        have hrl2 := itemL_rl e1
        have hlen := itemL_len _ _ e1
        simp only at hrl2 hlen
        have HG2 : Hid (itemsG n (acc ++ rs) l2 = itemsG (l.length + 1) [] l1) := hid_intro (by
          rw [← HG.out]
          conv => rhs; unfold itemsG
          simp only [s1, e1, Bool.false_eq_true, reduceIte])
        have HA2 : Hid ((acc ++ rs).length + 16 * l2.length ≤ 65536) := hid_intro (by have := HA.out; rw [List.length_append]; omega)
        have hal : acc.length ≤ 65536 := by have := HA.out; omega
        have HLN := hid_intro hlen
        have HOW := hid_intro hown
        have HKK := hid_intro hk
        clear HG s1 r1 i1 e1 hR hown hk HA hlen
        go_wp2_with fail
        refine ht.mono ?_; rintro r w2 ⟨rfl, hb2, hr2⟩
        go_wp2_with fail
        refine (hit _ (hb2.tab HTr.out HN.out) hr2).mono ?_; rintro r w3 ⟨hb3, v3, rfl, hri3, hr3⟩
        have HO3 := hid_intro ((HOW.out.but hb2 hxo).but hb3 hxo)
        have HK3 := hid_intro ((HKK.out.but hb2 hnr).but hb3 hnr)
        have HB3 := hid_intro ((hb.trans hb2).trans hb3)
        have HR3 := hid_intro hr3
        have HS3 := hid_intro (Nat.le_trans hsz (Nat.le_trans hb2.size hb3.size))
        have HRI := hid_intro hri3
        clear hb2 hb3 hr2 hr3 hri3
        go_wp2_with (at_builtin; refine wpList_append_rngs rfl _ _ rfl w1.heap.size _ v3 acc rs rfl HO3.out HS3.out ?cS _ HRI.out hrl2.1 rfl ?_)
        case cS => have := hrl2.2; omega
        intro v' w4 ho4 hg4
        have hlt := HO3.out.lt
        have hb4 : But (· = rb) w w4 := HB3.out.grown hg4 (fun b hb => Or.inr (by have := (hlt b hb).1; omega))
        have hr4 : RD w4 rb l2 g := HR3.out.carry (fun k hk => hg4.block k (by have := HR3.out.lt; omega) (fun e => by have := (hlt k e.symm).1; omega))
        have hk4 : Bk w4 w.heap.size zX := HK3.out.grown hg4 (fun e => by have := (hlt _ e).1; omega)
        have HX := hid_intro (And.intro ho4 (And.intro hb4 (And.intro hr4 (And.intro hk4 (Nat.le_trans HS3.out hg4.size)))))
        clear ho4 hg4 hb4 hr4 hk4 hlt
        go_wp2_with fail
        go_roundg l2.length
        case measure => have := HLN.out; omega
        case rel => exact ⟨n, acc ++ rs, l2, rfl, by have := HLN.out; omega, HA2, HX.out.1, HG2, HX.out.2.1, HX.out.2.2.2.2, HX.out.2.2.1, HX.out.2.2.2.1⟩
    · have r1 : rest [93] l' = l'.drop 1 := by unfold rest; rw [s1]; rfl
      rw [s1, r1] at ht
      have hal : acc.length ≤ 65536 := by have := HA.out; omega
      have HOW := hid_intro hown
      have HKK := hid_intro hk
      cases tb
      · have HE : Hid (classL l = some (setX acc, l'.drop 1)) := hid_intro (by
          rw [HE0.out, ← HG.out]
          simp only [itemsG, s1, Bool.false_eq_true, reduceIte])
        clear HG s1 r1 i1 hR hown hk HA HE0
        go_wp2_with fail
        refine ht.mono ?_; rintro r w2 ⟨rfl, hb2, hr2⟩
        have hso := setOf_any acc _ w2 (fun _ => False) ((HOW.out.but hb2 hxo).ri _ (fun _ _ h => h)) (by omega)
        have HZ := hid_intro hb2.size
        go_wp2_with fail
        refine hso.mono ?_; rintro r w3 ⟨f, rfl, hx3, hb3⟩
        have kk := (((HKK.out.but hb2 hnr)).bel hb3)
        obtain ⟨c0, c1, c2, c3, c4, c5⟩ := kk.c6
        obtain ⟨z0, z1, z2, z3, z4, z5⟩ := kk.z6
        have HBW := hid_intro ((hb.trans hb2).below hb3)
        have HXI := hid_intro (hx3.weak (Y := fun b => b < w.heap.size + 1) (fun b hb => by have := HZ.out; omega))
        have HRD := hid_intro (hr2.below hb3)
        obtain ⟨k_, a1, n1, q1, lo, hi, z, a2, n2, q2, ef⟩ := HXI.out.lit
        have HEF := hid_intro ef
        rw [ef]
        clear kk ef
        go_wp2_with fail
        refine bodyPost_ret (v := .agg #[.int .i64 k_, .slice a1 n1 q1, .int .i64 lo, .int .i64 hi, .bool z, .slice a2 n2 q2]) (by simp [results, Tryz.results72, go_sem, c0, c1, c2, c3, c4, c5]) rfl ?_
        rw [HP.out, HE.out]
        refine ⟨?_, f, by rw [HEF.out], XI.weak (X := fun b => b < w.heap.size + 1) ?_ (fun b hb => by omega), ?_⟩
        · with_reducible repeat (first | exact HBW.out | refine But.set ?_ (Or.inr (Nat.le_refl _)) _)
        · with_reducible repeat (first | exact HXI.out | refine XI.set ?_ (Nat.lt_succ_self _) _)
        · with_reducible repeat (first | exact HRD.out | refine RD.away ?_ hrl _)
      · have HE : Hid (classL l = some (setX (turnL acc), l'.drop 1)) := hid_intro (by
          rw [HE0.out, ← HG.out]
          simp only [itemsG, s1, reduceIte])
        clear HG s1 r1 i1 hR hown hk HA HE0
        go_wp2_with fail
        refine ht.mono ?_; rintro r w2 ⟨rfl, hb2, hr2⟩
        have htn := turn_any acc _ w2 (fun _ => False) ((HOW.out.but hb2 hxo).ri _ (fun _ _ h => h)) (by omega)
        have HZ := hid_intro hb2.size
        go_wp2_with fail
        refine htn.mono ?_; rintro r w3 ⟨v3, rfl, ho3, hb3⟩
        have hso := setOf_any (turnL acc) v3 w3 (fun _ => False) (ho3.ri _ (fun _ _ h => h)) (by have := turn_len acc; omega)
        go_wp2_with fail
        refine hso.mono ?_; rintro r w4 ⟨f, rfl, hx4, hb4⟩
        have kk := ((((HKK.out.but hb2 hnr)).bel hb3).bel hb4)
        obtain ⟨c0, c1, c2, c3, c4, c5⟩ := kk.c6
        obtain ⟨z0, z1, z2, z3, z4, z5⟩ := kk.z6
        have HBW := hid_intro (((hb.trans hb2).below hb3).below hb4)
        have HXI := hid_intro (hx4.weak (Y := fun b => b < w.heap.size + 1) (fun b hb => by have := HZ.out; have := hb3.size; omega))
        have HRD := hid_intro ((hr2.below hb3).below hb4)
        obtain ⟨k_, a1, n1, q1, lo, hi, z, a2, n2, q2, ef⟩ := HXI.out.lit
        have HEF := hid_intro ef
        rw [ef]
        clear kk ef
        go_wp2_with fail
        refine bodyPost_ret (v := .agg #[.int .i64 k_, .slice a1 n1 q1, .int .i64 lo, .int .i64 hi, .bool z, .slice a2 n2 q2]) (by simp [results, Tryz.results72, go_sem, c0, c1, c2, c3, c4, c5]) rfl ?_
        rw [HP.out, HE.out]
        refine ⟨?_, f, by rw [HEF.out], XI.weak (X := fun b => b < w.heap.size + 1) ?_ (fun b hb => by omega), ?_⟩
        · with_reducible repeat (first | exact HBW.out | refine But.set ?_ (Or.inr (Nat.le_refl _)) _)
        · with_reducible repeat (first | exact HXI.out | refine XI.set ?_ (Nat.lt_succ_self _) _)
        · with_reducible repeat (first | exact HRD.out | refine RD.away ?_ hrl _)
end Go.Proofs.YtppilokmgdpnnaaGreatDoor
