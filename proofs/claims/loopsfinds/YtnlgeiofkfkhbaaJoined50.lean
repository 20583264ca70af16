/-
  heads: what the six laws ask at three numbers. No condition.
-/
import Derived.Test.YtnlgeiofkfkhbaaJoined47
import Derived.Test.YtnlgeiofkfkhbaaJoined32
import Derived.Test.YtnlgeiofkfkhbaaJoined49
namespace Go.Proofs.Ytnlgeiofkfkhbaa
open Go.RowKit Go.Maps Lg
attribute [local go_sem] setCell_drewN alloc_drewN

theorem hasE_prs {n : Int} {E : List Ed} {a b : Nat} (h : (a, b) ∈ prs n E) : hasE n E (a : Int) (b : Int) = true := by
 unfold prs at h
 obtain ⟨e, he, h2⟩ := List.mem_map.1 h
 obtain ⟨he1, he2⟩ := List.mem_filter.1 he
 have hc := cnt_in he2
 injection h2 with h3 h4
 unfold hasE
 rw [List.any_eq_true]
 refine ⟨e, he1, ?_⟩
 unfold mt
 rw [he2]
 simp
 omega
theorem prs_hasE {n : Int} {E : List Ed} {a b : Int} (h : hasE n E a b = true) : 0 ≤ a ∧ 0 ≤ b ∧ (a.toNat, b.toNat) ∈ prs n E := by
 unfold hasE at h
 rw [List.any_eq_true] at h
 obtain ⟨e, he, h2⟩ := h
 unfold mt at h2
 simp only [Bool.and_eq_true, decide_eq_true_eq] at h2
 have hc := cnt_in h2.1
 refine ⟨by omega, by omega, ?_⟩
 unfold prs
 refine List.mem_map.2 ⟨e, List.mem_filter.2 ⟨he, h2.1⟩, ?_⟩
 rw [h2.2.1, h2.2.2]
theorem chAt {R : Nat → List Nat} : ∀ {c : List Nat}, Ch R c → ∀ i (h : i + 1 < c.length), c[i + 1] ∈ R c[i]
 | [], _, i, h => by simp at h
 | [_], _, i, h => by simp at h
 | a :: b :: l, hc, 0, _ => hc.1
 | a :: b :: l, hc, i + 1, h => chAt (c := b :: l) hc.2 i (by simpa using h)
/-- A cycle of the net is one, as the document says it. -/
theorem cyc_real {n : Int} {E : List Ed} {c : List Nat} (h : Cyc (rowOf (prs n E)) c) : realB n E (il c) = true := by
 obtain ⟨l, v, t, hc, hch, hh, ht⟩ := h
 have hlen : c.length = l.length + 1 := by rw [hc]; simp
 have hpos : 0 < (il c).length := by rw [il_len]; omega
 rw [realB_all (fun i hi => ?_), decide_eq_true hpos]
 rw [il_len] at hi ⊢
 rw [il_at hi]
 by_cases k : i + 1 < c.length
 ·rw [Nat.mod_eq_of_lt k, il_at k]
  exact hasE_prs (mem_rowOf.1 (chAt hch i k))
 ·have e : i + 1 = c.length := by omega
  rw [e, Nat.mod_self, il_at (by omega : 0 < c.length)]
  have e1 : c[0] = t := by
   rw [List.head?_eq_getElem?, List.getElem?_eq_getElem (by omega)] at hh
   injection hh
  have e2 : c[i] = v := by
   subst hc
   rw [List.getElem_append_right (by omega)]
   simp
  rw [e1, e2]
  exact hasE_prs (mem_rowOf.1 ht)
/-- The three edges. -/
def E3 : List Ed := [⟨0, 1, ⟨#[]⟩, true, ⟨#[]⟩⟩, ⟨1, 2, ⟨#[]⟩, true, ⟨#[]⟩⟩, ⟨2, 1, ⟨#[]⟩, true, ⟨#[]⟩⟩]
def E2 : List Ed := [⟨0, 1, ⟨#[]⟩, true, ⟨#[]⟩⟩, ⟨1, 2, ⟨#[]⟩, true, ⟨#[]⟩⟩]
theorem prs3 : prs 3 E3 = [(0, 1), (1, 2), (2, 1)] := rfl
theorem prs2 : prs 3 E2 = [(0, 1), (1, 2)] := rfl
def R2 (x : Nat) : Nat := if x = 0 then 2 else if x = 1 then 1 else 0
theorem rank2 : Rank (rowOf (prs 3 E2)) R2 := by
 rw [prs2]
 refine ⟨fun v y hy => ?_, fun v => ?_⟩
 ·rw [mem_rowOf] at hy
  simp at hy
  rcases hy with ⟨rfl, rfl⟩ | ⟨rfl, rfl⟩
  ·simp [R2]
  ·simp [R2]
 ·by_cases h0 : v = 0
  ·subst h0
   exact .inr ⟨1, by rw [mem_rowOf]; simp, by simp [R2]⟩
  ·by_cases h1 : v = 1
   ·subst h1
    exact .inr ⟨2, by rw [mem_rowOf]; simp, by simp [R2]⟩
   ·exact .inl (by simp [R2, h0, h1])
theorem free2 : ¬ Cy (prs 3 E2) := fun ⟨_, _, hy, hr⟩ => rank2.free hy hr
theorem cy3 : Cy (prs 3 E3) := by
 rw [prs3]
 exact ⟨1, 2, by rw [mem_rowOf]; simp, .step (b := 1) (by rw [mem_rowOf]; simp) (.refl 1)⟩
def P3 (x : Nat) : Nat := if x = 2 then 1 else x
theorem part3 : IsPart (rowOf (prs 3 E3)) P3 := by
 rw [prs3]
 have m : ∀ a b, b ∈ rowOf [(0, 1), (1, 2), (2, 1)] a ↔ (a = 0 ∧ b = 1) ∨ (a = 1 ∧ b = 2) ∨ (a = 2 ∧ b = 1) := fun a b => by rw [mem_rowOf]; simp
 have no0 : ∀ a b, Rch (rowOf [(0, 1), (1, 2), (2, 1)]) a b → b = 0 → a = 0 := fun a b h => by
  induction h with
  | refl a => exact fun e => e
  | step hb _ ih =>
   intro e
   have := ih e
   have := (m _ _).1 hb
   omega
 have big : ∀ a b, Rch (rowOf [(0, 1), (1, 2), (2, 1)]) a b → a ≠ b → a ≤ 2 ∧ b ≤ 2 := fun a b h => by
  induction h with
  | refl a => exact fun e => absurd rfl e
  | @step a b c hb _ ih =>
   intro _
   have h1 := (m _ _).1 hb
   by_cases e : b = c
   ·subst e; omega
   ·have := ih e; omega
 intro v
 refine ⟨?_, fun k hk => ?_⟩
 ·by_cases h : v = 2
  ·subst h
   exact ⟨.one ((m 1 2).2 (by simp)), .one ((m 2 1).2 (by simp))⟩
  ·rw [show P3 v = v by simp [P3, h]]; exact Mut.refl _ _
 ·unfold P3
  by_cases e : k = v
  ·subst e; split <;> omega
  ·have h1 := big _ _ hk.1 e
   by_cases h0 : k = 0
   ·have := no0 _ _ hk.2 h0
    omega
   ·split <;> omega
theorem edi3 (w : World) (b : Nat) (vs : Array Value) (h : Bk w b vs) (hv : vs = #[.int .i64 0, .int .i64 1, .string ⟨#[]⟩, .bool true, .string ⟨#[]⟩, .int .i64 1, .int .i64 2, .string ⟨#[]⟩, .bool true, .string ⟨#[]⟩, .int .i64 2, .int .i64 1, .string ⟨#[]⟩, .bool true, .string ⟨#[]⟩]) :
  EdI w (.slice (some ⟨b, 0, none⟩) 3 3) E3 ∧ EdI w (.slice (some ⟨b, 0, none⟩) 2 3) E2 := by
 subst hv
 refine ⟨⟨_, 3, rfl, by decide, by decide, .inr ⟨b, 0, rfl, h.lt, fun i hi => ?_⟩⟩, ⟨_, 3, rfl, by decide, by decide, .inr ⟨b, 0, rfl, h.lt, fun i hi => ?_⟩⟩⟩
 ·have : i = 0 ∨ i = 1 ∨ i = 2 := by have : i < 3 := hi; omega
  rcases this with rfl | rfl | rfl
  ·exact ⟨h.cell 0, h.cell 1, h.cell 2, h.cell 3, h.cell 4⟩
  ·exact ⟨h.cell 5, h.cell 6, h.cell 7, h.cell 8, h.cell 9⟩
  ·exact ⟨h.cell 10, h.cell 11, h.cell 12, h.cell 13, h.cell 14⟩
 ·have : i = 0 ∨ i = 1 := by have : i < 2 := hi; omega
  rcases this with rfl | rfl
  ·exact ⟨h.cell 0, h.cell 1, h.cell 2, h.cell 3, h.cell 4⟩
  ·exact ⟨h.cell 5, h.cell 6, h.cell 7, h.cell 8, h.cell 9⟩
theorem ii3 (w : World) (a b c : Int) (T : TypeId) (ha : I64 a) (hb : I64 b) (hc : I64 c) : II (w.alloc (.cells #[.int .i64 a, .int .i64 b, .int .i64 c] T)) (fun _ => False) [a, b, c] (.slice (some ⟨w.heap.size, 0, none⟩) 3 3) := by
 have h := Bk.new w #[.int .i64 a, .int .i64 b, .int .i64 c] T
 refine ⟨_, 3, rfl, by simp, by decide, fun x hx => ?_, .inr ⟨_, 0, rfl, fun h => h, fun i hi => ?_⟩⟩
 ·simp at hx
  rcases hx with rfl | rfl | rfl
  ·exact ha
  ·exact hb
  ·exact hc
 ·have : i = 0 ∨ i = 1 ∨ i = 2 := by have : i < 3 := hi; omega
  rcases this with rfl | rfl | rfl
  ·exact h.cell 0
  ·exact h.cell 1
  ·exact h.cell 2

set_option maxRecDepth 100000 in
set_option maxHeartbeats 3200000 in
theorem heads_any (w : World) : Calls Try.prog 9 #[] w fun r w' => r = .returned (.bool true) ∧ Below w.heap.size w w' := by
 obtain ⟨Q0, hQ0⟩ : ∃ P' : Ending → World → Prop, P' = fun r w' => r = .returned (.bool true) ∧ Below w.heap.size w w' := ⟨_, rfl⟩
 rw [← hQ0]
 have HQ := hid_intro hQ0
 clear hQ0
 go_enter Try.func9, Try.ntmps9
 go_wp2_with fail
 obtain ⟨W1, hW1⟩ : ∃ W1, w.alloc (.cells #[.int .i64 0, .int .i64 1, .string ⟨#[]⟩, .bool true, .string ⟨#[]⟩, .int .i64 1, .int .i64 2, .string ⟨#[]⟩, .bool true, .string ⟨#[]⟩, .int .i64 2, .int .i64 1, .string ⟨#[]⟩, .bool true, .string ⟨#[]⟩] 32) = W1 := ⟨_, rfl⟩
 have HE : Hid (∀ w', Below W1.heap.size W1 w' → EdI w' (.slice (some ⟨w.heap.size, 0, none⟩) 3 3) E3 ∧ EdI w' (.slice (some ⟨w.heap.size, 0, none⟩) 2 3) E2) := hid_intro (fun w' hb => by
  have h := edi3 W1 w.heap.size _ (by rw [← hW1]; exact Bk.new w _ _) rfl
  exact ⟨h.1.below hb, h.2.below hb⟩)
 have HB1 : Hid (Below w.heap.size w W1) := hid_intro (by rw [← hW1]; exact vb_a (Below.refl _ _) _)
 rw [hW1]
 clear hW1
 refine (cycle_any 3 (by omega) (by unfold I64; omega) E3 (by decide) _ W1 (HE.out W1 (Below.refl _ _)).1).mono ?_
 rintro r w2 ⟨hb2, v2, c2, rfl, ho2, hc2, hr2⟩
 have hne2 : c2 ≠ [] := hc2.2 cy3
 have HR2 := hid_intro (cyc_real (hr2 hne2))
 have HO2 := hid_intro (ho2.ii (fun _ => False) (fun _ _ h => h))
 have HB2 := hid_intro hb2
 have he2 : c2.isEmpty = false := by cases c2 <;> simp_all
 rw [he2]
 clear hb2 ho2 hc2 hr2 hne2 he2
 go_wp2_with fail
 refine (cycle_any 3 (by omega) (by unfold I64; omega) E2 (by decide) _ w2 (HE.out w2 HB2.out).2).mono ?_
 rintro r w3 ⟨hb3, v3, c3, rfl, ho3, hc3, hr3⟩
 have he3 : c3.isEmpty = true := by
  cases c3 with
  | nil => rfl
  | cons x c => exact absurd (hc3.1 (by simp)) free2
 rw [he3]
 have HB3 := hid_intro (vb_t HB2.out hb3)
 have HO3 := hid_intro (HO2.out.kept hb3)
 clear hb3 ho3 hc3 hr3 he3
 go_wp2_with fail
 refine (ranks_any 3 (by omega) (by unfold I64; omega) E2 (by decide) _ w3 (HE.out w3 HB3.out).2).mono ?_
 rintro r w4 ⟨hb4, hrr⟩
 obtain ⟨-, M, v4, hM, rfl, ho4⟩ := hrr.resolve_left (fun h => free2 h.1)
 have hme := hM.eq rank2
 have HO4 := hid_intro (ho4.ii (fun _ => False) (fun _ _ h => h))
 rw [hme] at HO4
 have HB4 := hid_intro (vb_t HB3.out hb4)
 have HP4 := hid_intro (HO3.out.kept hb4)
 clear hb4 hrr hM ho4 hme
 go_wp2_with fail
 refine (rreal_any 3 E3 _ v2 (il c2) w4 (HE.out w4 HB4.out).1 HP4.out).mono ?_
 rintro r w5 ⟨rfl, hb5⟩
 rw [HR2.out]
 have HO5 := hid_intro ((HO4.out.kept hb5).kept (vb_a (Below.refl _ _) (.cells #[.int .i64 2, .int .i64 1, .int .i64 0] 3)))
 have HB5 := hid_intro (vb_t HB4.out hb5)
 clear hb5
 go_wp2_with fail
 refine (ints_any _ _ v4 _ _ HO5.out (ii3 w5 2 1 0 3 (by unfold I64; omega) (by unfold I64; omega) (by unfold I64; omega))).mono ?_
 rintro r w6 ⟨rfl, hb6⟩
 have he6 : decide (outL R2 (Int.toNat 3) = [2, 1, 0]) = true := by decide
 rw [he6]
 have HB6 := hid_intro (vb_t (vb_t HB5.out (vb_a (Below.refl _ _) _)) hb6)
 clear hb6 he6
 go_wp2_with fail
 refine (parts_any 3 (by omega) (by unfold I64; omega) E3 (by decide) _ w6 (HE.out w6 HB6.out).1).mono ?_
 rintro r w7 ⟨hb7, P, pv, hP, rfl, ho7⟩
 have HO7 := hid_intro ((ho7.ii (fun _ => False) (fun _ _ h => h)).kept (vb_a (Below.refl _ _) (.cells #[.int .i64 0, .int .i64 1, .int .i64 1] 3)))
 rw [hP.eq part3] at HO7
 have HB7 := hid_intro (vb_t HB6.out hb7)
 clear hb7 hP ho7
 go_wp2_with fail
 refine (ints_any _ _ pv _ _ HO7.out (ii3 w7 0 1 1 3 (by unfold I64; omega) (by unfold I64; omega) (by unfold I64; omega))).mono ?_
 rintro r w8 ⟨rfl, hb8⟩
 have he8 : decide (outL P3 (Int.toNat 3) = [0, 1, 1]) = true := by decide
 rw [he8]
 have HB8 := hid_intro (vb_t (vb_t HB7.out (vb_a (Below.refl _ _) _)) hb8)
 clear hb8 he8
 go_wp2_with fail
 rw [HQ.out]
 exact ⟨rfl, HB1.out.trans (HB8.out.mono HB1.out.size)⟩
end Go.Proofs.Ytnlgeiofkfkhbaa
