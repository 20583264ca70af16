/-
  The document's Real; Ints. Conditions: none.
-/
import Derived.Test.YtnlgeiofkfkhbaaJoined2
namespace Go.Proofs.Ytnlgeiofkfkhbaa
open Go.RowKit Go.Maps
attribute [local go_sem] setCell_drewN alloc_drewN

/-- Is a path a cycle of edges? -/
def realB (n : Int) (E : List Ed) (p : List Int) : Bool := decide (0 < p.length) && (List.range p.length).all fun i => hasE n E (ia p i) (ia p ((i + 1) % p.length))
theorem realB_no {n : Int} {E : List Ed} {p : List Int} {i : Nat} (hi : i < p.length) (h : hasE n E (ia p i) (ia p ((i + 1) % p.length)) = false) : realB n E p = false := by
 unfold realB
 have : ((List.range p.length).all fun i => hasE n E (ia p i) (ia p ((i + 1) % p.length))) = false := by
  rw [List.all_eq_false]
  exact ⟨i, List.mem_range.2 hi, by rw [h]; simp⟩
 rw [this, Bool.and_false]
theorem realB_all {n : Int} {E : List Ed} {p : List Int} (h : ∀ i, i < p.length → hasE n E (ia p i) (ia p ((i + 1) % p.length)) = true) : realB n E p = decide (0 < p.length) := by
 unfold realB
 have : ((List.range p.length).all fun i => hasE n E (ia p i) (ia p ((i + 1) % p.length))) = true := by
  rw [List.all_eq_true]
  exact fun i hi => h i (List.mem_range.1 hi)
 rw [this, Bool.and_true]

set_option maxRecDepth 100000 in
set_option maxHeartbeats 3200000 in
theorem rreal_any (n : Int) (E : List Ed) (v pv : Value) (p : List Int) (w : World) (hE : EdI w v E) (hp : II w (fun _ => False) p pv) :
  Calls Try.prog 13 #[.int .i64 n, v, pv] w fun r w' => r = .returned (.bool (realB n E p)) ∧ Below w.heap.size w w' := by
 obtain ⟨P, hP⟩ : ∃ P : Ending → World → Prop, P = fun r w' => r = .returned (.bool (realB n E p)) ∧ Below w.heap.size w w' := ⟨_, rfl⟩
 rw [← hP]
 have HP := hid_intro hP
 have HD : Hid (∀ (a b : Int) (w' : World), Below w.heap.size w w' → Calls Try.prog 24 #[.int .i64 n, v, .int .i64 a, .int .i64 b] w' fun r w2 => r = .returned (.bool (hasE n E a b)) ∧ Below w'.heap.size w' w2) := hid_intro (fun a b w' hb => edge_any n E v a b w' (hE.below hb))
 have HII : Hid (∀ w', Below w.heap.size w w' → II w' (fun _ => False) p pv) := hid_intro (fun w' hb => hp.kept hb)
 obtain ⟨eo, ec, rfl, _⟩ := hE
 obtain ⟨ao, cap, rfl, hc1, hc2, _, _⟩ := hp
 have hcI : (p.length : Int) ≤ (cap : Int) := by omega
 have hmI : (cap : Int) ≤ 9223372036854775807 := by unfold maxLen at hc2; omega
 clear hP hc1 hc2
 go_enter Try.func13, Try.ntmps13
 go_wp2_with fail
 go_loopg [7] (p.length) (fun g s7 wr => ∃ i : Nat, g = p.length - i ∧ s7 = .int .i64 (i : Int) ∧ Hid (Below w.heap.size w wr ∧ i ≤ p.length ∧ ∀ j, j < i → hasE n E (ia p j) (ia p ((j + 1) % p.length)) = true))
 case atStart => exact ⟨0, rfl, rfl, hid_intro ⟨Below.refl _ _, Nat.zero_le _, fun j h => by omega⟩⟩
 case round =>
  obtain ⟨i, rfl, rfl, HI⟩ := hrel
  by_cases hlt : i < p.length
  ·have hI : (i : Int) < (p.length : Int) := by omega
   have h0 : ¬ p = [] := fun e => by rw [e] at hlt; simp at hlt
   have h00 : ¬ (p.length : Int) = 0 := by omega
   have hw : IntKind.i64.wrap ((i : Int) + 1) = (i : Int) + 1 := by simp [IntKind.wrap, IntKind.bits, IntKind.signed]; omega
   obtain ⟨k, hk⟩ : ∃ k, (i + 1) % p.length = k := ⟨_, rfl⟩
   have hkl : k < p.length := by rw [← hk]; exact Nat.mod_lt _ (by omega)
   have hr : ((i : Int) + 1).tmod (p.length : Int) = (k : Int) := by
    rw [Int.tmod_eq_emod_of_nonneg (by omega), ← hk]
    push_cast
    rfl
   have hkI : (k : Int) < (p.length : Int) := by omega
   have HS0 : Hid (∀ w', Below w.heap.size w w' → ∃ b off, ao = some ⟨b, off, none⟩ ∧ ∀ j, j < p.length → w'.cell? ⟨b, off + j, none⟩ = some (.int .i64 (ia p j))) := hid_intro (fun w' hb => by
    obtain ⟨ao', cap', e, _, _, _, h4⟩ := HII.out w' hb
    injection e with e1 e2 e3
    subst e1
    obtain ⟨b, off, h5, _, h7⟩ := h4.resolve_left (fun e => by rw [e] at hlt; simp at hlt)
    exact ⟨b, off, h5, h7⟩)
   obtain ⟨b, off, hao, _⟩ := HS0.out w (Below.refl _ _)
   subst hao
   have HS : Hid (∀ w', Below w.heap.size w w' → w'.cell? ⟨b, off + i, none⟩ = some (.int .i64 (ia p i)) ∧ w'.cell? ⟨b, off + k, none⟩ = some (.int .i64 (ia p k))) := hid_intro (fun w' hb => by
    obtain ⟨b', off', e, h7⟩ := HS0.out w' hb
    injection e with e
    injection e with e1 e2 _
    subst e1 e2
    exact ⟨h7 i hlt, h7 k hkl⟩)
   have HDD : Hid (∀ w', Below w.heap.size w w' → Calls Try.prog 24 #[.int .i64 n, .slice eo E.length ec, .int .i64 (ia p i), .int .i64 (ia p k)] w' fun r w2 => r = .returned (.bool (hasE n E (ia p i) (ia p k))) ∧ Below w.heap.size w w2) := hid_intro (fun w' hb => (HD.out _ _ w' hb).mono fun r w2 hr => ⟨hr.1, vb_t hb hr.2⟩)
   have HKK := hid_intro hk
   have hc := HI.out.1
   have HLT := hid_intro hlt
   clear HS0 HII HD hk hkl hlt
   cases hx : hasE n E (ia p i) (ia p k) with
   | false =>
    rw [hx] at HDD
    have HX := hid_intro hx
    clear hx
    go_wp2_with fail
    go_region_held3 (fun w' => w'.cell? ⟨b, off + i, none⟩ = some (.int .i64 (ia p i)) ∧ w'.cell? ⟨b, off + k, none⟩ = some (.int .i64 (ia p k))) (first | (refine HS.out _ ?_; (with_reducible repeat (first | exact hc | refine vb_d ?_)); done) | fail) (first | (go_at_call 24; refine (HDD.out _ ?_).mono ?_; (with_reducible repeat (first | exact hc | refine vb_d ?_)); rintro r8 w8 ⟨rfl, hc⟩) | fail)
    all_goals
     go_wp2_with fail
     rw [HP.out]
     exact ⟨by rw [realB_no HLT.out (by rw [HKK.out]; exact HX.out)]; rfl, by with_reducible repeat (first | exact hc | refine vb_d ?_)⟩
   | true =>
    rw [hx] at HDD
    have HX := hid_intro hx
    clear hx
    go_wp2_with fail
    go_region_held3 (fun w' => w'.cell? ⟨b, off + i, none⟩ = some (.int .i64 (ia p i)) ∧ w'.cell? ⟨b, off + k, none⟩ = some (.int .i64 (ia p k))) (first | (refine HS.out _ ?_; (with_reducible repeat (first | exact hc | refine vb_d ?_)); done) | fail) (first | (go_at_call 24; refine (HDD.out _ ?_).mono ?_; (with_reducible repeat (first | exact hc | refine vb_d ?_)); rintro r8 w8 ⟨rfl, hc⟩) | fail)
    all_goals
     go_wp2_with fail
     go_roundg (p.length - (i + 1))
     case measure => have := HLT.out; omega
     case rel => exact ⟨i + 1, rfl, by go_num, hid_intro ⟨by with_reducible repeat (first | exact hc | refine vb_d ?_), HLT.out, fun j hj => by
      by_cases e : j = i
      ·subst e; rw [HKK.out]; exact HX.out
      ·exact HI.out.2.2 j (by omega)⟩⟩
  ·have hI : ¬ (i : Int) < (p.length : Int) := by omega
   have he : i = p.length := by have := HI.out.2.1; omega
   have HR := hid_intro (realB_all (fun j hj => HI.out.2.2 j (by omega)))
   by_cases h0 : 0 < p.length
   ·have h0I : (0 : Int) < (p.length : Int) := by omega
    go_wp2_with fail
    rw [HP.out]
    exact ⟨by rw [HR.out, decide_eq_true h0], HI.out.1⟩
   ·have h0I : ¬ (0 : Int) < (p.length : Int) := by omega
    go_wp2_with fail
    rw [HP.out]
    exact ⟨by rw [HR.out, decide_eq_false h0], HI.out.1⟩
end Go.Proofs.Ytnlgeiofkfkhbaa
