/-
  Which rows of states may be, as the program asks it. Conditions: no row of ranges is longer than 2^40.
-/
import Derived.Test.YtcgohdfpmfpfiaaXC1
namespace Go.Proofs.Ytcgohdfpmfpfiaa
open Go.RowKit
attribute [local go_sem] setCell_drewN alloc_drewN

/-- May the states be? -/
def nfaB (l : List ST) : Bool := decide (l.length ≠ 0) && l.all (stB (l.length : Int))
theorem stB_at {l : List ST} {i : Nat} : sa l i = ⟨(sa l i).k, (sa l i).r, (sa l i).a, (sa l i).b⟩ := rfl
set_option maxRecDepth 100000 in
set_option maxHeartbeats 3200000 in
theorem nfaCheck_any (l : List ST) (v : Value) (w : World) (X : Nat → Prop) (hR : SI w X l v) (hl : ∀ s ∈ l, s.r.length ≤ 1099511627776) :
    Calls Try.prog 7 #[v] w fun e w' => e = .returned (.int .i64 (if nfaB l = true then 0 else 101)) ∧ Below w.heap.size w w' := by
  have hR0 := hR
  obtain ⟨ao, cap, rfl, hc, hcm, hok, hlie⟩ := hR
  have hlI : (l.length : Int) ≤ 9223372036854775807 := by unfold maxLen at hcm; omega
  obtain ⟨P, hP⟩ : ∃ P : Ending → World → Prop, P = fun e w' => e = .returned (.int .i64 (if nfaB l = true then 0 else 101)) ∧ Below w.heap.size w w' := ⟨_, rfl⟩
  rw [← hP]
  have HP := hid_intro hP
  clear hP
  by_cases h0 : l.length = 0
  · have HE : Hid (nfaB l = false) := hid_intro (by unfold nfaB; rw [decide_eq_false (by simpa using h0)]; rfl)
    have hI : (l.length : Int) = 0 := by omega
    clear hlie hR0 hok hl h0
    go_enter Try.func7, Try.ntmps7
    go_wp2_with fail
    rw [HP.out, HE.out]
    exact ⟨rfl, Below.refl _ _⟩
  · have hI0 : ((l.length : Int) == 0) = false := by rw [beq_eq_false_iff_ne]; omega
    have HE : Hid (nfaB l = l.all (stB (l.length : Int))) := hid_intro (by unfold nfaB; rw [decide_eq_true h0]; rfl)
    have HL : Hid (∀ w' i, Below w.heap.size w w' → i < l.length → ∃ b off v2 c2, ao = some ⟨b, off, none⟩ ∧ w'.cell? ⟨b, off + i * 4, none⟩ = some (.int .i64 (sa l i).k) ∧ w'.cell? ⟨b, off + i * 4 + 1, none⟩ = some (.slice v2 (sa l i).r.length c2) ∧ w'.cell? ⟨b, off + i * 4 + 2, none⟩ = some (.int .i64 (sa l i).a) ∧ w'.cell? ⟨b, off + i * 4 + 3, none⟩ = some (.int .i64 (sa l i).b) ∧ RI w' X (sa l i).r (.slice v2 (sa l i).r.length c2)) := hid_intro (fun w' i hb hi => by
      obtain ⟨ao', cap', e, _, _, _, hlie'⟩ := hR0.kept hb
      injection e with e1 _ e3
      rcases hlie' with h | ⟨b, off, G, h1, h2, h3⟩
      · rw [h] at hi; simp at hi
      · obtain ⟨⟨q0, q1, q2, q3⟩, hRi⟩ := h3 i hi
        obtain ⟨v2, c2, e2, _⟩ := hRi.shape
        rw [e2] at q1 hRi
        exact ⟨b, off, v2, c2, e1.trans h1, q0, q1, q2, q3, hRi⟩)
    have HM := hid_intro hl
    clear hlie hR0 hok hl h0
    go_enter Try.func7, Try.ntmps7
    go_wp2_with fail
    go_loopg [10] l.length (fun m s10 wr => ∃ j : Nat, j ≤ l.length ∧ m = l.length - j ∧ s10 = .int .i64 (j : Int) ∧ Hid (∀ i, i < j → stB (l.length : Int) (sa l i) = true) ∧ Hid (Below w.heap.size w wr))
    case atStart => exact ⟨0, Nat.zero_le _, rfl, rfl, fun i h => absurd h (by omega), Below.refl _ _⟩
    case round =>
      obtain ⟨j, hj, rfl, rfl, HA, HZ⟩ := hrel
      by_cases hlt : j < l.length
      · have hJ : (j : Int) < (l.length : Int) := by omega
        obtain ⟨b, off, v2, c2, rfl, q0, q1, q2, q3, hRi⟩ := HL.out wr j HZ.out hlt
        have hmb := fun w' (hb : Below wr.heap.size wr w') => mayS_any (sa l j).k (sa l j).r v2 c2 (sa l j).a (sa l j).b (l.length : Int) w' X (hRi.kept hb) (HM.out _ (sa_mem hlt))
        have HC := hid_intro hmb
        clear hmb hRi HL HM
        have HSB : Hid (stB (l.length : Int) ⟨(sa l j).k, (sa l j).r, (sa l j).a, (sa l j).b⟩ = stB (l.length : Int) (sa l j)) := hid_intro rfl
        have HNO : Hid (stB (l.length : Int) (sa l j) = false → nfaB l = false) := hid_intro (fun h => by
          rw [HE.out, List.all_eq_false]; exact ⟨sa l j, sa_mem hlt, by rw [h]; decide⟩)
        have HYES : Hid (stB (l.length : Int) (sa l j) = true → ∀ i, i < j + 1 → stB (l.length : Int) (sa l i) = true) := hid_intro (fun h i hi => by
          by_cases e : i = j
          · rw [e]; exact h
          · exact HA.out i (by omega))
        rw [HSB.out] at HC
        generalize stB (l.length : Int) (sa l j) = sb at HC HNO HYES
        clear HSB
        generalize (sa l j).k = K at *
        generalize (sa l j).r.length = R at *
        generalize (sa l j).a = A at *
        generalize (sa l j).b = B at *
        cases sb
        · have HF := hid_intro (HNO.out rfl)
          clear HNO HYES HA HE
          go_wp2_with fail
          refine (HC.out _ (vb_a (Below.refl _ _) _)).mono ?_; rintro e w3 ⟨rfl, hb3⟩
          have HB := hid_intro (vb_t HZ.out (vb_t (vb_a (Below.refl _ _) _) hb3))
          clear hb3
          go_wp2_with fail
          rw [HP.out, HF.out]
          exact ⟨rfl, HB.out⟩
        · have HA2 := hid_intro (HYES.out rfl)
          clear HNO HYES HA HE
          go_wp2_with fail
          refine (HC.out _ (vb_a (Below.refl _ _) _)).mono ?_; rintro e w3 ⟨rfl, hb3⟩
          have HB := hid_intro (vb_t HZ.out (vb_t (vb_a (Below.refl _ _) _) hb3))
          clear hb3
          go_wp2_with fail
          go_roundg (l.length - (j + 1))
          case measure => omega
          case rel => exact ⟨j + 1, by omega, rfl, by simp, HA2, HB⟩
      · have hJ : ¬ (j : Int) < (l.length : Int) := by omega
        have HF : Hid (nfaB l = true) := hid_intro (by
          rw [HE.out, List.all_eq_true]
          intro x hx
          obtain ⟨i, hi, rfl⟩ := List.getElem_of_mem hx
          rw [← sa_get hi]
          exact HA.out i (by omega))
        clear HL HM HA HE
        go_wp2_with fail
        rw [HP.out, HF.out]
        exact ⟨rfl, HZ.out⟩
end Go.Proofs.Ytcgohdfpmfpfiaa
