/-
  What ref7.Texts answers: are two rows of texts the same. Conditions: at most 2^40 of them.
-/
import Derived.Test.YtcbhjhkmmdcdeaaDoorPT7
namespace Go.Proofs.YtcbhjhkmmdcdeaaDoor
open Go.RowKit
attribute [local go_sem] setCell_drewN alloc_drewN

theorem SRow.shape {w : World} {v : Value} {xs : List (List UInt8)} (h : SRow w v xs) : ∃ a c, v = .slice a xs.length c := by
  rcases h with ⟨rfl, a, c, rfl⟩ | ⟨b, off, c, rfl, _⟩
  · exact ⟨a, c, rfl⟩
  · exact ⟨_, c, rfl⟩
theorem SRow.lies {w : World} {a : Option Addr} {n c : Nat} {xs : List (List UInt8)} (h : SRow w (.slice a n c) xs) (h0 : xs ≠ []) : ∃ b off, a = some ⟨b, off, none⟩ ∧ ∀ i x, xs[i]? = some x → w.cell? ⟨b, off + i, none⟩ = some (.string (bs x)) := by
  rcases h with ⟨e, _⟩ | ⟨b, off, c', e, hc⟩
  · exact absurd e h0
  · injection e with e1 e2 e3
    refine ⟨b, off, e1, fun i x hx => ?_⟩
    obtain ⟨hi, rfl⟩ := List.getElem?_eq_some_iff.1 hx
    exact hc i hi
theorem bs_inj {a b : List UInt8} : bs a = bs b ↔ a = b := ⟨fun h => by have := congrArg (fun s => s.data.toList) h; simpa [bs_list] using this, fun h => by rw [h]⟩

set_option maxRecDepth 100000 in
set_option maxHeartbeats 1600000 in
theorem texts_any (v1 v2 : Value) (xs ys : List (List UInt8)) (w : World) (h1 : SRow w v1 xs) (h2 : SRow w v2 ys) (hm : xs.length ≤ 1099511627776) :
    Calls Tryd.prog 12 #[v1, v2] w fun r w' => r = .returned (.bool (decide (xs = ys))) ∧ Below w.heap.size w w' := by
  obtain ⟨a1, c1, rfl⟩ := h1.shape
  obtain ⟨a2, c2, rfl⟩ := h2.shape
  have hmI : (xs.length : Int) ≤ 1099511627776 := by omega
  by_cases hl : xs.length = ys.length
  · have hneq : ((xs.length : Int) != (ys.length : Int)) = false := by rw [hl]; simp
    have hlI : (xs.length : Int) = (ys.length : Int) := by omega
    have H1 : Hid (xs ≠ [] → ∃ b off, a1 = some ⟨b, off, none⟩ ∧ ∀ i x, xs[i]? = some x → w.cell? ⟨b, off + i, none⟩ = some (.string (bs x))) := h1.lies
    have H2 : Hid (ys ≠ [] → ∃ b off, a2 = some ⟨b, off, none⟩ ∧ ∀ i x, ys[i]? = some x → w.cell? ⟨b, off + i, none⟩ = some (.string (bs x))) := h2.lies
    clear h1 h2
    obtain ⟨n, hn⟩ : ∃ n, xs.length = n := ⟨_, rfl⟩
    have hn2 : ys.length = n := by omega
    rw [hn] at hmI hneq hm ⊢
    rw [hn2] at hneq ⊢
    clear hl hlI
    go_enter Tryd.func12, Tryd.ntmps12
    go_wp2_with fail
    go_loopw [5] (fun t wr => ∃ i : Nat, i ≤ n ∧ t = .int .i64 i ∧ Hid (xs.take i = ys.take i) ∧ ∃ q, wr = w.drewN q) (fun t _ => n - (intOf t).toNat)
    case atStart => exact ⟨0, Nat.zero_le _, rfl, by show _ = _; rw [List.take_zero, List.take_zero], 0, rfl⟩
    case round =>
      obtain ⟨i, hi, rfl, HT, q, rfl⟩ := hrel
      by_cases hlt : i < n
      · have hI : (i : Int) < (n : Int) := by omega
        obtain ⟨b, off, rfl, hc⟩ := H1.out (fun e => by rw [e] at hn; simp at hn; omega)
        obtain ⟨b', off', rfl, hc'⟩ := H2.out (fun e => by rw [e] at hn2; simp at hn2; omega)
        have i1 : i < xs.length := by omega
        have i2 : i < ys.length := by omega
        have d1 : w.cell? ⟨b, off + i, none⟩ = some (.string (bs xs[i])) := hc i _ (List.getElem?_eq_getElem i1)
        have d2 : w.cell? ⟨b', off' + i, none⟩ = some (.string (bs ys[i])) := hc' i _ (List.getElem?_eq_getElem i2)
        have heq := eq_bytes (bs xs[i]) (bs ys[i])
        clear hc hc' H1 H2
        by_cases hx : xs[i] = ys[i]
        · have HN : Hid (xs.take (i + 1) = ys.take (i + 1)) := by show _ = _; rw [List.take_add_one, List.take_add_one, HT.out, List.getElem?_eq_getElem i1, List.getElem?_eq_getElem i2, hx]
          rw [decide_eq_true (by rw [hx])] at heq
          clear HT hx
          generalize bs xs[i] = x at *
          generalize bs ys[i] = y at *
          go_wp2_with fail
          go_quiet (fail)
          go_wp2
          go_roundw
          case rel => exact ⟨i + 1, by omega, by go_num, HN, _, rfl⟩
          case measure => simp [intOf]; omega
        · have HN : Hid (decide (xs = ys) = false) := by
            show _ = _
            refine decide_eq_false (fun e => hx ?_)
            subst e; rfl
          rw [decide_eq_false (by rw [bs_inj]; exact hx)] at heq
          clear HT hx
          generalize bs xs[i] = x at *
          generalize bs ys[i] = y at *
          go_wp2_with fail
          go_quiet (fail)
          go_wp2
          go_ret
          exact ⟨by rw [HN.out]; rfl, bl_n (bl_n (Below.refl _ _) _) _⟩
      · have hI : ¬ (i : Int) < (n : Int) := by omega
        have HN : Hid (decide (xs = ys) = true) := by
          show _ = _
          have e := HT.out
          rw [List.take_of_length_le (by omega), List.take_of_length_le (by omega)] at e
          exact decide_eq_true e
        go_wp2
        go_ret
        exact ⟨by rw [HN.out]; rfl, bl_n (Below.refl _ _) _⟩
  · have hneq : ((xs.length : Int) != (ys.length : Int)) = true := by simp; omega
    have HN : Hid (decide (xs = ys) = false) := decide_eq_false (fun e => hl (by rw [e]))
    go_enter Tryd.func12, Tryd.ntmps12
    go_wp2
    go_ret
    exact ⟨by rw [HN.out]; rfl, Below.refl _ _⟩
end Go.Proofs.YtcbhjhkmmdcdeaaDoor
