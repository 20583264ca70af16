/-
  What is bad becomes good by another end: escapes. Plain mathematics. No condition.
-/
import Derived.Test.YtngpkgmgjbahgaaDoorB2
namespace Go.Proofs.YtngpkgmgjbahgaaDoor
open Go.RowKit

/-- What is known of the digits so far, with so many left. -/
def INV (low : Bool) (k v : Nat) : Prop :=
  (k = 4 → v = 0) ∧ (k = 3 → v < 16) ∧ (k = 2 → v < 256) ∧ (k = 1 → v < 4096) ∧ (k < 4 → wantB low ((v : Int) * 2 ^ (4 * k)) ((v : Int) * 2 ^ (4 * k) + (2 ^ (4 * k) - 1)) = true)
theorem unit_end {l : List UInt8} {low : Bool} (k : Nat) : ∀ {i val n : Nat}, k ≤ 4 → i ≤ l.length → INV low k val → unitF l low k i val = .error n →
    ∃ k' v, 1 ≤ k' ∧ k' ≤ k ∧ n - 1 = i + (k - k') ∧ n - 1 ≤ l.length ∧ INV low k' v ∧ ∀ l', Agree l l' (n - 1) → unitF l' low k i val = unitF l' low k' (n - 1) v := by
  induction k with
  | zero => intro i val n _ _ _ h; simp [unitF] at h
  | succ k ih =>
    intro i val n hk hi hinv h
    cases hg : hasAt l i (stepU low val (4 * k))
    · rw [unitF_stop hg] at h
      have e := Except.error.inj h
      have e1 : n - 1 = i := by omega
      rw [e1]
      exact ⟨k + 1, val, by omega, Nat.le_refl _, by omega, hi, hinv, fun l' _ => rfl⟩
    · rw [unitF_step hg] at h
      have hlt := hasAt_lt hg
      have hst := hg
      rw [hasAt_in _ hlt] at hst
      unfold stepU at hst
      rw [Bool.and_eq_true] at hst
      have hv := valU_int val (bx l i)
      have hb := valU_bd val (bx l i)
      have hinv2 : INV low k (valU val (bx l i)) := by
        obtain ⟨i4, i3, i2, i1, _⟩ := hinv
        refine ⟨fun e => by omega, fun e => ?_, fun e => ?_, fun e => ?_, fun _ => ?_⟩
        · have := i4 (by omega); omega
        · have := i3 (by omega); omega
        · have := i2 (by omega); omega
        · rw [hv]; exact hst.2
      obtain ⟨k', v, a, b, c, d, e, f⟩ := ih (by omega) (by omega) hinv2 h
      refine ⟨k', v, a, by omega, by omega, d, e, fun l' hA => ?_⟩
      rw [unitF_step (l := l') (by rw [hA.has (by omega)]; exact hg), hA.bx (by omega)]
      exact f l' hA
theorem invA (low : Bool) : INV low 4 0 := ⟨fun _ => rfl, by omega, by omega, by omega, by omega⟩

theorem esc_u {l l' : List UInt8} {q N : Nat} (hA : Agree l l' N) (hq : q < N) (h1 : ¬ hasAt l q meanB = true) (h2 : hasAt l q (· == 117) = true) : escL l' q = afterU l' (unitL l' false (q + 1)) := by
  unfold escL
  rw [hA.has hq, hA.has hq, if_neg h1, if_pos h2]

theorem unit_put {l : List UInt8} {low : Bool} {N v F : Nat} (ds y : List UInt8) (hN : N ≤ l.length) (hx : ∀ q, q < ds.length → hexB (bx ds q) = true) (hF : foldV v ds = F) (hw : wantN low F) :
    unitF (l.take N ++ (ds ++ y)) low ds.length N v = .ok (F, N + ds.length) := by
  refine unit_fill ds (by rw [end_len hN, List.length_append]; omega) (fun q hq => ⟨?_, hx q hq⟩) hF hw
  rw [bx_end hN]
  unfold bx
  rw [List.getElem?_append_left hq]
theorem hex4 : ∀ q, q < 4 → hexB (bx [100, 99, 48, 48] q) = true := by decide
theorem low4 : foldV 0 [100, 99, 48, 48] = 56320 := by decide
theorem wlow : wantN true 56320 := by unfold wantN; simp
/-- A low surrogate's escape at a place. -/
theorem pair_put {l x : List UInt8} {e high : Nat} (y : List UInt8) (hx : l = x ++ ([92, 117] ++ ([100, 99, 48, 48] ++ y))) (he : x.length = e) : pairL l e high = .ok (65536 + (high - 55296) * 1024 + (56320 - 56320), e + 6) := by
  have hlen : l.length = e + 6 + y.length := by rw [hx]; simp; omega
  have hb : ∀ j, bx l (e + j) = bx ([92, 117] ++ ([100, 99, 48, 48] ++ y)) j := fun j => by
    rw [hx]
    unfold bx
    rw [List.getElem?_append_right (by omega), show e + j - x.length = j by omega]
  have hs : spelledL l e [92, 117] = .ok (e + 2) := by
    refine spelled_at [92, 117] (by simp; omega) (fun q hq => ?_)
    rw [hb]
    unfold bx
    rw [List.getElem?_append_left hq]
  have hu : unitF l true [100, 99, 48, 48].length (e + 2) 0 = .ok (56320, e + 2 + [100, 99, 48, 48].length) := by
    refine unit_fill [100, 99, 48, 48] (by simp; omega) (fun q hq => ⟨?_, hex4 q hq⟩) low4 wlow
    rw [show e + 2 + q = e + (2 + q) by omega, hb]
    unfold bx
    rw [List.getElem?_append_right (by simp), show 2 + q - [(92 : UInt8), 117].length = q by simp, List.getElem?_append_left hq]
  unfold pairL
  rw [hs]
  simp only
  rw [show unitL l true (e + 2) = .ok (56320, e + 2 + 4) from hu]

theorem zero_hex (k : Nat) : ∀ q, q < (List.replicate k (48 : UInt8)).length → hexB (bx (List.replicate k 48) q) = true := by
  intro q hq
  rw [List.length_replicate] at hq
  have : bx (List.replicate k 48) q = 48 := by unfold bx; rw [List.getElem?_replicate, if_pos hq]; rfl
  rw [this]
  decide
theorem foldV_zero (k : Nat) : ∀ v, foldV v (List.replicate k 48) = v * 16 ^ k := by
  induction k with
  | zero => intro v; simp [foldV]
  | succ k ih =>
    intro v
    rw [List.replicate_succ]
    have e : foldV v (48 :: List.replicate k 48) = foldV (valU v ((48 : UInt8).toNat : Int)) (List.replicate k 48) := rfl
    have e2 : valU v ((48 : UInt8).toNat : Int) = v * 16 := by unfold valU; simp; decide
    rw [e, e2, ih, Nat.pow_succ, Nat.mul_assoc, Nat.mul_comm 16]

set_option maxRecDepth 10000 in
theorem esc_fill {l : List UInt8} {q n : Nat} (hq : q ≤ l.length) (h : escL l q = .error n) : n - 1 ≤ l.length ∧ q ≤ n - 1 ∧ ∃ w p, (w ++ [34]) ∈ endsL ∧ escL (l.take (n - 1) ++ (w ++ [34])) q = .ok (p, n - 1 + w.length) := by
  have h0 := h
  unfold escL at h0
  split at h0
  · cases h0
  · rename_i g1
    split at h0
    · rename_i g2
      have hqlt := hasAt_lt g2
      cases hu : unitL l false (q + 1) with
      | error m =>
        rw [hu] at h0
        have e : m = n := Except.error.inj h0
        subst e
        obtain ⟨k, v, k1, k4, hN, hNl, hinv, hput⟩ := unit_end 4 (Nat.le_refl _) (by omega) (invA false) hu
        have hNq : q < m - 1 := by omega
        generalize m - 1 = N at *
        have key : ∀ w, escL (l.take N ++ (w ++ [34])) q = afterU (l.take N ++ (w ++ [34])) (unitF (l.take N ++ (w ++ [34])) false k N v) := fun w => by
          have hA := agree_take l (w ++ [34]) N hNl
          rw [esc_u hA hNq g1 g2]
          exact congrArg _ (hput _ hA)
        have hF := foldV_zero k v
        obtain ⟨i4, i3, i2, i1, iw⟩ := hinv
        have hw : wantN false (v * 16 ^ k) := by
          unfold wantN
          simp only [Bool.false_eq_true, if_false]
          have ek : k = 1 ∨ k = 2 ∨ k = 3 ∨ k = 4 := by omega
          rcases ek with rfl | rfl | rfl | rfl
          · have := iw (by omega); simp [wantB, notLowB] at this; omega
          · have := iw (by omega); simp [wantB, notLowB] at this; omega
          · have := iw (by omega); simp [wantB, notLowB] at this; omega
          · have := i4 rfl; omega
        by_cases hh : 55296 ≤ v * 16 ^ k ∧ v * 16 ^ k ≤ 56319
        · refine ⟨hNl, by omega, List.replicate k 48 ++ [92, 117, 100, 99, 48, 48], 65536 + (v * 16 ^ k - 55296) * 1024 + (56320 - 56320), ?_, ?_⟩
          · have ek : k = 1 ∨ k = 2 ∨ k = 3 ∨ k = 4 := by omega
            rcases ek with rfl | rfl | rfl | rfl
            · decide
            · decide
            · omega
            · have := i4 rfl; omega
          · rw [key, List.append_assoc]
            have hp := unit_put (low := false) (List.replicate k 48) ([92, 117, 100, 99, 48, 48] ++ [34]) hNl (zero_hex k) hF hw
            rw [List.length_replicate] at hp
            rw [hp]
            simp only [afterU]
            rw [if_pos hh, pair_put (x := l.take N ++ List.replicate k 48) (e := N + k) [34] (by simp) (by simp; omega)]
            simp
            omega
        · refine ⟨hNl, by omega, List.replicate k 48, v * 16 ^ k, ?_, ?_⟩
          · have ek : k = 1 ∨ k = 2 ∨ k = 3 ∨ k = 4 := by omega
            rcases ek with rfl | rfl | rfl | rfl <;> decide
          · rw [key]
            have hp := unit_put (low := false) (List.replicate k 48) [34] hNl (zero_hex k) hF hw
            rw [List.length_replicate] at hp
            rw [hp]
            simp only [afterU]
            rw [if_neg hh, List.length_replicate]
      | ok r =>
        rw [hu] at h0
        simp only [afterU] at h0
        have hr := unitL_le hu
        have hrl := hr.2 (by omega)
        split at h0
        · rename_i g3
          have key : ∀ w N, N ≤ l.length → r.2 ≤ N → escL (l.take N ++ (w ++ [34])) q = pairL (l.take N ++ (w ++ [34])) r.2 r.1 := fun w N hNl hrN => by
            have hA := agree_take l (w ++ [34]) N hNl
            rw [esc_u hA (by omega) g1 g2, show unitL (l.take N ++ (w ++ [34])) false (q + 1) = .ok r from unit_agree hA false 4 hu hrN]
            simp only [afterU]
            rw [if_pos g3]
          have hpg := pair_gt h0
          unfold pairL at h0
          cases hs : spelledL l r.2 [92, 117] with
          | error m =>
            rw [hs] at h0
            have e : m = n := Except.error.inj h0
            subst e
            have hg := spelled_gt _ hs
            have hf := spelled_fill _ hrl hs
            simp only [List.length_cons, List.length_nil] at hg
            by_cases e0 : m - 1 = r.2
            · rw [e0]
              refine ⟨hrl, by omega, [92, 117, 100, 99, 48, 48], 65536 + (r.1 - 55296) * 1024 + (56320 - 56320), by decide, ?_⟩
              rw [key _ _ hrl (Nat.le_refl _), pair_put (x := l.take r.2) (e := r.2) [34] (by simp) (take_len hrl)]
              simp
            · have e1 : m - 1 = r.2 + 1 := by omega
              have hNl : r.2 + 1 ≤ l.length := by have := hf.1; omega
              rw [e1]
              refine ⟨hNl, by omega, [117, 100, 99, 48, 48], 65536 + (r.1 - 55296) * 1024 + (56320 - 56320), by decide, ?_⟩
              rw [key _ _ hNl (by omega)]
              have hsp := hf.2 ([100, 99, 48, 48] ++ [34])
              rw [e1, show r.2 + 1 - r.2 = 1 by omega] at hsp
              have hsp2 : spelledL (l.take (r.2 + 1) ++ ([117, 100, 99, 48, 48] ++ [34])) r.2 [92, 117] = .ok (r.2 + 2) := hsp
              have hup : unitF (l.take (r.2 + 1) ++ ([117, 100, 99, 48, 48] ++ [34])) true [100, 99, 48, 48].length (r.2 + 2) 0 = .ok (56320, r.2 + 2 + [100, 99, 48, 48].length) := by
                refine unit_fill [100, 99, 48, 48] (by rw [end_len hNl]; simp <;> omega) (fun j hj => ⟨?_, hex4 j hj⟩) low4 wlow
                rw [show r.2 + 2 + j = r.2 + 1 + (1 + j) by omega, bx_end hNl]
                have : j = 0 ∨ j = 1 ∨ j = 2 ∨ j = 3 := by simp at hj; omega
                rcases this with rfl | rfl | rfl | rfl <;> decide
              unfold pairL
              rw [hsp2]
              simp only
              rw [show unitL (l.take (r.2 + 1) ++ ([117, 100, 99, 48, 48] ++ [34])) true (r.2 + 2) = .ok (56320, r.2 + 2 + 4) from hup]
              simp
          | ok j =>
            rw [hs] at h0
            simp only at h0
            have hj := spelledL_le _ hs
            have hj2 : j = r.2 + 2 := by simpa using hj.1
            have hjl := hj.2 hrl
            cases hu2 : unitL l true j with
            | ok r2 => rw [hu2] at h0; cases h0
            | error m =>
              rw [hu2] at h0
              have e : m = n := Except.error.inj h0
              subst e
              obtain ⟨k, v, k1, k4, hN, hNl, hinv, hput⟩ := unit_end 4 (Nat.le_refl _) hjl (invA true) hu2
              generalize m - 1 = N at *
              have hds : (([100, 99, 48, 48] : List UInt8).drop (4 - k)).length = k := by simp; omega
              have hF : wantN true (foldV v (([100, 99, 48, 48] : List UInt8).drop (4 - k))) := by
                obtain ⟨i4, i3, i2, i1, iw⟩ := hinv
                unfold wantN
                simp only [if_true]
                have ek : k = 1 ∨ k = 2 ∨ k = 3 ∨ k = 4 := by omega
                rcases ek with rfl | rfl | rfl | rfl
                · have := iw (by omega); simp [wantB, lowB] at this
                  have e : foldV v (([100, 99, 48, 48] : List UInt8).drop (4 - 1)) = v * 16 := by simp [foldV, valU, hexV, digitB]
                  rw [e]; omega
                · have := iw (by omega); simp [wantB, lowB] at this
                  have e : foldV v (([100, 99, 48, 48] : List UInt8).drop (4 - 2)) = v * 16 * 16 := by simp [foldV, valU, hexV, digitB]
                  rw [e]; omega
                · have := iw (by omega); simp [wantB, lowB] at this
                  have e : foldV v (([100, 99, 48, 48] : List UInt8).drop (4 - 3)) = (v * 16 + 12) * 16 * 16 := by simp [foldV, valU, hexV, digitB]
                  rw [e]; omega
                · have := i4 rfl
                  subst this
                  decide
              have hx : ∀ z, z < (([100, 99, 48, 48] : List UInt8).drop (4 - k)).length → hexB (bx (([100, 99, 48, 48] : List UInt8).drop (4 - k)) z) = true := by
                intro z hz
                have ek : k = 1 ∨ k = 2 ∨ k = 3 ∨ k = 4 := by omega
                rw [hds] at hz
                rw [bx_drop]
                exact hex4 _ (by omega)
              refine ⟨hNl, by omega, ([100, 99, 48, 48] : List UInt8).drop (4 - k), 65536 + (r.1 - 55296) * 1024 + (foldV v (([100, 99, 48, 48] : List UInt8).drop (4 - k)) - 56320), ?_, ?_⟩
              · have ek : k = 1 ∨ k = 2 ∨ k = 3 ∨ k = 4 := by omega
                rcases ek with rfl | rfl | rfl | rfl <;> decide
              · have hA := agree_take l (([100, 99, 48, 48] : List UInt8).drop (4 - k) ++ [34]) N hNl
                have hp := unit_put (low := true) (([100, 99, 48, 48] : List UInt8).drop (4 - k)) [34] hNl hx rfl hF
                rw [hds] at hp
                rw [key _ _ hNl (by omega)]
                unfold pairL
                rw [spelled_agree hA _ hs (by omega)]
                simp only
                rw [show unitL (l.take N ++ (([100, 99, 48, 48] : List UInt8).drop (4 - k) ++ [34])) true j = .ok (foldV v (([100, 99, 48, 48] : List UInt8).drop (4 - k)), N + k) from (hput _ hA).trans hp, hds]
        · cases h0
    · rename_i g2
      have e := Except.error.inj h0
      have e1 : n - 1 = q := by omega
      rw [e1]
      refine ⟨hq, Nat.le_refl _, [34], 34, by decide, ?_⟩
      unfold escL
      have hh := has_end (e := [34] ++ [34]) hq (q := 0) (by simp) meanB
      rw [Nat.add_zero] at hh
      have hb := bx_end (e := [34] ++ [34]) hq 0
      rw [Nat.add_zero] at hb
      rw [hh, if_pos (by decide), hb]
      rfl
end Go.Proofs.YtngpkgmgjbahgaaDoor
