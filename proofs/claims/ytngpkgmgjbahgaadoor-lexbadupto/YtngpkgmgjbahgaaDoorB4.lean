/-
  What is bad becomes good by another end: strings, and all. Plain mathematics. No condition.
-/
import Derived.Test.YtngpkgmgjbahgaaDoorB3
namespace Go.Proofs.YtngpkgmgjbahgaaDoor
open Go.RowKit

theorem pos3 {c : Int} (h : stN c = 3) : 224 ≤ c ∧ c ≤ 239 := stN_three c h
/-- The bytes that a code point lacks. -/
theorem step_fill {r : Nat} {F : Nat → Int} {m : Nat} (lo : 0 ≤ F 0) (hi : F 0 < 256) (h : stepF r F = (m, false)) (hm : 1 ≤ m) :
    ∃ w : List UInt8, (w ++ [34]) ∈ endsL ∧ ∀ (r' : Nat) (G : Nat → Int), m + w.length ≤ r' → (∀ q, q < m → G q = F q) → (∀ q, q < w.length → G (m + q) = bx w q) → stepF r' G = (m + w.length, true) := by
  rcases stepF_false r F m h with ⟨rfl, _⟩ | ⟨a1, a3, ah, s2, s3, _⟩
  · omega
  have hr := stN_range (F 0)
  have fin : ∀ (w : List UInt8), (w ++ [34]) ∈ endsL → (((m + w.length : Nat) : Int) = stN (F 0)) → (∀ (r' : Nat) (G : Nat → Int), m + w.length ≤ r' → (∀ q, q < m → G q = F q) → (∀ q, q < w.length → G (m + q) = bx w q) → passed r' G (m + w.length)) →
      ∃ w : List UInt8, (w ++ [34]) ∈ endsL ∧ ∀ (r' : Nat) (G : Nat → Int), m + w.length ≤ r' → (∀ q, q < m → G q = F q) → (∀ q, q < w.length → G (m + q) = bx w q) → stepF r' G = (m + w.length, true) := by
    intro w hw hs hp
    refine ⟨w, hw, fun r' G h1 h2 h3 => ?_⟩
    have e0 := h2 0 (by omega)
    exact stepF_whole r' G (by rw [e0]; exact lo) (by rw [e0]; exact hi) (by rw [e0]; omega) _ (by rw [e0]; exact hs) (hp r' G h1 h2 h3)
  have em : m = 1 ∨ m = 2 ∨ m = 3 := by omega
  have c0 : folB 128 = true := by decide
  rcases em with rfl | rfl | rfl
  · rcases hr with e | e | e | e | e
    · omega
    · omega
    · have b := stN_two _ e
      refine fin [128] (by decide) (by rw [e]; rfl) (fun r' G h1 h2 h3 => ⟨fun _ => ⟨by simp at h1; omega, ?_⟩, fun h => by simp at h, fun h => by simp at h⟩)
      have g1 : G 1 = 128 := by have := h3 0 (by simp); simpa [bx] using this
      rw [h2 0 (by omega), g1, secB_iff]
      repeat' split
      all_goals omega
    · have b := stN_three _ e
      by_cases z : F 0 = 224
      · refine fin [160, 128] (by decide) (by rw [e]; rfl) (fun r' G h1 h2 h3 => ⟨fun _ => ⟨by simp at h1; omega, ?_⟩, fun _ => ⟨by simp at h1; omega, ?_⟩, fun h => by simp at h⟩)
        · have g1 : G 1 = 160 := by have := h3 0 (by simp); simpa [bx] using this
          rw [h2 0 (by omega), g1, z]
          decide
        · have g2 : G 2 = 128 := by have := h3 1 (by simp); simpa [bx] using this
          rw [g2]
          exact c0
      · refine fin [128, 128] (by decide) (by rw [e]; rfl) (fun r' G h1 h2 h3 => ⟨fun _ => ⟨by simp at h1; omega, ?_⟩, fun _ => ⟨by simp at h1; omega, ?_⟩, fun h => by simp at h⟩)
        · have g1 : G 1 = 128 := by have := h3 0 (by simp); simpa [bx] using this
          rw [h2 0 (by omega), g1, secB_iff]
          repeat' split
          all_goals omega
        · have g2 : G 2 = 128 := by have := h3 1 (by simp); simpa [bx] using this
          rw [g2]
          exact c0
    · have b := stN_four _ e
      by_cases z : F 0 = 240
      · refine fin [144, 128, 128] (by decide) (by rw [e]; rfl) (fun r' G h1 h2 h3 => ⟨fun _ => ⟨by simp at h1; omega, ?_⟩, fun _ => ⟨by simp at h1; omega, ?_⟩, fun _ => ⟨by simp at h1; omega, ?_⟩⟩)
        · have g1 : G 1 = 144 := by have := h3 0 (by simp); simpa [bx] using this
          rw [h2 0 (by omega), g1, z]
          decide
        · have g2 : G 2 = 128 := by have := h3 1 (by simp); simpa [bx] using this
          rw [g2]
          exact c0
        · have g2 : G 3 = 128 := by have := h3 2 (by simp); simpa [bx] using this
          rw [g2]
          exact c0
      · refine fin [128, 128, 128] (by decide) (by rw [e]; rfl) (fun r' G h1 h2 h3 => ⟨fun _ => ⟨by simp at h1; omega, ?_⟩, fun _ => ⟨by simp at h1; omega, ?_⟩, fun _ => ⟨by simp at h1; omega, ?_⟩⟩)
        · have g1 : G 1 = 128 := by have := h3 0 (by simp); simpa [bx] using this
          rw [h2 0 (by omega), g1, secB_iff]
          repeat' split
          all_goals omega
        · have g2 : G 2 = 128 := by have := h3 1 (by simp); simpa [bx] using this
          rw [g2]
          exact c0
        · have g2 : G 3 = 128 := by have := h3 2 (by simp); simpa [bx] using this
          rw [g2]
          exact c0
  · have sec := s2 (by omega)
    rcases hr with e | e | e | e | e
    · omega
    · omega
    · omega
    · refine fin [128] (by decide) (by rw [e]; rfl) (fun r' G h1 h2 h3 => ⟨fun _ => ⟨by simp at h1; omega, ?_⟩, fun _ => ⟨by simp at h1; omega, ?_⟩, fun h => by simp at h⟩)
      · rw [h2 0 (by omega), h2 1 (by omega)]; exact sec
      · have g2 : G 2 = 128 := by have := h3 0 (by simp); simpa [bx] using this
        rw [g2]
        exact c0
    · refine fin [128, 128] (by decide) (by rw [e]; rfl) (fun r' G h1 h2 h3 => ⟨fun _ => ⟨by simp at h1; omega, ?_⟩, fun _ => ⟨by simp at h1; omega, ?_⟩, fun _ => ⟨by simp at h1; omega, ?_⟩⟩)
      · rw [h2 0 (by omega), h2 1 (by omega)]; exact sec
      · have g2 : G 2 = 128 := by have := h3 0 (by simp); simpa [bx] using this
        rw [g2]
        exact c0
      · have g2 : G 3 = 128 := by have := h3 1 (by simp); simpa [bx] using this
        rw [g2]
        exact c0
  · have sec := s2 (by omega)
    have fol := s3 (by omega)
    have e : stN (F 0) = 4 := by omega
    refine fin [128] (by decide) (by rw [e]; rfl) (fun r' G h1 h2 h3 => ⟨fun _ => ⟨by simp at h1; omega, ?_⟩, fun _ => ⟨by simp at h1; omega, ?_⟩, fun _ => ⟨by simp at h1; omega, ?_⟩⟩)
    · rw [h2 0 (by omega), h2 1 (by omega)]; exact sec
    · rw [h2 2 (by omega)]; exact fol
    · have g2 : G 3 = 128 := by have := h3 0 (by simp); simpa [bx] using this
      rw [g2]
      exact c0

theorem quote_end {l w : List UInt8} {N fr : Nat} (hN : N ≤ l.length) (out : List UInt8) : ∃ t, textT (l.take N ++ (w ++ [34])) fr (N + w.length) out = .ok t := by
  refine ⟨_, textT_quote (by rw [end_len hN]; simp) ?_⟩
  rw [bx_end hN]
  simp [bx]
/-- A string that is bad becomes one by another end. -/
theorem text_fill {l : List UInt8} {p n : Nat} (hp : p < l.length) (h : textL l p = .error n) : n - 1 ≤ l.length ∧ p < n - 1 ∧ ∃ e ∈ endsL, ∃ t, textL (l.take (n - 1) ++ e) p = .ok t := by
  have hgt := textL_gt hp h
  have key := (textT_err (l := l) (fr := p) (n := n) (P := fun j out => n - 1 ≤ l.length ∧ ∃ e ∈ endsL, ∃ t, textT (l.take (n - 1) ++ e) p j out = .ok t) ?_ ?_ ?_ ?_ ?_ ?_ l.length (p + 1) [] (by omega) (by omega) h).2
  · obtain ⟨hN, e, he, t, ht⟩ := key
    refine ⟨hN, by omega, e, he, t, ?_⟩
    exact ht
  · intro out e
    have hN : n - 1 = l.length := by omega
    refine ⟨by omega, [34], by decide, ?_⟩
    rw [hN]
    have := quote_end (l := l) (w := []) (N := l.length) (fr := p) (Nat.le_refl _) out
    simpa using this
  · intro j out hj c e
    have hN : n - 1 = j := by omega
    refine ⟨by omega, [34], by decide, ?_⟩
    rw [hN]
    have := quote_end (l := l) (w := []) (N := j) (fr := p) (by omega) out
    simpa using this
  · intro j out hj c e
    obtain ⟨hN, hq, w, pt, hw, hx⟩ := esc_fill (by omega) e
    refine ⟨hN, w ++ [34], hw, ?_⟩
    have hA := agree_take l (w ++ [34]) (n - 1) hN
    have hc' : bx (l.take (n - 1) ++ (w ++ [34])) j = 92 := by rw [hA.bx (by omega)]; exact c
    have hl' := hA.le'
    obtain ⟨t, ht⟩ := quote_end (l := l) (w := w) (N := n - 1) (fr := p) hN (out ++ encL pt)
    refine ⟨t, ?_⟩
    rw [textT_back (by omega) hc', escape_of (by rw [hasAt_in _ (by omega), hc']; rfl), hx]
    simp only
    exact ht
  · intro j out pt k hj c e hk hP
    obtain ⟨hN, ee, he, t, ht⟩ := hP
    refine ⟨hN, ee, he, t, ?_⟩
    have hb : hasAt l j (· == 92) = true := by rw [hasAt_in _ hj, c]; rfl
    have hg := escL_ok_gt hb e
    have hA := agree_take l ee (n - 1) hN
    have hl' := hA.le'
    have hc' : bx (l.take (n - 1) ++ ee) j = 92 := by rw [hA.bx (by omega)]; exact c
    rw [textT_back (by omega) hc', escL_agree hA hb e (by omega)]
    simp only
    exact ht
  · intro j out m hj c e en
    have hN : n - 1 = j + m := by omega
    unfold stepL at e
    have hle := stepF_le (l.length - j) (fun q => bx l (j + q)) (by omega)
    rw [e] at hle
    simp only at hle
    rw [hN]
    have hNl : j + m ≤ l.length := by omega
    by_cases hm : m = 0
    · subst hm
      refine ⟨hNl, [34], by decide, ?_⟩
      have := quote_end (l := l) (w := []) (N := j) (fr := p) (by omega) out
      simpa using this
    · obtain ⟨w, hw, hs⟩ := step_fill (F := fun q => bx l (j + q)) (bx_lo l (j + 0)) (bx_hi l (j + 0)) e (by omega)
      refine ⟨hNl, w ++ [34], hw, ?_⟩
      have hA := agree_take l (w ++ [34]) (j + m) hNl
      have hlen := end_len (e := w ++ [34]) hNl
      have hst : stepL (l.take (j + m) ++ (w ++ [34])) j = (m + w.length, true) := by
        unfold stepL
        refine hs _ (fun q => bx (l.take (j + m) ++ (w ++ [34])) (j + q)) (by rw [hlen]; simp; omega) (fun q hq => hA.bx (j := j + q) (by omega)) (fun q hq => ?_)
        show bx (l.take (j + m) ++ (w ++ [34])) (j + (m + q)) = bx w q
        rw [← Nat.add_assoc, bx_end hNl]
        unfold bx
        rw [List.getElem?_append_left hq]
      obtain ⟨t, ht⟩ := quote_end (l := l) (w := w) (N := j + m) (fr := p) hNl (out ++ sub (l.take (j + m) ++ (w ++ [34])) j (j + (m + w.length)))
      refine ⟨t, ?_⟩
      rw [textT_step (by rw [hlen]; simp; omega) (by rw [hA.bx (by omega)]; exact c), hst]
      simp only [if_true]
      rw [← Nat.add_assoc] at ht ⊢
      exact ht
  · intro j out m hj c e hk hP
    obtain ⟨hN, ee, he, t, ht⟩ := hP
    refine ⟨hN, ee, he, t, ?_⟩
    have hA := agree_take l ee (n - 1) hN
    have hl' := hA.le'
    have h1 := stepF_pos (l.length - j) (fun q => bx l (j + q)) (by unfold stepL at e; rw [e])
    unfold stepL at e
    rw [e] at h1
    simp only at h1
    rw [textT_step (by omega) (by rw [hA.bx (by omega)]; exact c), stepL_good hA e (by omega)]
    simp only [if_true]
    rw [hA.sub (by omega)]
    exact ht

theorem word_end {l : List UInt8} {p n : Nat} {c : UInt8} {cs : List UInt8} (hp : p < l.length) (hc : bx l p = (c.toNat : Int)) (h : spelledL l p (c :: cs) = .error n) :
    n - 1 ≤ l.length ∧ p < n - 1 ∧ n - 1 - p ≤ cs.length ∧ spelledL (l.take (n - 1) ++ (c :: cs).drop (n - 1 - p)) p (c :: cs) = .ok (p + (c :: cs).length) := by
  have hf := spelled_fill _ (by omega) h
  have hg := spelled_gt _ h
  have hb : hasAt l p (· == (c.toNat : Int)) = true := by rw [hasAt_in _ hp, hc]; simp
  simp only [spelledL] at h
  rw [if_pos hb] at h
  have hg2 := (spelled_gt _ h).1
  rw [List.length_cons] at hg
  refine ⟨hf.1, by omega, by omega, ?_⟩
  have := hf.2 []
  rw [List.append_nil] at this
  exact this
theorem drops4 {c d e f : UInt8} {k : Nat} (h1 : 1 ≤ k) (h3 : k ≤ 3) (m1 : [d, e, f] ∈ endsL) (m2 : [e, f] ∈ endsL) (m3 : [f] ∈ endsL) : [c, d, e, f].drop k ∈ endsL := by
  have : k = 1 ∨ k = 2 ∨ k = 3 := by omega
  rcases this with rfl | rfl | rfl
  · exact m1
  · exact m2
  · exact m3
theorem drops5 {c d e f g : UInt8} {k : Nat} (h1 : 1 ≤ k) (h3 : k ≤ 4) (m1 : [d, e, f, g] ∈ endsL) (m2 : [e, f, g] ∈ endsL) (m3 : [f, g] ∈ endsL) (m4 : [g] ∈ endsL) : [c, d, e, f, g].drop k ∈ endsL := by
  have : k = 1 ∨ k = 2 ∨ k = 3 ∨ k = 4 := by omega
  rcases this with rfl | rfl | rfl | rfl
  · exact m1
  · exact m2
  · exact m3
  · exact m4
/-- What is bad becomes good by one of the ends. -/
theorem some_end {l : List UInt8} {n : Nat} (h : nextL l 0 = .error n) : 1 ≤ n ∧ n - 1 ≤ l.length ∧ ∃ e ∈ endsL, ∃ t, nextL (l.take (n - 1) ++ e) 0 = .ok t := by
  have hpl : pass l blankB 0 ≤ l.length := pass_le (Nat.zero_le _)
  have hpa : ∀ l', Agree l l' (n - 1) → pass l blankB 0 < n - 1 → pass l' blankB 0 = pass l blankB 0 := fun l' hA hlt => pass_agree hA blankB hlt
  have hall : ∀ j, j < pass l blankB 0 → blankB (bx l j) = true := fun j hj => pass_all (i := 0) (Nat.zero_le _) hj
  have hr : readL l (pass l blankB 0) = .error n := h
  obtain ⟨hlt, hs, hw⟩ := readL_bad hpl hr
  unfold nextL
  generalize pass l blankB 0 = p at *
  have same : ∀ e, n - 1 ≤ l.length → p < n - 1 → pass (l.take (n - 1) ++ e) blankB 0 = p ∧ bx (l.take (n - 1) ++ e) p = bx l p ∧ p < (l.take (n - 1) ++ e).length := fun e hN hpN => by
    have hA := agree_take l e (n - 1) hN
    have := hA.le'
    exact ⟨hpa _ hA hpN, hA.bx hpN, by omega⟩
  rcases hw with ⟨c, w⟩ | ⟨c, w⟩ | ⟨c, w⟩ | ⟨c, w⟩ | ⟨c, w⟩ | ⟨n1, n2, n3, n4, n5, n6, e⟩
  · obtain ⟨hN, hpN, hk, hx⟩ := word_end (c := 110) (cs := [117, 108, 108]) hlt c w
    refine ⟨by omega, hN, _, drops4 (c := 110) (d := 117) (e := 108) (f := 108) (k := n - 1 - p) (by omega) hk (by decide) (by decide) (by decide), ?_⟩
    obtain ⟨a, b, d⟩ := same ([110, 117, 108, 108].drop (n - 1 - p)) hN hpN
    have RW := readL_word d (by rw [b]; exact hs)
    rw [b] at RW
    rw [a, RW.1 c, hx]
    exact ⟨_, rfl⟩
  · obtain ⟨hN, hpN, hk, hx⟩ := word_end (c := 116) (cs := [114, 117, 101]) hlt c w
    refine ⟨by omega, hN, _, drops4 (c := 116) (d := 114) (e := 117) (f := 101) (k := n - 1 - p) (by omega) hk (by decide) (by decide) (by decide), ?_⟩
    obtain ⟨a, b, d⟩ := same ([116, 114, 117, 101].drop (n - 1 - p)) hN hpN
    have RW := readL_word d (by rw [b]; exact hs)
    rw [b] at RW
    rw [a, RW.2.1 c, hx]
    exact ⟨_, rfl⟩
  · obtain ⟨hN, hpN, hk, hx⟩ := word_end (c := 102) (cs := [97, 108, 115, 101]) hlt c w
    refine ⟨by omega, hN, _, drops5 (c := 102) (d := 97) (e := 108) (f := 115) (g := 101) (k := n - 1 - p) (by omega) hk (by decide) (by decide) (by decide) (by decide), ?_⟩
    obtain ⟨a, b, d⟩ := same ([102, 97, 108, 115, 101].drop (n - 1 - p)) hN hpN
    have RW := readL_word d (by rw [b]; exact hs)
    rw [b] at RW
    rw [a, RW.2.2.1 c, hx]
    exact ⟨_, rfl⟩
  · obtain ⟨hN, hpN, hx⟩ := number_fill hlt c w
    refine ⟨by omega, hN, [48], by decide, ?_⟩
    obtain ⟨a, b, d⟩ := same [48] hN hpN
    have RW := readL_word d (by rw [b]; exact hs)
    rw [b] at RW
    rcases c with c | c
    · rw [a, RW.2.2.2.1 c, hx]
      exact ⟨_, rfl⟩
    · rw [a, RW.2.2.2.2.1 c, hx]
      exact ⟨_, rfl⟩
  · obtain ⟨hN, hpN, e, he, t, ht⟩ := text_fill hlt w
    refine ⟨by omega, hN, e, he, t, ?_⟩
    obtain ⟨a, b, d⟩ := same e hN hpN
    have RW := readL_word d (by rw [b]; exact hs)
    rw [b] at RW
    rw [a, RW.2.2.2.2.2 c, ht]
  · have hN : n - 1 = p := by omega
    refine ⟨by omega, by omega, [], by decide, ?_⟩
    rw [hN, List.append_nil]
    have hlen := take_len hpl
    have hps : pass (l.take p) blankB 0 = p := by
      have h1 := pass_le (l := l.take p) (p := blankB) (i := 0) (Nat.zero_le _)
      rw [hlen] at h1
      by_cases hlt2 : pass (l.take p) blankB 0 < p
      · exfalso
        have hend := pass_end (l.take p) blankB 0
        rw [hasAt_in _ (by omega)] at hend
        have hA := agree_take l [] p hpl
        rw [List.append_nil] at hA
        rw [hA.bx hlt2, hall _ hlt2] at hend
        cases hend
      · omega
    refine ⟨⟨0, [], p, p⟩, ?_⟩
    rw [hps]
    unfold readL
    rw [if_pos hlen.symm]
end Go.Proofs.YtngpkgmgjbahgaaDoor
