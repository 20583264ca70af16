/-
  What lex.plain answers, and what is held against lex.text. Conditions: the bytes lie in memory, at most 2^45 of them; the table of greatest code points holds its four numbers.
-/
import Derived.Test.YtngpkgmgjbahgaaDoorV12
namespace Go.Proofs.YtngpkgmgjbahgaaDoor
open Go.RowKit
attribute [local go_sem] setCell_drewN alloc_drewN

/-- How many bytes begin a valid text, and whether they are one. -/
def goodL (t : List UInt8) : Nat × Bool := good t.length (bx t)
theorem goodF_le (len : Nat) (f : Nat → Int) (k : Nat) : ∀ p, p ≤ len → (goodF len f k p).1 ≤ len := by
  induction k with
  | zero => exact fun p h => h
  | succ k ih =>
    intro p h
    unfold goodF
    split
    · exact h
    · have s := stepF_le (len - p) (fun i => f (p + i)) (by omega)
      split
      · exact ih _ (by omega)
      · show p + _ ≤ len; omega
theorem goodL_le (t : List UInt8) : (goodL t).1 ≤ t.length := goodF_le _ _ _ 0 (Nat.zero_le _)
def plainL (l : List UInt8) (i : Nat) : Pl := if (goodL (sub l i (pass l plainB i))).2 = true then .ok (pass l plainB i) else .error (i + (goodL (sub l i (pass l plainB i))).1 + 1)

set_option maxRecDepth 100000 in
set_option maxHeartbeats 800000 in
theorem plain_any (l : List UInt8) (i : Nat) (v : Value) (w : World) (hT : Tab w) (hB : Byt w v l) (h0 : 0 < l.length) (hi : i ≤ l.length) (hm : l.length ≤ 140737488351232) :
    Calls Tryd.prog 24 #[v, .int .i64 i] w fun r w' => r = .returned (plV (plainL l i)) ∧ Below w.heap.size w w' := by
  have g1 := passed_plain l i v w hB hi (by omega)
  have p1 := pass_ge l plainB i
  have p2 := pass_le (l := l) (p := plainB) hi
  rcases hB with ⟨h, _⟩ | ⟨b, off, cap, rfl, hc, hm', hL⟩
  · omega
  · by_cases hic : i < cap
    · have g2 := fun w' (hb : Below w.heap.size w w') => good_any _ _ _ w' (hT.below hb) (Byt.below (byt_sub hL hc hm' p1 p2) hb)
      rw [sub_length p1 p2] at g2
      have ql := goodL_le (sub l i (pass l plainB i))
      rw [sub_length p1 p2] at ql
      have eg : good (pass l plainB i - i) (bx (sub l i (pass l plainB i))) = goodL (sub l i (pass l plainB i)) := by unfold goodL; rw [sub_length p1 p2]
      rw [eg] at g2
      unfold plainL
      generalize goodL (sub l i (pass l plainB i)) = q at *
      obtain ⟨n, ok⟩ := q
      simp only at g2 ql ⊢
      have g3 := fun w => badAt_any (i + n) w (by omega)
      rw [show ((i + n : Nat) : Int) = (i : Int) + (n : Int) by omega] at g3
      generalize pass l plainB i = e at *
      have haI : (i : Int) ≤ (e : Int) := by omega
      have hicI : (i : Int) < (cap : Int) := by omega
      have heI : (e : Int) ≤ (cap : Int) := by omega
      have hnI : (n : Int) ≤ 140737488351232 := by omega
      have hiI : (i : Int) ≤ 140737488351232 := by omega
      unfold maxLen at hm'
      have hcI : (cap : Int) ≤ 9223372036854775807 := by omega
      clear hL eg hm hm' hc p1 p2 ql hi h0
      cases ok
      · go_enter Tryd.func24, Tryd.ntmps24
        go_wp2_with (first | (go_at_call 7; refine g1.mono ?_; rintro r w2 ⟨rfl, hb2⟩) | (go_at_call 33; with_reducible refine (g2 _ hb2).mono ?_; rintro r w3 ⟨rfl, q, rfl⟩) | (go_at_call 16; refine (g3 _).mono ?_; rintro r w4 ⟨rfl, rfl⟩))
        go_ret2
        exact ⟨rfl, bl_n hb2 _⟩
      · clear g3
        go_enter Tryd.func24, Tryd.ntmps24
        go_wp2_with (first | (go_at_call 7; refine g1.mono ?_; rintro r w2 ⟨rfl, hb2⟩) | (go_at_call 33; with_reducible refine (g2 _ hb2).mono ?_; rintro r w3 ⟨rfl, q, rfl⟩))
        go_ret2
        exact ⟨rfl, bl_n hb2 _⟩
    · have ep : pass l plainB i = i := by omega
      have ei : i = cap := by omega
      have HR : Hid (plainL l i = .ok i) := by show _ = _; simp [plainL, ep, sub, goodL, good, goodF]
      rw [ep] at g1
      have g2 := fun w' (hb : Below w.heap.size w w') => good_any (.slice (some ⟨b, off, none⟩) 0 0) 0 (fun _ => 0) w' (hT.below hb) (.inl ⟨rfl, _, 0, rfl, fun h => by cases h⟩)
      simp only [good, goodF] at g2
      subst ei
      unfold maxLen at hm'
      have hcI : (i : Int) ≤ 9223372036854775807 := by omega
      clear hL hm hm' hc p1 p2 hi h0 ep hic
      go_enter Tryd.func24, Tryd.ntmps24
      go_wp2_with (first | (go_at_call 7; refine g1.mono ?_; rintro r w2 ⟨rfl, hb2⟩) | (go_at_call 33; with_reducible refine (g2 _ hb2).mono ?_; rintro r w3 ⟨rfl, q, rfl⟩))
      go_ret2
      exact ⟨r_pl (by rw [HR.out]; rfl), bl_n hb2 _⟩

theorem pointL_le {l : List UInt8} {i : Nat} {t : List UInt8} {k : Nat} (h : pointL l i = .ok (t, k)) : i + 4 ≤ k ∧ (i ≤ l.length → k ≤ l.length) ∧ t.length ≤ 4 := by
  unfold pointL at h
  cases hu : unitL l false i with
  | error n => rw [hu] at h; cases h
  | ok r =>
    rw [hu] at h
    simp only at h
    have a := unitL_le hu
    split at h
    · rename_i g
      cases hp : pairL l r.2 r.1 with
      | error n => rw [hp] at h; cases h
      | ok q =>
        rw [hp] at h
        have b := pairL_le hp g.1 g.2
        obtain ⟨rfl, rfl⟩ := Prod.mk.inj (Except.ok.inj h)
        have c := encN_le (q.1 : Int)
        rw [encL_length]
        exact ⟨by omega, fun hi => b.2.2.2 (a.2 hi), c.2⟩
    · obtain ⟨rfl, rfl⟩ := Prod.mk.inj (Except.ok.inj h)
      have c := encN_le (r.1 : Int)
      rw [encL_length]
      exact ⟨by omega, a.2, c.2⟩
theorem escapeL_le {l : List UInt8} {i : Nat} {t : List UInt8} {k : Nat} (h : escapeL l i = .ok (t, k)) : i + 2 ≤ k ∧ k ≤ l.length ∧ i + t.length ≤ k := by
  unfold escapeL at h
  split at h
  · rename_i g
    have g1 := hasAt_lt g
    split at h
    · rename_i g2
      have g3 := hasAt_lt g2
      have a := pointL_le h
      exact ⟨by omega, a.2.1 (by omega), by omega⟩
    · split at h
      · rename_i g2
        have g3 := hasAt_lt g2
        cases h
        exact ⟨by omega, by omega, by simp⟩
      · cases h
  · cases h

/-- A string from a place within it on. -/
def textF (l : List UInt8) (fr : Nat) : Nat → Nat → List UInt8 → Tk
  | 0, i, _ => .error (i + 1)
  | f + 1, i, out =>
    match plainL l i with
    | .error n => .error n
    | .ok e => if hasAt l e (· == 34) = true then .ok ⟨1, out ++ sub l i e, fr, e + 1⟩ else
      match escapeL l e with
      | .error n => .error n
      | .ok r => textF l fr f r.2 (out ++ sub l i e ++ r.1)
def textL (l : List UInt8) (i : Nat) : Tk := textF l i (l.length + 1) (i + 1) []
theorem plainL_le {l : List UInt8} {i e : Nat} (h : plainL l i = .ok e) : e = pass l plainB i ∧ i ≤ e ∧ (i ≤ l.length → e ≤ l.length) := by
  unfold plainL at h
  split at h
  · cases h; exact ⟨rfl, pass_ge _ _ _, pass_le⟩
  · cases h

/-- Bytes as cells. -/
def cellsL (t : List UInt8) : List Value := t.map fun c => .int .u8 (c.toNat : Nat)
theorem cells_cat (a b : List UInt8) : cellsL a ++ cellsL b = cellsL (a ++ b) := by simp [cellsL]
theorem vals_bx (t : List UInt8) : vals t.length (bx t) = cellsL t := by
  apply List.ext_getElem?
  intro i
  by_cases h : i < t.length
  · rw [vals_at _ _ _ h]; simp [cellsL, bx, h]
  · rw [List.getElem?_eq_none (by rw [vals_length]; omega), List.getElem?_eq_none (by simp [cellsL]; omega)]
theorem own_below {w w' : World} {base : Nat} {e : TypeId} {size : Nat} {v : Value} {n : Nat} {xs : List Value} (h : w.ownsRow base e size v n xs) (hb : Below w.heap.size w w') : w'.ownsRow base e size v n xs := by
  refine ⟨h.1, ?_⟩
  rcases h.2 with h2 | ⟨g, cap, cur, rfl, h3, h4, h5⟩
  · exact .inl h2
  · refine .inr ⟨g, cap, cur, rfl, h3, ?_, h5⟩
    have hlt : g < w.heap.size := by
      by_cases z : g < w.heap.size
      · exact z
      · rw [Array.getElem?_eq_none (by omega)] at h4; cases h4
    rw [hb.block g hlt]; exact h4
theorem own_byt {w : World} {base : Nat} {v : Value} {t : List UInt8} (h : w.ownsRow base 5 1 v t.length (cellsL t)) : Byt w v t := by
  rw [← vals_bx] at h
  exact Row.of_own (bx_lo t) (bx_hi t) h
end Go.Proofs.YtngpkgmgjbahgaaDoor
