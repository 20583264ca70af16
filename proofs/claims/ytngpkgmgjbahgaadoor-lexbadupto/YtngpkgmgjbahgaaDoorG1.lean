/-
  Plain mathematics: a string that is read step by step is the string that is read run by run. No condition.
-/
import Derived.Test.YtngpkgmgjbahgaaDoorG0
namespace Go.Proofs.YtngpkgmgjbahgaaDoor
open Go.RowKit

theorem goodF_shift2 (len : Nat) (f : Nat → Int) (p : Nat) (hp : p ≤ len) (k : Nat) : ∀ q, goodF len f k (p + q) = (p + (goodF (len - p) (fun i => f (p + i)) k q).1, (goodF (len - p) (fun i => f (p + i)) k q).2) := by
  induction k with
  | zero => intro q; rfl
  | succ k ih =>
    intro q
    simp only [goodF]
    rw [show len - (p + q) = len - p - q by omega]
    have e : (fun i => f (p + q + i)) = fun i => f (p + (q + i)) := by funext i; rw [Nat.add_assoc]
    rw [e]
    by_cases g : len ≤ p + q
    · rw [if_pos g, if_pos (show len - p ≤ q by omega)]
    · rw [if_neg g, if_neg (show ¬ len - p ≤ q by omega)]
      by_cases g2 : (stepF (len - p - q) fun i => f (p + (q + i))).2 = true
      · rw [if_pos g2, if_pos g2, Nat.add_assoc]
        exact ih _
      · rw [if_neg g2, if_neg g2, Nat.add_assoc]
/-- The good beginning of bytes: the first step's, and that of what follows. -/
theorem good_step {t : List UInt8} (h0 : t ≠ []) : goodL t = if (stepF t.length (bx t)).2 = true then ((stepF t.length (bx t)).1 + (goodL (t.drop (stepF t.length (bx t)).1)).1, (goodL (t.drop (stepF t.length (bx t)).1)).2) else ((stepF t.length (bx t)).1, false) := by
  have hl : 0 < t.length := List.length_pos_iff.2 h0
  obtain ⟨k, hk⟩ : ∃ k, t.length = k + 1 := ⟨t.length - 1, by omega⟩
  unfold goodL good
  have e0 : (fun i => bx t (0 + i)) = bx t := by funext i; rw [Nat.zero_add]
  have key : ∀ n, 1 ≤ n → n ≤ t.length → goodF t.length (bx t) k n = (n + (goodF (t.drop n).length (bx (t.drop n)) (t.drop n).length 0).1, (goodF (t.drop n).length (bx (t.drop n)) (t.drop n).length 0).2) := fun n h1 hn => by
    rw [goodF_fuel t.length (bx t) k (t.length - n) n (by omega) (by omega)]
    have := goodF_shift2 t.length (bx t) n hn (t.length - n) 0
    rw [Nat.add_zero] at this
    rw [this, bx_drop, List.length_drop]
  have hs := stepF_le t.length (bx t) hl
  rw [show goodF t.length (bx t) t.length 0 = goodF t.length (bx t) (k + 1) 0 by rw [← hk]]
  simp only [goodF]
  rw [if_neg (by omega), Nat.sub_zero, e0, Nat.zero_add]
  by_cases g : (stepF t.length (bx t)).2 = true
  · rw [if_pos g, if_pos g, key _ (stepF_pos _ _ g) hs]
  · rw [if_neg g, if_neg g]

/-- A step that stands still for others' bytes too, where they agree. -/
theorem step_cut (r r' : Nat) (F G : Nat → Int) (a : Nat) (l : 0 ≤ G 0) (u : G 0 < 256) (h : stepF r F = (a, false)) (h0 : G 0 = F 0) (he : ∀ i, i < a → G i = F i) (har' : a ≤ r')
    (hb : r' ≤ a ∨ folB (G a) = false ∨ (a < r ∧ G a = F a)) : stepF r' G = (a, false) := by
  rcases stepF_false r F a h with ⟨rfl, z⟩ | ⟨a1, a3, ah, s2, s3, hz⟩
  · exact stepF_none r' G (by rw [h0]; exact z)
  · have hp : passed r' G a := by
      refine ⟨fun h2 => ⟨by omega, ?_⟩, fun h3 => ⟨by omega, ?_⟩, fun h4 => by omega⟩
      · rw [h0, he 1 (by omega)]; exact s2 h2
      · rw [he 2 (by omega)]; exact s3 h3
    have hb' : r' ≤ a ∨ folB (G a) = false ∨ okAt G a = false := by
      rcases hb with z | z | ⟨z, z2⟩
      · exact .inl z
      · exact .inr (.inl z)
      · rcases hz with y | ⟨rfl, y⟩ | ⟨rfl, y⟩ | ⟨rfl, y⟩
        · omega
        · exact .inr (.inr (by simp [okAt, h0, z2, y]))
        · exact .inr (.inl (by rw [z2]; exact y))
        · exact .inr (.inl (by rw [z2]; exact y))
    exact stepF_part r' G l u a a1 (by rw [h0]; exact ah) hp hb'

theorem textF_fuel (l : List UInt8) (fr : Nat) (f : Nat) : ∀ (f' i : Nat) (out : List UInt8), i ≤ l.length → l.length + 1 ≤ i + f → l.length + 1 ≤ i + f' → textF l fr f i out = textF l fr f' i out := by
  induction f with
  | zero => intro f' i out h1 h2; omega
  | succ f ih =>
    intro f' i out hi h1 h2
    cases f' with
    | zero => omega
    | succ f' =>
      simp only [textF]
      cases hp : plainL l i with
      | error n => rfl
      | ok e =>
        simp only
        split
        · rfl
        · cases he : escapeL l e with
          | error n => rfl
          | ok r =>
            obtain ⟨t, k⟩ := r
            have a := plainL_le hp
            have b := escapeL_le he
            exact ih f' k _ b.2.1 (by omega) (by omega)

/-- A string from a place within it on, with what stands ahead. -/
def textT (l : List UInt8) (fr i : Nat) (out : List UInt8) : Tk := textF l fr (l.length + 1) i out
theorem sub_self (l : List UInt8) (i : Nat) : sub l i i = [] := by simp [sub]
theorem sub_cat {l : List UInt8} {i m e : Nat} (h : i + m ≤ e) : sub l i (i + m) ++ sub l (i + m) e = sub l i e := by
  unfold sub
  rw [show i + m - i = m by omega, ← List.drop_drop, show e - i = m + (e - (i + m)) by omega, List.take_add]
theorem sub_drop {l : List UInt8} {i m e : Nat} : (sub l i e).drop m = sub l (i + m) e := by
  unfold sub
  rw [List.drop_take, List.drop_drop, show e - i - m = e - (i + m) by omega]
theorem plainL_none {l : List UInt8} {i : Nat} (h : hasAt l i plainB = false) : plainL l i = .ok i := by
  unfold plainL
  rw [pass_stop h, sub_self]
  rfl
theorem textT_stop {l : List UInt8} {fr i : Nat} {out : List UInt8} (h : hasAt l i plainB = false) : textT l fr i out = if hasAt l i (· == 34) = true then .ok ⟨1, out, fr, i + 1⟩ else match escapeL l i with
    | .error n => .error n
    | .ok r => textT l fr r.2 (out ++ r.1) := by
  unfold textT
  conv => lhs; rw [textF]
  rw [plainL_none h]
  simp only [sub_self, List.append_nil]
  split
  · rfl
  · cases he : escapeL l i with
    | error n => rfl
    | ok r =>
      obtain ⟨t, k⟩ := r
      have b := escapeL_le he
      exact textF_fuel l fr _ _ _ _ b.2.1 (by omega) (by omega)
theorem textT_end (l : List UInt8) (fr : Nat) (out : List UInt8) : textT l fr l.length out = .error (l.length + 1) := by
  rw [textT_stop (hasAt_out _ (by omega)), hasAt_out _ (by omega)]
  simp [escapeL, hasAt_out]
theorem textT_quote {l : List UInt8} {fr i : Nat} {out : List UInt8} (hi : i < l.length) (h : bx l i = 34) : textT l fr i out = .ok ⟨1, out, fr, i + 1⟩ := by
  rw [textT_stop (by rw [hasAt_in _ hi, h]; rfl), hasAt_in _ hi, h]
  rfl
theorem textT_low {l : List UInt8} {fr i : Nat} {out : List UInt8} (hi : i < l.length) (h : bx l i < 32) : textT l fr i out = .error (i + 1) := by
  rw [textT_stop (by rw [hasAt_in _ hi]; simp [plainB]; omega), hasAt_in _ hi]
  have a : ¬ bx l i = 34 := by omega
  have b : ¬ bx l i = 92 := by omega
  simp [escapeL, hasAt_in _ hi, a, b]
theorem textT_back {l : List UInt8} {fr i : Nat} {out : List UInt8} (hi : i < l.length) (h : bx l i = 92) : textT l fr i out = match escapeL l i with
    | .error n => .error n
    | .ok r => textT l fr r.2 (out ++ r.1) := by
  rw [textT_stop (by rw [hasAt_in _ hi, h]; rfl), hasAt_in _ hi, h]
  rfl
theorem pass_far {l : List UInt8} {p : Int → Bool} {i : Nat} (m : Nat) (h : i + m ≤ pass l p i) (hl : pass l p i ≤ l.length) : pass l p (i + m) = pass l p i := by
  induction m with
  | zero => rfl
  | succ m ih =>
    have e := ih (by omega)
    have : hasAt l (i + m) p = true := by
      rw [hasAt_in _ (by omega)]
      exact pass_all (i := i) (by omega) (by omega)
    rw [← e, pass_go this]
    rfl
/-- The step that begins at a place. -/
def stepL (l : List UInt8) (i : Nat) : Nat × Bool := stepF (l.length - i) fun j => bx l (i + j)
theorem textT_step {l : List UInt8} {fr i : Nat} {out : List UInt8} (hi : i < l.length) (h : plainB (bx l i) = true) : textT l fr i out = if (stepL l i).2 = true then textT l fr (i + (stepL l i).1) (out ++ sub l i (i + (stepL l i).1)) else .error (i + (stepL l i).1 + 1) := by
  have hg : hasAt l i plainB = true := by rw [hasAt_in _ hi]; exact h
  have he1 : i + 1 ≤ pass l plainB i := by rw [pass_go hg]; exact pass_ge _ _ _
  have hel : pass l plainB i ≤ l.length := pass_le (by omega)
  have hend := pass_end l plainB i
  have hfar := fun m hm => pass_far (l := l) (p := plainB) (i := i) m hm hel
  have hpl : plainL l i = if (goodL (sub l i (pass l plainB i))).2 = true then .ok (pass l plainB i) else .error (i + (goodL (sub l i (pass l plainB i))).1 + 1) := rfl
  have hpf : ∀ m, plainL l (i + m) = if (goodL (sub l (i + m) (pass l plainB (i + m)))).2 = true then .ok (pass l plainB (i + m)) else .error (i + m + (goodL (sub l (i + m) (pass l plainB (i + m)))).1 + 1) := fun m => rfl
  generalize pass l plainB i = e at *
  have hlen := sub_length (l := l) (a := i) (e := e) (by omega) hel
  have hne : sub l i e ≠ [] := by intro h; rw [h] at hlen; simp at hlen; omega
  have hgs := good_step hne
  have hbx : ∀ j, j < e - i → bx (sub l i e) j = bx l (i + j) := fun j hj => bx_sub hj
  rw [hlen] at hgs
  have hsle := stepF_le (e - i) (bx (sub l i e)) (by omega)
  unfold stepL
  cases hst : stepF (e - i) (bx (sub l i e)) with
  | mk m ok =>
    rw [hst] at hgs hsle
    simp only at hgs hsle
    cases ok
    · rw [if_neg (by simp)] at hgs
      rw [hgs, if_neg (by simp)] at hpl
      have hs : stepF (l.length - i) (fun j => bx l (i + j)) = (m, false) := by
        refine step_cut (e - i) (l.length - i) (bx (sub l i e)) _ m (bx_lo _ _) (bx_hi _ _) hst (hbx 0 (by omega)).symm (fun j hj => (hbx j (by omega)).symm) (by omega) ?_
        by_cases hme : m < e - i
        · exact .inr (.inr ⟨hme, (hbx m hme).symm⟩)
        · by_cases hll : e < l.length
          · refine .inr (.inl ?_)
            rw [hasAt_in _ hll] at hend
            show folB (bx l (i + m)) = false
            rw [show i + m = e by omega]
            simp [plainB] at hend
            simp [folB]
            omega
          · exact .inl (by omega)
      rw [hs]
      unfold textT
      conv => lhs; rw [textF]
      rw [hpl]
      rfl
    · rw [if_pos rfl, sub_drop] at hgs
      have hs : stepF (l.length - i) (fun j => bx l (i + j)) = (m, true) :=
        step_good (e - i) (l.length - i) (bx (sub l i e)) _ m (fun _ => bx_lo _ _) (fun _ => bx_hi _ _) hst (by omega) (fun j hj => (hbx j (by omega)).symm)
      rw [hs]
      have hf := hfar m (by omega)
      have hpm := hpf m
      rw [hf] at hpm
      rw [hgs] at hpl
      simp only at hpl
      unfold textT
      rw [if_pos rfl]
      conv => lhs; rw [textF]
      conv => rhs; rw [textF]
      rw [hpl, hpm]
      by_cases g : (goodL (sub l (i + m) e)).2 = true
      · rw [if_pos g, if_pos g]
        simp only
        rw [List.append_assoc out, sub_cat (by omega)]
      · rw [if_neg g, if_neg g]
        simp only
        rw [Nat.add_assoc i m]

/-- Ever longer beginnings of what begins at a place. -/
theorem good_one (k : Nat) (f : Nat → Int) (n : Nat) (h : stepF k f = (n, false)) (hk : 1 ≤ k) : good k f = (n, false) := by
  obtain ⟨j, rfl⟩ : ∃ j, k = j + 1 := ⟨k - 1, by omega⟩
  unfold good
  simp only [goodF]
  rw [if_neg (by omega), Nat.sub_zero]
  have e0 : (fun i => f (0 + i)) = f := by funext i; rw [Nat.zero_add]
  rw [e0, h, if_neg (by simp), Nat.zero_add]
theorem good_all (k : Nat) (f : Nat → Int) (h : stepF k f = (k, true)) (hk : 1 ≤ k) : good k f = (k, true) := by
  obtain ⟨j, rfl⟩ : ∃ j, k = j + 1 := ⟨k - 1, by omega⟩
  unfold good
  simp only [goodF]
  rw [if_neg (by omega), Nat.sub_zero]
  have e0 : (fun i => f (0 + i)) = f := by funext i; rw [Nat.zero_add]
  rw [e0, h, if_pos rfl, Nat.zero_add]
  simp only
  cases j with
  | zero => rfl
  | succ j => simp only [goodF]; rw [if_pos (by omega)]
/-- What the bytes ahead of a step's end are. -/
theorem step_ahead (r : Nat) (f : Nat → Int) (m : Nat) (ok : Bool) (h : stepF r f = (m, ok)) (h0 : 0 ≤ f 0) (h1 : f 0 < 256) (hr : 0 < r) : m ≤ 4 ∧ m ≤ r ∧ ∀ j, 1 ≤ j → j < m → folB (f j) = true ∧ 192 ≤ f 0 := by
  have a := stepF_le4 r f
  have b := stepF_le r f hr
  rw [h] at a b
  refine ⟨a, b, ?_⟩
  cases ok
  · rcases stepF_false r f m h with ⟨rfl, _⟩ | ⟨a1, a3, ah, s2, s3, _⟩
    · intro j hj hj2; omega
    · intro j hj hj2
      have hc : 192 ≤ f 0 := by
        unfold stN at ah; repeat' split at ah
        all_goals omega
      have : j = 1 ∨ j = 2 := by omega
      rcases this with rfl | rfl
      · exact ⟨secB_fol _ _ (s2 (by omega)), hc⟩
      · exact ⟨s3 (by omega), hc⟩
  · rcases step_bytes r f m h with ⟨rfl, _⟩ | ⟨rfl, _, c1, _, d1, d2⟩ | ⟨rfl, _, c1, _, d1, d2, _, _, e1, e2⟩ | ⟨rfl, _, c1, _, d1, d2, _, _, e1, e2, g1, g2⟩
    · intro j hj hj2; omega
    · intro j hj hj2
      obtain rfl : j = 1 := by omega
      exact ⟨(folB_iff _).2 ⟨d1, d2⟩, by omega⟩
    · intro j hj hj2
      have : j = 1 ∨ j = 2 := by omega
      rcases this with rfl | rfl
      · exact ⟨(folB_iff _).2 ⟨d1, d2⟩, by omega⟩
      · exact ⟨(folB_iff _).2 ⟨e1, e2⟩, by omega⟩
    · intro j hj hj2
      have : j = 1 ∨ j = 2 ∨ j = 3 := by omega
      rcases this with rfl | rfl | rfl
      · exact ⟨(folB_iff _).2 ⟨d1, d2⟩, by omega⟩
      · exact ⟨(folB_iff _).2 ⟨e1, e2⟩, by omega⟩
      · exact ⟨(folB_iff _).2 ⟨g1, g2⟩, by omega⟩
theorem try_lt (r : Nat) (f : Nat → Int) (m k : Nat) (h : stepF r f = (m, true)) (h0 : 0 ≤ f 0) (h1 : f 0 < 256) (hk : 1 ≤ k) (hm : k < m) : good k f = (k, false) := by
  refine good_one k f k ?_ hk
  rcases stepF_true r f m h with ⟨rfl, _⟩ | ⟨rfl, z, _, s⟩ | ⟨rfl, z, _, s, t⟩ | ⟨rfl, z0, z1, z2, z3, _, s, t, v⟩
  · omega
  · exact stepF_part k f h0 h1 k hk (by omega) ⟨by omega, by omega, by omega⟩ (.inl (Nat.le_refl _))
  · exact stepF_part k f h0 h1 k hk (by omega) ⟨fun _ => ⟨by omega, s⟩, by omega, by omega⟩ (.inl (Nat.le_refl _))
  · have := stN_range (f 0)
    exact stepF_part k f h0 h1 k hk (by omega) ⟨fun _ => ⟨by omega, s⟩, fun _ => ⟨by omega, t⟩, by omega⟩ (.inl (Nat.le_refl _))
theorem try_eq (r : Nat) (f : Nat → Int) (m : Nat) (h : stepF r f = (m, true)) (l : ∀ i, 0 ≤ f i) (u : ∀ i, f i < 256) : good m f = (m, true) := by
  have hp := stepF_pos r f (by rw [h])
  rw [h] at hp
  exact good_all m f (step_good r m f f m l u h (Nat.le_refl _) (fun _ _ => rfl)) hp
theorem try_bad (r : Nat) (f : Nat → Int) (m k : Nat) (h : stepF r f = (m, false)) (h0 : 0 ≤ f 0) (h1 : f 0 < 256) (hk : 1 ≤ k) (hr : k ≤ r) : good k f = (min k m, false) := by
  refine good_one k f _ ?_ hk
  by_cases hm : k ≤ m
  · rw [Nat.min_eq_left hm]
    rcases stepF_false r f m h with ⟨rfl, _⟩ | ⟨a1, a3, ah, s2, s3, _⟩
    · omega
    · exact stepF_part k f h0 h1 k hk (by omega) ⟨fun _ => ⟨by omega, s2 (by omega)⟩, fun _ => ⟨by omega, s3 (by omega)⟩, by omega⟩ (.inl (Nat.le_refl _))
  · rw [Nat.min_eq_right (by omega)]
    exact step_cut r k f f m h0 h1 h rfl (fun _ _ => rfl) (by omega) (.inr (.inr ⟨by omega, rfl⟩))
end Go.Proofs.YtngpkgmgjbahgaaDoor
