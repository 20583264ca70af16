/-
  Plain mathematics: valid texts stand by their bytes as they stand by their code points. No condition.
-/
import Derived.Test.YtibkhbmglnlgkaaDoorC1
namespace Go.Proofs.YtibkhbmglnlgkaaDoor
open Go.RowKit
set_option linter.unusedSimpArgs false
set_option linter.unusedVariables false

/-- Rows of numbers in their order. -/
def cmpL : List Int → List Int → Int
  | [], [] => 0
  | [], _ :: _ => -1
  | _ :: _, [] => 1
  | a :: x, b :: y => if a < b then -1 else if b < a then 1 else cmpL x y

theorem cmpL_bd : ∀ x y, -1 ≤ cmpL x y ∧ cmpL x y ≤ 1
  | [], [] => by simp [cmpL]
  | [], _ :: _ => by simp [cmpL]
  | _ :: _, [] => by simp [cmpL]
  | a :: x, b :: y => by
    have := cmpL_bd x y
    unfold cmpL
    split
    · omega
    · split
      · omega
      · exact this
theorem cmpL_swap : ∀ x y, cmpL y x = - cmpL x y
  | [], [] => by simp [cmpL]
  | [], _ :: _ => by simp [cmpL]
  | _ :: _, [] => by simp [cmpL]
  | a :: x, b :: y => by
    have := cmpL_swap x y
    unfold cmpL
    by_cases h1 : a < b
    · rw [if_neg (by omega), if_pos h1, if_pos h1]; rfl
    · by_cases h2 : b < a
      · rw [if_pos h2, if_neg h1, if_pos h2]
      · rw [if_neg h2, if_neg h1, if_neg h1, if_neg h2]; exact this

theorem lt_bytes (r r' a b : Nat) (F G : Nat → Int) (lF : ∀ i, 0 ≤ F i) (lG : ∀ i, 0 ≤ G i) (h : stepF r F = (a, true)) (h' : stepF r' G = (b, true)) (hlt : ptF F a < ptF G b) :
    F 0 < G 0 ∨ (F 0 = G 0 ∧ a = b ∧ 2 ≤ a ∧ (F 1 < G 1 ∨ (F 1 = G 1 ∧ 3 ≤ a ∧ (F 2 < G 2 ∨ (F 2 = G 2 ∧ 4 ≤ a ∧ F 3 < G 3))))) := by
  have e1 : ∀ g : Nat → Int, ptF g 1 = g 0 := fun _ => rfl
  have e2 : ∀ g : Nat → Int, ptF g 2 = g 0 % 32 * 64 + g 1 % 64 := fun _ => rfl
  have e3 : ∀ g : Nat → Int, ptF g 3 = g 0 % 16 * 4096 + g 1 % 64 * 64 + g 2 % 64 := fun _ => rfl
  have e4 : ∀ g : Nat → Int, ptF g 4 = g 0 % 8 * 262144 + g 1 % 64 * 4096 + g 2 % 64 * 64 + g 3 % 64 := fun _ => rfl
  have l0 := lF 0
  have m0 := lG 0
  rcases step_bytes r F a h with ⟨rfl, x⟩ | ⟨rfl, l, x⟩ | ⟨rfl, l, x⟩ | ⟨rfl, l, x⟩ <;> rcases step_bytes r' G b h' with ⟨rfl, y⟩ | ⟨rfl, l', y⟩ | ⟨rfl, l', y⟩ | ⟨rfl, l', y⟩ <;> simp only [e1, e2, e3, e4] at hlt <;> omega

theorem eq_bytes (r r' a b : Nat) (F G : Nat → Int) (lF : ∀ i, 0 ≤ F i) (lG : ∀ i, 0 ≤ G i) (h : stepF r F = (a, true)) (h' : stepF r' G = (b, true)) (he : ptF F a = ptF G b) : a = b ∧ ∀ i, i < a → F i = G i := by
  have n1 := encN_pt r F a lF h
  have n2 := encN_pt r' G b lG h'
  have e : a = b := by rw [← n1, ← n2, he]
  refine ⟨e, fun i hi => ?_⟩
  rw [← encF_pt r F a lF h i hi, ← encF_pt r' G b lG h' i (by omega), he]

theorem cmpB_cons (a b : UInt8) (x y : List UInt8) : Lib.compareBytes (a :: x) (b :: y) = if a < b then -1 else if b < a then 1 else Lib.compareBytes x y := rfl

theorem cmpB_step (n m : Nat) (f g : Nat → Int) (lf : ∀ i, 0 ≤ f i) (uf : ∀ i, f i < 256) (lg : ∀ i, 0 ≤ g i) (ug : ∀ i, g i < 256) (p q : Nat) (hp : p < n) (hq : q < m) :
    Lib.compareBytes ((bs n f).drop p) ((bs m g).drop q) = if f p < g q then -1 else if g q < f p then 1 else Lib.compareBytes ((bs n f).drop (p + 1)) ((bs m g).drop (q + 1)) := by
  have hl : p < (bs n f).length := by rw [bs_length]; exact hp
  have hl' : q < (bs m g).length := by rw [bs_length]; exact hq
  rw [List.drop_eq_getElem_cons hl, List.drop_eq_getElem_cons hl']
  have e := bs_at n f lf uf p hl
  have e' := bs_at m g lg ug q hl'
  rw [cmpB_cons]
  have c1 : ((bs n f)[p] < (bs m g)[q]) ↔ f p < g q := by rw [UInt8.lt_iff_toNat_lt, ← e, ← e']; omega
  have c2 : ((bs m g)[q] < (bs n f)[p]) ↔ g q < f p := by rw [UInt8.lt_iff_toNat_lt, ← e, ← e']; omega
  simp only [c1, c2]

theorem cmpB_lt (n m : Nat) (f g : Nat → Int) (lf : ∀ i, 0 ≤ f i) (uf : ∀ i, f i < 256) (lg : ∀ i, 0 ≤ g i) (ug : ∀ i, g i < 256) (p q : Nat) (hp : p < n) (hq : q < m) (h : f p < g q) : Lib.compareBytes ((bs n f).drop p) ((bs m g).drop q) = -1 := by
  rw [cmpB_step n m f g lf uf lg ug p q hp hq, if_pos h]
theorem cmpB_gt (n m : Nat) (f g : Nat → Int) (lf : ∀ i, 0 ≤ f i) (uf : ∀ i, f i < 256) (lg : ∀ i, 0 ≤ g i) (ug : ∀ i, g i < 256) (p q : Nat) (hp : p < n) (hq : q < m) (h : g q < f p) : Lib.compareBytes ((bs n f).drop p) ((bs m g).drop q) = 1 := by
  rw [cmpB_step n m f g lf uf lg ug p q hp hq, if_neg (by omega), if_pos h]
theorem cmpB_eq (n m : Nat) (f g : Nat → Int) (lf : ∀ i, 0 ≤ f i) (uf : ∀ i, f i < 256) (lg : ∀ i, 0 ≤ g i) (ug : ∀ i, g i < 256) (p q : Nat) (hp : p < n) (hq : q < m) (h : f p = g q) : Lib.compareBytes ((bs n f).drop p) ((bs m g).drop q) = Lib.compareBytes ((bs n f).drop (p + 1)) ((bs m g).drop (q + 1)) := by
  rw [cmpB_step n m f g lf uf lg ug p q hp hq, if_neg (by omega), if_neg (by omega)]
theorem cmpB_skip (n m : Nat) (f g : Nat → Int) (lf : ∀ i, 0 ≤ f i) (uf : ∀ i, f i < 256) (lg : ∀ i, 0 ≤ g i) (ug : ∀ i, g i < 256) : ∀ (a p q : Nat), p + a ≤ n → q + a ≤ m → (∀ i, i < a → f (p + i) = g (q + i)) → Lib.compareBytes ((bs n f).drop p) ((bs m g).drop q) = Lib.compareBytes ((bs n f).drop (p + a)) ((bs m g).drop (q + a))
  | 0, p, q, _, _, _ => rfl
  | a + 1, p, q, hp, hq, h => by
    rw [cmpB_eq n m f g lf uf lg ug p q (by omega) (by omega) (h 0 (by omega)), cmpB_skip n m f g lf uf lg ug a (p + 1) (q + 1) (by omega) (by omega) (fun i hi => by
      have := h (i + 1) (by omega)
      rw [show p + 1 + i = p + (i + 1) from by omega, show q + 1 + i = q + (i + 1) from by omega]; exact this)]
    rw [show p + 1 + a = p + (a + 1) from by omega, show q + 1 + a = q + (a + 1) from by omega]

/-- By bytes as by code points. -/
theorem cmp_points (n m : Nat) (f g : Nat → Int) (lf : ∀ i, 0 ≤ f i) (uf : ∀ i, f i < 256) (lg : ∀ i, 0 ≤ g i) (ug : ∀ i, g i < 256) : ∀ (k p l q : Nat), p ≤ n → n ≤ p + k → (goodF n f k p).2 = true → q ≤ m → m ≤ q + l → (goodF m g l q).2 = true →
    Lib.compareBytes ((bs n f).drop p) ((bs m g).drop q) = cmpL (pointsF n f k p) (pointsF m g l q)
  | 0, p, l, q, hp, hk, hg, hq, hl, hh => by
    rw [List.drop_eq_nil_of_le (by rw [bs_length]; omega)]
    by_cases z : q < m
    · obtain ⟨l', rfl⟩ : ∃ l', l = l' + 1 := ⟨l - 1, by omega⟩
      obtain ⟨b, _, _, _, _, hpt⟩ := good_step m g l' q z hh
      rw [hpt, List.drop_eq_getElem_cons (by rw [bs_length]; exact z)]
      simp [pointsF, cmpL, Lib.compareBytes]
    · rw [List.drop_eq_nil_of_le (by rw [bs_length]; omega)]
      have : pointsF m g l q = [] := by cases l with
        | zero => rfl
        | succ l => simp [pointsF, show m ≤ q by omega]
      rw [this]; simp [pointsF, cmpL, Lib.compareBytes]
  | k + 1, p, l, q, hp, hk, hg, hq, hl, hh => by
    by_cases y : p < n
    · obtain ⟨a, hs, a1, ha, hga, hpt⟩ := good_step n f k p y hg
      by_cases z : q < m
      · obtain ⟨l', rfl⟩ : ∃ l', l = l' + 1 := ⟨l - 1, by omega⟩
        obtain ⟨b, hs', b1, hb, hgb, hpt'⟩ := good_step m g l' q z hh
        rw [hpt, hpt']
        have lF : ∀ i, 0 ≤ (fun i => f (p + i)) i := fun i => lf (p + i)
        have lG : ∀ i, 0 ≤ (fun i => g (q + i)) i := fun i => lg (q + i)
        by_cases c1 : ptF (fun i => f (p + i)) a < ptF (fun i => g (q + i)) b
        · have hlt := lt_bytes _ _ a b _ _ lF lG hs hs' c1
          unfold cmpL
          rw [if_pos c1]
          simp only [Nat.add_zero] at hlt
          rcases hlt with h | ⟨e0, rfl, n2, h | ⟨e1, n3, h | ⟨e2, n4, h⟩⟩⟩
          · exact cmpB_lt n m f g lf uf lg ug p q y z h
          · rw [cmpB_skip n m f g lf uf lg ug 1 p q (by omega) (by omega) (fun i hi => by
              have z0 : i = 0 := by omega
              subst z0; exact e0)]
            exact cmpB_lt n m f g lf uf lg ug (p + 1) (q + 1) (by omega) (by omega) h
          · rw [cmpB_skip n m f g lf uf lg ug 2 p q (by omega) (by omega) (fun i hi => by
              have : i = 0 ∨ i = 1 := by omega
              rcases this with rfl | rfl
              · exact e0
              · exact e1)]
            exact cmpB_lt n m f g lf uf lg ug (p + 2) (q + 2) (by omega) (by omega) h
          · rw [cmpB_skip n m f g lf uf lg ug 3 p q (by omega) (by omega) (fun i hi => by
              have : i = 0 ∨ i = 1 ∨ i = 2 := by omega
              rcases this with rfl | rfl | rfl
              · exact e0
              · exact e1
              · exact e2)]
            exact cmpB_lt n m f g lf uf lg ug (p + 3) (q + 3) (by omega) (by omega) h
        · by_cases c2 : ptF (fun i => g (q + i)) b < ptF (fun i => f (p + i)) a
          · have hlt := lt_bytes _ _ b a _ _ lG lF hs' hs c2
            unfold cmpL
            rw [if_neg c1, if_pos c2]
            simp only [Nat.add_zero] at hlt
            rcases hlt with h | ⟨e0, rfl, n2, h | ⟨e1, n3, h | ⟨e2, n4, h⟩⟩⟩
            · exact cmpB_gt n m f g lf uf lg ug p q y z h
            · rw [cmpB_skip n m f g lf uf lg ug 1 p q (by omega) (by omega) (fun i hi => by
                have z0 : i = 0 := by omega
                subst z0; exact e0.symm)]
              exact cmpB_gt n m f g lf uf lg ug (p + 1) (q + 1) (by omega) (by omega) h
            · rw [cmpB_skip n m f g lf uf lg ug 2 p q (by omega) (by omega) (fun i hi => by
                have : i = 0 ∨ i = 1 := by omega
                rcases this with rfl | rfl
                · exact e0.symm
                · exact e1.symm)]
              exact cmpB_gt n m f g lf uf lg ug (p + 2) (q + 2) (by omega) (by omega) h
            · rw [cmpB_skip n m f g lf uf lg ug 3 p q (by omega) (by omega) (fun i hi => by
                have : i = 0 ∨ i = 1 ∨ i = 2 := by omega
                rcases this with rfl | rfl | rfl
                · exact e0.symm
                · exact e1.symm
                · exact e2.symm)]
              exact cmpB_gt n m f g lf uf lg ug (p + 3) (q + 3) (by omega) (by omega) h
          · obtain ⟨rfl, he⟩ := eq_bytes _ _ a b _ _ lF lG hs hs' (by omega)
            unfold cmpL
            rw [if_neg c1, if_neg c2, cmpB_skip n m f g lf uf lg ug a p q ha hb he]
            exact cmp_points n m f g lf uf lg ug k (p + a) l' (q + a) ha (by omega) hga hb (by omega) hgb
      · rw [show (bs m g).drop q = [] from List.drop_eq_nil_of_le (by rw [bs_length]; omega), List.drop_eq_getElem_cons (by rw [bs_length]; exact y), hpt]
        have : pointsF m g l q = [] := by cases l with
          | zero => rfl
          | succ l => simp [pointsF, show m ≤ q by omega]
        rw [this]; simp [cmpL, Lib.compareBytes]
    · have e1 : pointsF n f (k + 1) p = [] := by simp [pointsF, show n ≤ p by omega]
      rw [List.drop_eq_nil_of_le (by rw [bs_length]; omega), e1]
      by_cases z : q < m
      · obtain ⟨l', rfl⟩ : ∃ l', l = l' + 1 := ⟨l - 1, by omega⟩
        obtain ⟨b, _, _, _, _, hpt⟩ := good_step m g l' q z hh
        rw [hpt, List.drop_eq_getElem_cons (by rw [bs_length]; exact z)]
        simp [cmpL, Lib.compareBytes]
      · rw [List.drop_eq_nil_of_le (by rw [bs_length]; omega)]
        have : pointsF m g l q = [] := by cases l with
          | zero => rfl
          | succ l => simp [pointsF, show m ≤ q by omega]
        rw [this]; simp [cmpL, Lib.compareBytes]

theorem cmp_whole (n m : Nat) (f g : Nat → Int) (lf : ∀ i, 0 ≤ f i) (uf : ∀ i, f i < 256) (lg : ∀ i, 0 ≤ g i) (ug : ∀ i, g i < 256) (h : (good n f).2 = true) (h' : (good m g).2 = true) : Lib.compareBytes (txt n f).data.toList (txt m g).data.toList = cmpL (points n f) (points m g) := by
  have := cmp_points n m f g lf uf lg ug n 0 m 0 (Nat.zero_le _) (by omega) h (Nat.zero_le _) (by omega) h'
  simpa [txt, points] using this
end Go.Proofs.YtibkhbmglnlgkaaDoor
