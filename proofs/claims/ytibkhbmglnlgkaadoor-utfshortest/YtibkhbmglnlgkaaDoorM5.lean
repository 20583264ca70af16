/-
  Plain mathematics: the good beginning of bytes is the longest: some end of at most three bytes makes it valid, and no end makes it valid with the next byte. No condition but that bytes are below 256.
-/
import Derived.Test.YtibkhbmglnlgkaaDoorM3
namespace Go.Proofs.YtibkhbmglnlgkaaDoor
open Go.RowKit
set_option linter.unusedSimpArgs false
set_option linter.unusedVariables false

theorem stN_range (c : Int) : stN c = 0 ∨ stN c = 1 ∨ stN c = 2 ∨ stN c = 3 ∨ stN c = 4 := by
  unfold stN; repeat' split
  all_goals omega

theorem stepF_false (r : Nat) (F : Nat → Int) (a : Nat) (h : stepF r F = (a, false)) :
    (a = 0 ∧ stN (F 0) = 0) ∨ (1 ≤ a ∧ a ≤ 3 ∧ (a : Int) < stN (F 0) ∧ (2 ≤ a → secB (F 0) (F 1) = true) ∧ (3 ≤ a → folB (F 2) = true) ∧ (r ≤ a ∨ (a = 1 ∧ secB (F 0) (F 1) = false) ∨ (a = 2 ∧ folB (F 2) = false) ∨ (a = 3 ∧ folB (F 3) = false))) := by
  have hr := stN_range (F 0)
  unfold stepF at h
  repeat' split at h
  all_goals simp only [Prod.mk.injEq, Bool.true_eq_false, and_false, and_true] at h
  · exact .inl ⟨h.symm, ‹_›⟩
  · subst h; exact .inr ⟨by omega, by omega, by omega, by omega, by omega, .inl ‹_›⟩
  · subst h; exact .inr ⟨by omega, by omega, by omega, by omega, by omega, .inr (.inl ⟨rfl, ‹_›⟩)⟩
  · subst h; exact .inr ⟨by omega, by omega, by omega, fun _ => by simp_all, by omega, .inl ‹_›⟩
  · subst h; exact .inr ⟨by omega, by omega, by omega, fun _ => by simp_all, by omega, .inr (.inr (.inl ⟨rfl, ‹_›⟩))⟩
  · subst h; exact .inr ⟨by omega, by omega, by omega, fun _ => by simp_all, fun _ => by simp_all, .inl ‹_›⟩
  · subst h; exact .inr ⟨by omega, by omega, by omega, fun _ => by simp_all, fun _ => by simp_all, .inr (.inr (.inr ⟨rfl, ‹_›⟩))⟩

theorem step_bad (r r' : Nat) (F G : Nat → Int) (a : Nat) (l : ∀ i, 0 ≤ G i) (u : ∀ i, G i < 256) (h : stepF r F = (a, false)) (har : a < r) (har' : a < r') (he : ∀ i, i ≤ a → G i = F i) : (stepF r' G).2 = false := by
  rcases stepF_false r F a h with ⟨rfl, z⟩ | ⟨a1, a3, ah, s2, s3, hb⟩
  · rw [stepF_none r' G (by rw [he 0 (by omega)]; exact z)]
  · have e0 := he 0 (by omega)
    have e1 := he 1 (by omega)
    have hp : passed r' G a := by
      refine ⟨fun h2 => ⟨by omega, ?_⟩, fun h3 => ⟨by omega, ?_⟩, fun h4 => by omega⟩
      · rw [e0, e1]; exact s2 h2
      · rw [he 2 (by omega)]; exact s3 h3
    have hb' : r' ≤ a ∨ folB (G a) = false ∨ okAt G a = false := by
      rcases hb with z | ⟨rfl, z⟩ | ⟨rfl, z⟩ | ⟨rfl, z⟩
      · omega
      · exact .inr (.inr (by simp [okAt, e0, e1, z]))
      · exact .inr (.inl (by rw [he 2 (by omega)]; exact z))
      · exact .inr (.inl (by rw [he 3 (by omega)]; exact z))
    rw [stepF_part r' G (l 0) (u 0) a a1 (by rw [e0]; exact ah) hp hb']

theorem step_good (r r' : Nat) (F G : Nat → Int) (a : Nat) (l : ∀ i, 0 ≤ G i) (u : ∀ i, G i < 256) (h : stepF r F = (a, true)) (har' : a ≤ r') (he : ∀ i, i < a → G i = F i) : stepF r' G = (a, true) := by
  have hr := stN_range (F 0)
  rcases stepF_true r F a h with ⟨rfl, z⟩ | ⟨rfl, z, _, s⟩ | ⟨rfl, z, _, s, t⟩ | ⟨rfl, z0, z1, z2, z3, _, s, t, v⟩
  · have e0 := he 0 (by omega)
    exact stepF_whole r' G (l 0) (u 0) (by rw [e0, z]; decide) 1 (by rw [e0, z]; rfl) ⟨by omega, by omega, by omega⟩
  · have e0 := he 0 (by omega)
    have e1 := he 1 (by omega)
    exact stepF_whole r' G (l 0) (u 0) (by rw [e0, z]; decide) 2 (by rw [e0, z]; rfl) ⟨fun _ => ⟨by omega, by rw [e0, e1]; exact s⟩, by omega, by omega⟩
  · have e0 := he 0 (by omega)
    have e1 := he 1 (by omega)
    have e2 := he 2 (by omega)
    exact stepF_whole r' G (l 0) (u 0) (by rw [e0, z]; decide) 3 (by rw [e0, z]; rfl) ⟨fun _ => ⟨by omega, by rw [e0, e1]; exact s⟩, fun _ => ⟨by omega, by rw [e2]; exact t⟩, by omega⟩
  · have e0 := he 0 (by omega)
    have e1 := he 1 (by omega)
    have e2 := he 2 (by omega)
    have e3 := he 3 (by omega)
    have z : stN (F 0) = 4 := by omega
    exact stepF_whole r' G (l 0) (u 0) (by rw [e0, z]; decide) 4 (by rw [e0, z]; rfl) ⟨fun _ => ⟨by omega, by rw [e0, e1]; exact s⟩, fun _ => ⟨by omega, by rw [e2]; exact t⟩, fun _ => ⟨by omega, by rw [e3]; exact v⟩⟩

theorem goodF_ge (len : Nat) (f : Nat → Int) : ∀ k p, p ≤ (goodF len f k p).1
  | 0, p => Nat.le_refl _
  | k + 1, p => by
    unfold goodF
    split
    · exact Nat.le_refl _
    · split
      · exact Nat.le_trans (Nat.le_add_right _ _) (goodF_ge len f k _)
      · exact Nat.le_add_right _ _

/-- With the next byte, nothing makes it valid. -/
theorem good_bad (len : Nat) (f : Nat → Int) (n : Nat) (len' : Nat) (g : Nat → Int) (l : ∀ i, 0 ≤ g i) (u : ∀ i, g i < 256) (hn : n < len) (hn' : n < len') (he : ∀ i, i ≤ n → g i = f i) :
    ∀ k p k', goodF len f k p = (n, false) → p ≤ len → len ≤ p + k → len' ≤ p + k' → (goodF len' g k' p).2 = false
  | 0, p, k', h, _, _, _ => by simp [goodF] at h
  | k + 1, p, k', h, hp, hk, hk' => by
    have hge := goodF_ge len f (k + 1) p
    rw [h] at hge
    have hge : p ≤ n := hge
    obtain ⟨j, rfl⟩ : ∃ j, k' = j + 1 := ⟨k' - 1, by omega⟩
    unfold goodF at h
    rw [if_neg (by omega)] at h
    by_cases z : (stepF (len - p) fun i => f (p + i)).2 = true
    · obtain ⟨a, hst⟩ : ∃ a, stepF (len - p) (fun i => f (p + i)) = (a, true) := ⟨_, Prod.ext rfl z⟩
      have hpos := stepF_pos _ _ z
      have hle := stepF_le (len - p) (fun i => f (p + i)) (by omega)
      rw [hst] at h hpos hle
      rw [if_pos rfl] at h
      have h : goodF len f k (p + a) = (n, false) := h
      have hpos : 1 ≤ a := hpos
      have hle : a ≤ len - p := hle
      have hge2 := goodF_ge len f k (p + a)
      rw [h] at hge2
      have hge2 : p + a ≤ n := hge2
      have hs := step_good (len - p) (len' - p) (fun i => f (p + i)) (fun i => g (p + i)) a (fun i => l _) (fun i => u _) hst (by omega) (fun i hi => he (p + i) (by omega))
      unfold goodF
      rw [if_neg (by omega), hs, if_pos rfl]
      exact good_bad len f n len' g l u hn hn' he k (p + a) j h (by omega) (by omega) (by omega)
    · have z' : (stepF (len - p) fun i => f (p + i)).2 = false := by simpa using z
      obtain ⟨a, hst⟩ : ∃ a, stepF (len - p) (fun i => f (p + i)) = (a, false) := ⟨_, Prod.ext rfl z'⟩
      rw [hst] at h
      rw [if_neg (by simp)] at h
      have hna : p + a = n := (Prod.mk.inj h).1
      have hs := step_bad (len - p) (len' - p) (fun i => f (p + i)) (fun i => g (p + i)) a (fun i => l _) (fun i => u _) hst (by omega) (by omega) (fun i hi => he (p + i) (by omega))
      unfold goodF
      rw [if_neg (by omega), if_neg (by rw [hs]; decide)]

/-! ### The ends that the law tries -/
def endM (e : Nat) : Nat := if e = 0 then 0 else if e = 1 then 1 else if e = 2 then 1 else if e = 3 then 2 else if e = 4 then 2 else if e = 5 then 3 else if e = 6 then 3 else 1
def endF (e : Nat) : Nat → Int := fun i => if e = 1 then 128 else if e = 2 then 191 else if e = 3 then (if i = 0 then 160 else 128) else if e = 4 then 128 else if e = 5 then (if i = 0 then 144 else 128) else if e = 6 then 128 else 160
theorem endM_le (e : Nat) : endM e ≤ 3 := by
  unfold endM; repeat' split
  all_goals omega
theorem endF_lo (e i : Nat) : 0 ≤ endF e i := by
  unfold endF; repeat' split
  all_goals omega
theorem endF_hi (e i : Nat) : endF e i < 256 := by
  unfold endF; repeat' split
  all_goals omega

theorem fol128 : folB 128 = true := by decide

/-- A first byte with what stands behind it is made whole by one of the ends. -/
theorem fill_step (F : Nat → Int) (a : Nat) (l0 : 0 ≤ F 0) (u0 : F 0 < 256) (a1 : 1 ≤ a) (a3 : a ≤ 3) (ah : (a : Int) < stN (F 0)) (s2 : 2 ≤ a → secB (F 0) (F 1) = true) (s3 : 3 ≤ a → folB (F 2) = true) :
    ∃ e, e < 8 ∧ 1 ≤ endM e ∧ ∀ G : Nat → Int, (∀ i, i < a → G i = F i) → (∀ i, i < endM e → G (a + i) = endF e i) → stepF (a + endM e) G = (a + endM e, true) := by
  have hr := stN_range (F 0)
  have h2 : a = 1 ∨ a = 2 ∨ a = 3 := by omega
  have sec : ∀ c : Int, ((194 ≤ c ∧ c ≤ 223) ∨ (225 ≤ c ∧ c ≤ 239) ∨ (241 ≤ c ∧ c ≤ 244)) → secB c 128 = true := by
    intro c hc; rw [secB_iff]
    repeat' split
    all_goals omega
  rcases h2 with rfl | rfl | rfl
  · have hN : stN (F 0) = 2 ∨ stN (F 0) = 3 ∨ stN (F 0) = 4 := by omega
    rcases hN with z | z | z
    · have hb := stN_two _ z
      refine ⟨1, by omega, by decide, fun G h e => ?_⟩
      have e0 := h 0 (by omega)
      have e1 : G 1 = 128 := e 0 (by decide)
      exact stepF_whole _ G (by rw [e0]; exact l0) (by rw [e0]; exact u0) (by rw [e0, z]; decide) 2 (by rw [e0, z]; rfl) ⟨fun _ => ⟨by decide, by rw [e0, e1]; exact sec _ (by omega)⟩, by omega, by omega⟩
    · have hb := stN_three _ z
      by_cases c : F 0 = 224
      · refine ⟨3, by omega, by decide, fun G h e => ?_⟩
        have e0 := h 0 (by omega)
        have e1 : G 1 = 160 := e 0 (by decide)
        have e2 : G 2 = 128 := e 1 (by decide)
        exact stepF_whole _ G (by rw [e0]; exact l0) (by rw [e0]; exact u0) (by rw [e0, z]; decide) 3 (by rw [e0, z]; rfl) ⟨fun _ => ⟨by decide, by rw [e0, e1, c]; decide⟩, fun _ => ⟨by decide, by rw [e2]; exact fol128⟩, by omega⟩
      · refine ⟨4, by omega, by decide, fun G h e => ?_⟩
        have e0 := h 0 (by omega)
        have e1 : G 1 = 128 := e 0 (by decide)
        have e2 : G 2 = 128 := e 1 (by decide)
        exact stepF_whole _ G (by rw [e0]; exact l0) (by rw [e0]; exact u0) (by rw [e0, z]; decide) 3 (by rw [e0, z]; rfl) ⟨fun _ => ⟨by decide, by rw [e0, e1]; exact sec _ (by omega)⟩, fun _ => ⟨by decide, by rw [e2]; exact fol128⟩, by omega⟩
    · have hb := stN_four _ z
      by_cases c : F 0 = 240
      · refine ⟨5, by omega, by decide, fun G h e => ?_⟩
        have e0 := h 0 (by omega)
        have e1 : G 1 = 144 := e 0 (by decide)
        have e2 : G 2 = 128 := e 1 (by decide)
        have e3 : G 3 = 128 := e 2 (by decide)
        exact stepF_whole _ G (by rw [e0]; exact l0) (by rw [e0]; exact u0) (by rw [e0, z]; decide) 4 (by rw [e0, z]; rfl) ⟨fun _ => ⟨by decide, by rw [e0, e1, c]; decide⟩, fun _ => ⟨by decide, by rw [e2]; exact fol128⟩, fun _ => ⟨by decide, by rw [e3]; exact fol128⟩⟩
      · refine ⟨6, by omega, by decide, fun G h e => ?_⟩
        have e0 := h 0 (by omega)
        have e1 : G 1 = 128 := e 0 (by decide)
        have e2 : G 2 = 128 := e 1 (by decide)
        have e3 : G 3 = 128 := e 2 (by decide)
        exact stepF_whole _ G (by rw [e0]; exact l0) (by rw [e0]; exact u0) (by rw [e0, z]; decide) 4 (by rw [e0, z]; rfl) ⟨fun _ => ⟨by decide, by rw [e0, e1]; exact sec _ (by omega)⟩, fun _ => ⟨by decide, by rw [e2]; exact fol128⟩, fun _ => ⟨by decide, by rw [e3]; exact fol128⟩⟩
  · have hN : stN (F 0) = 3 ∨ stN (F 0) = 4 := by omega
    rcases hN with z | z
    · refine ⟨1, by omega, by decide, fun G h e => ?_⟩
      have e0 := h 0 (by omega)
      have e1 := h 1 (by omega)
      have e2 : G 2 = 128 := e 0 (by decide)
      exact stepF_whole _ G (by rw [e0]; exact l0) (by rw [e0]; exact u0) (by rw [e0, z]; decide) 3 (by rw [e0, z]; rfl) ⟨fun _ => ⟨by decide, by rw [e0, e1]; exact s2 (by omega)⟩, fun _ => ⟨by decide, by rw [e2]; exact fol128⟩, by omega⟩
    · refine ⟨4, by omega, by decide, fun G h e => ?_⟩
      have e0 := h 0 (by omega)
      have e1 := h 1 (by omega)
      have e2 : G 2 = 128 := e 0 (by decide)
      have e3 : G 3 = 128 := e 1 (by decide)
      exact stepF_whole _ G (by rw [e0]; exact l0) (by rw [e0]; exact u0) (by rw [e0, z]; decide) 4 (by rw [e0, z]; rfl) ⟨fun _ => ⟨by decide, by rw [e0, e1]; exact s2 (by omega)⟩, fun _ => ⟨by decide, by rw [e2]; exact fol128⟩, fun _ => ⟨by decide, by rw [e3]; exact fol128⟩⟩
  · have z : stN (F 0) = 4 := by omega
    refine ⟨1, by omega, by decide, fun G h e => ?_⟩
    have e0 := h 0 (by omega)
    have e1 := h 1 (by omega)
    have e2 := h 2 (by omega)
    have e3 : G 3 = 128 := e 0 (by decide)
    exact stepF_whole _ G (by rw [e0]; exact l0) (by rw [e0]; exact u0) (by rw [e0, z]; decide) 4 (by rw [e0, z]; rfl) ⟨fun _ => ⟨by decide, by rw [e0, e1]; exact s2 (by omega)⟩, fun _ => ⟨by decide, by rw [e2]; exact s3 (by omega)⟩, fun _ => ⟨by decide, by rw [e3]; exact fol128⟩⟩

theorem goodF_end (len : Nat) (g : Nat → Int) (k : Nat) : (goodF len g k len).2 = true := by
  cases k with
  | zero => rfl
  | succ k => simp [goodF]

/-- Some end makes the good beginning valid. -/
theorem good_fill (len : Nat) (f : Nat → Int) (lf : ∀ i, 0 ≤ f i) (uf : ∀ i, f i < 256) (n : Nat) (t : Bool) :
    ∀ k p, goodF len f k p = (n, t) → p ≤ len → len ≤ p + k → ∃ e, e < 8 ∧ ∀ k' (g : Nat → Int), (∀ i, 0 ≤ g i) → (∀ i, g i < 256) → (∀ i, i < n → g i = f i) → (∀ i, i < endM e → g (n + i) = endF e i) → n + endM e ≤ p + k' → (goodF (n + endM e) g k' p).2 = true
  | 0, p, h, hp, hk => by
    have : p = n := (Prod.mk.inj h).1
    subst this
    exact ⟨0, by omega, fun k' g _ _ _ _ _ => goodF_end p g k'⟩
  | k + 1, p, h, hp, hk => by
    by_cases hlt : len ≤ p
    · unfold goodF at h
      rw [if_pos hlt] at h
      have : p = n := (Prod.mk.inj h).1
      subst this
      exact ⟨0, by omega, fun k' g _ _ _ _ _ => goodF_end p g k'⟩
    · unfold goodF at h
      rw [if_neg hlt] at h
      by_cases z : (stepF (len - p) fun i => f (p + i)).2 = true
      · obtain ⟨a, hst⟩ : ∃ a, stepF (len - p) (fun i => f (p + i)) = (a, true) := ⟨_, Prod.ext rfl z⟩
        have hpos := stepF_pos _ _ z
        have hle := stepF_le (len - p) (fun i => f (p + i)) (by omega)
        rw [hst] at h hpos hle
        rw [if_pos rfl] at h
        have h : goodF len f k (p + a) = (n, t) := h
        have hpos : 1 ≤ a := hpos
        have hle : a ≤ len - p := hle
        have hge := goodF_ge len f k (p + a)
        rw [h] at hge
        have hge : p + a ≤ n := hge
        obtain ⟨e, he, H⟩ := good_fill len f lf uf n t k (p + a) h (by omega) (by omega)
        refine ⟨e, he, fun k' g lg ug h1 h2 hk' => ?_⟩
        obtain ⟨j, rfl⟩ : ∃ j, k' = j + 1 := ⟨k' - 1, by omega⟩
        have hs := step_good (len - p) (n + endM e - p) (fun i => f (p + i)) (fun i => g (p + i)) a (fun i => lg _) (fun i => ug _) hst (by omega) (fun i hi => h1 (p + i) (by omega))
        unfold goodF
        rw [if_neg (by omega), hs, if_pos rfl]
        exact H j g lg ug h1 h2 (by omega)
      · have z' : (stepF (len - p) fun i => f (p + i)).2 = false := by simpa using z
        obtain ⟨a, hst⟩ : ∃ a, stepF (len - p) (fun i => f (p + i)) = (a, false) := ⟨_, Prod.ext rfl z'⟩
        rw [hst] at h
        rw [if_neg (by simp)] at h
        have hna : p + a = n := (Prod.mk.inj h).1
        rcases stepF_false _ _ _ hst with ⟨a0, _⟩ | ⟨a1, a3, ah, s2, s3, _⟩
        · have : p = n := by omega
          subst this
          exact ⟨0, by omega, fun k' g _ _ _ _ _ => goodF_end p g k'⟩
        · obtain ⟨e, he, m1, H⟩ := fill_step (fun i => f (p + i)) a (lf _) (uf _) a1 a3 ah s2 s3
          refine ⟨e, he, fun k' g lg ug h1 h2 hk' => ?_⟩
          obtain ⟨j, rfl⟩ : ∃ j, k' = j + 1 := ⟨k' - 1, by omega⟩
          have hs := H (fun i => g (p + i)) (fun i hi => h1 (p + i) (by omega)) (fun i hi => by
            have := h2 i hi
            rw [← hna, Nat.add_assoc] at this
            exact this)
          have er : n + endM e - p = a + endM e := by omega
          unfold goodF
          rw [if_neg (by omega), er, hs, if_pos rfl]
          have : p + (a + endM e) = n + endM e := by omega
          show (goodF _ g j (p + (a + endM e))).2 = true
          rw [this]
          exact goodF_end _ g j

/-- What the law asks, said of the ends. -/
theorem shortest_some (len : Nat) (f : Nat → Int) (lf : ∀ i, 0 ≤ f i) (uf : ∀ i, f i < 256) : ∃ e, e < 8 ∧ (good ((good len f).1 + endM e) (catF (good len f).1 f (endF e))).2 = true := by
  obtain ⟨e, he, H⟩ := good_fill len f lf uf (good len f).1 (good len f).2 len 0 rfl (Nat.zero_le _) (by omega)
  refine ⟨e, he, H _ _ (fun i => ?_) (fun i => ?_) (fun i hi => ?_) (fun i hi => ?_) (by omega)⟩
  · unfold catF; split
    · exact lf _
    · exact endF_lo _ _
  · unfold catF; split
    · exact uf _
    · exact endF_hi _ _
  · simp [catF, hi]
  · unfold catF; rw [if_neg (by omega), show (good len f).1 + i - (good len f).1 = i from by omega]
theorem shortest_none (len : Nat) (f : Nat → Int) (lf : ∀ i, 0 ≤ f i) (uf : ∀ i, f i < 256) (h : (good len f).1 < len) (e : Nat) : (good ((good len f).1 + 1 + endM e) (catF ((good len f).1 + 1) f (endF e))).2 = false := by
  have hf : (good len f).2 = false := by
    cases z : (good len f).2
    · rfl
    · have := good_whole len f z; omega
  refine good_bad len f (good len f).1 _ _ (fun i => ?_) (fun i => ?_) h (by omega) (fun i hi => ?_) len 0 _ (Prod.ext rfl hf) (Nat.zero_le _) (by omega) (by omega)
  · unfold catF; split
    · exact lf _
    · exact endF_lo _ _
  · unfold catF; split
    · exact uf _
    · exact endF_hi _ _
  · simp [catF, show i < (good len f).1 + 1 by omega]
end Go.Proofs.YtibkhbmglnlgkaaDoor
