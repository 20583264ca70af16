/-
  Fragments of states: what a row of states leads to, put together. No condition.
  What a tree means, and that its states lead just so. No condition.
  Places as rows of noughts and ones; some times, at most so many times. No condition.
  What a search and its ends say of the states of a tree. Conditions: nothing in the tree is longer than 2^20.
-/
import Derived.Test.YtoinlmfodmgohaaGreatDoorJoined36
import Derived.Test.YtoinlmfodmgohaaGreatDoorJoined45
import Derived.Test.YtoinlmfodmgohaaGreatDoorJoined39
namespace Go.Proofs.YtoinlmfodmgohaaGreatDoor

/-- One step. -/
inductive St1 (L : List ST) (t : List Int) : Int → Nat → Int → Nat → Prop
  | a {y : Int} {q : Nat} (hg : letsB t q (sx L y).k = true) : St1 L t y q (sx L y).a q
  | b {y : Int} {q : Nat} (hk : (sx L y).k = 2) : St1 L t y q (sx L y).b q
  | eat {y : Int} {q : Nat} (hq : q < t.length) (hg : goB L (ia t q) y = true) : St1 L t y q (sx L y).a (q + 1)
theorem Way.step {L : List ST} {t : List Int} {x y z : Int} {p q r : Nat} (h : Way L t x p y q) (k : St1 L t y q z r) : Way L t x p z r := by
  cases k with
  | a hg => exact .a h hg
  | b hk => exact .b h hk
  | eat hq hg => exact .eat h hq hg
theorem Way.ind {L : List ST} {t : List Int} {x : Int} {p : Nat} {M : Int → Nat → Prop} (h0 : M x p) (h1 : ∀ y q z r, M y q → St1 L t y q z r → M z r) {y : Int} {q : Nat} (h : Way L t x p y q) : M y q := by
  induction h with
  | here => exact h0
  | a _ hg ih => exact h1 _ _ _ _ (ih h0) (.a hg)
  | b _ hk ih => exact h1 _ _ _ _ (ih h0) (.b hk)
  | eat _ hq hg ih => exact h1 _ _ _ _ (ih h0) (.eat hq hg)
theorem st_fork {L : List ST} {t : List Int} {y a b : Int} (hs : sx L y = ⟨2, [], a, b⟩) {q : Nat} {z : Int} {r : Nat} : St1 L t y q z r ↔ (z = a ∨ z = b) ∧ r = q := by
  constructor
  · intro h
    cases h with
    | a hg => rw [hs]; exact ⟨Or.inl rfl, rfl⟩
    | b hk => rw [hs]; exact ⟨Or.inr rfl, rfl⟩
    | eat hq hg => have := goB_1 hg; rw [hs] at this; exact absurd this (by simp)
  · rintro ⟨rfl | rfl, rfl⟩
    · have h := St1.a (L := L) (t := t) (y := y) (q := r) (by rw [hs]; rfl)
      rw [hs] at h; exact h
    · have h := St1.b (L := L) (t := t) (y := y) (q := r) (by rw [hs])
      rw [hs] at h; exact h
theorem st_done {L : List ST} {t : List Int} {y : Int} (hs : sx L y = ⟨7, [], 0, 0⟩) {q : Nat} {z : Int} {r : Nat} : ¬ St1 L t y q z r := by
  intro h
  cases h with
  | a hg => rw [hs] at hg; exact absurd hg (by simp [letsB])
  | b hk => rw [hs] at hk; exact absurd hk (by simp)
  | eat hq hg => have := goB_1 hg; rw [hs] at this; exact absurd this (by simp)
/-- States that lead within them or to their end. -/
def okF (M : Nat) (s : ST) : Prop := (0 ≤ s.a ∧ s.a ≤ (M : Int)) ∧ (s.k = 2 → 0 ≤ s.b ∧ s.b ≤ (M : Int)) ∧ s.k ≤ 6
theorem okF.shift {M N d : Nat} {s : ST} (h : okF M s) (hN : M + d ≤ N) : okF N (shiftS (d : Int) s) := by
  obtain ⟨h1, h2, h3⟩ := h
  refine ⟨?_, fun hk => ?_, h3⟩
  · unfold shiftS; dsimp only; omega
  · have hk' : s.k = 2 := hk
    have := h2 hk'
    unfold shiftS; dsimp only; rw [if_pos hk']; omega
theorem okF.mono {M N : Nat} {s : ST} (h : okF M s) (hN : M ≤ N) : okF N s := by
  obtain ⟨h1, h2, h3⟩ := h
  exact ⟨by omega, fun hk => by have := h2 hk; omega, h3⟩
theorem okF_fork (M : Nat) (a b : Int) (h : 0 ≤ a ∧ a ≤ (M : Int) ∧ 0 ≤ b ∧ b ≤ (M : Int)) : okF M ⟨2, [], a, b⟩ := ⟨⟨h.1, h.2.1⟩, fun _ => h.2.2, by show (2 : Int) ≤ 6; omega⟩
structure Frag (F : List ST) : Prop where
  ok : ∀ s ∈ F, okF F.length s
theorem Frag.a {F : List ST} (h : Frag F) (i : Nat) (hi : i < F.length) : 0 ≤ (sa F i).a ∧ (sa F i).a ≤ (F.length : Int) := (h.ok _ (sa_mem hi)).1
theorem Frag.b {F : List ST} (h : Frag F) (i : Nat) (hi : i < F.length) (hk : (sa F i).k = 2) : 0 ≤ (sa F i).b ∧ (sa F i).b ≤ (F.length : Int) := (h.ok _ (sa_mem hi)).2.1 hk
theorem Frag.k {F : List ST} (h : Frag F) (i : Nat) (hi : i < F.length) : (sa F i).k ≤ 6 := (h.ok _ (sa_mem hi)).2.2
def finS (F : List ST) : List ST := F ++ [⟨7, [], 0, 0⟩]
/-- From where to where a fragment leads. -/
def Mn (F : List ST) (t : List Int) (p q : Nat) : Prop := Way (finS F) t 0 p (F.length : Int) q
theorem fin_sx {F : List ST} {j : Int} (h0 : 0 ≤ j) (h1 : j < (F.length : Int)) : sx (finS F) j = sa F j.toNat := sa_append_left (by omega)
theorem fin_end (F : List ST) : sx (finS F) (F.length : Int) = ⟨7, [], 0, 0⟩ := by
  unfold sx finS
  rw [Int.toNat_natCast]
  have := sa_append_right (A := F) (B := [⟨7, [], 0, 0⟩]) 0
  rw [Nat.add_zero] at this
  rw [this]; rfl
theorem fin_st {F : List ST} (hF : Frag F) {t : List Int} {j z : Int} {q r : Nat} (h0 : 0 ≤ j) (h1 : j ≤ (F.length : Int)) (h : St1 (finS F) t j q z r) : j < (F.length : Int) ∧ 0 ≤ z ∧ z ≤ (F.length : Int) := by
  by_cases e : j = (F.length : Int)
  · subst e; exact absurd h (st_done (fin_end F))
  · have hl : j < (F.length : Int) := by omega
    refine ⟨hl, ?_⟩
    cases h with
    | a hg => rw [fin_sx h0 hl]; exact hF.a _ (by omega)
    | b hk => rw [fin_sx h0 hl] at hk ⊢; exact hF.b _ (by omega) hk
    | eat hq hg => rw [fin_sx h0 hl]; exact hF.a _ (by omega)
theorem fin_in {F : List ST} (hF : Frag F) {t : List Int} {p q : Nat} {j : Int} (h : Way (finS F) t 0 p j q) : 0 ≤ j ∧ j ≤ (F.length : Int) :=
  Way.ind (M := fun j _ => 0 ≤ j ∧ j ≤ (F.length : Int)) ⟨Int.le_refl _, by omega⟩ (fun _ _ _ _ hj hs => (fin_st hF hj.1 hj.2 hs).2) h
theorem frag_sx {L : List ST} {n : Nat} {F : List ST} (hA : At L n F) {j : Int} (h0 : 0 ≤ j) (h1 : j < (F.length : Int)) : sx L ((n : Int) + j) = shiftS (n : Int) (sx (finS F) j) := by
  rw [fin_sx h0 h1, ← hA j.toNat (by omega)]
  unfold sx
  congr 1
  omega
/-- A step in a list at a state of a fragment. -/
theorem frag_st {L : List ST} {n : Nat} {F : List ST} (hA : At L n F) {t : List Int} {j : Int} {q : Nat} {z : Int} {r : Nat} (h0 : 0 ≤ j) (h1 : j < (F.length : Int)) : St1 L t ((n : Int) + j) q z r ↔ ∃ j', z = (n : Int) + j' ∧ St1 (finS F) t j q j' r := by
  have e := frag_sx hA h0 h1
  constructor
  · intro h
    cases h with
    | a hg => exact ⟨(sx (finS F) j).a, by rw [e]; unfold shiftS; dsimp only; omega, .a (by rw [e] at hg; exact hg)⟩
    | b hk =>
      have hk' : (sx (finS F) j).k = 2 := by rw [e] at hk; exact hk
      exact ⟨(sx (finS F) j).b, by rw [e]; unfold shiftS; dsimp only; rw [if_pos hk']; omega, .b hk'⟩
    | eat hq hg => exact ⟨(sx (finS F) j).a, by rw [e]; unfold shiftS; dsimp only; omega, .eat hq (by unfold goB at hg ⊢; rw [e] at hg; exact hg)⟩
  · rintro ⟨j', rfl, h⟩
    cases h with
    | a hg =>
      have h := St1.a (L := L) (t := t) (y := (n : Int) + j) (q := q) (by rw [e]; exact hg)
      have e2 : (sx L ((n : Int) + j)).a = (n : Int) + (sx (finS F) j).a := by rw [e]; unfold shiftS; dsimp only; omega
      rw [e2] at h; exact h
    | b hk =>
      have h := St1.b (L := L) (t := t) (y := (n : Int) + j) (q := q) (by rw [e]; exact hk)
      have e2 : (sx L ((n : Int) + j)).b = (n : Int) + (sx (finS F) j).b := by rw [e]; unfold shiftS; dsimp only; rw [if_pos hk]; omega
      rw [e2] at h; exact h
    | eat hq hg =>
      have h := St1.eat (L := L) (t := t) (y := (n : Int) + j) hq (by unfold goB at hg ⊢; rw [e]; exact hg)
      have e2 : (sx L ((n : Int) + j)).a = (n : Int) + (sx (finS F) j).a := by rw [e]; unfold shiftS; dsimp only; omega
      rw [e2] at h; exact h
theorem frag_up {L : List ST} {n : Nat} {F : List ST} (hF : Frag F) (hA : At L n F) {t : List Int} {p q : Nat} {j : Int} (h : Way (finS F) t 0 p j q) : Way L t (n : Int) p ((n : Int) + j) q := by
  have : 0 ≤ j ∧ j ≤ (F.length : Int) ∧ Way L t (n : Int) p ((n : Int) + j) q :=
    Way.ind (M := fun j q => 0 ≤ j ∧ j ≤ (F.length : Int) ∧ Way L t (n : Int) p ((n : Int) + j) q) ⟨Int.le_refl _, by omega, by rw [Int.add_zero]; exact .here _ _⟩
      (fun y q z r hj hs => by
        have h3 := fin_st hF hj.1 hj.2.1 hs
        exact ⟨h3.2.1, h3.2.2, hj.2.2.step ((frag_st hA hj.1 h3.1).2 ⟨z, rfl, hs⟩)⟩) h
  exact this.2.2
/-- A fragment in the midst of a list. -/
theorem frag_mid (A B F : List ST) : At (A ++ (F.map (shiftS (A.length : Int)) ++ B)) A.length F := by
  intro i hi
  rw [sa_append_right, sa_append_left (by simpa using hi), sa_map _ hi]
theorem shift_0 (s : ST) : shiftS ((0 : Nat) : Int) s = s := by
  unfold shiftS
  cases s
  simp
theorem frag_head (B F : List ST) : At (F ++ B) 0 F := by
  intro i hi
  rw [Nat.zero_add, shift_0, sa_append_left hi]
theorem sa_at (A : List ST) (s : ST) (B : List ST) : sx (A ++ s :: B) (A.length : Int) = s := by
  unfold sx
  rw [Int.toNat_natCast]
  have := sa_append_right (A := A) (B := s :: B) 0
  rw [Nat.add_zero] at this
  rw [this]; rfl
/-- One fragment behind the other. -/
def fSeq (F G : List ST) : List ST := F ++ G.map (shiftS (F.length : Int))
theorem mn_seq {F G : List ST} (hF : Frag F) (hG : Frag G) (t : List Int) (p q : Nat) : Mn (fSeq F G) t p q ↔ ∃ r, Mn F t p r ∧ Mn G t r q := by
  have eL : finS (fSeq F G) = F ++ (G.map (shiftS (F.length : Int)) ++ [⟨7, [], 0, 0⟩]) := by unfold finS fSeq; rw [List.append_assoc]
  have hA : At (finS (fSeq F G)) 0 F := by rw [eL]; exact frag_head _ _
  have hB : At (finS (fSeq F G)) F.length G := by rw [eL]; exact frag_mid _ _ _
  have el : (fSeq F G).length = F.length + G.length := by simp [fSeq]
  have se : sx (finS (fSeq F G)) ((F.length : Int) + (G.length : Int)) = ⟨7, [], 0, 0⟩ := by have := fin_end (fSeq F G); rw [el, Int.natCast_add] at this; exact this
  constructor
  · intro h
    have key : (∃ j, ((F.length : Int) + (G.length : Int)) = j ∧ Way (finS F) t 0 p j q) ∨ (∃ j r, ((F.length : Int) + (G.length : Int)) = (F.length : Int) + j ∧ Mn F t p r ∧ Way (finS G) t 0 r j q) := by
      have h' : Way (finS (fSeq F G)) t 0 p ((F.length : Int) + (G.length : Int)) q := by unfold Mn at h; rw [el, Int.natCast_add] at h; exact h
      refine Way.ind (M := fun z q => (∃ j, z = j ∧ Way (finS F) t 0 p j q) ∨ (∃ j r, z = (F.length : Int) + j ∧ Mn F t p r ∧ Way (finS G) t 0 r j q)) (Or.inl ⟨0, rfl, .here _ _⟩) ?_ h'
      intro y q z r hM hs
      have two : ∀ j r', y = (F.length : Int) + j → Mn F t p r' → Way (finS G) t 0 r' j q → (∃ j r', z = (F.length : Int) + j ∧ Mn F t p r' ∧ Way (finS G) t 0 r' j r) := by
        intro j r' e hm hw
        subst e
        have hi := fin_in hG hw
        by_cases e : j = (G.length : Int)
        · subst e; exact absurd hs (st_done se)
        · obtain ⟨j', rfl, hs'⟩ := (frag_st hB hi.1 (by omega)).1 hs
          exact ⟨j', r', rfl, hm, hw.step hs'⟩
      rcases hM with ⟨j, rfl, hw⟩ | ⟨j, r', e, hm, hw⟩
      · have hi := fin_in hF hw
        by_cases e : y = (F.length : Int)
        · exact Or.inr (two 0 q (by omega) (by unfold Mn; rw [← e]; exact hw) (.here _ _))
        · have hs2 : St1 (finS (fSeq F G)) t (((0 : Nat) : Int) + y) q z r := by rw [show ((0 : Nat) : Int) + y = y by omega]; exact hs
          obtain ⟨j', rfl, hs'⟩ := (frag_st hA hi.1 (by omega)).1 hs2
          exact Or.inl ⟨j', by omega, hw.step hs'⟩
      · exact Or.inr (two j r' e hm hw)
    rcases key with ⟨j, rfl, hw⟩ | ⟨j, r, e, hm, hw⟩
    · have hi := fin_in hF hw
      have hz : (G.length : Int) = 0 := by omega
      refine ⟨q, ?_, ?_⟩
      · unfold Mn; rw [hz, Int.add_zero] at hw; exact hw
      · unfold Mn; rw [hz]; exact .here _ _
    · obtain rfl : j = (G.length : Int) := by omega
      exact ⟨r, hm, hw⟩
  · rintro ⟨r, h1, h2⟩
    have w1 := frag_up hF hA h1
    have w2 := frag_up hG hB h2
    unfold Mn
    rw [el, Int.natCast_add]
    rw [show ((0 : Nat) : Int) + (F.length : Int) = (F.length : Int) by omega] at w1
    exact w1.trans w2
/-- One or the other. -/
def fAlt (F R : List ST) : List ST := [⟨2, [], 1, ((F.length + 2 : Nat) : Int)⟩] ++ (F.map (shiftS ((1 : Nat) : Int)) ++ ([⟨2, [], ((F.length + R.length + 2 : Nat) : Int), ((F.length + R.length + 2 : Nat) : Int)⟩] ++ R.map (shiftS ((F.length + 2 : Nat) : Int))))
theorem mn_alt {F R : List ST} (hF : Frag F) (hR : Frag R) (t : List Int) (p q : Nat) : Mn (fAlt F R) t p q ↔ Mn F t p q ∨ Mn R t p q := by
  have el : (fAlt F R).length = F.length + R.length + 2 := by simp [fAlt]; omega
  have hA : At (finS (fAlt F R)) 1 F := by
    unfold finS fAlt
    rw [List.append_assoc, List.append_assoc]
    exact frag_mid [⟨2, [], 1, ((F.length + 2 : Nat) : Int)⟩] _ F
  have hB : At (finS (fAlt F R)) (F.length + 2) R := by
    have h := frag_mid ([⟨2, [], 1, ((F.length + 2 : Nat) : Int)⟩] ++ (F.map (shiftS ((1 : Nat) : Int)) ++ [⟨2, [], ((F.length + R.length + 2 : Nat) : Int), ((F.length + R.length + 2 : Nat) : Int)⟩])) [⟨7, [], 0, 0⟩] R
    have e : ([⟨2, [], 1, ((F.length + 2 : Nat) : Int)⟩] ++ (F.map (shiftS ((1 : Nat) : Int)) ++ [⟨2, [], ((F.length + R.length + 2 : Nat) : Int), ((F.length + R.length + 2 : Nat) : Int)⟩]) : List ST).length = F.length + 2 := by simp
    rw [e] at h
    unfold finS fAlt
    simpa using h
  have s0 : sx (finS (fAlt F R)) 0 = ⟨2, [], 1, ((F.length + 2 : Nat) : Int)⟩ := rfl
  have sj : sx (finS (fAlt F R)) (((1 : Nat) : Int) + (F.length : Int)) = ⟨2, [], ((F.length + R.length + 2 : Nat) : Int), ((F.length + R.length + 2 : Nat) : Int)⟩ := by
    have h := sa_at ([⟨2, [], 1, ((F.length + 2 : Nat) : Int)⟩] ++ F.map (shiftS ((1 : Nat) : Int))) ⟨2, [], ((F.length + R.length + 2 : Nat) : Int), ((F.length + R.length + 2 : Nat) : Int)⟩ (R.map (shiftS ((F.length + 2 : Nat) : Int)) ++ [⟨7, [], 0, 0⟩])
    have e : ((([⟨2, [], 1, ((F.length + 2 : Nat) : Int)⟩] ++ F.map (shiftS ((1 : Nat) : Int)) : List ST).length : Nat) : Int) = ((1 : Nat) : Int) + (F.length : Int) := by simp; omega
    rw [e] at h
    unfold finS fAlt
    simpa using h
  have se : sx (finS (fAlt F R)) ((F.length + R.length + 2 : Nat) : Int) = ⟨7, [], 0, 0⟩ := by have := fin_end (fAlt F R); rw [el] at this; exact this
  constructor
  · intro h
    have h' : Way (finS (fAlt F R)) t 0 p ((F.length + R.length + 2 : Nat) : Int) q := by unfold Mn at h; rw [el] at h; exact h
    have key := Way.ind (M := fun z q => z = 0 ∧ q = p ∨ (∃ j, z = ((1 : Nat) : Int) + j ∧ Way (finS F) t 0 p j q) ∨ (∃ j, z = ((F.length + 2 : Nat) : Int) + j ∧ Way (finS R) t 0 p j q) ∨ (z = ((F.length + R.length + 2 : Nat) : Int) ∧ Mn F t p q)) (Or.inl ⟨rfl, rfl⟩) (by
      intro y q z r hM hs
      rcases hM with ⟨rfl, rfl⟩ | ⟨j, rfl, hw⟩ | ⟨j, rfl, hw⟩ | ⟨rfl, hw⟩
      · obtain ⟨rfl | rfl, rfl⟩ := (st_fork s0).1 hs
        · exact Or.inr (Or.inl ⟨0, rfl, .here _ _⟩)
        · exact Or.inr (Or.inr (Or.inl ⟨0, by omega, .here _ _⟩))
      · have hi := fin_in hF hw
        by_cases e : j = (F.length : Int)
        · subst e
          obtain ⟨h2, rfl⟩ := (st_fork sj).1 hs
          exact Or.inr (Or.inr (Or.inr ⟨h2.elim id id, hw⟩))
        · obtain ⟨j', rfl, hs'⟩ := (frag_st hA hi.1 (by omega)).1 hs
          exact Or.inr (Or.inl ⟨j', rfl, hw.step hs'⟩)
      · have hi := fin_in hR hw
        by_cases e : j = (R.length : Int)
        · subst e
          rw [show ((F.length + 2 : Nat) : Int) + (R.length : Int) = ((F.length + R.length + 2 : Nat) : Int) by omega] at hs
          exact absurd hs (st_done se)
        · obtain ⟨j', rfl, hs'⟩ := (frag_st hB hi.1 (by omega)).1 hs
          exact Or.inr (Or.inr (Or.inl ⟨j', rfl, hw.step hs'⟩))
      · exact absurd hs (st_done se)) h'
    rcases key with ⟨e, _⟩ | ⟨j, e, hw⟩ | ⟨j, e, hw⟩ | ⟨_, hw⟩
    · omega
    · have hi := fin_in hF hw; omega
    · obtain rfl : j = (R.length : Int) := by omega
      exact Or.inr hw
    · exact Or.inl hw
  · have up0 : ∀ z, (z = 1 ∨ z = ((F.length + 2 : Nat) : Int)) → Way (finS (fAlt F R)) t 0 p z p := fun z hz => (Way.here 0 p).step ((st_fork s0).2 ⟨hz, rfl⟩)
    unfold Mn
    rw [el]
    rintro (h | h)
    · have w1 := (up0 1 (Or.inl rfl)).trans (frag_up hF hA h)
      exact w1.step ((st_fork sj).2 ⟨Or.inl rfl, rfl⟩)
    · have w1 := (up0 _ (Or.inr rfl)).trans (frag_up hR hB h)
      rw [show ((F.length + 2 : Nat) : Int) + (R.length : Int) = ((F.length + R.length + 2 : Nat) : Int) by omega] at w1
      exact w1
/-- Perhaps a fragment, and what follows. -/
def fOpt (F R : List ST) : List ST := [⟨2, [], 1, ((F.length + 1 + R.length : Nat) : Int)⟩] ++ (F.map (shiftS ((1 : Nat) : Int)) ++ R.map (shiftS ((F.length + 1 : Nat) : Int)))
theorem mn_opt {F R : List ST} (hF : Frag F) (hR : Frag R) (t : List Int) (p q : Nat) : Mn (fOpt F R) t p q ↔ p = q ∨ ∃ r, Mn F t p r ∧ Mn R t r q := by
  have el : (fOpt F R).length = F.length + 1 + R.length := by simp [fOpt]; omega
  have hA : At (finS (fOpt F R)) 1 F := by
    unfold finS fOpt
    rw [List.append_assoc, List.append_assoc]
    exact frag_mid [⟨2, [], 1, ((F.length + 1 + R.length : Nat) : Int)⟩] _ F
  have hB : At (finS (fOpt F R)) (F.length + 1) R := by
    have h := frag_mid ([⟨2, [], 1, ((F.length + 1 + R.length : Nat) : Int)⟩] ++ F.map (shiftS ((1 : Nat) : Int))) [⟨7, [], 0, 0⟩] R
    have e : ([⟨2, [], 1, ((F.length + 1 + R.length : Nat) : Int)⟩] ++ F.map (shiftS ((1 : Nat) : Int)) : List ST).length = F.length + 1 := by simp
    rw [e] at h
    unfold finS fOpt
    simpa using h
  have s0 : sx (finS (fOpt F R)) 0 = ⟨2, [], 1, ((F.length + 1 + R.length : Nat) : Int)⟩ := rfl
  have se : sx (finS (fOpt F R)) ((F.length + 1 + R.length : Nat) : Int) = ⟨7, [], 0, 0⟩ := by have := fin_end (fOpt F R); rw [el] at this; exact this
  constructor
  · intro h
    have h' : Way (finS (fOpt F R)) t 0 p ((F.length + 1 + R.length : Nat) : Int) q := by unfold Mn at h; rw [el] at h; exact h
    have key := Way.ind (M := fun z q => z = 0 ∧ q = p ∨ (∃ j, z = ((1 : Nat) : Int) + j ∧ Way (finS F) t 0 p j q) ∨ (∃ j r, z = ((F.length + 1 : Nat) : Int) + j ∧ Mn F t p r ∧ Way (finS R) t 0 r j q) ∨ (z = ((F.length + 1 + R.length : Nat) : Int) ∧ q = p)) (Or.inl ⟨rfl, rfl⟩) (by
      intro y q z r hM hs
      have two : ∀ j r', y = ((F.length + 1 : Nat) : Int) + j → Mn F t p r' → Way (finS R) t 0 r' j q → (∃ j r', z = ((F.length + 1 : Nat) : Int) + j ∧ Mn F t p r' ∧ Way (finS R) t 0 r' j r) := by
        intro j r' e hm hw
        subst e
        have hi := fin_in hR hw
        by_cases e : j = (R.length : Int)
        · subst e
          rw [show ((F.length + 1 : Nat) : Int) + (R.length : Int) = ((F.length + 1 + R.length : Nat) : Int) by omega] at hs
          exact absurd hs (st_done se)
        · obtain ⟨j', rfl, hs'⟩ := (frag_st hB hi.1 (by omega)).1 hs
          exact ⟨j', r', rfl, hm, hw.step hs'⟩
      rcases hM with ⟨rfl, rfl⟩ | ⟨j, rfl, hw⟩ | ⟨j, r', e, hm, hw⟩ | ⟨rfl, rfl⟩
      · obtain ⟨rfl | rfl, rfl⟩ := (st_fork s0).1 hs
        · exact Or.inr (Or.inl ⟨0, rfl, .here _ _⟩)
        · exact Or.inr (Or.inr (Or.inr ⟨rfl, rfl⟩))
      · have hi := fin_in hF hw
        by_cases e : j = (F.length : Int)
        · subst e
          exact Or.inr (Or.inr (Or.inl (two 0 q (by omega) hw (.here _ _))))
        · obtain ⟨j', rfl, hs'⟩ := (frag_st hA hi.1 (by omega)).1 hs
          exact Or.inr (Or.inl ⟨j', rfl, hw.step hs'⟩)
      · exact Or.inr (Or.inr (Or.inl (two j r' e hm hw)))
      · exact absurd hs (st_done se)) h'
    rcases key with ⟨e, _⟩ | ⟨j, e, hw⟩ | ⟨j, r, e, hm, hw⟩ | ⟨_, hw⟩
    · omega
    · have hi := fin_in hF hw
      have hz : (R.length : Int) = 0 := by omega
      obtain rfl : j = (F.length : Int) := by omega
      exact Or.inr ⟨q, hw, by unfold Mn; rw [hz]; exact .here _ _⟩
    · obtain rfl : j = (R.length : Int) := by omega
      exact Or.inr ⟨r, hm, hw⟩
    · exact Or.inl hw.symm
  · have up0 : ∀ z, (z = 1 ∨ z = ((F.length + 1 + R.length : Nat) : Int)) → Way (finS (fOpt F R)) t 0 p z p := fun z hz => (Way.here 0 p).step ((st_fork s0).2 ⟨hz, rfl⟩)
    unfold Mn
    rw [el]
    rintro (rfl | ⟨r, h1, h2⟩)
    · exact up0 _ (Or.inr rfl)
    · have w1 := (up0 1 (Or.inl rfl)).trans (frag_up hF hA h1)
      have w2 := frag_up hR hB h2
      rw [show ((1 : Nat) : Int) + (F.length : Int) = ((F.length + 1 : Nat) : Int) by omega] at w1
      rw [show ((F.length + 1 : Nat) : Int) + (R.length : Int) = ((F.length + 1 + R.length : Nat) : Int) by omega] at w2
      exact w1.trans w2
/-- Some times. -/
inductive StrR (R : Nat → Nat → Prop) : Nat → Nat → Prop
  | nil (p : Nat) : StrR R p p
  | snoc {p q r : Nat} (h : StrR R p r) (k : R r q) : StrR R p q
def fStar (F : List ST) : List ST := [⟨2, [], 1, ((F.length + 2 : Nat) : Int)⟩] ++ (F.map (shiftS ((1 : Nat) : Int)) ++ [⟨2, [], 0, 0⟩])
theorem mn_star {F : List ST} (hF : Frag F) (t : List Int) (p q : Nat) : Mn (fStar F) t p q ↔ StrR (Mn F t) p q := by
  have el : (fStar F).length = F.length + 2 := by simp [fStar]
  have hA : At (finS (fStar F)) 1 F := by
    unfold finS fStar
    rw [List.append_assoc, List.append_assoc]
    exact frag_mid [⟨2, [], 1, ((F.length + 2 : Nat) : Int)⟩] _ F
  have s0 : sx (finS (fStar F)) 0 = ⟨2, [], 1, ((F.length + 2 : Nat) : Int)⟩ := rfl
  have sj : sx (finS (fStar F)) (((1 : Nat) : Int) + (F.length : Int)) = ⟨2, [], 0, 0⟩ := by
    have h := sa_at ([⟨2, [], 1, ((F.length + 2 : Nat) : Int)⟩] ++ F.map (shiftS ((1 : Nat) : Int))) ⟨2, [], 0, 0⟩ [⟨7, [], 0, 0⟩]
    have e : ((([⟨2, [], 1, ((F.length + 2 : Nat) : Int)⟩] ++ F.map (shiftS ((1 : Nat) : Int)) : List ST).length : Nat) : Int) = ((1 : Nat) : Int) + (F.length : Int) := by simp; omega
    rw [e] at h
    unfold finS fStar
    simpa using h
  have se : sx (finS (fStar F)) ((F.length + 2 : Nat) : Int) = ⟨7, [], 0, 0⟩ := by have := fin_end (fStar F); rw [el] at this; exact this
  constructor
  · intro h
    have h' : Way (finS (fStar F)) t 0 p ((F.length + 2 : Nat) : Int) q := by unfold Mn at h; rw [el] at h; exact h
    have key := Way.ind (M := fun z q => z = 0 ∧ StrR (Mn F t) p q ∨ (∃ j r, z = ((1 : Nat) : Int) + j ∧ StrR (Mn F t) p r ∧ Way (finS F) t 0 r j q) ∨ (z = ((F.length + 2 : Nat) : Int) ∧ StrR (Mn F t) p q)) (Or.inl ⟨rfl, .nil _⟩) (by
      intro y q z r hM hs
      rcases hM with ⟨rfl, hm⟩ | ⟨j, r', rfl, hm, hw⟩ | ⟨rfl, hm⟩
      · obtain ⟨rfl | rfl, rfl⟩ := (st_fork s0).1 hs
        · exact Or.inr (Or.inl ⟨0, r, rfl, hm, .here _ _⟩)
        · exact Or.inr (Or.inr ⟨rfl, hm⟩)
      · have hi := fin_in hF hw
        by_cases e : j = (F.length : Int)
        · subst e
          obtain ⟨h2, rfl⟩ := (st_fork sj).1 hs
          exact Or.inl ⟨h2.elim id id, hm.snoc hw⟩
        · obtain ⟨j', rfl, hs'⟩ := (frag_st hA hi.1 (by omega)).1 hs
          exact Or.inr (Or.inl ⟨j', r', rfl, hm, hw.step hs'⟩)
      · exact absurd hs (st_done se)) h'
    rcases key with ⟨e, _⟩ | ⟨j, r, e, hm, hw⟩ | ⟨_, hw⟩
    · omega
    · have hi := fin_in hF hw; omega
    · exact hw
  · intro h
    have h0 : ∀ q, StrR (Mn F t) p q → Way (finS (fStar F)) t 0 p 0 q := by
      intro q h
      induction h with
      | nil => exact .here _ _
      | snoc _ k ih =>
        have w1 := ih.step ((st_fork s0).2 ⟨Or.inl rfl, rfl⟩)
        have w2 := w1.trans (frag_up hF hA k)
        exact w2.step ((st_fork sj).2 ⟨Or.inl rfl, rfl⟩)
    unfold Mn
    rw [el]
    exact (h0 q h).step ((st_fork s0).2 ⟨Or.inr rfl, rfl⟩)
end Go.Proofs.YtoinlmfodmgohaaGreatDoor

namespace Go.Proofs.YtoinlmfodmgohaaGreatDoor

theorem frag_seq {F G : List ST} (hF : Frag F) (hG : Frag G) : Frag (fSeq F G) := by
  refine ⟨fun s hs => ?_⟩
  have el : (fSeq F G).length = F.length + G.length := by simp [fSeq]
  rw [el]
  rcases List.mem_append.1 hs with h | h
  · exact (hF.ok s h).mono (by omega)
  · obtain ⟨u, hu, rfl⟩ := List.mem_map.1 h
    exact (hG.ok u hu).shift (by omega)
theorem frag_alt {F R : List ST} (hF : Frag F) (hR : Frag R) : Frag (fAlt F R) := by
  refine ⟨fun s hs => ?_⟩
  have el : (fAlt F R).length = F.length + R.length + 2 := by simp [fAlt]; omega
  rw [el]
  unfold fAlt at hs
  rcases List.mem_append.1 hs with h | h
  · obtain rfl := List.mem_singleton.1 h
    exact okF_fork _ _ _ (by omega)
  rcases List.mem_append.1 h with h | h
  · obtain ⟨u, hu, rfl⟩ := List.mem_map.1 h
    exact (hF.ok u hu).shift (by omega)
  rcases List.mem_append.1 h with h | h
  · obtain rfl := List.mem_singleton.1 h
    exact okF_fork _ _ _ (by omega)
  · obtain ⟨u, hu, rfl⟩ := List.mem_map.1 h
    exact (hR.ok u hu).shift (by omega)
theorem frag_opt {F R : List ST} (hF : Frag F) (hR : Frag R) : Frag (fOpt F R) := by
  refine ⟨fun s hs => ?_⟩
  have el : (fOpt F R).length = F.length + 1 + R.length := by simp [fOpt]; omega
  rw [el]
  unfold fOpt at hs
  rcases List.mem_append.1 hs with h | h
  · obtain rfl := List.mem_singleton.1 h
    exact okF_fork _ _ _ (by omega)
  rcases List.mem_append.1 h with h | h
  · obtain ⟨u, hu, rfl⟩ := List.mem_map.1 h
    exact (hF.ok u hu).shift (by omega)
  · obtain ⟨u, hu, rfl⟩ := List.mem_map.1 h
    exact (hR.ok u hu).shift (by omega)
theorem frag_star {F : List ST} (hF : Frag F) : Frag (fStar F) := by
  refine ⟨fun s hs => ?_⟩
  have el : (fStar F).length = F.length + 2 := by simp [fStar]
  rw [el]
  unfold fStar at hs
  rcases List.mem_append.1 hs with h | h
  · obtain rfl := List.mem_singleton.1 h
    exact okF_fork _ _ _ (by omega)
  rcases List.mem_append.1 h with h | h
  · obtain ⟨u, hu, rfl⟩ := List.mem_map.1 h
    exact (hF.ok u hu).shift (by omega)
  · obtain rfl := List.mem_singleton.1 h
    exact okF_fork _ _ _ (by omega)
/-- So many times. -/
def PwR (R : Nat → Nat → Prop) : Nat → Nat → Nat → Prop
  | 0, p, q => q = p
  | c + 1, p, q => ∃ u, R p u ∧ PwR R c u q
/-- At most so many times. -/
def OpR (R : Nat → Nat → Prop) : Nat → Nat → Nat → Prop
  | 0, p, q => q = p
  | c + 1, p, q => p = q ∨ ∃ u, R p u ∧ OpR R c u q
mutual
/-- Where a tree's matches that begin at a place end. -/
def MX : RX → List Int → Nat → Nat → Prop
  | .mk k r lo hi _ s, t, p, q =>
    if k = 2 then p < t.length ∧ hasB r (ia t p) = true ∧ q = p + 1
    else if k = 6 then letsB t p 3 = true ∧ q = p
    else if k = 7 then letsB t p 4 = true ∧ q = p
    else if k = 8 then letsB t p 5 = true ∧ q = p
    else if k = 9 then letsB t p 6 = true ∧ q = p
    else if k = 3 then MS s t p q
    else if k = 4 then MA s t p q
    else if k = 5 then ∃ u, PwR (MS s t) lo.toNat p u ∧ (if hi = -1 then StrR (MS s t) u q else OpR (MS s t) (hi - lo).toNat u q)
    else q = p
def MS : List RX → List Int → Nat → Nat → Prop
  | [], _, p, q => q = p
  | x :: l, t, p, q => ∃ u, MX x t p u ∧ MS l t u q
def MA : List RX → List Int → Nat → Nat → Prop
  | [], _, _, _ => False
  | x :: l, t, p, q => MX x t p q ∨ MA l t p q
end
structure FM (F : List ST) (R : List Int → Nat → Nat → Prop) : Prop where
  f : Frag F
  m : ∀ t p q, Mn F t p q ↔ R t p q
theorem FM.congr {F : List ST} {R S : List Int → Nat → Nat → Prop} (h : FM F R) (e : ∀ t p q, R t p q ↔ S t p q) : FM F S := ⟨h.f, fun t p q => (h.m t p q).trans (e t p q)⟩
theorem FM.nil : FM [] (fun _ p q => q = p) := by
  refine ⟨⟨fun s hs => by simp at hs⟩, fun t p q => ?_⟩
  constructor
  · intro h
    have := Way.ind (M := fun z q => z = 0 ∧ q = p) ⟨rfl, rfl⟩ (fun y q z r hM hs => by
      obtain ⟨rfl, _⟩ := hM
      exact absurd hs (st_done (fin_end []))) h
    exact this.2
  · rintro rfl
    exact .here _ _
theorem FM.one (s : ST) (h1 : s.a = 1) (hk2 : s.k ≠ 2) (hk6 : s.k ≤ 6) : FM [s] (fun t p q => (letsB t p s.k = true ∧ q = p) ∨ (p < t.length ∧ s.k = 1 ∧ hasB s.r (ia t p) = true ∧ q = p + 1)) := by
  refine ⟨⟨fun u hu => ?_⟩, fun t p q => ?_⟩
  · obtain rfl := List.mem_singleton.1 hu
    exact ⟨by rw [h1]; simp, fun e => absurd e hk2, hk6⟩
  have s0 : sx (finS [s]) 0 = s := rfl
  have se : sx (finS [s]) 1 = ⟨7, [], 0, 0⟩ := rfl
  constructor
  · intro h
    have := Way.ind (M := fun z q => (z = 0 ∧ q = p) ∨ (z = 1 ∧ ((letsB t p s.k = true ∧ q = p) ∨ (p < t.length ∧ s.k = 1 ∧ hasB s.r (ia t p) = true ∧ q = p + 1)))) (Or.inl ⟨rfl, rfl⟩) (fun y q z r hM hs => by
      rcases hM with ⟨rfl, rfl⟩ | ⟨rfl, _⟩
      · generalize hy : (0 : Int) = y at hs
        cases hs with
        | a hg => subst hy; rw [s0] at hg ⊢; exact Or.inr ⟨h1, Or.inl ⟨hg, rfl⟩⟩
        | b hk => subst hy; rw [s0] at hk; exact absurd hk hk2
        | eat hq hg =>
          subst hy
          unfold goB at hg
          rw [s0] at hg ⊢
          rw [Bool.and_eq_true, decide_eq_true_iff] at hg
          exact Or.inr ⟨h1, Or.inr ⟨hq, hg.1, hg.2, rfl⟩⟩
      · exact absurd hs (st_done se)) h
    rcases this with ⟨e, _⟩ | ⟨_, h⟩
    · exact absurd e (by simp)
    · exact h
  · rintro (⟨hg, rfl⟩ | ⟨hq, hk, hb, rfl⟩)
    · have := (Way.here (L := finS [s]) (t := t) 0 q).a (by rw [s0]; exact hg)
      rw [s0, h1] at this
      exact this
    · have := (Way.here (L := finS [s]) (t := t) 0 p).eat hq (by unfold goB; rw [s0, hk, hb]; rfl)
      rw [s0, h1] at this
      exact this
theorem FM.seq {F G : List ST} {R S : List Int → Nat → Nat → Prop} (hF : FM F R) (hG : FM G S) : FM (fSeq F G) (fun t p q => ∃ u, R t p u ∧ S t u q) :=
  ⟨frag_seq hF.f hG.f, fun t p q => (mn_seq hF.f hG.f t p q).trans (by constructor <;> (rintro ⟨u, h1, h2⟩; first | exact ⟨u, (hF.m t p u).1 h1, (hG.m t u q).1 h2⟩ | exact ⟨u, (hF.m t p u).2 h1, (hG.m t u q).2 h2⟩))⟩
theorem FM.alt {F G : List ST} {R S : List Int → Nat → Nat → Prop} (hF : FM F R) (hG : FM G S) : FM (fAlt F G) (fun t p q => R t p q ∨ S t p q) :=
  ⟨frag_alt hF.f hG.f, fun t p q => by rw [mn_alt hF.f hG.f, hF.m, hG.m]⟩
theorem FM.opt {F G : List ST} {R S : List Int → Nat → Nat → Prop} (hF : FM F R) (hG : FM G S) : FM (fOpt F G) (fun t p q => p = q ∨ ∃ u, R t p u ∧ S t u q) :=
  ⟨frag_opt hF.f hG.f, fun t p q => (mn_opt hF.f hG.f t p q).trans (by
    constructor
    · rintro (h | ⟨u, h1, h2⟩)
      · exact Or.inl h
      · exact Or.inr ⟨u, (hF.m t p u).1 h1, (hG.m t u q).1 h2⟩
    · rintro (h | ⟨u, h1, h2⟩)
      · exact Or.inl h
      · exact Or.inr ⟨u, (hF.m t p u).2 h1, (hG.m t u q).2 h2⟩)⟩
theorem StrR.imp {R S : Nat → Nat → Prop} (h : ∀ p q, R p q → S p q) {p q : Nat} (hs : StrR R p q) : StrR S p q := by
  induction hs with
  | nil => exact .nil _
  | snoc _ k ih => exact ih.snoc (h _ _ k)
theorem FM.star {F : List ST} {R : List Int → Nat → Nat → Prop} (hF : FM F R) : FM (fStar F) (fun t p q => StrR (R t) p q) :=
  ⟨frag_star hF.f, fun t p q => (mn_star hF.f t p q).trans ⟨StrR.imp fun a b => (hF.m t a b).1, StrR.imp fun a b => (hF.m t a b).2⟩⟩
theorem shift_list (d : Nat) (l : List RX) (n : Nat) : bldL l (n + d) = (bldL l n).map (shiftS (d : Int)) := bldL_shift (fun x _ => bld_shift d x) n
/-- So many times one behind the other. -/
theorem fm_rep {l : List RX} {R : List Int → Nat → Nat → Prop} (hF : FM (bldL l 0) R) (hl : (bldL l 0).length = szL l) : ∀ c, FM (rep (bldL l) (szL l) 0 c) (fun t p q => PwR (R t) c p q)
  | 0 => FM.nil
  | c + 1 => by
    have e : rep (bldL l) (szL l) 0 (c + 1) = fSeq (bldL l 0) (rep (bldL l) (szL l) 0 c) := by
      rw [rep]
      unfold fSeq
      rw [hl]
      congr 1
      exact rep_shift (bldL l) (bldL l) (szL l) (szL l) (fun n => shift_list (szL l) l n) c 0
    rw [e]
    exact hF.seq (fm_rep hF hl c)
theorem fm_opt {l : List RX} {R : List Int → Nat → Nat → Prop} (hF : FM (bldL l 0) R) (hl : (bldL l 0).length = szL l) : ∀ c, (rep (fun p => (⟨2, [], (p : Int) + 1, ((c * (szL l + 1) : Nat) : Int)⟩ : ST) :: bldL l (p + 1)) (szL l + 1) 0 c).length = c * (szL l + 1) ∧ FM (rep (fun p => ⟨2, [], (p : Int) + 1, ((c * (szL l + 1) : Nat) : Int)⟩ :: bldL l (p + 1)) (szL l + 1) 0 c) (fun t p q => OpR (R t) c p q)
  | 0 => ⟨by simp [rep], FM.nil⟩
  | c + 1 => by
    obtain ⟨ihl, ih⟩ := fm_opt hF hl c
    have e : rep (fun p => (⟨2, [], (p : Int) + 1, (((c + 1) * (szL l + 1) : Nat) : Int)⟩ : ST) :: bldL l (p + 1)) (szL l + 1) 0 (c + 1) = fOpt (bldL l 0) (rep (fun p => ⟨2, [], (p : Int) + 1, ((c * (szL l + 1) : Nat) : Int)⟩ :: bldL l (p + 1)) (szL l + 1) 0 c) := by
      rw [rep]
      unfold fOpt
      rw [hl, ihl]
      have e1 : szL l + 1 + c * (szL l + 1) = (c + 1) * (szL l + 1) := by rw [Nat.succ_mul]; omega
      have e2 := rep_shift (fun p => (⟨2, [], (p : Int) + 1, ((c * (szL l + 1) : Nat) : Int)⟩ : ST) :: bldL l (p + 1)) (fun p => ⟨2, [], (p : Int) + 1, (((c + 1) * (szL l + 1) : Nat) : Int)⟩ :: bldL l (p + 1)) (szL l + 1) (szL l + 1) (fun n => by
        rw [List.map_cons, ← shift_list]
        have a1 : ((n + (szL l + 1) : Nat) : Int) + 1 = (n : Int) + 1 + ((szL l + 1 : Nat) : Int) := by omega
        have a2 : (((c + 1) * (szL l + 1) : Nat) : Int) = ((c * (szL l + 1) : Nat) : Int) + ((szL l + 1 : Nat) : Int) := by rw [← e1]; omega
        have a3 : n + (szL l + 1) + 1 = n + 1 + (szL l + 1) := by omega
        rw [a3]
        congr 1
        unfold shiftS
        dsimp only
        rw [if_pos rfl, a1, a2]) c 0
      rw [e2, e1]
      have e3 : bldL l (0 + 1) = (bldL l 0).map (shiftS ((1 : Nat) : Int)) := shift_list 1 l 0
      rw [e3]
      simp
    refine ⟨?_, ?_⟩
    · rw [e]
      unfold fOpt
      rw [List.length_append, List.length_append, List.length_map, List.length_map, hl, ihl, List.length_singleton, Nat.succ_mul]
      omega
    · rw [e]
      exact hF.opt ih
theorem fm_list {l : List RX} (h : ∀ x ∈ l, FM (bld x 0) (MX x) ∧ (bld x 0).length = szX x) : FM (bldL l 0) (MS l) ∧ (bldL l 0).length = szL l := by
  induction l with
  | nil => exact ⟨FM.nil.congr (fun t p q => by rw [MS]), rfl⟩
  | cons x l ih =>
    obtain ⟨hx, hxl⟩ := h x (by simp)
    obtain ⟨i1, i2⟩ := ih (fun y hy => h y (by simp [hy]))
    have e : bldL (x :: l) 0 = fSeq (bld x 0) (bldL l 0) := by
      rw [bldL]
      unfold fSeq
      rw [hxl, ← shift_list]
    rw [e]
    exact ⟨(hx.seq i1).congr (fun t p q => by rw [MS]), by simp [fSeq, hxl, i2, szL]⟩
theorem fm_alts {l : List RX} (hne : l ≠ []) (h : ∀ x ∈ l, FM (bld x 0) (MX x) ∧ (bld x 0).length = szX x) : FM (bldA l 0 (szL l + (l.length - 1) * 2)) (MA l) ∧ (bldA l 0 (szL l + (l.length - 1) * 2)).length = szL l + (l.length - 1) * 2 := by
  induction l with
  | nil => exact absurd rfl hne
  | cons x l ih =>
    obtain ⟨hx, hxl⟩ := h x (by simp)
    by_cases h0 : l.length = 0
    · obtain rfl : l = [] := List.eq_nil_of_length_eq_zero h0
      have e : bldA [x] 0 (szL [x] + (([x] : List RX).length - 1) * 2) = bld x 0 := by
        rw [bldA]
        simp [bldA]
      rw [e]
      exact ⟨hx.congr (fun t p q => by rw [MA, MA]; simp), by simp [hxl, szL]⟩
    · have hn : l ≠ [] := fun e => h0 (by rw [e]; rfl)
      obtain ⟨i1, i2⟩ := ih hn (fun y hy => h y (by simp [hy]))
      have eE : szL (x :: l) + ((x :: l).length - 1) * 2 = szL l + (l.length - 1) * 2 + (szX x + 2) := by rw [szL, List.length_cons]; omega
      have e : bldA (x :: l) 0 (szL (x :: l) + ((x :: l).length - 1) * 2) = fAlt (bld x 0) (bldA l 0 (szL l + (l.length - 1) * 2)) := by
        have e3 : bld x (0 + 1) = (bld x 0).map (shiftS ((1 : Nat) : Int)) := bld_shift 1 x 0
        have e4 := bldA_shift (l := l) (d := szX x + 2) (fun y _ => bld_shift (szX x + 2) y) 0 (szL l + (l.length - 1) * 2)
        rw [eE, bldA, if_neg h0, Nat.add_assoc 0 (szX x) 2, e4, e3]
        unfold fAlt
        rw [hxl, i2]
        have e5 : szX x + (szL l + (l.length - 1) * 2) + 2 = szL l + (l.length - 1) * 2 + (szX x + 2) := by omega
        rw [e5]
        simp
      rw [e]
      refine ⟨(hx.alt i1).congr (fun t p q => by rw [MA]), ?_⟩
      rw [eE]
      simp [fAlt, hxl, i2]
      omega
/-- A tree's states lead from a place to just where its matches end. -/
theorem fm_tree : ∀ (x : RX) (d : Nat), rightB d x = true → FM (bld x 0) (MX x) ∧ (bld x 0).length = szX x := by
  intro x
  induction x using RX.ind with
  | h k r lo hi z s ih =>
    intro d hr
    have hlen := bld_len _ d hr 0
    refine ⟨?_, hlen⟩
    obtain ⟨⟨e, rfl, hre⟩, hk4, hk5⟩ := right_parts hr
    have hs : ∀ y ∈ s, FM (bld y 0) (MX y) ∧ (bld y 0).length = szX y := fun y hy => ih y hy e (hre y hy)
    have kk : k = 1 ∨ k = 2 ∨ k = 3 ∨ k = 4 ∨ k = 5 ∨ k = 6 ∨ k = 7 ∨ k = 8 ∨ k = 9 := by
      have h2 : rightB (e + 1) (.mk k r lo hi z s) = true := hr
      simp only [rightB, Bool.and_eq_true] at h2
      have h3 := h2.1.2
      unfold kindB at h3
      by_cases c : k = 1 ∨ k = 2 ∨ k = 3 ∨ k = 4 ∨ k = 5 ∨ k = 6 ∨ k = 7 ∨ k = 8 ∨ k = 9
      · exact c
      · rw [if_neg (by omega), if_neg (by omega), if_neg (by omega)] at h3; cases h3
    rcases kk with rfl | rfl | rfl | rfl | rfl | rfl | rfl | rfl | rfl
    · have e : bld (.mk 1 r lo hi z s) 0 = [] := by rw [bld]; rfl
      rw [e]; exact FM.nil.congr (fun t p q => by rw [MX]; simp)
    · have e : bld (.mk 2 r lo hi z s) 0 = [⟨1, r, 1, 0⟩] := by rw [bld]; rfl
      rw [e]; exact (FM.one ⟨1, r, 1, 0⟩ rfl (by simp) (by simp)).congr (fun t p q => by rw [MX]; simp [letsB])
    · have e : bld (.mk 3 r lo hi z s) 0 = bldL s 0 := by rw [bld]; rfl
      rw [e]; exact (fm_list hs).1.congr (fun t p q => by rw [MX]; simp)
    · have e : bld (.mk 4 r lo hi z s) 0 = bldA s 0 (szL s + (s.length - 1) * 2) := by rw [bld]; simp
      rw [e]; exact (fm_alts (by intro e; have := hk4 rfl; rw [e] at this; simp at this) hs).1.congr (fun t p q => by rw [MX]; simp)
    · obtain ⟨hL, hLl⟩ := fm_list hs
      have hR := fm_rep hL hLl lo.toNat
      have hRl : (rep (bldL s) (szL s) 0 lo.toNat).length = lo.toNat * szL s := rep_len (bldL s) (szL s) (fun n => by have := shift_list n s 0; rw [Nat.zero_add] at this; rw [this, List.length_map, hLl]) lo.toNat 0
      rw [bld_5]
      by_cases hh : hi = -1
      · rw [if_pos hh]
        have e : rep (bldL s) (szL s) 0 lo.toNat ++ (⟨2, [], ((0 + lo.toNat * szL s : Nat) : Int) + 1, ((0 + lo.toNat * szL s + (szL s + 2) : Nat) : Int)⟩ :: bldL s (0 + lo.toNat * szL s + 1) ++ [⟨2, [], ((0 + lo.toNat * szL s : Nat) : Int), ((0 + lo.toNat * szL s : Nat) : Int)⟩]) = fSeq (rep (bldL s) (szL s) 0 lo.toNat) (fStar (bldL s 0)) := by
          unfold fSeq fStar
          rw [hRl, hLl]
          generalize lo.toNat * szL s = m
          have a1 : bldL s (0 + m + 1) = ((bldL s 0).map (shiftS ((1 : Nat) : Int))).map (shiftS (m : Int)) := by
            have q1 := shift_list 1 s 0
            have q2 := shift_list m s (0 + 1)
            rw [q1] at q2
            rw [← q2]
            congr 1
            omega
          rw [a1]
          simp [shiftS]
          omega
        rw [e]
        exact (hR.seq hL.star).congr (fun t p q => by rw [MX]; simp [hh])
      · rw [if_neg hh]
        obtain ⟨hOl, hO⟩ := fm_opt hL hLl (hi - lo).toNat
        have e : rep (bldL s) (szL s) 0 lo.toNat ++ rep (fun p => (⟨2, [], (p : Int) + 1, ((0 + lo.toNat * szL s + (hi - lo).toNat * (szL s + 1) : Nat) : Int)⟩ : ST) :: bldL s (p + 1)) (szL s + 1) (0 + lo.toNat * szL s) (hi - lo).toNat = fSeq (rep (bldL s) (szL s) 0 lo.toNat) (rep (fun p => ⟨2, [], (p : Int) + 1, (((hi - lo).toNat * (szL s + 1) : Nat) : Int)⟩ :: bldL s (p + 1)) (szL s + 1) 0 (hi - lo).toNat) := by
          unfold fSeq
          rw [hRl]
          generalize lo.toNat * szL s = m
          congr 1
          refine rep_shift (fun p => (⟨2, [], (p : Int) + 1, (((hi - lo).toNat * (szL s + 1) : Nat) : Int)⟩ : ST) :: bldL s (p + 1)) _ (szL s + 1) m (fun n => ?_) (hi - lo).toNat 0
          rw [List.map_cons, ← shift_list]
          have a3 : n + m + 1 = n + 1 + m := by omega
          rw [a3]
          congr 1
          unfold shiftS
          dsimp only
          rw [if_pos rfl]
          congr 1
          · omega
          · omega
        rw [e]
        exact (hR.seq hO).congr (fun t p q => by rw [MX]; simp [hh])
    · have e : bld (.mk 6 r lo hi z s) 0 = [⟨3, [], 1, 0⟩] := by rw [bld]; rfl
      rw [e]; exact (FM.one ⟨3, [], 1, 0⟩ rfl (by simp) (by simp)).congr (fun t p q => by rw [MX]; simp)
    · have e : bld (.mk 7 r lo hi z s) 0 = [⟨4, [], 1, 0⟩] := by rw [bld]; rfl
      rw [e]; exact (FM.one ⟨4, [], 1, 0⟩ rfl (by simp) (by simp)).congr (fun t p q => by rw [MX]; simp)
    · have e : bld (.mk 8 r lo hi z s) 0 = [⟨5, [], 1, 0⟩] := by rw [bld]; rfl
      rw [e]; exact (FM.one ⟨5, [], 1, 0⟩ rfl (by simp) (by simp)).congr (fun t p q => by rw [MX]; simp)
    · have e : bld (.mk 9 r lo hi z s) 0 = [⟨6, [], 1, 0⟩] := by rw [bld]; rfl
      rw [e]; exact (FM.one ⟨6, [], 1, 0⟩ rfl (by simp) (by simp)).congr (fun t p q => by rw [MX]; simp)
end Go.Proofs.YtoinlmfodmgohaaGreatDoor

namespace Go.Proofs.YtoinlmfodmgohaaGreatDoor

/-- A row with a one at the places of a set. -/
noncomputable def mkS (n : Nat) (S : Nat → Prop) : List Int := (List.range n).map fun x => @ite Int (S x) (Classical.propDecidable _) 1 0
theorem mkS_len (n : Nat) (S : Nat → Prop) : (mkS n S).length = n := by simp [mkS]
theorem mkS_at {n : Nat} {S : Nat → Prop} {x : Nat} (hx : x < n) : ia (mkS n S) x = @ite Int (S x) (Classical.propDecidable _) 1 0 := by
  unfold ia mkS
  rw [List.getD_eq_getElem?_getD, List.getElem?_map, List.getElem?_range hx]; rfl
theorem mkS_1 {n : Nat} {S : Nat → Prop} {x : Nat} (hx : x < n) (h : S x) : ia (mkS n S) x = 1 := by rw [mkS_at hx, if_pos h]
theorem mkS_0 {n : Nat} {S : Nat → Prop} {x : Nat} (hx : x < n) (h : ¬ S x) : ia (mkS n S) x = 0 := by rw [mkS_at hx, if_neg h]
theorem mkS_congr {n : Nat} {S T : Nat → Prop} (h : ∀ x, x < n → (S x ↔ T x)) : mkS n S = mkS n T := by
  unfold mkS
  apply List.map_congr_left
  intro x hx
  have e := propext (h x (List.mem_range.1 hx))
  by_cases hs : S x
  · rw [if_pos hs, if_pos (e ▸ hs)]
  · rw [if_neg hs, if_neg (fun hT => hs (e ▸ hT))]
theorem mkS_inj {n : Nat} {S T : Nat → Prop} (h : mkS n S = mkS n T) : ∀ x, x < n → (S x ↔ T x) := by
  intro x hx
  have e : ia (mkS n S) x = ia (mkS n T) x := by rw [h]
  rw [mkS_at hx, mkS_at hx] at e
  by_cases hs : S x
  · by_cases hT : T x
    · exact ⟨fun _ => hT, fun _ => hs⟩
    · rw [if_pos hs, if_neg hT] at e; exact absurd e (by decide)
  · by_cases hT : T x
    · rw [if_neg hs, if_pos hT] at e; exact absurd e (by decide)
    · exact ⟨fun h => absurd h hs, fun h => absurd h hT⟩
theorem mkS_ext {n : Nat} {S : Nat → Prop} {l : List Int} (hl : l.length = n) (h : ∀ x, x < n → ia l x = ia (mkS n S) x) : l = mkS n S := by
  apply List.ext_getElem (by rw [hl, mkS_len])
  intro i h1 h2
  have := h i (by omega)
  unfold ia at this
  rw [List.getD_eq_getElem?_getD, List.getD_eq_getElem?_getD, List.getElem?_eq_getElem h1, List.getElem?_eq_getElem h2] at this
  exact this
theorem ia_set {l : List Int} {x y : Nat} {v : Int} (hx : x < l.length) : ia (l.set x v) y = if x = y then v else ia l y := by
  unfold ia
  rw [List.getD_eq_getElem?_getD, List.getD_eq_getElem?_getD, List.getElem?_set]
  by_cases e : x = y
  · rw [if_pos e, if_pos e, if_pos hx]; rfl
  · rw [if_neg e, if_neg e]
theorem mkS_set {n : Nat} {S : Nat → Prop} {x : Nat} (hx : x < n) : (mkS n S).set x 1 = mkS n (fun y => S y ∨ y = x) := by
  refine mkS_ext (by rw [List.length_set, mkS_len]) fun y hy => ?_
  rw [ia_set (by rw [mkS_len]; exact hx)]
  by_cases e : x = y
  · rw [if_pos e, mkS_1 hy (Or.inr e.symm)]
  · rw [if_neg e]
    by_cases hs : S y
    · rw [mkS_1 hy hs, mkS_1 hy (Or.inl hs)]
    · rw [mkS_0 hy hs, mkS_0 hy (fun h => h.elim hs (fun e' => e e'.symm))]
theorem mkS_set0 {n : Nat} {S : Nat → Prop} {x : Nat} (hx : x < n) (h : ¬ S x) : (mkS n S).set x 0 = mkS n S := by
  refine mkS_ext (by rw [List.length_set, mkS_len]) fun y hy => ?_
  rw [ia_set (by rw [mkS_len]; exact hx)]
  by_cases e : x = y
  · subst e; rw [if_pos rfl, mkS_0 hy h]
  · rw [if_neg e]
theorem mkS_nil (n : Nat) : ivs (mkS n (fun _ => False)) = List.replicate n (Value.int .i64 0) := by
  have : mkS n (fun _ => False) = List.replicate n 0 := by
    unfold mkS
    rw [List.eq_replicate_iff]
    refine ⟨by simp, fun b hb => ?_⟩
    obtain ⟨x, _, rfl⟩ := List.mem_map.1 hb
    exact if_neg (fun h => h)
  rw [this]
  simp [ivs]
theorem mkS_i64 {n : Nat} {S : Nat → Prop} : ∀ x ∈ mkS n S, I64 x := by
  intro x hx
  obtain ⟨y, _, rfl⟩ := List.mem_map.1 hx
  by_cases h : S y
  · rw [if_pos h]; exact I64_of (by omega) (by omega)
  · rw [if_neg h]; exact I64_of (by omega) (by omega)
/-- How many places. -/
noncomputable def cardS (S : Nat → Prop) : Nat → Nat
  | 0 => 0
  | n + 1 => cardS S n + @ite Nat (S n) (Classical.propDecidable _) 1 0
theorem card_le (S : Nat → Prop) : ∀ n, cardS S n ≤ n
  | 0 => Nat.le_refl _
  | n + 1 => by
    have := card_le S n
    rw [cardS]
    by_cases h : S n
    · rw [if_pos h]; omega
    · rw [if_neg h]; omega
theorem card_mono {S T : Nat → Prop} : ∀ n, (∀ x, x < n → S x → T x) → cardS S n ≤ cardS T n ∧ ((∃ x, x < n ∧ T x ∧ ¬ S x) → cardS S n < cardS T n)
  | 0, _ => ⟨Nat.le_refl _, fun ⟨x, hx, _⟩ => absurd hx (Nat.not_lt_zero x)⟩
  | n + 1, h => by
    obtain ⟨h1, h2⟩ := card_mono n (fun x hx => h x (by omega))
    rw [cardS, cardS]
    by_cases hs : S n
    · have hT := h n (by omega) hs
      rw [if_pos hs, if_pos hT]
      refine ⟨by omega, fun ⟨x, hx, ht, hn⟩ => ?_⟩
      have : x < n := by
        by_cases e : x = n
        · subst e; exact absurd hs hn
        · omega
      have := h2 ⟨x, this, ht, hn⟩
      omega
    · rw [if_neg hs]
      by_cases hT : T n
      · rw [if_pos hT]; exact ⟨by omega, fun _ => by omega⟩
      · rw [if_neg hT]
        refine ⟨by omega, fun ⟨x, hx, ht, hn⟩ => ?_⟩
        have : x < n := by
          by_cases e : x = n
          · subst e; exact absurd ht hT
          · omega
        have := h2 ⟨x, this, ht, hn⟩
        omega
/-- At most so many times, as a number of times. -/
def LeR (R : Nat → Nat → Prop) (i p q : Nat) : Prop := ∃ m, m ≤ i ∧ PwR R m p q
theorem PwR.snoc {R : Nat → Nat → Prop} : ∀ (c p q : Nat), PwR R (c + 1) p q ↔ ∃ u, PwR R c p u ∧ R u q
  | 0, p, q => by
    simp only [PwR]
    constructor
    · rintro ⟨u, h, rfl⟩; exact ⟨p, rfl, h⟩
    · rintro ⟨u, rfl, h⟩; exact ⟨q, h, rfl⟩
  | c + 1, p, q => by
    rw [PwR]
    constructor
    · rintro ⟨u, h, k⟩
      obtain ⟨v, k1, k2⟩ := (PwR.snoc c u q).1 k
      exact ⟨v, ⟨u, h, k1⟩, k2⟩
    · rintro ⟨v, ⟨u, h, k1⟩, k2⟩
      exact ⟨u, h, (PwR.snoc c u q).2 ⟨v, k1, k2⟩⟩
theorem op_le {R : Nat → Nat → Prop} : ∀ (c p q : Nat), OpR R c p q ↔ LeR R c p q
  | 0, p, q => by
    constructor
    · intro h; exact ⟨0, Nat.le_refl _, h⟩
    · rintro ⟨m, hm, h⟩
      obtain rfl : m = 0 := by omega
      exact h
  | c + 1, p, q => by
    rw [OpR]
    constructor
    · rintro (rfl | ⟨u, h, k⟩)
      · exact ⟨0, Nat.zero_le _, rfl⟩
      · obtain ⟨m, hm, k'⟩ := (op_le c u q).1 k
        exact ⟨m + 1, by omega, u, h, k'⟩
    · rintro ⟨m, hm, h⟩
      cases m with
      | zero => exact Or.inl h.symm
      | succ m =>
        obtain ⟨u, h1, h2⟩ := h
        exact Or.inr ⟨u, h1, (op_le c u q).2 ⟨m, by omega, h2⟩⟩
theorem str_le {R : Nat → Nat → Prop} {p q : Nat} : StrR R p q ↔ ∃ m, PwR R m p q := by
  constructor
  · intro h
    induction h with
    | nil => exact ⟨0, rfl⟩
    | snoc _ k ih => obtain ⟨m, hm⟩ := ih; exact ⟨m + 1, (PwR.snoc m _ _).2 ⟨_, hm, k⟩⟩
  · rintro ⟨m, hm⟩
    induction m generalizing q with
    | zero => have : q = p := hm; subst this; exact .nil _
    | succ m ih => obtain ⟨u, h1, h2⟩ := (PwR.snoc m _ _).1 hm; exact (ih h1).snoc h2
/-- What is there behind so many rounds, from a set on. -/
def OutR (R : Nat → Nat → Prop) (S : Nat → Prop) (i q : Nat) : Prop := ∃ u, S u ∧ LeR R i u q
theorem out_0 {R : Nat → Nat → Prop} {S : Nat → Prop} {q : Nat} : OutR R S 0 q ↔ S q := by
  constructor
  · rintro ⟨u, h, m, hm, k⟩
    obtain rfl : m = 0 := by omega
    have : q = u := k
    subst this; exact h
  · intro h; exact ⟨q, h, 0, Nat.le_refl _, rfl⟩
theorem out_succ {R : Nat → Nat → Prop} {S : Nat → Prop} {i q : Nat} : OutR R S (i + 1) q ↔ OutR R S i q ∨ ∃ u, OutR R S i u ∧ R u q := by
  constructor
  · rintro ⟨u, h, m, hm, k⟩
    by_cases e : m ≤ i
    · exact Or.inl ⟨u, h, m, e, k⟩
    · obtain rfl : m = i + 1 := by omega
      obtain ⟨v, k1, k2⟩ := (PwR.snoc i u q).1 k
      exact Or.inr ⟨v, ⟨u, h, i, Nat.le_refl _, k1⟩, k2⟩
  · rintro (⟨u, h, m, hm, k⟩ | ⟨v, ⟨u, h, m, hm, k⟩, k2⟩)
    · exact ⟨u, h, m, by omega, k⟩
    · exact ⟨u, h, m + 1, by omega, (PwR.snoc m u q).2 ⟨v, k, k2⟩⟩
theorem out_fix {R : Nat → Nat → Prop} {S : Nat → Prop} {n i : Nat} (hin : ∀ j u, OutR R S j u → u < n) (h : ∀ q, q < n → (OutR R S (i + 1) q ↔ OutR R S i q)) : ∀ j, i ≤ j → ∀ q, OutR R S j q ↔ OutR R S i q := by
  intro j hj
  induction j with
  | zero => intro q; obtain rfl : i = 0 := by omega
            exact Iff.rfl
  | succ j ih =>
    intro q
    by_cases e : i = j + 1
    · subst e; exact Iff.rfl
    · have ih' := ih (by omega)
      rw [out_succ]
      constructor
      · rintro (k | ⟨u, k1, k2⟩)
        · exact (ih' q).1 k
        · have k3 : OutR R S (i + 1) q := out_succ.2 (Or.inr ⟨u, (ih' u).1 k1, k2⟩)
          exact (h q (hin _ _ k3)).1 k3
      · intro k; exact Or.inl ((ih' q).2 k)
theorem Way.hi {L : List ST} {t : List Int} {x y : Int} {p q : Nat} (h : Way L t x p y q) (hp : p ≤ t.length) : q ≤ t.length := by
  induction h with
  | here => exact hp
  | a _ _ ih => exact ih hp
  | b _ _ ih => exact ih hp
  | eat _ hq _ _ => omega
theorem mx_hi {x : RX} {d : Nat} (hr : rightB d x = true) {t : List Int} {p q : Nat} (h : MX x t p q) (hp : p ≤ t.length) : q ≤ t.length := Way.hi (((fm_tree x d hr).1.m t p q).2 h) hp
end Go.Proofs.YtoinlmfodmgohaaGreatDoor

namespace Go.Proofs.YtoinlmfodmgohaaGreatDoor
open Go.RowKit Go.Maps

/-- The document's question of one state. -/
def refQ (n : Int) (k : Int) (m : Nat) (a b : Int) : Prop := 1 ≤ k ∧ k ≤ 7 ∧ 0 ≤ a ∧ a < n ∧ 0 ≤ b ∧ b < n ∧ (k = 7 → a = 0) ∧ (k ≠ 2 → b = 0) ∧ (k ≠ 1 → m = 0)
theorem rg_none {r : List (Int × Int)} (h : r.length = 0) : rgB r = true := by
  obtain rfl : r = [] := List.eq_nil_of_length_eq_zero h
  decide
theorem st_yes {n : Int} {s : ST} (h : refQ n s.k s.r.length s.a s.b) : stB n s = rgB s.r := by
  obtain ⟨k, r, a, b⟩ := s
  obtain ⟨h1, h2, h3, h4, h5, h6, h7, h8, h9⟩ := h
  dsimp only at *
  have ea : inB a n = true := by unfold inB; rw [decide_eq_true h3, decide_eq_true h4]; rfl
  have eb : inB b n = true := by unfold inB; rw [decide_eq_true h5, decide_eq_true h6]; rfl
  unfold stB
  dsimp only
  rw [ea, eb]
  by_cases c1 : k = 1
  · rw [if_pos c1, decide_eq_true (h8 (by omega))]; rfl
  · have hm := h9 c1
    rw [if_neg c1, rg_none hm, decide_eq_true hm]
    by_cases c2 : k = 2
    · rw [if_pos c2]; rfl
    · have hb := h8 c2
      rw [if_neg c2, decide_eq_true hb]
      by_cases c3 : k = 3 ∨ k = 4 ∨ k = 5 ∨ k = 6
      · rw [if_pos c3]; rfl
      · have c7 : k = 7 := by omega
        rw [if_neg c3, if_pos c7, decide_eq_true (h7 c7)]; rfl
theorem nfaL_right (t : RX) (hy : YOK t) : nfaB (nfaL t) = true := by
  have hl := nfaL_len t hy.len
  unfold nfaB
  rw [decide_eq_true (by omega : (nfaL t).length ≠ 0), Bool.true_and, List.all_eq_true]
  intro s hs
  rw [hl]
  rcases List.mem_append.1 hs with hs | hs
  · obtain ⟨g1, g2, g3, g4, g5, g6, g7, g8, g9⟩ := hy.good (szX t) 0 (by omega) s hs
    rw [st_yes (s := s) (n := ((szX t + 1 : Nat) : Int)) ⟨g1, by omega, g3, by omega, g5, by omega, fun h => by omega, g7, fun h => by rw [g8 h]; rfl⟩]
    exact g9
  · obtain rfl := List.mem_singleton.1 hs
    rw [st_yes (n := ((szX t + 1 : Nat) : Int)) ⟨by simp, by simp, by simp, by simp, by simp, by simp, fun _ => rfl, fun _ => rfl, fun _ => rfl⟩]
    exact rg_nil
def gE (s : ByteArray) : Int := if goodS s = true then 0 else 10
theorem nfa_find (t : RX) (hr : rightB 1000 t = true) (hb : BdX 1048576 t) (hz : szX t ≤ 2000) (s : ByteArray) (hs : s.size ≤ 1048576) (lv : Value) (w : World) (hT : Tab w) (X : Nat → Prop) (hS : SI w X (nfaL t) lv) :
    Calls Tryz.prog 12 #[lv, .string s] w fun e w' => ∃ b n, e = .returned (.tuple #[.bool b, .int .i64 ((n : Nat) : Int), .int .i64 (gE s)]) ∧ (goodS s = true → SrR (nfaL t) (ptsS s) b n) ∧ Below w.heap.size w w' := by
  have hy := yok_of hr hb
  have hf := nfaL_right t hy
  have hl := nfaL_len t hy.len
  have hrl : ∀ s ∈ nfaL t, s.r.length ≤ 1048576 := fun s hs => by
    rcases List.mem_append.1 hs with hs | hs
    · exact bld_rl 1048576 t hb 0 s hs
    · obtain rfl := List.mem_singleton.1 hs
      exact Nat.zero_le _
  cases hg : goodS s
  · have e : readE (nfaL t) s = 10 := by unfold readE; rw [hf, hg]; rfl
    have h := search_no (nfaL t) (fun s hs => by have := hrl s hs; omega) s (by omega) lv w hT X hS (by rw [e]; decide)
    rw [e] at h
    refine h.mono ?_
    rintro e w' ⟨rfl, hb⟩
    exact ⟨false, 0, by unfold gE; rw [hg]; rfl, fun h => by simp at h, hb⟩
  · refine (search_ok (nfaL t) (by omega) hrl s hs lv w hT X hS hf hg).mono ?_
    rintro e w' ⟨b, n, rfl, h, hb⟩
    exact ⟨b, n, by unfold gE; rw [hg]; rfl, fun _ => h, hb⟩
theorem nfa_ends (t : RX) (hr : rightB 1000 t = true) (hb : BdX 1048576 t) (hz : szX t ≤ 2000) (s : ByteArray) (hs : s.size ≤ 1048576) (hg : goodS s = true) (lv : Value) (w : World) (hT : Tab w) (X : Nat → Prop) (hS : SI w X (nfaL t) lv) :
    Calls Tryz.prog 15 #[lv, .string s] w fun e w' => ∃ v E, e = .returned (.tuple #[v, .int .i64 0]) ∧ OwnI w' w.heap.size v E ∧ EnP (nfaL t) (ptsS s) ((ptsS s).length + 1) E ∧ Below w.heap.size w w' := by
  have hy := yok_of hr hb
  have hf := nfaL_right t hy
  have hl := nfaL_len t hy.len
  have hrl : ∀ s ∈ nfaL t, s.r.length ≤ 1048576 := fun s hs => by
    rcases List.mem_append.1 hs with hs | hs
    · exact bld_rl 1048576 t hb 0 s hs
    · obtain rfl := List.mem_singleton.1 hs
      exact Nat.zero_le _
  exact ends_ok (nfaL t) (by omega) hrl s hs lv w hT X hS hf hg
end Go.Proofs.YtoinlmfodmgohaaGreatDoor
