/-
  Sets of numbers as ranges: what is a set, what ranges come to, what is left. No condition.
-/
import Derived.WalkKit
namespace Go.Proofs.YtppilokmgdpnnaaGreatDoor

abbrev TOP : Int := 1114111
/-- A number is in ranges. -/
def mem (p : Int) (l : List (Int × Int)) : Prop := ∃ r ∈ l, r.1 ≤ p ∧ p ≤ r.2
def okR (r : Int × Int) : Prop := 0 ≤ r.1 ∧ r.1 ≤ r.2 ∧ r.2 ≤ 1114111
/-- A set: rising, none touches the next. -/
inductive Can : List (Int × Int) → Prop
  | nil : Can []
  | cons {r : Int × Int} {l : List (Int × Int)} (h : okR r) (hl : Can l) (hn : ∀ x ∈ l, r.2 + 1 < x.1) : Can (r :: l)

theorem mem_nil (p : Int) : ¬ mem p [] := fun ⟨_, h, _⟩ => by simp at h
theorem mem_cons {p : Int} {r : Int × Int} {l : List (Int × Int)} : mem p (r :: l) ↔ (r.1 ≤ p ∧ p ≤ r.2) ∨ mem p l := by
  constructor
  · rintro ⟨x, hx, h⟩
    rcases List.mem_cons.1 hx with rfl | hx
    · exact Or.inl h
    · exact Or.inr ⟨x, hx, h⟩
  · rintro (h | ⟨x, hx, h⟩)
    · exact ⟨r, by simp, h⟩
    · exact ⟨x, by simp [hx], h⟩
theorem mem_append {p : Int} {l m : List (Int × Int)} : mem p (l ++ m) ↔ mem p l ∨ mem p m := by
  constructor
  · rintro ⟨x, hx, h⟩
    rcases List.mem_append.1 hx with hx | hx
    · exact Or.inl ⟨x, hx, h⟩
    · exact Or.inr ⟨x, hx, h⟩
  · rintro (⟨x, hx, h⟩ | ⟨x, hx, h⟩)
    · exact ⟨x, List.mem_append.2 (Or.inl hx), h⟩
    · exact ⟨x, List.mem_append.2 (Or.inr hx), h⟩
theorem Can.ok {l : List (Int × Int)} (h : Can l) : ∀ r ∈ l, okR r := by
  induction h with
  | nil => intro r hr; simp at hr
  | cons h _ _ ih => intro r hr; rcases List.mem_cons.1 hr with rfl | hr; exact h; exact ih r hr
/-- Sets with the same numbers are the same. -/
theorem can_inj {l m : List (Int × Int)} (hl : Can l) : Can m → (∀ p, mem p l ↔ mem p m) → l = m := by
  induction hl generalizing m with
  | nil =>
    intro hm h
    cases hm with
    | nil => rfl
    | @cons r _ h1 _ _ => exact absurd ((h r.1).2 (mem_cons.2 (Or.inl ⟨Int.le_refl _, h1.2.1⟩))) (mem_nil _)
  | @cons r l h1 hl hn ih =>
    intro hm h
    cases hm with
    | nil => exact absurd ((h r.1).1 (mem_cons.2 (Or.inl ⟨Int.le_refl _, h1.2.1⟩))) (mem_nil _)
    | @cons s m h2 hm hn2 =>
      have lo : ∀ {r : Int × Int} {l : List (Int × Int)}, (∀ x ∈ l, r.2 + 1 < x.1) → ∀ p, mem p l → r.2 + 1 < p := fun hn p ⟨x, hx, h⟩ => by have := hn x hx; omega
      have a1 : s.1 ≤ r.1 := by
        rcases mem_cons.1 ((h r.1).1 (mem_cons.2 (Or.inl ⟨Int.le_refl _, h1.2.1⟩))) with h' | h'
        · exact h'.1
        · have := lo hn2 _ h'; have := h2.2.1; omega
      have a2 : r.1 ≤ s.1 := by
        rcases mem_cons.1 ((h s.1).2 (mem_cons.2 (Or.inl ⟨Int.le_refl _, h2.2.1⟩))) with h' | h'
        · exact h'.1
        · have := lo hn _ h'; have := h1.2.1; omega
      have a3 : s.2 ≤ r.2 := by
        rcases mem_cons.1 ((h s.2).2 (mem_cons.2 (Or.inl ⟨h2.2.1, Int.le_refl _⟩))) with h' | h'
        · exact h'.2
        · have hlt := lo hn _ h'
          rcases mem_cons.1 ((h (r.2 + 1)).2 (mem_cons.2 (Or.inl ⟨by have := h1.2.1; omega, by omega⟩))) with h'' | h''
          · omega
          · have := lo hn _ h''; omega
      have a4 : r.2 ≤ s.2 := by
        rcases mem_cons.1 ((h r.2).1 (mem_cons.2 (Or.inl ⟨h1.2.1, Int.le_refl _⟩))) with h' | h'
        · exact h'.2
        · have hlt := lo hn2 _ h'
          rcases mem_cons.1 ((h (s.2 + 1)).1 (mem_cons.2 (Or.inl ⟨by have := h2.2.1; omega, by omega⟩))) with h'' | h''
          · omega
          · have := lo hn2 _ h''; omega
      obtain rfl : r = s := Prod.ext (by omega) (by omega)
      rw [ih hm ?_]
      intro p
      constructor
      · intro hp
        rcases mem_cons.1 ((h p).1 (mem_cons.2 (Or.inr hp))) with h' | h'
        · have := lo hn _ hp; omega
        · exact h'
      · intro hp
        rcases mem_cons.1 ((h p).2 (mem_cons.2 (Or.inr hp))) with h' | h'
        · have := lo hn2 _ hp; omega
        · exact h'

/-- A range as far as it may be. -/
def cutR (r : Int × Int) : Int × Int := (max r.1 0, min r.2 1114111)
def withinL (l : List (Int × Int)) : List (Int × Int) := (l.map cutR).filter fun r => decide (r.1 ≤ r.2)
theorem within_ok (l : List (Int × Int)) : ∀ r ∈ withinL l, okR r := by
  intro r hr
  obtain ⟨h1, h2⟩ := List.mem_filter.1 hr
  obtain ⟨x, _, rfl⟩ := List.mem_map.1 h1
  have h2 := of_decide_eq_true h2
  simp only [cutR, okR] at h2 ⊢
  omega
theorem mem_within (l : List (Int × Int)) (p : Int) : mem p (withinL l) ↔ (0 ≤ p ∧ p ≤ 1114111) ∧ mem p l := by
  constructor
  · rintro ⟨r, hr, h⟩
    obtain ⟨h1, h2⟩ := List.mem_filter.1 hr
    obtain ⟨x, hx, rfl⟩ := List.mem_map.1 h1
    simp only [cutR] at h
    exact ⟨by omega, x, hx, by omega⟩
  · rintro ⟨hp, x, hx, h⟩
    refine ⟨cutR x, List.mem_filter.2 ⟨List.mem_map.2 ⟨x, hx, rfl⟩, decide_eq_true ?_⟩, ?_⟩
    · simp only [cutR]; omega
    · simp only [cutR]; omega

/-- The rows of ranges that rise by their beginnings, glued together: what is done is turned round. -/
def glue : List (Int × Int) → List (Int × Int) → List (Int × Int)
  | acc, [] => acc.reverse
  | [], x :: l => glue [x] l
  | y :: acc, x :: l => if x.1 ≤ y.2 + 1 then glue ((y.1, max y.2 x.2) :: acc) l else glue (x :: y :: acc) l
/-- A set turned round. -/
inductive Nac : List (Int × Int) → Prop
  | nil : Nac []
  | cons {r : Int × Int} {l : List (Int × Int)} (h : okR r) (hl : Nac l) (hn : ∀ x ∈ l, x.2 + 1 < r.1) : Nac (r :: l)
theorem can_snoc {l : List (Int × Int)} (hl : Can l) {r : Int × Int} (h : okR r) (hn : ∀ x ∈ l, x.2 + 1 < r.1) : Can (l ++ [r]) := by
  induction hl with
  | nil => exact Can.cons h Can.nil (fun x hx => by simp at hx)
  | @cons s l hs hl hn2 ih =>
    refine Can.cons hs (ih (fun x hx => hn x (List.mem_cons_of_mem _ hx))) (fun x hx => ?_)
    rcases List.mem_append.1 hx with hx | hx
    · exact hn2 x hx
    · obtain rfl : x = r := by simpa using hx
      exact hn s (by simp)
theorem Nac.rev {l : List (Int × Int)} (h : Nac l) : Can l.reverse := by
  induction h with
  | nil => exact Can.nil
  | cons h _ hn ih => rw [List.reverse_cons]; exact can_snoc ih h (fun x hx => hn x (List.mem_reverse.1 hx))
theorem mem_reverse {p : Int} {l : List (Int × Int)} : mem p l.reverse ↔ mem p l := by
  constructor
  · rintro ⟨x, hx, h⟩; exact ⟨x, List.mem_reverse.1 hx, h⟩
  · rintro ⟨x, hx, h⟩; exact ⟨x, List.mem_reverse.2 hx, h⟩
/-- Rising by their beginnings. -/
def Rise (l : List (Int × Int)) : Prop := l.Pairwise fun a b => a.1 ≤ b.1
theorem glue_all : ∀ (l acc : List (Int × Int)), Nac acc → (∀ r ∈ l, okR r) → Rise l → (∀ y ∈ acc, ∀ x ∈ l, y.1 ≤ x.1) → Can (glue acc l) ∧ ∀ p, mem p (glue acc l) ↔ mem p acc ∨ mem p l := by
  intro l
  induction l with
  | nil =>
    intro acc ha _ _ _
    refine ⟨by unfold glue; exact ha.rev, fun p => ?_⟩
    unfold glue
    rw [mem_reverse]
    exact ⟨Or.inl, fun h => h.elim id (fun h => absurd h (mem_nil p))⟩
  | cons x l ih =>
    intro acc ha hl hr hx
    have hxl : ∀ y ∈ l, x.1 ≤ y.1 := (List.pairwise_cons.1 hr).1
    have hrl : Rise l := (List.pairwise_cons.1 hr).2
    have hok : okR x := hl x (by simp)
    have hlo : ∀ r ∈ l, okR r := fun r h => hl r (List.mem_cons_of_mem _ h)
    cases ha with
    | nil =>
      obtain ⟨h1, h2⟩ := ih [x] (Nac.cons hok Nac.nil (fun y hy => by simp at hy)) hlo hrl (fun y hy z hz => by obtain rfl : y = x := by simpa using hy
                                                                                                                exact hxl z hz)
      refine ⟨by rw [glue]; exact h1, fun p => ?_⟩
      rw [glue, h2, mem_cons, mem_cons]
      constructor
      · rintro ((h | h) | h)
        · exact Or.inr (Or.inl h)
        · exact absurd h (mem_nil p)
        · exact Or.inr (Or.inr h)
      · rintro (h | h | h)
        · exact absurd h (mem_nil p)
        · exact Or.inl (Or.inl h)
        · exact Or.inr h
    | @cons y acc hy ha hn =>
      have hyx : y.1 ≤ x.1 := hx y (by simp) x (by simp)
      by_cases hc : x.1 ≤ y.2 + 1
      · have hoy : okR (y.1, max y.2 x.2) := by
          obtain ⟨q1, q2, q3⟩ := hy; obtain ⟨q4, q5, q6⟩ := hok
          exact ⟨q1, by show y.1 ≤ max y.2 x.2; omega, by show max y.2 x.2 ≤ 1114111; omega⟩
        obtain ⟨h1, h2⟩ := ih ((y.1, max y.2 x.2) :: acc) (Nac.cons hoy ha hn) hlo hrl (fun z hz t ht => by
          rcases List.mem_cons.1 hz with rfl | hz
          · have := hxl t ht; show y.1 ≤ t.1; omega
          · exact hx z (List.mem_cons_of_mem _ hz) t (List.mem_cons_of_mem _ ht))
        refine ⟨by rw [glue, if_pos hc]; exact h1, fun p => ?_⟩
        rw [glue, if_pos hc, h2, mem_cons, mem_cons, mem_cons]
        have hk := hok.2.1
        constructor
        · rintro ((h | h) | h)
          · simp only at h
            by_cases hp : p ≤ y.2
            · exact Or.inl (Or.inl ⟨h.1, hp⟩)
            · exact Or.inr (Or.inl ⟨by omega, by omega⟩)
          · exact Or.inl (Or.inr h)
          · exact Or.inr (Or.inr h)
        · rintro ((h | h) | h | h)
          · exact Or.inl (Or.inl ⟨h.1, by show p ≤ max y.2 x.2; omega⟩)
          · exact Or.inl (Or.inr h)
          · exact Or.inl (Or.inl ⟨by show y.1 ≤ p; omega, by show p ≤ max y.2 x.2; omega⟩)
          · exact Or.inr h
      · obtain ⟨h1, h2⟩ := ih (x :: y :: acc) (Nac.cons hok (Nac.cons hy ha hn) (fun z hz => by
          rcases List.mem_cons.1 hz with rfl | hz
          · omega
          · have := hn z hz; have := hy.2.1; omega)) hlo hrl (fun z hz t ht => by
          rcases List.mem_cons.1 hz with rfl | hz
          · exact hxl t ht
          · exact hx z hz t (List.mem_cons_of_mem _ ht))
        refine ⟨by rw [glue, if_neg hc]; exact h1, fun p => ?_⟩
        rw [glue, if_neg hc, h2, mem_cons, mem_cons, mem_cons]
        constructor
        · rintro ((h | h) | h)
          · exact Or.inr (Or.inl h)
          · exact Or.inl h
          · exact Or.inr (Or.inr h)
        · rintro (h | h | h)
          · exact Or.inl (Or.inr h)
          · exact Or.inl (Or.inl h)
          · exact Or.inr h

/-- The document's way: ranges are put in one by one. -/
def stepM (s : List (Int × Int) × Bool × (Int × Int)) (r : Int × Int) : List (Int × Int) × Bool × (Int × Int) :=
  if r.2 + 1 < s.2.2.1 then (s.1 ++ [r], s.2.1, s.2.2)
  else if s.2.2.2 + 1 < r.1 then (if s.2.1 then s.1 ++ [r] else s.1 ++ [s.2.2, r], true, s.2.2)
  else (s.1, s.2.1, (min s.2.2.1 r.1, max s.2.2.2 r.2))
def putLast (s : List (Int × Int) × Bool × (Int × Int)) : List (Int × Int) := if s.2.1 then s.1 else s.1 ++ [s.2.2]
def putR (out : List (Int × Int)) (x : Int × Int) : List (Int × Int) := putLast (out.foldl stepM ([], false, x))
def mergeS (out : List (Int × Int)) (r : Int × Int) : List (Int × Int) := if (cutR r).2 < (cutR r).1 then out else putR out (cutR r)
def mergeL (l : List (Int × Int)) : List (Int × Int) := l.foldl mergeS []

theorem step_true : ∀ (out nx : List (Int × Int)) (x : Int × Int), (∀ r ∈ out, x.2 + 1 < r.1) → (∀ r ∈ out, okR r) → okR x → out.foldl stepM (nx, true, x) = (nx ++ out, true, x) := by
  intro out
  induction out with
  | nil => intro nx x _ _ _; simp
  | cons r out ih =>
    intro nx x h ho hx
    have h1 := h r (by simp)
    have h2 := ho r (by simp)
    have h3 := hx.2.1
    have h4 := h2.2.1
    rw [List.foldl_cons]
    have : stepM (nx, true, x) r = (nx ++ [r], true, x) := by
      unfold stepM
      rw [if_neg (by show ¬ r.2 + 1 < x.1; omega), if_pos (by show x.2 + 1 < r.1; omega)]
      rfl
    rw [this, ih _ _ (fun r hr => h r (List.mem_cons_of_mem _ hr)) (fun r hr => ho r (List.mem_cons_of_mem _ hr)) hx]
    simp
theorem put_all : ∀ (out nx : List (Int × Int)) (x : Int × Int), Can out → okR x → Can nx → (∀ y ∈ nx, y.2 + 1 < x.1 ∧ ∀ r ∈ out, y.2 + 1 < r.1) →
    Can (putLast (out.foldl stepM (nx, false, x))) ∧ ∀ p, mem p (putLast (out.foldl stepM (nx, false, x))) ↔ mem p nx ∨ mem p out ∨ (x.1 ≤ p ∧ p ≤ x.2) := by
  intro out
  induction out with
  | nil =>
    intro nx x _ hx hn hy
    refine ⟨?_, fun p => ?_⟩
    · show Can (nx ++ [x])
      exact can_snoc hn hx (fun y h => (hy y h).1)
    · show mem p (nx ++ [x]) ↔ _
      rw [mem_append, mem_cons]
      constructor
      · rintro (h | h | h)
        · exact Or.inl h
        · exact Or.inr (Or.inr h)
        · exact absurd h (mem_nil p)
      · rintro (h | h | h)
        · exact Or.inl h
        · exact absurd h (mem_nil p)
        · exact Or.inr (Or.inl h)
  | cons r out ih =>
    intro nx x hc hx hn hy
    cases hc with
    | cons hr hc hrn =>
    have q1 := hx.2.1
    have q2 := hr.2.1
    rw [List.foldl_cons]
    by_cases c1 : r.2 + 1 < x.1
    · have : stepM (nx, false, x) r = (nx ++ [r], false, x) := by unfold stepM; rw [if_pos c1]
      rw [this]
      obtain ⟨h1, h2⟩ := ih (nx ++ [r]) x hc hx (can_snoc hn hr (fun y h => (hy y h).2 r (by simp))) (fun y h => by
        rcases List.mem_append.1 h with h | h
        · exact ⟨(hy y h).1, fun t ht => (hy y h).2 t (List.mem_cons_of_mem _ ht)⟩
        · obtain rfl : y = r := by simpa using h
          exact ⟨c1, hrn⟩)
      refine ⟨h1, fun p => ?_⟩
      rw [h2, mem_append, mem_cons, mem_cons]
      constructor
      · rintro ((h | h | h) | h | h)
        · exact Or.inl h
        · exact Or.inr (Or.inl (Or.inl h))
        · exact absurd h (mem_nil p)
        · exact Or.inr (Or.inl (Or.inr h))
        · exact Or.inr (Or.inr h)
      · rintro (h | (h | h) | h)
        · exact Or.inl (Or.inl h)
        · exact Or.inl (Or.inr (Or.inl h))
        · exact Or.inr (Or.inl h)
        · exact Or.inr (Or.inr h)
    · by_cases c2 : x.2 + 1 < r.1
      · have : stepM (nx, false, x) r = (nx ++ [x, r], true, x) := by unfold stepM; rw [if_neg c1, if_pos c2]; rfl
        rw [this, step_true out _ x (fun t ht => by have := hrn t ht; omega) hc.ok hx]
        have e : putLast (nx ++ [x, r] ++ out, true, x) = nx ++ (x :: r :: out) := by simp [putLast]
        rw [e]
        have cx : Can (x :: r :: out) := Can.cons hx (Can.cons hr hc hrn) (fun t ht => by
          rcases List.mem_cons.1 ht with rfl | ht
          · exact c2
          · have := hrn t ht; omega)
        constructor
        · clear e this ih
          induction hn with
          | nil => exact cx
          | @cons y nx' hoy _ hyn ih2 =>
            refine Can.cons hoy (ih2 (fun z hz => hy z (List.mem_cons_of_mem _ hz))) (fun t ht => ?_)
            rcases List.mem_append.1 ht with ht | ht
            · exact hyn t ht
            · rcases List.mem_cons.1 ht with rfl | ht
              · exact (hy y (by simp)).1
              · exact (hy y (by simp)).2 t ht
        · intro p
          rw [mem_append, mem_cons]
          constructor
          · rintro (h | h | h)
            · exact Or.inl h
            · exact Or.inr (Or.inr h)
            · exact Or.inr (Or.inl h)
          · rintro (h | h | h)
            · exact Or.inl h
            · exact Or.inr (Or.inr h)
            · exact Or.inr (Or.inl h)
      · have : stepM (nx, false, x) r = (nx, false, (min x.1 r.1, max x.2 r.2)) := by unfold stepM; rw [if_neg c1, if_neg c2]
        rw [this]
        have hx' : okR (min x.1 r.1, max x.2 r.2) := by
          obtain ⟨a1, a2, a3⟩ := hx; obtain ⟨b1, b2, b3⟩ := hr
          exact ⟨by show 0 ≤ min x.1 r.1; omega, by show min x.1 r.1 ≤ max x.2 r.2; omega, by show max x.2 r.2 ≤ 1114111; omega⟩
        obtain ⟨h1, h2⟩ := ih nx (min x.1 r.1, max x.2 r.2) hc hx' hn (fun y h => ⟨by
          have := (hy y h).1; have := (hy y h).2 r (by simp); show y.2 + 1 < min x.1 r.1; omega, fun t ht => (hy y h).2 t (List.mem_cons_of_mem _ ht)⟩)
        refine ⟨h1, fun p => ?_⟩
        rw [h2, mem_cons]
        constructor
        · rintro (h | h | h)
          · exact Or.inl h
          · exact Or.inr (Or.inl (Or.inr h))
          · simp only at h
            by_cases hp : x.1 ≤ p ∧ p ≤ x.2
            · exact Or.inr (Or.inr hp)
            · exact Or.inr (Or.inl (Or.inl ⟨by omega, by omega⟩))
        · rintro (h | (h | h) | h)
          · exact Or.inl h
          · exact Or.inr (Or.inr ⟨by show min x.1 r.1 ≤ p; omega, by show p ≤ max x.2 r.2; omega⟩)
          · exact Or.inr (Or.inl h)
          · exact Or.inr (Or.inr ⟨by show min x.1 r.1 ≤ p; omega, by show p ≤ max x.2 r.2; omega⟩)
theorem merge_go : ∀ (l out : List (Int × Int)), Can out → Can (l.foldl mergeS out) ∧ ∀ p, mem p (l.foldl mergeS out) ↔ mem p out ∨ mem p (withinL l) := by
  intro l
  induction l with
  | nil => intro out h; exact ⟨h, fun p => ⟨Or.inl, fun h => h.elim id (fun h => absurd h (mem_nil p))⟩⟩
  | cons r l ih =>
    intro out h
    rw [List.foldl_cons]
    have hw : ∀ p, mem p (withinL (r :: l)) ↔ ((cutR r).1 ≤ p ∧ p ≤ (cutR r).2) ∨ mem p (withinL l) := fun p => by
      show mem p ((cutR r :: l.map cutR).filter _) ↔ _
      rw [List.filter_cons]
      split
      · rw [mem_cons]; rfl
      · rename_i hd
        have hd : ¬ (cutR r).1 ≤ (cutR r).2 := fun h => hd (decide_eq_true h)
        exact ⟨Or.inr, fun h => h.elim (fun h => by omega) id⟩
    by_cases hc : (cutR r).2 < (cutR r).1
    · have e : mergeS out r = out := by unfold mergeS; rw [if_pos hc]
      rw [e]
      obtain ⟨h1, h2⟩ := ih out h
      refine ⟨h1, fun p => ?_⟩
      rw [h2, hw]
      exact ⟨fun h => h.elim Or.inl (fun h => Or.inr (Or.inr h)), fun h => h.elim Or.inl (fun h => h.elim (fun h => by omega) Or.inr)⟩
    · have e : mergeS out r = putR out (cutR r) := by unfold mergeS; rw [if_neg hc]
      rw [e]
      have hx : okR (cutR r) := by simp only [cutR, okR] at hc ⊢; omega
      obtain ⟨g1, g2⟩ := put_all out [] (cutR r) h hx Can.nil (fun y hy => by simp at hy)
      obtain ⟨h1, h2⟩ := ih (putR out (cutR r)) g1
      refine ⟨h1, fun p => ?_⟩
      rw [h2, hw]
      have := g2 p
      show mem p (putR out (cutR r)) ∨ _ ↔ _
      unfold putR
      rw [this]
      constructor
      · rintro ((h | h | h) | h)
        · exact absurd h (mem_nil p)
        · exact Or.inl h
        · exact Or.inr (Or.inl h)
        · exact Or.inr (Or.inr h)
      · rintro (h | h | h)
        · exact Or.inl (Or.inr (Or.inl h))
        · exact Or.inl (Or.inr (Or.inr h))
        · exact Or.inr h
theorem merge_can (l : List (Int × Int)) : Can (mergeL l) := (merge_go l [] Can.nil).1
theorem mem_merge (l : List (Int × Int)) (p : Int) : mem p (mergeL l) ↔ (0 ≤ p ∧ p ≤ 1114111) ∧ mem p l := by
  rw [← mem_within]
  exact ((merge_go l [] Can.nil).2 p).trans ⟨fun h => h.elim (fun h => absurd h (mem_nil p)) id, Or.inr⟩
/-- The program's way comes to the same: whatever order ranges with the same beginning stand in. -/
theorem glue_merge (l s : List (Int × Int)) (hp : s.Perm (withinL l)) (hr : Rise s) : glue [] s = mergeL l := by
  have hok : ∀ r ∈ s, okR r := fun r h => within_ok l r (hp.mem_iff.1 h)
  obtain ⟨h1, h2⟩ := glue_all s [] Nac.nil hok hr (fun y hy => by simp at hy)
  refine can_inj h1 (merge_can l) (fun p => ?_)
  rw [h2, mem_merge, ← mem_within]
  constructor
  · rintro (h | ⟨x, hx, h⟩)
    · exact absurd h (mem_nil p)
    · exact ⟨x, hp.mem_iff.1 hx, h⟩
  · rintro ⟨x, hx, h⟩
    exact Or.inr ⟨x, hp.mem_iff.2 hx, h⟩

/-- What is left. -/
def turnG (m : List (Int × Int)) (f : Int) : List (Int × Int) :=
  match m with
  | [] => if f ≤ 1114111 then [(f, 1114111)] else []
  | r :: m => if f < r.1 then (f, r.1 - 1) :: turnG m (r.2 + 1) else turnG m (r.2 + 1)
def turnL (l : List (Int × Int)) : List (Int × Int) := turnG (mergeL l) 0
theorem turn_go : ∀ (m : List (Int × Int)) (f : Int), Can m → 0 ≤ f → (∀ r ∈ m, f ≤ r.1) → (Can (turnG m f) ∧ ∀ r ∈ turnG m f, f ≤ r.1) ∧ ∀ p, mem p (turnG m f) ↔ (f ≤ p ∧ p ≤ 1114111) ∧ ¬ mem p m := by
  intro m
  induction m with
  | nil =>
    intro f _ h0 _
    unfold turnG
    split
    · rename_i hf
      refine ⟨⟨Can.cons ⟨h0, hf, Int.le_refl _⟩ Can.nil (fun x hx => by simp at hx), fun r hr => ?_⟩, fun p => ?_⟩
      · obtain rfl : r = (f, 1114111) := by simpa using hr
        exact Int.le_refl _
      · rw [mem_cons]
        constructor
        · rintro (h | h)
          · exact ⟨h, mem_nil p⟩
          · exact absurd h (mem_nil p)
        · rintro ⟨h, _⟩; exact Or.inl h
    · rename_i hf
      refine ⟨⟨Can.nil, fun r hr => by simp at hr⟩, fun p => ⟨fun h => absurd h (mem_nil p), fun ⟨h, _⟩ => by omega⟩⟩
  | cons r m ih =>
    intro f hc h0 hf
    cases hc with
    | cons hr hc hn =>
    have q := hr.2.1
    have q3 := hf r (by simp)
    obtain ⟨⟨h1, h3⟩, h2⟩ := ih (r.2 + 1) hc (by have := hr.1; omega) (fun x hx => by have := hn x hx; omega)
    have split3 : ∀ p, (f ≤ p ∧ p ≤ 1114111) ∧ ¬ mem p (r :: m) ↔ (f ≤ p ∧ p ≤ r.1 - 1) ∨ mem p (turnG m (r.2 + 1)) := fun p => by
      rw [h2, mem_cons]
      have hu := hr.2.2
      constructor
      · rintro ⟨h, h'⟩
        by_cases hp : p < r.1
        · exact Or.inl ⟨h.1, by omega⟩
        · refine Or.inr ⟨⟨?_, h.2⟩, fun hm => h' (Or.inr hm)⟩
          by_cases hq : p ≤ r.2
          · exact absurd (Or.inl ⟨by omega, hq⟩) h'
          · omega
      · rintro (h | ⟨h, h'⟩)
        · refine ⟨⟨h.1, by omega⟩, ?_⟩
          rintro (h'' | ⟨x, hx, h''⟩)
          · omega
          · have := hn x hx; omega
        · refine ⟨⟨by omega, h.2⟩, ?_⟩
          rintro (h'' | h'')
          · omega
          · exact h' h''
    unfold turnG
    split
    · rename_i hlt
      refine ⟨⟨Can.cons ⟨h0, by show f ≤ r.1 - 1; omega, by show r.1 - 1 ≤ 1114111; have := hr.2.2; omega⟩ h1 (fun x hx => by have := h3 x hx; show r.1 - 1 + 1 < x.1; omega), fun x hx => ?_⟩, fun p => ?_⟩
      · rcases List.mem_cons.1 hx with rfl | hx
        · exact Int.le_refl _
        · have := h3 x hx; omega
      · rw [mem_cons, split3]
    · rename_i hlt
      refine ⟨⟨h1, fun x hx => by have := h3 x hx; omega⟩, fun p => ?_⟩
      rw [split3]
      exact ⟨Or.inr, fun h => h.elim (fun h => by omega) id⟩
theorem turn_can (l : List (Int × Int)) : Can (turnL l) := (turn_go (mergeL l) 0 (merge_can l) (Int.le_refl _) (fun r hr => ((merge_can l).ok r hr).1)).1.1
theorem mem_turn (l : List (Int × Int)) (p : Int) : mem p (turnL l) ↔ (0 ≤ p ∧ p ≤ 1114111) ∧ ¬ mem p l := by
  refine ((turn_go (mergeL l) 0 (merge_can l) (Int.le_refl _) (fun r hr => ((merge_can l).ok r hr).1)).2 p).trans ?_
  rw [mem_merge]
  exact ⟨fun ⟨h, h'⟩ => ⟨h, fun hm => h' ⟨h, hm⟩⟩, fun ⟨h, h'⟩ => ⟨h, fun hm => h' hm.2⟩⟩
theorem merge_merge (l : List (Int × Int)) : mergeL (mergeL l) = mergeL l := can_inj (merge_can _) (merge_can _) fun p => by
  rw [mem_merge, mem_merge]; exact ⟨fun h => h.2, fun h => ⟨h.1, h⟩⟩
theorem turn_turn (l : List (Int × Int)) : turnL (turnL l) = mergeL l := can_inj (turn_can _) (merge_can _) fun p => by
  rw [mem_turn, mem_merge, mem_turn]
  constructor
  · rintro ⟨h, h'⟩
    refine ⟨h, ?_⟩
    by_cases hm : mem p l
    · exact hm
    · exact absurd ⟨h, hm⟩ h'
  · rintro ⟨h, h'⟩; exact ⟨h, fun hx => hx.2 h'⟩
/-- A set stays as it is. -/
theorem merge_set {l : List (Int × Int)} (h : Can l) : mergeL l = l := can_inj (merge_can l) h fun p => by
  rw [mem_merge]
  exact ⟨fun h => h.2, fun hp => ⟨by obtain ⟨x, hx, hh⟩ := hp; have := h.ok x hx; unfold okR at this; omega, hp⟩⟩
end Go.Proofs.YtppilokmgdpnnaaGreatDoor
