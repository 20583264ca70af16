/-
  Ranks: they fall along edges, by one along some; there is one such row at most; given along an order they are so; raised till nothing rises they are so, or there is a cycle. No condition.
-/
import Derived.Test.YtnlgeiofkfkhbaaJoined7
namespace Go.Proofs.Ytnlgeiofkfkhbaa.Lg
structure Rank (R : Nat → List Nat) (L : Nat → Nat) : Prop where
 fall : ∀ v, ∀ y ∈ R v, L y < L v
 some : ∀ v, L v = 0 ∨ ∃ y ∈ R v, L v = L y + 1
theorem Rank.le {R : Nat → List Nat} {L M : Nat → Nat} (h : Rank R L) (k : Rank R M) : ∀ n v, L v = n → L v ≤ M v := by
 intro n
 induction n using Nat.strongRecOn with
 | _ n ih =>
  intro v hv
  rcases h.some v with e | ⟨y, hy, e⟩
  ·omega
  ·have h1 := ih (L y) (by omega) y rfl
   have h2 := k.fall v y hy
   omega
theorem Rank.eq {R : Nat → List Nat} {L M : Nat → Nat} (h : Rank R L) (k : Rank R M) : L = M := funext fun v => Nat.le_antisymm (h.le k _ v rfl) (k.le h _ v rfl)
theorem Rank.reach {R : Nat → List Nat} {L : Nat → Nat} (h : Rank R L) {a b : Nat} (hr : Rch R a b) : L b ≤ L a := by
 induction hr with
 | refl => exact Nat.le_refl _
 | step hb _ ih => exact Nat.le_trans ih (Nat.le_of_lt (h.fall _ _ hb))
theorem Rank.free {R : Nat → List Nat} {L : Nat → Nat} (h : Rank R L) {v y : Nat} (hy : y ∈ R v) (hr : Rch R y v) : False := by
 have h1 := h.fall v y hy
 have h2 := h.reach hr
 omega
/-- A number's rank below a bound: as many numbers as ranks. -/
theorem Rank.lt {R : Nat → List Nat} {L : Nat → Nat} {m : Nat} (h : Rank R L) (hR : ∀ v, ∀ t ∈ R v, t < m) : ∀ v, v < m → L v < m := by
 have key : ∀ n v, L v = n → v < m → ∃ l : List Nat, l.length = n + 1 ∧ l.Nodup ∧ (∀ x ∈ l, x < m ∧ L x ≤ n) := by
  intro n
  induction n with
  | zero => exact fun v hv hm => ⟨[v], rfl, by simp, fun x hx => by simp at hx; subst hx; exact ⟨hm, by omega⟩⟩
  | succ n ih =>
   intro v hv hm
   rcases h.some v with e | ⟨y, hy, e⟩
   ·omega
   ·obtain ⟨l, h1, h2, h3⟩ := ih y (by omega) (hR v y hy)
    refine ⟨v :: l, by simp [h1], ?_, fun x hx => ?_⟩
    ·rw [List.nodup_cons]
     exact ⟨fun hm => by have := (h3 v hm).2; omega, h2⟩
    ·rcases List.mem_cons.1 hx with rfl | hx
     ·exact ⟨hm, by omega⟩
     ·have := h3 x hx; exact ⟨this.1, by omega⟩
 intro v hm
 obtain ⟨l, h1, h2, h3⟩ := key (L v) v rfl hm
 have := nodup_len m l h2 (fun x hx => (h3 x hx).1)
 omega
/-- One rank set. -/
def upd1 (L : Nat → Nat) (v r : Nat) : Nat → Nat := fun x => if x = v then r else L x
/-- The greatest of what a row's ranks and one are, and a number. -/
def mx (L : Nat → Nat) : List Nat → Nat → Nat
 | [], r => r
 | y :: l, r => mx L l (max r (L y + 1))
theorem mx_ge (L : Nat → Nat) : ∀ (l : List Nat) (r : Nat), r ≤ mx L l r ∧ ∀ y ∈ l, L y < mx L l r
 | [], r => ⟨Nat.le_refl _, fun y hy => by simp at hy⟩
 | y :: l, r => by
  obtain ⟨h1, h2⟩ := mx_ge L l (max r (L y + 1))
  refine ⟨by unfold mx; omega, fun x hx => ?_⟩
  unfold mx
  rcases List.mem_cons.1 hx with rfl | hx
  ·omega
  ·exact h2 x hx
theorem mx_some (L : Nat → Nat) : ∀ (l : List Nat) (r : Nat), mx L l r = r ∨ ∃ y ∈ l, mx L l r = L y + 1
 | [], r => .inl rfl
 | y :: l, r => by
  unfold mx
  rcases mx_some L l (max r (L y + 1)) with h | ⟨x, hx, h⟩
  ·by_cases k : L y + 1 ≤ r
   ·left; omega
   ·right; exact ⟨y, by simp, by omega⟩
  ·exact .inr ⟨x, by simp [hx], h⟩
theorem mx_congr {L M : Nat → Nat} : ∀ (l : List Nat) (r : Nat), (∀ y ∈ l, L y = M y) → mx L l r = mx M l r
 | [], _, _ => rfl
 | y :: l, r, h => by
  unfold mx
  rw [h y (by simp)]
  exact mx_congr l _ (fun x hx => h x (by simp [hx]))
/-- Ranks given in an order. -/
def ranked (R : Nat → List Nat) : List Nat → (Nat → Nat) → (Nat → Nat)
 | [], L => L
 | v :: l, L => ranked R l (upd1 L v (mx L (R v) (L v)))
theorem ranked_snoc (R : Nat → List Nat) : ∀ (l : List Nat) (v : Nat) (L : Nat → Nat), ranked R (l ++ [v]) L = upd1 (ranked R l L) v (mx (ranked R l L) (R v) (ranked R l L v))
 | [], _, _ => rfl
 | _ :: l, v, _ => ranked_snoc R l v _
theorem ranked_out (R : Nat → List Nat) : ∀ (l : List Nat) (L : Nat → Nat) (x : Nat), x ∉ l → ranked R l L x = L x
 | [], _, _, _ => rfl
 | v :: l, L, x, h => by
  simp only [List.mem_cons, not_or] at h
  show ranked R l _ x = _
  rw [ranked_out R l _ x h.2]
  unfold upd1
  rw [if_neg h.1]
theorem ranked_topo {R : Nat → List Nat} {fin : List Nat} (hn : fin.Nodup) (hs : ∀ A u B, fin = A ++ u :: B → ∀ y ∈ R u, y ∈ A) :
  ∀ v ∈ fin, (∀ y ∈ R v, ranked R fin (fun _ => 0) y < ranked R fin (fun _ => 0) v) ∧ (ranked R fin (fun _ => 0) v = 0 ∨ ∃ y ∈ R v, ranked R fin (fun _ => 0) v = ranked R fin (fun _ => 0) y + 1) := by
 have hlater : ∀ (A B : List Nat) (x : Nat), (A ++ B).Nodup → x ∈ A → ranked R (A ++ B) (fun _ => 0) x = ranked R A (fun _ => 0) x := by
  intro A B x hnd hx
  have hap : ∀ (A B : List Nat) (L : Nat → Nat), ranked R (A ++ B) L = ranked R B (ranked R A L) := by
   intro A
   induction A with
   | nil => intros; rfl
   | cons a A ih => intro B L; exact ih B _
  rw [hap, ranked_out R B _ x]
  rw [List.nodup_append] at hnd
  exact fun h => hnd.2.2 x hx x h rfl
 intro v hv
 obtain ⟨A, B, e⟩ := List.append_of_mem hv
 have e2 : fin = (A ++ [v]) ++ B := by rw [e]; simp
 have hsv := hs A v B e
 have hnA : v ∉ A := by
  rw [e, List.nodup_append] at hn
  exact fun h => hn.2.2 v h v (by simp) rfl
 have hv1 : ranked R fin (fun _ => 0) v = mx (ranked R A (fun _ => 0)) (R v) 0 := by
  rw [e2, hlater (A ++ [v]) B v (by rw [← e2]; exact hn) (by simp), ranked_snoc]
  unfold upd1
  rw [if_pos rfl, ranked_out R A _ v hnA]
 have hy1 : ∀ y ∈ R v, ranked R fin (fun _ => 0) y = ranked R A (fun _ => 0) y := fun y hy => by
  rw [e, hlater A (v :: B) y (by rw [← e]; exact hn) (hsv y hy)]
 refine ⟨fun y hy => ?_, ?_⟩
 ·rw [hy1 y hy, hv1]
  exact (mx_ge _ _ _).2 y hy
 ·rw [hv1]
  rcases mx_some (ranked R A (fun _ => 0)) (R v) 0 with h | ⟨y, hy, h⟩
  ·exact .inl h
  ·exact .inr ⟨y, hy, by rw [h, hy1 y hy]⟩
/-- The document's ranks: raised till nothing rises. -/
def relax (L : Nat → Nat) : List (Nat × Nat) → (Nat → Nat)
 | [] => L
 | e :: es => relax (if L e.1 < L e.2 + 1 then upd1 L e.1 (L e.2 + 1) else L) es
def still (L : Nat → Nat) (es : List (Nat × Nat)) : Prop := ∀ e ∈ es, L e.2 < L e.1
instance (L : Nat → Nat) (es : List (Nat × Nat)) : Decidable (still L es) := by unfold still; infer_instance
def raised (es : List (Nat × Nat)) : Nat → (Nat → Nat) → Option (Nat → Nat)
 | 0, _ => none
 | k + 1, L => if still L es then some L else raised es k (relax L es)
theorem relax_still {L : Nat → Nat} : ∀ {es : List (Nat × Nat)}, still L es → relax L es = L
 | [], _ => rfl
 | e :: es, h => by
  unfold relax
  rw [if_neg (by have := h e (by simp); omega)]
  exact relax_still (fun x hx => h x (by simp [hx]))
theorem upd1_ge {L : Nat → Nat} {v r : Nat} (h : L v ≤ r) (x : Nat) : L x ≤ upd1 L v r x := by
 unfold upd1
 split
 ·rename_i e; subst e; exact h
 ·exact Nat.le_refl _
theorem relax_ge : ∀ (es : List (Nat × Nat)) (L : Nat → Nat) (x : Nat), L x ≤ relax L es x
 | [], _, _ => Nat.le_refl _
 | e :: es, L, x => by
  unfold relax
  refine Nat.le_trans ?_ (relax_ge es _ x)
  split
  ·exact upd1_ge (by omega) x
  ·exact Nat.le_refl _
theorem relax_le {M : Nat → Nat} : ∀ (es : List (Nat × Nat)) (L : Nat → Nat), (∀ e ∈ es, M e.2 < M e.1) → (∀ x, L x ≤ M x) → ∀ x, relax L es x ≤ M x
 | [], _, _, h => h
 | e :: es, L, hM, h => by
  unfold relax
  refine relax_le es _ (fun x hx => hM x (by simp [hx])) (fun x => ?_)
  split
  ·unfold upd1
   split
   ·rename_i k; subst k
    have h1 := hM e (by simp)
    have h2 := h e.2
    omega
   ·exact h x
  ·exact h x
theorem relax_lift : ∀ (es : List (Nat × Nat)) (L : Nat → Nat), ∀ e ∈ es, ∀ k, k ≤ L e.2 → k + 1 ≤ relax L es e.1
 | [], _, e, he, _, _ => by simp at he
 | d :: es, L, e, he, k, hk => by
  unfold relax
  rcases List.mem_cons.1 he with rfl | he
  ·refine Nat.le_trans ?_ (relax_ge es _ e.1)
   split
   ·unfold upd1; rw [if_pos rfl]; omega
   ·omega
  ·refine relax_lift es _ e he k (Nat.le_trans hk ?_)
   split
   ·exact upd1_ge (by omega) _
   ·exact Nat.le_refl _
/-- Each that has a rank has it of some other one. -/
def Sup (es : List (Nat × Nat)) (L : Nat → Nat) : Prop := ∀ v, L v = 0 ∨ ∃ e ∈ es, e.1 = v ∧ L v ≤ L e.2 + 1
theorem relax_sup {es0 : List (Nat × Nat)} : ∀ (es : List (Nat × Nat)) (L : Nat → Nat), (∀ e ∈ es, e ∈ es0) → Sup es0 L → Sup es0 (relax L es)
 | [], _, _, h => h
 | e :: es, L, hs, h => by
  unfold relax
  refine relax_sup es _ (fun x hx => hs x (by simp [hx])) ?_
  split
  ·rename_i hlt
   intro v
   by_cases k : v = e.1
   ·subst k
    refine .inr ⟨e, hs e (by simp), rfl, ?_⟩
    have h1 := upd1_ge (L := L) (v := e.1) (r := L e.2 + 1) (by omega) e.2
    have h2 : upd1 L e.1 (L e.2 + 1) e.1 = L e.2 + 1 := by unfold upd1; rw [if_pos rfl]
    omega
   ·have hv : upd1 L e.1 (L e.2 + 1) v = L v := by unfold upd1; rw [if_neg k]
    rcases h v with k | ⟨d, hd, k1, k2⟩
    ·exact .inl (by rw [hv]; exact k)
    ·refine .inr ⟨d, hd, k1, ?_⟩
     have h1 := upd1_ge (L := L) (v := e.1) (r := L e.2 + 1) (by omega) d.2
     rw [hv]; omega
  ·exact h
/-- The edges from a number. -/
def rowOf (es : List (Nat × Nat)) (v : Nat) : List Nat := (es.filter fun e => e.1 = v).map (·.2)
theorem mem_rowOf {es : List (Nat × Nat)} {v y : Nat} : y ∈ rowOf es v ↔ (v, y) ∈ es := by
 unfold rowOf
 simp only [List.mem_map, List.mem_filter, decide_eq_true_eq]
 constructor
 ·rintro ⟨⟨a, b⟩, ⟨h1, h2⟩, h3⟩
  simp only at h2 h3
  subst h2 h3
  exact h1
 ·exact fun h => ⟨(v, y), ⟨h, rfl⟩, rfl⟩
theorem still_rank {es : List (Nat × Nat)} {L : Nat → Nat} (h : still L es) (hs : Sup es L) : Rank (rowOf es) L :=
 ⟨fun v y hy => h (v, y) (mem_rowOf.1 hy), fun v => by
  rcases hs v with e | ⟨⟨a, b⟩, he, rfl, k⟩
  ·exact .inl e
  ·have := h (a, b) he
   exact .inr ⟨b, mem_rowOf.2 he, by simp only at this k ⊢; omega⟩⟩
theorem raised_some {es : List (Nat × Nat)} : ∀ (k : Nat) (L M : Nat → Nat), Sup es L → raised es k L = some M → Rank (rowOf es) M
 | 0, _, _, _, h => by cases h
 | k + 1, L, M, hs, h => by
  unfold raised at h
  split at h
  ·rename_i hst
   injection h with h
   subst h
   exact still_rank hst hs
  ·exact raised_some k _ M (relax_sup es L (fun _ h => h) hs) h
theorem still_of {es : List (Nat × Nat)} {M : Nat → Nat} (hM : Rank (rowOf es) M) : still M es := fun e he => hM.fall e.1 e.2 (mem_rowOf.2 he)
theorem still_eq {es : List (Nat × Nat)} {L M : Nat → Nat} (hM : Rank (rowOf es) M) (hst : still L es) (h1 : ∀ x, L x ≤ M x) : L = M := by
 funext x
 refine Nat.le_antisymm (h1 x) ?_
 have key : ∀ n x, M x = n → M x ≤ L x := by
  intro n
  induction n using Nat.strongRecOn with
  | _ n ih =>
   intro x hx
   rcases hM.some x with e | ⟨y, hy, e⟩
   ·omega
   ·have k1 := ih (M y) (by omega) y rfl
    have k2 := hst (x, y) (mem_rowOf.1 hy)
    simp only at k2
    omega
 exact key _ x rfl
theorem raised_rank {es : List (Nat × Nat)} {M : Nat → Nat} (hM : Rank (rowOf es) M) : ∀ (k j : Nat) (L : Nat → Nat), (∀ x, L x ≤ M x) → (∀ x, min j (M x) ≤ L x) → (∀ x, M x ≤ j + k) → raised es (k + 1) L = some M
 | 0, j, L, h1, h2, h3 => by
  have e : L = M := funext fun x => Nat.le_antisymm (h1 x) (by have := h2 x; have := h3 x; omega)
  subst e
  unfold raised
  rw [if_pos (still_of hM)]
 | k + 1, j, L, h1, h2, h3 => by
  have hMf : ∀ e ∈ es, M e.2 < M e.1 := fun e he => hM.fall e.1 e.2 (mem_rowOf.2 he)
  unfold raised
  by_cases hst : still L es
  ·rw [if_pos hst, still_eq hM hst h1]
  ·rw [if_neg hst]
   refine raised_rank hM k (j + 1) _ (relax_le es L hMf h1) (fun x => ?_) (fun x => by have := h3 x; omega)
   rcases hM.some x with e | ⟨y, hy, e⟩
   ·omega
   ·have := relax_lift es L (x, y) (mem_rowOf.1 hy) (min j (M y)) (h2 y)
    simp only at this
    omega
theorem raised_topo {es : List (Nat × Nat)} {m : Nat} (hE : ∀ e ∈ es, e.1 < m ∧ e.2 < m) {M : Nat → Nat} (hM : Rank (rowOf es) M) : raised es (m + 1) (fun _ => 0) = some M := by
 have hR : ∀ v, ∀ t ∈ rowOf es v, t < m := fun v t h => (hE _ (mem_rowOf.1 h)).2
 refine raised_rank hM m 0 _ (fun x => Nat.zero_le _) (fun x => by omega) (fun x => ?_)
 by_cases hx : x < m
 ·have := hM.lt hR x hx; omega
 ·rcases hM.some x with e | ⟨y, hy, _⟩
  ·omega
  ·exact absurd (hE _ (mem_rowOf.1 hy)).1 hx
theorem raised_none {es : List (Nat × Nat)} {m : Nat} {v y : Nat} (hy : y ∈ rowOf es v) (hr : Rch (rowOf es) y v) : raised es m (fun _ => 0) = none := by
 cases h : raised es m (fun _ => 0) with
 | none => rfl
 | some M => exact ((raised_some m _ M (fun v => .inl rfl) h).free hy hr).elim
end Go.Proofs.Ytnlgeiofkfkhbaa.Lg
