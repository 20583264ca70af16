/-
  What a number reaches by one edge at least, marked one by one: the mathematics. No condition.
  A row of numbers of the call's own that is taken from at its front and put to at its end. Condition: at most 2^40 numbers.
  The document's far: what a number reaches by one edge at least. Conditions: n and the edges are at most 2^20.
  The document's Parts. Conditions: n is at most 1000, the edges at most 2^20.
  The document's Parts, walked. Conditions: n is at most 1000, the edges at most 2^20.
  LoopsParts, walked. No condition.
-/
import Derived.Test.YtnlgeiofkfkhbaaJoined10
import Derived.Test.YtnlgeiofkfkhbaaJoined27
import Derived.Test.YtnlgeiofkfkhbaaJoined12
import Derived.ArgAppend
import Derived.Test.YtnlgeiofkfkhbaaJoined50
namespace Go.Proofs.Ytnlgeiofkfkhbaa.Lg
/-- By one edge at least. -/
def Far (R : Nat → List Nat) (f x : Nat) : Prop := ∃ y ∈ R f, Rch R y x
/-- Between two rounds: M is marked, Q is to do. -/
structure Fo (R : Nat → List Nat) (N f : Nat) (M Q : List Nat) : Prop where
 nd : M.Nodup
 lt : ∀ a ∈ M, a < N
 far : ∀ a ∈ M, Far R f a
 q : ∀ a ∈ Q, a = f ∨ a ∈ M
 cl : ∀ a, (a = f ∨ a ∈ M) → a ∈ Q ∨ ∀ y ∈ R a, y ∈ M
/-- Within a round about x: some edges are over. -/
structure Fi (R : Nat → List Nat) (N f x : Nat) (pre : List (Nat × Nat)) (M Q : List Nat) : Prop where
 nd : M.Nodup
 lt : ∀ a ∈ M, a < N
 far : ∀ a ∈ M, Far R f a
 q : ∀ a ∈ Q, a = f ∨ a ∈ M
 hx : x = f ∨ x ∈ M
 cl : ∀ a, (a = f ∨ a ∈ M) → a = x ∨ a ∈ Q ∨ ∀ y ∈ R a, y ∈ M
 ed : ∀ y, (x, y) ∈ pre → y ∈ M
theorem Fo.start (R : Nat → List Nat) (N f : Nat) : Fo R N f [] [f] :=
 ⟨by simp, by simp, by simp, fun a ha => .inl (by simpa using ha), fun a ha => .inl (by rcases ha with rfl | h; simp; simp at h)⟩
theorem Fo.pop {R : Nat → List Nat} {N f x : Nat} {M Q : List Nat} (h : Fo R N f M (x :: Q)) : Fi R N f x [] M Q :=
 ⟨h.nd, h.lt, h.far, fun a ha => h.q a (List.mem_cons_of_mem _ ha), h.q x (by simp), fun a ha => by
  rcases h.cl a ha with k | k
  ·rcases List.mem_cons.1 k with k | k
   ·exact .inl k
   ·exact .inr (.inl k)
  ·exact .inr (.inr k), fun y hy => by simp at hy⟩
theorem Fi.no {R : Nat → List Nat} {N f x : Nat} {pre : List (Nat × Nat)} {M Q : List Nat} {e : Nat × Nat} (h : Fi R N f x pre M Q) (he : e.1 = x → e.2 ∈ M) : Fi R N f x (pre ++ [e]) M Q :=
 ⟨h.nd, h.lt, h.far, h.q, h.hx, h.cl, fun y hy => by
  rcases List.mem_append.1 hy with k | k
  ·exact h.ed y k
  ·simp at k; subst k; exact he rfl⟩
theorem Far.snoc {R : Nat → List Nat} {f x y : Nat} (hx : x = f ∨ Far R f x) (hy : y ∈ R x) : Far R f y := by
 rcases hx with rfl | ⟨z, hz, hr⟩
 ·exact ⟨y, hy, .refl y⟩
 ·exact ⟨z, hz, hr.snoc hy⟩
theorem Fi.add {R : Nat → List Nat} {N f x y : Nat} {pre : List (Nat × Nat)} {M Q : List Nat} (h : Fi R N f x pre M Q) (hM : y ∉ M) (hN : y < N) (hy : y ∈ R x) : Fi R N f x (pre ++ [(x, y)]) (M ++ [y]) (Q ++ [y]) := by
 have mm : ∀ a, a ∈ M ++ [y] ↔ a ∈ M ∨ a = y := fun a => by simp
 have mq : ∀ a, a ∈ Q ++ [y] ↔ a ∈ Q ∨ a = y := fun a => by simp
 refine ⟨List.nodup_append.2 ⟨h.nd, by simp, ?_⟩, ?_, ?_, ?_, ?_, ?_, ?_⟩
 ·intro a ha b hb e
  simp at hb
  subst hb e
  exact hM ha
 ·intro a ha
  rcases (mm a).1 ha with k | rfl
  ·exact h.lt a k
  ·exact hN
 ·intro a ha
  rcases (mm a).1 ha with k | rfl
  ·exact h.far a k
  ·exact Far.snoc (h.hx.imp id (fun k => h.far _ k)) hy
 ·intro a ha
  rcases (mq a).1 ha with k | rfl
  ·exact (h.q a k).imp id (fun k => (mm a).2 (.inl k))
  ·exact .inr ((mm a).2 (.inr rfl))
 ·exact h.hx.imp id (fun k => (mm x).2 (.inl k))
 ·intro a ha
  have key : (a = f ∨ a ∈ M) → a = x ∨ a ∈ Q ++ [y] ∨ ∀ z ∈ R a, z ∈ M ++ [y] := fun ha => by
   rcases h.cl a ha with k | k | k
   ·exact .inl k
   ·exact .inr (.inl ((mq a).2 (.inl k)))
   ·exact .inr (.inr fun z hz => (mm z).2 (.inl (k z hz)))
  rcases ha with k | k
  ·exact key (.inl k)
  ·rcases (mm a).1 k with k | rfl
   ·exact key (.inr k)
   ·exact .inr (.inl ((mq a).2 (.inr rfl)))
 ·intro z hz
  rcases List.mem_append.1 hz with k | k
  ·exact (mm z).2 (.inl (h.ed z k))
  ·simp at k; subst k; exact (mm z).2 (.inr rfl)
theorem Fi.over {es : List (Nat × Nat)} {N f x : Nat} {M Q : List Nat} (h : Fi (rowOf es) N f x es M Q) : Fo (rowOf es) N f M Q :=
 ⟨h.nd, h.lt, h.far, h.q, fun a ha => by
  rcases h.cl a ha with rfl | k | k
  ·exact .inr fun y hy => h.ed y (mem_rowOf.1 hy)
  ·exact .inl k
  ·exact .inr k⟩
theorem Fo.done {R : Nat → List Nat} {N f : Nat} {M : List Nat} (h : Fo R N f M []) (a : Nat) : a ∈ M ↔ Far R f a := by
 refine ⟨h.far a, ?_⟩
 have cl : ∀ a, (a = f ∨ a ∈ M) → ∀ y ∈ R a, y ∈ M := fun a ha => (h.cl a ha).resolve_left (by simp)
 rintro ⟨y, hy, hr⟩
 have hyM := cl f (.inl rfl) y hy
 clear hy
 induction hr with
 | refl _ => exact hyM
 | step hb _ ih => exact ih (cl _ (.inr hyM) _ hb)
theorem Fo.len {R : Nat → List Nat} {N f : Nat} {M Q : List Nat} (h : Fo R N f M Q) : M.length ≤ N := nodup_len N M h.nd h.lt
theorem Fi.len {R : Nat → List Nat} {N f x : Nat} {pre : List (Nat × Nat)} {M Q : List Nat} (h : Fi R N f x pre M Q) : M.length ≤ N := nodup_len N M h.nd h.lt
/-- The marks, as numbers. -/
def ind (M : List Nat) (x : Nat) : Nat := if x ∈ M then 1 else 0
theorem ind_0 : ind [] = fun _ => 0 := by funext x; simp [ind]
theorem ind_snoc (M : List Nat) (y : Nat) : upd1 (ind M) y 1 = ind (M ++ [y]) := by
 funext x
 unfold upd1 ind
 by_cases h : x = y
 ·subst h; simp
 ·rw [if_neg h]; simp [h]
/-- Who tells what is reached. -/
def Tells (R : Nat → List Nat) (d : Nat → Nat → Bool) : Prop := ∀ f x, d f x = true ↔ Far R f x
theorem tells (R : Nat → List Nat) : ∃ d, Tells R d := ⟨fun f x => @decide (Far R f x) (Classical.propDecidable _), fun _ _ => @decide_eq_true_iff _ (Classical.propDecidable _)⟩
/-- .. as numbers. -/
def fr (d : Nat → Nat → Bool) (f x : Nat) : Nat := if d f x then 1 else 0
theorem Fo.fr {R : Nat → List Nat} {N f : Nat} {M : List Nat} {d : Nat → Nat → Bool} (h : Fo R N f M []) (hd : Tells R d) : ind M = Lg.fr d f := by
 funext x
 unfold ind Lg.fr
 by_cases k : x ∈ M
 ·rw [if_pos k, if_pos ((hd f x).2 ((h.done x).1 k))]
 ·rw [if_neg k, if_neg (fun hf => k ((h.done x).2 ((hd f x).1 hf)))]
theorem fr_1 {R : Nat → List Nat} {d : Nat → Nat → Bool} (hd : Tells R d) {f x : Nat} : Lg.fr d f x = 1 ↔ Far R f x := by
 unfold Lg.fr
 rw [← hd f x]
 by_cases h : d f x = true
 ·simp [h]
 ·simp [h]
theorem fr_le (d : Nat → Nat → Bool) (f x : Nat) : Lg.fr d f x = 0 ∨ Lg.fr d f x = 1 := by
 unfold Lg.fr
 by_cases h : d f x = true
 ·simp [h]
 ·simp [h]
/-- Two numbers that are not one: each reaches the other one by an edge at least, if they are in one part. -/
theorem far_mut {R : Nat → List Nat} {i k : Nat} (hne : i ≠ k) : (Far R i k ∧ Far R k i) ↔ Mut R k i := by
 have key : ∀ {a b : Nat}, a ≠ b → (Far R a b ↔ Rch R a b) := fun {a b} hab => by
  constructor
  ·rintro ⟨y, hy, hr⟩
   exact .step hy hr
  ·intro hr
   cases hr with
   | refl => exact absurd rfl hab
   | step hb t => exact ⟨_, hb, t⟩
 rw [key hne, key (Ne.symm hne)]
 exact ⟨fun h => ⟨h.2, h.1⟩, fun h => ⟨h.2, h.1⟩⟩
/-- The document's parts: the first ahead that is in one part, or it itself. -/
theorem isPart_of {R : Nat → List Nat} {N : Nat} {P : Nat → Nat} (h0 : ∀ a, ¬ a < N → P a = a) (hR : ∀ a b, b ∈ R a → a < N ∧ b < N)
  (h1 : ∀ i, i < N → (P i = i ∨ (P i < i ∧ Far R i (P i) ∧ Far R (P i) i)) ∧ ∀ k, k < i → k < P i → ¬ (Far R i k ∧ Far R k i)) : IsPart R P := by
 have lt : ∀ {a b : Nat}, Rch R a b → a ≠ b → a < N := fun {a b} hr hne => by
  cases hr with
  | refl => exact absurd rfl hne
  | step hb _ => exact (hR _ _ hb).1
 intro v
 by_cases hv : v < N
 ·obtain ⟨h2, h3⟩ := h1 v hv
  refine ⟨?_, fun k hk => ?_⟩
  ·rcases h2 with e | ⟨h4, h5, h6⟩
   ·rw [e]; exact Mut.refl R v
   ·exact (far_mut (by omega)).1 ⟨h5, h6⟩
  ·refine Nat.le_of_not_lt fun hlt => ?_
   have hkv : k < v := by
    rcases h2 with e | h4
    ·omega
    ·omega
   exact h3 k hkv hlt ((far_mut (by omega)).2 hk)
 ·rw [h0 v hv]
  refine ⟨Mut.refl R v, fun k hk => ?_⟩
  by_cases e : v = k
  ·omega
  ·exact absurd (lt hk.2 e) hv
end Go.Proofs.Ytnlgeiofkfkhbaa.Lg

namespace Go.Proofs.Ytnlgeiofkfkhbaa
open Go.RowKit Go.Maps Lg

/-- Such a row. -/
def QI (w : World) (B : Nat) (v : Value) (l : List Nat) : Prop := ∃ g off cap cs, v = .slice (some ⟨g, off, none⟩) l.length cap ∧ B ≤ g ∧ w.heap[g]? = some (.cells cs 3 (0, 0)) ∧ off + cap ≤ cs.size ∧ l.length ≤ cap ∧ cap ≤ maxLen ∧ ∀ j (h : j < l.length), cs[off + j]? = some (.int .i64 ((l[j]'h : Nat) : Int))
theorem QI.lt {w : World} {B : Nat} {v : Value} {l : List Nat} (h : QI w B v l) {g : Nat} (hg : v.ownBlock = some g) : B ≤ g ∧ g < w.heap.size := by
 obtain ⟨g', off, cap, cs, rfl, h1, h2, h3⟩ := h
 simp only [Value.ownBlock, Option.some.injEq] at hg
 subst hg
 exact ⟨h1, (Array.getElem?_eq_some_iff.1 h2).1⟩
theorem QI.blk {w w' : World} {B : Nat} {v : Value} {l : List Nat} (h : QI w B v l) (hb : ∀ g, v.ownBlock = some g → w'.heap[g]? = w.heap[g]?) : QI w' B v l := by
 obtain ⟨g', off, cap, cs, rfl, h1, h2, h3⟩ := h
 exact ⟨g', off, cap, cs, rfl, h1, (hb g' rfl).trans h2, h3⟩
theorem QI.bel {w w' : World} {B : Nat} {v : Value} {l : List Nat} (h : QI w B v l) (hb : Below w.heap.size w w') : QI w' B v l := h.blk fun g hg => hb.block g (h.lt hg).2
theorem QI.set {w : World} {B : Nat} {v : Value} {l : List Nat} (h : QI w B v l) (a : Addr) (u : Value) (ha : ∀ g, v.ownBlock = some g → g ≠ a.block) : QI (w.setCell a u) B v l := h.blk fun g hg => Below.heap_setCell w a u g (ha g hg)
theorem QI.cell {w : World} {B : Nat} {v : Value} {l : List Nat} (h : QI w B v l) {x : Nat} {r : List Nat} (hl : l = x :: r) : ∃ g off cap, v = .slice (some ⟨g, off, none⟩) (r.length + 1) cap ∧ w.cell? ⟨g, off, none⟩ = some (.int .i64 (x : Int)) ∧ r.length + 1 ≤ cap ∧ cap ≤ maxLen ∧ QI w B (.slice (some ⟨g, off + 1, none⟩) r.length (cap - 1)) r ∧ (cap = 1 → QI w B (.slice (some ⟨g, off, none⟩) r.length 0) r) := by
 subst hl
 obtain ⟨g, off, cap, cs, rfl, h1, h2, h3, h4, h5, h6⟩ := h
 simp only [List.length_cons] at h4
 refine ⟨g, off, cap, rfl, ?_, h4, h5, ⟨g, off + 1, cap - 1, cs, rfl, h1, h2, by omega, by omega, by omega, fun j hj => ?_⟩, fun hc => ⟨g, off, 0, cs, rfl, h1, h2, by omega, by omega, by omega, fun j hj => by omega⟩⟩
 ·have := h6 0 (by simp)
  simp only [World.cell?, h2, Nat.add_zero, List.getElem_cons_zero] at this ⊢
  exact this
 ·have := h6 (j + 1) (by simpa using hj)
  rw [show off + 1 + j = off + (j + 1) by omega]
  simpa using this
theorem QI.one (w : World) (B : Nat) (x : Nat) (hB : B ≤ w.heap.size) : QI (w.alloc (.cells #[.int .i64 (x : Int)] 3)) B (.slice (some ⟨w.heap.size, 0, none⟩) 1 1) [x] :=
 ⟨w.heap.size, 0, 1, #[.int .i64 (x : Int)], rfl, hB, by show (w.heap.push _)[w.heap.size]? = _; simp, Nat.le_refl _, by simp, by unfold maxLen; omega, fun j hj => by
  have : j = 0 := by simpa using hj
  subst this; rfl⟩
/-- A number more. -/
theorem wpList_append_q {w : World} {ops : Array Oper} {rest : List Oper} {o : Oper} {a : Act} {Q : Exit → Act → World → Prop} (hgd : o.guard = none) (s x : Operand)
  (ho : o.op = .call { callee := .builtin .append, args := #[s, x], argTypes := #[23, 23] }) (B : Nat) (v : Value) (l : List Nat) (hs : a.eval s = v) (hown : QI w B v l) (hB : B ≤ w.heap.size) (hn : l.length ≤ 1099511627776) (y : Nat)
  (t : Nat) (ht : w.heap.size = t) (hx : a.eval x = .slice (some ⟨t, 0, none⟩) 1 1)
  (h : ∀ v' w', QI w' B v' (l ++ [y]) → (w.alloc (.cells #[.int .i64 (y : Int)] 3)).grownBy w' v.ownBlock → (∀ g, v'.ownBlock = some g → v.ownBlock = some g ∨ w.heap.size ≤ g) → wpList Try.prog ops Q rest (a.put o.dst v') w') :
  wpList Try.prog ops Q (o :: rest) a (w.alloc (.cells #[.int .i64 (y : Int)] 3)) := by
 subst ht
 obtain ⟨i0, hi, hz0, hz1, hz2⟩ := info_parts infoInt
 have hown2 := hown.bel (vb_a (Below.refl _ _) (.cells #[.int .i64 (y : Int)] 3))
 obtain ⟨g, off, cap, cs, rfl, h1, h2, h3, h4, h5, h6⟩ := hown2
 have hlt := (hown.lt (g := g) rfl).2
 have hold : ∀ j u, (ivs (il l))[j]? = some u → (w.alloc (.cells #[.int .i64 (y : Int)] 3)).cell? ⟨g, off + j, none⟩ = some u := fun j u hj => by
  have hjl : j < l.length := by
   have := (List.getElem?_eq_some_iff.1 hj).1
   rw [ivs_len, il_len] at this
   exact this
  simp only [World.cell?, h2]
  rw [h6 j hjl]
  have e : (ivs (il l))[j]? = some (.int .i64 ((l[j] : Nat) : Int)) := by simp [ivs, il, hjl]
  rw [e] at hj
  exact hj
 have hthere : ∀ j, j < 1 → l.length + 1 ≤ cap → ((w.alloc (.cells #[.int .i64 (y : Int)] 3)).cell? ⟨g, off + l.length * 1 + j, none⟩).isSome = true ∧ (w.alloc (.cells #[.int .i64 (y : Int)] 3)).frozen? ⟨g, off + l.length * 1 + j, none⟩ = false := fun j hj hr => by
  constructor
  ·simp only [World.cell?, h2]
   rw [Array.getElem?_eq_getElem (by omega)]
   rfl
  ·simp [World.frozen?, h2]
 refine wpList_append_arg _ hgd s x 23 ho 3 i0 (.int .i64 0) 1 8 Try.underlying23 hi hz0 hz1 hz2 rfl (by decide) g off l.length cap (ivs (il l)) hs (by rw [ivs_len, il_len]; omega) hold ⟨w.heap.size, 0, none⟩ 1 1 [.int .i64 (y : Int)] hx rfl (cell_one_new _ _ _) (ints_oneCell .i64 [(y : Int)]) (fun hr j hj => hthere j (by simpa using hj) hr) (by unfold maxLen; omega) (by omega) ?_ ?_
 ·intro hr
  have hsc : (w.alloc (.cells #[.int .i64 (y : Int)] 3)).setCells g (off + l.length * 1) [.int .i64 (y : Int)] = (w.alloc (.cells #[.int .i64 (y : Int)] 3)).setCell ⟨g, off + l.length, none⟩ (.int .i64 (y : Int)) := by rw [Nat.mul_one]; rfl
  rw [hsc]
  have hg0 : (w.alloc (.cells #[.int .i64 (y : Int)] 3)).grownBy ((w.alloc (.cells #[.int .i64 (y : Int)] 3)).setCell ⟨g, off + l.length, none⟩ (.int .i64 (y : Int))) (some g) := ⟨rfl, rfl, rfl, by simp [World.setCell], fun k hk hne => Below.heap_setCell _ _ _ _ (fun e => hne (by rw [e]))⟩
  have e := h (.slice (some ⟨g, off, none⟩) (l.length + 1) cap) _ ⟨g, off, cap, cs.setIfInBounds (off + l.length) (.int .i64 (y : Int)), by simp, h1, ?_, by simpa using h3, by simpa using hr, h5, fun j hj => ?_⟩ hg0 (fun g h => .inl h)
  ·exact e
  ·obtain ⟨hl', e'⟩ := Array.getElem?_eq_some_iff.1 h2
   simp only [World.setCell]
   rw [Array.getElem?_eq_getElem (by rw [Array.size_modify]; exact hl'), Array.getElem_modify_self, e']
   rfl
  ·rw [List.length_append] at hj
   simp only [List.length_cons, List.length_nil] at hj
   by_cases hjl : j < l.length
   ·rw [Array.getElem?_setIfInBounds_ne (by omega), List.getElem_append_left hjl]
    exact h6 j hjl
   ·have : j = l.length := by omega
    subst this
    rw [Array.getElem?_setIfInBounds_self_of_lt (by omega)]
    simp
 ·intro hfull v' w' hown' hg'
  refine h v' w' ?_ ⟨hg'.os, hg'.tape, hg'.output, hg'.size, fun k hk _ => hg'.block k hk (by simp)⟩ (fun g hg => .inr ?_)
  rotate_left
  ·have := (World.ownsRow.lt hown' g hg).1
   simp at this
   omega
  obtain ⟨hlen, hrow⟩ := hown'
  rcases hrow with ⟨-, h0⟩ | ⟨g', cap', cur, rfl, hb', hg2, hc1, hc2, hc3, hc4⟩
  ·omega
  ·refine ⟨g', 0, cap', cur, by simp, Nat.le_trans hB (Nat.le_trans (by simp) hb'), hg2, by omega, by simpa using hc1, hc2, fun j hj => ?_⟩
   have hj2 : j < (cur.toList.take ((l.length + 1) * 1)).length := by rw [hc4, hlen]; simpa using hj
   have e1 : (cur.toList.take ((l.length + 1) * 1))[j]? = cur[j]? := by
    rw [List.getElem?_take_of_lt (by simpa using hj)]
    simp
   rw [Nat.zero_add, ← e1, hc4]
   have e2 : ivs (il l) ++ [Value.int .i64 (y : Int)] = ivs (il (l ++ [y])) := by simp [ivs, il]
   rw [e2]
   unfold ivs il
   rw [List.getElem?_map, List.getElem?_map, List.getElem?_eq_getElem hj]; rfl
end Go.Proofs.Ytnlgeiofkfkhbaa

namespace Go.Proofs.Ytnlgeiofkfkhbaa
open Go.RowKit Go.Maps Lg
attribute [local go_sem] setCell_drewN alloc_drewN

/-- Where its rounds stand. -/
structure FoW (n : Int) (E : List Ed) (N f mg B : Nat) (M Q : List Nat) (v : Value) (w wr : World) : Prop where
 bel : Below w.heap.size w wr
 fo : Fo (rowOf (prs n E)) N f M Q
 ow : OwnI wr B (.slice (some ⟨mg, 0, none⟩) N N) (outL (ind M) N)
 q : QI wr B v Q
 ne : ∀ g, v.ownBlock = some g → g ≠ mg
 qb : Q.length ≤ M.length + 1
/-- .. and a round's edges. -/
structure FiW (n : Int) (E : List Ed) (N f mg B x g0 i : Nat) (M Q : List Nat) (v : Value) (w wr : World) : Prop where
 bel : Below w.heap.size w wr
 le : i ≤ E.length
 fi : Fi (rowOf (prs n E)) N f x (prs n (E.take i)) M Q
 ow : OwnI wr B (.slice (some ⟨mg, 0, none⟩) N N) (outL (ind M) N)
 q : QI wr B v Q
 ne : ∀ g, v.ownBlock = some g → g ≠ mg
 ms : Q.length + N + 1 = M.length + g0
 qb : Q.length ≤ M.length + 1
theorem FiW.no {n : Int} {E : List Ed} {N f mg B x g0 i : Nat} {M Q : List Nat} {v : Value} {w wr w' : World} (h : FiW n E N f mg B x g0 i M Q v w wr) (hi : i < E.length) (hc : cnt n E[i] = false ∨ (E[i].f.toNat = x → E[i].t.toNat ∈ M)) (hb : Below wr.heap.size wr w') : FiW n E N f mg B x g0 (i + 1) M Q v w w' :=
 ⟨vb_t h.bel hb, hi, by
  rw [prs_snoc hi]
  by_cases k : cnt n E[i] = true
  ·rw [if_pos k]
   exact h.fi.no (hc.resolve_left (by rw [k]; simp))
  ·rw [if_neg k, List.append_nil]; exact h.fi, h.ow.bel hb, h.q.bel hb, h.ne, h.ms, h.qb⟩
theorem FiW.over {n : Int} {E : List Ed} {N f mg B x g0 i : Nat} {M Q : List Nat} {v : Value} {w wr : World} (h : FiW n E N f mg B x g0 i M Q v w wr) (hi : ¬ i < E.length) : FoW n E N f mg B M Q v w wr := by
 have e : E.take i = E := List.take_of_length_le (by omega)
 have hf := h.fi
 rw [e] at hf
 exact ⟨h.bel, hf.over, h.ow, h.q, h.ne, h.qb⟩
theorem mem_prs1 {n : Int} {E : List Ed} {e : Ed} (h : e ∈ E) (hc : cnt n e = true) : (e.f.toNat, e.t.toNat) ∈ prs n E := by
 unfold prs
 exact List.mem_map.2 ⟨e, List.mem_filter.2 ⟨h, hc⟩, rfl⟩
theorem ind_le (M : List Nat) (x : Nat) : ind M x = 0 ∨ ind M x = 1 := by unfold ind; split <;> simp

set_option maxRecDepth 100000 in
set_option maxHeartbeats 3200000 in
theorem far_any (n : Int) (hn : n ≤ 1048576) (E : List Ed) (d : Nat → Nat → Bool) (hd : Tells (rowOf (prs n E)) d) (hEl : E.length ≤ 1048576) (f : Nat) (hf : (f : Int) < n) (v : Value) (w : World) (hE : EdI w v E) :
  Calls Try.prog 30 #[.int .i64 n, v, .int .i64 (f : Int)] w fun r w' => ∃ g, r = .returned (.slice (some ⟨g, 0, none⟩) n.toNat n.toNat) ∧ Below w.heap.size w w' ∧ OwnI w' w.heap.size (.slice (some ⟨g, 0, none⟩) n.toNat n.toNat) (outL (fr d f) n.toNat) := by
 obtain ⟨P, hP⟩ : ∃ P : Ending → World → Prop, P = fun r w' => ∃ g, r = .returned (.slice (some ⟨g, 0, none⟩) n.toNat n.toNat) ∧ Below w.heap.size w w' ∧ OwnI w' w.heap.size (.slice (some ⟨g, 0, none⟩) n.toNat n.toNat) (outL (fr d f) n.toNat) := ⟨_, rfl⟩
 rw [← hP]
 have HP := hid_intro hP
 have HD := hid_intro hd
 clear hd
 obtain ⟨N, rfl⟩ : ∃ N : Nat, n = (N : Int) := ⟨n.toNat, by omega⟩
 have hge : (0 : Int) ≤ (N : Int) := by omega
 have hNI : (N : Int) ≤ 1048576 := by omega
 have HN : Hid (N ≤ 1048576 ∧ E.length ≤ 1048576 ∧ f < N) := hid_intro ⟨by omega, hEl, by omega⟩
 have hEI : (E.length : Int) ≤ 1048576 := by omega
 have hfI : (f : Int) ≤ 1048576 := by omega
 have HC : Hid (∀ (e : Ed) (w' : World), Calls Try.prog 25 #[.int .i64 (N : Int), .agg #[.int .i64 e.f, .int .i64 e.t, .string e.wd, .bool e.s, .string e.dy]] w' fun r w2 => r = .returned (.bool (cnt N e)) ∧ Below w'.heap.size w' w2) := hid_intro (fun e w' => counts_any N e w')
 obtain ⟨eo, ec, rfl, hc1, hc2, hrow⟩ := hE
 have HROW := hid_intro hrow
 clear hP hn hEl hc1 hc2 hrow hf
 go_enter Try.func30, Try.ntmps30
 go_wp2_with (at_make; refine wpList_make_i rfl _ _ rfl w.heap.size N rfl rfl (by have := HN.out; omega) (Nat.le_refl _) ?_; intro w1 ho1 hg1 _; have HO1 := hid_intro ho1; have HB1 : Hid (Below w.heap.size w w1) := hid_intro ((Below.refl _ _).grown hg1 (Nat.le_refl _) (fun b e => by cases e)); clear ho1 hg1)
 obtain ⟨mg, hmg⟩ : ∃ mg, w.heap.size = mg := ⟨_, rfl⟩
 have HI0 : Hid (FoW N E N f mg w.heap.size [] [f] (.slice (some ⟨w1.heap.size, 0, none⟩) 1 1) w (w1.alloc (.cells #[.int .i64 (f : Int)] 3))) := hid_intro ⟨vb_t HB1.out (vb_a (Below.refl _ _) _), Fo.start _ _ _, by rw [ind_0, outL_0, ← hmg]; exact HO1.out.bel (vb_a (Below.refl _ _) _), QI.one _ _ _ HB1.out.size, fun g hg => by
  have h1 : w.heap.size < w1.heap.size := (HO1.out.lt rfl).2
  have h2 : w1.heap.size = g := Option.some.inj hg
  omega, by simp⟩
 rw [hmg]
 go_loopg [8, 9, 10, 11] (N + 1) (fun g0 s8 s9 s10 s11 wr => ∃ (M Q : List Nat) (qg qo qc : Nat), g0 = N - M.length + Q.length ∧ s8 = .slice (some ⟨qg, qo, none⟩) Q.length qc ∧ Hid (FoW N E N f mg mg M Q (.slice (some ⟨qg, qo, none⟩) Q.length qc) w wr))
 case atStart => exact ⟨[], [f], _, 0, 1, rfl, rfl, hmg ▸ HI0⟩
 case round =>
  obtain ⟨M, Q, qg, qo, qc, rfl, rfl, HI⟩ := hrel
  cases Q with
  | nil =>
   go_wp2_with fail
   rw [HP.out]
   exact ⟨mg, by show Ending.returned (.slice (some ⟨mg, 0, none⟩) N N) = _; rw [Int.toNat_natCast], HI.out.bel, by rw [Int.toNat_natCast, ← HI.out.fo.fr HD.out, hmg]; exact HI.out.ow⟩
  | cons x Q =>
   obtain ⟨g', o', c', he, hx0, hcl, hcm, hq2, hq3⟩ := HI.out.q.cell rfl
   obtain ⟨hh, hcc⟩ : (some ⟨qg, qo, none⟩ : Option Addr) = some ⟨g', o', none⟩ ∧ qc = c' := by
    injection he with h1 _ h3
    exact ⟨h1, h3⟩
   injection hh with hh
   injection hh with h1 h2
   subst h1 h2 hcc
   have HFS := hid_intro (fun qo1 qc1 (hq : QI wr mg (.slice (some ⟨qg, qo1, none⟩) Q.length qc1) Q) => (⟨HI.out.bel, Nat.zero_le _, by rw [List.take_zero]; exact HI.out.fo.pop, HI.out.ow, hq, fun g hg => HI.out.ne g hg, by have := HI.out.fo.len; omega, by have := HI.out.qb; simp only [List.length_cons] at this; omega⟩ : FiW N E N f mg mg x (N - M.length + (Q.length + 1)) 0 M Q (.slice (some ⟨qg, qo1, none⟩) Q.length qc1) w wr))
   have hpos : (0 : Int) < ((Q.length + 1 : Nat) : Int) := by omega
   have h1le : (1 : Int) ≤ ((Q.length + 1 : Nat) : Int) := by omega
   have hlc : ((Q.length + 1 : Nat) : Int) ≤ (qc : Int) := by omega
   have hcmI : (qc : Int) ≤ 9223372036854775807 := by unfold maxLen at hcm; omega
   by_cases hq1 : qc = 1
   ·have HF0 := hid_intro (HFS.out qo 0 (hq3 hq1))
    subst hq1
    rw [List.length_cons]
    clear he hq2 hq3 hcl hcm HI HFS
    go_wp2_with fail
    go_loopg [8, 10, 11] (E.length) (fun g s8 s10 s11 wq => ∃ (i : Nat) (M1 Q1 : List Nat) (ag ao ac : Nat), g = E.length - i ∧ s8 = .slice (some ⟨ag, ao, none⟩) Q1.length ac ∧ s10 = .int .i64 (i : Int) ∧ Hid (FiW N E N f mg mg x (N - M.length + (Q.length + 1)) i M1 Q1 (.slice (some ⟨ag, ao, none⟩) Q1.length ac) w wq))
    case atStart => exact ⟨0, M, Q, qg, qo, 0, rfl, rfl, rfl, HF0⟩
    case round =>
     obtain ⟨i, M1, Q1, ag, ao, ac, rfl, rfl, rfl, HF⟩ := hrel
     by_cases hi : i < E.length
     ·have hiI : (i : Int) < (E.length : Int) := by omega
      have HLI := hid_intro hi
      obtain ⟨bb, off, rfl, hbl, hcell⟩ := HROW.out.resolve_left (fun e => by rw [e] at hi; exact absurd hi (by simp))
      obtain ⟨k0, k1, k2, k3, k4⟩ := hcell i hi
      replace k0 := (HF.out.bel.cell (p := ⟨bb, off + i * 5, none⟩) hbl).trans k0
      replace k1 := (HF.out.bel.cell (p := ⟨bb, off + i * 5 + 1, none⟩) hbl).trans k1
      replace k2 := (HF.out.bel.cell (p := ⟨bb, off + i * 5 + 2, none⟩) hbl).trans k2
      replace k3 := (HF.out.bel.cell (p := ⟨bb, off + i * 5 + 3, none⟩) hbl).trans k3
      replace k4 := (HF.out.bel.cell (p := ⟨bb, off + i * 5 + 4, none⟩) hbl).trans k4
      have HCC := hid_intro (fun w' => HC.out E[i] w')
      have HNO := hid_intro (fun w' hc hb => HF.out.no (w' := w') hi hc hb)
      have HPS := hid_intro (prs_snoc (n := (N : Int)) hi)
      have HMR := hid_intro (fun hc => mem_prs1 (n := (N : Int)) (List.getElem_mem hi) hc)
      generalize E[i] = ed at *
      obtain ⟨ef, et, wd, sv, dy⟩ := ed
      dsimp only at k0 k1 k2 k3 k4 HCC HNO HPS HMR
      clear hcell hi hbl
      cases hcn : cnt (N : Int) ⟨ef, et, wd, sv, dy⟩ with
      | false =>
       rw [hcn] at HCC
       have HNF := hid_intro (fun w' hb => HNO.out w' (.inl hcn) hb)
       clear hcn HNO HPS HMR
       go_wp2_with fail
       refine (HCC.out _).mono ?_
       rintro r2 w2 ⟨rfl, hb2⟩
       have HFN := hid_intro (HNF.out w2 (vb_t (vb_a (Below.refl _ wr) _) hb2))
       clear hb2 HNF
       go_wp2_with fail
       go_roundg (E.length - (i + 1))
       case measure => have := HLI.out; omega
       case rel => exact ⟨i + 1, M1, Q1, ag, ao, ac, rfl, rfl, by go_num, HFN⟩
      | true =>
       rw [hcn] at HCC
       obtain ⟨⟨h1, h2⟩, h3, h4⟩ := cnt_in hcn
       dsimp only at h1 h2 h3 h4
       obtain ⟨f1, rfl⟩ : ∃ f1 : Nat, ef = (f1 : Int) := ⟨ef.toNat, by omega⟩
       obtain ⟨t1, rfl⟩ : ∃ t1 : Nat, et = (t1 : Int) := ⟨et.toNat, by omega⟩
       have HTN := hid_intro (show t1 < N by omega)
       have HNF := hid_intro (fun w' (h : f1 = x → t1 ∈ M1) hb => HNO.out w' (.inr (by rw [Int.toNat_natCast, Int.toNat_natCast]; exact h)) hb)
       have HMR2 := hid_intro (HMR.out hcn)
       have HPS2 : Hid (prs (N : Int) (E.take (i + 1)) = prs (N : Int) (E.take i) ++ [(f1, t1)]) := hid_intro (by rw [HPS.out, if_pos hcn, Int.toNat_natCast, Int.toNat_natCast])
       rw [Int.toNat_natCast, Int.toNat_natCast] at HMR2
       clear hcn HNO HPS HMR h1 h2 h3 h4
       go_wp2_with fail
       refine (HCC.out _).mono ?_
       rintro r2 w2 ⟨rfl, hb2⟩
       have kE := (Bk.new wr #[.int .i64 (f1 : Int), .int .i64 (t1 : Int), .string wd, .bool sv, .string dy] 32).bel hb2
       have c0 := kE.cell 0
       have c1 := kE.cell 1
       have HBB := hid_intro (vb_t (vb_a (Below.refl _ wr) _) hb2)
       by_cases hfx : f1 = x
       ·have hfxI : (f1 : Int) = (x : Int) := by omega
        obtain ⟨m0, m1⟩ := (HF.out.ow.bel HBB.out).at (outL_len (ind M1) N).symm (j := t1) (by rw [outL_len]; exact HTN.out)
        rw [outL_at (ind M1) HTN.out] at m0
        have htI : (t1 : Int) < (N : Int) := by have := HTN.out; omega
        by_cases htm : t1 ∈ M1
        ·have HFN := hid_intro (HNF.out w2 (fun _ => htm) HBB.out)
         have e1 : ind M1 t1 = 1 := by unfold ind; rw [if_pos htm]
         rw [e1] at m0
         clear hb2 kE HNF e1 htm hfx
         go_wp2_with fail
         go_roundg (E.length - (i + 1))
         case measure => have := HLI.out; omega
         case rel => exact ⟨i + 1, M1, Q1, ag, ao, ac, rfl, rfl, by go_num, HFN⟩
        ·have e1 : ind M1 t1 = 0 := by unfold ind; rw [if_neg htm]
         rw [e1] at m0
         have hlt : wr.heap.size < w2.heap.size := Nat.lt_of_lt_of_le (by simp) hb2.size
         have hmg : mg < wr.heap.size := (HF.out.ow.lt rfl).2
         obtain ⟨o3, g3⟩ := (HF.out.ow.bel HBB.out).put (outL_len (ind M1) N).symm t1 1 (by unfold I64; omega)
         rw [show (1 : Int) = ((1 : Nat) : Int) from rfl, outL_set, ind_snoc] at o3
         have kE3 := kE.away (a := ⟨mg, t1, none⟩) (v := .int .i64 1) (by show wr.heap.size ≠ mg; omega)
         have d1 := kE3.cell 1
         have HQ3 := hid_intro ((HF.out.q.bel HBB.out).set ⟨mg, t1, none⟩ (.int .i64 1) (fun g hg => HF.out.ne g hg))
         have HO3 := hid_intro o3
         have HFX := hid_intro hfx
         have HTM := hid_intro htm
         have HLL := hid_intro (show Q1.length ≤ 1099511627776 by have := HF.out.qb; have := HF.out.fi.len; have := HN.out; omega)
         have HSZ : Hid (mg ≤ (w2.setCell ⟨mg, t1, none⟩ (.int .i64 1)).heap.size) := hid_intro (by rw [World.size_setCell]; omega)
         have HBW : Hid (Below w.heap.size w (w2.setCell ⟨mg, t1, none⟩ (.int .i64 1))) := hid_intro ((vb_t HF.out.bel HBB.out).setCell (by show w.heap.size ≤ mg; omega) _)
         clear hb2 kE HNF e1 htm hlt hmg o3 g3 kE3 hfx
         go_wp2_with (at_builtin; refine wpList_append_q rfl _ _ rfl mg _ Q1 rfl HQ3.out HSZ.out HLL.out t1 w2.heap.size (World.size_setCell _ _ _) rfl ?_; intro v5 w5 hq5 hg5 hl5; obtain ⟨vg, vo, vc, vcs, rfl, -⟩ := id hq5; have HQ5 := hid_intro hq5; have HG5 := hid_intro hg5; have HL5 := hid_intro hl5; clear hq5 hg5 hl5)
         have HFN : Hid (FiW N E N f mg mg x (N - M.length + (Q.length + 1)) (i + 1) (M1 ++ [t1]) (Q1 ++ [t1]) (.slice (some ⟨vg, vo, none⟩) (Q1 ++ [t1]).length vc) w w5) := hid_intro (by
          have hsz := HSZ.out
          refine ⟨(HBW.out.trans ((vb_a (Below.refl _ _) _).mono HBW.out.size)).grown HG5.out (Nat.le_trans HBW.out.size (by simp)) (fun b h => by have := (HQ3.out.lt h).1; omega), HLI.out, ?_, ?_, HQ5.out, fun g hg => ?_, ?_, ?_⟩
          ·rw [HPS2.out]
           have h := HF.out.fi
           rw [HFX.out] at HMR2 ⊢
           exact h.add HTM.out HTN.out (mem_rowOf.2 HMR2.out)
          ·exact (HO3.out.bel (vb_a (Below.refl _ _) _)).gr HG5.out (fun g hg hq => by
            have h1 : mg = g := Option.some.inj hg
            exact HF.out.ne g hq h1.symm)
          ·rcases HL5.out g hg with h | h
           ·exact HF.out.ne g h
           ·have h1 := (HO3.out.lt (g := mg) rfl).2
            rw [World.size_setCell] at h h1
            omega
          ·have := HF.out.ms
           simp only [List.length_append, List.length_cons, List.length_nil]
           omega
          ·have := HF.out.qb
           simp only [List.length_append, List.length_cons, List.length_nil]
           omega)
         go_wp2_with fail
         go_roundg (E.length - (i + 1))
         case measure => have := HLI.out; omega
         case rel => exact ⟨i + 1, M1 ++ [t1], Q1 ++ [t1], vg, vo, vc, rfl, by rw [List.length_append]; rfl, by go_num, HFN⟩
       ·have hfxI : ¬ (f1 : Int) = (x : Int) := by omega
        have HFN := hid_intro (HNF.out w2 (fun e => absurd e hfx) HBB.out)
        clear hb2 kE HNF hfx
        go_wp2_with fail
        go_roundg (E.length - (i + 1))
        case measure => have := HLI.out; omega
        case rel => exact ⟨i + 1, M1, Q1, ag, ao, ac, rfl, rfl, by go_num, HFN⟩
     ·have hiI : ¬ (i : Int) < (E.length : Int) := by omega
      have HOV := hid_intro (HF.out.over hi)
      have HMS := hid_intro (And.intro HF.out.ms HF.out.fi.len)
      clear hi
      go_wp2_with fail
      go_roundg (N - M1.length + Q1.length)
      case measure => have := HMS.out; omega
      case rel => exact ⟨M1, Q1, ag, ao, ac, rfl, rfl, HOV⟩
   ·have HF0 := hid_intro (HFS.out (qo + 1) (qc - 1) hq2)
    rw [List.length_cons]
    clear he hq2 hq3 hcl hcm HI HFS
    go_wp2_with fail
    go_loopg [8, 10, 11] (E.length) (fun g s8 s10 s11 wq => ∃ (i : Nat) (M1 Q1 : List Nat) (ag ao ac : Nat), g = E.length - i ∧ s8 = .slice (some ⟨ag, ao, none⟩) Q1.length ac ∧ s10 = .int .i64 (i : Int) ∧ Hid (FiW N E N f mg mg x (N - M.length + (Q.length + 1)) i M1 Q1 (.slice (some ⟨ag, ao, none⟩) Q1.length ac) w wq))
    case atStart => exact ⟨0, M, Q, qg, (qo + 1), (qc - 1), rfl, rfl, rfl, HF0⟩
    case round =>
     obtain ⟨i, M1, Q1, ag, ao, ac, rfl, rfl, rfl, HF⟩ := hrel
     by_cases hi : i < E.length
     ·have hiI : (i : Int) < (E.length : Int) := by omega
      have HLI := hid_intro hi
      obtain ⟨bb, off, rfl, hbl, hcell⟩ := HROW.out.resolve_left (fun e => by rw [e] at hi; exact absurd hi (by simp))
      obtain ⟨k0, k1, k2, k3, k4⟩ := hcell i hi
      replace k0 := (HF.out.bel.cell (p := ⟨bb, off + i * 5, none⟩) hbl).trans k0
      replace k1 := (HF.out.bel.cell (p := ⟨bb, off + i * 5 + 1, none⟩) hbl).trans k1
      replace k2 := (HF.out.bel.cell (p := ⟨bb, off + i * 5 + 2, none⟩) hbl).trans k2
      replace k3 := (HF.out.bel.cell (p := ⟨bb, off + i * 5 + 3, none⟩) hbl).trans k3
      replace k4 := (HF.out.bel.cell (p := ⟨bb, off + i * 5 + 4, none⟩) hbl).trans k4
      have HCC := hid_intro (fun w' => HC.out E[i] w')
      have HNO := hid_intro (fun w' hc hb => HF.out.no (w' := w') hi hc hb)
      have HPS := hid_intro (prs_snoc (n := (N : Int)) hi)
      have HMR := hid_intro (fun hc => mem_prs1 (n := (N : Int)) (List.getElem_mem hi) hc)
      generalize E[i] = ed at *
      obtain ⟨ef, et, wd, sv, dy⟩ := ed
      dsimp only at k0 k1 k2 k3 k4 HCC HNO HPS HMR
      clear hcell hi hbl
      cases hcn : cnt (N : Int) ⟨ef, et, wd, sv, dy⟩ with
      | false =>
       rw [hcn] at HCC
       have HNF := hid_intro (fun w' hb => HNO.out w' (.inl hcn) hb)
       clear hcn HNO HPS HMR
       go_wp2_with fail
       refine (HCC.out _).mono ?_
       rintro r2 w2 ⟨rfl, hb2⟩
       have HFN := hid_intro (HNF.out w2 (vb_t (vb_a (Below.refl _ wr) _) hb2))
       clear hb2 HNF
       go_wp2_with fail
       go_roundg (E.length - (i + 1))
       case measure => have := HLI.out; omega
       case rel => exact ⟨i + 1, M1, Q1, ag, ao, ac, rfl, rfl, by go_num, HFN⟩
      | true =>
       rw [hcn] at HCC
       obtain ⟨⟨h1, h2⟩, h3, h4⟩ := cnt_in hcn
       dsimp only at h1 h2 h3 h4
       obtain ⟨f1, rfl⟩ : ∃ f1 : Nat, ef = (f1 : Int) := ⟨ef.toNat, by omega⟩
       obtain ⟨t1, rfl⟩ : ∃ t1 : Nat, et = (t1 : Int) := ⟨et.toNat, by omega⟩
       have HTN := hid_intro (show t1 < N by omega)
       have HNF := hid_intro (fun w' (h : f1 = x → t1 ∈ M1) hb => HNO.out w' (.inr (by rw [Int.toNat_natCast, Int.toNat_natCast]; exact h)) hb)
       have HMR2 := hid_intro (HMR.out hcn)
       have HPS2 : Hid (prs (N : Int) (E.take (i + 1)) = prs (N : Int) (E.take i) ++ [(f1, t1)]) := hid_intro (by rw [HPS.out, if_pos hcn, Int.toNat_natCast, Int.toNat_natCast])
       rw [Int.toNat_natCast, Int.toNat_natCast] at HMR2
       clear hcn HNO HPS HMR h1 h2 h3 h4
       go_wp2_with fail
       refine (HCC.out _).mono ?_
       rintro r2 w2 ⟨rfl, hb2⟩
       have kE := (Bk.new wr #[.int .i64 (f1 : Int), .int .i64 (t1 : Int), .string wd, .bool sv, .string dy] 32).bel hb2
       have c0 := kE.cell 0
       have c1 := kE.cell 1
       have HBB := hid_intro (vb_t (vb_a (Below.refl _ wr) _) hb2)
       by_cases hfx : f1 = x
       ·have hfxI : (f1 : Int) = (x : Int) := by omega
        obtain ⟨m0, m1⟩ := (HF.out.ow.bel HBB.out).at (outL_len (ind M1) N).symm (j := t1) (by rw [outL_len]; exact HTN.out)
        rw [outL_at (ind M1) HTN.out] at m0
        have htI : (t1 : Int) < (N : Int) := by have := HTN.out; omega
        by_cases htm : t1 ∈ M1
        ·have HFN := hid_intro (HNF.out w2 (fun _ => htm) HBB.out)
         have e1 : ind M1 t1 = 1 := by unfold ind; rw [if_pos htm]
         rw [e1] at m0
         clear hb2 kE HNF e1 htm hfx
         go_wp2_with fail
         go_roundg (E.length - (i + 1))
         case measure => have := HLI.out; omega
         case rel => exact ⟨i + 1, M1, Q1, ag, ao, ac, rfl, rfl, by go_num, HFN⟩
        ·have e1 : ind M1 t1 = 0 := by unfold ind; rw [if_neg htm]
         rw [e1] at m0
         have hlt : wr.heap.size < w2.heap.size := Nat.lt_of_lt_of_le (by simp) hb2.size
         have hmg : mg < wr.heap.size := (HF.out.ow.lt rfl).2
         obtain ⟨o3, g3⟩ := (HF.out.ow.bel HBB.out).put (outL_len (ind M1) N).symm t1 1 (by unfold I64; omega)
         rw [show (1 : Int) = ((1 : Nat) : Int) from rfl, outL_set, ind_snoc] at o3
         have kE3 := kE.away (a := ⟨mg, t1, none⟩) (v := .int .i64 1) (by show wr.heap.size ≠ mg; omega)
         have d1 := kE3.cell 1
         have HQ3 := hid_intro ((HF.out.q.bel HBB.out).set ⟨mg, t1, none⟩ (.int .i64 1) (fun g hg => HF.out.ne g hg))
         have HO3 := hid_intro o3
         have HFX := hid_intro hfx
         have HTM := hid_intro htm
         have HLL := hid_intro (show Q1.length ≤ 1099511627776 by have := HF.out.qb; have := HF.out.fi.len; have := HN.out; omega)
         have HSZ : Hid (mg ≤ (w2.setCell ⟨mg, t1, none⟩ (.int .i64 1)).heap.size) := hid_intro (by rw [World.size_setCell]; omega)
         have HBW : Hid (Below w.heap.size w (w2.setCell ⟨mg, t1, none⟩ (.int .i64 1))) := hid_intro ((vb_t HF.out.bel HBB.out).setCell (by show w.heap.size ≤ mg; omega) _)
         clear hb2 kE HNF e1 htm hlt hmg o3 g3 kE3 hfx
         go_wp2_with (at_builtin; refine wpList_append_q rfl _ _ rfl mg _ Q1 rfl HQ3.out HSZ.out HLL.out t1 w2.heap.size (World.size_setCell _ _ _) rfl ?_; intro v5 w5 hq5 hg5 hl5; obtain ⟨vg, vo, vc, vcs, rfl, -⟩ := id hq5; have HQ5 := hid_intro hq5; have HG5 := hid_intro hg5; have HL5 := hid_intro hl5; clear hq5 hg5 hl5)
         have HFN : Hid (FiW N E N f mg mg x (N - M.length + (Q.length + 1)) (i + 1) (M1 ++ [t1]) (Q1 ++ [t1]) (.slice (some ⟨vg, vo, none⟩) (Q1 ++ [t1]).length vc) w w5) := hid_intro (by
          have hsz := HSZ.out
          refine ⟨(HBW.out.trans ((vb_a (Below.refl _ _) _).mono HBW.out.size)).grown HG5.out (Nat.le_trans HBW.out.size (by simp)) (fun b h => by have := (HQ3.out.lt h).1; omega), HLI.out, ?_, ?_, HQ5.out, fun g hg => ?_, ?_, ?_⟩
          ·rw [HPS2.out]
           have h := HF.out.fi
           rw [HFX.out] at HMR2 ⊢
           exact h.add HTM.out HTN.out (mem_rowOf.2 HMR2.out)
          ·exact (HO3.out.bel (vb_a (Below.refl _ _) _)).gr HG5.out (fun g hg hq => by
            have h1 : mg = g := Option.some.inj hg
            exact HF.out.ne g hq h1.symm)
          ·rcases HL5.out g hg with h | h
           ·exact HF.out.ne g h
           ·have h1 := (HO3.out.lt (g := mg) rfl).2
            rw [World.size_setCell] at h h1
            omega
          ·have := HF.out.ms
           simp only [List.length_append, List.length_cons, List.length_nil]
           omega
          ·have := HF.out.qb
           simp only [List.length_append, List.length_cons, List.length_nil]
           omega)
         go_wp2_with fail
         go_roundg (E.length - (i + 1))
         case measure => have := HLI.out; omega
         case rel => exact ⟨i + 1, M1 ++ [t1], Q1 ++ [t1], vg, vo, vc, rfl, by rw [List.length_append]; rfl, by go_num, HFN⟩
       ·have hfxI : ¬ (f1 : Int) = (x : Int) := by omega
        have HFN := hid_intro (HNF.out w2 (fun e => absurd e hfx) HBB.out)
        clear hb2 kE HNF hfx
        go_wp2_with fail
        go_roundg (E.length - (i + 1))
        case measure => have := HLI.out; omega
        case rel => exact ⟨i + 1, M1, Q1, ag, ao, ac, rfl, rfl, by go_num, HFN⟩
     ·have hiI : ¬ (i : Int) < (E.length : Int) := by omega
      have HOV := hid_intro (HF.out.over hi)
      have HMS := hid_intro (And.intro HF.out.ms HF.out.fi.len)
      clear hi
      go_wp2_with fail
      go_roundg (N - M1.length + Q1.length)
      case measure => have := HMS.out; omega
      case rel => exact ⟨M1, Q1, ag, ao, ac, rfl, rfl, HOV⟩
end Go.Proofs.Ytnlgeiofkfkhbaa

namespace Go.Proofs.Ytnlgeiofkfkhbaa
open Go.RowKit Go.Maps Lg
attribute [local go_sem] setCell_drewN alloc_drewN

theorem rowOwn_blk {w w' : World} {B n : Nat} {v : Value} {vs : List Value} (h : w.ownsRow B 23 1 v n vs) (hb : ∀ g, v.ownBlock = some g → w'.heap[g]? = w.heap[g]?) : w'.ownsRow B 23 1 v n vs := by
 obtain ⟨h1, h2⟩ := h
 refine ⟨h1, ?_⟩
 rcases h2 with h2 | ⟨g, cap, cur, rfl, k1, k2, k3⟩
 ·exact .inl h2
 ·exact .inr ⟨g, cap, cur, rfl, k1, (hb g rfl).trans k2, k3⟩
theorem rowOwn_form {w : World} {B n : Nat} {v : Value} {vs : List Value} (h : w.ownsRow B 23 1 v n vs) : ∃ ao cap, v = .slice ao n cap := by
 rcases h.2 with ⟨rfl, h0⟩ | ⟨g, cap, cur, rfl, _⟩
 ·exact ⟨none, 0, by rw [h0]⟩
 ·exact ⟨_, cap, rfl⟩
/-- A row more in a row of rows. -/
theorem wpList_append_r {w : World} {ops : Array Oper} {rest : List Oper} {o : Oper} {a : Act} {Q : Exit → Act → World → Prop} (hgd : o.guard = none) (s x : Operand)
  (ho : o.op = .call { callee := .builtin .append, args := #[s, x], argTypes := #[34, 34] }) (B : Nat) (v : Value) (n : Nat) (vs : List Value) (hs : a.eval s = v) (hown : w.ownsRow B 23 1 v n vs) (hB : B ≤ w.heap.size) (hn : n ≤ 1048576) (y : Value) (hy : y.oneCell' = true)
  (t : Nat) (ht : w.heap.size = t) (hx : a.eval x = .slice (some ⟨t, 0, none⟩) 1 1)
  (h : ∀ v' w', w'.ownsRow B 23 1 v' (n + 1) (vs ++ [y]) → (w.alloc (.cells #[y] 23)).grownBy w' v.ownBlock → wpList Try.prog ops Q rest (a.put o.dst v') w') :
  wpList Try.prog ops Q (o :: rest) a (w.alloc (.cells #[y] 23)) := by
 subst ht
 obtain ⟨i0, hi, hz0, hz1, hz2⟩ := info_parts infoRow
 refine wpList_append_own _ hgd s x 34 ho B 23 i0 (.slice none 0 0) 1 24 Try.underlying34 hi hz0 hz1 hz2 rfl (by decide) v n vs hs (rowOwn_blk hown (fun g hg => (vb_a (Below.refl _ w) _).block g (World.ownsRow.lt hown g hg).2)) ⟨w.heap.size, 0, none⟩ 1 1 [y] hx rfl (cell_one_new _ _ _) (fun u hu => by simp at hu; exact hu ▸ hy) (by unfold maxLen; omega) (by omega) (by simp; omega) (fun v' w' h1 h2 _ => h v' w' h1 h2)
/-- The rows of what is reached. -/
def rws (N : Nat) (gs : List Nat) : List Value := gs.map fun g => .slice (some ⟨g, 0, none⟩) N N
structure AL (d : Nat → Nat → Bool) (N B : Nat) (v : Value) (gs : List Nat) (w : World) : Prop where
 row : w.ownsRow B 23 1 v gs.length (rws N gs)
 each : ∀ j (h : j < gs.length), OwnI w B (.slice (some ⟨gs[j]'h, 0, none⟩) N N) (outL (Lg.fr d j) N)
theorem AL.bel {d : Nat → Nat → Bool} {N B : Nat} {v : Value} {gs : List Nat} {w w' : World} (h : AL d N B v gs w) (hb : Below w.heap.size w w') : AL d N B v gs w' :=
 ⟨rowOwn_blk h.row (fun g hg => hb.block g (World.ownsRow.lt h.row g hg).2), fun j hj => (h.each j hj).bel hb⟩
theorem AL.app {d : Nat → Nat → Bool} {N B g : Nat} {v v' : Value} {gs : List Nat} {w w' : World} (h : AL d N B v gs w) (ho : OwnI w B (.slice (some ⟨g, 0, none⟩) N N) (outL (Lg.fr d gs.length) N))
  (hr : w'.ownsRow B 23 1 v' (gs.length + 1) (rws N gs ++ [.slice (some ⟨g, 0, none⟩) N N])) (hg : w.grownBy w' v.ownBlock) : AL d N B v' (gs ++ [g]) w' := by
 have key : ∀ {b : Nat} {l : List Int}, OwnI w B (.slice (some ⟨b, 0, none⟩) N N) l → OwnI w' B (.slice (some ⟨b, 0, none⟩) N N) l := fun {b l} k => k.gr hg (fun c hc e => by
  have hbc : b = c := Option.some.inj hc
  subst hbc
  obtain ⟨cs, f, h1⟩ := k.cls (g := b) rfl
  rcases h.row.2 with ⟨rfl, -⟩ | ⟨g2, cap, cur, rfl, -, h2, -⟩
  ·cases e
  ·have : g2 = b := Option.some.inj e
   subst this
   rw [h1] at h2
   injection h2 with h2
   injection h2 with _ h2 _
   exact absurd h2 (by decide))
 refine ⟨?_, fun j hj => ?_⟩
 ·have e : rws N (gs ++ [g]) = rws N gs ++ [.slice (some ⟨g, 0, none⟩) N N] := by simp [rws]
  rw [e, List.length_append]
  exact hr
 ·by_cases hl : j < gs.length
  ·rw [List.getElem_append_left hl]
   exact key (h.each j hl)
  ·have e : j = gs.length := by simp at hj; omega
   subst e
   rw [List.getElem_append_right (Nat.le_refl _)]
   simp only [Nat.sub_self, List.getElem_cons_zero]
   exact key ho
theorem AL.cell {d : Nat → Nat → Bool} {N B : Nat} {v : Value} {gs : List Nat} {w : World} (h : AL d N B v gs w) {j k : Nat} (hj : j < gs.length) (hk : k < N) : ∃ ab cap g, v = .slice (some ⟨ab, 0, none⟩) gs.length cap ∧ w.cell? ⟨ab, j, none⟩ = some (.slice (some ⟨g, 0, none⟩) N N) ∧ w.cell? ⟨g, k, none⟩ = some (.int .i64 ((Lg.fr d j k : Nat) : Int)) := by
 have h0 := h.row
 rcases h.row.2 with ⟨rfl, hz⟩ | ⟨ab, cap, cur, rfl, k1, k2, k3⟩
 ·omega
 ·refine ⟨ab, cap, gs[j], rfl, ?_, ?_⟩
  ·rw [World.ownsRow.cellAt h0 j (by omega)]
   unfold rws
   rw [List.getElem?_map, List.getElem?_eq_getElem hj]; rfl
  ·have := ((h.each j hj).at (outL_len _ N).symm (j := k) (by rw [outL_len]; exact hk)).1
   rw [outL_at _ hk] at this
   exact this
theorem AL.same {d : Nat → Nat → Bool} {N B : Nat} {v : Value} {gs : List Nat} {w : World} (h : AL d N B v gs w) : ∃ ao cap, v = .slice ao gs.length cap := rowOwn_form h.row
/-- Two numbers reach each other. -/
def mm (R : Nat → List Nat) (i k : Nat) : Prop := Far R i k ∧ Far R k i
/-- How far the search of a number's part has come. -/
def PF (R : Nat → List Nat) (i k p : Nat) : Prop := k ≤ i ∧ ((p = i ∧ ∀ k', k' < k → ¬ mm R i k') ∨ (p < i ∧ mm R i p ∧ ∀ k', k' < p → ¬ mm R i k'))
theorem PF.over {R : Nat → List Nat} {i k p : Nat} (h : PF R i k p) (he : ¬ (k < i ∧ p = i)) : (p = i ∨ (p < i ∧ Far R i p ∧ Far R p i)) ∧ ∀ k', k' < i → k' < p → ¬ (Far R i k' ∧ Far R k' i) := by
 obtain ⟨h1, ⟨h2, h3⟩ | ⟨h2, h3, h4⟩⟩ := h
 ·exact ⟨.inl h2, fun k' hk _ => h3 k' (by omega)⟩
 ·exact ⟨.inr ⟨h2, h3⟩, fun k' _ hk => h4 k' hk⟩
end Go.Proofs.Ytnlgeiofkfkhbaa

namespace Go.Proofs.Ytnlgeiofkfkhbaa
open Go.RowKit Go.Maps Lg
attribute [local go_sem] setCell_drewN alloc_drewN

/-- The part of a number, as its search tells it. -/
def PS (R : Nat → List Nat) (i p : Nat) : Prop := (p = i ∨ (p < i ∧ Far R i p ∧ Far R p i)) ∧ ∀ k, k < i → k < p → ¬ (Far R i k ∧ Far R k i)
theorem AL.two {d : Nat → Nat → Bool} {N B : Nat} {v : Value} {gs : List Nat} {w : World} (h : AL d N B v gs w) {j k : Nat} (hj : j < gs.length) (hk : k < gs.length) (hl : gs.length = N) : ∃ ab cap g1 g2, v = .slice (some ⟨ab, 0, none⟩) gs.length cap ∧ w.cell? ⟨ab, j, none⟩ = some (.slice (some ⟨g1, 0, none⟩) N N) ∧ w.cell? ⟨g1, k, none⟩ = some (.int .i64 ((Lg.fr d j k : Nat) : Int)) ∧
  w.cell? ⟨ab, k, none⟩ = some (.slice (some ⟨g2, 0, none⟩) N N) ∧ w.cell? ⟨g2, j, none⟩ = some (.int .i64 ((Lg.fr d k j : Nat) : Int)) := by
 obtain ⟨ab, cap, g1, rfl, h1, h2⟩ := h.cell hj (k := k) (by omega)
 obtain ⟨ab2, cap2, g2, e, h3, h4⟩ := h.cell hk (k := j) (by omega)
 injection e with e1 _ e3
 injection e1 with e1
 injection e1 with e1
 subst e1
 exact ⟨ab, cap, g1, g2, rfl, h1, h2, h3, h4⟩
/-- Where the second loop stands. -/
structure Rp2 (d : Nat → Nat → Bool) (R : Nat → List Nat) (N B i : Nat) (av ov : Value) (gs : List Nat) (P : Nat → Nat) (w wr : World) : Prop where
 le : i ≤ N
 bel : Below w.heap.size w wr
 al : AL d N B av gs wr
 ow : OwnI wr B ov (outL P i)
 ps : ∀ j, j < i → PS R j (P j)
 nd : ∀ b, ov.ownBlock = some b → ∀ g ∈ gs, g ≠ b
theorem PF.start (R : Nat → List Nat) (i : Nat) : PF R i 0 i := ⟨Nat.zero_le _, .inl ⟨rfl, fun k' hk => by omega⟩⟩
theorem PF.no {R : Nat → List Nat} {i k : Nat} (h : PF R i k i) (hk : k < i) (hm : ¬ mm R i k) : PF R i (k + 1) i := by
 obtain ⟨h1, ⟨h2, h3⟩ | ⟨h2, _⟩⟩ := h
 ·refine ⟨hk, .inl ⟨rfl, fun k' hk' => ?_⟩⟩
  by_cases e : k' = k
  ·subst e; exact hm
  ·exact h3 k' (by omega)
 ·omega
theorem PF.yes {R : Nat → List Nat} {i k : Nat} (h : PF R i k i) (hk : k < i) (hm : mm R i k) : PF R i (k + 1) k := by
 obtain ⟨h1, ⟨h2, h3⟩ | ⟨h2, _⟩⟩ := h
 ·exact ⟨hk, .inr ⟨hk, hm, h3⟩⟩
 ·omega
theorem PF.le {R : Nat → List Nat} {i k p : Nat} (h : PF R i k p) : p ≤ i := by
 obtain ⟨h1, ⟨h2, h3⟩ | ⟨h2, _⟩⟩ := h
 ·omega
 ·omega
theorem outL_snoc (P : Nat → Nat) (i p : Nat) : outL P i ++ [(p : Int)] = outL (upd1 P i p) (i + 1) := by
 unfold outL
 rw [List.range_succ, List.map_append]
 congr 1
 ·apply List.map_congr_left
  intro k hk
  have := List.mem_range.1 hk
  unfold upd1
  rw [if_neg (by omega)]
 ·simp [upd1]
theorem Rp2.next {d : Nat → Nat → Bool} {R : Nat → List Nat} {N B i p g c : Nat} {av ov : Value} {gs : List Nat} {P : Nat → Nat} {w wr w' : World} (h : Rp2 d R N B i av ov gs P w wr) (hi : i < N) (hp : PS R i p) (ho : OwnI w' B (.slice (some ⟨g, 0, none⟩) ((outL P i).length + 1) c) (outL P i ++ [(p : Int)])) (hg : (wr.alloc (.cells #[.int .i64 (p : Int)] 3)).grownBy w' ov.ownBlock) (hl : ov.ownBlock = some g ∨ wr.heap.size < g) (hB : w.heap.size ≤ B) : Rp2 d R N B (i + 1) av (.slice (some ⟨g, 0, none⟩) (i + 1) c) gs (upd1 P i p) w w' := by
 rw [outL_len] at ho
 have hb : Below wr.heap.size wr (wr.alloc (.cells #[.int .i64 (p : Int)] 3)) := vb_a (Below.refl _ _) _
 refine ⟨hi, (vb_t h.bel hb).grown hg (Nat.le_trans h.bel.size hb.size) (fun b e => Nat.le_trans hB (h.ow.lt e).1), ?_, ?_, fun j hj => ?_, fun b hb2 g2 hg2 e => ?_⟩
 ·have hal := h.al.bel hb
  have how := h.ow.bel hb
  refine ⟨rowOwn_blk hal.row (fun b e => hg.block b (World.ownsRow.lt hal.row b e).2 (fun e2 => ?_)), fun j hj => (hal.each j hj).gr hg (fun b e e2 => ?_)⟩
  ·obtain ⟨cs, f, h1⟩ := how.cls e2.symm
   rcases hal.row.2 with ⟨rfl, -⟩ | ⟨g2, cap, cur, rfl, -, h2, -⟩
   ·cases e
   ·have : g2 = b := Option.some.inj e
    subst this
    rw [h1] at h2
    injection h2 with h2
    injection h2 with _ h2 _
    exact absurd h2 (by decide)
  ·have hgb : gs[j] = b := Option.some.inj e
   exact h.nd b e2 _ (List.getElem_mem hj) hgb
 ·rw [← outL_snoc]; exact ho
 ·unfold upd1
  by_cases e : j = i
  ·subst e; rw [if_pos rfl]; exact hp
  ·rw [if_neg e]; exact h.ps j (by omega)
 ·have hgb : g = b := Option.some.inj hb2
  subst hgb
  rcases hl with hl | hl
  ·exact h.nd _ hl g2 hg2 e
  ·obtain ⟨j, hj, rfl⟩ := List.mem_iff_getElem.1 hg2
   have := ((h.al.each j hj).lt (g := gs[j]) rfl).2
   omega
theorem part_of_ps {n : Int} {E : List Ed} {P : Nat → Nat} (h : ∀ j, j < n.toNat → PS (rowOf (prs n E)) j (P j)) : IsPart (rowOf (prs n E)) (fun x => if x < n.toNat then P x else x) := by
 refine isPart_of (N := n.toNat) (fun a ha => by simp only [if_neg ha]) (fun a b hb => ⟨(prs_lt _ (mem_rowOf.1 hb)).1, (prs_lt _ (mem_rowOf.1 hb)).2⟩) (fun i hi => ?_)
 simp only [if_pos hi]
 exact h i hi
theorem outL_if (P : Nat → Nat) (N : Nat) : outL (fun x => if x < N then P x else x) N = outL P N := by
 unfold outL
 apply List.map_congr_left
 intro k hk
 show ((if k < N then P k else k : Nat) : Int) = _
 rw [if_pos (List.mem_range.1 hk)]

set_option maxRecDepth 100000 in
set_option maxHeartbeats 3200000 in
theorem rparts_any (n : Int) (hn : n ≤ 1000) (E : List Ed) (hEl : E.length ≤ 1048576) (v : Value) (w : World) (hE : EdI w v E) : Calls Try.prog 18 #[.int .i64 n, v] w (PaP n E w) := by
 obtain ⟨Q0, hQ0⟩ : ∃ P' : Ending → World → Prop, P' = PaP n E w := ⟨_, rfl⟩
 rw [← hQ0]
 have HQ := hid_intro hQ0
 obtain ⟨N, hN⟩ : ∃ N, n.toNat = N := ⟨_, rfl⟩
 have hN1 : (N : Int) ≤ 1000 := by omega
 obtain ⟨d, hd⟩ := tells (rowOf (prs n E))
 have HFA := hid_intro (fun (i : Nat) wr (hi : i < N) hb => far_any n (by omega) E d hd hEl i (by omega) v wr (hE.below (w' := wr) hb))
 rw [hN] at HFA
 have HNN := hid_intro (show n.toNat = N ∧ (∀ i : Nat, (i : Int) < n ↔ i < N) from ⟨hN, fun i => by omega⟩)
 obtain ⟨eo, ec, rfl, -⟩ := hE
 obtain ⟨R, hR⟩ : ∃ R, rowOf (prs n E) = R := ⟨_, rfl⟩
 rw [hR] at hd
 have HD := hid_intro hd
 have HR := hid_intro hR
 clear hQ0 hn hEl hN hR hd
 go_enter Try.func18, Try.ntmps18
 go_wp2_with fail
 go_loopg [5, 6] (N) (fun g s5 s6 wr => ∃ (gs : List Nat) (ao : Option Addr) (ac : Nat), g = N - gs.length ∧ s5 = .slice ao gs.length ac ∧ s6 = .int .i64 (gs.length : Int) ∧ Hid (gs.length ≤ N ∧ Below w.heap.size w wr ∧ AL d N w.heap.size (.slice ao gs.length ac) gs wr))
 case atStart => exact ⟨[], none, 0, rfl, rfl, rfl, hid_intro ⟨Nat.zero_le _, Below.refl _ _, ⟨World.ownsRow_nil w _ _ 1, fun j hj => by simp at hj⟩⟩⟩
 case round =>
  obtain ⟨gs, ao, ac, rfl, rfl, rfl, HI⟩ := hrel
  by_cases hi : gs.length < N
  ·have hiI : (gs.length : Int) < n := (HNN.out.2 _).2 hi
   have HFC := hid_intro (HFA.out gs.length wr hi HI.out.2.1)
   have HGL := hid_intro hi
   have hgI : (gs.length : Int) ≤ 1000 := by omega
   clear hi
   go_wp2_with fail
   refine HFC.out.mono ?_
   rintro r w2 ⟨gf, rfl, hb2, ho2⟩
   have HAL := hid_intro (HI.out.2.2.bel hb2)
   have HOW := hid_intro (ho2.low HI.out.2.1.size)
   have HB2 := hid_intro (vb_t HI.out.2.1 hb2)
   have HLE := hid_intro (show gs.length ≤ 1048576 by omega)
   clear hb2 ho2
   go_wp2_with (at_builtin; refine wpList_append_r rfl _ _ rfl w.heap.size _ gs.length (rws N gs) rfl HAL.out.row HB2.out.size HLE.out (.slice (some ⟨gf, 0, none⟩) N N) rfl _ rfl rfl ?_; intro v5 w5 ho5 hg5; obtain ⟨a5, c5, rfl⟩ := rowOwn_form ho5; have HA5 := hid_intro ((HAL.out.bel (vb_a (Below.refl _ _) _)).app (HOW.out.bel (vb_a (Below.refl _ _) _)) ho5 hg5); have HB5 : Hid (Below w.heap.size w w5) := hid_intro ((HB2.out.trans ((vb_a (Below.refl _ _) _).mono HB2.out.size)).grown hg5 (Nat.le_trans HB2.out.size (by simp)) (fun b h => (World.ownsRow.lt HAL.out.row b h).1)); clear ho5 hg5)
   go_roundg (N - (gs.length + 1))
   case measure => have := HGL.out; omega
   case rel =>
    have hl : (gs ++ [gf]).length = gs.length + 1 := by simp
    exact ⟨gs ++ [gf], a5, c5, by rw [hl], by rw [hl], by rw [hl]; go_num, hid_intro ⟨by rw [hl]; exact HGL.out, HB5.out, by rw [hl]; exact HA5.out⟩⟩
  ·have hiI : ¬ (gs.length : Int) < n := fun h => hi ((HNN.out.2 _).1 h)
   have hlN : gs.length = N := by have := HI.out.1; omega
   have HAL := hid_intro HI.out.2.2
   have HB1 := hid_intro HI.out.2.1
   have HLN := hid_intro hlN
   clear hi HI
   go_wp2_with fail
   go_loopg [7, 8, 9, 10] (N) (fun g s7 s8 s9 s10 wq => ∃ (i : Nat) (P : Nat → Nat) (bo : Option Addr) (bc : Nat), g = N - i ∧ s7 = .slice bo i bc ∧ s8 = .int .i64 (i : Int) ∧ Hid (Rp2 d R N w.heap.size i (.slice ao gs.length ac) (.slice bo i bc) gs P w wq))
   case atStart => exact ⟨0, fun x => x, none, 0, rfl, rfl, rfl, hid_intro ⟨Nat.zero_le _, HB1.out, HAL.out, OwnI.nil _ _, fun j hj => by omega, fun b h => by cases h⟩⟩
   case round =>
    obtain ⟨i, P, bo, bc, rfl, rfl, rfl, HJ⟩ := hrel
    clear HAL HB1
    by_cases hi : i < N
    ·have hiI : (i : Int) < n := (HNN.out.2 _).2 hi
     have hi1 : (i : Int) ≤ 1000 := by omega
     have HIL := hid_intro hi
     clear hi hiI
     have hiI : (i : Int) < n := (HNN.out.2 _).2 HIL.out
     go_wp2_with fail
     go_loopg [9, 10] (i) (fun g s9 s10 wq => ∃ k p : Nat, g = i - k ∧ s9 = .int .i64 (p : Int) ∧ s10 = .int .i64 (k : Int) ∧ wq = wr ∧ Hid (PF R i k p))
     case atStart => exact ⟨0, i, rfl, rfl, rfl, rfl, hid_intro (PF.start R i)⟩
     case round =>
      obtain ⟨k, p, rfl, rfl, rfl, rfl, HK⟩ := hrel
      by_cases hk : k < i
      ·have hkI : (k : Int) < (i : Int) := by omega
       by_cases hp : p = i
       ·subst hp
        have HKI := hid_intro hk
        have HNX := hid_intro (fun h => HK.out.no (hk := hk) h)
        have HYX := hid_intro (fun h => HK.out.yes (hk := hk) h)
        obtain ⟨ab, cap, g1, g2, hv, q1, q2, q3, q4⟩ := HJ.out.al.two (j := p) (k := k) (by have := HIL.out; have := HLN.out; omega) (by have := HIL.out; have := HLN.out; omega) HLN.out
        injection hv with hv1 _ hv3
        subst hv1 hv3
        have hgI : (p : Int) < (gs.length : Int) := by have := HIL.out; have := HLN.out; omega
        have hgK : (k : Int) < (gs.length : Int) := by have := HIL.out; have := HLN.out; omega
        have hNI : (p : Int) < (N : Int) := by have := HIL.out; omega
        have hNK : (k : Int) < (N : Int) := by have := HIL.out; omega
        obtain ⟨x, hx⟩ : ∃ x, Lg.fr d p k = x := ⟨_, rfl⟩
        obtain ⟨y, hy⟩ : ∃ y, Lg.fr d k p = y := ⟨_, rfl⟩
        have hx01 : x = 0 ∨ x = 1 := hx ▸ fr_le d p k
        have hy01 : y = 0 ∨ y = 1 := hy ▸ fr_le d k p
        have h1 : x = 1 ↔ Far R p k := hx ▸ fr_1 HD.out
        have h2 : y = 1 ↔ Far R k p := hy ▸ fr_1 HD.out
        rw [hx] at q2
        rw [hy] at q4
        clear hk HK hx hy
        rcases hx01 with rfl | rfl
        ·have HPN := hid_intro (HNX.out (fun hm => absurd (h1.2 hm.1) (by omega)))
         clear HNX HYX h1 h2 hy01
         go_wp2_with fail
         go_roundg (p - (k + 1))
         case measure => have := HKI.out; omega
         case rel => exact ⟨k + 1, p, rfl, rfl, by go_num, rfl, HPN⟩
        ·rcases hy01 with rfl | rfl
         ·have HPN := hid_intro (HNX.out (fun hm => absurd (h2.2 hm.2) (by omega)))
          clear HNX HYX h1 h2
          go_wp2_with fail
          go_roundg (p - (k + 1))
          case measure => have := HKI.out; omega
          case rel => exact ⟨k + 1, p, rfl, rfl, by go_num, rfl, HPN⟩
         ·have HPN := hid_intro (HYX.out ⟨h1.1 rfl, h2.1 rfl⟩)
          clear HNX HYX h1 h2
          go_wp2_with fail
          go_roundg (p - (k + 1))
          case measure => have := HKI.out; omega
          case rel => exact ⟨k + 1, k, rfl, rfl, by go_num, rfl, HPN⟩
       ·have hpI : ¬ (p : Int) = (i : Int) := by omega
        have HPS := hid_intro (HK.out.over (by omega))
        have HOW := hid_intro HJ.out.ow
        have HSZ := hid_intro HJ.out.bel.size
        have HLL := hid_intro (show (outL P i).length ≤ 1099511627776 by rw [outL_len]; omega)
        have HPI := hid_intro (show I64 (p : Int) by have := HK.out.le; unfold I64; omega)
        clear HK
        go_wp2_with (at_builtin; refine wpList_append_i rfl _ _ rfl w.heap.size _ (outL P i) rfl HOW.out HSZ.out HLL.out (p : Int) HPI.out _ rfl rfl ?_; intro g5 c5 w5 ho5 hg5 hl5; have HJ5 := hid_intro (HJ.out.next HIL.out HPS.out ho5 hg5 hl5 (Nat.le_refl _)); clear ho5 hg5 hl5)
        go_roundg (N - (i + 1))
        case measure => have := HIL.out; omega
        case rel => exact ⟨i + 1, upd1 P i p, some ⟨g5, 0, none⟩, c5, rfl, by rw [outL_len], by go_num, HJ5⟩
      ·have hkI : ¬ (k : Int) < (i : Int) := by omega
       have HPS := hid_intro (HK.out.over (by omega))
       have HOW := hid_intro HJ.out.ow
       have HSZ := hid_intro HJ.out.bel.size
       have HLL := hid_intro (show (outL P i).length ≤ 1099511627776 by rw [outL_len]; omega)
       have HPI := hid_intro (show I64 (p : Int) by have := HK.out.le; unfold I64; omega)
       clear HK
       go_wp2_with (at_builtin; refine wpList_append_i rfl _ _ rfl w.heap.size _ (outL P i) rfl HOW.out HSZ.out HLL.out (p : Int) HPI.out _ rfl rfl ?_; intro g5 c5 w5 ho5 hg5 hl5; have HJ5 := hid_intro (HJ.out.next HIL.out HPS.out ho5 hg5 hl5 (Nat.le_refl _)); clear ho5 hg5 hl5)
       go_roundg (N - (i + 1))
       case measure => have := HIL.out; omega
       case rel => exact ⟨i + 1, upd1 P i p, some ⟨g5, 0, none⟩, c5, rfl, by rw [outL_len], by go_num, HJ5⟩
    ·have hiI : ¬ (i : Int) < n := fun h => hi ((HNN.out.2 _).1 h)
     have hie : i = N := by have := HJ.out.le; omega
     have HFI : Hid (PaP n E w (.returned (.slice bo i bc)) wr) := hid_intro (by
      refine ⟨HJ.out.bel, _, _, part_of_ps (P := P) (fun j hj => by rw [HR.out]; exact HJ.out.ps j (by have := HNN.out.1; omega)), rfl, ?_⟩
      rw [HNN.out.1, outL_if]
      have h := HJ.out.ow
      rw [hie] at h ⊢
      exact h)
     clear hi hie
     go_wp2_with fail
     rw [HQ.out]
     exact HFI.out
end Go.Proofs.Ytnlgeiofkfkhbaa

namespace Go.Proofs.Ytnlgeiofkfkhbaa
open Go.RowKit Go.Maps Lg
attribute [local go_sem] setCell_drewN alloc_drewN

set_option maxRecDepth 100000 in
set_option maxHeartbeats 3200000 in
theorem loopsParts_walk (n : Int) (hn2 : I64 n) (E : List Ed) (v : Value) (w : World) (hE : EdI w v E) : Calls Try.prog 5 #[.int .i64 n, v] w fun r w' => r = .returned (.bool true) ∧ Below w.heap.size w w' := by
 obtain ⟨Q0, hQ0⟩ : ∃ P' : Ending → World → Prop, P' = fun r w' => r = .returned (.bool true) ∧ Below w.heap.size w w' := ⟨_, rfl⟩
 rw [← hQ0]
 have HQ := hid_intro hQ0
 have HE := hid_intro hE
 have HN2 := hid_intro hn2
 obtain ⟨eo, ec, rfl, hel, hec, -⟩ := hE
 have hEI : (E.length : Int) ≤ 9223372036854775807 := by unfold maxLen at hec; omega
 clear hQ0 hn2 hel hec
 go_enter Try.func5, Try.ntmps5
 by_cases hn : (60 : Int) < n
 ·go_wp2_with fail
  refine (heads_any w).mono ?_
  rintro r w1 ⟨rfl, hb1⟩
  have HB1 := hid_intro hb1
  clear hb1
  go_wp2_with fail
  rw [HQ.out]
  exact ⟨rfl, HB1.out⟩
 ·by_cases hl : (200 : Int) < (E.length : Int)
  ·go_wp2_with fail
   refine (heads_any w).mono ?_
   rintro r w1 ⟨rfl, hb1⟩
   have HB1 := hid_intro hb1
   clear hb1
   go_wp2_with fail
   rw [HQ.out]
   exact ⟨rfl, HB1.out⟩
  ·have HP1 := hid_intro (parts_any n (by omega) HN2.out E (by omega) _ w HE.out)
   have HP2 := hid_intro (fun w1 hb => rparts_any n (by omega) E (by omega) _ w1 (HE.out.below (w' := w1) hb))
   go_wp2_with fail
   refine HP1.out.mono ?_
   rintro r w1 ⟨hb1, P, pv, hP, rfl, ho1⟩
   have HB1 := hid_intro hb1
   have HR2 := hid_intro (HP2.out w1 hb1)
   have HPP := hid_intro hP
   have HI1 := hid_intro (ho1.ii (fun _ => False) (fun _ _ h => h))
   clear hb1 hP ho1
   go_wp2_with fail
   refine HR2.out.mono ?_
   rintro r w2 ⟨hb2, P2, pv2, hP2, rfl, ho2⟩
   have hpe : P2 = P := hP2.eq HPP.out
   subst hpe
   have HI2 := hid_intro (ho2.ii (fun _ => False) (fun _ _ h => h))
   have HI12 := hid_intro (HI1.out.kept hb2)
   have HB2 := hid_intro (vb_t HB1.out hb2)
   clear hb2 hP2 ho2
   go_wp2_with fail
   refine (ints_any _ _ _ _ w2 HI12.out HI2.out).mono ?_
   rintro r w3 ⟨rfl, hb3⟩
   have HB3 := hid_intro (vb_t HB2.out hb3)
   clear hb3
   rw [show decide (outL P2 n.toNat = outL P2 n.toNat) = true from decide_eq_true rfl]
   go_wp2_with fail
   refine (heads_any w3).mono ?_
   rintro r w4 ⟨rfl, hb4⟩
   have HB4 := hid_intro (vb_t HB3.out hb4)
   clear hb4
   go_wp2_with fail
   rw [HQ.out]
   exact ⟨rfl, HB4.out⟩
end Go.Proofs.Ytnlgeiofkfkhbaa
