/-
  What ref4.text answers: the string behind a quote, or the bad length: the same as lex.text. Conditions: the bytes lie in memory, at most 2^47 - 4096 of them.
-/
import Derived.Test.YtngpkgmgjbahgaaDoorF6
import Derived.Test.YtngpkgmgjbahgaaDoorG1
import Derived.Test.YtngpkgmgjbahgaaDoorUC3
import Derived.Test.YtngpkgmgjbahgaaDoorV14
import Derived.Deep.DeepCutAuto
import Derived.Deep.LoopGhost
import Derived.Deep.CutBlock
namespace Go.Proofs.YtngpkgmgjbahgaaDoor
open Go.RowKit
attribute [local go_sem] setCell_drewN alloc_drewN

/-- A string and a place, or the bad length, as the document's answer returns them. -/
def rtxV : Tk → Value
  | .ok t => .tuple #[.string ⟨t.text.toArray⟩, .int .i64 t.to, .int .i64 0]
  | .error n => .tuple #[.string ⟨#[]⟩, .int .i64 0, .int .i64 n]

theorem escL_pt {l : List UInt8} {i p k : Nat} (h : escL l i = .ok (p, k)) : ptB (p : Int) = true ∧ p ≤ 1114111 := by
  unfold escL at h
  split at h
  · have e := (Prod.mk.inj (Except.ok.inj h)).1
    have hv : meanV (bx l i) < 128 ∧ 0 ≤ meanV (bx l i) := by
      unfold meanV
      repeat' split
      all_goals omega
    exact ⟨(ptB_iff _).2 (by omega), by omega⟩
  · split at h
    · cases hu : unitL l false (i + 1) with
      | error n => rw [hu] at h; cases h
      | ok r =>
        rw [hu] at h
        simp only [afterU] at h
        have a := unitL_not hu
        split at h
        · rename_i g
          have b := pairL_le h g.1 g.2
          simp only at b
          exact ⟨(ptB_iff _).2 (by omega), b.2.1⟩
        · have e := Except.ok.inj h
          rw [e] at a
          rename_i g
          rw [e] at g
          simp only at a g
          exact ⟨(ptB_iff _).2 (by omega), by omega⟩
    · cases h
theorem pairL_error {l : List UInt8} {i high n : Nat} (h : pairL l i high = .error n) : 0 < n := by
  unfold pairL at h
  cases hs : spelledL l i [92, 117] with
  | error m => rw [hs] at h; exact Except.error.inj h ▸ spelledL_error _ hs
  | ok j =>
    rw [hs] at h
    simp only at h
    cases hu : unitL l true j with
    | error m => rw [hu] at h; exact Except.error.inj h ▸ unitL_error hu
    | ok r => rw [hu] at h; cases h
theorem escL_error {l : List UInt8} {i n : Nat} (h : escL l i = .error n) : 0 < n := by
  unfold escL at h
  split at h
  · cases h
  · split at h
    · cases hu : unitL l false (i + 1) with
      | error m => rw [hu] at h; exact Except.error.inj h ▸ unitL_error hu
      | ok r =>
        rw [hu] at h
        simp only [afterU] at h
        split at h
        · exact pairL_error h
        · cases h
    · have := Except.error.inj h; omega
theorem own_put {w : World} {base : Nat} {v : Value} {out : List UInt8} {p : Nat} (hp : p ≤ 1114111) (h : w.ownsRow base 5 1 v (out.length + encN p) (vals (out.length + encN p) (catF out.length (bx out) (encF p)))) : w.ownsRow base 5 1 v (out ++ encL p).length (cellsL (out ++ encL p)) := by
  refine own_cat (n := out.length) (m := encN p) rfl (encL_length p).symm ?_
  have e : vals (encN p) (encF p) = vals (encN p) (bx (encL p)) := by
    unfold vals
    apply List.map_congr_left
    intro i hi
    rw [bx_enc p hp i (List.mem_range.1 hi)]
  rw [← vals_cat, vals_bx, e] at h
  exact h
theorem byt_lies {w : World} {b off cap : Nat} {l : List UInt8} (h : Byt w (.slice (some ⟨b, off, none⟩) l.length cap) l) (h0 : 0 < l.length) : Lies w b off l.length (bx l) ∧ l.length ≤ cap ∧ cap ≤ maxLen := by
  rcases h with ⟨h, _⟩ | ⟨b2, off2, cap2, e, hc, hm, hL⟩
  · omega
  · simp only [Value.slice.injEq, Option.some.injEq, Addr.mk.injEq, and_true, true_and] at e
    obtain ⟨⟨rfl, rfl⟩, rfl⟩ := e
    exact ⟨hL, hc, hm⟩
/-- What the tries of ever longer beginnings have come to. -/
def tried (m : Nat) (ok : Bool) (k x : Nat) (o : Bool) : Prop :=
  (ok = false → o = false ∧ x = min (k - 1) m) ∧ (ok = true → (k ≤ m ∧ o = false ∧ x = k - 1) ∨ (k = m + 1 ∧ o = true ∧ x = m))
theorem tried_end {m n k x : Nat} {ok o : Bool} (h : tried m ok k x o) (hmn : m ≤ n) (hk : k = n + 1 ∨ o = true) : x = m ∧ o = ok := by
  cases ok
  · have a := h.1 rfl
    rcases hk with hk | hk
    · exact ⟨by omega, a.1⟩
    · rw [a.1] at hk; cases hk
  · rcases h.2 rfl with ⟨a, b, c⟩ | ⟨a, b, c⟩
    · rcases hk with hk | hk
      · omega
      · rw [b] at hk; cases hk
    · exact ⟨c, b⟩
theorem tried_next {r m n k x : Nat} {ok : Bool} {f : Nat → Int} (h : tried m ok k x false) (hs : stepF r f = (m, ok)) (l : ∀ i, 0 ≤ f i) (u : ∀ i, f i < 256) (hk : 1 ≤ k) (hkn : k ≤ n) (hn : n ≤ r) : ∃ x2 o2, good k f = (x2, o2) ∧ tried m ok (k + 1) x2 o2 := by
  cases ok
  · exact ⟨_, _, try_bad r f m k hs (l 0) (u 0) hk (by omega), ⟨fun _ => ⟨rfl, by omega⟩, fun h => by cases h⟩⟩
  · rcases h.2 rfl with ⟨a, _, _⟩ | ⟨_, b, _⟩
    · by_cases e : k = m
      · subst e
        exact ⟨_, _, try_eq r f k hs l u, ⟨fun h => (by cases h), fun _ => .inr ⟨rfl, rfl, rfl⟩⟩⟩
      · exact ⟨_, _, try_lt r f m k hs (l 0) (u 0) hk (by omega), ⟨fun h => (by cases h), fun _ => .inl ⟨by omega, rfl, by omega⟩⟩⟩
    · cases b

end Go.Proofs.YtngpkgmgjbahgaaDoor
