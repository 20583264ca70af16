/-
  A search's variables through what the rounds of a range over a function turn. No condition.
-/
import Derived.Test.YtnlgeiofkfkhbaaJoined37
namespace Go.Proofs.Ytnlgeiofkfkhbaa
open Go.RowKit Go.Maps Lg

theorem OwnI.isC {w : World} {B : Nat} {v : Value} {l : List Int} (h : OwnI w B v l) {g : Nat} (hg : v.ownBlock = some g) {o : Obj} (ho : w.heap[g]? = some o) : o.isCells = true := by
 rcases h.1.2 with ⟨rfl, -⟩ | ⟨g', c, cur, rfl, hb', hg', hrest⟩
 ·cases hg
 ·cases hg
  rw [hg'] at ho
  cases ho
  rfl
theorem Bk.isC {w : World} {b : Nat} {cs : Array Value} (h : Bk w b cs) {o : Obj} (ho : w.heap[b]? = some o) : o.isCells = true := by
 obtain ⟨T, h⟩ := h
 rw [h] at ho
 cases ho
 rfl
/-- What the rounds turn is none of the search's. -/
theorem SS.turn {w w' : World} {e : SV} {m : Nat} {R : Nat → List Nat} {P F fin A : List Nat} {ov : Bool} {row : Option Nat} (h : SS w e m R P F fin A ov) (hg : w.grownBy w' row) (hr : ∀ r, row = some r → e.B + 12 ≤ r ∧ ∃ o : Obj, w.heap[r]? = some o ∧ o.isCells = false) : SS w' e m R P F fin A ov := by
 obtain ⟨c, ⟨vp, vf, va, kp, kf, ka, op, of, oa, d1, d2, d3⟩, ⟨cnt, mp, hcn⟩, lf, ko, ⟨x, kx, hx⟩⟩ := h
 have hb := But.gr hg
 have kb : ∀ {b : Nat} {cs : Array Value}, Bk w b cs → row ≠ some b := fun k e0 => by
  obtain ⟨o, h1, h2⟩ := (hr _ e0).2
  rw [k.isC h1] at h2
  cases h2
 have ob : ∀ {v : Value} {l : List Int}, OwnI w (e.B + 12) v l → ∀ g, v.ownBlock = some g → row ≠ some g := fun k g hv e0 => by
  obtain ⟨o, h1, h2⟩ := (hr _ e0).2
  rw [k.isC hv h1] at h2
  cases h2
 exact ⟨c.but hb (fun b h => ⟨.inl (by have := (hr _ h).1; omega), fun hs => by have := (hr _ h).1; unfold SV.S at hs; omega⟩), ⟨vp, vf, va, kp.gr hg (kb kp), kf.gr hg (kb kf), ka.gr hg (kb ka), op.gr hg (ob op), of.gr hg (ob of), oa.gr hg (ob oa), d1, d2, d3⟩, ⟨cnt, mp.but hb (fun h => by have := (hr _ h).1; omega), hcn⟩, lf.gr hg (kb lf), ko.gr hg (kb ko), ⟨x, kx.gr hg (kb kx), hx⟩⟩
end Go.Proofs.Ytnlgeiofkfkhbaa
