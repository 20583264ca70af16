/-
  A search's variables through a call that writes only what lay ahead of them. No condition.
-/
import Derived.Test.YtnlgeiofkfkhbaaJoined19
namespace Go.Proofs.Ytnlgeiofkfkhbaa
open Go.RowKit Go.Maps Lg

/-- What writes only below lo leaves a search as it is. -/
theorem SS.far {w w' : World} {e : SV} {m : Nat} {R : Nat → List Nat} {P F fin A : List Nat} {ov : Bool} {lo g : Nat} (h : SS w e m R P F fin A ov) (hlo : lo ≤ e.ab ∧ lo ≤ e.cy ∧ lo ≤ e.B) (kg : Bk w e.B #[.slice (some ⟨g, 0, none⟩) m m]) (hM : MX w (fun b => b < lo ∨ e.X b) g m R) (hb : But (fun b => b < lo) w w') : SS w' e m R P F fin A ov := by
 obtain ⟨⟨sz, l0, _, kl, kc, kh, kt, ke, ks⟩, ⟨vp, vf, va, kp, kf, ka, op, of, oa, d1, d2, d3⟩, ⟨cnt, mp, hcn⟩, lf, ko, ⟨x, kx, hx⟩⟩ := h
 have ob : ∀ {v : Value} {l : List Int}, OwnI w (e.B + 12) v l → OwnI w' (e.B + 12) v l := fun k => k.but hb (fun q hq hl => by have := (k.lt hq).1; omega)
 have hs := hb.size
 exact ⟨⟨by omega, l0, ⟨g, kg.but hb (by omega), (hM.but (hb.more (fun b h => .inl h))).less (fun b _ h1 h2 => h1 (.inr h2))⟩, kl.but hb (by omega), kc.but hb (by omega), kh.but hb (by omega), kt.but hb (by omega), ke.but hb (by omega), ks.but hb (by omega)⟩, ⟨vp, vf, va, kp.but hb (by omega), kf.but hb (by omega), ka.but hb (by omega), ob op, ob of, ob oa, d1, d2, d3⟩, ⟨cnt, mp.but hb (by omega), hcn⟩, lf.but hb (by omega), ko.but hb (by omega), ⟨x, kx.but hb (by omega), hx⟩⟩
/-- What a search leaves of a world, to one that writes below lo. -/
theorem BX.keep {e : SV} {X : Nat → Prop} {w w' : World} {g m : Nat} {R : Nat → List Nat} (h : BX e w w') (hM : MX w X g m R) (hx : ∀ b, e.X b → X b) : MX w' X g m R := hM.but (h.but.more hx)
/-- The row that a search puts into is cut to none. -/
theorem SS.cut {w : World} {e : SV} {m : Nat} {R : Nat → List Nat} {P F fin A : List Nat} {ov : Bool} {ao : Option Addr} {n cap : Nat} (h : SS w e m R P F fin A ov) (ka : Bk w e.ab #[.slice ao n cap]) : SS (w.setCell ⟨e.ab, 0, none⟩ (.slice ao 0 cap)) e m R P F fin [] ov ∧ BX e w (w.setCell ⟨e.ab, 0, none⟩ (.slice ao 0 cap)) := by
 obtain ⟨c, ⟨vp, vf, va, kp, kf, ka2, op, of, oa, d1, d2, d3⟩, ⟨cnt, mp, hcn⟩, lf, ko, ⟨x, kx, hx⟩⟩ := h
 have lo := c.lo
 obtain rfl : va = .slice ao n cap := by
  have := ka2.q1
  rw [ka.q1] at this
  injection this with this
  exact this.symm
 have hb : But (fun k => k = e.ab) w (w.setCell ⟨e.ab, 0, none⟩ (.slice ao 0 cap)) := But.st _ _ _ _
 have hX : ∀ k, k = e.ab → e.X k ∧ ¬ e.S k := fun b h => by unfold SV.X SV.S; omega
 have eo : (Value.slice ao 0 cap).ownBlock = (Value.slice ao n cap).ownBlock := by cases ao <;> rfl
 have ot : OwnI (w.setCell ⟨e.ab, 0, none⟩ (.slice ao 0 cap)) (e.B + 12) (.slice ao 0 cap) (il []) := by
  have := (oa.but hb (fun g hg h => by have := (oa.lt hg).1; omega)).take 0 (Nat.zero_le _)
  exact this
 exact ⟨⟨c.but hb hX, ⟨vp, vf, _, kp.but hb (by omega), kf.but hb (by omega), ka2.set 0 _ rfl, op.but hb (fun g hg h => by have := (op.lt hg).1; omega), of.but hb (fun g hg h => by have := (of.lt hg).1; omega), ot, d1, fun b h1 h2 => d2 b h1 (eo.symm.trans h2), fun b h1 h2 => d3 b h1 (eo.symm.trans h2)⟩, ⟨cnt, mp.but hb (by omega), hcn⟩, lf.but hb (by omega), ko.but hb (by omega), ⟨x, kx.but hb (by omega), hx⟩⟩, BX.of hb (fun b h => (hX b h).1) (fun b h => (hX b h).2) (fun b h => .inl (by omega))⟩
end Go.Proofs.Ytnlgeiofkfkhbaa
