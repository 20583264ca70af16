/-
  The search's variables: how far the last one on the path has come; the last one leaves it; what is put. No condition.
-/
import Derived.Test.YtnlgeiofkfkhbaaJoined14
namespace Go.Proofs.Ytnlgeiofkfkhbaa
open Go.RowKit Go.Maps Lg
attribute [local go_sem] setCell_drewN alloc_drewN

/-- A draw changes nothing. -/
theorem SS.bel {w w' : World} {e : SV} {m : Nat} {R : Nat → List Nat} {P F fin A : List Nat} {ov : Bool} (h : SS w e m R P F fin A ov) (hb : Below w.heap.size w w') : SS w' e m R P F fin A ov := by
  obtain ⟨c, ⟨vp, vf, va, kp, kf, ka, op, of, oa, d1, d2, d3⟩, ⟨cnt, mp, hcn⟩, lf, ko, ⟨x, kx, hx⟩⟩ := h
  have hB : But (fun _ => False) w w' := But.ofBelow hb
  exact ⟨c.but hB (fun b h => h.elim), ⟨vp, vf, va, kp.bel hb, kf.bel hb, ka.bel hb, op.bel hb, of.bel hb, oa.bel hb, d1, d2, d3⟩, ⟨cnt, mp.but hB (fun h => h), hcn⟩, lf.bel hb, ko.bel hb, ⟨x, kx.bel hb, hx⟩⟩
/-- The last one of a row. -/
theorem OwnI.last {w : World} {B : Nat} {v : Value} {l : List Nat} {y : Nat} (h : OwnI w B v (il (l ++ [y]))) : ∃ g cap, v = .slice (some ⟨g, 0, none⟩) (l.length + 1) cap ∧ l.length + 1 ≤ cap ∧ cap ≤ maxLen ∧ w.cell? ⟨g, l.length, none⟩ = some (.int .i64 (y : Int)) ∧ w.frozen? ⟨g, l.length, none⟩ = false := by
  obtain ⟨ao, cap, rfl, h1, h2, h3, _⟩ := h.form
  obtain ⟨g, rfl⟩ := h3 (by simp [il])
  have hl : (il (l ++ [y])).length = l.length + 1 := by rw [il_len]; simp
  obtain ⟨c0, z0⟩ := h.at rfl (j := l.length) (by rw [hl]; omega)
  rw [il_at (by simp)] at c0
  rw [hl] at h1 ⊢
  refine ⟨g, cap, rfl, h1, h2, ?_, z0⟩
  rw [c0]; simp
/-- What a step of the last one finds. -/
structure Op2 (w : World) (e : SV) (m : Nat) (v k : Nat) (P F : List Nat) (pg pc fg fc : Nat) : Prop where
  kp : w.cell? ⟨e.B + 3, 0, none⟩ = some (.slice (some ⟨pg, 0, none⟩) (P.length + 1) pc)
  kf : w.cell? ⟨e.B + 4, 0, none⟩ = some (.slice (some ⟨fg, 0, none⟩) (F.length + 1) fc)
  cp : w.cell? ⟨pg, P.length, none⟩ = some (.int .i64 (v : Int))
  cf : w.cell? ⟨fg, F.length, none⟩ = some (.int .i64 (k : Int))
  zf : w.frozen? ⟨fg, F.length, none⟩ = false
  hp : P.length + 1 ≤ pc ∧ pc ≤ maxLen
  hf : F.length + 1 ≤ fc ∧ fc ≤ maxLen
theorem SS.opn {w : World} {e : SV} {m : Nat} {R : Nat → List Nat} {P F fin A : List Nat} {ov : Bool} {v k : Nat} (h : SS w e m R (P ++ [v]) (F ++ [k]) fin A ov) : ∃ pg pc fg fc, Op2 w e m v k P F pg pc fg fc := by
  obtain ⟨c, ⟨vp, vf, va, kp, kf, ka, op, of, oa, d1, d2, d3⟩, _, _, _, _⟩ := h
  obtain ⟨pg, pc, rfl, p1, p2, p3, p4⟩ := op.last
  obtain ⟨fg, fc, rfl, f1, f2, f3, f4⟩ := of.last
  exact ⟨pg, pc, fg, fc, kp.q1, kf.q1, p3, f3, f4, ⟨p1, p2⟩, ⟨f1, f2⟩⟩
theorem SS.bump {w : World} {e : SV} {m : Nat} {R : Nat → List Nat} {P F fin A : List Nat} {ov : Bool} {v k pg pc fg fc : Nat} (h : SS w e m R (P ++ [v]) (F ++ [k]) fin A ov) (o : Op2 w e m v k P F pg pc fg fc) (hk : k ≤ 1048576) :
    SS (w.setCell ⟨fg, F.length, none⟩ (.int .i64 ((k : Int) + 1))) e m R (P ++ [v]) (F ++ [k + 1]) fin A ov ∧ BX e w (w.setCell ⟨fg, F.length, none⟩ (.int .i64 ((k : Int) + 1))) := by
  obtain ⟨c, ⟨vp, vf, va, kp, kf, ka, op, of, oa, d1, d2, d3⟩, ⟨cnt, mp, hcn⟩, lf, ko, ⟨x, kx, hx⟩⟩ := h
  have lo := c.lo
  obtain rfl : vf = .slice (some ⟨fg, 0, none⟩) (F.length + 1) fc := by
    have := kf.q1
    rw [o.kf] at this
    injection this with this
    exact this.symm
  have hg : e.B + 12 ≤ fg := (of.lt rfl).1
  have hb : But (fun b => b = fg) w (w.setCell ⟨fg, F.length, none⟩ (.int .i64 ((k : Int) + 1))) := But.st _ _ _ _
  have hX : ∀ b, b = fg → e.X b ∧ ¬ e.S b := fun b h => by unfold SV.X SV.S; omega
  have hput := of.put (by rw [il_len]; simp) F.length ((k : Int) + 1) (by unfold I64; omega)
  have e1 : (il (F ++ [k])).set F.length ((k : Int) + 1) = il (F ++ [k + 1]) := by
    have := il_set (F ++ [k]) F.length (k + 1)
    rw [Int.natCast_add] at this
    rw [show ((k : Int) + 1) = (k : Int) + ((1 : Nat) : Int) from rfl, this]
    simp
  rw [e1] at hput
  exact ⟨⟨c.but hb hX, ⟨vp, _, va, kp.but hb (by omega), kf.but hb (by omega), ka.but hb (by omega), op.but hb (fun g hg h => d1 g hg (by rw [h]; rfl)), hput.1, oa.but hb (fun g hg h => d3 g (by rw [h]; rfl) hg), d1, d2, d3⟩, ⟨cnt, mp.but hb (by omega), hcn⟩, lf.but hb (by omega), ko.but hb (by omega), ⟨x, kx.but hb (by omega), hx⟩⟩, BX.of hb (fun b h => (hX b h).1) (fun b h => (hX b h).2) (fun b h => .inr (h ▸ of.cls rfl))⟩
theorem SS.over {w : World} {e : SV} {m : Nat} {R : Nat → List Nat} {P F fin A : List Nat} {ov : Bool} (h : SS w e m R P F fin A ov) (b : Bool) :
    SS (w.setCell ⟨e.B + 9, 0, none⟩ (.bool b)) e m R P F fin A b ∧ BX e w (w.setCell ⟨e.B + 9, 0, none⟩ (.bool b)) := by
  obtain ⟨c, ⟨vp, vf, va, kp, kf, ka, op, of, oa, d1, d2, d3⟩, ⟨cnt, mp, hcn⟩, lf, ko, ⟨x, kx, hx⟩⟩ := h
  have lo := c.lo
  have hb : But (fun k => k = e.B + 9) w (w.setCell ⟨e.B + 9, 0, none⟩ (.bool b)) := But.st _ _ _ _
  have hX : ∀ k, k = e.B + 9 → e.X k ∧ ¬ e.S k := fun b h => by unfold SV.X SV.S; omega
  exact ⟨⟨c.but hb hX, ⟨vp, vf, va, kp.but hb (by omega), kf.but hb (by omega), ka.but hb (by omega), op.but hb (fun g hg h => by have := (op.lt hg).1; omega), of.but hb (fun g hg h => by have := (of.lt hg).1; omega), oa.but hb (fun g hg h => by have := (oa.lt hg).1; omega), d1, d2, d3⟩, ⟨cnt, mp.but hb (by omega), hcn⟩, lf.but hb (by omega), ko.set 0 _ rfl, ⟨x, kx.but hb (by omega), hx⟩⟩, BX.of hb (fun b h => (hX b h).1) (fun b h => (hX b h).2) (fun b h => .inl (by omega))⟩
/-- What is told of a cycle is put down. -/
theorem SS.tell {w : World} {e : SV} {m : Nat} {R : Nat → List Nat} {P F fin A : List Nat} {ov : Bool} (h : SS w e m R P F fin A ov) (hst : e.stop = true) (u : Value) :
    SS (w.setCell ⟨e.cy, 0, none⟩ u) e m R P F fin A ov ∧ BX e w (w.setCell ⟨e.cy, 0, none⟩ u) ∧ Bk (w.setCell ⟨e.cy, 0, none⟩ u) e.cy #[u] := by
  obtain ⟨c, ⟨vp, vf, va, kp, kf, ka, op, of, oa, d1, d2, d3⟩, ⟨cnt, mp, hcn⟩, lf, ko, ⟨x, kx, hx⟩⟩ := h
  have lo := c.lo
  have hb : But (fun k => k = e.cy) w (w.setCell ⟨e.cy, 0, none⟩ u) := But.st _ _ _ _
  have hX : ∀ k, k = e.cy → e.X k ∧ ¬ e.S k := fun b h => by unfold SV.X SV.S; omega
  have kx' : Bk (w.setCell ⟨e.cy, 0, none⟩ u) e.cy #[u] := kx.set 0 _ rfl
  exact ⟨⟨c.but hb hX, ⟨vp, vf, va, kp.but hb (by omega), kf.but hb (by omega), ka.but hb (by omega), op.but hb (fun g hg h => by have := (op.lt hg).1; omega), of.but hb (fun g hg h => by have := (of.lt hg).1; omega), oa.but hb (fun g hg h => by have := (oa.lt hg).1; omega), d1, d2, d3⟩, ⟨cnt, mp.but hb (by omega), hcn⟩, lf.but hb (by omega), ko.but hb (by omega), ⟨u, kx', fun h => by rw [hst] at h; cases h⟩⟩, BX.of hb (fun b h => (hX b h).1) (fun b h => (hX b h).2) (fun b h => .inl (by omega)), kx'⟩
theorem hgt_pop {P : List Nat} {v : Nat} (h : v ∉ P) (x : Int) (_ : I64 x) : (if x = (v : Int) then none else hgt (P ++ [v]) x) = hgt P x := by
  unfold hgt
  by_cases e : x = (v : Int)
  · subst e
    have h1 : ¬ (v : Int) ∈ il P := by
      unfold il
      intro k
      obtain ⟨y, hy, e⟩ := List.mem_map.1 k
      exact h (by have : y = v := by omega
                  exact this ▸ hy)
    rw [if_pos rfl, if_neg h1]
  · rw [if_neg e]
    by_cases k : x ∈ il P
    · have k2 : x ∈ il (P ++ [v]) := by rw [il_append]; exact List.mem_append_left _ k
      rw [if_pos k, if_pos k2]
      have hm : x.toNat ∈ P := by
        unfold il at k
        obtain ⟨y, hy, rfl⟩ := List.mem_map.1 k
        simpa using hy
      rw [List.idxOf_append, if_pos hm]
    · have k2 : ¬ x ∈ il (P ++ [v]) := by
        rw [il_append]
        intro h
        rcases List.mem_append.1 h with h | h
        · exact k h
        · simp [il] at h; exact e h
      rw [if_neg k, if_neg k2]
/-- The last one leaves the path. -/
theorem SS.pop {w w' : World} {e : SV} {m : Nat} {R : Nat → List Nat} {P F fin A : List Nat} {ov : Bool} {v k pg pc fg fc cnt : Nat} (h : SS w e m R (P ++ [v]) (F ++ [k]) fin A ov) (o : Op2 w e m v k P F pg pc fg fc)
    (hb : But (fun b => b = e.B + 3 ∨ b = e.B + 4 ∨ b = e.B + 5 ∨ b = e.B + 7) w w') (kp' : Bk w' (e.B + 3) #[.slice (some ⟨pg, 0, none⟩) P.length pc]) (kf' : Bk w' (e.B + 4) #[.slice (some ⟨fg, 0, none⟩) F.length fc])
    (hm : PM w' (e.B + 5) cnt (hgt P)) (hcn : cnt ≤ P.length + 1 + fin.length) (lf' : Bk w' (e.B + 7) (lfs m (fin ++ [v]))) : SS w' e m R P F (fin ++ [v]) A ov ∧ BX e w w' := by
  obtain ⟨c, ⟨vp, vf, va, kp, kf, ka, op, of, oa, d1, d2, d3⟩, _, lf, ko, ⟨x, kx, hx⟩⟩ := h
  have lo := c.lo
  obtain rfl : vf = .slice (some ⟨fg, 0, none⟩) (F.length + 1) fc := by
    have := kf.q1
    rw [o.kf] at this
    injection this with this
    exact this.symm
  obtain rfl : vp = .slice (some ⟨pg, 0, none⟩) (P.length + 1) pc := by
    have := kp.q1
    rw [o.kp] at this
    injection this with this
    exact this.symm
  have hX : ∀ b, (b = e.B + 3 ∨ b = e.B + 4 ∨ b = e.B + 5 ∨ b = e.B + 7) → e.X b ∧ ¬ e.S b := fun b h => by unfold SV.X SV.S; omega
  have tp := (op.but hb (fun g hg h => by have := (op.lt hg).1; omega)).take P.length (by rw [il_len]; simp)
  have tf := (of.but hb (fun g hg h => by have := (of.lt hg).1; omega)).take F.length (by rw [il_len]; simp)
  rw [il_take] at tp tf
  have ep : (P ++ [v]).take P.length = P := by simp
  have ef : (F ++ [k]).take F.length = F := by simp
  rw [ep] at tp
  rw [ef] at tf
  refine ⟨⟨c.but hb hX, ⟨_, _, va, kp', kf', ka.but hb (by omega), tp, tf, oa.but hb (fun g hg h => by have := (oa.lt hg).1; omega), d1, d2, d3⟩, ⟨cnt, hm, by simp; omega⟩, lf', ko.but hb (by omega), ⟨x, kx.but hb (by omega), hx⟩⟩, BX.of hb (fun b h => (hX b h).1) (fun b h => (hX b h).2) (fun b h => .inl (by omega))⟩
/-- What left it is put into the row. -/
theorem SS.put {w w' : World} {e : SV} {m : Nat} {R : Nat → List Nat} {P F fin A : List Nat} {ov : Bool} {t : Nat} {va va' : Value} (h : SS w e m R P F fin A ov) (ka : Bk w e.ab #[va]) (hb : But (fun b => b = e.ab ∨ va.ownBlock = some b) w w')
    (ka' : Bk w' e.ab #[va']) (oa' : OwnI w' (e.B + 12) va' (il (A ++ [t]))) (hl : ∀ b, va'.ownBlock = some b → va.ownBlock = some b ∨ w.heap.size ≤ b) : SS w' e m R P F fin (A ++ [t]) ov ∧ BX e w w' := by
  obtain ⟨c, ⟨vp, vf, va2, kp, kf, ka2, op, of, oa, d1, d2, d3⟩, ⟨cnt, mp, hcn⟩, lf, ko, ⟨x, kx, hx⟩⟩ := h
  have lo := c.lo
  obtain rfl : va2 = va := by
    have := ka2.q1
    rw [ka.q1] at this
    injection this with this
    exact this.symm
  have hX : ∀ b, (b = e.ab ∨ va2.ownBlock = some b) → e.X b ∧ ¬ e.S b ∧ (b < e.B → b = e.ab) ∧ (e.B ≤ b → e.B + 12 ≤ b) := fun b h => by
    have : b = e.ab ∨ e.B + 12 ≤ b := h.imp id (fun h => (oa.lt h).1)
    unfold SV.X SV.S
    omega
  have hn : ∀ b, e.B ≤ b → b < e.B + 12 → ¬ (b = e.ab ∨ va2.ownBlock = some b) := fun b h1 h2 h => by have := hX b h; omega
  refine ⟨⟨c.but hb (fun b h => ⟨(hX b h).1, (hX b h).2.1⟩), ⟨vp, vf, va', kp.but hb (hn _ (by omega) (by omega)), kf.but hb (hn _ (by omega) (by omega)), ka', op.but hb (fun g hg h => ?_), of.but hb (fun g hg h => ?_), oa', d1, fun b h1 h2 => ?_, fun b h1 h2 => ?_⟩, ⟨cnt, mp.but hb (hn _ (by omega) (by omega)), hcn⟩, lf.but hb (hn _ (by omega) (by omega)), ko.but hb (hn _ (by omega) (by omega)), ⟨x, kx.but hb (fun h => ?_), hx⟩⟩, BX.of hb (fun b h => (hX b h).1) (fun b h => (hX b h).2.1) (fun b h => h.elim (fun h => .inl (by omega)) (fun h => .inr (oa.cls h)))⟩
  · rcases h with h | h
    · have := (op.lt hg).1; omega
    · exact d2 g hg h
  · rcases h with h | h
    · have := (of.lt hg).1; omega
    · exact d3 g hg h
  · rcases hl b h2 with h | h
    · exact d2 b h1 h
    · have := (op.lt h1).2; omega
  · rcases hl b h2 with h | h
    · exact d3 b h1 h
    · have := (of.lt h1).2; omega
  · have := hX _ h; omega
end Go.Proofs.Ytnlgeiofkfkhbaa
