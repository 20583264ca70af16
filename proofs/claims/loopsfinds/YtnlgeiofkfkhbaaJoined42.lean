/-
  eachPart: where its range over a function stands. No condition.
-/
import Derived.Test.YtnlgeiofkfkhbaaJoined38
import Derived.Test.YtnlgeiofkfkhbaaJoined40
import Derived.Test.YtnlgeiofkfkhbaaJoined41
namespace Go.Proofs.Ytnlgeiofkfkhbaa
open Go.RowKit Go.Maps Lg

/-- What a visit does: whatever closure. -/
structure VisOK (vis : FuncId) (caps : Array Value) (lo m : Nat) (J : List (List Nat) → World → Prop) : Prop where
 ent : ∀ args w, (callFunc vis args).run Try.prog w = .ok (.enter vis args) w
 st : ∀ Ls w w', J Ls w → But (fun b => lo ≤ b) w w' → J Ls w'
 run : ∀ Ls D cv w, J Ls w → D ≠ [] → (∀ p ∈ D, p < m) → D.length ≤ m → II w (fun b => b < lo) (il D) cv → lo ≤ w.heap.size → Calls Try.prog vis (#[cv] ++ caps) w fun r w' => r = .returned (.tuple #[]) ∧ J (Ls ++ [D]) w' ∧ But (fun b => b < lo) w w'
/-- A block of cells that is no row of ints. -/
def Bq (w : World) (b : Nat) (cs : Array Value) : Prop := ∃ T, T ≠ 3 ∧ w.heap[b]? = some (.cells cs T (0, 0))
theorem Bq.bk {w : World} {b : Nat} {cs : Array Value} (h : Bq w b cs) : Bk w b cs := ⟨h.choose, h.choose_spec.2⟩
theorem Bq.but {w w' : World} {b : Nat} {cs : Array Value} {X : Nat → Prop} (h : Bq w b cs) (hb : But X w w') (hx : ¬ X b) : Bq w' b cs := by
 obtain ⟨T, h1, h2⟩ := h
 exact ⟨T, h1, (hb.block b (Array.getElem?_eq_some_iff.1 h2).1 hx).trans h2⟩
theorem Bq.gr {w w' : World} {b : Nat} {cs : Array Value} {o : Option Nat} (h : Bq w b cs) (g : w.grownBy w' o) (ho : o ≠ some b) : Bq w' b cs := by
 obtain ⟨T, h1, h2⟩ := h
 exact ⟨T, h1, (g.block b (Array.getElem?_eq_some_iff.1 h2).1 (fun e => ho e.symm)).trans h2⟩
theorem Bq.kf {w w' : World} {b N : Nat} {cs : Array Value} (h : Bq w b cs) (k : KF N w w') (hN : N ≤ b) : Bq w' b cs := by
 obtain ⟨T, h1, h2⟩ := h
 exact ⟨T, h1, k b _ hN h2 (fun cs f e => by injection e with _ e _; exact h1 e)⟩
/-- Where the range stands. -/
structure EpI (T : Nat → List Nat) (m lo g t9 : Nat) (e2 : SV) (vis : Value) (J : List (List Nat) → World → Prop) (l don D : List Nat) (Ls : List (List Nat)) (W : World) : Prop where
 run : Prun T m l don Ls
 fin : Fin T m false don
 ss : SS W e2 m T [] [] don D false
 mx : MX W (fun b => b < lo ∨ e2.X b) g m T
 kg : Bk W e2.B #[.slice (some ⟨g, 0, none⟩) m m]
 kv : Bk W (lo + 1) #[vis]
 k9 : Bq W t9 #[e2.fn]
 kt : ∃ cs, Bq W (t9 + 1) cs
 j : J Ls W
/-- .. behind the search of an item v. -/
structure EpM (T : Nat → List Nat) (m lo g t9 : Nat) (e2 : SV) (vis : Value) (J : List (List Nat) → World → Prop) (l don D : List Nat) (Ls : List (List Nat)) (v : Nat) (W : World) : Prop where
 run : Prun T m l don Ls
 top : top T false m v don = .ok (don ++ D)
 fin : Fin T m false (don ++ D)
 ss : SS W e2 m T [] [] (don ++ D) D false
 mx : MX W (fun b => b < lo ∨ e2.X b) g m T
 kg : Bk W e2.B #[.slice (some ⟨g, 0, none⟩) m m]
 kv : Bk W (lo + 1) #[vis]
 k9 : Bq W t9 #[e2.fn]
 kt : ∃ cs, Bq W (t9 + 1) cs
 j : J Ls W
/-- Where the variables lie. -/
structure EpL (lo t9 : Nat) (e2 : SV) : Prop where
 ab : e2.ab = lo + 3
 cy : e2.cy = lo + 2
 B : lo + 4 ≤ e2.B
 t : e2.B + 12 ≤ t9
theorem EpI.turn {T : Nat → List Nat} {m lo g t9 : Nat} {e2 : SV} {vis : Value} {J : List (List Nat) → World → Prop} {l don D : List Nat} {Ls : List (List Nat)} {W W' : World} {row : Option Nat} (h : EpI T m lo g t9 e2 vis J l don D Ls W) (hj : ∀ Ls w w', J Ls w → But (fun b => lo ≤ b) w w' → J Ls w') (hlo : lo ≤ e2.B)
  (hg : W.grownBy W' row) (hr : ∀ r, row = some r → e2.B + 12 ≤ r ∧ ∃ o : Obj, W.heap[r]? = some o ∧ o.isCells = false) : EpI T m lo g t9 e2 vis J l don D Ls W' := by
 have hb := But.gr hg
 have kb : ∀ {b : Nat} {cs : Array Value}, Bk W b cs → row ≠ some b := fun k e0 => by
  obtain ⟨o, h1, h2⟩ := (hr _ e0).2
  rw [k.isC h1] at h2
  cases h2
 exact ⟨h.run, h.fin, h.ss.turn hg hr, h.mx.but (hb.more (fun b h => .inr (.inl (by have := (hr _ h).1; omega)))), h.kg.gr hg (kb h.kg), h.kv.gr hg (kb h.kv), h.k9.gr hg (kb h.k9.bk), h.kt.imp (fun cs k => k.gr hg (kb k.bk)), hj _ _ _ h.j (hb.more (fun b h => by have := (hr _ h).1; omega))⟩
theorem EpI.own {T : Nat → List Nat} {m lo g t9 N : Nat} {e2 : SV} {vis : Value} {J : List (List Nat) → World → Prop} {α : Type} (f : α → Nat) (hj : ∀ Ls w w', J Ls w → But (fun b => lo ≤ b) w w' → J Ls w') (hlo : lo ≤ e2.B) (hN : e2.B + 12 ≤ N) : OwnFrom N (fun (pre : List α) W => ∃ don D Ls, EpI T m lo g t9 e2 vis J (pre.map f) don D Ls W) :=
 fun _ _ _ _ ⟨don, D, Ls, h⟩ hg hr => ⟨don, D, Ls, h.turn hj hlo hg (fun r e => ⟨Nat.le_trans hN (hr r e).1, (hr r e).2⟩)⟩
/-- The row of the part. -/
theorem EpI.cell {T : Nat → List Nat} {m lo g t9 : Nat} {e2 : SV} {vis : Value} {J : List (List Nat) → World → Prop} {l don D : List Nat} {Ls : List (List Nat)} {W : World} (h : EpI T m lo g t9 e2 vis J l don D Ls W) : ∃ ao n cap, Bk W e2.ab #[.slice ao n cap] ∧ n ≤ cap := by
 obtain ⟨vp, vf, va, kp, kf, ka, op, of, oa, d1, d2, d3⟩ := h.ss.ro
 obtain ⟨ao, cap, rfl, hle, -⟩ := oa.form
 exact ⟨ao, _, cap, ka, hle⟩
/-- It is cut to none. -/
theorem EpI.cut {T : Nat → List Nat} {m lo g t9 : Nat} {e2 : SV} {vis : Value} {J : List (List Nat) → World → Prop} {l don D : List Nat} {Ls : List (List Nat)} {W : World} {ao : Option Addr} {n cap : Nat} (h : EpI T m lo g t9 e2 vis J l don D Ls W) (hL : EpL lo t9 e2) (hj : ∀ Ls w w', J Ls w → But (fun b => lo ≤ b) w w' → J Ls w')
  (ka : Bk W e2.ab #[.slice ao n cap]) : EpI T m lo g t9 e2 vis J l don [] Ls (W.setCell ⟨e2.ab, 0, none⟩ (.slice ao 0 cap)) ∧ BX e2 W (W.setCell ⟨e2.ab, 0, none⟩ (.slice ao 0 cap)) := by
 obtain ⟨s1, s2⟩ := h.ss.cut ka
 have hb : But (fun k => k = e2.ab) W (W.setCell ⟨e2.ab, 0, none⟩ (.slice ao 0 cap)) := But.st _ _ _ _
 have h1 := hL.ab
 have h2 := hL.B
 have h3 := hL.t
 exact ⟨⟨h.run, h.fin, s1, h.mx.but (s2.but.more fun b hb => .inr hb), h.kg.but hb (by omega), h.kv.but hb (by omega), h.k9.but hb (by omega), h.kt.imp (fun cs k => k.but hb (by omega)), hj _ _ _ h.j (hb.more fun b h => by omega)⟩, s2⟩
/-- Behind the search. -/
theorem EpI.mid {T : Nat → List Nat} {m lo g t9 : Nat} {e2 : SV} {vis : Value} {J : List (List Nat) → World → Prop} {l don D : List Nat} {Ls : List (List Nat)} {W W' : World} {v : Nat} (h : EpI T m lo g t9 e2 vis J l don [] Ls W) (hL : EpL lo t9 e2) (hj : ∀ Ls w w', J Ls w → But (fun b => lo ≤ b) w w' → J Ls w')
  (htop : top T false m v don = .ok (don ++ D)) (hfin : Fin T m false (don ++ D)) (hx : BX e2 W W') (hs : SS W' e2 m T [] [] (don ++ D) D false) : EpM T m lo g t9 e2 vis J l don D Ls v W' := by
 have h1 := hL.ab
 have h2 := hL.B
 have h3 := hL.t
 have h4 := hL.cy
 have hX : ∀ b, e2.X b → lo + 2 ≤ b := fun b hb => by unfold SV.X at hb; omega
 obtain ⟨T1, kT⟩ := h.kg
 exact ⟨h.run, htop, hfin, hs, h.mx.but (hx.but.more fun b hb => .inr hb), ⟨T1, hx.kr _ kT⟩, h.kv.but hx.but (fun hb => by have := hX _ hb; omega), h.k9.kf hx.kf h3, h.kt.imp (fun cs k => k.kf hx.kf (by omega)), hj _ _ _ h.j (hx.but.more fun b hb => by have := hX b hb; omega)⟩
/-- Nothing new. -/
theorem EpM.skip {T : Nat → List Nat} {m lo g t9 : Nat} {e2 : SV} {vis : Value} {J : List (List Nat) → World → Prop} {l don : List Nat} {Ls : List (List Nat)} {W : World} {v : Nat} (h : EpM T m lo g t9 e2 vis J l don [] Ls v W) : EpI T m lo g t9 e2 vis J (l ++ [v]) don [] Ls W := by
 have hs := h.ss
 have hf := h.fin
 rw [List.append_nil] at hs hf
 exact ⟨h.run.skip h.top, hf, hs, h.mx, h.kg, h.kv, h.k9, h.kt, h.j⟩
/-- The part, as it is handed on. -/
theorem EpM.part {T : Nat → List Nat} {m lo g t9 : Nat} {e2 : SV} {vis : Value} {J : List (List Nat) → World → Prop} {l don D : List Nat} {Ls : List (List Nat)} {W : World} {v : Nat} (h : EpM T m lo g t9 e2 vis J l don D Ls v W) (hL : EpL lo t9 e2) : ∃ ao cap, Bk W e2.ab #[.slice ao D.length cap] ∧ II W (fun b => b < lo) (il D) (.slice ao D.length cap) := by
 obtain ⟨vp, vf, va, kp, kf, ka, op, of, oa, d1, d2, d3⟩ := h.ss.ro
 obtain ⟨ao, cap, rfl, -⟩ := oa.form
 rw [il_len] at ka oa
 exact ⟨ao, cap, ka, oa.ii _ (fun b hb => by have := (oa.lt hb).1; have := hL.B; omega)⟩
/-- The part has been handed on. -/
theorem EpM.vis {T : Nat → List Nat} {m lo g t9 : Nat} {e2 : SV} {vis : Value} {J : List (List Nat) → World → Prop} {l don D : List Nat} {Ls : List (List Nat)} {W W' : World} {v : Nat} (h : EpM T m lo g t9 e2 vis J l don D Ls v W) (hL : EpL lo t9 e2) (hD : D ≠ []) (hj : J (Ls ++ [D]) W') (hb : But (fun b => b < lo) W W') : EpI T m lo g t9 e2 vis J (l ++ [v]) (don ++ D) D (Ls ++ [D]) W' := by
 have h1 := hL.ab
 have h2 := hL.B
 have h3 := hL.t
 have h4 := hL.cy
 exact ⟨h.run.new hD h.top, h.fin, h.ss.far ⟨by omega, by omega, by omega⟩ h.kg h.mx hb, h.mx.but (hb.more fun b hb => .inl hb), h.kg.but hb (by omega), h.kv.but hb (by omega), h.k9.but hb (by omega), h.kt.imp (fun cs k => k.but hb (by omega)), hj⟩
/-- What a round keeps. -/
theorem BX.keeps {e : SV} {w w' : World} (h : BX e w w') {N : Nat} (hN : e.B + 12 ≤ N) : KeepsFrom N w w' :=
 ⟨h.but.size, fun k o hk ho hc => h.kf k o (by omega) ho (fun cs f e => by rw [e] at hc; cases hc)⟩
theorem But.keeps {X : Nat → Prop} {w w' : World} (h : But X w w') {N : Nat} (hN : ∀ b, X b → b < N) : KeepsFrom N w w' :=
 ⟨h.size, fun k o hk ho _ => (h.block k (Array.getElem?_eq_some_iff.1 ho).1 (fun hx => by have := hN k hx; omega)).trans ho⟩
/-- .. of what the iterator reads. -/
theorem BX.kb {e : SV} {w w' : World} (h : BX e w w') {x y : Nat} (hx : e.B + 12 ≤ x) (hq : ∃ cs, Bq w x cs) (hy : ¬ e.X y) (hs : y < w.heap.size) : Kb x y w w' := by
 obtain ⟨cs, T, h1, h2⟩ := hq
 exact ⟨(h.kf x _ hx h2 (fun cs f e => by injection e with _ e _; exact h1 e)).trans h2.symm, h.but.block y hs hy⟩
theorem But.kb {X : Nat → Prop} {w w' : World} (h : But X w w') {x y : Nat} (hx : ¬ X x ∧ x < w.heap.size) (hy : ¬ X y ∧ y < w.heap.size) : Kb x y w w' := ⟨h.block x hx.2 hx.1, h.block y hy.2 hy.1⟩
theorem Kb.trans {x y : Nat} {a b c : World} (h : Kb x y a b) (k : Kb x y b c) : Kb x y a c := ⟨k.1.trans h.1, k.2.trans h.2⟩
end Go.Proofs.Ytnlgeiofkfkhbaa
