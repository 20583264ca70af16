/-
  Texts that are put behind texts, at a step of a region that draws its order. Conditions: bounds.
-/
import Derived.Test.YtcbhjhkmmdcdeaaDoorPG11a
import Derived.Deep.AppendLies
import Derived.Deep.RegionHeld3
namespace Go.Proofs.YtcbhjhkmmdcdeaaDoor
open Go.RowKit

theorem strs_cat (xs ys : List (List UInt8)) : strs (xs ++ ys) = strs xs ++ strs ys := by simp [strs]
theorem run_app_none {w : World} {B : Nat} {v : Value} {xs : List (List UInt8)} (hown : OwnS w B v xs) (ty : TypeId) (ao : Option Addr) (c : Nat) :
    (Builtin.append_ #[26, 26] ty #[v, .slice ao 0 c]).run Tryd.prog w = .ok v w := by
  obtain ⟨i0, hi, hz0, hz1, hz2⟩ := info_parts infoS
  rcases hown.2 with ⟨rfl, _⟩ | ⟨g, cap, cur, rfl, _, _, hnc, _⟩
  · cases ao <;> simp [Builtin.append_, run_underlying Tryd.underlying26, sizeOf, typeInfo, hi, Builtin.lenOf, Builtin.firstCells, loadCells, loadCellsFrom]
  · cases ao <;> simp [Builtin.append_, run_underlying Tryd.underlying26, sizeOf, typeInfo, hi, Builtin.lenOf, Builtin.firstCells, hnc, storeCells, loadCells, loadCellsFrom]
theorem step_app {w : World} {ops : Array Oper} {o : Oper} {a : Act} {K : Act → World → Prop} {Q : Exit → Act → World → Prop} {E : Prop} (hgd : o.guard = none) (s x : Operand)
    (ho : o.op = .call { callee := .builtin .append, args := #[s, x], argTypes := #[26, 26] }) (base : Nat) (v : Value) (xs : List (List UInt8)) (hs : a.eval s = v) (hown : OwnS w base v xs)
    (ys : List (List UInt8)) (p : Value) (hx : a.eval x = p) (hR : SRow w p ys) (hb : xs.length + ys.length ≤ 8796093022207) (hbase : base ≤ w.heap.size)
    (h : ∀ v' w', OwnS w' base v' (xs ++ ys) → w.grownBy w' v.ownBlock → (∀ g, v'.ownBlock = some g → v.ownBlock = some g ∨ w.heap.size ≤ g) → K (a.put o.dst v') w') : if Region.wanted o (yielded ops a.tmps) = true then Oper.wp Tryd.prog o a w K Q else E := by
  obtain ⟨i0, hi, hz0, hz1, hz2⟩ := info_parts infoS
  have none_case : ∀ ao c, p = .slice ao 0 c → ys = [] → if Region.wanted o (yielded ops a.tmps) = true then Oper.wp Tryd.prog o a w K Q else E := by
    intro ao c hp hy
    have hw : Region.wanted o (yielded ops a.tmps) = true := by simp [Region.wanted, hgd]
    rw [if_pos hw]
    unfold Oper.wp execOp
    simp only [ho, resolve, invoke, builtin, Sem.run_bind, Sem.run_pure, Result.andThen_ok, List.map_toArray, List.map_cons, List.map_nil, hs, hx, hp, run_app_none hown]
    exact h v w (by rw [hy, List.append_nil]; exact hown) ⟨rfl, rfl, rfl, Nat.le_refl _, fun _ _ _ => rfl⟩ (fun g hg => .inl hg)
  rcases hR with ⟨hy, ao, c, hp⟩ | ⟨b, off, c, hp, hc⟩
  · exact none_case ao c hp hy
  · by_cases hm : ys = []
    · exact none_case _ c (by rw [hp, hm]; rfl) hm
    · have hpos : 0 < ys.length := List.length_pos_iff.2 hm
      refine step_append_lies (P := Tryd.prog) w hgd s x 26 ho base 9 i0 (.string ⟨#[]⟩) 1 16 Tryd.underlying26 hi hz0 hz1 hz2 rfl (by decide) v xs.length (strs xs) hs hown ⟨b, off, none⟩ ys.length c (strs ys) (by rw [hx, hp]) (by rw [strs_len]; omega) (fun j u hj => ?_) (fun u hu => ?_) hpos (by unfold maxLen; omega) (by omega) hbase w.heap.size rfl ?_
      · have hlt : j < ys.length := by have := (List.getElem?_eq_some_iff.1 hj).1; rwa [strs_len] at this
        rw [add_at, hc j hlt, ← hj]
        simp [strs, hlt]
      · simp only [strs, List.mem_map] at hu
        obtain ⟨i, _, rfl⟩ := hu
        rfl
      · intro g cap w' h1 h2 h3 _
        refine h _ w' ?_ h2 ?_
        · unfold OwnS
          rw [strs_cat, List.length_append]
          exact h1
        · intro g' hg'
          have : g' = g := by simpa [Value.ownBlock] using hg'.symm
          subst this
          rcases h3 with h3 | h3
          · exact .inl h3
          · exact .inr (by omega)
theorem OwnS.e1 (X : World) (t : TypeId) (ht : t = 9) : OwnS (X.alloc (.cells #[] t)) X.heap.size (.slice (some ⟨X.heap.size, 0, none⟩) 0 0) [] := by
  subst ht
  exact World.ownsRow_made X #[] 0 (Nat.le_refl _) (by simp [maxLen]) rfl
theorem OwnS.e2 (X : World) (o : Obj) (t : TypeId) (ht : t = 9) : OwnS ((X.alloc o).alloc (.cells #[] t)) X.heap.size (.slice (some ⟨X.heap.size + 1, 0, none⟩) 0 0) [] := by
  subst ht
  have := World.ownsRow_made (base := X.heap.size) (e := 9) (size := 1) (X.alloc o) #[] 0 (by simp) (by simp [maxLen]) rfl
  simpa [OwnS, strs] using this
theorem OwnS.dr {w : World} {B : Nat} {v : Value} {xs : List (List UInt8)} (h : OwnS w B v xs) : OwnS w.drew B v xs := h.below (bl_d (Below.refl _ _))
theorem OwnS.al {w : World} {B : Nat} {v : Value} {xs : List (List UInt8)} (h : OwnS w B v xs) (o : Obj) : OwnS (w.alloc o) B v xs := h.below (bl_a (Below.refl _ _) _)
theorem OwnS.bel {w w' : World} {B : Nat} {v : Value} {xs : List (List UInt8)} (h : OwnS w B v xs) (hb : Below w.heap.size w w') : OwnS w' B v xs := h.below hb
/-- A block of seven zeros that is not the slice's own. -/
def Yk (w : World) (yb : Nat) (v : Value) : Prop := C7 w yb (.int .i64 0) (.bool false) (.string ⟨#[]⟩) (.int .i64 0) (.string ⟨#[]⟩) (.slice none 0 0) (.slice none 0 0) ∧ ∀ g, v.ownBlock = some g → g ≠ yb
theorem Yk.dr {w : World} {yb : Nat} {v : Value} (h : Yk w yb v) : Yk w.drew yb v := ⟨h.1.blk rfl, h.2⟩
theorem Yk.new1 (X : World) (t t2 : TypeId) : Yk ((X.alloc (.cells #[.int .i64 0, .bool false, .string ⟨#[]⟩, .int .i64 0, .string ⟨#[]⟩, .slice none 0 0, .slice none 0 0] t)).alloc (.cells #[] t2)) X.heap.size (.slice (some ⟨X.heap.size + 1, 0, none⟩) 0 0) :=
  ⟨(C7.new X _ _ _ _ _ _ _ t).al _, fun g hg => by simp [Value.ownBlock] at hg; omega⟩
theorem Yk.new2 (X : World) (t t2 : TypeId) : Yk ((X.alloc (.cells #[] t2)).alloc (.cells #[.int .i64 0, .bool false, .string ⟨#[]⟩, .int .i64 0, .string ⟨#[]⟩, .slice none 0 0, .slice none 0 0] t)) (X.heap.size + 1) (.slice (some ⟨X.heap.size, 0, none⟩) 0 0) :=
  ⟨by simpa using C7.new (X.alloc (.cells #[] t2)) (.int .i64 0) (.bool false) (.string ⟨#[]⟩) (.int .i64 0) (.string ⟨#[]⟩) (.slice none 0 0) (.slice none 0 0) t, fun g hg => by simp [Value.ownBlock] at hg; omega⟩
theorem Yk.new3 {X : World} {B : Nat} {v : Value} {xs : List (List UInt8)} (h : OwnS X B v xs) (t : TypeId) : Yk (X.alloc (.cells #[.int .i64 0, .bool false, .string ⟨#[]⟩, .int .i64 0, .string ⟨#[]⟩, .slice none 0 0, .slice none 0 0] t)) X.heap.size v :=
  ⟨C7.new X _ _ _ _ _ _ _ t, fun g hg => by have := (World.ownsRow.lt h g hg).2; omega⟩
theorem Yk.app {X w' : World} {yb : Nat} {v v' : Value} (h : Yk X yb v) (hg : X.grownBy w' v.ownBlock) (hn : ∀ g, v'.ownBlock = some g → v.ownBlock = some g ∨ X.heap.size ≤ g) : Yk w' yb v' :=
  ⟨h.1.blk (hg.block yb h.1.lt (fun e => h.2 yb e.symm rfl)), fun g hg' e => by
    subst e
    rcases hn _ hg' with h3 | h3
    · exact h.2 _ h3 rfl
    · have := h.1.lt; omega⟩
theorem Yk.got {X w' : World} (yb : Nat) {v v' : Value} {P : Prop} (hg : X.grownBy w' v.ownBlock) (hn : ∀ g, v'.ownBlock = some g → v.ownBlock = some g ∨ X.heap.size ≤ g) (h : Yk X yb v) (k : Yk w' yb v' → P) : P := k (h.app hg hn)
/-- What append leaves below a world. -/
theorem app_bel {W X w' : World} {B : Nat} {v : Value} {xs : List (List UInt8)} (hb : Below W.heap.size W X) (ho : OwnS X B v xs) (hB : W.heap.size ≤ B) (hg : X.grownBy w' v.ownBlock) : Below W.heap.size W w' :=
  hb.grown hg hb.size (fun j hj => Nat.le_trans hB (World.ownsRow.lt ho j hj).1)
/-- The same, told from a world below. -/
theorem step_appW (W0 : World) {w : World} {ops : Array Oper} {o : Oper} {a : Act} {K : Act → World → Prop} {Q : Exit → Act → World → Prop} {E : Prop} (hgd : o.guard = none) (s x : Operand)
    (ho : o.op = .call { callee := .builtin .append, args := #[s, x], argTypes := #[26, 26] }) (v : Value) (xs : List (List UInt8)) (hs : a.eval s = v)
    (ys : List (List UInt8)) (p : Value) (hx : a.eval x = p) (hR : ∀ w', Below W0.heap.size W0 w' → SRow w' p ys) (hb : xs.length + ys.length ≤ 8796093022207) (hown : OwnS w W0.heap.size v xs) (hbel : Below W0.heap.size W0 w)
    (h : ∀ v' w', OwnS w' W0.heap.size v' (xs ++ ys) → w.grownBy w' v.ownBlock → (∀ g, v'.ownBlock = some g → v.ownBlock = some g ∨ w.heap.size ≤ g) → Below W0.heap.size W0 w' → K (a.put o.dst v') w') : if Region.wanted o (yielded ops a.tmps) = true then Oper.wp Tryd.prog o a w K Q else E :=
  step_app hgd s x ho W0.heap.size v xs hs hown ys p hx (hR w hbel) hb hbel.size fun v' w' h1 h2 h3 => h v' w' h1 h2 h3 (app_bel hbel hown (Nat.le_refl _) h2)
end Go.Proofs.YtcbhjhkmmdcdeaaDoor
