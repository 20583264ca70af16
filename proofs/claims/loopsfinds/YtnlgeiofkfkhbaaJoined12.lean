/-
  Going depth first, as it lies in memory: a map of heights, a row of truths, rows of rows, the variables of a search. Conditions: there is room.
-/
import Derived.Test.YtnlgeiofkfkhbaaJoined5
import Derived.Test.YtnlgeiofkfkhbaaJoined11
import Derived.Maps.OwnOps
import Derived.Maps.OwnSet
namespace Go.Proofs.Ytnlgeiofkfkhbaa
open Go.RowKit Go.Maps Lg
attribute [local go_sem] setCell_drewN alloc_drewN

def il (l : List Nat) : List Int := l.map fun (k : Nat) => (k : Int)
theorem il_len (l : List Nat) : (il l).length = l.length := by simp [il]
theorem il_append (a b : List Nat) : il (a ++ b) = il a ++ il b := by simp [il]
theorem il_at {l : List Nat} {i : Nat} (h : i < l.length) : ia (il l) i = (l[i] : Int) := by
 unfold ia il
 rw [List.getD_eq_getElem?_getD, List.getElem?_map, List.getElem?_eq_getElem h]; rfl
theorem il_take (l : List Nat) (k : Nat) : (il l).take k = il (l.take k) := by simp [il, List.map_take]
theorem il_set (l : List Nat) (k y : Nat) : (il l).set k (y : Int) = il (l.set k y) := by simp [il, List.map_set]
theorem But.more {X X' : Nat → Prop} {w w' : World} (h : But X' w w') (hx : ∀ b, X' b → X b) : But X w w' := ⟨h.os, h.tape, h.output, h.size, fun b hb hX => h.block b hb (fun e => hX (hx b e))⟩
theorem OwnI.but {w w' : World} {B : Nat} {v : Value} {l : List Int} {X : Nat → Prop} (h : OwnI w B v l) (hb : But X w w') (hx : ∀ g, v.ownBlock = some g → ¬ X g) : OwnI w' B v l := h.blk fun g hg => hb.block g (h.lt hg).2 (hx g hg)
theorem But.gr {w w' : World} {o : Option Nat} (g : w.grownBy w' o) : But (fun b => o = some b) w w' := (But.refl _ w).grown g (fun _ e => Or.inl e)
theorem But.st (w : World) (b i : Nat) (u : Value) : But (fun k => k = b) w (w.setCell ⟨b, i, none⟩ u) := (But.refl (fun k => k = b) w).set (p := ⟨b, i, none⟩) (Or.inl rfl) u

/-- A map from numbers to numbers, not at all of them. -/
def PM (w : World) (mb cnt : Nat) (h : Int → Option Int) : Prop := ∃ D : DataW Unit, w.ownsMap Try.prog 3 (plainElem Try.prog 3) mb cnt D ∧ ∀ x, I64 x → Maps.has D (.int .i64 x) = (h x).isSome ∧ ∀ y, h x = some y → D.atKey (.int .i64 x) (.lit (.int .i64 0)) = .lit (.int .i64 y)
theorem wfi {x : Int} (h : I64 x) : (Lit.int .i64 x).wf = true := WalkArith.wf_i64 (by unfold I64 at h; omega)
theorem lawI : Keyed Try.prog 3 := int_keyed Try.underlying3
theorem zeroI (w : World) : (zeroValue 3).run Try.prog w = .ok (.int .i64 0) w := by kernel_rfl
theorem PM.made (w : World) : PM (w.alloc (.map #[] 0)) w.heap.size 0 (fun _ => none) := ⟨.map [], World.ownsMap_made _ _ _ _, fun _ _ => ⟨rfl, fun y h => by cases h⟩⟩
theorem PM.blk {w w' : World} {mb cnt : Nat} {c : Int → Option Int} (h : PM w mb cnt c) (hb : w'.heap[mb]? = w.heap[mb]?) : PM w' mb cnt c := by
 obtain ⟨D, ⟨es, clock, h1, h2⟩, h3⟩ := h
 exact ⟨D, ⟨es, clock, hb.trans h1, h2⟩, h3⟩
theorem PM.lt {w : World} {mb cnt : Nat} {c : Int → Option Int} (h : PM w mb cnt c) : mb < w.heap.size := by
 obtain ⟨D, h1, _⟩ := h
 exact h1.lt
theorem PM.but {w w' : World} {mb cnt : Nat} {c : Int → Option Int} {X : Nat → Prop} (h : PM w mb cnt c) (hb : But X w w') (hx : ¬ X mb) : PM w' mb cnt c := h.blk (hb.block mb h.lt hx)
theorem PM.ext {w : World} {mb cnt : Nat} {c d : Int → Option Int} (h : PM w mb cnt c) (e : ∀ x, I64 x → c x = d x) : PM w mb cnt d := by
 obtain ⟨D, h1, h2⟩ := h
 exact ⟨D, h1, fun x hx => by rw [← e x hx]; exact h2 x hx⟩
theorem wpList_look_pm {w : World} {ops : Array Oper} {rest : List Oper} {o : Oper} {a : Act} {Q : Exit → Act → World → Prop} (hg : o.guard = none) (m x : Operand) (hop : o.op = Op.lookup 67 m x true)
  (mb cnt : Nat) (c : Int → Option Int) (hm : a.eval m = .map (some mb)) (hown : PM w mb cnt c) (y : Int) (hx : a.eval x = .int .i64 y) (hy : I64 y)
  (hK : ∀ z, (∀ u, c y = some u → z = u) → wpList Try.prog ops Q rest (a.put o.dst (.tuple #[.int .i64 z, .bool (c y).isSome])) w) : wpList Try.prog ops Q (o :: rest) a w := by
 obtain ⟨D, h1, h2⟩ := hown
 refine wpList_lookup_own_ok_int _ hg m x 67 hop 3 3 .i64 lawI Try.underlying67 Try.underlying3 (zeroI _) mb cnt D hm h1 _ _ hx (keyOf_int_mk Try.underlying3 (wfi hy)) ?_
 intro z hat hwc
 rw [(h2 y hy).1]
 refine hK z fun u hu => ?_
 have := (h2 y hy).2 u hu
 rw [hat] at this
 injection this with this
 injection this
theorem wpList_put_pm {w : World} {ops : Array Oper} {rest : List Oper} {o : Oper} {a : Act} {Q : Exit → Act → World → Prop} (hg : o.guard = none) (m x v : Operand) (hop : o.op = Op.mapUpdate 67 m x v)
  (mb cnt : Nat) (c : Int → Option Int) (hm : a.eval m = .map (some mb)) (hown : PM w mb cnt c) (hn : cnt < 17592186044416) (y z : Int) (hx : a.eval x = .int .i64 y) (hv : a.eval v = .int .i64 z) (hy : I64 y) (hz : I64 z)
  (hK : ∀ w', PM w' mb (cnt + 1) (fun u => if u = y then some z else c u) → w.grownBy w' (some mb) → wpList Try.prog ops Q rest (a.put o.dst undef) w') : wpList Try.prog ops Q (o :: rest) a w := by
 obtain ⟨D, h1, h2⟩ := hown
 refine wpList_mapUpdate_own _ hg m x v 67 hop 3 3 lawI Try.underlying67 _ mb cnt D hm h1 (by unfold maxLen; omega) _ _ _ hx hv (keyOf_int_mk Try.underlying3 (wfi hy)) _ [] (plainElem_int Try.underlying3 (wfi hz)) ?_
 intro w' h3 h4
 refine hK w' ⟨_, h3, fun u hu => ?_⟩ h4
 dsimp only
 have hk : WideAt.IsKeyLit (Lit.int .i64 u) := trivial
 by_cases e : u = y
 ·subst e
  rw [if_pos rfl]
  exact ⟨has_put_same h1.isMap hk _, fun q hq => by injection hq with hq; subst hq; exact atKey_put_same h1.isMap hk _ _⟩
 ·have hne : Lit.int .i64 u ≠ Lit.int .i64 y := by intro e'; injection e' with _ e'; exact e e'
  rw [if_neg e]
  exact ⟨(has_put_other hne _).trans (h2 u hu).1, fun q hq => (atKey_put_other hne _ _).trans ((h2 u hu).2 q hq)⟩
theorem wpList_del_pm {w : World} {ops : Array Oper} {rest : List Oper} {o : Oper} {a : Act} {Q : Exit → Act → World → Prop} (hg : o.guard = none) (m x : Operand) (hop : o.op = Op.call { callee := Callee.builtin Builtin.delete, args := #[m, x], argTypes := #[67, 3] })
  (mb cnt : Nat) (c : Int → Option Int) (hm : a.eval m = .map (some mb)) (hown : PM w mb cnt c) (y : Int) (hx : a.eval x = .int .i64 y) (hy : I64 y)
  (hK : ∀ w', PM w' mb cnt (fun u => if u = y then none else c u) → w.grownBy w' (some mb) → wpList Try.prog ops Q rest (a.put o.dst (.tuple #[])) w') : wpList Try.prog ops Q (o :: rest) a w := by
 obtain ⟨D, h1, h2⟩ := hown
 refine wpList_delete_own _ hg m x 67 3 hop 3 lawI Try.underlying67 _ mb cnt D hm h1 _ _ hx (keyOf_int_mk Try.underlying3 (wfi hy)) ?_
 intro w' h3 h4
 refine hK w' ⟨_, h3, fun u hu => ?_⟩ h4.grown
 dsimp only
 by_cases e : u = y
 ·subst e
  rw [if_pos rfl]
  exact ⟨has_del_same, fun q hq => by cases hq⟩
 ·have hne : Lit.int .i64 u ≠ Lit.int .i64 y := by intro e'; injection e' with _ e'; exact e e'
  rw [if_neg e]
  exact ⟨(has_del_other hne).trans (h2 u hu).1, fun q hq => (atKey_del_other hne _).trans ((h2 u hu).2 q hq)⟩

/-- Rows of numbers in a row. -/
def MX (w : World) (X : Nat → Prop) (g m : Nat) (R : Nat → List Nat) : Prop := ∃ vs : List Value, vs.length = m ∧ Bk w g vs.toArray ∧ ¬ X g ∧ ∀ i (h : i < vs.length), II w X (il (R i)) vs[i]
theorem MX.but {w w' : World} {X : Nat → Prop} {g m : Nat} {R : Nat → List Nat} (h : MX w X g m R) (hb : But X w w') : MX w' X g m R := by
 obtain ⟨vs, h1, h2, h3, h4⟩ := h
 exact ⟨vs, h1, h2.but hb h3, h3, fun i hi => (h4 i hi).but hb⟩
theorem MX.less {w : World} {X X' : Nat → Prop} {g m : Nat} {R : Nat → List Nat} (h : MX w X g m R) (hx : ∀ b, b < w.heap.size → ¬ X b → ¬ X' b) : MX w X' g m R := by
 obtain ⟨vs, h1, h2, h3, h4⟩ := h
 exact ⟨vs, h1, h2, hx _ h2.lt h3, fun i hi => (h4 i hi).carry fun b h hl => ⟨rfl, hx b hl h⟩⟩
theorem MX.at {w : World} {X : Nat → Prop} {g m : Nat} {R : Nat → List Nat} (h : MX w X g m R) {i : Nat} (hi : i < m) : ∃ v, w.cell? ⟨g, i, none⟩ = some v ∧ II w X (il (R i)) v := by
 obtain ⟨vs, h1, h2, h3, h4⟩ := h
 subst h1
 refine ⟨vs[i], ?_, h4 i hi⟩
 rw [h2.cell i]
 simp [hi]
/-- Which places have been left. -/
def lfs (m : Nat) (fin : List Nat) : Array Value := ((List.range m).map fun (k : Nat) => Value.bool (decide (k ∈ fin))).toArray
theorem lfs_size (m : Nat) (fin : List Nat) : (lfs m fin).size = m := by simp [lfs]
theorem lfs_at {m k : Nat} (fin : List Nat) (h : k < m) : (lfs m fin)[k]? = some (.bool (decide (k ∈ fin))) := by
 unfold lfs
 rw [List.getElem?_toArray, List.getElem?_map, List.getElem?_range h]; rfl
theorem lfs_set (m v : Nat) (fin : List Nat) : (lfs m fin).setIfInBounds v (.bool true) = lfs m (fin ++ [v]) := by
 unfold lfs
 rw [List.setIfInBounds_toArray]
 congr 1
 apply List.ext_getElem (by simp)
 intro j h1 h2
 rw [List.getElem_set]
 simp only [List.getElem_map, List.getElem_range]
 by_cases e : v = j
 ·subst e; simp
 ·rw [if_neg e]
  have : ¬ j = v := fun h => e h.symm
  simp [this]
theorem lfs_nil (m : Nat) : lfs m [] = (List.replicate m (Value.bool false)).toArray := by
 unfold lfs
 congr 1
 apply List.ext_getElem (by simp)
 intro j h1 h2
 simp

/-- Where the variables of a search lie, what it is given. -/
structure SV where
 B : Nat
 ab : Nat
 cy : Nat
 K : FuncId
 stop : Bool
 x0 : Value
def pt (b : Nat) : Value := .pointer (some ⟨b, 0, none⟩)
def SV.X (e : SV) (b : Nat) : Prop := e.B ≤ b ∨ b = e.ab ∨ b = e.cy
def SV.lv (e : SV) : Value := .func (.func e.K) #[] #[pt e.ab]
def SV.cl (e : SV) : Value := if e.stop then .func (.func 36) #[] #[pt e.cy] else .func (.func 38) #[] #[]
def SV.en (e : SV) : Value := .func (.func 47) #[] #[pt (e.B + 3), pt (e.B + 6), pt (e.B + 4)]
def SV.se (e : SV) : Value := .func (.func 48) #[] #[pt (e.B + 3), pt (e.B + 4), pt e.B, pt (e.B + 6), pt (e.B + 2), pt (e.B + 9), pt (e.B + 8), pt (e.B + 10), pt (e.B + 11), pt (e.B + 1)]
def SV.fn (e : SV) : Value := .func (.func 49) #[] #[pt (e.B + 8), pt (e.B + 10), pt (e.B + 3), pt (e.B + 9), pt (e.B + 11)]
/-- The height of what stands on the path. -/
def hgt (P : List Nat) (x : Int) : Option Int := if x ∈ il P then some ((P.idxOf x.toNat : Nat) : Int) else none
/-- What no step turns. -/
structure SC (w : World) (e : SV) (m : Nat) (R : Nat → List Nat) : Prop where
 sz : e.B + 12 ≤ w.heap.size
 lo : e.ab < e.B ∧ e.cy < e.B ∧ e.ab ≠ e.cy
 kr : ∃ rg, Bk w e.B #[.slice (some ⟨rg, 0, none⟩) m m] ∧ MX w e.X rg m R
 kl : Bk w (e.B + 1) #[e.lv]
 kc : Bk w (e.B + 2) #[e.cl]
 kh : Bk w (e.B + 6) #[.map (some (e.B + 5))]
 kt : Bk w (e.B + 8) #[.slice (some ⟨e.B + 7, 0, none⟩) m m]
 ke : Bk w (e.B + 10) #[e.en]
 ks : Bk w (e.B + 11) #[e.se]
def SV.S (e : SV) (b : Nat) : Prop := b = e.B ∨ b = e.B + 1 ∨ b = e.B + 2 ∨ b = e.B + 6 ∨ b = e.B + 8 ∨ b = e.B + 10 ∨ b = e.B + 11
theorem SC.but {w w' : World} {e : SV} {m : Nat} {R : Nat → List Nat} {Y : Nat → Prop} (h : SC w e m R) (hb : But Y w w') (hy : ∀ b, Y b → e.X b ∧ ¬ e.S b) : SC w' e m R := by
 obtain ⟨sz, lo, ⟨rg, kr, mx⟩, kl, kc, kh, kt, ke, ks⟩ := h
 have k : ∀ b, e.S b → ¬ Y b := fun b hs h => (hy b h).2 hs
 have hX : But e.X w w' := hb.more fun b h => (hy b h).1
 exact ⟨Nat.le_trans sz hb.size, lo, ⟨rg, kr.but hb (k _ (by simp [SV.S])), mx.but hX⟩, kl.but hb (k _ (by simp [SV.S])), kc.but hb (k _ (by simp [SV.S])), kh.but hb (k _ (by simp [SV.S])), kt.but hb (k _ (by simp [SV.S])), ke.but hb (k _ (by simp [SV.S])), ks.but hb (k _ (by simp [SV.S]))⟩
/-- All of it: the path, how far each on it has come, what has been left, what has been put. -/
structure SS (w : World) (e : SV) (m : Nat) (R : Nat → List Nat) (P F fin A : List Nat) (ov : Bool) : Prop where
 c : SC w e m R
 ro : ∃ vp vf va, Bk w (e.B + 3) #[vp] ∧ Bk w (e.B + 4) #[vf] ∧ Bk w e.ab #[va] ∧ OwnI w (e.B + 12) vp (il P) ∧ OwnI w (e.B + 12) vf (il F) ∧ OwnI w (e.B + 12) va (il A) ∧
  (∀ b, vp.ownBlock = some b → vf.ownBlock ≠ some b) ∧ (∀ b, vp.ownBlock = some b → va.ownBlock ≠ some b) ∧ (∀ b, vf.ownBlock = some b → va.ownBlock ≠ some b)
 mp : ∃ cnt, PM w (e.B + 5) cnt (hgt P) ∧ cnt ≤ P.length + fin.length
 lf : Bk w (e.B + 7) (lfs m fin)
 ko : Bk w (e.B + 9) #[.bool ov]
 kx : ∃ x, Bk w e.cy #[x] ∧ (e.stop = false → x = e.x0)
end Go.Proofs.Ytnlgeiofkfkhbaa
