/-
  What ref7.Unescape answers. Conditions: at most 2^38 bytes.
-/
import Derived.Test.YtfamppieepkmnaaDoorPR2
import Derived.Laws.AppendOwnNone
import Derived.Deep.RegionHeld3
import Derived.Deep.RegionWith
namespace Go.Proofs.YtfamppieepkmnaaDoor
open Go.RowKit
attribute [local go_sem] setCell_drewN alloc_drewN

theorem infoY : (Tryd.prog.info? 5).map (fun i => (i.zero, i.size, i.bytes)) = some (some (.int .u8 0), 1, 1) := by kernel_rfl
/-- Bytes as values. -/
def bcs (o : List UInt8) : List Value := o.map fun c => .int .u8 (c.toNat : Int)
theorem bcs_snoc (o : List UInt8) (c : UInt8) : bcs (o ++ [c]) = bcs o ++ [.int .u8 (c.toNat : Int)] := by simp [bcs]
/-- A slice of the call's own that holds bytes. -/
def OwnY (w : World) (B : Nat) (v : Value) (o : List UInt8) : Prop := w.ownsRow B 5 1 v o.length (bcs o)
theorem OwnY.below {w w' : World} {B : Nat} {v : Value} {xs : List UInt8} (h : OwnY w B v xs) (hb : Below w.heap.size w w') : OwnY w' B v xs := by
  refine World.ownsRow.kept (row := none) h ⟨hb.os, hb.tape, hb.output, hb.size, fun k hk _ => hb.block k hk⟩ ?_
  cases v.ownBlock with
  | none => exact .inl rfl
  | some g => exact .inr (by simp)
theorem OwnY.byt {w : World} {B : Nat} {v : Value} {o : List UInt8} (h : OwnY w B v o) : Byt w v o := by
  have hc : ∀ g, v.ownBlock = some g → ∀ j u, (bcs o)[j]? = some u → w.cell? ((⟨g, 0, none⟩ : Addr).add j) = some u := fun g hg => World.ownsRow.cells h hg
  rcases h.2 with ⟨hv, hx⟩ | ⟨g, cap, cur, rfl, _, _, h1, h2, _⟩
  · have : o = [] := by simpa [bcs] using hx
    subst this
    exact .inl ⟨rfl, none, 0, hv, fun _ => rfl⟩
  · refine .inr ⟨g, 0, cap, rfl, h1, h2, ⟨fun i hi => ?_, bx_lo o, bx_hi o⟩⟩
    have := hc g rfl i (.int .u8 (bx o i)) (by simp [bcs, hi, bx])
    rw [add_at] at this
    exact this
theorem conv_own {w : World} {B : Nat} {v : Value} {o : List UInt8} (h : OwnY w B v o) : (convert 41 9 v).run Tryd.prog w = .ok (.string (bs o)) w := by
  have hc : ∀ g, v.ownBlock = some g → ∀ j u, (bcs o)[j]? = some u → w.cell? ((⟨g, 0, none⟩ : Addr).add j) = some u := fun g hg => World.ownsRow.cells h hg
  rcases h.2 with ⟨hv, hx⟩ | ⟨g, cap, cur, rfl, _⟩
  · have : o = [] := by simpa [bcs] using hx
    subst this
    rw [hv]
    exact run_convert_bytes_nil (P := Tryd.prog) w 41 5 Tryd.underlying41 Tryd.underlying5 0 0 9 Tryd.underlying9
  · exact run_convert_bytes_back (P := Tryd.prog) w 41 9 5 ⟨g, 0, none⟩ cap o Tryd.underlying41 Tryd.underlying5 Tryd.underlying9 (fun j hj => hc g rfl j _ (by simp [bcs, hj]))
theorem cells_one {w : World} {ad : Addr} {c : UInt8} (h : w.cell? (ad.add 0) = some (.int .u8 (c.toNat : Int))) : ∀ j u, [Value.int .u8 (c.toNat : Int)][j]? = some u → w.cell? (ad.add j) = some u := by
  intro j u hj
  match j, hj with
  | 0, hj => simp at hj; subst hj; exact h
/-- 'append(x, y)', x of the call's own, y one byte. -/
theorem wpList_append_byte {w : World} {ops : Array Oper} {rest : List Oper} {o : Oper} {a : Act} {Q : Exit → Act → World → Prop} (hgd : o.guard = none) (s x : Operand)
    (ho : o.op = .call { callee := .builtin .append, args := #[s, x], argTypes := #[41, 41] }) (base : Nat) (v : Value) (xs : List UInt8) (hs : a.eval s = v) (hown : OwnY w base v xs)
    (c : UInt8) (ad : Addr) (hx : a.eval x = .slice (some ad) 1 1) (hc : w.cell? (ad.add 0) = some (.int .u8 (c.toNat : Int))) (hb : xs.length + 1 ≤ 140737488355328) (hbase : base ≤ w.heap.size)
    (h : ∀ v' w', OwnY w' base v' (xs ++ [c]) → Below base w w' → wpList Tryd.prog ops Q rest (a.put o.dst v') w') : wpList Tryd.prog ops Q (o :: rest) a w := by
  obtain ⟨i0, hi, hz0, hz1, hz2⟩ := info_parts infoY
  refine wpList_append_own _ hgd s x 41 ho base 5 i0 (.int .u8 0) 1 1 Tryd.underlying41 hi hz0 hz1 hz2 rfl (by decide) v xs.length (bcs xs) hs hown ad 1 1 [.int .u8 (c.toNat : Int)] hx rfl (cells_one hc) (fun u hu => by simp at hu; subst hu; rfl) (by unfold maxLen; omega) (by omega) hbase ?_
  intro v' w' h1 h2 _
  refine h v' w' ?_ ?_
  · unfold OwnY
    rw [bcs_snoc, List.length_append]
    exact h1
  · exact (Below.refl _ _).grown h2 hbase (fun j hj => (World.ownsRow.lt hown j hj).1)
/-- The same at a step of a region whose order is open. -/
theorem step_append_byte {w : World} {ops : Array Oper} {o : Oper} {a : Act} {K : Act → World → Prop} {Q : Exit → Act → World → Prop} {E : Prop} (hgd : o.guard = none) (s x : Operand)
    (ho : o.op = .call { callee := .builtin .append, args := #[s, x], argTypes := #[41, 41] }) (base : Nat) (v : Value) (xs : List UInt8) (hs : a.eval s = v) (hown : OwnY w base v xs)
    (c : UInt8) (ad : Addr) (hx : a.eval x = .slice (some ad) 1 1) (hc : w.cell? (ad.add 0) = some (.int .u8 (c.toNat : Int))) (hb : xs.length + 1 ≤ 140737488355328) (hbase : base ≤ w.heap.size)
    (h : ∀ v' w', OwnY w' base v' (xs ++ [c]) → Below base w w' → K (a.put o.dst v') w') : if Region.wanted o (yielded ops a.tmps) = true then Oper.wp Tryd.prog o a w K Q else E := by
  have hw : Region.wanted o (yielded ops a.tmps) = true := by simp [Region.wanted, hgd]
  rw [if_pos hw]
  obtain ⟨i0, hi, hz0, hz1, hz2⟩ := info_parts infoY
  refine wp_append_own w s x 41 ho base 5 i0 (.int .u8 0) 1 1 Tryd.underlying41 hi hz0 hz1 hz2 rfl (by decide) v xs.length (bcs xs) hs hown ad 1 1 [.int .u8 (c.toNat : Int)] hx rfl (cells_one hc) (fun u hu => by simp at hu; subst hu; rfl) (by unfold maxLen; omega) (by omega) hbase ?_
  intro v' w' h1 h2 _
  refine h v' w' ?_ ?_
  · unfold OwnY
    rw [bcs_snoc, List.length_append]
    exact h1
  · exact (Below.refl _ _).grown h2 hbase (fun j hj => (World.ownsRow.lt hown j hj).1)
theorem hexI_none {c : Int} (h : hexV c = none) : hexI c = -1 := by unfold hexI; rw [h]; rfl
theorem hexI_some {c x : Int} (h : hexV c = some x) : hexI c = x := by unfold hexI; rw [h]; rfl
theorem drop_two (l : List UInt8) (i : Nat) (h : i + 2 < l.length) : (l.drop (i + 1)).take 2 = [l[i + 1], l[i + 2]] := by
  rw [List.drop_eq_getElem_cons (by omega), List.drop_eq_getElem_cons (by omega)]
  rfl
end Go.Proofs.YtfamppieepkmnaaDoor
