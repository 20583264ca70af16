/-
  Ends that are put behind bytes: what a drawn step of append makes, and which ends help. No condition of its own.
-/
import Derived.Test.YtngpkgmgjbahgaaDoorB4
import Derived.Lib.AppendStr
import Derived.Deep.RegionHeld3
namespace Go.Proofs.YtngpkgmgjbahgaaDoor
open Go.RowKit
attribute [local go_sem] setCell_drewN alloc_drewN

theorem own_empty (W : World) (b : Nat) (hb : W.heap.size = b) : (W.alloc (.cells #[] 5)).ownsRow b 5 1 (.slice (some ⟨b, 0, none⟩) 0 0) 0 (cellsL []) := by
  subst hb
  exact World.ownsRow_made W #[] 0 (Nat.le_refl _) (by simp [maxLen]) rfl
theorem byt_take {w : World} {b off cap : Nat} {l : List UInt8} (h : Lies w b off l.length (bx l)) (hc : l.length ≤ cap) (hm : cap ≤ maxLen) {e : Nat} (he : e ≤ l.length) : Row w (.slice (some ⟨b, off, none⟩) e cap) e (bx (l.take e)) :=
  .inr ⟨b, off, cap, rfl, by omega, hm, ⟨fun i hi => by rw [h.cell i (by omega)]; simp [bx, List.getElem?_take_of_lt hi], bx_lo _, bx_hi _⟩⟩

theorem step_append_row {w : World} {ops : Array Oper} {o : Oper} {a : Act} {K : Act → World → Prop} {Q : Exit → Act → World → Prop} {E : Prop} (hgd : o.guard = none) (s x : Operand)
    (ho : o.op = .call { callee := .builtin .append, args := #[s, x], argTypes := #[22, 22] }) (base : Nat) (v : Value) (n : Nat) (xs : List Value) (hs : a.eval s = v) (hown : w.ownsRow base 5 1 v n xs)
    (ad : Addr) (m c : Nat) (g : Nat → Int) (hx : a.eval x = .slice (some ad) m c) (hR : Row w (.slice (some ad) m c) m g) (hb : n + m ≤ 140737488355328) (hbase : base ≤ w.heap.size)
    (h : ∀ v' w', w'.ownsRow base 5 1 v' (n + m) (xs ++ vals m g) → w.grownBy w' v.ownBlock → K (a.put o.dst v') w') : if Region.wanted o (yielded ops a.tmps) = true then Oper.wp Tryd.prog o a w K Q else E := by
  have hw : Region.wanted o (yielded ops a.tmps) = true := by simp [Region.wanted, hgd]
  rw [if_pos hw]
  obtain ⟨i0, hi, hz0, hz1, hz2⟩ := info_parts info5
  rcases hR with ⟨rfl, ad', cap', e, hz⟩ | ⟨b, off, cap', e, hc, hm, hL⟩
  · refine wp_append_own w s x 22 ho base 5 i0 (.int .u8 0) 1 1 Tryd.underlying22 hi hz0 hz1 hz2 rfl (by decide) v n xs hs hown ad 0 c [] hx rfl (fun j u hj => by simp at hj) (fun u hu => by simp at hu) (by unfold maxLen; omega) (by omega) hbase ?_
    intro v' w' h1 h2 _
    exact h v' w' (by simpa [vals] using h1) h2
  · injection e with e1 _ e3
    injection e1 with e1
    subst e1 e3
    refine wp_append_own w s x 22 ho base 5 i0 (.int .u8 0) 1 1 Tryd.underlying22 hi hz0 hz1 hz2 rfl (by decide) v n xs hs hown ⟨b, off, none⟩ m c (vals m g) hx (by rw [vals_length]; omega) (fun j u hj => ?_) (fun u hu => ?_) (by unfold maxLen; omega) (by omega) hbase ?_
    · have hlt : j < m := by have := (List.getElem?_eq_some_iff.1 hj).1; rwa [vals_length] at this
      rw [vals_at _ _ _ hlt] at hj
      rw [add_at, hL.cell j hlt, hj]
    · simp only [vals, List.mem_map] at hu
      obtain ⟨i, _, rfl⟩ := hu
      rfl
    · intro v' w' h1 h2 _
      exact h v' w' h1 h2

theorem step_append_string {w : World} {ops : Array Oper} {o : Oper} {a : Act} {K : Act → World → Prop} {Q : Exit → Act → World → Prop} {E : Prop} (hgd : o.guard = none) (s x : Operand)
    (ho : o.op = .call { callee := .builtin .append, args := #[s, x], argTypes := #[22, 9] }) (base : Nat) (v : Value) (n : Nat) (xs : List Value) (hs : a.eval s = v) (hown : w.ownsRow base 5 1 v n xs)
    (e : ByteArray) (hx : a.eval x = .string e) (hb : n + e.size ≤ 140737488355328) (hbase : base ≤ w.heap.size)
    (h : ∀ v' w', w'.ownsRow base 5 1 v' (n + e.size) (xs ++ Lib.strCells e) → w.grownBy w' v.ownBlock → K (a.put o.dst v') w') : if Region.wanted o (yielded ops a.tmps) = true then Oper.wp Tryd.prog o a w K Q else E := by
  have hw : Region.wanted o (yielded ops a.tmps) = true := by simp [Region.wanted, hgd]
  rw [if_pos hw]
  obtain ⟨i0, hi, hz0, hz1, hz2⟩ := info_parts info5
  obtain ⟨v', w', hr, h2, h3, _⟩ := Lib.run_append_own_string (P := Tryd.prog) w base 22 9 o.type 5 i0 Tryd.underlying22 Tryd.underlying9 hi hz0 hz1 hz2 v n xs hown e (by unfold maxLen; omega) hb hbase
  unfold Oper.wp execOp
  simp only [ho, resolve, invoke, builtin, Sem.run_bind, Sem.run_pure, Result.andThen_ok, List.map_toArray, List.map_cons, List.map_nil, hs, hx, hr]
  exact h v' w' h2 h3

/-- An end, as a text. -/
def endS (k : Nat) : ByteArray := ⟨((endsL[k]?).getD []).toArray⟩
theorem endS_list (k : Nat) : (endS k).data.toList = (endsL[k]?).getD [] := rfl
theorem ends_short : ∀ e ∈ endsL, e.length ≤ 9 := by decide
theorem endS_size (k : Nat) : (endS k).size ≤ 9 := by
  show ((endsL[k]?).getD []).toArray.size ≤ 9
  rw [List.size_toArray]
  cases h : endsL[k]? with
  | none => simp
  | some e => exact ends_short e (List.mem_of_getElem? h)
theorem own_join {w : World} {base : Nat} {v : Value} {a : List UInt8} {N k : Nat} (ha : a.length = N) (h : w.ownsRow base 5 1 v (0 + N + (endS k).size) (cellsL [] ++ vals N (bx a) ++ Lib.strCells (endS k))) : Byt w v (a ++ (endsL[k]?).getD []) := by
  subst ha
  have e1 : (endS k).size = ((endsL[k]?).getD []).length := by show ((endsL[k]?).getD []).toArray.size = _; rw [List.size_toArray]
  have e2 : Lib.strCells (endS k) = cellsL ((endsL[k]?).getD []) := rfl
  rw [vals_bx, e1, e2] at h
  have e3 : cellsL [] ++ cellsL a ++ cellsL ((endsL[k]?).getD []) = cellsL (a ++ (endsL[k]?).getD []) := by simp [cellsL]
  rw [e3, Nat.zero_add, ← List.length_append] at h
  exact own_byt h
def okB : Tk → Bool
  | .ok _ => true
  | .error _ => false
/-- Has one of the first ends helped? -/
def helped (l : List UInt8) (N k : Nat) : Bool := (endsL.take k).any fun e => okB (nextL (l.take N ++ e) 0)
theorem helped_next {l : List UInt8} {N k : Nat} (hk : k < 30) : helped l N (k + 1) = (helped l N k || okB (nextL (l.take N ++ (endsL[k]?).getD []) 0)) := by
  unfold helped
  have hk2 : k < endsL.length := hk
  rw [List.take_succ_eq_append_getElem hk2, List.any_append]
  simp [List.getElem?_eq_getElem hk2]
theorem helped_all {l : List UInt8} {N : Nat} (h : nextL l 0 = .error (N + 1)) : helped l N 30 = true := by
  obtain ⟨_, _, e, he, t, ht⟩ := some_end h
  rw [show N + 1 - 1 = N by omega] at ht
  unfold helped
  rw [show endsL.take 30 = endsL from rfl, List.any_eq_true]
  exact ⟨e, he, by rw [ht]; rfl⟩
end Go.Proofs.YtngpkgmgjbahgaaDoor
