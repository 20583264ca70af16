/-
  Trees in rows that a call makes; Compile's answer at the greatest number. Conditions: nothing in the tree is longer than 2^20.
-/
import Derived.Test.YtcgohdfpmfpfiaaG43
namespace Go.Proofs.Ytcgohdfpmfpfiaa
open Go.RowKit
attribute [local go_sem] setCell_drewN alloc_drewN

/-- Compile's answer. -/
def erV (t : RX) : Int := if szX t + 1 ≤ 65536 then 0 else 100
def lrV (t : RX) : List ST := if szX t + 1 ≤ 65536 then nfaL t else []
theorem comp_gen (t : RX) (hbd : BdX 1048576 t) (f : Nat → Value) (w : World) (Y : Nat → Prop) (hv : XI w Y t f) (hr : rightB 1000 t = true) :
    Calls Try.prog 10 #[xa f, .int .i64 65536] w fun e w' => ∃ ao n c, e = .returned (.tuple #[.slice ao n c, .int .i64 (erV t)]) ∧ SI w' (fun _ => False) (lrV t) (.slice ao n c) ∧ Below w.heap.size w w' := by
  by_cases h : szX t + 1 ≤ 65536
  · refine (comp_ok t hbd f w Y hv 65536 hr (by omega)).mono fun e w' ⟨sb, h1, h2, h3⟩ => ⟨_, _, _, by unfold erV; rw [if_pos h]; exact h1, by unfold lrV; rw [if_pos h]; exact h2, h3⟩
  · refine (comp_big t hbd f w Y hv 65536 (I64_of (by omega) (by omega)) hr (by omega)).mono fun e w' ⟨h1, h3⟩ => ⟨none, 0, 0, by unfold erV; rw [if_neg h]; exact h1, by unfold lrV; rw [if_neg h]; exact SI.nil _ _, h3⟩
theorem ans_AB (x : RX) (n : Nat) : erV (wA x n) = erV (wB x n) ∧ lrV (wA x n) = lrV (wB x n) := by
  unfold erV lrV nfaL; rw [sz_AB2, bld_AB2]; exact ⟨rfl, rfl⟩
theorem ans_CD (x : RX) (n : Nat) : erV (wC x n) = erV (wD x n) ∧ lrV (wC x n) = lrV (wD x n) := by
  unfold erV lrV nfaL; rw [sz_CD2, bld_CD2]; exact ⟨rfl, rfl⟩
/-- A row of trees' cells. -/
def flatX : List (Nat → Value) → List Value
  | [] => []
  | f :: l => [f 0, f 1, f 2, f 3, f 4, f 5] ++ flatX l
theorem flatX_len : ∀ l : List (Nat → Value), (flatX l).length = l.length * 6
  | [] => rfl
  | f :: l => by rw [flatX, List.length_append, flatX_len l]; simp only [List.length_cons, List.length_nil]; omega
theorem flatX_append : ∀ l m : List (Nat → Value), flatX (l ++ m) = flatX l ++ flatX m
  | [], m => rfl
  | f :: l, m => by rw [List.cons_append, flatX, flatX, flatX_append l m, List.append_assoc]
theorem flatX_at : ∀ (l : List (Nat → Value)) (i : Nat) (h : i < l.length) (j : Nat), j < 6 → (flatX l)[i * 6 + j]? = some (l[i] j)
  | f :: l, 0, _, j, hj => by
    match j, hj with
    | 0, _ => rfl
    | 1, _ => rfl
    | 2, _ => rfl
    | 3, _ => rfl
    | 4, _ => rfl
    | 5, _ => rfl
  | f :: l, i + 1, h, j, hj => by
    rw [flatX, List.getElem?_append_right (by simp; omega)]
    have e : (i + 1) * 6 + j - ([f 0, f 1, f 2, f 3, f 4, f 5] : List Value).length = i * 6 + j := by simp; omega
    rw [e]
    simpa using flatX_at l i (by simpa using h) j hj
/-- A tree over a row that a call made. -/
theorem xi_row {w : World} {B : Nat} {k lo hi : Int} {z : Bool} (s : List RX) (F : List (Nat → Value)) (v : Value) (hw : I64 k ∧ I64 lo ∧ I64 hi) (ho : w.ownsRow B 32 6 v s.length (flatX F)) (hF : F.length = s.length) (hx : ∀ i (h : i < s.length) (h' : i < F.length), XI w (fun _ => False) s[i] F[i]) :
    XI w (fun _ => False) (.mk k [] lo hi z s) (fun i => [Value.int .i64 k, .slice none 0 0, .int .i64 lo, .int .i64 hi, .bool z, v].getD i .nilIface) := by
  rcases ho.2 with ⟨rfl, h0⟩ | ⟨g, cap, cur, rfl, hb, hg, hc, hm, hs, ht⟩
  · obtain rfl : s = [] := List.eq_nil_of_length_eq_zero h0
    exact XI.mk none 0 (fun _ _ => .nilIface) rfl (RI.nil _ _) rfl rfl rfl rfl ⟨Nat.le_refl _, by unfold maxLen; omega⟩ hw (Or.inl rfl) (fun i hi => by simp at hi)
  · refine XI.mk (some ⟨g, 0, none⟩) cap (fun i j => (F.getD i (fun _ => .nilIface)) j) rfl (RI.nil _ _) rfl rfl rfl rfl ⟨hc, hm⟩ hw (Or.inr ⟨g, 0, rfl, fun h => h, fun i hi j hj => ?_⟩) (fun i hi => ?_)
    · have hi' : i < F.length := by omega
      rw [Nat.zero_add, ho.cellAt _ (by omega), flatX_at F i hi' j hj, List.getD_eq_getElem?_getD, List.getElem?_eq_getElem hi']; rfl
    · have hi' : i < F.length := by omega
      have := hx i hi hi'
      rw [List.getD_eq_getElem?_getD, List.getElem?_eq_getElem hi']
      exact this
theorem infoRx : (Try.prog.info? 32).map (fun i => (i.zero, i.size, i.bytes)) = some (some (.agg #[.int .i64 0, .slice none 0 0, .int .i64 0, .int .i64 0, .bool false, .slice none 0 0]), 6, 80) := by kernel_rfl
/-- A tree more in a row. -/
theorem wpList_append_rx {w : World} {ops : Array Oper} {rest : List Oper} {o : Oper} {a : Act} {Q : Exit → Act → World → Prop} (hgd : o.guard = none) (s x : Operand)
    (ho : o.op = .call { callee := .builtin .append, args := #[s, x], argTypes := #[30, 30] }) (B : Nat) (v : Value) (F : List (Nat → Value)) (hs : a.eval s = v) (hown : w.ownsRow B 32 6 v F.length (flatX F)) (hB : B ≤ w.heap.size) (hn : F.length ≤ 100) (f : Nat → Value) (hf : Six f)
    (t : Nat) (ht : w.heap.size = t) (hx : a.eval x = .slice (some ⟨t, 0, none⟩) 1 1)
    (h : ∀ v' w', w'.ownsRow B 32 6 v' (F.length + 1) (flatX (F ++ [f])) → (w.alloc (.cells #[f 0, f 1, f 2, f 3, f 4, f 5] 32)).grownBy w' v.ownBlock → wpList Try.prog ops Q rest (a.put o.dst v') w') :
    wpList Try.prog ops Q (o :: rest) a (w.alloc (.cells #[f 0, f 1, f 2, f 3, f 4, f 5] 32)) := by
  subst ht
  obtain ⟨i0, hi, hz0, hz1, hz2⟩ := info_parts infoRx
  have hT : Bk (w.alloc (.cells #[f 0, f 1, f 2, f 3, f 4, f 5] 32)) w.heap.size #[f 0, f 1, f 2, f 3, f 4, f 5] := Bk.new _ _ _
  obtain ⟨k, a1, n1, c1, lo, hi', z, a2, n2, c2, e0, e1, e2, e3, e4, e5⟩ := hf
  refine wpList_append_own _ hgd s x 30 ho B 32 i0 (.agg #[.int .i64 0, .slice none 0 0, .int .i64 0, .int .i64 0, .bool false, .slice none 0 0]) 6 80 Try.underlying30 hi hz0 hz1 hz2 rfl (by decide) v F.length (flatX F) hs (hown.alloc _) ⟨w.heap.size, 0, none⟩ 1 1 [f 0, f 1, f 2, f 3, f 4, f 5] hx rfl ?_ ?_ (by unfold maxLen; omega) (by omega) (by simp; omega) ?_
  · intro j u hj
    rw [add_at, hT.cell]
    match j, hj with
    | 0, hj => exact hj
    | 1, hj => exact hj
    | 2, hj => exact hj
    | 3, hj => exact hj
    | 4, hj => exact hj
    | 5, hj => exact hj
  · intro u hu
    simp at hu
    rcases hu with rfl | rfl | rfl | rfl | rfl | rfl
    · rw [e0]; rfl
    · rw [e1]; rfl
    · rw [e2]; rfl
    · rw [e3]; rfl
    · rw [e4]; rfl
    · rw [e5]; rfl
  · intro v' w' h1 h2 _
    refine h v' w' ?_ h2
    rw [flatX_append]
    exact h1
end Go.Proofs.Ytcgohdfpmfpfiaa
