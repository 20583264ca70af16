/-
  A slice's beginning, an append inside a statement whose order is open, and the ends that UtfShortest tries as they lie in memory. No condition of its own.
-/
import Derived.Test.YtibkhbmglnlgkaaDoorM5
import Derived.Test.YtibkhbmglnlgkaaDoorSame
namespace Go.Proofs.YtibkhbmglnlgkaaDoor
open Go.RowKit

theorem add_zero (a : Addr) : a.add 0 = a := by simp [Addr.add]
theorem slice_to (a : Option Addr) (len cap h : Nat) (hc : h ≤ cap) (w : World) : (Instr.slice 22 (.slice a len cap) none (some (.int .i64 (h : Int))) none).run Tryd.prog w = .ok (.slice a h cap) w := by
  rw [run_slice_h (P := Tryd.prog) w 22 a len cap (by kernel_rfl) .i64 (h : Int) (by omega) (by omega)]
  have e : (sizeOf (Tryd.prog.elem 22)).run Tryd.prog w = .ok 1 w := by kernel_rfl
  rw [e]
  simp only [Result.andThen, sliced]
  congr 1
  simp only [Int.toNat_natCast, Nat.sub_zero, Nat.zero_mul]
  congr 1
  split
  · rfl
  · cases a with
    | none => rfl
    | some a => simp [add_zero]

theorem Row.take {w : World} {a : Option Addr} {len cap n : Nat} {f : Nat → Int} (h : Row w (.slice a len cap) len f) (hn : n ≤ len) : Row w (.slice a n cap) n f ∧ n ≤ cap := by
  rcases h with ⟨rfl, a', cap', e, hz⟩ | ⟨b, off, cap', e, hc, hm, hL⟩
  · injection e with e1 _ e3
    subst e1 e3
    have : n = 0 := by omega
    subst this
    exact ⟨.inl ⟨rfl, a, cap, rfl, hz⟩, by omega⟩
  · injection e with e1 _ e3
    subst e1 e3
    exact ⟨.inr ⟨b, off, cap, rfl, by omega, hm, ⟨fun i hi => hL.cell i (by omega), hL.lo, hL.hi⟩⟩, by omega⟩

/-- 'append(x, y...)' at a step of a region whose order is open. -/
theorem step_append_row {w : World} {ops : Array Oper} {o : Oper} {a : Act} {K : Act → World → Prop} {Q : Exit → Act → World → Prop} {E : Prop} (hgd : o.guard = none) (s x : Operand)
    (ho : o.op = .call { callee := .builtin .append, args := #[s, x], argTypes := #[22, 22] }) (base : Nat) (v : Value) (n : Nat) (xs : List Value) (hs : a.eval s = v) (hown : w.ownsRow base 5 1 v n xs)
    (ad : Addr) (m c : Nat) (g : Nat → Int) (hx : a.eval x = .slice (some ad) m c) (hR : Row w (.slice (some ad) m c) m g) (hb : n + m ≤ 140737488355328) (hbase : base ≤ w.heap.size)
    (h : ∀ v' w', w'.ownsRow base 5 1 v' (n + m) (xs ++ vals m g) → w.grownBy w' v.ownBlock → K (a.put o.dst v') w') : if Region.wanted o (yielded ops a.tmps) = true then Oper.wp Tryd.prog o a w K Q else E := by
  have hw : Region.wanted o (yielded ops a.tmps) = true := by simp [Region.wanted, hgd]
  rw [if_pos hw]
  obtain ⟨i0, hi, hz0, hz1, hz2⟩ := info_parts info5
  rcases hR with ⟨rfl, ad', cap', e, hz⟩ | ⟨b, off, cap', e, hc, hm, hL⟩
  · refine wp_append_own w s x 22 ho base 5 i0 (.int .u8 0) 1 1 Tryd.underlying22 hi hz0 hz1 hz2 rfl (by decide) v n xs hs hown ad 0 c [] hx rfl (fun j u hj => by simp at hj) (fun u hu => by simp at hu) (by unfold maxLen; omega) (by omega) hbase ?_
    intro v' w' h1 h2 _
    exact h v' w' (by simpa [vals] using h1) h2
  · injection e with e1 _ e3
    injection e1 with e1
    subst e1 e3
    refine wp_append_own w s x 22 ho base 5 i0 (.int .u8 0) 1 1 Tryd.underlying22 hi hz0 hz1 hz2 rfl (by decide) v n xs hs hown ⟨b, off, none⟩ m c (vals m g) hx (by rw [vals_length]; omega) (fun j u hj => ?_) (fun u hu => ?_) (by unfold maxLen; omega) (by omega) hbase ?_
    · have hlt : j < m := by have := (List.getElem?_eq_some_iff.1 hj).1; rwa [vals_length] at this
      rw [vals_at _ _ _ hlt] at hj
      rw [add_at, hL.cell j hlt, hj]
    · simp only [vals, List.mem_map] at hu
      obtain ⟨i, _, rfl⟩ := hu
      rfl
    · intro v' w' h1 h2 _
      exact h v' w' h1 h2
end Go.Proofs.YtibkhbmglnlgkaaDoor
