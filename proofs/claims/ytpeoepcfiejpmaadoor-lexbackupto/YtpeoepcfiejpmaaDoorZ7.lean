/-
  'append([]byte(q), more...)', and LexBack: it answers true for every text, whatever is put behind it. Conditions: the text and the bytes are at most 2^20 long; the table of greatest code points and errors.errorType as they are laid.
-/
import Derived.Test.YtpeoepcfiejpmaaDoorZ6
import Derived.Deep.Upon
namespace Go.Proofs.YtpeoepcfiejpmaaDoor
open Go.RowKit
attribute [local go_sem] setCell_drewN alloc_drewN

theorem lies_str (w : World) (s : ByteArray) : Lies (Lib.bytesWorld w 5 s) w.heap.size 0 s.size (bx s.data.toList) :=
  ⟨fun i hi => by rw [Nat.zero_add, Lib.bytesWorld_cell w _ s i hi]; simp [bx, List.getD_eq_getElem?_getD], bx_lo _, bx_hi _⟩
theorem spare_str (w : World) (s : ByteArray) (j : Nat) (hj : j < grownCap w s.size 0 5) : ((Lib.bytesWorld w 5 s).cell? ⟨w.heap.size, j, none⟩).isSome = true ∧ (Lib.bytesWorld w 5 s).frozen? ⟨w.heap.size, j, none⟩ = false := by
  have hz : (Lib.bytesCells w 5 s).size = grownCap w s.size 0 5 := by
    have := grownCap_ge w s.size 0 5
    simp [Lib.bytesCells]
    omega
  constructor
  · simp only [World.cell?, Lib.bytesWorld_at_new]
    rw [Array.getElem?_eq_getElem (by rw [hz]; exact hj)]; rfl
  · simp only [World.frozen?, Lib.bytesWorld_at_new]
    simp [hz]; omega
theorem bl_set {w : World} {B g : Nat} (hB : B ≤ g) (o : Nat) (vs : List Value) : Below B w (w.setCells g o vs) := by
  have hk : ∀ (vs : List Value) (o : Nat) (w : World), (w.setCells g o vs).tape = w.tape ∧ (w.setCells g o vs).heap.size = w.heap.size := by
    intro vs
    induction vs with
    | nil => intro o w; exact ⟨rfl, rfl⟩
    | cons v vs ih =>
      intro o w
      have := ih (o + 1) (w.setCell ⟨g, o, none⟩ v)
      exact ⟨this.1.trans rfl, this.2.trans (by simp)⟩
  refine ⟨World.os_setCells w g o vs, (hk vs o w).1, World.output_setCells w g o vs, Nat.le_of_eq (hk vs o w).2.symm, fun k hk' => ?_⟩
  by_cases h : k < w.heap.size
  · exact World.heap_setCells_other w g o vs h (by omega)
  · rw [Array.getElem?_eq_none (by rw [(hk vs o w).2]; omega), Array.getElem?_eq_none (by omega)]

/-- 'append(x, y...)', x a conversion's row. -/
theorem wpList_append_conv {w : World} {ops : Array Oper} {rest : List Oper} {o : Oper} {a : Act} {Q : Exit → Act → World → Prop} (hgd : o.guard = none) (s x : Operand)
    (ho : o.op = .call { callee := .builtin .append, args := #[s, x], argTypes := #[22, 22] }) (g n cap : Nat) (ta : List UInt8) (hn : ta.length = n) (hs : a.eval s = .slice (some ⟨g, 0, none⟩) n cap) (hA : Lies w g 0 n (bx ta)) (hc : n ≤ cap) (hcm : cap ≤ maxLen)
    (hsp : ∀ j, j < cap → (w.cell? ⟨g, j, none⟩).isSome = true ∧ w.frozen? ⟨g, j, none⟩ = false) (B : Nat) (hB : B ≤ g) (hBw : B ≤ w.heap.size)
    (v1 : Value) (tb : List UInt8) (hx : a.eval x = v1) (hR : Byt w v1 tb) (hb : n + tb.length ≤ 140737488355328)
    (h : ∀ v' w', Byt w' v' (ta ++ tb) → Below B w w' → wpList Tryd.prog ops Q rest (a.put o.dst v') w') : wpList Tryd.prog ops Q (o :: rest) a w := by
  obtain ⟨i0, hi, hz0, hz1, hz2⟩ := info_parts info5
  rcases hR with ⟨h0, ad, cap', rfl, hnil⟩ | ⟨b, off, cap', rfl, hc', hm', hL⟩
  · obtain rfl : tb = [] := List.length_eq_zero_iff.1 h0
    have hsrc : Src Tryd.prog i0.size 22 (.slice ad 0 cap') 0 [] w := by
      cases ad with
      | none => exact Src.ofNil w Tryd.underlying22 cap'
      | some ad => exact Src.ofSlice w Tryd.underlying22 ad 0 cap' [] (by simp) (fun j u hj => by simp at hj) (fun u hu => by simp at hu)
    have hrun := run_append_nothing (P := Tryd.prog) w 22 22 o.type 5 i0 Tryd.underlying22 hi (some ⟨g, 0, none⟩) n cap hc _ hsrc
    refine wpList_plain hgd fun K hK => ?_
    unfold Oper.wp
    simp [execOp, ho, resolve, invoke, builtin, hs, hx, hrun, Result.andThen]
    refine hK _ _ (h _ _ ?_ (Below.refl _ _))
    rw [List.append_nil]
    unfold Byt
    rw [hn]
    exact .inr ⟨g, 0, cap, rfl, hc, hcm, hA⟩
  · have olds : ∀ j u, (cellsL ta)[j]? = some u → w.cell? ⟨g, 0 + j, none⟩ = some u := fun j u hj => by
      have hlt : j < n := by have := (List.getElem?_eq_some_iff.1 hj).1; simpa [cellsL, hn] using this
      rw [hA.cell j hlt, ← hj]
      simp [cellsL, bx, hn, hlt]
    have news : ∀ j u, (cellsL tb)[j]? = some u → w.cell? ((⟨b, off, none⟩ : Addr).add j) = some u := fun j u hj => by
      have hlt : j < tb.length := by have := (List.getElem?_eq_some_iff.1 hj).1; simpa [cellsL] using this
      rw [add_at, hL.cell j hlt, ← hj]
      simp [cellsL, bx, hlt]
    have hcl : (cellsL tb).length = tb.length := by simp [cellsL]
    refine wpList_append_arg w hgd s x 22 ho 5 i0 (.int .u8 0) 1 1 Tryd.underlying22 hi hz0 hz1 hz2 rfl (by decide) g 0 n cap (cellsL ta) hs (by simp [cellsL, hn]) olds ⟨b, off, none⟩ tb.length cap' (cellsL tb) hx (by simp [cellsL]) news (fun u hu => ?_) (fun hle j hj => ?_) (by unfold maxLen; omega) (by omega) (fun hle => ?_) (fun hlt v' w' hown hgrow => ?_)
    · simp only [cellsL, List.mem_map] at hu
      obtain ⟨i, _, rfl⟩ := hu
      rfl
    · rw [hcl] at hj
      rw [Nat.zero_add, Nat.mul_one]
      exact hsp (n + j) (by omega)
    · refine h _ _ ?_ (bl_set hB _ _)
      unfold Byt
      rw [List.length_append, hn]
      refine .inr ⟨g, 0, cap, rfl, hle, hcm, ⟨fun i hi => ?_, bx_lo _, bx_hi _⟩⟩
      rw [Nat.zero_add, Nat.zero_add, Nat.mul_one]
      by_cases hin : i < n
      · rw [World.cell?_setCells_out _ _ _ _ _ (fun _ _ => .inl hin)]
        have := hA.cell i hin
        rw [Nat.zero_add] at this
        rw [this]
        simp [bx, List.getElem?_append_left (show i < ta.length by omega)]
      · have := World.cell?_setCells_in g (cellsL tb) n w (fun j hj => (hsp (n + j) (by rw [hcl] at hj; omega)).1) (i - n) (by rw [hcl]; omega)
        rw [show n + (i - n) = i by omega] at this
        rw [this]
        simp [bx, List.getElem?_append_right (show ta.length ≤ i by omega), hn, cellsL, show i - n < tb.length by omega]
    · have hbl := ((Below.refl w.heap.size w).grown hgrow (Nat.le_refl _) (fun j hj => by cases hj))
      refine h _ _ ?_ (hbl.mono hBw)
      rw [cells_cat] at hown
      have : w'.ownsRow w.heap.size 5 1 v' (ta ++ tb).length (cellsL (ta ++ tb)) := by rw [List.length_append, hn]; exact hown
      exact own_byt this
end Go.Proofs.YtpeoepcfiejpmaaDoor
