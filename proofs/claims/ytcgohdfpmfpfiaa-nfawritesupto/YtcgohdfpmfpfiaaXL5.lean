/-
  The part of a set: what compiles it, and that called. Conditions: there is room; at most 2^40 ranges.
-/
import Derived.Test.YtcgohdfpmfpfiaaXL4
namespace Go.Proofs.Ytcgohdfpmfpfiaa
open Go.RowKit
attribute [local go_sem] setCell_drewN alloc_drewN

/-- The three variables of a part of one state: the list, the state's kind, its ranges. -/
def Cap3 (w : World) (lb sb p q s : Nat) (k : Int) (r : List (Int × Int)) : Prop :=
  w.cell? ⟨p, 0, none⟩ = some (.pointer (some ⟨lb, 0, none⟩)) ∧ w.cell? ⟨q, 0, none⟩ = some (.int .i64 k) ∧ (∃ v, w.cell? ⟨s, 0, none⟩ = some v ∧ RI w (two lb sb) r v) ∧ ¬ two lb sb p ∧ ¬ two lb sb q ∧ ¬ two lb sb s
theorem Cap3.but {w w' : World} {lb sb p q s : Nat} {k : Int} {r : List (Int × Int)} (h : Cap3 w lb sb p q s k r) (hb : But (two lb sb) w w') : Cap3 w' lb sb p q s k r := by
  obtain ⟨h1, h2, ⟨v, h3, hR⟩, h4, h5, h6⟩ := h
  exact ⟨(World.cell?_of_block (w := w) (w' := w') (hb.block p (World.block_lt_of_cell? w _ h1) h4)).trans h1, (World.cell?_of_block (w := w) (w' := w') (hb.block q (World.block_lt_of_cell? w _ h2) h5)).trans h2,
    ⟨v, (World.cell?_of_block (w := w) (w' := w') (hb.block s (World.block_lt_of_cell? w _ h3) h6)).trans h3, hR.but hb (fun _ h => h)⟩, h4, h5, h6⟩
theorem Cap3.below {w w' : World} {lb sb p q s : Nat} {k : Int} {r : List (Int × Int)} (h : Cap3 w lb sb p q s k r) (hb : Below w.heap.size w w') : Cap3 w' lb sb p q s k r := h.but (But.ofBelow hb)
set_option maxRecDepth 100000 in
theorem single_any (lb sb : Nat) (k : Int) (r : List (Int × Int)) (v : Value) (w : World) (hlb : lb < w.heap.size ∧ sb < w.heap.size) (hR : RI w (two lb sb) r v) :
    Calls Try.prog 34 #[.pointer (some ⟨lb, 0, none⟩), .int .i64 k, v] w fun e w' => ∃ p q s, e = .returned (.func (.func 40) #[] #[.pointer (some ⟨p, 0, none⟩), .pointer (some ⟨q, 0, none⟩), .pointer (some ⟨s, 0, none⟩)]) ∧ Cap3 w' lb sb p q s k r ∧ Below w.heap.size w w' := by
  obtain ⟨ao, c, rfl, _⟩ := hR.shape
  obtain ⟨W, hW⟩ : ∃ W, ((w.alloc (.cells #[.pointer (some ⟨lb, 0, none⟩)] 58)).alloc (.cells #[.int .i64 k] 38)).alloc (.cells #[.slice ao r.length c] 29) = W := ⟨_, rfl⟩
  have hbW : Below w.heap.size w W := hW ▸ vb_a (vb_a (vb_a (Below.refl _ _) _) _) _
  have k1 : Bk W w.heap.size #[.pointer (some ⟨lb, 0, none⟩)] := hW ▸ ((Bk.new _ _ _).al _).al _
  have k2 : Bk W (w.heap.size + 1) #[.int .i64 k] := hW ▸ (Bk.new' _ _ _ _ (by simp)).al _
  have k3 : Bk W (w.heap.size + 2) #[.slice ao r.length c] := hW ▸ Bk.new' _ _ _ _ (by simp)
  have hc : Cap3 W lb sb w.heap.size (w.heap.size + 1) (w.heap.size + 2) k r := ⟨k1.cell 0, k2.cell 0, ⟨_, k3.cell 0, hR.kept hbW⟩, fun e => by rcases e with e | e <;> omega, fun e => by rcases e with e | e <;> omega, fun e => by rcases e with e | e <;> omega⟩
  have HC := hid_intro (And.intro hc hbW)
  have HW := hid_intro hW
  clear hc k1 k2 k3 hbW hW hR
  go_enter Try.func34, Try.ntmps34
  go_wp2_with fail
  go_ret
  rw [HW.out]
  exact ⟨_, _, _, rfl, HC.out.1, HC.out.2⟩
set_option maxRecDepth 100000 in
theorem single1_any (lb sb cap p q s : Nat) (k : Int) (r : List (Int × Int)) (L : List ST) (w : World) (h : LS w lb sb cap L) (hk : Cap3 w lb sb p q s k r) (hroom : L.length + 1 ≤ cap) (hl : r.length ≤ 1099511627776) :
    Calls Try.prog 40 #[.pointer (some ⟨p, 0, none⟩), .pointer (some ⟨q, 0, none⟩), .pointer (some ⟨s, 0, none⟩)] w fun e w' => e = .returned (.tuple #[]) ∧ LS w' lb sb cap (L ++ [⟨k, r, (L.length : Int) + 1, 0⟩]) ∧ But (two lb sb) w w' := by
  obtain ⟨h1, h2, ⟨v, h3, hR⟩, _⟩ := hk
  have hput := put_any lb sb cap L k r v w h hroom _ hR hl
  obtain ⟨ao, c, rfl, _⟩ := hR.shape
  clear hR h hroom hl
  go_enter Try.func40, Try.ntmps40
  go_wp2_with fail
  refine hput.mono ?_; rintro e w2 ⟨rfl, hls, hbt⟩
  go_wp2_with fail
  go_end0
  exact ⟨rfl, hls, hbt⟩
set_option maxRecDepth 100000 in
theorem partSet_any (lb sb : Nat) (r : List (Int × Int)) (v : Value) (d : Option Addr) (n c : Nat) (w : World) (hlb : lb < w.heap.size ∧ sb < w.heap.size) (hR : RI w (two lb sb) r v) :
    Calls Try.prog 27 #[.pointer (some ⟨lb, 0, none⟩), .agg #[.int .i64 2, v, .int .i64 0, .int .i64 0, .bool false, .slice d n c]] w fun e w' => ∃ p q s, e = .returned (.func (.func 40) #[] #[.pointer (some ⟨p, 0, none⟩), .pointer (some ⟨q, 0, none⟩), .pointer (some ⟨s, 0, none⟩)]) ∧ Cap3 w' lb sb p q s 1 r ∧ Below w.heap.size w w' := by
  obtain ⟨ao, c1, rfl, _⟩ := hR.shape
  obtain ⟨W, hW⟩ : ∃ W, w.alloc (.cells #[.int .i64 2, .slice ao r.length c1, .int .i64 0, .int .i64 0, .bool false, .slice d n c] 32) = W := ⟨_, rfl⟩
  have hbW : Below w.heap.size w W := hW ▸ vb_a (Below.refl _ _) _
  have hs := single_any lb sb 1 r (.slice ao r.length c1) W ⟨Nat.lt_of_lt_of_le hlb.1 hbW.size, Nat.lt_of_lt_of_le hlb.2 hbW.size⟩ (hR.kept hbW)
  have HW := hid_intro hW
  clear hW hR hlb
  go_enter Try.func27, Try.ntmps27
  go_wp2_with fail
  rw [HW.out]
  refine hs.mono ?_; rintro e w2 ⟨p, q, s, rfl, hc, hb2⟩
  go_wp2_with fail
  go_ret
  exact ⟨p, q, s, rfl, hc, vb_t hbW hb2⟩
set_option maxRecDepth 100000 in
set_option maxHeartbeats 1600000 in
theorem from_any (lb sb cap : Nat) (L : List ST) (w : World) (h : LS w lb sb cap L) :
    Calls Try.prog 28 #[.pointer (some ⟨lb, 0, none⟩), .int .i64 0] w fun e w' => e = .returned (.slice (some ⟨sb, 0, none⟩) L.length L.length) ∧ Below w.heap.size w w' := by
  have hc := h.cell.1
  have hlen := h.len
  have hLI : (L.length : Int) ≤ (cap : Int) := by omega
  clear h
  go_enter Try.func28, Try.ntmps28
  go_wp2_with fail
  go_quiet (fail)
  all_goals
    go_wp2_with fail
    go_ret
    exact ⟨rfl, by with_reducible repeat (first | exact Below.refl _ _ | refine vb_d ?_ | refine vb_n ?_ _)⟩
end Go.Proofs.Ytcgohdfpmfpfiaa
