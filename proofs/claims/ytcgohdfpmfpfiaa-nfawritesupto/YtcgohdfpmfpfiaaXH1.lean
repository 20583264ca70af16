/-
  The tree that heads compiles: how it lies, how many states it has, and which. No condition.
-/
import Derived.Test.YtcgohdfpmfpfiaaG31
import Derived.Test.YtcgohdfpmfpfiaaXN6
import Derived.Test.YtcgohdfpmfpfiaaG41
namespace Go.Proofs.Ytcgohdfpmfpfiaa
open Go.RowKit
attribute [local go_sem] setCell_drewN alloc_drewN

def lA : RX := .mk 2 [(97, 97)] 0 0 false []
def lB : RX := .mk 2 [(98, 98)] 0 0 false []
def xAB : RX := .mk 4 [] 0 0 false [lA, lB]
def xM : RX := .mk 5 [] 1000 1000 false [lA]
def xMM : RX := .mk 5 [] 1000 1000 false [xM]
theorem rgA : rgB [(97, 97)] = true := by decide
theorem rgBB : rgB [(98, 98)] = true := by decide
theorem rgN : rgB [] = true := by decide
theorem right_set' (d : Nat) (r : List (Int × Int)) : rightB (d + 1) (.mk 2 r 0 0 false []) = rgB r := by
  show (headB 2 r 0 0 false && kindB 2 0 0 ([] : List RX).length && ([] : List RX).all (rightB d)) = _
  rw [headB_yes ⟨Or.inl rfl, Or.inr ⟨rfl, rfl, rfl⟩⟩, kindB_1 (Or.inl rfl)]
  simp
theorem right_AB : rightB 1000 xAB = true := by
  show (headB 4 [] 0 0 false && kindB 4 0 0 ([lA, lB] : List RX).length && ([lA, lB] : List RX).all (rightB 999)) = true
  rw [headB_yes ⟨Or.inr rfl, Or.inr ⟨rfl, rfl, rfl⟩⟩, kindB_34 (Or.inr rfl), rgN]
  have h1 : rightB 999 lA = true := (right_set' 998 _).trans rgA
  have h2 : rightB 999 lB = true := (right_set' 998 _).trans rgBB
  simp [h1, h2]
theorem right_rep (d : Nat) (y : RX) (h : rightB d y = true) : rightB (d + 1) (.mk 5 [] 1000 1000 false [y]) = true := by
  show (headB 5 [] 1000 1000 false && kindB 5 1000 1000 ([y] : List RX).length && ([y] : List RX).all (rightB d)) = true
  rw [headB_yes ⟨Or.inr rfl, Or.inl rfl⟩, kindB_5, rgN]
  simp [h]
theorem right_MM : rightB 1000 xMM = true := right_rep 999 _ (right_rep 998 _ ((right_set' 997 _).trans rgA))
theorem sz_AB : szX xAB = 4 := rfl
theorem sz_MM : szX xMM = 1000000 := by decide
theorem size_AB (most : Int) (h : most = 5 ∨ most = 4 ∨ most = 100) : sizeV xAB most = 5 ∧ errV xAB = 0 := by
  unfold sizeV errV
  rw [right_AB, if_pos rfl, if_pos rfl, sz_AB]
  rcases h with rfl | rfl | rfl <;> exact ⟨by decide, rfl⟩
theorem size_MM : sizeV xMM 100 = 101 ∧ errV xMM = 0 := by
  unfold sizeV errV
  rw [right_MM, if_pos rfl, if_pos rfl, sz_MM]
  exact ⟨by decide, rfl⟩
theorem ri_1 (w : World) (c : Int) (hc : I64 c) (n : Nat) (k : Bk w n #[.int .i64 c, .int .i64 c]) : RI w (fun _ => False) [(c, c)] (.slice (some ⟨n, 0, none⟩) 1 1) := by
  refine ⟨some ⟨n, 0, none⟩, 1, rfl, Nat.le_refl _, by unfold maxLen; omega, fun r hr => ?_, Or.inr ⟨n, 0, rfl, fun h => h, fun i hi => ?_⟩⟩
  · obtain rfl : r = (c, c) := by simpa using hr
    exact ⟨hc, hc⟩
  · obtain rfl : i = 0 := by simp at hi; omega
    exact k.c2
/-- The tree of heads lies in a world. -/
structure HT (w : World) (sk b1 b2 : Nat) : Prop where
  k : Bk w sk #[.int .i64 2, .slice (some ⟨b1, 0, none⟩) 1 1, .int .i64 0, .int .i64 0, .bool false, .slice none 0 0, .int .i64 2, .slice (some ⟨b2, 0, none⟩) 1 1, .int .i64 0, .int .i64 0, .bool false, .slice none 0 0]
  k1 : Bk w b1 #[.int .i64 97, .int .i64 97]
  k2 : Bk w b2 #[.int .i64 98, .int .i64 98]
theorem HT.bel {w w' : World} {sk b1 b2 : Nat} (h : HT w sk b1 b2) (hb : Below w.heap.size w w') : HT w' sk b1 b2 := ⟨h.k.bel hb, h.k1.bel hb, h.k2.bel hb⟩
theorem xi_let (w : World) (c : Int) (hc : I64 c) (n : Nat) (k : Bk w n #[.int .i64 c, .int .i64 c]) : XI w (fun _ => False) (.mk 2 [(c, c)] 0 0 false []) (fun i => [Value.int .i64 2, .slice (some ⟨n, 0, none⟩) 1 1, .int .i64 0, .int .i64 0, .bool false, .slice none 0 0].getD i .nilIface) := xi_set1 w _ _ _ (ri_1 w c hc n k)
theorem HT.xi {w : World} {sk b1 b2 : Nat} (h : HT w sk b1 b2) : XI w (fun _ => False) xAB (fun i => [Value.int .i64 4, .slice none 0 0, .int .i64 0, .int .i64 0, .bool false, .slice (some ⟨sk, 0, none⟩) 2 2].getD i .nilIface) := by
  refine XI.mk (some ⟨sk, 0, none⟩) 2 (fun i j => if i = 0 then [Value.int .i64 2, .slice (some ⟨b1, 0, none⟩) 1 1, .int .i64 0, .int .i64 0, .bool false, .slice none 0 0].getD j .nilIface else [Value.int .i64 2, .slice (some ⟨b2, 0, none⟩) 1 1, .int .i64 0, .int .i64 0, .bool false, .slice none 0 0].getD j .nilIface) rfl (RI.nil _ _) rfl rfl rfl rfl ⟨Nat.le_refl _, by unfold maxLen; omega⟩ ⟨I64_of (by omega) (by omega), I64_of (by omega) (by omega), I64_of (by omega) (by omega)⟩ (Or.inr ⟨sk, 0, rfl, fun h => h, fun i hi j hj => ?_⟩) (fun i hi => ?_)
  · have hi' : i < 2 := hi
    rw [h.k.cell]
    match i, hi', j, hj with
    | 0, _, 0, _ => rfl
    | 0, _, 1, _ => rfl
    | 0, _, 2, _ => rfl
    | 0, _, 3, _ => rfl
    | 0, _, 4, _ => rfl
    | 0, _, 5, _ => rfl
    | 1, _, 0, _ => rfl
    | 1, _, 1, _ => rfl
    | 1, _, 2, _ => rfl
    | 1, _, 3, _ => rfl
    | 1, _, 4, _ => rfl
    | 1, _, 5, _ => rfl
  · have hi' : i < 2 := hi
    match i, hi' with
    | 0, _ => exact xi_let w 97 (I64_of (by omega) (by omega)) b1 h.k1
    | 1, _ => exact xi_let w 98 (I64_of (by omega) (by omega)) b2 h.k2
theorem bd_let (c : Int) : BdX 1099511627776 (.mk 2 [(c, c)] 0 0 false []) := .mk (by simp) (by simp) (fun c hc => by simp at hc)
theorem bd_AB : BdX 1099511627776 xAB := .mk (by simp) (by simp) (fun c hc => by
  simp only [List.mem_cons, List.not_mem_nil, or_false] at hc
  rcases hc with rfl | rfl
  · exact bd_let 97
  · exact bd_let 98)
theorem bd_MM : BdX 1099511627776 xMM := .mk (by simp) (by simp) (fun c hc => by
  obtain rfl : c = xM := by simpa using hc
  exact .mk (by simp) (by simp) (fun c hc => by
    obtain rfl : c = lA := by simpa using hc
    exact bd_let 97))
theorem HT.size {w : World} {sk b1 b2 : Nat} (h : HT w sk b1 b2) (most : Int) (hm : most = 5 ∨ most = 4 ∨ most = 100) :
    Calls Try.prog 11 #[.agg #[.int .i64 4, .slice none 0 0, .int .i64 0, .int .i64 0, .bool false, .slice (some ⟨sk, 0, none⟩) 2 2], .int .i64 most] w fun e w' => e = .returned (.tuple #[.int .i64 5, .int .i64 0]) ∧ Below w.heap.size w w' := by
  have hs := size_any xAB _ w _ bd_AB h.xi most (by rcases hm with rfl | rfl | rfl <;> exact I64_of (by omega) (by omega))
  rw [(size_AB most hm).1, (size_AB most hm).2] at hs
  exact hs
set_option maxRecDepth 100000 in
set_option maxHeartbeats 1600000 in
theorem compile_no {w : World} {sk b1 b2 : Nat} (h : HT w sk b1 b2) :
    Calls Try.prog 10 #[.agg #[.int .i64 4, .slice none 0 0, .int .i64 0, .int .i64 0, .bool false, .slice (some ⟨sk, 0, none⟩) 2 2], .int .i64 4] w fun e w' => e = .returned (.tuple #[.slice none 0 0, .int .i64 100]) ∧ Below w.heap.size w w' := by
  obtain ⟨W, hW⟩ : ∃ W, w.alloc (.cells #[.int .i64 4, .slice none 0 0, .int .i64 0, .int .i64 0, .bool false, .slice (some ⟨sk, 0, none⟩) 2 2] 32) = W := ⟨_, rfl⟩
  have hbW : Below w.heap.size w W := hW ▸ vb_a (Below.refl _ _) _
  have hs := (h.bel hbW).size 4 (by omega)
  have HW := hid_intro hW
  clear hW h
  go_enter Try.func10, Try.ntmps10
  go_wp2_with fail
  rw [HW.out]
  refine hs.mono ?_; rintro e w1 ⟨rfl, hb1⟩
  go_wp2_with fail
  go_ret2
  exact ⟨rfl, vb_t hbW hb1⟩
set_option maxRecDepth 100000 in
set_option maxHeartbeats 1600000 in
theorem compile_ok {w : World} {sk b1 b2 : Nat} (h : HT w sk b1 b2) :
    Calls Try.prog 10 #[.agg #[.int .i64 4, .slice none 0 0, .int .i64 0, .int .i64 0, .bool false, .slice (some ⟨sk, 0, none⟩) 2 2], .int .i64 5] w fun e w' => ∃ sb, e = .returned (.tuple #[.slice (some ⟨sb, 0, none⟩) 5 5, .int .i64 0]) ∧ SI w' (fun _ => False) (auto5 [(97, 97)] [(98, 98)]) (.slice (some ⟨sb, 0, none⟩) 5 5) ∧ Below w.heap.size w w' := by
  obtain ⟨W, hW⟩ : ∃ W, w.alloc (.cells #[.int .i64 4, .slice none 0 0, .int .i64 0, .int .i64 0, .bool false, .slice (some ⟨sk, 0, none⟩) 2 2] 32) = W := ⟨_, rfl⟩
  have hbW : Below w.heap.size w W := hW ▸ vb_a (Below.refl _ _) _
  have kX : Bk W w.heap.size #[.int .i64 4, .slice none 0 0, .int .i64 0, .int .i64 0, .bool false, .slice (some ⟨sk, 0, none⟩) 2 2] := hW ▸ Bk.new _ _ _
  have hs := (h.bel hbW).size 5 (by omega)
  have HH := hid_intro (h.bel hbW)
  have HW := hid_intro hW
  clear hW h
  go_enter Try.func10, Try.ntmps10
  go_wp2_with fail
  rw [HW.out]
  refine hs.mono ?_; rintro e w1 ⟨rfl, hb1⟩
  have h1 := HH.out.bel hb1
  have ha := auto2_any none 0 0 sk 0 2 (by omega) (some ⟨b1, 0, none⟩) (some ⟨b2, 0, none⟩) none none [(97, 97)] [(98, 98)] 1 1 0 0 0 0 w1
    ⟨h1.k.cell 0, h1.k.cell 1, h1.k.cell 2, h1.k.cell 3, h1.k.cell 4, h1.k.cell 5⟩ ⟨h1.k.cell 6, h1.k.cell 7, h1.k.cell 8, h1.k.cell 9, h1.k.cell 10, h1.k.cell 11⟩
    (ri_1 w1 97 (I64_of (by omega) (by omega)) b1 h1.k1) (ri_1 w1 98 (I64_of (by omega) (by omega)) b2 h1.k2) (by simp) (by simp)
  obtain ⟨x0, x1, x2, x3, x4, x5⟩ := (kX.bel hb1).c6
  clear h1 hs kX
  go_wp2_with fail
  refine ha.mono ?_; rintro e w2 ⟨sb, rfl, hsi, hb2⟩
  go_wp2_with fail
  go_ret2
  exact ⟨sb, rfl, hsi, vb_t (vb_t hbW hb1) hb2⟩
set_option maxRecDepth 100000 in
theorem letter_any (c : Int) (w : World) : Calls Try.prog 18 #[.int .i64 c] w fun e w' => ∃ n, e = .returned (.agg #[.int .i64 2, .slice (some ⟨n, 0, none⟩) 1 1, .int .i64 0, .int .i64 0, .bool false, .slice none 0 0]) ∧ Bk w' n #[.int .i64 c, .int .i64 c] ∧ Below w.heap.size w w' := by
  go_enter Try.func18, Try.ntmps18
  go_wp2_with fail
  refine bodyPost_ret (v := .agg #[.int .i64 2, .slice (some ⟨w.heap.size + 1, 0, none⟩) 1 1, .int .i64 0, .int .i64 0, .bool false, .slice none 0 0]) (by simp [results, Try.results18, go_sem]) rfl ⟨_, rfl, ?_, ?_⟩
  · exact Bk.new' _ _ _ _ (by simp)
  · with_reducible repeat (first | exact Below.refl _ _ | refine vb_a ?_ _)
end Go.Proofs.Ytcgohdfpmfpfiaa
