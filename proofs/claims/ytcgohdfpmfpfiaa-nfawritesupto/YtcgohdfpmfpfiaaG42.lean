/-
  Compile, whole. Conditions: nothing in the tree is longer than 2^20.
  Counts as they are written out: the same states. No condition.
-/
import Derived.Test.YtcgohdfpmfpfiaaG41
import Derived.Test.YtcgohdfpmfpfiaaXBG
import Derived.Test.YtcgohdfpmfpfiaaXQ7
namespace Go.Proofs.Ytcgohdfpmfpfiaa
open Go.RowKit
attribute [local go_sem] setCell_drewN alloc_drewN

set_option maxRecDepth 100000 in
set_option maxHeartbeats 1600000 in
theorem comp_bad (t : RX) (hbd : BdX 1048576 t) (f : Nat → Value) (w : World) (Y : Nat → Prop) (hv : XI w Y t f) (most : Int) (hm : I64 most) (hr : rightB 1000 t = false) :
    Calls Try.prog 10 #[xa f, .int .i64 most] w fun e w' => e = .returned (.tuple #[.slice none 0 0, .int .i64 91]) ∧ Below w.heap.size w w' := by
  obtain ⟨k, a1, n1, c1, lo, hi, z, a2, n2, c2, e0, e1, e2, e3, e4, e5⟩ := hv.six
  have exa : xa f = .agg #[.int .i64 k, .slice a1 n1 c1, .int .i64 lo, .int .i64 hi, .bool z, .slice a2 n2 c2] := by unfold xa; rw [e0, e1, e2, e3, e4, e5]
  obtain ⟨W, hW⟩ : ∃ W, w.alloc (.cells #[.int .i64 k, .slice a1 n1 c1, .int .i64 lo, .int .i64 hi, .bool z, .slice a2 n2 c2] 32) = W := ⟨_, rfl⟩
  have hbW : Below w.heap.size w W := hW ▸ vb_a (Below.refl _ _) _
  have kX : Bk W w.heap.size #[.int .i64 k, .slice a1 n1 c1, .int .i64 lo, .int .i64 hi, .bool z, .slice a2 n2 c2] := hW ▸ Bk.new _ _ _
  have hs := size_any t f W Y (hbd.mono (by omega)) (hv.kept hbW) (min most 65536) (I64_of (by unfold I64 at hm; omega) (by omega))
  have hev : errV t = 91 := by unfold errV; rw [hr]; rfl
  rw [hev] at hs
  rw [exa] at hs ⊢
  have HW := hid_intro hW
  generalize sizeV t (min most 65536) = sv at *
  clear hW hv e0 e1 e2 e3 e4 e5 exa hm hbd hr hev kX
  go_enter Try.func10, Try.ntmps10
  go_wp2_with fail
  rw [HW.out]
  refine hs.mono ?_; rintro e w1 ⟨rfl, hb1⟩
  go_wp2_with fail
  go_ret2
  exact ⟨rfl, vb_t hbW hb1⟩
set_option maxRecDepth 100000 in
set_option maxHeartbeats 1600000 in
theorem comp_big (t : RX) (hbd : BdX 1048576 t) (f : Nat → Value) (w : World) (Y : Nat → Prop) (hv : XI w Y t f) (most : Int) (hm : I64 most) (hr : rightB 1000 t = true) (hbig : min most 65536 < (szX t : Int) + 1) :
    Calls Try.prog 10 #[xa f, .int .i64 most] w fun e w' => e = .returned (.tuple #[.slice none 0 0, .int .i64 100]) ∧ Below w.heap.size w w' := by
  obtain ⟨k, a1, n1, c1, lo, hi, z, a2, n2, c2, e0, e1, e2, e3, e4, e5⟩ := hv.six
  have exa : xa f = .agg #[.int .i64 k, .slice a1 n1 c1, .int .i64 lo, .int .i64 hi, .bool z, .slice a2 n2 c2] := by unfold xa; rw [e0, e1, e2, e3, e4, e5]
  obtain ⟨W, hW⟩ : ∃ W, w.alloc (.cells #[.int .i64 k, .slice a1 n1 c1, .int .i64 lo, .int .i64 hi, .bool z, .slice a2 n2 c2] 32) = W := ⟨_, rfl⟩
  have hbW : Below w.heap.size w W := hW ▸ vb_a (Below.refl _ _) _
  have kX : Bk W w.heap.size #[.int .i64 k, .slice a1 n1 c1, .int .i64 lo, .int .i64 hi, .bool z, .slice a2 n2 c2] := hW ▸ Bk.new _ _ _
  have hs := size_any t f W Y (hbd.mono (by omega)) (hv.kept hbW) (min most 65536) (I64_of (by unfold I64 at hm; omega) (by omega))
  have hev : errV t = 0 := by unfold errV; rw [hr]; rfl
  have hsv : min most 65536 < sizeV t (min most 65536) := by unfold sizeV om; rw [hr, if_pos rfl, if_neg (by omega)]; omega
  rw [hev] at hs
  rw [exa] at hs ⊢
  have HW := hid_intro hW
  generalize sizeV t (min most 65536) = sv at *
  generalize hmm : min most 65536 = mm at *
  clear hW hv e0 e1 e2 e3 e4 e5 exa hm hbd hr hev kX hbig
  go_enter Try.func10, Try.ntmps10
  go_wp2_with fail
  rw [HW.out]
  refine hs.mono ?_; rintro e w1 ⟨rfl, hb1⟩
  go_wp2_with fail
  go_ret2
  exact ⟨rfl, vb_t hbW hb1⟩
set_option maxRecDepth 100000 in
set_option maxHeartbeats 1600000 in
theorem comp_ok (t : RX) (hbd : BdX 1048576 t) (f : Nat → Value) (w : World) (Y : Nat → Prop) (hv : XI w Y t f) (most : Int) (hr : rightB 1000 t = true) (hbig : (szX t : Int) + 1 ≤ min most 65536) :
    Calls Try.prog 10 #[xa f, .int .i64 most] w fun e w' => ∃ sb, e = .returned (.tuple #[.slice (some ⟨sb, 0, none⟩) (szX t + 1) (szX t + 1), .int .i64 0]) ∧ SI w' (fun _ => False) (nfaL t) (.slice (some ⟨sb, 0, none⟩) (szX t + 1) (szX t + 1)) ∧ Below w.heap.size w w' := by
  obtain ⟨k, a1, n1, c1, lo, hi, z, a2, n2, c2, e0, e1, e2, e3, e4, e5⟩ := hv.six
  have exa : xa f = .agg #[.int .i64 k, .slice a1 n1 c1, .int .i64 lo, .int .i64 hi, .bool z, .slice a2 n2 c2] := by unfold xa; rw [e0, e1, e2, e3, e4, e5]
  obtain ⟨W, hW⟩ : ∃ W, w.alloc (.cells #[.int .i64 k, .slice a1 n1 c1, .int .i64 lo, .int .i64 hi, .bool z, .slice a2 n2 c2] 32) = W := ⟨_, rfl⟩
  have hbW : Below w.heap.size w W := hW ▸ vb_a (Below.refl _ _) _
  have kX : Bk W w.heap.size #[.int .i64 k, .slice a1 n1 c1, .int .i64 lo, .int .i64 hi, .bool z, .slice a2 n2 c2] := hW ▸ Bk.new _ _ _
  have hs := size_any t f W Y (hbd.mono (by omega)) (hv.kept hbW) (min most 65536) (I64_of (by omega) (by omega))
  have hev : errV t = 0 := by unfold errV; rw [hr]; rfl
  have hsv : sizeV t (min most 65536) = ((szX t + 1 : Nat) : Int) := by unfold sizeV om; rw [hr, if_pos rfl, if_neg (by omega)]; omega
  have hau := fun w' (hb : Below W.heap.size W w') => auto_any t 1000 hr hbd f w' Y (hv.kept (vb_t hbW hb)) (by omega)
  rw [hev, hsv] at hs
  rw [exa] at hs hau ⊢
  obtain ⟨C, hC⟩ : ∃ C, szX t + 1 = C := ⟨_, rfl⟩
  rw [hC] at hs hau ⊢
  have hle : (C : Int) ≤ min most 65536 := by omega
  have HW := hid_intro hW
  have HAU := hid_intro hau
  have HK := hid_intro kX
  have HBW := hid_intro hbW
  obtain ⟨mm, hmm⟩ : ∃ mm, min most 65536 = mm := ⟨_, rfl⟩
  rw [hmm] at hs hle
  clear hW hv e0 e1 e2 e3 e4 e5 exa hbd hr hev kX hbig hau hsv hC hbW
  go_enter Try.func10, Try.ntmps10
  go_wp2_with fail
  rw [HW.out]
  refine hs.mono ?_; rintro e w1 ⟨rfl, hb1⟩
  obtain ⟨x0, x1, x2, x3, x4, x5⟩ := (HK.out.bel hb1).c6
  have ha := HAU.out w1 hb1
  have HB1 := hid_intro hb1
  clear hb1 hs
  go_wp2_with fail
  refine ha.mono ?_; rintro e w2 ⟨sb, rfl, hsi, hb2⟩
  have HF := hid_intro (And.intro hsi (vb_t (vb_t HBW.out HB1.out) hb2))
  clear x0 x1 x2 x3 x4 x5 hsi hb2 ha
  go_wp2_with fail
  go_ret2
  exact ⟨sb, rfl, HF.out⟩
end Go.Proofs.Ytcgohdfpmfpfiaa

namespace Go.Proofs.Ytcgohdfpmfpfiaa

mutual
/-- How many levels a tree has. -/
def lvX : RX → Nat
  | .mk _ _ _ _ _ s => lvL s + 1
def lvL : List RX → Nat
  | [] => 0
  | x :: l => max (lvX x) (lvL l)
end
theorem lvL_mem : ∀ (l : List RX) (x : RX), x ∈ l → lvX x ≤ lvL l
  | y :: l, x, h => by
    rw [lvL]
    rcases List.mem_cons.1 h with rfl | h
    · omega
    · have := lvL_mem l x h; omega
theorem lvL_append : ∀ (l : List RX) (x : RX), lvL (l ++ [x]) = max (lvL l) (lvX x)
  | [], x => by simp [lvL]
  | y :: l, x => by rw [List.cons_append, lvL, lvL, lvL_append l x]; omega
theorem lvL_take (l : List RX) (i : Nat) (h : i < l.length) : lvL (l.take (i + 1)) = max (lvL (l.take i)) (lvX l[i]) := by
  rw [List.take_add_one, List.getElem?_eq_getElem h]
  exact lvL_append _ _
/-- A right tree is right at its own levels. -/
theorem right_lv : ∀ (t : RX) (d e : Nat), rightB d t = true → lvX t ≤ e → rightB e t = true := by
  intro t
  induction t using RX.ind with
  | h k r lo hi z s ih =>
    intro d e hr hl
    rw [lvX] at hl
    cases d with
    | zero => simp [rightB] at hr
    | succ d =>
      cases e with
      | zero => omega
      | succ e =>
        simp only [rightB, Bool.and_eq_true, List.all_eq_true] at hr ⊢
        exact ⟨hr.1, fun x hx => ih x hx d e (hr.2 x hx) (by have := lvL_mem s x hx; omega)⟩
theorem lv_right : ∀ (t : RX) (d : Nat), rightB d t = true → lvX t ≤ d := by
  intro t
  induction t using RX.ind with
  | h k r lo hi z s ih =>
    intro d hr
    cases d with
    | zero => simp [rightB] at hr
    | succ d =>
      simp only [rightB, Bool.and_eq_true, List.all_eq_true] at hr
      rw [lvX]
      have : ∀ l : List RX, (∀ x ∈ l, lvX x ≤ d) → lvL l ≤ d := fun l => by
        induction l with
        | nil => intro _; rw [lvL]; omega
        | cons y l ihl => intro h; rw [lvL]; have := h y (by simp); have := ihl (fun x hx => h x (by simp [hx])); omega
      have := this s (fun x hx => ih x hx d (hr.2 x hx))
      omega
def wA (x : RX) (n : Nat) : RX := .mk 5 [] (n : Int) (n : Int) false [x]
def wB (x : RX) (n : Nat) : RX := .mk 3 [] 0 0 false (List.replicate n x)
def wR (x : RX) : RX := .mk 5 [] 0 (-1) false [x]
def wC (x : RX) (n : Nat) : RX := .mk 5 [] (n : Int) (-1) true [x]
def wD (x : RX) (n : Nat) : RX := .mk 3 [] 0 0 false (List.replicate n x ++ [wR x])
theorem szL_rep (x : RX) : ∀ n, szL (List.replicate n x) = n * szX x
  | 0 => by simp [szL]
  | n + 1 => by rw [List.replicate_succ, szL, szL_rep x n, Nat.succ_mul]; omega
theorem bldL_rep (x : RX) : ∀ n m, bldL (List.replicate n x) m = rep (bld x) (szX x) m n
  | 0, _ => rfl
  | n + 1, m => by rw [List.replicate_succ, bldL, rep, bldL_rep x n]
theorem sz_AB2 (x : RX) (n : Nat) : szX (wA x n) = szX (wB x n) := by
  unfold wA wB
  rw [szX_5, szX_3, szL_one, szL_rep, if_neg (by omega), Int.toNat_natCast, Int.sub_self]
  simp
theorem bld_AB2 (x : RX) (n m : Nat) : bld (wA x n) m = bld (wB x n) m := by
  unfold wA wB
  rw [bld_5, bld_3, szL_one, bldL_one, bldL_rep, if_neg (by omega), Int.toNat_natCast, Int.sub_self]
  simp [rep]
theorem sz_CD2 (x : RX) (n : Nat) : szX (wC x n) = szX (wD x n) := by
  unfold wC wD wR
  rw [szX_5, szX_3, szL_append, szL_one, szL_one, szL_rep, szX_5, if_pos rfl, if_pos rfl, Int.toNat_natCast, szL_one]
  simp
theorem bld_CD2 (x : RX) (n m : Nat) : bld (wC x n) m = bld (wD x n) m := by
  unfold wC wD wR
  rw [bld_5, bld_3, bldL_append, szL_one, bldL_one, bldL_rep, bldL_one, szL_rep, bld_5, szL_one, bldL_one, if_pos rfl, if_pos rfl, Int.toNat_natCast]
  simp [rep]
theorem right_wA (x : RX) (n e : Nat) (hn : n ≤ 12) (h : rightB e x = true) : rightB (e + 1) (wA x n) = true := by
  show (headB 5 [] (n : Int) (n : Int) false && kindB 5 (n : Int) (n : Int) ([x] : List RX).length && ([x] : List RX).all (rightB e)) = true
  rw [headB_yes ⟨Or.inr rfl, Or.inl rfl⟩, kindB_5, rg_nil]
  simp [h]
  omega
theorem right_wC (x : RX) (n e : Nat) (hn : n ≤ 12) (h : rightB e x = true) : rightB (e + 1) (wC x n) = true := by
  show (headB 5 [] (n : Int) (-1) true && kindB 5 (n : Int) (-1) ([x] : List RX).length && ([x] : List RX).all (rightB e)) = true
  rw [headB_yes ⟨Or.inr rfl, Or.inl rfl⟩, kindB_5, rg_nil]
  simp [h]
  omega
theorem right_wR (x : RX) (e : Nat) (h : rightB e x = true) : rightB (e + 1) (wR x) = true := by
  show (headB 5 [] 0 (-1) false && kindB 5 0 (-1) ([x] : List RX).length && ([x] : List RX).all (rightB e)) = true
  rw [headB_yes ⟨Or.inr rfl, Or.inl rfl⟩, kindB_5, rg_nil]
  simp [h]
theorem right_seq (l : List RX) (e : Nat) (h2 : 2 ≤ l.length) (h : ∀ x ∈ l, rightB e x = true) : rightB (e + 1) (.mk 3 [] 0 0 false l) = true := by
  show (headB 3 [] 0 0 false && kindB 3 0 0 l.length && l.all (rightB e)) = true
  rw [headB_yes ⟨Or.inr rfl, Or.inr ⟨rfl, rfl, rfl⟩⟩, kindB_34 (Or.inl rfl), rg_nil, decide_eq_false (by omega), Bool.true_and, Bool.not_false, Bool.true_and, List.all_eq_true]
  exact h
end Go.Proofs.Ytcgohdfpmfpfiaa
