/-
  Compile, whole. Conditions: nothing in the tree is longer than 2^20.
-/
import Derived.Test.YtcgohdfpmfpfiaaXBH
namespace Go.Proofs.Ytcgohdfpmfpfiaa
open Go.RowKit
attribute [local go_sem] setCell_drewN alloc_drewN

set_option maxRecDepth 100000 in
set_option maxHeartbeats 1600000 in
theorem comp_bad (t : RX) (hbd : BdX 1048576 t) (f : Nat → Value) (w : World) (Y : Nat → Prop) (hv : XI w Y t f) (most : Int) (hm : I64 most) (hr : rightB 1000 t = false) :
    Calls Try.prog 10 #[xa f, .int .i64 most] w fun e w' => e = .returned (.tuple #[.slice none 0 0, .int .i64 91]) ∧ Below w.heap.size w w' := by
  obtain ⟨k, a1, n1, c1, lo, hi, z, a2, n2, c2, e0, e1, e2, e3, e4, e5⟩ := hv.six
  have exa : xa f = .agg #[.int .i64 k, .slice a1 n1 c1, .int .i64 lo, .int .i64 hi, .bool z, .slice a2 n2 c2] := by unfold xa; rw [e0, e1, e2, e3, e4, e5]
  obtain ⟨W, hW⟩ : ∃ W, w.alloc (.cells #[.int .i64 k, .slice a1 n1 c1, .int .i64 lo, .int .i64 hi, .bool z, .slice a2 n2 c2] 32) = W := ⟨_, rfl⟩
  have hbW : Below w.heap.size w W := hW ▸ vb_a (Below.refl _ _) _
  have kX : Bk W w.heap.size #[.int .i64 k, .slice a1 n1 c1, .int .i64 lo, .int .i64 hi, .bool z, .slice a2 n2 c2] := hW ▸ Bk.new _ _ _
  have hs := size_any t f W Y (hbd.mono (by omega)) (hv.kept hbW) (min most 65536) (I64_of (by unfold I64 at hm; omega) (by omega))
  have hev : errV t = 91 := by unfold errV; rw [hr]; rfl
  rw [hev] at hs
  rw [exa] at hs ⊢
  have HW := hid_intro hW
  generalize sizeV t (min most 65536) = sv at *
  clear hW hv e0 e1 e2 e3 e4 e5 exa hm hbd hr hev kX
  go_enter Try.func10, Try.ntmps10
  go_wp2_with fail
  rw [HW.out]
  refine hs.mono ?_; rintro e w1 ⟨rfl, hb1⟩
  go_wp2_with fail
  go_ret2
  exact ⟨rfl, vb_t hbW hb1⟩
set_option maxRecDepth 100000 in
set_option maxHeartbeats 1600000 in
theorem comp_big (t : RX) (hbd : BdX 1048576 t) (f : Nat → Value) (w : World) (Y : Nat → Prop) (hv : XI w Y t f) (most : Int) (hm : I64 most) (hr : rightB 1000 t = true) (hbig : min most 65536 < (szX t : Int) + 1) :
    Calls Try.prog 10 #[xa f, .int .i64 most] w fun e w' => e = .returned (.tuple #[.slice none 0 0, .int .i64 100]) ∧ Below w.heap.size w w' := by
  obtain ⟨k, a1, n1, c1, lo, hi, z, a2, n2, c2, e0, e1, e2, e3, e4, e5⟩ := hv.six
  have exa : xa f = .agg #[.int .i64 k, .slice a1 n1 c1, .int .i64 lo, .int .i64 hi, .bool z, .slice a2 n2 c2] := by unfold xa; rw [e0, e1, e2, e3, e4, e5]
  obtain ⟨W, hW⟩ : ∃ W, w.alloc (.cells #[.int .i64 k, .slice a1 n1 c1, .int .i64 lo, .int .i64 hi, .bool z, .slice a2 n2 c2] 32) = W := ⟨_, rfl⟩
  have hbW : Below w.heap.size w W := hW ▸ vb_a (Below.refl _ _) _
  have kX : Bk W w.heap.size #[.int .i64 k, .slice a1 n1 c1, .int .i64 lo, .int .i64 hi, .bool z, .slice a2 n2 c2] := hW ▸ Bk.new _ _ _
  have hs := size_any t f W Y (hbd.mono (by omega)) (hv.kept hbW) (min most 65536) (I64_of (by unfold I64 at hm; omega) (by omega))
  have hev : errV t = 0 := by unfold errV; rw [hr]; rfl
  have hsv : min most 65536 < sizeV t (min most 65536) := by unfold sizeV om; rw [hr, if_pos rfl, if_neg (by omega)]; omega
  rw [hev] at hs
  rw [exa] at hs ⊢
  have HW := hid_intro hW
  generalize sizeV t (min most 65536) = sv at *
  generalize hmm : min most 65536 = mm at *
  clear hW hv e0 e1 e2 e3 e4 e5 exa hm hbd hr hev kX hbig
  go_enter Try.func10, Try.ntmps10
  go_wp2_with fail
  rw [HW.out]
  refine hs.mono ?_; rintro e w1 ⟨rfl, hb1⟩
  go_wp2_with fail
  go_ret2
  exact ⟨rfl, vb_t hbW hb1⟩
set_option maxRecDepth 100000 in
set_option maxHeartbeats 1600000 in
theorem comp_ok (t : RX) (hbd : BdX 1048576 t) (f : Nat → Value) (w : World) (Y : Nat → Prop) (hv : XI w Y t f) (most : Int) (hr : rightB 1000 t = true) (hbig : (szX t : Int) + 1 ≤ min most 65536) :
    Calls Try.prog 10 #[xa f, .int .i64 most] w fun e w' => ∃ sb, e = .returned (.tuple #[.slice (some ⟨sb, 0, none⟩) (szX t + 1) (szX t + 1), .int .i64 0]) ∧ SI w' (fun _ => False) (nfaL t) (.slice (some ⟨sb, 0, none⟩) (szX t + 1) (szX t + 1)) ∧ Below w.heap.size w w' := by
  obtain ⟨k, a1, n1, c1, lo, hi, z, a2, n2, c2, e0, e1, e2, e3, e4, e5⟩ := hv.six
  have exa : xa f = .agg #[.int .i64 k, .slice a1 n1 c1, .int .i64 lo, .int .i64 hi, .bool z, .slice a2 n2 c2] := by unfold xa; rw [e0, e1, e2, e3, e4, e5]
  obtain ⟨W, hW⟩ : ∃ W, w.alloc (.cells #[.int .i64 k, .slice a1 n1 c1, .int .i64 lo, .int .i64 hi, .bool z, .slice a2 n2 c2] 32) = W := ⟨_, rfl⟩
  have hbW : Below w.heap.size w W := hW ▸ vb_a (Below.refl _ _) _
  have kX : Bk W w.heap.size #[.int .i64 k, .slice a1 n1 c1, .int .i64 lo, .int .i64 hi, .bool z, .slice a2 n2 c2] := hW ▸ Bk.new _ _ _
  have hs := size_any t f W Y (hbd.mono (by omega)) (hv.kept hbW) (min most 65536) (I64_of (by omega) (by omega))
  have hev : errV t = 0 := by unfold errV; rw [hr]; rfl
  have hsv : sizeV t (min most 65536) = ((szX t + 1 : Nat) : Int) := by unfold sizeV om; rw [hr, if_pos rfl, if_neg (by omega)]; omega
  have hau := fun w' (hb : Below W.heap.size W w') => auto_any t 1000 hr hbd f w' Y (hv.kept (vb_t hbW hb)) (by omega)
  rw [hev, hsv] at hs
  rw [exa] at hs hau ⊢
  obtain ⟨C, hC⟩ : ∃ C, szX t + 1 = C := ⟨_, rfl⟩
  rw [hC] at hs hau ⊢
  have hle : (C : Int) ≤ min most 65536 := by omega
  have HW := hid_intro hW
  have HAU := hid_intro hau
  have HK := hid_intro kX
  have HBW := hid_intro hbW
  obtain ⟨mm, hmm⟩ : ∃ mm, min most 65536 = mm := ⟨_, rfl⟩
  rw [hmm] at hs hle
  clear hW hv e0 e1 e2 e3 e4 e5 exa hbd hr hev kX hbig hau hsv hC hbW
  go_enter Try.func10, Try.ntmps10
  go_wp2_with fail
  rw [HW.out]
  refine hs.mono ?_; rintro e w1 ⟨rfl, hb1⟩
  obtain ⟨x0, x1, x2, x3, x4, x5⟩ := (HK.out.bel hb1).c6
  have ha := HAU.out w1 hb1
  have HB1 := hid_intro hb1
  clear hb1 hs
  go_wp2_with fail
  refine ha.mono ?_; rintro e w2 ⟨sb, rfl, hsi, hb2⟩
  have HF := hid_intro (And.intro hsi (vb_t (vb_t HBW.out HB1.out) hb2))
  clear x0 x1 x2 x3 x4 x5 hsi hb2 ha
  go_wp2_with fail
  go_ret2
  exact ⟨sb, rfl, HF.out⟩
end Go.Proofs.Ytcgohdfpmfpfiaa
