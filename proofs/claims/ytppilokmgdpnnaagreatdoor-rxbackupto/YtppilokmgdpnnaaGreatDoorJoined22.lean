/-
  What rx.greedyText and countText answer: a count's text. Conditions: the library's table of powers of ten as the program lays it.
  What functions of the library answer at this program, laid by program out of the library. Conditions: each states its own.
-/
import Derived.Test.YtppilokmgdpnnaaGreatDoorJoined7
import Derived.Test.YtppilokmgdpnnaaGreatDoorJoined20
import Derived.Test.YtppilokmgdpnnaaGreatDoorJoined21
import Derived.Lib.ItoaMem
import Derived.Lib.ItoaLen
import Derived.Shelf.Strings.Builder1
import Derived.Shelf.Small.Bits
import Derived.Shelf.Small.Strs
import Derived.Shelf.Small.Wraps
import Derived.Shelf.Strings.BuilderF
import Derived.Shelf.Strings.BuilderK
import Derived.Shelf.Strconv.Itoa0
import Derived.Shelf.Strconv.Itoa1
import Derived.Shelf.LaysM
import Derived.Shelf.Strconv.Itoa2
import Derived.Shelf.Strconv.Itoa3
import Derived.Shelf.Strconv.Itoa4
import Derived.Shelf.Strings.Search1
import Derived.Shelf.Strings.Search2
import Derived.Shelf.Strings.Search3
import Derived.Test.YtppilokmgdpnnaaGreatDoorProg
namespace Go.Proofs.YtppilokmgdpnnaaGreatDoor
open Go.RowKit Go.Sort
attribute [local go_sem] setCell_drewN alloc_drewN

def bsx (l : List UInt8) : ByteArray := ⟨l.toArray⟩
abbrev PowT (w : World) : Prop := Lib.TabIs Tryz.prog w "internal/strconv.uint64pow10" .u64 Lib.pow10Tab
theorem pow_below {w w' : World} (h : PowT w) (hb : Below w.heap.size w w') : PowT w' := by
  have hg : Tryz.prog.globalNamed "internal/strconv.uint64pow10" = some 2 := by kernel_rfl
  have hlt : 2 < w.heap.size := World.block_lt_of_cell? w _ (h.cell hg 0 (by decide))
  unfold PowT Lib.TabIs World.var? at h ⊢
  simp only [hg, Option.bind_some] at h ⊢
  rw [hb.block _ hlt]
  exact h
theorem below_growx (w : World) (q : Nat) (os : Array Obj) : Below w.heap.size w (grow (w.drewN q) os) :=
  ⟨rfl, rfl, rfl, by simp [grow], fun i hi => by show (w.heap ++ os)[i]? = w.heap[i]?; rw [Array.getElem?_append_left hi]⟩
theorem xitoa (n : Int) (h0 : 0 ≤ n) (h1 : n ≤ 1000) (w : World) (h : PowT w) : Calls Tryz.prog 66 #[.int .i64 n] w fun r w' => r = .returned (.string (bsx (Lib.itoa n))) ∧ Below w.heap.size w w' := by
  refine (Tryz.strconv_Itoa n (by omega) (by omega) w h).mono ?_
  rintro r w' ⟨rfl, k, os, rfl⟩
  exact ⟨rfl, below_growx w k os⟩
def greedyT (a b : Int) : List UInt8 :=
  if a = 0 ∧ b = -1 then [42] else if a = 1 ∧ b = -1 then [43] else if a = 0 ∧ b = 1 then [63]
  else if b = -1 then 123 :: (Lib.itoa a ++ [44, 125]) else if a = b then 123 :: (Lib.itoa a ++ [125])
  else 123 :: (Lib.itoa a ++ 44 :: (Lib.itoa b ++ [125]))
theorem bsx_app (a b : List UInt8) : bsx a ++ bsx b = bsx (a ++ b) := by
  unfold bsx
  apply ByteArray.ext
  simp
theorem bsx_size (a : List UInt8) : (bsx a).size = a.length := by simp [bsx, ByteArray.size]
theorem itoa_sz (n : Int) (h0 : 0 ≤ n) (h1 : n ≤ 1000) : (bsx (Lib.itoa n)).size ≤ 21 := by
  rw [bsx_size]
  exact Lib.itoa_length_le n (by omega) (by omega)
theorem grd1 (l : List UInt8) : (⟨#[123]⟩ : ByteArray) ++ bsx l ++ ⟨#[44, 125]⟩ = bsx (123 :: (l ++ [44, 125])) := by
  rw [show (⟨#[123]⟩ : ByteArray) = bsx [123] from rfl, show (⟨#[44, 125]⟩ : ByteArray) = bsx [44, 125] from rfl, bsx_app, bsx_app]
  rfl
theorem grd2 (l : List UInt8) : (⟨#[123]⟩ : ByteArray) ++ bsx l ++ ⟨#[125]⟩ = bsx (123 :: (l ++ [125])) := by
  rw [show (⟨#[123]⟩ : ByteArray) = bsx [123] from rfl, show (⟨#[125]⟩ : ByteArray) = bsx [125] from rfl, bsx_app, bsx_app]
  rfl
theorem grd3 (l m : List UInt8) : (⟨#[123]⟩ : ByteArray) ++ bsx l ++ ⟨#[44]⟩ ++ bsx m ++ ⟨#[125]⟩ = bsx (123 :: (l ++ 44 :: (m ++ [125]))) := by
  rw [show (⟨#[123]⟩ : ByteArray) = bsx [123] from rfl, show (⟨#[44]⟩ : ByteArray) = bsx [44] from rfl, show (⟨#[125]⟩ : ByteArray) = bsx [125] from rfl, bsx_app, bsx_app, bsx_app, bsx_app]
  simp
set_option maxRecDepth 100000 in
set_option maxHeartbeats 800000 in
theorem greedy_star (a b : Int) (ha : 0 ≤ a ∧ a ≤ 1000) (hb : b = -1 ∨ (a ≤ b ∧ b ≤ 1000)) (e0 : (a == 0) = true) (q0 : (b == -1) = true) (w : World) (h : PowT w) :
    Calls Tryz.prog 56 #[.int .i64 a, .int .i64 b] w fun r w' => r = .returned (.string (bsx (greedyT a b))) ∧ Below w.heap.size w w' := by
  obtain ⟨P, hP⟩ : ∃ P : Ending → World → Prop, P = fun r w' => r = .returned (.string (bsx (greedyT a b))) ∧ Below w.heap.size w w' := ⟨_, rfl⟩
  rw [← hP]
  have HP := hid_intro hP
  have HI := hid_intro (fun n h0 h1 w' (hb : Below w.heap.size w w') => xitoa n h0 h1 w' (pow_below h hb))
  have HA := hid_intro ha
  have HB := hid_intro hb
  have HE : Hid (greedyT a b = [42]) := hid_intro (by unfold greedyT; rw [if_pos ⟨by simpa using e0, by simpa using q0⟩])
  clear hP h
  clear ha hb
  go_enter Tryz.func56, Tryz.ntmps56
  go_wp2_with fail
  rw [HP.out, HE.out]
  exact ⟨rfl, Below.refl _ _⟩
set_option maxRecDepth 100000 in
set_option maxHeartbeats 800000 in
theorem greedy_plus (a b : Int) (ha : 0 ≤ a ∧ a ≤ 1000) (hb : b = -1 ∨ (a ≤ b ∧ b ≤ 1000)) (e0 : (a == 0) = false) (e1 : (a == 1) = true) (q0 : (b == -1) = true) (w : World) (h : PowT w) :
    Calls Tryz.prog 56 #[.int .i64 a, .int .i64 b] w fun r w' => r = .returned (.string (bsx (greedyT a b))) ∧ Below w.heap.size w w' := by
  obtain ⟨P, hP⟩ : ∃ P : Ending → World → Prop, P = fun r w' => r = .returned (.string (bsx (greedyT a b))) ∧ Below w.heap.size w w' := ⟨_, rfl⟩
  rw [← hP]
  have HP := hid_intro hP
  have HI := hid_intro (fun n h0 h1 w' (hb : Below w.heap.size w w') => xitoa n h0 h1 w' (pow_below h hb))
  have HA := hid_intro ha
  have HB := hid_intro hb
  have HE : Hid (greedyT a b = [43]) := hid_intro (by unfold greedyT; simp at e0 e1 q0; rw [if_neg (by omega), if_pos (by omega)])
  clear hP h
  clear ha hb
  go_enter Tryz.func56, Tryz.ntmps56
  go_wp2_with fail
  rw [HP.out, HE.out]
  exact ⟨rfl, Below.refl _ _⟩
set_option maxRecDepth 100000 in
set_option maxHeartbeats 800000 in
theorem greedy_from (a b : Int) (ha : 0 ≤ a ∧ a ≤ 1000) (hb : b = -1 ∨ (a ≤ b ∧ b ≤ 1000)) (e0 : (a == 0) = false) (e1 : (a == 1) = false) (q0 : (b == -1) = true) (w : World) (h : PowT w) :
    Calls Tryz.prog 56 #[.int .i64 a, .int .i64 b] w fun r w' => r = .returned (.string (bsx (greedyT a b))) ∧ Below w.heap.size w w' := by
  obtain ⟨P, hP⟩ : ∃ P : Ending → World → Prop, P = fun r w' => r = .returned (.string (bsx (greedyT a b))) ∧ Below w.heap.size w w' := ⟨_, rfl⟩
  rw [← hP]
  have HP := hid_intro hP
  have HI := hid_intro (fun n h0 h1 w' (hb : Below w.heap.size w w') => xitoa n h0 h1 w' (pow_below h hb))
  have HA := hid_intro ha
  have HB := hid_intro hb
  have HE : Hid (greedyT a b = 123 :: (Lib.itoa a ++ [44, 125])) := hid_intro (by unfold greedyT; simp at e0 e1 q0; rw [if_neg (by omega), if_neg (by omega), if_neg (by omega), if_pos (by omega)])
  have hz := itoa_sz a ha.1 ha.2
  clear hP h
  clear ha hb
  go_enter Tryz.func56, Tryz.ntmps56
  go_wp2_with fail
  refine (HI.out a HA.out.1 HA.out.2 w (Below.refl _ _)).mono ?_; rintro r w1 ⟨rfl, hb1⟩
  go_wp2_with fail
  rw [HP.out, HE.out]
  exact ⟨by rw [grd1]; rfl, hb1⟩
set_option maxRecDepth 100000 in
set_option maxHeartbeats 800000 in
theorem greedy_opt (a b : Int) (ha : 0 ≤ a ∧ a ≤ 1000) (hb : b = -1 ∨ (a ≤ b ∧ b ≤ 1000)) (e0 : (a == 0) = true) (e1 : (a == 1) = false) (q0 : (b == -1) = false) (q1 : (b == 1) = true) (w : World) (h : PowT w) :
    Calls Tryz.prog 56 #[.int .i64 a, .int .i64 b] w fun r w' => r = .returned (.string (bsx (greedyT a b))) ∧ Below w.heap.size w w' := by
  obtain ⟨P, hP⟩ : ∃ P : Ending → World → Prop, P = fun r w' => r = .returned (.string (bsx (greedyT a b))) ∧ Below w.heap.size w w' := ⟨_, rfl⟩
  rw [← hP]
  have HP := hid_intro hP
  have HI := hid_intro (fun n h0 h1 w' (hb : Below w.heap.size w w') => xitoa n h0 h1 w' (pow_below h hb))
  have HA := hid_intro ha
  have HB := hid_intro hb
  have HE : Hid (greedyT a b = [63]) := hid_intro (by unfold greedyT; simp at e0 e1 q0 q1; rw [if_neg (by omega), if_neg (by omega), if_pos (by omega)])
  clear hP h
  clear ha hb
  go_enter Tryz.func56, Tryz.ntmps56
  go_wp2_with fail
  rw [HP.out, HE.out]
  exact ⟨rfl, Below.refl _ _⟩
set_option maxRecDepth 100000 in
set_option maxHeartbeats 800000 in
theorem greedy_eq00 (a b : Int) (ha : 0 ≤ a ∧ a ≤ 1000) (hb : b = -1 ∨ (a ≤ b ∧ b ≤ 1000)) (e0 : (a == 0) = true) (e1 : (a == 1) = false) (q0 : (b == -1) = false) (q1 : (b == 1) = false) (ab : (a == b) = true) (w : World) (h : PowT w) :
    Calls Tryz.prog 56 #[.int .i64 a, .int .i64 b] w fun r w' => r = .returned (.string (bsx (greedyT a b))) ∧ Below w.heap.size w w' := by
  obtain ⟨P, hP⟩ : ∃ P : Ending → World → Prop, P = fun r w' => r = .returned (.string (bsx (greedyT a b))) ∧ Below w.heap.size w w' := ⟨_, rfl⟩
  rw [← hP]
  have HP := hid_intro hP
  have HI := hid_intro (fun n h0 h1 w' (hb : Below w.heap.size w w') => xitoa n h0 h1 w' (pow_below h hb))
  have HA := hid_intro ha
  have HB := hid_intro hb
  have HE : Hid (greedyT a b = 123 :: (Lib.itoa a ++ [125])) := hid_intro (by unfold greedyT; simp at e0 e1 q0 q1 ab; rw [if_neg (by omega), if_neg (by omega), if_neg (by omega), if_neg (by omega), if_pos (by omega)])
  have hz := itoa_sz a ha.1 ha.2
  clear hP h
  clear ha hb
  go_enter Tryz.func56, Tryz.ntmps56
  go_wp2_with fail
  refine (HI.out a HA.out.1 HA.out.2 w (Below.refl _ _)).mono ?_; rintro r w1 ⟨rfl, hb1⟩
  go_wp2_with fail
  rw [HP.out, HE.out]
  exact ⟨by rw [grd2]; rfl, hb1⟩
set_option maxRecDepth 100000 in
set_option maxHeartbeats 800000 in
theorem greedy_to00 (a b : Int) (ha : 0 ≤ a ∧ a ≤ 1000) (hb : b = -1 ∨ (a ≤ b ∧ b ≤ 1000)) (e0 : (a == 0) = true) (e1 : (a == 1) = false) (q0 : (b == -1) = false) (q1 : (b == 1) = false) (ab : (a == b) = false) (w : World) (h : PowT w) :
    Calls Tryz.prog 56 #[.int .i64 a, .int .i64 b] w fun r w' => r = .returned (.string (bsx (greedyT a b))) ∧ Below w.heap.size w w' := by
  obtain ⟨P, hP⟩ : ∃ P : Ending → World → Prop, P = fun r w' => r = .returned (.string (bsx (greedyT a b))) ∧ Below w.heap.size w w' := ⟨_, rfl⟩
  rw [← hP]
  have HP := hid_intro hP
  have HI := hid_intro (fun n h0 h1 w' (hb : Below w.heap.size w w') => xitoa n h0 h1 w' (pow_below h hb))
  have HA := hid_intro ha
  have HB := hid_intro hb
  have HE : Hid (greedyT a b = 123 :: (Lib.itoa a ++ 44 :: (Lib.itoa b ++ [125]))) := hid_intro (by unfold greedyT; simp at e0 e1 q0 q1 ab; rw [if_neg (by omega), if_neg (by omega), if_neg (by omega), if_neg (by omega), if_neg (by omega)])
  have hz := itoa_sz a ha.1 ha.2
  have HQ : Hid (b ≠ -1) := hid_intro (by simpa using q0)
  have hy := itoa_sz b (by have := HQ.out; omega) (by omega)
  clear hP h
  clear ha hb
  go_enter Tryz.func56, Tryz.ntmps56
  go_wp2_with fail
  refine (HI.out a HA.out.1 HA.out.2 w (Below.refl _ _)).mono ?_; rintro r w1 ⟨rfl, hb1⟩
  go_wp2_with fail
  refine (HI.out b (by have := HB.out; have := HA.out; have := HQ.out; omega) (by have := HB.out; omega) w1 hb1).mono ?_; rintro r w2 ⟨rfl, hb2⟩
  go_wp2_with fail
  rw [HP.out, HE.out]
  exact ⟨by rw [grd3]; rfl, hb1.trans (hb2.mono hb1.size)⟩
set_option maxRecDepth 100000 in
set_option maxHeartbeats 800000 in
theorem greedy_eq01 (a b : Int) (ha : 0 ≤ a ∧ a ≤ 1000) (hb : b = -1 ∨ (a ≤ b ∧ b ≤ 1000)) (e0 : (a == 0) = false) (e1 : (a == 1) = true) (q0 : (b == -1) = false) (ab : (a == b) = true) (w : World) (h : PowT w) :
    Calls Tryz.prog 56 #[.int .i64 a, .int .i64 b] w fun r w' => r = .returned (.string (bsx (greedyT a b))) ∧ Below w.heap.size w w' := by
  obtain ⟨P, hP⟩ : ∃ P : Ending → World → Prop, P = fun r w' => r = .returned (.string (bsx (greedyT a b))) ∧ Below w.heap.size w w' := ⟨_, rfl⟩
  rw [← hP]
  have HP := hid_intro hP
  have HI := hid_intro (fun n h0 h1 w' (hb : Below w.heap.size w w') => xitoa n h0 h1 w' (pow_below h hb))
  have HA := hid_intro ha
  have HB := hid_intro hb
  have HE : Hid (greedyT a b = 123 :: (Lib.itoa a ++ [125])) := hid_intro (by unfold greedyT; simp at e0 e1 q0 ab; rw [if_neg (by omega), if_neg (by omega), if_neg (by omega), if_neg (by omega), if_pos (by omega)])
  have hz := itoa_sz a ha.1 ha.2
  clear hP h
  clear ha hb
  go_enter Tryz.func56, Tryz.ntmps56
  go_wp2_with fail
  refine (HI.out a HA.out.1 HA.out.2 w (Below.refl _ _)).mono ?_; rintro r w1 ⟨rfl, hb1⟩
  go_wp2_with fail
  rw [HP.out, HE.out]
  exact ⟨by rw [grd2]; rfl, hb1⟩
set_option maxRecDepth 100000 in
set_option maxHeartbeats 800000 in
theorem greedy_to01 (a b : Int) (ha : 0 ≤ a ∧ a ≤ 1000) (hb : b = -1 ∨ (a ≤ b ∧ b ≤ 1000)) (e0 : (a == 0) = false) (e1 : (a == 1) = true) (q0 : (b == -1) = false) (ab : (a == b) = false) (w : World) (h : PowT w) :
    Calls Tryz.prog 56 #[.int .i64 a, .int .i64 b] w fun r w' => r = .returned (.string (bsx (greedyT a b))) ∧ Below w.heap.size w w' := by
  obtain ⟨P, hP⟩ : ∃ P : Ending → World → Prop, P = fun r w' => r = .returned (.string (bsx (greedyT a b))) ∧ Below w.heap.size w w' := ⟨_, rfl⟩
  rw [← hP]
  have HP := hid_intro hP
  have HI := hid_intro (fun n h0 h1 w' (hb : Below w.heap.size w w') => xitoa n h0 h1 w' (pow_below h hb))
  have HA := hid_intro ha
  have HB := hid_intro hb
  have HE : Hid (greedyT a b = 123 :: (Lib.itoa a ++ 44 :: (Lib.itoa b ++ [125]))) := hid_intro (by unfold greedyT; simp at e0 e1 q0 ab; rw [if_neg (by omega), if_neg (by omega), if_neg (by omega), if_neg (by omega), if_neg (by omega)])
  have hz := itoa_sz a ha.1 ha.2
  have HQ : Hid (b ≠ -1) := hid_intro (by simpa using q0)
  have hy := itoa_sz b (by have := HQ.out; omega) (by omega)
  clear hP h
  clear ha hb
  go_enter Tryz.func56, Tryz.ntmps56
  go_wp2_with fail
  refine (HI.out a HA.out.1 HA.out.2 w (Below.refl _ _)).mono ?_; rintro r w1 ⟨rfl, hb1⟩
  go_wp2_with fail
  refine (HI.out b (by have := HB.out; have := HA.out; have := HQ.out; omega) (by have := HB.out; omega) w1 hb1).mono ?_; rintro r w2 ⟨rfl, hb2⟩
  go_wp2_with fail
  rw [HP.out, HE.out]
  exact ⟨by rw [grd3]; rfl, hb1.trans (hb2.mono hb1.size)⟩
set_option maxRecDepth 100000 in
set_option maxHeartbeats 800000 in
theorem greedy_eq02 (a b : Int) (ha : 0 ≤ a ∧ a ≤ 1000) (hb : b = -1 ∨ (a ≤ b ∧ b ≤ 1000)) (e0 : (a == 0) = false) (e1 : (a == 1) = false) (q0 : (b == -1) = false) (ab : (a == b) = true) (w : World) (h : PowT w) :
    Calls Tryz.prog 56 #[.int .i64 a, .int .i64 b] w fun r w' => r = .returned (.string (bsx (greedyT a b))) ∧ Below w.heap.size w w' := by
  obtain ⟨P, hP⟩ : ∃ P : Ending → World → Prop, P = fun r w' => r = .returned (.string (bsx (greedyT a b))) ∧ Below w.heap.size w w' := ⟨_, rfl⟩
  rw [← hP]
  have HP := hid_intro hP
  have HI := hid_intro (fun n h0 h1 w' (hb : Below w.heap.size w w') => xitoa n h0 h1 w' (pow_below h hb))
  have HA := hid_intro ha
  have HB := hid_intro hb
  have HE : Hid (greedyT a b = 123 :: (Lib.itoa a ++ [125])) := hid_intro (by unfold greedyT; simp at e0 e1 q0 ab; rw [if_neg (by omega), if_neg (by omega), if_neg (by omega), if_neg (by omega), if_pos (by omega)])
  have hz := itoa_sz a ha.1 ha.2
  clear hP h
  clear ha hb
  go_enter Tryz.func56, Tryz.ntmps56
  go_wp2_with fail
  refine (HI.out a HA.out.1 HA.out.2 w (Below.refl _ _)).mono ?_; rintro r w1 ⟨rfl, hb1⟩
  go_wp2_with fail
  rw [HP.out, HE.out]
  exact ⟨by rw [grd2]; rfl, hb1⟩
set_option maxRecDepth 100000 in
set_option maxHeartbeats 800000 in
theorem greedy_to02 (a b : Int) (ha : 0 ≤ a ∧ a ≤ 1000) (hb : b = -1 ∨ (a ≤ b ∧ b ≤ 1000)) (e0 : (a == 0) = false) (e1 : (a == 1) = false) (q0 : (b == -1) = false) (ab : (a == b) = false) (w : World) (h : PowT w) :
    Calls Tryz.prog 56 #[.int .i64 a, .int .i64 b] w fun r w' => r = .returned (.string (bsx (greedyT a b))) ∧ Below w.heap.size w w' := by
  obtain ⟨P, hP⟩ : ∃ P : Ending → World → Prop, P = fun r w' => r = .returned (.string (bsx (greedyT a b))) ∧ Below w.heap.size w w' := ⟨_, rfl⟩
  rw [← hP]
  have HP := hid_intro hP
  have HI := hid_intro (fun n h0 h1 w' (hb : Below w.heap.size w w') => xitoa n h0 h1 w' (pow_below h hb))
  have HA := hid_intro ha
  have HB := hid_intro hb
  have HE : Hid (greedyT a b = 123 :: (Lib.itoa a ++ 44 :: (Lib.itoa b ++ [125]))) := hid_intro (by unfold greedyT; simp at e0 e1 q0 ab; rw [if_neg (by omega), if_neg (by omega), if_neg (by omega), if_neg (by omega), if_neg (by omega)])
  have hz := itoa_sz a ha.1 ha.2
  have HQ : Hid (b ≠ -1) := hid_intro (by simpa using q0)
  have hy := itoa_sz b (by have := HQ.out; omega) (by omega)
  clear hP h
  clear ha hb
  go_enter Tryz.func56, Tryz.ntmps56
  go_wp2_with fail
  refine (HI.out a HA.out.1 HA.out.2 w (Below.refl _ _)).mono ?_; rintro r w1 ⟨rfl, hb1⟩
  go_wp2_with fail
  refine (HI.out b (by have := HB.out; have := HA.out; have := HQ.out; omega) (by have := HB.out; omega) w1 hb1).mono ?_; rintro r w2 ⟨rfl, hb2⟩
  go_wp2_with fail
  rw [HP.out, HE.out]
  exact ⟨by rw [grd3]; rfl, hb1.trans (hb2.mono hb1.size)⟩
theorem greedy_any (a b : Int) (ha : 0 ≤ a ∧ a ≤ 1000) (hb : b = -1 ∨ (a ≤ b ∧ b ≤ 1000)) (w : World) (h : PowT w) :
    Calls Tryz.prog 56 #[.int .i64 a, .int .i64 b] w fun r w' => r = .returned (.string (bsx (greedyT a b))) ∧ Below w.heap.size w w' := by
  cases e0 : (a == 0) <;> cases e1 : (a == 1) <;> cases q0 : (b == -1)
  · cases ab : (a == b)
    · exact greedy_to02 a b ha hb e0 e1 q0 ab w h
    · exact greedy_eq02 a b ha hb e0 e1 q0 ab w h
  · exact greedy_from a b ha hb e0 e1 q0 w h
  · cases ab : (a == b)
    · exact greedy_to01 a b ha hb e0 e1 q0 ab w h
    · exact greedy_eq01 a b ha hb e0 e1 q0 ab w h
  · exact greedy_plus a b ha hb e0 e1 q0 w h
  · cases q1 : (b == 1)
    · cases ab : (a == b)
      · exact greedy_to00 a b ha hb e0 e1 q0 q1 ab w h
      · exact greedy_eq00 a b ha hb e0 e1 q0 q1 ab w h
    · exact greedy_opt a b ha hb e0 e1 q0 q1 w h
  · exact greedy_star a b ha hb e0 q0 w h
  · simp at e0 e1; omega
  · simp at e0 e1; omega
end Go.Proofs.YtppilokmgdpnnaaGreatDoor

namespace Go.Proofs
open Go.Shelf
def Tryz.lays144_ren : Go.Shelf.Ren := ⟨fun | 144 => 89 | 143 => 111 | 219 => 130 | 217 => 141 | 225 => 128 | 224 => 127 | 267 => 142 | 266 => 148 | 314 => 149 | n => n, fun | 9 => 9 | 4 => 4 | 3 => 3 | 5 => 5 | 46 => 84 | 146 => 153 | 51 => 106 | n => n, fun | 1 => 1 | n => n⟩
theorem Tryz.lays144 : Go.Proofs.Lays.n144 Tryz.prog Tryz.lays144_ren := {
  mixed := by kernel_rfl
  f143 := Tryz.func111.trans (congrArg some (by kernel_rfl))
  f144 := Tryz.func89.trans (congrArg some (by kernel_rfl))
  f217 := Tryz.func141.trans (congrArg some (by kernel_rfl))
  f219 := Tryz.func130.trans (congrArg some (by kernel_rfl))
  f224 := Tryz.func127.trans (congrArg some (by kernel_rfl))
  f225 := Tryz.func128.trans (congrArg some (by kernel_rfl))
  f266 := Tryz.func148.trans (congrArg some (by kernel_rfl))
  f267 := Tryz.func142.trans (congrArg some (by kernel_rfl))
  f314 := Tryz.func149.trans (congrArg some (by kernel_rfl))
  t3 := Tryz.underlying3
  a3 := Tryz.isAgg3
  z3 := Tryz.sizeOf3
  v3 := Tryz.zeroValue3
  t4 := Tryz.underlying4
  a4 := Tryz.isAgg4
  z4 := Tryz.sizeOf4
  v4 := Tryz.zeroValue4
  t5 := Tryz.underlying5
  a5 := Tryz.isAgg5
  z5 := Tryz.sizeOf5
  v5 := Tryz.zeroValue5
  t9 := Tryz.underlying9
  a9 := Tryz.isAgg9
  z9 := Tryz.sizeOf9
  v9 := Tryz.zeroValue9
  t46 := Tryz.underlying84
  a46 := Tryz.isAgg84
  z46 := Tryz.sizeOf84
  v46 := Tryz.zeroValue84
  t51 := Tryz.underlying106
  a51 := Tryz.isAgg106
  z51 := Tryz.sizeOf106
  v51 := Tryz.zeroValue106
  t146 := Tryz.underlying153
  a146 := Tryz.isAgg153
  z146 := Tryz.sizeOf153
  v146 := Tryz.zeroValue153
  g1 := by kernel_rfl }
open Go.RowKit Go.Lib in
/-- strings.Contains: "Contains reports whether substr is within s.": IT RETURNS 'Lib.contains s substr'; the world is as it was. (LAID: no walk: one application.) -/
theorem Tryz.strings_Contains (s sub : ByteArray) (m : Int) (w : World) (hs : s.size < 4294967281) (hm : w.cell? ⟨1, 0, none⟩ = some (.int .i64 m)) :
    Calls Tryz.prog 89 #[.string s, .string sub] w fun e w' => e = .returned (.bool (Lib.contains s.data.toList sub.data.toList)) ∧ w' = w := Any.strings_Contains Tryz.lays144 s sub m w hs hm
end Go.Proofs
