/-
  place: where a number of a net stands. Conditions: at most 2^20 numbers.
-/
import Derived.Test.YtnlgeiofkfkhbaaJoined19
import Derived.Test.YtnlgeiofkfkhbaaJoined20
namespace Go.Proofs.Ytnlgeiofkfkhbaa
open Go.RowKit Go.Maps Lg
attribute [local go_sem] setCell_drewN alloc_drewN

theorem rise_pair {l : List Nat} (h : Rise l) : l.Pairwise (· < ·) := List.pairwise_iff_getElem.2 fun i j hi hj k => h i j hi hj k
theorem rise_of {l : List Nat} (h : l.Pairwise (· < ·)) : Rise l := fun i j hi hj k => List.pairwise_iff_getElem.1 h i j hi hj k
theorem rise_nodup {l : List Nat} (h : Rise l) : l.Nodup := (rise_pair h).imp fun h => Nat.ne_of_lt h
theorem count_idx : ∀ {l : List Nat} {t : Nat}, l.Pairwise (· < ·) → t ∈ l → (il l).countP (· < (t : Int)) = l.idxOf t
 | [], _, _, h => by simp at h
 | a :: l, t, hp, h => by
  have hp' := List.pairwise_cons.1 hp
  by_cases e : a = t
  ·subst e
   have h0 : (il l).countP (· < (a : Int)) = 0 := by
    rw [List.countP_eq_zero]
    intro x hx
    unfold il at hx
    obtain ⟨y, hy, rfl⟩ := List.mem_map.1 hx
    have := hp'.1 y hy
    simp; omega
   show (((a : Int) :: il l).countP (· < (a : Int))) = _
   rw [List.countP_cons, h0]
   simp
  ·have hm : t ∈ l := by
    rcases List.mem_cons.1 h with h | h
    ·exact absurd h.symm e
    ·exact h
   have hlt := hp'.1 t hm
   have ih := count_idx hp'.2 hm
   show (((a : Int) :: il l).countP (· < (t : Int))) = _
   rw [List.countP_cons, ih, if_pos (by simp; omega), List.idxOf_cons]
   have hbe : (a == t) = false := by simpa using e
   rw [hbe]; rfl
theorem il_pair {l : List Nat} (h : l.Pairwise (· < ·)) : (il l).Pairwise (· ≤ ·) := by
 unfold il
 rw [List.pairwise_map]
 exact h.imp fun h => by omega

set_option maxRecDepth 100000 in
set_option maxHeartbeats 3200000 in
theorem place_any (nums : List Nat) (hr : Rise nums) (hl : nums.length ≤ 1048576) (t : Nat) (ht : t ∈ nums) (nv rv : Value) (X : Nat → Prop) (w : World) (hN : II w X (il nums) nv) (hrv : ∃ ao n c, rv = .slice ao n c) :
  Calls Try.prog 33 #[.agg #[nv, rv], .int .i64 (t : Int)] w fun r w' => r = .returned (.int .i64 ((nums.idxOf t : Nat) : Int)) ∧ Below w.heap.size w w' := by
 obtain ⟨Q0, hQ0⟩ : ∃ P' : Ending → World → Prop, P' = fun r w' => r = .returned (.int .i64 ((nums.idxOf t : Nat) : Int)) ∧ Below w.heap.size w w' := ⟨_, rfl⟩
 rw [← hQ0]
 have HQ := hid_intro hQ0
 obtain ⟨ao, cap, rfl, h1, h2, -, h4⟩ := hN
 obtain ⟨ro, rn, rc, rfl⟩ := hrv
 rw [il_len] at h1 ⊢
 have hne : il nums ≠ [] := fun e => by
  have := congrArg List.length e
  rw [il_len] at this
  have hz : nums = [] := List.eq_nil_of_length_eq_zero this
  rw [hz] at ht; simp at ht
 obtain ⟨b, off, rfl, -, hc⟩ := h4.resolve_left hne
 rw [il_len] at hc
 have hbl : b < w.heap.size := World.block_lt_of_cell? w _ (hc 0 (List.length_pos_iff.2 (fun e => by rw [e] at ht; simp at ht)))
 have HBS := hid_intro (fun w' (hb : Below w.heap.size w w') => Try.slices_BinarySearch_int b off nums.length cap (il nums) (t : Int) w' (by rw [il_len]; omega) (by omega) (fun j hj => by
  rw [il_len] at hj
  exact (hb.cell (p := ⟨b, off + j, none⟩) hbl).trans (hc j hj)) (by rw [List.take_of_length_le (by rw [il_len]; omega)]; exact il_pair (rise_pair hr)))
 rw [List.take_of_length_le (by rw [il_len]; omega), count_idx (rise_pair hr) ht] at HBS
 have hlI : (nums.length : Int) ≤ 1048576 := by omega
 have HC := hid_intro hc
 have hb1 : Below w.heap.size w (w.alloc (.cells #[.slice (some ⟨b, off, none⟩) nums.length cap, .slice ro rn rc] 36)) := vb_a (Below.refl _ _) _
 have HB1 := hid_intro hb1
 by_cases hlt : t < nums.length
 ·have htI : (t : Int) < (nums.length : Int) := by omega
  have c0 := (hb1.cell (p := ⟨b, off + t, none⟩) hbl).trans (hc t hlt)
  rw [il_at hlt] at c0
  by_cases he : nums[t] = t
  ·have HI : Hid (nums.idxOf t = t) := hid_intro (by
    have := idx_self (rise_nodup hr) hlt
    rw [he] at this
    exact this)
   rw [he] at c0
   clear hQ0 hc hb1 he hne h4 h1 h2 hbl ht hr hl hlt HBS
   go_enter Try.func33, Try.ntmps33
   go_wp2_with fail
   rw [HQ.out, HI.out]
   exact ⟨rfl, HB1.out⟩
  ·have heI : ¬ ((nums[t] : Nat) : Int) = (t : Int) := by omega
   generalize nums[t] = y at *
   clear hQ0 hc hb1 he hne h4 h1 h2 hbl ht hr hl hlt
   go_enter Try.func33, Try.ntmps33
   go_wp2_with (go_at_call 46; refine (HBS.out _ HB1.out).mono ?_; rintro e w4 ⟨rfl, q, rfl⟩)
   rw [HQ.out]
   exact ⟨rfl, vb_n HB1.out _⟩
 ·have htI : ¬ (t : Int) < (nums.length : Int) := by omega
  clear hQ0 hc hb1 hne h4 h1 h2 hbl ht hr hl hlt
  go_enter Try.func33, Try.ntmps33
  go_wp2_with (go_at_call 46; refine (HBS.out _ HB1.out).mono ?_; rintro e w4 ⟨rfl, q, rfl⟩)
  rw [HQ.out]
  exact ⟨rfl, vb_n HB1.out _⟩
end Go.Proofs.Ytnlgeiofkfkhbaa
