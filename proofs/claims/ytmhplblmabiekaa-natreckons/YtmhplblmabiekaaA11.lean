/-
  What must come at any rate comes: heads answers true. No condition.
-/
import Derived.Test.YtmhplblmabiekaaA10
namespace Go.Proofs.Ytmhplblmabiekaa
open Go.RowKit

def sT : ByteArray := { data := #[49, 48, 48, 48, 48, 48, 48, 48, 48, 48] }
theorem sT_digits : Digits sT := by
  intro i hi
  have h : i < 10 := hi
  match i, h with
  | 0, _ => exact ⟨by decide, by decide⟩
  | 1, _ => exact ⟨by decide, by decide⟩
  | 2, _ => exact ⟨by decide, by decide⟩
  | 3, _ => exact ⟨by decide, by decide⟩
  | 4, _ => exact ⟨by decide, by decide⟩
  | 5, _ => exact ⟨by decide, by decide⟩
  | 6, _ => exact ⟨by decide, by decide⟩
  | 7, _ => exact ⟨by decide, by decide⟩
  | 8, _ => exact ⟨by decide, by decide⟩
  | 9, _ => exact ⟨by decide, by decide⟩
theorem sT_dec : dec (dig sT) sT.size = 1000000000 := by decide

theorem can_one {x : Int} (x0 : 0 < x) (x1 : x < 1000000000) : Can 1 (fun _ => x) := ⟨fun _ _ => ⟨by show 0 ≤ x; omega, x1⟩, fun _ => by show x ≠ 0; omega⟩
theorem val_one (x : Int) : val (fun _ => x) 1 = x := by simp [val, pw_zero]
theorem num_lit1 (w : World) (x : Int) (x0 : 0 < x) (x1 : x < 1000000000) : Num (w.alloc (.cells #[.int .u32 x] 46)) (.slice (some ⟨w.heap.size, 0, none⟩) 1 1) x :=
  ⟨1, _, num_one w x (by omega) x1, can_one x0 x1, val_one x⟩
def two (x y : Int) : Nat → Int := fun i => if i = 0 then x else y
theorem num_lit2 (w : World) (x y : Int) (x0 : 0 ≤ x) (x1 : x < 1000000000) (y0 : 0 < y) (y1 : y < 1000000000) : Num (w.alloc (.cells #[.int .u32 x, .int .u32 y] 46)) (.slice (some ⟨w.heap.size, 0, none⟩) 2 2) (x + y * 1000000000) := by
  have bd : ∀ i, 0 ≤ two x y i ∧ two x y i < 1000000000 := fun i => by unfold two; split <;> omega
  refine ⟨2, two x y, .inr ⟨_, 0, 2, rfl, Nat.le_refl _, by simp [maxLen], ⟨fun i hi => ?_, fun i => (bd i).1, fun i => by have := (bd i).2; omega⟩⟩, ⟨fun i _ => bd i, fun _ => ?_⟩, ?_⟩
  · match i, hi with
    | 0, _ => simp [two]
    | 1, _ => simp [two]
  · show two x y 1 ≠ 0
    simp [two]; omega
  · simp [val, two, pw]
/-- A number below the worth of a place has no more limbs. -/
theorem can_le {n k : Nat} {f : Nat → Int} (h : Can n f) (hv : val f n < pw k) : n ≤ k := by
  by_cases z : n ≤ k
  · exact z
  · have h1 := can_ge h (by omega)
    have h2 := pw_mono (show k ≤ n - 1 by omega)
    omega

set_option maxHeartbeats 800000 in
theorem heads_any (w : World) : Calls Try.prog 7 #[] w fun e w' => e = .returned (.bool true) ∧ Below w.heap.size w w' := by
  have hO := of_ok sT w (by decide) (by decide) sT_digits
  rw [sT_dec] at hO
  have hOf : Calls Try.prog 23 #[.string { data := #[49, 48, 48, 48, 48, 48, 48, 48, 48, 48] }] w fun e w' => ∃ r, e = .returned (.tuple #[r, .int .i64 0]) ∧ Num w' r 1000000000 ∧ Below w.heap.size w w' := hO
  clear hO
  go_enter Try.func7, Try.ntmps7
  go_wp2_with fail
  refine hOf.mono ?_
  rintro e w1 ⟨ra, rfl, hA1, b1⟩
  clear hOf
  have z1 := b1.size
  have bb1 : Below w.heap.size w (w1.alloc (.cells #[.int .u32 999999999] 46)) := b1.alloc z1 _
  have bb2 : Below w.heap.size w ((w1.alloc (.cells #[.int .u32 999999999] 46)).alloc (.cells #[.int .u32 999999999] 46)) := bb1.alloc bb1.size _
  have r1 := (num_one w1 999999999 (by omega) (by omega)).alloc (.cells #[.int .u32 999999999] 46)
  have r2 := num_one (w1.alloc (.cells #[.int .u32 999999999] 46)) 999999999 (by omega) (by omega)
  have hs1 : (w1.alloc (.cells #[.int .u32 999999999] 46)).heap.size = w1.heap.size + 1 := by simp
  rw [hs1] at r2
  have hM := mul_ok _ _ _ _ 1 1 _ _ _ r1 r2 (can_one (by omega) (by omega)) (can_one (by omega) (by omega)) (val_one _) (val_one _) (by omega) (by omega)
  have hA2 : Num ((w1.alloc (.cells #[.int .u32 999999999] 46)).alloc (.cells #[.int .u32 999999999] 46)) ra 1000000000 := (hA1.below (one_below w1 _)).below (one_below _ _)
  clear r1 r2 hA1 b1 z1 bb1 hs1
  go_wp2_with fail
  refine hM.mono ?_
  rintro e w2 ⟨rb, rfl, hB2, b2⟩
  clear hM
  have hA3 := hA2.below b2
  have b3 : Below w.heap.size w w2 := bb2.trans (b2.mono bb2.size)
  clear hA2 b2 bb2
  have z3 := b3.size
  have b4 : Below w.heap.size w (w2.alloc (.cells #[.int .u32 3] 46)) := b3.alloc z3 _
  have hA4 := hA3.below (one_below w2 (.cells #[.int .u32 3] 46))
  have hB4 := hB2.below (one_below w2 (.cells #[.int .u32 3] 46))
  have r3 := num_one w2 3 (by omega) (by omega)
  obtain ⟨n, f, rA, cA, vA⟩ := hA4
  have hn : n ≤ 2 := can_le cA (by rw [vA]; decide)
  have hD := div_ok ra _ 1000000000 3 n 1 f _ _ rA r3 cA (can_one (by omega) (by omega)) (by omega) (fun w' h1 h2 => by
    have := divided_limb ra _ n f _ w' h1 h2 cA (can_one (by omega) (by omega)) (by omega) (by rw [val_one, vA]; omega)
    rw [vA, val_one] at this
    exact this)
  obtain ⟨aa, acap, ea, _⟩ := rA.shape
  subst ea
  have hA4 : Hid (Row (w2.alloc (.cells #[.int .u32 3] 46)) (.slice aa n acap) n f) := rA
  have CA : Hid (Can n f) := cA
  have VA : Hid (val f n = 1000000000) := vA
  clear hA3 hB2 r3 rA cA vA
  go_wp2_with fail
  refine hD.mono ?_
  rintro e w5 ⟨rq, rr, rfl, ⟨Q, R, hQ, hR, eQ, R0, R1⟩, b5⟩
  clear hD
  obtain ⟨rfl, rfl⟩ : Q = 333333333 ∧ R = 1 := by omega
  have hA5 := hA4.out.below b5
  have hB5 := hB4.below b5
  have bb5 : Below w.heap.size w w5 := b4.trans (b5.mono b4.size)
  clear hA4 hB4 b4 b5 eQ R0 R1 b3 z3
  have hZ := div_zero _ (.slice none 0 0) n f (fun _ => 0) w5 hA5 (.inl ⟨rfl, none, 0, rfl, fun _ => rfl⟩) CA.out
  go_wp2_with fail
  refine hZ.mono ?_
  rintro e w6 ⟨rfl, b6⟩
  clear hZ
  have z5 := bb5.size
  have hA6 := hA5.below b6
  have hB6 := hB5.below b6
  have hQ6 := hQ.below b6
  have hR6 := hR.below b6
  have bb6 : Below w.heap.size w w6 := bb5.trans (b6.mono z5)
  clear hA5 hB5 hQ hR b6 bb5 z5
  have r0 := num_one w6 0 (by omega) (by omega)
  have hX := add_bad _ (.slice none 0 0) 1 0 _ (fun _ => 0) _ r0 (.inl ⟨rfl, none, 0, rfl, fun _ => rfl⟩) (fun h => h.1.2 (by omega) rfl)
  clear r0
  go_wp2_with fail
  refine hX.mono ?_
  rintro e w7 ⟨rfl, b7⟩
  clear hX
  have o7 := one_below w6 (.cells #[.int .u32 0] 46)
  have b7 : Below w6.heap.size w6 w7 := o7.trans (b7.mono o7.size)
  have hA7 := hA6.below b7
  have hB7 := hB6.below b7
  have hQ7 := hQ6.below b7
  have hR7 := hR6.below b7
  have bb7 : Below w.heap.size w w7 := bb6.trans (b7.mono bb6.size)
  clear hA6 hB6 hQ6 hR6 b7 o7 bb6
  have NA7 : Num w7 (.slice aa n acap) 1000000000 := ⟨n, f, hA7, CA.out, VA.out⟩
  have s1 := same_num _ _ 1000000000 _ (NA7.below (one_below w7 (.cells #[.int .u32 0, .int .u32 1] 46))) (by have := num_lit2 w7 0 1 (by omega) (by omega) (by omega) (by omega); simpa using this)
  have o8 := one_below w7 (.cells #[.int .u32 0, .int .u32 1] 46)
  have hB8 := hB7.below o8
  have hQ8 := hQ7.below o8
  have hR8 := hR7.below o8
  have bb8 : Below w.heap.size w (w7.alloc (.cells #[.int .u32 0, .int .u32 1] 46)) := bb7.trans (o8.mono bb7.size)
  clear hA7 NA7 hB7 hQ7 hR7 o8 bb7 CA VA
  go_wp2_with fail
  refine s1.mono ?_
  rintro e w8 ⟨rfl, b8⟩
  clear s1
  have hB9 := hB8.below b8
  have hQ9 := hQ8.below b8
  have hR9 := hR8.below b8
  have bb9 : Below w.heap.size w w8 := bb8.trans (b8.mono bb8.size)
  clear hB8 hQ8 hR8 b8 bb8
  have o9 := one_below w8 (.cells #[.int .u32 1, .int .u32 999999998] 46)
  have s2 := same_num _ _ 999999998000000001 _ (hB9.below o9) (by have := num_lit2 w8 1 999999998 (by omega) (by omega) (by omega) (by omega); simpa using this)
  have hQ10 := hQ9.below o9
  have hR10 := hR9.below o9
  have bb10 : Below w.heap.size w (w8.alloc (.cells #[.int .u32 1, .int .u32 999999998] 46)) := bb9.trans (o9.mono bb9.size)
  clear hB9 hQ9 hR9 o9 bb9
  go_wp2_with fail
  refine s2.mono ?_
  rintro e w9 ⟨rfl, b9⟩
  clear s2
  have hQ11 := hQ10.below b9
  have hR11 := hR10.below b9
  have bb11 : Below w.heap.size w w9 := bb10.trans (b9.mono bb10.size)
  clear hQ10 hR10 b9 bb10
  have o11 := one_below w9 (.cells #[.int .u32 333333333] 46)
  have s3 := same_num _ _ 333333333 _ (hQ11.below o11) (num_lit1 w9 333333333 (by omega) (by omega))
  have hR12 := hR11.below o11
  have bb12 : Below w.heap.size w (w9.alloc (.cells #[.int .u32 333333333] 46)) := bb11.trans (o11.mono bb11.size)
  clear hQ11 hR11 o11 bb11
  go_wp2_with fail
  refine s3.mono ?_
  rintro e w10 ⟨rfl, b10⟩
  clear s3
  have hR13 := hR12.below b10
  have bb13 : Below w.heap.size w w10 := bb12.trans (b10.mono bb12.size)
  clear hR12 b10 bb12
  have o13 := one_below w10 (.cells #[.int .u32 1] 46)
  have s4 := same_num _ _ 1 _ (hR13.below o13) (num_lit1 w10 1 (by omega) (by omega))
  have bb14 : Below w.heap.size w (w10.alloc (.cells #[.int .u32 1] 46)) := bb13.trans (o13.mono bb13.size)
  clear hR13 o13 bb13
  go_wp2_with fail
  refine s4.mono ?_
  rintro e w11 ⟨rfl, b11⟩
  clear s4
  go_wp2
  go_ret
  exact ⟨rfl, bb14.trans (b11.mono bb14.size)⟩
end Go.Proofs.Ytmhplblmabiekaa
