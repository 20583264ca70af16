/-
  What nat.divided answers of a number that is less, and of a divisor of one limb; what nat.Div answers, if nat.divided does; and that heads holds. Conditions: the numbers have at most 2^45 limbs.
  What must come at any rate comes: heads answers true. No condition.
  What nat's calls answer of numbers that are known by what they are worth. Conditions: the numbers have at most 1000 limbs.
  What bits.Len64, bits.LeadingZeros64 and bits.Len answer: how many bits a number has. No condition but the numbers' own kind.
  The arithmetic of a division of two words by one: each half of the quotient is guessed by the divisor's higher half and mended. No condition.
  Masks, sums of bits and words moved up, for the division of two words by one. No condition.
  What bits.Div64 answers: the quotient of two words by one that is greater than the higher. No condition else.
  What nat.take leaves of a row of limbs: the number less another one as many times as it is told. Conditions: the row is not less than that; it lies in a block of its own.
  What nat.take leaves in a row of the call's own. Conditions: the row is worth at least as much as is taken off; fewer than 10^9 times.
  What bits.Mul64, bits.Add64 and bits.Div64 answer where nat.guess calls them. Conditions: the numbers' own.
  What nat.takeAll answers and leaves: how often a number goes into a row of one limb more, and the rest. Conditions: fewer than 10^9 times.
  What nat.dividedByRow answers: quotient and rest by several limbs. Conditions: the divisor has at least two limbs, and the number is not less.
  What nat.Div and nat.Compare answer of numbers that are known by what they are worth. Conditions: the numbers have at most 1000 limbs.
-/
import Derived.Test.YtfhapeinfhjihaaGreatDoorA9
import Derived.Laws.AppendOwnNone
import Derived.Test.YtfhapeinfhjihaaGreatDoorA1
import Derived.Lib.Strings
import Derived.Lib.Slices
import Derived.Lib.Small
import Derived.Lib.Walk
import Derived.Lib.BitFns
import Derived.Deep.Light
import Derived.Test.YtfhapeinfhjihaaGreatDoorM0
import Derived.Laws.Bits64b
import Derived.Shelf.Spec.BitsCarry
import Derived.Laws.CopyOwn
namespace Go.Proofs.YtfhapeinfhjihaaGreatDoor
open Go.RowKit

theorem add_at (b off j : Nat) : (⟨b, off, none⟩ : Addr).add j = ⟨b, off + j, none⟩ := by
  simp only [Addr.add]; split
  · simp_all
  · rfl
/-- 'append(x, y...)', x of the call's own, y a slice of limbs. -/
theorem wpList_append_row {w : World} {ops : Array Oper} {rest : List Oper} {o : Oper} {a : Act} {Q : Exit → Act → World → Prop} (hgd : o.guard = none) (s x : Operand)
    (ho : o.op = .call { callee := .builtin .append, args := #[s, x], argTypes := #[45, 45] }) (base : Nat) (v : Value) (n : Nat) (xs : List Value) (hs : a.eval s = v) (hown : w.ownsRow base 76 1 v n xs)
    (v1 : Value) (m : Nat) (g : Nat → Int) (hx : a.eval x = v1) (hR : Row w v1 m g) (hb : (n + m) * 4 ≤ 140737488355328) (hbase : base ≤ w.heap.size)
    (h : ∀ v' w', w'.ownsRow base 76 1 v' (n + m) (xs ++ vals m g) → w.grownBy w' v.ownBlock → wpList Tryz.prog ops Q rest (a.put o.dst v') w') : wpList Tryz.prog ops Q (o :: rest) a w := by
  obtain ⟨i0, hi, hz0, hz1, hz2⟩ := info_parts info46
  rcases hR with ⟨rfl, ad, cap, rfl, hn⟩ | ⟨b, off, cap, rfl, hc, hm, hL⟩
  · rcases ad with _ | ad
    · have hc := hn rfl
      subst hc
      refine wpList_append_own_none hgd s x 45 ho base 76 i0 1 Tryz.underlying45 hi v n xs hs hown hx (h v w (by simpa [vals] using hown) ?_)
      exact ⟨rfl, rfl, rfl, Nat.le_refl _, fun _ _ _ => rfl⟩
    · refine wpList_append_own _ hgd s x 45 ho base 76 i0 (.int .u32 0) 1 4 Tryz.underlying45 hi hz0 hz1 hz2 rfl (by decide) v n xs hs hown ad 0 cap [] hx rfl (fun j u hj => by simp at hj) (fun u hu => by simp at hu) (by unfold maxLen; omega) (by omega) hbase ?_
      intro v' w' h1 h2 _
      exact h v' w' (by simpa [vals] using h1) h2
  · refine wpList_append_own _ hgd s x 45 ho base 76 i0 (.int .u32 0) 1 4 Tryz.underlying45 hi hz0 hz1 hz2 rfl (by decide) v n xs hs hown ⟨b, off, none⟩ m cap (vals m g) hx (by rw [vals_length]; omega) (fun j u hj => ?_) (fun u hu => ?_) (by unfold maxLen; omega) (by omega) hbase ?_
    · have hlt : j < m := by have := (List.getElem?_eq_some_iff.1 hj).1; rwa [vals_length] at this
      rw [vals_get _ _ _ hlt] at hj
      rw [add_at, hL.cell j hlt, hj]
    · simp only [vals, List.mem_map] at hu
      obtain ⟨i, _, rfl⟩ := hu
      rfl
    · intro v' w' h1 h2 _
      exact h v' w' h1 h2
theorem row_own {w : World} {B : Nat} {v : Value} {len : Nat} {f : Nat → Int} (lo : ∀ i, 0 ≤ f i) (hi : ∀ i, f i < 4294967296) (h : w.ownsRow B 76 1 v len (vals len f)) : Row w v len f := by
  rcases h.2 with ⟨rfl, h0⟩ | ⟨g, cap, cur, rfl, hb, hg, hc, hm, hs, ht⟩
  · exact .inl ⟨h0, none, 0, rfl, fun _ => rfl⟩
  · refine .inr ⟨g, 0, cap, rfl, hc, hm, ⟨fun i hi => ?_, lo, hi⟩⟩
    rw [Nat.zero_add, h.cellAt i (by omega), vals_get _ _ _ hi]
/-- A row can be taken to have limbs in bounds everywhere. -/
theorem Row.bounded {w : World} {v : Value} {n : Nat} {f : Nat → Int} (h : Row w v n f) : ∃ f', Row w v n f' ∧ (∀ i, i < n → f' i = f i) ∧ (∀ i, 0 ≤ f' i) ∧ (∀ i, f' i < 4294967296) := by
  rcases h with ⟨rfl, a, cap, rfl, hn⟩ | ⟨b, off, cap, rfl, hc, hm, hL⟩
  · exact ⟨fun _ => 0, .inl ⟨rfl, a, cap, rfl, hn⟩, fun i hi => absurd hi (by omega), fun _ => (by decide : (0 : Int) ≤ 0), fun _ => (by decide : (0 : Int) < 4294967296)⟩
  · exact ⟨f, .inr ⟨b, off, cap, rfl, hc, hm, hL⟩, fun _ _ => rfl, hL.lo, hL.hi⟩

/-- Quotient and rest. -/
def Divides (w : World) (rq rr : Value) (A B : Int) : Prop := ∃ Q R, Num w rq Q ∧ Num w rr R ∧ A = Q * B + R ∧ 0 ≤ R ∧ R < B

set_option maxHeartbeats 400000 in
theorem divided_less (v0 v1 : Value) (n m : Nat) (f g : Nat → Int) (w : World) (h0 : Row w v0 n f) (h1 : Row w v1 m g) (hf : Can n f) (hg : Can m g) (hn : n ≤ 35184372088832) (hlt : val f n < val g m) :
    Calls Tryz.prog 85 #[v0, v1] w fun e w' => ∃ rq, ∃ rr, e = .returned (.tuple #[rq, rr]) ∧ Divides w' rq rr (val f n) (val g m) ∧ Below w.heap.size w w' := by
  have hc := compared_any v0 v1 n m f g w h0 h1 hf hg
  have hl : decide (cmpI (val f n) (val g m) < 0) = true := by rw [cmpI_lt]; exact decide_eq_true hlt
  obtain ⟨f', h0', he, lo, up⟩ := h0.bounded
  have hf' : Can n f' := ⟨fun i hi => by rw [he i hi]; exact hf.1 i hi, fun h => by rw [he (n - 1) (by omega)]; exact hf.2 h⟩
  have ev : val f' n = val f n := val_congr he
  have pos := val_nonneg hf.1
  obtain ⟨a, cap, rfl, _⟩ := h0.shape
  obtain ⟨a', cap', rfl, _⟩ := h1.shape
  clear h0 h1 hf hg he
  generalize val g m = B at *
  generalize val f n = A at *
  generalize cmpI A B = C at *
  go_enter Tryz.func85, Tryz.ntmps85
  go_wp2_with fail
  refine hc.mono ?_
  rintro e w' ⟨rfl, q, rfl⟩
  have hA : Row ((w.drewN q).alloc (.cells #[] 76)) (.slice a n cap) n f' := (h0'.drewN q).alloc _
  have hbl : Below w.heap.size w ((w.drewN q).alloc (.cells #[] 76)) := (below_drewN (Below.refl _ _) q).alloc (by simp) _
  have hok : ((w.drewN q).alloc (.cells #[] 76)).ownsRow w.heap.size 76 1 (.slice (some ⟨w.heap.size, 0, none⟩) 0 0) 0 [] := World.ownsRow_made (w.drewN q) #[] 0 (by simp) (by simp [maxLen]) rfl
  clear hc h0'
  go_wp2_with (at_builtin; refine wpList_append_row rfl (.tmp 11) (.tmp 12) rfl w.heap.size _ _ _ rfl hok _ n f' rfl hA ?_ ?_ ?_)
  · omega
  · simp
  · intro v' w2 hown2 hgrow2
    have hb2 : Below w.heap.size w w2 := hbl.grown hgrow2 (by simp) (fun j hj => (hok.lt j hj).1)
    have hr : Num w2 v' A := ⟨n, f', row_own lo up (by simpa using hown2), hf', ev⟩
    clear hA hok hbl hgrow2 hown2
    go_wp2
    go_ret2
    exact ⟨_, _, rfl, ⟨0, A, num_nil w2, hr, by omega, by omega, hlt⟩, hb2⟩

set_option maxHeartbeats 400000 in
theorem divided_limb (v0 v1 : Value) (n : Nat) (f g : Nat → Int) (w : World) (h0 : Row w v0 n f) (h1 : Row w v1 1 g) (hf : Can n f) (hg : Can 1 g) (hn : n ≤ 35184372088832) (hle : val g 1 ≤ val f n) :
    Calls Tryz.prog 85 #[v0, v1] w fun e w' => ∃ rq, ∃ rr, e = .returned (.tuple #[rq, rr]) ∧ Divides w' rq rr (val f n) (val g 1) ∧ Below w.heap.size w w' := by
  have hc := compared_any v0 v1 n 1 f g w h0 h1 hf hg
  have hl : decide (cmpI (val f n) (val g 1) < 0) = false := by rw [cmpI_lt]; exact decide_eq_false (by omega)
  have eg : val g 1 = g 0 := by simp [val, pw_zero]
  have bg := hg.1 0 (by omega)
  have gz := hg.2 (by omega)
  simp only [Nat.sub_self] at gz
  have hd := fun q => byLimb_any v0 n f (g 0) (w.drewN q) (h0.drewN q) hf.1 (by omega) bg.2 (by omega)
  rw [eg] at hc hl ⊢
  obtain ⟨a, cap, rfl, _⟩ := h0.shape
  obtain ⟨b', off', cap', rfl, _, _, hL'⟩ := h1.lies (by omega)
  have c1 := hL'.cell 0 (by omega)
  rw [Nat.add_zero] at c1
  clear h0 h1 hf hg hL' hle eg
  generalize g 0 = y at *
  generalize cmpI (val f n) y = C at *
  go_enter Tryz.func85, Tryz.ntmps85
  go_wp2_with fail
  refine hc.mono ?_
  rintro e w' ⟨rfl, q, rfl⟩
  have hd := hd q
  go_wp2_with fail
  refine hd.mono ?_
  rintro e w' ⟨rq, rr, rfl, hr, hb⟩
  clear hd hc
  go_wp2
  go_ret2
  exact ⟨_, _, rfl, hr, (below_drewN (Below.refl _ _) q).trans hb⟩

set_option maxHeartbeats 400000 in
theorem div_ok (v0 v1 : Value) (A B : Int) (n m : Nat) (f g : Nat → Int) (w : World) (h0 : Row w v0 n f) (h1 : Row w v1 m g) (hf : Can n f) (hg : Can m g) (h0m : 0 < m)
    (hd0 : ∀ w, Row w v0 n f → Row w v1 m g → Calls Tryz.prog 85 #[v0, v1] w fun e w' => ∃ rq, ∃ rr, e = .returned (.tuple #[rq, rr]) ∧ Divides w' rq rr A B ∧ Below w.heap.size w w') :
    Calls Tryz.prog 63 #[v0, v1] w fun e w' => ∃ rq, ∃ rr, e = .returned (.tuple #[rq, rr, .int .i64 0]) ∧ Divides w' rq rr A B ∧ Below w.heap.size w w' := by
  have hk := (checked_new v0 v1 n m f g w h0 h1).1 hf hg
  have hs := hd0 _ (h0.alloc (.cells #[v0, v1] 45)) (h1.alloc _)
  obtain ⟨a, cap, rfl, _⟩ := h0.shape
  obtain ⟨a', cap', rfl, _⟩ := h1.shape
  have hI : ((m : Int) == 0) = false := beq_eq_false_iff_ne.2 (by omega)
  clear h0 h1 hf hg hd0
  go_enter Tryz.func63, Tryz.ntmps63
  go_wp2_with fail
  refine hk.mono ?_
  rintro e w' ⟨rfl, rfl⟩
  go_wp2_with fail
  refine hs.mono ?_
  rintro e w' ⟨rq, rr, rfl, hr, hbl⟩
  clear hs hk
  go_wp2
  go_ret3
  exact ⟨_, _, rfl, hr, below_from_alloc hbl⟩

set_option maxHeartbeats 400000 in
theorem div_zero (v0 v1 : Value) (n : Nat) (f g : Nat → Int) (w : World) (h0 : Row w v0 n f) (h1 : Row w v1 0 g) (hf : Can n f) :
    Calls Tryz.prog 63 #[v0, v1] w fun e w' => e = .returned (.tuple #[.slice none 0 0, .slice none 0 0, .int .i64 20]) ∧ Below w.heap.size w w' := by
  have hk := (checked_new v0 v1 n 0 f g w h0 h1).1 hf ⟨fun i hi => absurd hi (by omega), fun h => absurd h (by omega)⟩
  obtain ⟨a, cap, rfl, _⟩ := h0.shape
  obtain ⟨a', cap', rfl, _⟩ := h1.shape
  have hb : Below w.heap.size w (w.alloc (.cells #[.slice a n cap, .slice a' 0 cap'] 45)) := one_below w _
  clear h0 h1 hf
  go_enter Tryz.func63, Tryz.ntmps63
  go_wp2_with fail
  refine hk.mono ?_
  rintro e w' ⟨rfl, rfl⟩
  go_wp2
  go_ret3
  exact ⟨rfl, hb⟩
end Go.Proofs.YtfhapeinfhjihaaGreatDoor

namespace Go.Proofs.YtfhapeinfhjihaaGreatDoor
open Go.RowKit

def sT : ByteArray := { data := #[49, 48, 48, 48, 48, 48, 48, 48, 48, 48] }
theorem sT_digits : Digits sT := by
  intro i hi
  have h : i < 10 := hi
  match i, h with
  | 0, _ => exact ⟨by decide, by decide⟩
  | 1, _ => exact ⟨by decide, by decide⟩
  | 2, _ => exact ⟨by decide, by decide⟩
  | 3, _ => exact ⟨by decide, by decide⟩
  | 4, _ => exact ⟨by decide, by decide⟩
  | 5, _ => exact ⟨by decide, by decide⟩
  | 6, _ => exact ⟨by decide, by decide⟩
  | 7, _ => exact ⟨by decide, by decide⟩
  | 8, _ => exact ⟨by decide, by decide⟩
  | 9, _ => exact ⟨by decide, by decide⟩
theorem sT_dec : dec (dig sT) sT.size = 1000000000 := by decide

theorem can_one {x : Int} (x0 : 0 < x) (x1 : x < 1000000000) : Can 1 (fun _ => x) := ⟨fun _ _ => ⟨by show 0 ≤ x; omega, x1⟩, fun _ => by show x ≠ 0; omega⟩
theorem val_one (x : Int) : val (fun _ => x) 1 = x := by simp [val, pw_zero]
theorem num_lit1 (w : World) (x : Int) (x0 : 0 < x) (x1 : x < 1000000000) : Num (w.alloc (.cells #[.int .u32 x] 76)) (.slice (some ⟨w.heap.size, 0, none⟩) 1 1) x :=
  ⟨1, _, num_one w x (by omega) x1, can_one x0 x1, val_one x⟩
def two (x y : Int) : Nat → Int := fun i => if i = 0 then x else y
theorem num_lit2 (w : World) (x y : Int) (x0 : 0 ≤ x) (x1 : x < 1000000000) (y0 : 0 < y) (y1 : y < 1000000000) : Num (w.alloc (.cells #[.int .u32 x, .int .u32 y] 76)) (.slice (some ⟨w.heap.size, 0, none⟩) 2 2) (x + y * 1000000000) := by
  have bd : ∀ i, 0 ≤ two x y i ∧ two x y i < 1000000000 := fun i => by unfold two; split <;> omega
  refine ⟨2, two x y, .inr ⟨_, 0, 2, rfl, Nat.le_refl _, by simp [maxLen], ⟨fun i hi => ?_, fun i => (bd i).1, fun i => by have := (bd i).2; omega⟩⟩, ⟨fun i _ => bd i, fun _ => ?_⟩, ?_⟩
  · match i, hi with
    | 0, _ => simp [two]
    | 1, _ => simp [two]
  · show two x y 1 ≠ 0
    simp [two]; omega
  · simp [val, two, pw]
/-- A number below the worth of a place has no more limbs. -/
theorem can_le {n k : Nat} {f : Nat → Int} (h : Can n f) (hv : val f n < pw k) : n ≤ k := by
  by_cases z : n ≤ k
  · exact z
  · have h1 := can_ge h (by omega)
    have h2 := pw_mono (show k ≤ n - 1 by omega)
    omega

end Go.Proofs.YtfhapeinfhjihaaGreatDoor

namespace Go.Proofs.YtfhapeinfhjihaaGreatDoor
open Go.RowKit

theorem mul_num (v0 v1 : Value) (A B : Int) (w : World) (h0 : Num w v0 A) (h1 : Num w v1 B) (hA : A < pw 1000) (hB : B < pw 1000) :
    Calls Tryz.prog 21 #[v0, v1] w fun e w' => ∃ r, e = .returned (.tuple #[r, .int .i64 0]) ∧ Num w' r (A * B) ∧ Below w.heap.size w w' := by
  obtain ⟨n, f, r0, c0, e0⟩ := h0
  obtain ⟨m, g, r1, c1, e1⟩ := h1
  have := can_le c0 (k := 1000) (by rw [e0]; exact hA)
  have := can_le c1 (k := 1000) (by rw [e1]; exact hB)
  exact mul_ok v0 v1 A B n m f g w r0 r1 c0 c1 e0 e1 (by omega) (by omega)

theorem check_num (v0 : Value) (A : Int) (w : World) (h0 : Num w v0 A) : Calls Tryz.prog 19 #[v0] w fun e w' => e = .returned (.int .i64 0) ∧ w = w' := by
  obtain ⟨n, f, r0, c0, e0⟩ := h0
  exact check_ok v0 n f w r0 c0

theorem mul_pw {A B : Int} {a b : Nat} (a0 : 0 ≤ A) (hA : A < pw a) (hB : B < pw b) : A * B < pw (a + b) := by
  have h1 : A * B ≤ A * pw b := Int.mul_le_mul_of_nonneg_left (by omega) a0
  have h2 : A * pw b < pw a * pw b := Int.mul_lt_mul_of_pos_right hA (by have := pw_pos b; omega)
  rw [pw_add]; omega

theorem lt_pw {A : Int} {a b : Nat} (h : A < pw a) (hb : a ≤ b) : A < pw b := by have := pw_mono hb; omega

theorem add_pw {A B : Int} {a : Nat} (hA : A < pw a) (hB : B < pw a) : A + B < pw (a + 1) := by have := pw_pos a; rw [pw_succ]; omega

theorem num_row {w : World} {v : Value} {n : Nat} {f : Nat → Int} (h : Row w v n f) (hc : Can n f) : Num w v (val f n) := ⟨n, f, h, hc, rfl⟩

end Go.Proofs.YtfhapeinfhjihaaGreatDoor

namespace Go.Proofs.YtfhapeinfhjihaaGreatDoor
open Go.RowKit

/-- One of the eight ways: k bits are cut off, a byte is left. -/
theorem len_way (x : Int) (k : Nat) (b : Int) (hb0 : 0 ≤ b) (hb1 : b ≤ 255) (he : b.toNat = x.toNat / 2 ^ k) (hs : k = 0 ∨ 2 ^ k ≤ x.toNat) (hx : x.toNat < 2 ^ 64) : (Lib.bitLen x.toNat : Int) = (k : Int) + Lib.len8 b ∧ 0 ≤ Lib.len8 b ∧ Lib.len8 b ≤ 8 := by
  have l := Lib.bitLen_le8' b hb0 hb1
  rw [Lib.len8_of b hb0 hb1]
  refine ⟨?_, by omega, by omega⟩
  rcases hs with rfl | hs
  · rw [he]; simp
  · rw [Lib.bitLen_shift k x.toNat hs hx, he]; omega

set_option maxRecDepth 100000 in
theorem tab_size : (Lib.len8tab.size : Int) = 256 := by
  have : Lib.len8tab.size = 256 := by decide
  omega
theorem tab_get (y : Int) (h : y.toNat < Lib.len8tab.size) : ((Lib.len8tab[y.toNat]'h).toNat : Int) = Lib.len8 y := by
  unfold Lib.len8
  rw [getElem?_pos Lib.len8tab y.toNat h]
  rfl
theorem len_end (x : Int) (k : Nat) (b : Int) (hb0 : 0 ≤ b) (hb1 : b ≤ 255) (he : b.toNat = x.toNat / 2 ^ k) (hs : k = 0 ∨ 2 ^ k ≤ x.toNat) (hx : x.toNat < 2 ^ 64) : wrap64 ((k : Int) + wrap64 (Lib.len8 b)) = (Lib.bitLen x.toNat : Int) := by
  have hk : k < 64 := by
    rcases hs with h | h
    · omega
    · exact (Nat.pow_lt_pow_iff_right (by decide)).1 (Nat.lt_of_le_of_lt h hx)
  obtain ⟨a, b, c⟩ := len_way x k b hb0 hb1 he hs hx
  rw [a]
  unfold wrap64
  omega
set_option maxHeartbeats 4000000 in
set_option maxRecDepth 100000 in
theorem len64_any (x : Int) (w : World) (h0 : 0 ≤ x) (h1 : x ≤ 18446744073709551615) :
    Calls Tryz.prog 119 #[.int .u64 x] w fun e w' => e = .returned (.int .i64 (Lib.bitLen x.toNat)) ∧ w = w' := by
  have hs := tab_size
  go_enter Tryz.func119, Tryz.ntmps119
  go_wp2
  all_goals (go_ret; refine ⟨congrArg Ending.returned (congrArg (Value.int IntKind.i64) ?_), rfl⟩; go_light)
  all_goals first
    | (rw [tab_get (x / 4294967296 / 65536 / 256) _]; exact len_end x 56 (x / 4294967296 / 65536 / 256) (by omega) (by omega) (by omega) (.inr (by omega)) (by omega))
    | (rw [tab_get (x / 4294967296 / 65536) _]; exact len_end x 48 (x / 4294967296 / 65536) (by omega) (by omega) (by omega) (.inr (by omega)) (by omega))
    | (rw [tab_get (x / 4294967296 / 256) _]; exact len_end x 40 (x / 4294967296 / 256) (by omega) (by omega) (by omega) (.inr (by omega)) (by omega))
    | (rw [tab_get (x / 4294967296) _]; exact len_end x 32 (x / 4294967296) (by omega) (by omega) (by omega) (.inr (by omega)) (by omega))
    | (rw [tab_get (x / 65536 / 256) _]; exact len_end x 24 (x / 65536 / 256) (by omega) (by omega) (by omega) (.inr (by omega)) (by omega))
    | (rw [tab_get (x / 65536) _]; exact len_end x 16 (x / 65536) (by omega) (by omega) (by omega) (.inr (by omega)) (by omega))
    | (rw [tab_get (x / 256) _]; exact len_end x 8 (x / 256) (by omega) (by omega) (by omega) (.inr (by omega)) (by omega))
    | (rw [tab_get (x) _]; have hz := len_end x 0 (x) (by omega) (by omega) (by simp) (.inl rfl) (by omega); simpa using hz)
    | (rw [tab_get (x) _]; have hz := len_end x 0 (x) (by omega) (by omega) (by simp) (.inl rfl) (by omega); have hw := len_way x 0 x (by omega) (by omega) (by simp) (.inl rfl) (by omega); unfold wrap64 at *; omega)

theorem bits_aux (f x : Nat) (h : x < 2 ^ f) : x < 2 ^ Lib.bitLenAux f x ∧ (0 < x → 2 ^ Lib.bitLenAux f x ≤ 2 * x) ∧ Lib.bitLenAux f x ≤ f := by
  induction f generalizing x with
  | zero => simp [Lib.bitLenAux] at *; omega
  | succ f ih =>
    unfold Lib.bitLenAux
    by_cases z : x = 0
    · simp [z]
    · rw [if_neg z]
      have := ih (x / 2) (by rw [Nat.pow_succ] at h; omega)
      rw [Nat.add_comm 1, Nat.pow_succ]
      refine ⟨by omega, fun _ => ?_, by omega⟩
      by_cases z2 : x / 2 = 0
      · have e : Lib.bitLenAux f (x / 2) = 0 := by rw [z2]; cases f <;> simp [Lib.bitLenAux]
        rw [e]; omega
      · have := this.2.1 (by omega); omega
/-- A number that is not nought, moved up until its highest bit is the 64th. -/
theorem lead_any (y : Int) (w : World) (h0 : 0 < y) (h1 : y ≤ 18446744073709551615) : ∃ s : Nat, s ≤ 63 ∧ 9223372036854775808 ≤ y * 2 ^ s ∧ y * 2 ^ s < 18446744073709551616 ∧
    Calls Tryz.prog 142 #[.int .u64 y] w fun e w' => e = .returned (.int .i64 s) ∧ w = w' := by
  have hl := len64_any y w (by omega) h1
  obtain ⟨a, b, c⟩ := bits_aux 64 y.toNat (by omega)
  have e : Lib.bitLen y.toNat = Lib.bitLenAux 64 y.toNat := rfl
  rw [e] at hl
  obtain ⟨L, hL⟩ : ∃ L, Lib.bitLenAux 64 y.toNat = L := ⟨_, rfl⟩
  rw [hL] at hl a b c
  have b := b (by omega)
  clear e hL
  have hL0 : 0 < L := by
    by_cases z : L = 0
    · subst z; simp at a; omega
    · omega
  have hp : (2 : Nat) ^ L * 2 ^ (64 - L) = 2 ^ 64 := by rw [← Nat.pow_add, show L + (64 - L) = 64 by omega]
  have hpos : 0 < (2 : Nat) ^ (64 - L) := Nat.two_pow_pos _
  have k1 : y.toNat * 2 ^ (64 - L) < 2 ^ L * 2 ^ (64 - L) := Nat.mul_lt_mul_of_pos_right a hpos
  have k2 : 2 ^ L * 2 ^ (64 - L) ≤ 2 * y.toNat * 2 ^ (64 - L) := Nat.mul_le_mul_right _ b
  rw [Nat.mul_assoc] at k2
  have ec : y * 2 ^ (64 - L) = ((y.toNat * 2 ^ (64 - L) : Nat) : Int) := by
    rw [Int.natCast_mul, Int.toNat_of_nonneg (by omega)]; simp
  refine ⟨64 - L, by omega, by rw [ec]; omega, by rw [ec]; omega, ?_⟩
  have es : ((64 - L : Nat) : Int) = 64 - (L : Int) := by omega
  rw [es]
  clear ec k1 k2 hp hpos es a b
  go_enter Tryz.func142, Tryz.ntmps142
  go_wp2_with (go_at_call 119; refine hl.mono ?_; rintro e w' ⟨rfl, rfl⟩)
  go_ret
  exact ⟨rfl, rfl⟩
end Go.Proofs.YtfhapeinfhjihaaGreatDoor

namespace Go.Proofs.YtfhapeinfhjihaaGreatDoor

theorem dv_mul (q r u y1 y0 : Int) (h : u = q * y1 + r) : q * (y1 * 4294967296 + y0) = (u - r) * 4294967296 + q * y0 := by
  subst h
  rw [Int.mul_add, show q * y1 + r - r = q * y1 by omega, Int.mul_assoc]
theorem dv_exit (q r u y1 y0 d Y : Int) (h : u = q * y1 + r) (hY : Y = y1 * 4294967296 + y0) (hp : 0 < Y) (ht : q * y0 ≤ 4294967296 * r + d) : q ≤ (u * 4294967296 + d) / Y := by
  rw [Int.le_ediv_iff_mul_le hp, hY, dv_mul q r u y1 y0 h]
  omega
theorem dv_more (q r u y1 y0 d Y : Int) (h : u = q * y1 + r) (hY : Y = y1 * 4294967296 + y0) (hp : 0 < Y) (ht : 4294967296 * r + d < q * y0) : (u * 4294967296 + d) / Y ≤ q - 1 := by
  have : (u * 4294967296 + d) / Y < q := by
    rw [Int.ediv_lt_iff_lt_mul hp, hY, dv_mul q r u y1 y0 h]
    omega
  omega
theorem dv_small (u d Y : Int) (hp : 0 < Y) (hu : u < Y) (hd : d < 4294967296) : (u * 4294967296 + d) / Y < 4294967296 := by
  rw [Int.ediv_lt_iff_lt_mul hp]
  omega
theorem dv_big (q u d Y : Int) (hp : 0 < Y) (hu : u < Y) (hd : d < 4294967296) (hq : 4294967296 ≤ q) : (u * 4294967296 + d) / Y ≤ q - 1 := by
  have := dv_small u d Y hp hu hd
  omega
theorem dv_break (q r u y1 y0 d Y : Int) (h : u = q * y1 + r) (hY : Y = y1 * 4294967296 + y0) (hp : 0 < Y) (q1 : q ≤ 4294967296) (hr : 4294967296 ≤ r) (b0 : 0 ≤ y0) (b1 : y0 < 4294967296) (hd : 0 ≤ d) : q ≤ (u * 4294967296 + d) / Y := by
  refine dv_exit q r u y1 y0 d Y h hY hp ?_
  have : q * y0 ≤ 4294967296 * y0 := Int.mul_le_mul_of_nonneg_right q1 b0
  omega
/-- The first guess. -/
theorem dv_first (u y1 y0 d Y : Int) (hY : Y = y1 * 4294967296 + y0) (hu0 : 0 ≤ u) (hu : u < Y) (hy : 2147483648 ≤ y1) (b0 : 0 ≤ y0) (b1 : y0 < 4294967296) (hd0 : 0 ≤ d) (hd : d < 4294967296) :
    (u * 4294967296 + d) / Y ≤ u / y1 ∧ u / y1 ≤ 4294967297 ∧ 0 ≤ u / y1 ∧ 0 ≤ u - u / y1 * y1 ∧ u - u / y1 * y1 < y1 := by
  have e := Int.mul_ediv_add_emod u y1
  have m0 := Int.emod_nonneg u (show y1 ≠ 0 by omega)
  have m1 := Int.emod_lt_of_pos u (show 0 < y1 by omega)
  rw [Int.mul_comm] at e
  have q0 : 0 ≤ u / y1 := Int.ediv_nonneg hu0 (by omega)
  refine ⟨?_, ?_, q0, by omega, by omega⟩
  · have : (u * 4294967296 + d) / Y < u / y1 + 1 := by
      rw [Int.ediv_lt_iff_lt_mul (by omega), hY, Int.add_mul, dv_mul (u / y1) (u % y1) u y1 y0 (by omega)]
      have := Int.mul_nonneg q0 b0
      omega
    omega
  · have : u / y1 < 4294967298 := by
      rw [Int.ediv_lt_iff_lt_mul (by omega)]
      omega
    omega
/-- What is left is below the divisor, and fits into one word. -/
theorem dv_rest (u d Y q : Int) (hp : 0 < Y) (hq : q = (u * 4294967296 + d) / Y) : 0 ≤ u * 4294967296 + d - q * Y ∧ u * 4294967296 + d - q * Y < Y := by
  have e := Int.mul_ediv_add_emod (u * 4294967296 + d) Y
  have m0 := Int.emod_nonneg (u * 4294967296 + d) (show Y ≠ 0 by omega)
  have m1 := Int.emod_lt_of_pos (u * 4294967296 + d) hp
  rw [Int.mul_comm] at e
  subst hq
  omega
/-- Both halves together. -/
theorem dv_whole (X y Y P u un10 q1 q0 v : Int) (hP : 0 < P) (hY : Y = y * P) (hy : 0 < y) (hX : X * P = u * 18446744073709551616 + un10)
    (hp : 0 < Y) (hv : v = u * 4294967296 + un10 / 4294967296 - q1 * Y) (hq0 : q0 = (v * 4294967296 + un10 % 4294967296) / Y) : q1 * 4294967296 + q0 = X / y := by
  obtain ⟨a0, a1⟩ := dv_rest v (un10 % 4294967296) Y q0 hp hq0
  have e1 : X * P = (q1 * 4294967296 + q0) * Y + (v * 4294967296 + un10 % 4294967296 - q0 * Y) := by
    rw [hX, Int.add_mul, Int.mul_assoc, Int.mul_comm 4294967296 Y, ← Int.mul_assoc]
    omega
  generalize v * 4294967296 + un10 % 4294967296 - q0 * Y = r at *
  generalize q1 * 4294967296 + q0 = q at *
  have l1 : q ≤ X / y := by
    rw [Int.le_ediv_iff_mul_le hy]
    refine Int.le_of_mul_le_mul_right (a := P) ?_ hP
    rw [Int.mul_assoc, ← hY]; omega
  have l2 : X / y < q + 1 := by
    rw [Int.ediv_lt_iff_lt_mul hy]
    refine Int.lt_of_mul_lt_mul_right (a := P) ?_ (by omega)
    rw [Int.mul_assoc, ← hY, Int.add_mul]; omega
  omega
/-- .. and the rest. -/
theorem dv_mod (X y Y P u un10 q1 q0 v : Int) (hP : 0 < P) (hY : Y = y * P) (hX : X * P = u * 18446744073709551616 + un10)
    (hv : v = u * 4294967296 + un10 / 4294967296 - q1 * Y) (hQ : q1 * 4294967296 + q0 = X / y) : (v * 4294967296 + un10 % 4294967296 - q0 * Y) / P = X % y := by
  have e1 : X * P = (q1 * 4294967296 + q0) * Y + (v * 4294967296 + un10 % 4294967296 - q0 * Y) := by
    rw [hX, Int.add_mul, Int.mul_assoc, Int.mul_comm 4294967296 Y, ← Int.mul_assoc]
    omega
  rw [hQ, hY, ← Int.mul_assoc] at e1
  have e2 : v * 4294967296 + un10 % 4294967296 - q0 * (y * P) = (X - X / y * y) * P := by rw [Int.sub_mul]; omega
  rw [hY, e2, Int.mul_ediv_cancel _ (by omega)]
  have := Int.mul_ediv_add_emod X y
  rw [Int.mul_comm] at this
  omega
end Go.Proofs.YtfhapeinfhjihaaGreatDoor

namespace Go.Proofs.YtfhapeinfhjihaaGreatDoor
open Go.RowKit

theorem u64_mask (a : Int) (h0 : 0 ≤ a) (h1 : a < 18446744073709551616) : bits .and .u64 a 4294967295 = a % 4294967296 := by
  obtain ⟨n, rfl⟩ := Int.eq_ofNat_of_zero_le h0
  have h := bits_and_u64_nat n 4294967295 (by omega) (by omega)
  have e : n &&& 4294967295 = n % 4294967296 := Nat.and_two_pow_sub_one_eq_mod n 32
  rw [e] at h
  rw [show ((n : Int)) % 4294967296 = ((n % 4294967296 : Nat) : Int) by omega]
  exact h
theorem u64_or (a b : Int) (s : Nat) (h0 : 0 ≤ a) (b0 : 0 ≤ b) (b1 : b < 2 ^ s) (hs : a * 2 ^ s + b < 18446744073709551616) : bits .or .u64 (a * 2 ^ s) b = a * 2 ^ s + b := by
  obtain ⟨n, rfl⟩ := Int.eq_ofNat_of_zero_le h0
  obtain ⟨m, rfl⟩ := Int.eq_ofNat_of_zero_le b0
  have e1 : (n : Int) * 2 ^ s = ((n * 2 ^ s : Nat) : Int) := by simp
  have e2 : m < 2 ^ s := by
    have : ((2 ^ s : Nat) : Int) = (2 : Int) ^ s := by simp
    omega
  rw [e1] at hs ⊢
  have h := bits_or_u64_nat (n * 2 ^ s) m (by omega) (by omega)
  rw [Nat.mul_comm n, ← Nat.two_pow_add_eq_or_of_lt e2] at h
  rw [Nat.mul_comm n, h]
  simp
/-- A word moved up by s bits, in two words. -/
theorem word_up (lo : Int) (s : Nat) (hs : s ≤ 63) : lo * 2 ^ s = lo / 2 ^ (64 - s) * 18446744073709551616 + lo * 2 ^ s % 18446744073709551616 := by
  have e : (18446744073709551616 : Int) = 2 ^ (64 - s) * 2 ^ s := by rw [← Int.pow_add, show 64 - s + s = 64 by omega]; rfl
  have h := Int.mul_ediv_add_emod (lo * 2 ^ s) 18446744073709551616
  have h2 : lo * 2 ^ s / 18446744073709551616 = lo / 2 ^ (64 - s) := by
    rw [e]
    exact Int.mul_ediv_mul_of_pos_left _ _ (Int.pow_pos (by decide))
  rw [h2, Int.mul_comm] at h
  omega

theorem ret2_fst {k : IntKind} {a b : Int} {v : Value} (h : a = b) : Ending.returned (.tuple #[.int k a, v]) = .returned (.tuple #[.int k b, v]) := by rw [h]

end Go.Proofs.YtfhapeinfhjihaaGreatDoor

namespace Go.Proofs.YtfhapeinfhjihaaGreatDoor
open Go.RowKit

set_option maxRecDepth 100000 in
set_option maxHeartbeats 8000000 in
theorem div64_far (hi lo y : Int) (w : World) (h0 : 0 < hi) (h1 : hi < y) (l0 : 0 ≤ lo) (l1 : lo < 18446744073709551616) (y1 : y < 18446744073709551616) :
    Calls Tryz.prog 140 #[.int .u64 hi, .int .u64 lo, .int .u64 y] w fun e w' => e = .returned (.tuple #[.int .u64 ((hi * 18446744073709551616 + lo) / y), .int .u64 ((hi * 18446744073709551616 + lo) % y)]) ∧ w = w' := by
  obtain ⟨s, hs, a0, a1, hl⟩ := lead_any y w (by omega) (by omega)
  have y0 : 0 < y := by omega
  obtain ⟨P, hP⟩ : ∃ P : Int, (2 : Int) ^ s = P := ⟨_, rfl⟩
  have pP : 0 < P := by rw [← hP]; exact Int.pow_pos (by decide)
  have wu := word_up lo s hs
  obtain ⟨P2, hP2⟩ : ∃ P2 : Int, (2 : Int) ^ (64 - s) = P2 := ⟨_, rfl⟩
  have pP2 : 0 < P2 := by rw [← hP2]; exact Int.pow_pos (by decide)
  have L0 : 0 ≤ lo / P2 := Int.ediv_nonneg l0 (by omega)
  have L1 : lo / P2 < P := by
    rw [Int.ediv_lt_iff_lt_mul pP2, ← hP, ← hP2, ← Int.pow_add, show s + (64 - s) = 64 by omega]
    exact l1
  have hu0 : (hi + 1) * P ≤ y * P := Int.mul_le_mul_of_nonneg_right (by omega) (by omega)
  rw [Int.add_mul] at hu0
  have hH0 : 0 ≤ hi * P := Int.mul_nonneg (by omega) (by omega)
  have hor := u64_or hi (lo / P2) s (by omega) L0 (by rw [hP]; exact L1) (by rw [hP]; rw [hP] at a1; omega)
  rw [hP] at hor wu a0 a1
  rw [hP2] at wu
  obtain ⟨QQ, hQQ⟩ : ∃ Q, (hi * 18446744073709551616 + lo) / y = Q := ⟨_, rfl⟩
  rw [hQQ]
  have HQQ : Hid ((hi * 18446744073709551616 + lo) / y = QQ) := hQQ
  obtain ⟨RR, hRR⟩ : ∃ R, (hi * 18446744073709551616 + lo) % y = R := ⟨_, rfl⟩
  rw [hRR]
  have HRR : Hid ((hi * 18446744073709551616 + lo) % y = RR) := hRR
  clear hRR
  obtain ⟨Y, hY⟩ : ∃ Y, y * P = Y := ⟨_, rfl⟩
  obtain ⟨H1, hH1⟩ : ∃ H, hi * P = H := ⟨_, rfl⟩
  obtain ⟨l2, hl2⟩ : ∃ l, lo / P2 = l := ⟨_, rfl⟩
  obtain ⟨loP, hloP⟩ : ∃ x, lo * P = x := ⟨_, rfl⟩
  obtain ⟨un10, h10⟩ : ∃ x, IntKind.u64.wrap loP = x := ⟨_, rfl⟩
  rw [hloP] at wu
  have h10' : loP % 18446744073709551616 = un10 := by rw [← h10, IntKind.wrap_u64]
  rw [h10', hl2] at wu
  rw [hY] at a0 a1 hu0
  rw [hH1] at hor hu0 hH0
  rw [hl2] at hor L0 L1
  have n10a : 0 ≤ un10 := by omega
  have n10b : un10 < 18446744073709551616 := by omega
  have mk1 := u64_mask Y (by omega) a1
  have mk2 := u64_mask un10 n10a n10b
  obtain ⟨u, hu⟩ : ∃ u, H1 + l2 = u := ⟨_, rfl⟩
  rw [hu] at hor
  have u0 : 0 ≤ u := by omega
  have u1 : u < Y := by omega
  have HX : Hid ((hi * 18446744073709551616 + lo) * P = u * 18446744073709551616 + un10) := by
    show (hi * 18446744073709551616 + lo) * P = u * 18446744073709551616 + un10
    rw [Int.add_mul, Int.mul_assoc, Int.mul_comm 18446744073709551616 P, ← Int.mul_assoc, hH1, hloP, wu, ← hu, Int.add_mul]
    omega
  have HY : Hid (y * P = Y) := hY
  obtain ⟨z1, hz1⟩ : ∃ z, Y / 4294967296 = z := ⟨_, rfl⟩
  obtain ⟨z0, hz0⟩ : ∃ z, Y % 4294967296 = z := ⟨_, rfl⟩
  obtain ⟨d1, h10d1⟩ : ∃ z, un10 / 4294967296 = z := ⟨_, rfl⟩
  obtain ⟨d0, h10d0⟩ : ∃ z, un10 % 4294967296 = z := ⟨_, rfl⟩
  rw [hz0] at mk1
  rw [h10d0] at mk2
  have HZ : Hid (Y = z1 * 4294967296 + z0) := by show Y = _; omega
  have z1a : 2147483648 ≤ z1 := by omega
  have z1b : z1 < 4294967296 := by omega
  have z0a : 0 ≤ z0 := by omega
  have z0b : z0 < 4294967296 := by omega
  have d1a : 0 ≤ d1 := by omega
  have d1b : d1 < 4294967296 := by omega
  have d0a : 0 ≤ d0 := by omega
  have d0b : d0 < 4294967296 := by omega
  have Yp : 0 < Y := by omega
  have zz : (z1 == 0) = false := beq_eq_false_iff_ne.2 (by omega)
  have yz : (y == 0) = false := beq_eq_false_iff_ne.2 (by omega)
  have hz : (hi == 0) = false := beq_eq_false_iff_ne.2 (by omega)
  have yh : ¬ y ≤ hi := by omega
  have hsI : (64 - (s : Int)).toNat = 64 - s := by omega
  have hH2 : H1 < 18446744073709551616 := by omega
  clear wu h10' hu hQQ hz0 hu0 L1 pP2
  have fiA := dv_first u z1 z0 d1 Y HZ.out u0 u1 z1a z0a z0b d1a d1b
  have tdA : u.tdiv z1 = u / z1 := Int.tdiv_eq_ediv_of_nonneg u0
  obtain ⟨q1, hq1⟩ : ∃ q1, u / z1 = q1 := ⟨_, rfl⟩
  rw [hq1] at fiA tdA
  obtain ⟨M0, hM0⟩ : ∃ M0, q1 * z1 = M0 := ⟨_, rfl⟩
  obtain ⟨faA, fbA, fcA, fdA, feA⟩ := fiA
  have HM0 : Hid (q1 * z1 = M0) := hM0
  rw [hM0] at fdA feA
  have m0A : 0 ≤ M0 := by rw [← hM0]; exact Int.mul_nonneg fcA (by omega)
  have FAA : Hid ((u * 4294967296 + d1) / Y ≤ q1) := faA
  clear faA hq1
  go_enter Tryz.func140, Tryz.ntmps140
  go_wp2_with (go_at_call 142; refine hl.mono ?_; rintro e w' ⟨rfl, rfl⟩)
  clear hl
  go_loop [15, 16] (fun a b => ∃ q r : Int, a = .int .u64 q ∧ b = .int .u64 r ∧ Hid (u = q * z1 + r) ∧ 0 ≤ r ∧ r < 4294967296 ∧ Hid ((u * 4294967296 + d1) / Y ≤ q) ∧ 0 ≤ q ∧ q ≤ 4294967297) (fun a _ => (intOf a).toNat)
  case atStart => exact ⟨q1, u - M0, rfl, rfl, (by show u = q1 * z1 + (u - M0); rw [HM0.out]; omega), by omega, by omega, FAA.out, fcA, fbA⟩
  case round =>
    obtain ⟨qA, rA, rfl, rfl, HQ, r0, r1, HL, qaA, qbA⟩ := hrel
    have HQ' : Hid (u = (qA - 1) * z1 + (rA + z1)) := by show u = (qA - 1) * z1 + (rA + z1); rw [Int.sub_mul]; have := HQ.out; omega
    by_cases hbA : 4294967296 ≤ qA
    · have HM : Hid ((u * 4294967296 + d1) / Y ≤ qA - 1) := dv_big qA u d1 Y Yp u1 d1b hbA
      by_cases hrA : 4294967296 ≤ rA + z1
      · have HEA : Hid (qA - 1 = (u * 4294967296 + d1) / Y) := by
          have k1 := dv_break (qA - 1) (rA + z1) u z1 z0 d1 Y HQ'.out HZ.out Yp (by omega) hrA z0a z0b d1a
          have k2 := HM.out
          show qA - 1 = _
          omega
        clear HQ HQ' HL HM
        have ks : (qA - 1) < 4294967296 := by rw [HEA.out]; exact dv_small u d1 Y Yp u1 d1b
        have kp : 0 ≤ (qA - 1) := by rw [HEA.out]; exact Int.ediv_nonneg (by omega) (by omega)
        obtain ⟨vr0, vr1⟩ := dv_rest u d1 Y (qA - 1) Yp HEA.out
        obtain ⟨M1, hM1⟩ : ∃ M, (qA - 1) * Y = M := ⟨_, rfl⟩
        rw [hM1] at vr0 vr1
        obtain ⟨v, hv⟩ : ∃ v, u * 4294967296 + d1 - M1 = v := ⟨_, rfl⟩
        obtain ⟨A1, hA1⟩ : ∃ A, IntKind.u64.wrap (u * 4294967296) = A := ⟨_, rfl⟩
        obtain ⟨A2, hA2⟩ : ∃ A, IntKind.u64.wrap (A1 + d1) = A := ⟨_, rfl⟩
        obtain ⟨A3, hA3⟩ : ∃ A, IntKind.u64.wrap M1 = A := ⟨_, rfl⟩
        have hA4 : IntKind.u64.wrap (A2 - A3) = v := by
          rw [IntKind.wrap_u64] at hA1 hA2 hA3 ⊢
          omega
        have HV : Hid (v = u * 4294967296 + un10 / 4294967296 - (qA - 1) * Y) := by show v = _; rw [h10d1, hM1]; exact hv.symm
        rw [hv] at vr0 vr1
        have v0 : 0 ≤ v := vr0
        have v1 : v < Y := vr1
        clear hv vr0 vr1

        have fiB := dv_first v z1 z0 d0 Y HZ.out v0 v1 z1a z0a z0b d0a d0b
        have tdB : v.tdiv z1 = v / z1 := Int.tdiv_eq_ediv_of_nonneg v0
        obtain ⟨q2, hq2⟩ : ∃ q2, v / z1 = q2 := ⟨_, rfl⟩
        rw [hq2] at fiB tdB
        obtain ⟨M2, hM2⟩ : ∃ M2, q2 * z1 = M2 := ⟨_, rfl⟩
        obtain ⟨faB, fbB, fcB, fdB, feB⟩ := fiB
        have HM2 : Hid (q2 * z1 = M2) := hM2
        rw [hM2] at fdB feB
        have m0B : 0 ≤ M2 := by rw [← hM2]; exact Int.mul_nonneg fcB (by omega)
        have FAB : Hid ((v * 4294967296 + d0) / Y ≤ q2) := faB
        clear faB hq2

        go_wp2

        go_loop [18, 16] (fun a b => ∃ q r : Int, a = .int .u64 q ∧ b = .int .u64 r ∧ Hid (v = q * z1 + r) ∧ 0 ≤ r ∧ r < 4294967296 ∧ Hid ((v * 4294967296 + d0) / Y ≤ q) ∧ 0 ≤ q ∧ q ≤ 4294967297) (fun a _ => (intOf a).toNat)
        case atStart => exact ⟨q2, v - M2, rfl, rfl, (by show v = q2 * z1 + (v - M2); rw [HM2.out]; omega), by omega, by omega, FAB.out, fcB, fbB⟩
        case round =>
          obtain ⟨qB, rB, rfl, rfl, HQ, r0, r1, HL, qaB, qbB⟩ := hrel
          have HQ' : Hid (v = (qB - 1) * z1 + (rB + z1)) := by show v = (qB - 1) * z1 + (rB + z1); rw [Int.sub_mul]; have := HQ.out; omega
          by_cases hbB : 4294967296 ≤ qB
          · have HM : Hid ((v * 4294967296 + d0) / Y ≤ qB - 1) := dv_big qB v d0 Y Yp v1 d0b hbB
            by_cases hrB : 4294967296 ≤ rB + z1
            · have HEB : Hid (qB - 1 = (v * 4294967296 + d0) / Y) := by
                have k1 := dv_break (qB - 1) (rB + z1) v z1 z0 d0 Y HQ'.out HZ.out Yp (by omega) hrB z0a z0b d0a
                have k2 := HM.out
                show qB - 1 = _
                omega
              clear HQ HQ' HL HM
              have kks : (qB - 1) < 4294967296 := by rw [HEB.out]; exact dv_small v d0 Y Yp v1 d0b
              have kkp : 0 ≤ (qB - 1) := by rw [HEB.out]; exact Int.ediv_nonneg (by omega) (by omega)
              have HD : Hid ((qA - 1) * 4294967296 + (qB - 1) = QQ) := by
                have := dv_whole (hi * 18446744073709551616 + lo) y Y P u un10 (qA - 1) (qB - 1) v pP HY.out.symm y0 HX.out Yp HV.out (by rw [h10d0]; exact HEB.out)
                exact this.trans HQQ.out
              have dm := dv_mod (hi * 18446744073709551616 + lo) y Y P u un10 (qA - 1) (qB - 1) v pP HY.out.symm HX.out HV.out (HD.out.trans HQQ.out.symm)
              rw [h10d0, HRR.out] at dm
              obtain ⟨wr0, wr1⟩ := dv_rest v d0 Y (qB - 1) Yp HEB.out
              obtain ⟨M3, hM3⟩ : ∃ M, (qB - 1) * Y = M := ⟨_, rfl⟩
              rw [hM3] at wr0 wr1 dm
              obtain ⟨r2, hr2⟩ : ∃ r, v * 4294967296 + d0 - M3 = r := ⟨_, rfl⟩
              obtain ⟨A5, hA5⟩ : ∃ A, IntKind.u64.wrap (v * 4294967296) = A := ⟨_, rfl⟩
              obtain ⟨A6, hA6⟩ : ∃ A, IntKind.u64.wrap (A5 + d0) = A := ⟨_, rfl⟩
              obtain ⟨A7, hA7⟩ : ∃ A, IntKind.u64.wrap M3 = A := ⟨_, rfl⟩
              have hA8 : IntKind.u64.wrap (A6 - A7) = r2 := by
                rw [IntKind.wrap_u64] at hA5 hA6 hA7 ⊢
                omega
              rw [hr2] at wr0 wr1 dm
              clear hr2
              go_wp2
              go_ret2
              exact ⟨ret2_int HD.out rfl, rfl⟩
            · clear HQ HL
              go_wp2
              go_round
              case rel => exact ⟨qB - 1, rB + z1, rfl, rfl, HQ'.out, by omega, by omega, HM.out, by omega, by omega⟩
              case measure => simp [intOf]; omega
          · obtain ⟨PrB, hPrB⟩ : ∃ Pr, qB * z0 = Pr := ⟨_, rfl⟩
            have pr0B : 0 ≤ PrB := by rw [← hPrB]; exact Int.mul_nonneg qaB z0a
            have pr1B : PrB ≤ 18446744065119617025 := by
              rw [← hPrB]
              have k1 : qB * z0 ≤ qB * 4294967295 := Int.mul_le_mul_of_nonneg_left (by omega) qaB
              omega
            by_cases htB : 4294967296 * rB + d0 < PrB
            · have HM : Hid ((v * 4294967296 + d0) / Y ≤ qB - 1) := dv_more qB rB v z1 z0 d0 Y HQ.out HZ.out Yp (by rw [hPrB]; exact htB)
              have qpB : 1 ≤ qB := by
                by_cases z : 1 ≤ qB
                · exact z
                · have e : qB = 0 := by omega
                  rw [e, Int.zero_mul] at hPrB; omega
              by_cases hrB : 4294967296 ≤ rB + z1
              · have HEB : Hid (qB - 1 = (v * 4294967296 + d0) / Y) := by
                  have k1 := dv_break (qB - 1) (rB + z1) v z1 z0 d0 Y HQ'.out HZ.out Yp (by omega) hrB z0a z0b d0a
                  have k2 := HM.out
                  show qB - 1 = _
                  omega
                clear HQ HQ' HL HM
                have kks : (qB - 1) < 4294967296 := by rw [HEB.out]; exact dv_small v d0 Y Yp v1 d0b
                have kkp : 0 ≤ (qB - 1) := by rw [HEB.out]; exact Int.ediv_nonneg (by omega) (by omega)
                have HD : Hid ((qA - 1) * 4294967296 + (qB - 1) = QQ) := by
                  have := dv_whole (hi * 18446744073709551616 + lo) y Y P u un10 (qA - 1) (qB - 1) v pP HY.out.symm y0 HX.out Yp HV.out (by rw [h10d0]; exact HEB.out)
                  exact this.trans HQQ.out
                have dm := dv_mod (hi * 18446744073709551616 + lo) y Y P u un10 (qA - 1) (qB - 1) v pP HY.out.symm HX.out HV.out (HD.out.trans HQQ.out.symm)
                rw [h10d0, HRR.out] at dm
                obtain ⟨wr0, wr1⟩ := dv_rest v d0 Y (qB - 1) Yp HEB.out
                obtain ⟨M3, hM3⟩ : ∃ M, (qB - 1) * Y = M := ⟨_, rfl⟩
                rw [hM3] at wr0 wr1 dm
                obtain ⟨r2, hr2⟩ : ∃ r, v * 4294967296 + d0 - M3 = r := ⟨_, rfl⟩
                obtain ⟨A5, hA5⟩ : ∃ A, IntKind.u64.wrap (v * 4294967296) = A := ⟨_, rfl⟩
                obtain ⟨A6, hA6⟩ : ∃ A, IntKind.u64.wrap (A5 + d0) = A := ⟨_, rfl⟩
                obtain ⟨A7, hA7⟩ : ∃ A, IntKind.u64.wrap M3 = A := ⟨_, rfl⟩
                have hA8 : IntKind.u64.wrap (A6 - A7) = r2 := by
                  rw [IntKind.wrap_u64] at hA5 hA6 hA7 ⊢
                  omega
                rw [hr2] at wr0 wr1 dm
                clear hr2
                go_wp2
                go_ret2
                exact ⟨ret2_int HD.out rfl, rfl⟩
              · clear HQ HL
                go_wp2
                go_round
                case rel => exact ⟨qB - 1, rB + z1, rfl, rfl, HQ'.out, by omega, by omega, HM.out, by omega, by omega⟩
                case measure => simp [intOf]; omega
            · have HEB : Hid (qB = (v * 4294967296 + d0) / Y) := by
                have k1 := dv_exit qB rB v z1 z0 d0 Y HQ.out HZ.out Yp (by rw [hPrB]; omega)
                have k2 := HL.out
                show qB = _
                omega
              clear HQ HQ' HL
              have kks : qB < 4294967296 := by rw [HEB.out]; exact dv_small v d0 Y Yp v1 d0b
              have kkp : 0 ≤ qB := by rw [HEB.out]; exact Int.ediv_nonneg (by omega) (by omega)
              have HD : Hid ((qA - 1) * 4294967296 + qB = QQ) := by
                have := dv_whole (hi * 18446744073709551616 + lo) y Y P u un10 (qA - 1) qB v pP HY.out.symm y0 HX.out Yp HV.out (by rw [h10d0]; exact HEB.out)
                exact this.trans HQQ.out
              have dm := dv_mod (hi * 18446744073709551616 + lo) y Y P u un10 (qA - 1) qB v pP HY.out.symm HX.out HV.out (HD.out.trans HQQ.out.symm)
              rw [h10d0, HRR.out] at dm
              obtain ⟨wr0, wr1⟩ := dv_rest v d0 Y qB Yp HEB.out
              obtain ⟨M3, hM3⟩ : ∃ M, qB * Y = M := ⟨_, rfl⟩
              rw [hM3] at wr0 wr1 dm
              obtain ⟨r2, hr2⟩ : ∃ r, v * 4294967296 + d0 - M3 = r := ⟨_, rfl⟩
              obtain ⟨A5, hA5⟩ : ∃ A, IntKind.u64.wrap (v * 4294967296) = A := ⟨_, rfl⟩
              obtain ⟨A6, hA6⟩ : ∃ A, IntKind.u64.wrap (A5 + d0) = A := ⟨_, rfl⟩
              obtain ⟨A7, hA7⟩ : ∃ A, IntKind.u64.wrap M3 = A := ⟨_, rfl⟩
              have hA8 : IntKind.u64.wrap (A6 - A7) = r2 := by
                rw [IntKind.wrap_u64] at hA5 hA6 hA7 ⊢
                omega
              rw [hr2] at wr0 wr1 dm
              clear hr2
              go_wp2
              go_ret2
              exact ⟨ret2_int HD.out rfl, rfl⟩
      · clear HQ HL
        go_wp2
        go_round
        case rel => exact ⟨qA - 1, rA + z1, rfl, rfl, HQ'.out, by omega, by omega, HM.out, by omega, by omega⟩
        case measure => simp [intOf]; omega
    · obtain ⟨PrA, hPrA⟩ : ∃ Pr, qA * z0 = Pr := ⟨_, rfl⟩
      have pr0A : 0 ≤ PrA := by rw [← hPrA]; exact Int.mul_nonneg qaA z0a
      have pr1A : PrA ≤ 18446744065119617025 := by
        rw [← hPrA]
        have k1 : qA * z0 ≤ qA * 4294967295 := Int.mul_le_mul_of_nonneg_left (by omega) qaA
        omega
      by_cases htA : 4294967296 * rA + d1 < PrA
      · have HM : Hid ((u * 4294967296 + d1) / Y ≤ qA - 1) := dv_more qA rA u z1 z0 d1 Y HQ.out HZ.out Yp (by rw [hPrA]; exact htA)
        have qpA : 1 ≤ qA := by
          by_cases z : 1 ≤ qA
          · exact z
          · have e : qA = 0 := by omega
            rw [e, Int.zero_mul] at hPrA; omega
        by_cases hrA : 4294967296 ≤ rA + z1
        · have HEA : Hid (qA - 1 = (u * 4294967296 + d1) / Y) := by
            have k1 := dv_break (qA - 1) (rA + z1) u z1 z0 d1 Y HQ'.out HZ.out Yp (by omega) hrA z0a z0b d1a
            have k2 := HM.out
            show qA - 1 = _
            omega
          clear HQ HQ' HL HM
          have ks : (qA - 1) < 4294967296 := by rw [HEA.out]; exact dv_small u d1 Y Yp u1 d1b
          have kp : 0 ≤ (qA - 1) := by rw [HEA.out]; exact Int.ediv_nonneg (by omega) (by omega)
          obtain ⟨vr0, vr1⟩ := dv_rest u d1 Y (qA - 1) Yp HEA.out
          obtain ⟨M1, hM1⟩ : ∃ M, (qA - 1) * Y = M := ⟨_, rfl⟩
          rw [hM1] at vr0 vr1
          obtain ⟨v, hv⟩ : ∃ v, u * 4294967296 + d1 - M1 = v := ⟨_, rfl⟩
          obtain ⟨A1, hA1⟩ : ∃ A, IntKind.u64.wrap (u * 4294967296) = A := ⟨_, rfl⟩
          obtain ⟨A2, hA2⟩ : ∃ A, IntKind.u64.wrap (A1 + d1) = A := ⟨_, rfl⟩
          obtain ⟨A3, hA3⟩ : ∃ A, IntKind.u64.wrap M1 = A := ⟨_, rfl⟩
          have hA4 : IntKind.u64.wrap (A2 - A3) = v := by
            rw [IntKind.wrap_u64] at hA1 hA2 hA3 ⊢
            omega
          have HV : Hid (v = u * 4294967296 + un10 / 4294967296 - (qA - 1) * Y) := by show v = _; rw [h10d1, hM1]; exact hv.symm
          rw [hv] at vr0 vr1
          have v0 : 0 ≤ v := vr0
          have v1 : v < Y := vr1
          clear hv vr0 vr1

          have fiB := dv_first v z1 z0 d0 Y HZ.out v0 v1 z1a z0a z0b d0a d0b
          have tdB : v.tdiv z1 = v / z1 := Int.tdiv_eq_ediv_of_nonneg v0
          obtain ⟨q2, hq2⟩ : ∃ q2, v / z1 = q2 := ⟨_, rfl⟩
          rw [hq2] at fiB tdB
          obtain ⟨M2, hM2⟩ : ∃ M2, q2 * z1 = M2 := ⟨_, rfl⟩
          obtain ⟨faB, fbB, fcB, fdB, feB⟩ := fiB
          have HM2 : Hid (q2 * z1 = M2) := hM2
          rw [hM2] at fdB feB
          have m0B : 0 ≤ M2 := by rw [← hM2]; exact Int.mul_nonneg fcB (by omega)
          have FAB : Hid ((v * 4294967296 + d0) / Y ≤ q2) := faB
          clear faB hq2

          go_wp2

          go_loop [18, 16] (fun a b => ∃ q r : Int, a = .int .u64 q ∧ b = .int .u64 r ∧ Hid (v = q * z1 + r) ∧ 0 ≤ r ∧ r < 4294967296 ∧ Hid ((v * 4294967296 + d0) / Y ≤ q) ∧ 0 ≤ q ∧ q ≤ 4294967297) (fun a _ => (intOf a).toNat)
          case atStart => exact ⟨q2, v - M2, rfl, rfl, (by show v = q2 * z1 + (v - M2); rw [HM2.out]; omega), by omega, by omega, FAB.out, fcB, fbB⟩
          case round =>
            obtain ⟨qB, rB, rfl, rfl, HQ, r0, r1, HL, qaB, qbB⟩ := hrel
            have HQ' : Hid (v = (qB - 1) * z1 + (rB + z1)) := by show v = (qB - 1) * z1 + (rB + z1); rw [Int.sub_mul]; have := HQ.out; omega
            by_cases hbB : 4294967296 ≤ qB
            · have HM : Hid ((v * 4294967296 + d0) / Y ≤ qB - 1) := dv_big qB v d0 Y Yp v1 d0b hbB
              by_cases hrB : 4294967296 ≤ rB + z1
              · have HEB : Hid (qB - 1 = (v * 4294967296 + d0) / Y) := by
                  have k1 := dv_break (qB - 1) (rB + z1) v z1 z0 d0 Y HQ'.out HZ.out Yp (by omega) hrB z0a z0b d0a
                  have k2 := HM.out
                  show qB - 1 = _
                  omega
                clear HQ HQ' HL HM
                have kks : (qB - 1) < 4294967296 := by rw [HEB.out]; exact dv_small v d0 Y Yp v1 d0b
                have kkp : 0 ≤ (qB - 1) := by rw [HEB.out]; exact Int.ediv_nonneg (by omega) (by omega)
                have HD : Hid ((qA - 1) * 4294967296 + (qB - 1) = QQ) := by
                  have := dv_whole (hi * 18446744073709551616 + lo) y Y P u un10 (qA - 1) (qB - 1) v pP HY.out.symm y0 HX.out Yp HV.out (by rw [h10d0]; exact HEB.out)
                  exact this.trans HQQ.out
                have dm := dv_mod (hi * 18446744073709551616 + lo) y Y P u un10 (qA - 1) (qB - 1) v pP HY.out.symm HX.out HV.out (HD.out.trans HQQ.out.symm)
                rw [h10d0, HRR.out] at dm
                obtain ⟨wr0, wr1⟩ := dv_rest v d0 Y (qB - 1) Yp HEB.out
                obtain ⟨M3, hM3⟩ : ∃ M, (qB - 1) * Y = M := ⟨_, rfl⟩
                rw [hM3] at wr0 wr1 dm
                obtain ⟨r2, hr2⟩ : ∃ r, v * 4294967296 + d0 - M3 = r := ⟨_, rfl⟩
                obtain ⟨A5, hA5⟩ : ∃ A, IntKind.u64.wrap (v * 4294967296) = A := ⟨_, rfl⟩
                obtain ⟨A6, hA6⟩ : ∃ A, IntKind.u64.wrap (A5 + d0) = A := ⟨_, rfl⟩
                obtain ⟨A7, hA7⟩ : ∃ A, IntKind.u64.wrap M3 = A := ⟨_, rfl⟩
                have hA8 : IntKind.u64.wrap (A6 - A7) = r2 := by
                  rw [IntKind.wrap_u64] at hA5 hA6 hA7 ⊢
                  omega
                rw [hr2] at wr0 wr1 dm
                clear hr2
                go_wp2
                go_ret2
                exact ⟨ret2_int HD.out rfl, rfl⟩
              · clear HQ HL
                go_wp2
                go_round
                case rel => exact ⟨qB - 1, rB + z1, rfl, rfl, HQ'.out, by omega, by omega, HM.out, by omega, by omega⟩
                case measure => simp [intOf]; omega
            · obtain ⟨PrB, hPrB⟩ : ∃ Pr, qB * z0 = Pr := ⟨_, rfl⟩
              have pr0B : 0 ≤ PrB := by rw [← hPrB]; exact Int.mul_nonneg qaB z0a
              have pr1B : PrB ≤ 18446744065119617025 := by
                rw [← hPrB]
                have k1 : qB * z0 ≤ qB * 4294967295 := Int.mul_le_mul_of_nonneg_left (by omega) qaB
                omega
              by_cases htB : 4294967296 * rB + d0 < PrB
              · have HM : Hid ((v * 4294967296 + d0) / Y ≤ qB - 1) := dv_more qB rB v z1 z0 d0 Y HQ.out HZ.out Yp (by rw [hPrB]; exact htB)
                have qpB : 1 ≤ qB := by
                  by_cases z : 1 ≤ qB
                  · exact z
                  · have e : qB = 0 := by omega
                    rw [e, Int.zero_mul] at hPrB; omega
                by_cases hrB : 4294967296 ≤ rB + z1
                · have HEB : Hid (qB - 1 = (v * 4294967296 + d0) / Y) := by
                    have k1 := dv_break (qB - 1) (rB + z1) v z1 z0 d0 Y HQ'.out HZ.out Yp (by omega) hrB z0a z0b d0a
                    have k2 := HM.out
                    show qB - 1 = _
                    omega
                  clear HQ HQ' HL HM
                  have kks : (qB - 1) < 4294967296 := by rw [HEB.out]; exact dv_small v d0 Y Yp v1 d0b
                  have kkp : 0 ≤ (qB - 1) := by rw [HEB.out]; exact Int.ediv_nonneg (by omega) (by omega)
                  have HD : Hid ((qA - 1) * 4294967296 + (qB - 1) = QQ) := by
                    have := dv_whole (hi * 18446744073709551616 + lo) y Y P u un10 (qA - 1) (qB - 1) v pP HY.out.symm y0 HX.out Yp HV.out (by rw [h10d0]; exact HEB.out)
                    exact this.trans HQQ.out
                  have dm := dv_mod (hi * 18446744073709551616 + lo) y Y P u un10 (qA - 1) (qB - 1) v pP HY.out.symm HX.out HV.out (HD.out.trans HQQ.out.symm)
                  rw [h10d0, HRR.out] at dm
                  obtain ⟨wr0, wr1⟩ := dv_rest v d0 Y (qB - 1) Yp HEB.out
                  obtain ⟨M3, hM3⟩ : ∃ M, (qB - 1) * Y = M := ⟨_, rfl⟩
                  rw [hM3] at wr0 wr1 dm
                  obtain ⟨r2, hr2⟩ : ∃ r, v * 4294967296 + d0 - M3 = r := ⟨_, rfl⟩
                  obtain ⟨A5, hA5⟩ : ∃ A, IntKind.u64.wrap (v * 4294967296) = A := ⟨_, rfl⟩
                  obtain ⟨A6, hA6⟩ : ∃ A, IntKind.u64.wrap (A5 + d0) = A := ⟨_, rfl⟩
                  obtain ⟨A7, hA7⟩ : ∃ A, IntKind.u64.wrap M3 = A := ⟨_, rfl⟩
                  have hA8 : IntKind.u64.wrap (A6 - A7) = r2 := by
                    rw [IntKind.wrap_u64] at hA5 hA6 hA7 ⊢
                    omega
                  rw [hr2] at wr0 wr1 dm
                  clear hr2
                  go_wp2
                  go_ret2
                  exact ⟨ret2_int HD.out rfl, rfl⟩
                · clear HQ HL
                  go_wp2
                  go_round
                  case rel => exact ⟨qB - 1, rB + z1, rfl, rfl, HQ'.out, by omega, by omega, HM.out, by omega, by omega⟩
                  case measure => simp [intOf]; omega
              · have HEB : Hid (qB = (v * 4294967296 + d0) / Y) := by
                  have k1 := dv_exit qB rB v z1 z0 d0 Y HQ.out HZ.out Yp (by rw [hPrB]; omega)
                  have k2 := HL.out
                  show qB = _
                  omega
                clear HQ HQ' HL
                have kks : qB < 4294967296 := by rw [HEB.out]; exact dv_small v d0 Y Yp v1 d0b
                have kkp : 0 ≤ qB := by rw [HEB.out]; exact Int.ediv_nonneg (by omega) (by omega)
                have HD : Hid ((qA - 1) * 4294967296 + qB = QQ) := by
                  have := dv_whole (hi * 18446744073709551616 + lo) y Y P u un10 (qA - 1) qB v pP HY.out.symm y0 HX.out Yp HV.out (by rw [h10d0]; exact HEB.out)
                  exact this.trans HQQ.out
                have dm := dv_mod (hi * 18446744073709551616 + lo) y Y P u un10 (qA - 1) qB v pP HY.out.symm HX.out HV.out (HD.out.trans HQQ.out.symm)
                rw [h10d0, HRR.out] at dm
                obtain ⟨wr0, wr1⟩ := dv_rest v d0 Y qB Yp HEB.out
                obtain ⟨M3, hM3⟩ : ∃ M, qB * Y = M := ⟨_, rfl⟩
                rw [hM3] at wr0 wr1 dm
                obtain ⟨r2, hr2⟩ : ∃ r, v * 4294967296 + d0 - M3 = r := ⟨_, rfl⟩
                obtain ⟨A5, hA5⟩ : ∃ A, IntKind.u64.wrap (v * 4294967296) = A := ⟨_, rfl⟩
                obtain ⟨A6, hA6⟩ : ∃ A, IntKind.u64.wrap (A5 + d0) = A := ⟨_, rfl⟩
                obtain ⟨A7, hA7⟩ : ∃ A, IntKind.u64.wrap M3 = A := ⟨_, rfl⟩
                have hA8 : IntKind.u64.wrap (A6 - A7) = r2 := by
                  rw [IntKind.wrap_u64] at hA5 hA6 hA7 ⊢
                  omega
                rw [hr2] at wr0 wr1 dm
                clear hr2
                go_wp2
                go_ret2
                exact ⟨ret2_int HD.out rfl, rfl⟩
        · clear HQ HL
          go_wp2
          go_round
          case rel => exact ⟨qA - 1, rA + z1, rfl, rfl, HQ'.out, by omega, by omega, HM.out, by omega, by omega⟩
          case measure => simp [intOf]; omega
      · have HEA : Hid (qA = (u * 4294967296 + d1) / Y) := by
          have k1 := dv_exit qA rA u z1 z0 d1 Y HQ.out HZ.out Yp (by rw [hPrA]; omega)
          have k2 := HL.out
          show qA = _
          omega
        clear HQ HQ' HL
        have ks : qA < 4294967296 := by rw [HEA.out]; exact dv_small u d1 Y Yp u1 d1b
        have kp : 0 ≤ qA := by rw [HEA.out]; exact Int.ediv_nonneg (by omega) (by omega)
        obtain ⟨vr0, vr1⟩ := dv_rest u d1 Y qA Yp HEA.out
        obtain ⟨M1, hM1⟩ : ∃ M, qA * Y = M := ⟨_, rfl⟩
        rw [hM1] at vr0 vr1
        obtain ⟨v, hv⟩ : ∃ v, u * 4294967296 + d1 - M1 = v := ⟨_, rfl⟩
        obtain ⟨A1, hA1⟩ : ∃ A, IntKind.u64.wrap (u * 4294967296) = A := ⟨_, rfl⟩
        obtain ⟨A2, hA2⟩ : ∃ A, IntKind.u64.wrap (A1 + d1) = A := ⟨_, rfl⟩
        obtain ⟨A3, hA3⟩ : ∃ A, IntKind.u64.wrap M1 = A := ⟨_, rfl⟩
        have hA4 : IntKind.u64.wrap (A2 - A3) = v := by
          rw [IntKind.wrap_u64] at hA1 hA2 hA3 ⊢
          omega
        have HV : Hid (v = u * 4294967296 + un10 / 4294967296 - qA * Y) := by show v = _; rw [h10d1, hM1]; exact hv.symm
        rw [hv] at vr0 vr1
        have v0 : 0 ≤ v := vr0
        have v1 : v < Y := vr1
        clear hv vr0 vr1

        have fiB := dv_first v z1 z0 d0 Y HZ.out v0 v1 z1a z0a z0b d0a d0b
        have tdB : v.tdiv z1 = v / z1 := Int.tdiv_eq_ediv_of_nonneg v0
        obtain ⟨q2, hq2⟩ : ∃ q2, v / z1 = q2 := ⟨_, rfl⟩
        rw [hq2] at fiB tdB
        obtain ⟨M2, hM2⟩ : ∃ M2, q2 * z1 = M2 := ⟨_, rfl⟩
        obtain ⟨faB, fbB, fcB, fdB, feB⟩ := fiB
        have HM2 : Hid (q2 * z1 = M2) := hM2
        rw [hM2] at fdB feB
        have m0B : 0 ≤ M2 := by rw [← hM2]; exact Int.mul_nonneg fcB (by omega)
        have FAB : Hid ((v * 4294967296 + d0) / Y ≤ q2) := faB
        clear faB hq2

        go_wp2

        go_loop [18, 16] (fun a b => ∃ q r : Int, a = .int .u64 q ∧ b = .int .u64 r ∧ Hid (v = q * z1 + r) ∧ 0 ≤ r ∧ r < 4294967296 ∧ Hid ((v * 4294967296 + d0) / Y ≤ q) ∧ 0 ≤ q ∧ q ≤ 4294967297) (fun a _ => (intOf a).toNat)
        case atStart => exact ⟨q2, v - M2, rfl, rfl, (by show v = q2 * z1 + (v - M2); rw [HM2.out]; omega), by omega, by omega, FAB.out, fcB, fbB⟩
        case round =>
          obtain ⟨qB, rB, rfl, rfl, HQ, r0, r1, HL, qaB, qbB⟩ := hrel
          have HQ' : Hid (v = (qB - 1) * z1 + (rB + z1)) := by show v = (qB - 1) * z1 + (rB + z1); rw [Int.sub_mul]; have := HQ.out; omega
          by_cases hbB : 4294967296 ≤ qB
          · have HM : Hid ((v * 4294967296 + d0) / Y ≤ qB - 1) := dv_big qB v d0 Y Yp v1 d0b hbB
            by_cases hrB : 4294967296 ≤ rB + z1
            · have HEB : Hid (qB - 1 = (v * 4294967296 + d0) / Y) := by
                have k1 := dv_break (qB - 1) (rB + z1) v z1 z0 d0 Y HQ'.out HZ.out Yp (by omega) hrB z0a z0b d0a
                have k2 := HM.out
                show qB - 1 = _
                omega
              clear HQ HQ' HL HM
              have kks : (qB - 1) < 4294967296 := by rw [HEB.out]; exact dv_small v d0 Y Yp v1 d0b
              have kkp : 0 ≤ (qB - 1) := by rw [HEB.out]; exact Int.ediv_nonneg (by omega) (by omega)
              have HD : Hid (qA * 4294967296 + (qB - 1) = QQ) := by
                have := dv_whole (hi * 18446744073709551616 + lo) y Y P u un10 qA (qB - 1) v pP HY.out.symm y0 HX.out Yp HV.out (by rw [h10d0]; exact HEB.out)
                exact this.trans HQQ.out
              have dm := dv_mod (hi * 18446744073709551616 + lo) y Y P u un10 qA (qB - 1) v pP HY.out.symm HX.out HV.out (HD.out.trans HQQ.out.symm)
              rw [h10d0, HRR.out] at dm
              obtain ⟨wr0, wr1⟩ := dv_rest v d0 Y (qB - 1) Yp HEB.out
              obtain ⟨M3, hM3⟩ : ∃ M, (qB - 1) * Y = M := ⟨_, rfl⟩
              rw [hM3] at wr0 wr1 dm
              obtain ⟨r2, hr2⟩ : ∃ r, v * 4294967296 + d0 - M3 = r := ⟨_, rfl⟩
              obtain ⟨A5, hA5⟩ : ∃ A, IntKind.u64.wrap (v * 4294967296) = A := ⟨_, rfl⟩
              obtain ⟨A6, hA6⟩ : ∃ A, IntKind.u64.wrap (A5 + d0) = A := ⟨_, rfl⟩
              obtain ⟨A7, hA7⟩ : ∃ A, IntKind.u64.wrap M3 = A := ⟨_, rfl⟩
              have hA8 : IntKind.u64.wrap (A6 - A7) = r2 := by
                rw [IntKind.wrap_u64] at hA5 hA6 hA7 ⊢
                omega
              rw [hr2] at wr0 wr1 dm
              clear hr2
              go_wp2
              go_ret2
              exact ⟨ret2_int HD.out rfl, rfl⟩
            · clear HQ HL
              go_wp2
              go_round
              case rel => exact ⟨qB - 1, rB + z1, rfl, rfl, HQ'.out, by omega, by omega, HM.out, by omega, by omega⟩
              case measure => simp [intOf]; omega
          · obtain ⟨PrB, hPrB⟩ : ∃ Pr, qB * z0 = Pr := ⟨_, rfl⟩
            have pr0B : 0 ≤ PrB := by rw [← hPrB]; exact Int.mul_nonneg qaB z0a
            have pr1B : PrB ≤ 18446744065119617025 := by
              rw [← hPrB]
              have k1 : qB * z0 ≤ qB * 4294967295 := Int.mul_le_mul_of_nonneg_left (by omega) qaB
              omega
            by_cases htB : 4294967296 * rB + d0 < PrB
            · have HM : Hid ((v * 4294967296 + d0) / Y ≤ qB - 1) := dv_more qB rB v z1 z0 d0 Y HQ.out HZ.out Yp (by rw [hPrB]; exact htB)
              have qpB : 1 ≤ qB := by
                by_cases z : 1 ≤ qB
                · exact z
                · have e : qB = 0 := by omega
                  rw [e, Int.zero_mul] at hPrB; omega
              by_cases hrB : 4294967296 ≤ rB + z1
              · have HEB : Hid (qB - 1 = (v * 4294967296 + d0) / Y) := by
                  have k1 := dv_break (qB - 1) (rB + z1) v z1 z0 d0 Y HQ'.out HZ.out Yp (by omega) hrB z0a z0b d0a
                  have k2 := HM.out
                  show qB - 1 = _
                  omega
                clear HQ HQ' HL HM
                have kks : (qB - 1) < 4294967296 := by rw [HEB.out]; exact dv_small v d0 Y Yp v1 d0b
                have kkp : 0 ≤ (qB - 1) := by rw [HEB.out]; exact Int.ediv_nonneg (by omega) (by omega)
                have HD : Hid (qA * 4294967296 + (qB - 1) = QQ) := by
                  have := dv_whole (hi * 18446744073709551616 + lo) y Y P u un10 qA (qB - 1) v pP HY.out.symm y0 HX.out Yp HV.out (by rw [h10d0]; exact HEB.out)
                  exact this.trans HQQ.out
                have dm := dv_mod (hi * 18446744073709551616 + lo) y Y P u un10 qA (qB - 1) v pP HY.out.symm HX.out HV.out (HD.out.trans HQQ.out.symm)
                rw [h10d0, HRR.out] at dm
                obtain ⟨wr0, wr1⟩ := dv_rest v d0 Y (qB - 1) Yp HEB.out
                obtain ⟨M3, hM3⟩ : ∃ M, (qB - 1) * Y = M := ⟨_, rfl⟩
                rw [hM3] at wr0 wr1 dm
                obtain ⟨r2, hr2⟩ : ∃ r, v * 4294967296 + d0 - M3 = r := ⟨_, rfl⟩
                obtain ⟨A5, hA5⟩ : ∃ A, IntKind.u64.wrap (v * 4294967296) = A := ⟨_, rfl⟩
                obtain ⟨A6, hA6⟩ : ∃ A, IntKind.u64.wrap (A5 + d0) = A := ⟨_, rfl⟩
                obtain ⟨A7, hA7⟩ : ∃ A, IntKind.u64.wrap M3 = A := ⟨_, rfl⟩
                have hA8 : IntKind.u64.wrap (A6 - A7) = r2 := by
                  rw [IntKind.wrap_u64] at hA5 hA6 hA7 ⊢
                  omega
                rw [hr2] at wr0 wr1 dm
                clear hr2
                go_wp2
                go_ret2
                exact ⟨ret2_int HD.out rfl, rfl⟩
              · clear HQ HL
                go_wp2
                go_round
                case rel => exact ⟨qB - 1, rB + z1, rfl, rfl, HQ'.out, by omega, by omega, HM.out, by omega, by omega⟩
                case measure => simp [intOf]; omega
            · have HEB : Hid (qB = (v * 4294967296 + d0) / Y) := by
                have k1 := dv_exit qB rB v z1 z0 d0 Y HQ.out HZ.out Yp (by rw [hPrB]; omega)
                have k2 := HL.out
                show qB = _
                omega
              clear HQ HQ' HL
              have kks : qB < 4294967296 := by rw [HEB.out]; exact dv_small v d0 Y Yp v1 d0b
              have kkp : 0 ≤ qB := by rw [HEB.out]; exact Int.ediv_nonneg (by omega) (by omega)
              have HD : Hid (qA * 4294967296 + qB = QQ) := by
                have := dv_whole (hi * 18446744073709551616 + lo) y Y P u un10 qA qB v pP HY.out.symm y0 HX.out Yp HV.out (by rw [h10d0]; exact HEB.out)
                exact this.trans HQQ.out
              have dm := dv_mod (hi * 18446744073709551616 + lo) y Y P u un10 qA qB v pP HY.out.symm HX.out HV.out (HD.out.trans HQQ.out.symm)
              rw [h10d0, HRR.out] at dm
              obtain ⟨wr0, wr1⟩ := dv_rest v d0 Y qB Yp HEB.out
              obtain ⟨M3, hM3⟩ : ∃ M, qB * Y = M := ⟨_, rfl⟩
              rw [hM3] at wr0 wr1 dm
              obtain ⟨r2, hr2⟩ : ∃ r, v * 4294967296 + d0 - M3 = r := ⟨_, rfl⟩
              obtain ⟨A5, hA5⟩ : ∃ A, IntKind.u64.wrap (v * 4294967296) = A := ⟨_, rfl⟩
              obtain ⟨A6, hA6⟩ : ∃ A, IntKind.u64.wrap (A5 + d0) = A := ⟨_, rfl⟩
              obtain ⟨A7, hA7⟩ : ∃ A, IntKind.u64.wrap M3 = A := ⟨_, rfl⟩
              have hA8 : IntKind.u64.wrap (A6 - A7) = r2 := by
                rw [IntKind.wrap_u64] at hA5 hA6 hA7 ⊢
                omega
              rw [hr2] at wr0 wr1 dm
              clear hr2
              go_wp2
              go_ret2
              exact ⟨ret2_int HD.out rfl, rfl⟩
end Go.Proofs.YtfhapeinfhjihaaGreatDoor

namespace Go.Proofs.YtfhapeinfhjihaaGreatDoor
open Go.RowKit

/-- A part of a row of the call's own, from a place on: what lies there is worth. -/
def sh (f : Nat → Int) (k : Nat) : Nat → Int := fun i => f (k + i)
/-- What nat.take does limb by limb: p is what is left to take off behind k limbs. -/
theorem take_step (V T F t p x b lo bo : Int) (k : Nat) (hI : V + F * t = T + bo * pw k) (hp : b * t + bo = p) (hlo : p % 1000000000 = lo) :
    (x < lo → V + (x + 1000000000 - lo) * pw k + (F + b * pw k) * t = T + x * pw k + (p / 1000000000 + 1) * pw (k + 1)) ∧
    (¬ x < lo → V + (x - lo) * pw k + (F + b * pw k) * t = T + x * pw k + (p / 1000000000) * pw (k + 1)) := by
  have e : p / 1000000000 * 1000000000 + lo = p := by omega
  generalize p / 1000000000 = Q at *
  rw [pw_succ]
  generalize pw k = P at *
  have e2 : Q * 1000000000 * P + lo * P = b * t * P + bo * P := by rw [← Int.add_mul, ← Int.add_mul, e, hp]
  have e3 : (F + b * P) * t = F * t + b * t * P := by rw [Int.add_mul, Int.mul_right_comm]
  have e4 : Q * (P * 1000000000) = Q * 1000000000 * P := by rw [Int.mul_comm P, ← Int.mul_assoc]
  constructor
  · intro _
    rw [Int.sub_mul, Int.add_mul x, Int.add_mul Q, e3, e4]; omega
  · intro _
    rw [Int.sub_mul, e3, e4]; omega
end Go.Proofs.YtfhapeinfhjihaaGreatDoor

namespace Go.Proofs.YtfhapeinfhjihaaGreatDoor
open Go.RowKit

theorem take_step' (V T F t p x b lo bo Q : Int) (k : Nat) (hI : V + F * t = T + bo * pw k) (hp : b * t + bo = p) (hlo : p % 1000000000 = lo) (hQ : p / 1000000000 = Q) :
    (x < lo → V + (x + 1000000000 - lo) * pw k + (F + b * pw k) * t = T + x * pw k + (Q + 1) * pw (k + 1)) ∧
    (¬ x < lo → V + (x - lo) * pw k + (F + b * pw k) * t = T + x * pw k + Q * pw (k + 1)) := by
  subst hQ
  exact take_step V T F t p x b lo bo k hI hp hlo
theorem val_sh_upd (f : Nat → Int) (a k : Nat) (z : Int) : val (sh (upd f (a + k) z) a) (k + 1) = val (sh f a) k + z * pw k := by
  rw [val_succ]
  have e1 : sh (upd f (a + k) z) a k = z := by simp [sh, upd]
  rw [e1, val_congr (f := sh (upd f (a + k) z) a) (g := sh f a) (fun i hi => by unfold sh upd; rw [if_neg (by omega)])]
theorem grown_refl (w : World) (r : Option Nat) : w.grownBy w r := ⟨rfl, rfl, rfl, Nat.le_refl _, fun _ _ _ => rfl⟩
theorem grown_drew {w w' : World} {r : Option Nat} (h : w.grownBy w' r) (q : Nat) : w.grownBy (w'.drewN q) r := ⟨h.os, h.tape, h.output, h.size, h.block⟩
theorem grown_set {w w' : World} {g : Nat} (h : w.grownBy w' (some g)) (o : Nat) (u : Value) : w.grownBy (w'.setCell ⟨g, o, none⟩ u) (some g) :=
  ⟨h.os, h.tape, h.output, by simpa [World.setCell] using h.size, fun k hk hne => by rw [Below.heap_setCell _ _ _ _ (by simp at hne ⊢; omega)]; exact h.block k hk hne⟩
theorem grown_trans {a b c : World} {g : Nat} (h : a.grownBy b (some g)) (k : b.grownBy c (some g)) : a.grownBy c (some g) :=
  ⟨k.os.trans h.os, k.tape.trans h.tape, k.output.trans h.output, Nat.le_trans h.size k.size, fun i hi hne => (k.block i (Nat.lt_of_lt_of_le hi h.size) hne).trans (h.block i hi hne)⟩
/-- The row, in the middle of nat.take. -/
def TkRel (w wr : World) (B g N a _m k : Nat) (f gb : Nat → Int) (t bo : Int) : Prop :=
  ∃ f', Own wr B g N f' ∧ All9 f' ∧ (∀ i, i < a ∨ a + k ≤ i → f' i = f i) ∧ val (sh f' a) k + val gb k * t = val (sh f a) k + bo * pw k ∧ w.grownBy wr (some g)
/-- What nat.take leaves. -/
def Taken (w w' : World) (B g N a m : Nat) (f gb : Nat → Int) (t : Int) : Prop :=
  ∃ f', Own w' B g N f' ∧ All9 f' ∧ (∀ i, i < a ∨ a + m + 1 ≤ i → f' i = f i) ∧ val (sh f' a) (m + 1) = val (sh f a) (m + 1) - val gb m * t ∧ w.grownBy w' (some g)
theorem tk_next (w wr : World) (B g N a m k q : Nat) (f gb : Nat → Int) (t bo x z bo' : Int) (h : TkRel w wr B g N a m k f gb t bo) (hx : f (a + k) = x) (z0 : 0 ≤ z) (z1 : z < 1000000000)
    (he : ∀ V T F, V + F * t = T + bo * pw k → V + z * pw k + (F + gb k * pw k) * t = T + x * pw k + bo' * pw (k + 1)) :
    TkRel w ((wr.drewN q).setCell ⟨g, a + k, none⟩ (.int .u32 z)) B g N a m (k + 1) f gb t bo' := by
  obtain ⟨f', o, a9, hf, hv, hg⟩ := h
  have o2 : Own (wr.drewN q) B g N f' := o
  refine ⟨upd f' (a + k) z, o2.stored _ _, upd_all a9 _ _ z0 z1, fun i hi => ?_, ?_, grown_set (grown_drew hg q) _ _⟩
  · rw [show upd f' (a + k) z i = f' i by simp [upd, show ¬ i = a + k by omega]]
    exact hf i (by omega)
  · rw [val_sh_upd, val_succ, val_succ, show sh f a k = x from hx]
    exact he _ _ _ hv
theorem tk_last (w wr : World) (B g N a m : Nat) (f gb : Nat → Int) (t bo x : Int) (h : TkRel w wr B g N a m m f gb t bo) (hx : f (a + m) = x) (x1 : x < 1000000000) (b0 : 0 ≤ bo) (hge : val gb m * t ≤ val (sh f a) (m + 1)) :
    bo ≤ x ∧ Taken w (wr.setCell ⟨g, a + m, none⟩ (.int .u32 (x - bo))) B g N a m f gb t := by
  obtain ⟨f', o, a9, hf, hv, hg⟩ := h
  have es : val (sh f a) (m + 1) = val (sh f a) m + x * pw m := by rw [val_succ, show sh f a m = x from hx]
  have l1 : val (sh f' a) m < pw m := val_lt (fun i _ => a9 (a + i))
  have hle : bo ≤ x := by
    by_cases z : bo ≤ x
    · exact z
    · have : (x + 1) * pw m ≤ bo * pw m := Int.mul_le_mul_of_nonneg_right (by omega) (by have := pw_pos m; omega)
      rw [Int.add_mul] at this
      omega
  refine ⟨hle, upd f' (a + m) (x - bo), o.stored _ _, upd_all a9 _ _ (by omega) (by omega), fun i hi => ?_, ?_, grown_set hg _ _⟩
  · rw [show upd f' (a + m) (x - bo) i = f' i by simp [upd, show ¬ i = a + m by omega]]
    exact hf i (by omega)
  · rw [val_sh_upd, es, Int.sub_mul]; omega

set_option maxRecDepth 100000 in
set_option maxHeartbeats 1600000 in
theorem take_any (vb : Value) (B g N a m : Nat) (f gb : Nat → Int) (t : Int) (w0 w : World) (hB : Below w0.heap.size w0 w) (hBg : w0.heap.size ≤ B) (hR : Row w0 vb m gb) (hb : Limbs m gb) (h0 : 0 < m) (hm : m ≤ maxLen) (hO : Own w B g N f) (h9 : All9 f) (hN : a + m + 1 ≤ N) (hNm : N ≤ 4611686018427387904)
    (t0 : 0 ≤ t) (t1 : t < 1000000000) (hge : val gb m * t ≤ val (sh f a) (m + 1)) :
    Calls Tryz.prog 134 #[.slice (some ⟨g, a, none⟩) (m + 1) (m + 1), vb, .int .u64 t] w fun e w' => e = .returned (.tuple #[]) ∧ Taken w w' B g N a m f gb t := by
  obtain ⟨b, off, cap, rfl, hc, hcm, hL⟩ := hR.lies h0
  have hbB := hL.lt h0
  have HL : Hid (Lies w0 b off m gb) := hL
  have HB : Hid (Below w0.heap.size w0 w) := hB
  have HLb : Hid (Limbs m gb) := hb
  have HG : Hid (val gb m * t ≤ val (sh f a) (m + 1)) := hge
  have gB := hO.block.1
  have H9 : Hid (All9 f) := h9
  have HS : Hid (TkRel w w B g N a m 0 f gb t 0) := ⟨f, hO, h9, fun _ _ => rfl, by simp [val_zero], grown_refl _ _⟩
  have hmI : (m : Int) < 4611686018427387904 := by omega
  clear hR hL hB hb hge hO h9 hcm
  go_enter Tryz.func134, Tryz.ntmps134
  go_wp2
  go_loopw [6, 14] (fun bo i wr => ∃ (k : Nat) (x : Int), k ≤ m ∧ bo = .int .u64 x ∧ i = .int .i64 k ∧ 0 ≤ x ∧ x ≤ t ∧ Hid (TkRel w wr B g N a m k f gb t x)) (fun _ i _ => m - (intOf i).toNat)
  case atStart => exact ⟨0, 0, Nat.zero_le _, rfl, rfl, by omega, t0, HS.out⟩
  case round =>
    obtain ⟨k, bo, hk, rfl, rfl, b0, b1, HT⟩ := hrel
    obtain ⟨f', o, a9, hf, hv, hg⟩ := HT.out
    have bel : Below w0.heap.size w0 wr := HB.out.grown hg HB.out.size (fun j hj => by simp at hj; omega)
    have cx := o.cell (a + k) (by omega)
    rw [hf (a + k) (by omega)] at cx
    have fx := o.free (a + k)
    by_cases hlt : k < m
    · have hI : (k : Int) < (m : Int) := by omega
      have cy : wr.cell? ⟨b, off + k, none⟩ = some (.int .u32 (gb k)) := by rw [bel.cell (p := ⟨b, off + k, none⟩) hbB]; exact HL.out.cell k hlt
      have by9 := HLb.out k hlt
      have bx9 := H9.out (a + k)
      obtain ⟨Pr, hPr⟩ : ∃ Pr, gb k * t = Pr := ⟨_, rfl⟩
      have pr0 : 0 ≤ Pr := by rw [← hPr]; exact Int.mul_nonneg by9.1 t0
      have pr1 : Pr ≤ 999999999 * t := by rw [← hPr]; exact Int.mul_le_mul_of_nonneg_right (by omega) t0
      have hi1 : (k : Int) < (m : Int) + 1 := by omega
      have HNX := fun q z bo' x hx z0 z1 he => tk_next w wr B g N a m k q f gb t bo x z bo' HT.out hx z0 z1 he
      have STP := fun V T F x lo qb hI2 hlo hq => take_step' V T F t (Pr + bo) x (gb k) lo bo qb k hI2 (by rw [hPr]) hlo hq
      clear o a9 hf hv hg bel HT
      obtain ⟨x, hx⟩ : ∃ x, f (a + k) = x := ⟨_, rfl⟩
      rw [hx] at cx bx9
      obtain ⟨lo, hlo⟩ : ∃ lo, (Pr + bo) % 1000000000 = lo := ⟨_, rfl⟩
      have lo0 : 0 ≤ lo := by omega
      have lo1 : lo < 1000000000 := by omega
      obtain ⟨qb, hqb⟩ : ∃ qb, (Pr + bo) / 1000000000 = qb := ⟨_, rfl⟩
      have qb0 : 0 ≤ qb := by omega
      have qb1 : qb ≤ t := by omega
      have qb2 : 0 < lo → qb + 1 ≤ t := by intro _; omega
      have hsum : Pr + bo = qb * 1000000000 + lo := by omega
      by_cases hxl : x < lo
      · have bo1 : qb + 1 ≤ t := qb2 (by omega)
        have HR : Hid (∀ q, TkRel w ((wr.drewN q).setCell ⟨g, a + k, none⟩ (.int .u32 (x + 1000000000 - lo))) B g N a m (k + 1) f gb t (qb + 1)) := fun q =>
          HNX q _ _ x hx (by omega) (by omega) (fun V T F hI2 => (STP V T F x lo qb hI2 hlo hqb).1 hxl)
        have HX : Hid (f (a + k) = x) := hx
        clear HNX STP hx hsum qb2
        generalize gb k = y at *
        go_wp2_with fail
        go_quiet (fail)
        go_wp2
        go_roundw
        case rel => exact ⟨k + 1, qb + 1, by omega, by (first | rfl | rw [hqb]), by go_num, by omega, bo1, HR.out _⟩
        case measure => simp [intOf]; omega
      · have bo1 : qb ≤ t := qb1
        have hxl' : lo ≤ x := by omega
        have HR : Hid (∀ q, TkRel w ((wr.drewN q).setCell ⟨g, a + k, none⟩ (.int .u32 (x - lo))) B g N a m (k + 1) f gb t qb) := fun q =>
          HNX q _ _ x hx (by omega) (by omega) (fun V T F hI2 => (STP V T F x lo qb hI2 hlo hqb).2 hxl)
        have HX : Hid (f (a + k) = x) := hx
        have hxd : decide (x < lo) = false := decide_eq_false hxl
        clear HNX STP hx hsum qb2 hxl bo1
        generalize gb k = y at *
        go_wp2_with fail
        go_quiet (fail)
        go_wp2
        go_roundw
        case rel => exact ⟨k + 1, qb, by omega, by (first | rfl | rw [hqb]), by go_num, qb0, qb1, HR.out _⟩
        case measure => simp [intOf]; omega
    · have e : k = m := by omega
      subst e
      have bx9 := H9.out (a + k)
      have HE := tk_last w wr B g N a k f gb t bo _ HT.out rfl bx9.2 b0 HG.out
      have hle := HE.1
      have HF : Hid (Taken w (wr.setCell ⟨g, a + k, none⟩ (.int .u32 (f (a + k) - bo))) B g N a k f gb t) := HE.2
      have hi1 : (k : Int) < (k : Int) + 1 := by omega
      clear o a9 hf hv hg bel HT HE
      generalize f (a + k) = x at *
      go_wp2
      go_end0
      exact ⟨rfl, HF.out⟩
end Go.Proofs.YtfhapeinfhjihaaGreatDoor

namespace Go.Proofs.YtfhapeinfhjihaaGreatDoor
open Go.RowKit

set_option maxRecDepth 100000 in
set_option maxHeartbeats 800000 in
theorem div64_near (lo y : Int) (w : World) (y0 : 0 < y) (l0 : 0 ≤ lo) (l1 : lo < 18446744073709551616) (y1 : y < 18446744073709551616) :
    Calls Tryz.prog 140 #[.int .u64 0, .int .u64 lo, .int .u64 y] w fun e w' => e = .returned (.tuple #[.int .u64 (lo / y), .int .u64 (lo % y)]) ∧ ∃ q, w' = w.drewN q := by
  have yz : (y == 0) = false := beq_eq_false_iff_ne.2 (by omega)
  have yh : ¬ y ≤ 0 := by omega
  have em : lo.tmod y = lo % y := Int.tmod_eq_emod_of_nonneg l0
  have ed : lo.tdiv y = lo / y := Int.tdiv_eq_ediv_of_nonneg l0
  have m0 := Int.emod_nonneg lo (show y ≠ 0 by omega)
  have m1 := Int.emod_lt_of_pos lo y0
  have d0 : 0 ≤ lo / y := Int.ediv_nonneg l0 (by omega)
  have d1 : lo / y ≤ lo := Int.ediv_le_self _ (by omega)
  go_enter Tryz.func140, Tryz.ntmps140
  go_wp2_with fail
  go_quiet (fail)
  go_wp2
  go_ret2
  exact ⟨rfl, _, rfl⟩
theorem div64_any (hi lo y : Int) (w : World) (h0 : 0 ≤ hi) (h1 : hi < y) (l0 : 0 ≤ lo) (l1 : lo < 18446744073709551616) (y1 : y < 18446744073709551616) :
    Calls Tryz.prog 140 #[.int .u64 hi, .int .u64 lo, .int .u64 y] w fun e w' => e = .returned (.tuple #[.int .u64 ((hi * 18446744073709551616 + lo) / y), .int .u64 ((hi * 18446744073709551616 + lo) % y)]) ∧ ∃ q, w' = w.drewN q := by
  by_cases z : hi = 0
  · subst z
    have := div64_near lo y w (by omega) l0 l1 y1
    simpa using this
  · refine (div64_far hi lo y w (by omega) h1 l0 l1 y1).mono ?_
    rintro e w' ⟨rfl, rfl⟩
    exact ⟨rfl, 0, rfl⟩

set_option maxRecDepth 100000 in
set_option maxHeartbeats 800000 in
theorem mul64_sq (x : Int) (w : World) (x0 : 0 ≤ x) (x1 : x < 1000000000) :
    Calls Tryz.prog 112 #[.int .u64 x, .int .u64 1000000000000000000] w fun e w' => (∃ hi lo, e = .returned (.tuple #[.int .u64 hi, .int .u64 lo]) ∧ hi * 18446744073709551616 + lo = x * 1000000000000000000 ∧ 0 ≤ hi ∧ 0 ≤ lo ∧ lo < 18446744073709551616) ∧ w = w' := by
  have mk0 := u64_mask x x0 (by omega)
  have mk1 := u64_mask 1000000000000000000 (by omega) (by omega)
  have e0 : x % 4294967296 = x := by omega
  have e1 : x / 4294967296 = 0 := by omega
  rw [e0] at mk0
  rw [show (1000000000000000000 : Int) % 4294967296 = 2808348672 by decide] at mk1
  have mk2 := u64_mask (x * 2808348672 / 4294967296) (by omega) (by omega)
  obtain ⟨t1, ht1⟩ : ∃ t, x * 2808348672 / 4294967296 % 4294967296 = t := ⟨_, rfl⟩
  rw [ht1] at mk2
  go_enter Tryz.func112, Tryz.ntmps112
  go_wp2
  go_ret2
  refine ⟨⟨_, _, rfl, ?_⟩, rfl⟩
  rw [IntKind.wrap_u64]
  clear mk0 mk1 mk2 e0 e1
  omega
theorem add64_any (x y : Int) (x0 : 0 ≤ x) (y0 : 0 ≤ y) (w : World) : (callFunc 139 #[.int .u64 x, .int .u64 y, .int .u64 0]).run Tryz.prog w =
    .ok (.value (.tuple #[.int .u64 ((x + y) % 18446744073709551616), .int .u64 ((x + y) / 18446744073709551616)])) w := by
  rw [run_callFunc_extern Tryz.func139 (by kernel_rfl) (by kernel_rfl) (by kernel_rfl) (e := add64Entry) (by kernel_rfl), run_add64 x y 0 x0 y0 (by omega) (by omega)]
  simp only [Result.andThen, Int.add_zero]

set_option maxRecDepth 100000 in
set_option maxHeartbeats 1600000 in
theorem guess_any (b off cap b' off' cap' m : Nat) (f g : Nat → Int) (w : World) (hL : Lies w b off (m + 1) f) (hL' : Lies w b' off' m g) (hf : Limbs (m + 1) f) (hg : Limbs m g) (h2 : 2 ≤ m) (hm : m ≤ 4611686018427387904) (hz : g (m - 1) ≠ 0) :
    Calls Tryz.prog 133 #[.slice (some ⟨b, off, none⟩) (m + 1) cap, .slice (some ⟨b', off', none⟩) m cap'] w fun e w' => e = .returned (.int .u64 ((f m * 1000000000000000000 + f (m - 1) * 1000000000 + f (m - 2)) / (g (m - 1) * 1000000000 + g (m - 2) + 1))) ∧ ∃ q, w' = w.drewN q := by
  have c0 := hL.cell m (by omega)
  have c1 := hL.cell (m - 1) (by omega)
  have c2 := hL.cell (m - 2) (by omega)
  have k1 := hL'.cell (m - 1) (by omega)
  have k2 := hL'.cell (m - 2) (by omega)
  have f0 := hf m (by omega)
  have f1 := hf (m - 1) (by omega)
  have f2 := hf (m - 2) (by omega)
  have g1 := hg (m - 1) (by omega)
  have g2 := hg (m - 2) (by omega)
  have hm1 := mul64_sq (f m) w f0.1 f0.2
  clear hL hL' hf hg
  generalize f m = x0 at *
  generalize f (m - 1) = x1 at *
  generalize f (m - 2) = x2 at *
  generalize g (m - 1) = z1 at *
  generalize g (m - 2) = z2 at *
  have hd := fun hi lo h0 h1 l0 l1 w => div64_any hi lo (z1 * 1000000000 + z2 + 1) w h0 h1 l0 l1 (by omega)
  have ha := fun lo l0 w => add64_any lo (x1 * 1000000000 + x2) l0 (by omega) w
  obtain ⟨T, hT⟩ : ∃ T, (x0 * 1000000000000000000 + x1 * 1000000000 + x2) / (z1 * 1000000000 + z2 + 1) = T := ⟨_, rfl⟩
  rw [hT]
  have HT : Hid ((x0 * 1000000000000000000 + x1 * 1000000000 + x2) / (z1 * 1000000000 + z2 + 1) = T) := hT
  clear hT
  have i1 : ((m : Int) - 1).toNat = m - 1 := by omega
  have i2 : ((m : Int) - 2).toNat = m - 2 := by omega
  have j1 : (m : Int) < (m : Int) + 1 := by omega
  have j2 : 0 ≤ (m : Int) - 2 := by omega
  go_enter Tryz.func133, Tryz.ntmps133
  go_wp2_with fail
  refine hm1.mono ?_
  rintro e w' ⟨⟨hi, lo, rfl, he, hi0, lo0, lo1⟩, rfl⟩
  have ha := ha lo lo0
  have hd := hd (hi + (lo + (x1 * 1000000000 + x2)) / 18446744073709551616) ((lo + (x1 * 1000000000 + x2)) % 18446744073709551616) (by omega) (by omega) (by omega) (by omega)
  rw [show (hi + (lo + (x1 * 1000000000 + x2)) / 18446744073709551616) * 18446744073709551616 + (lo + (x1 * 1000000000 + x2)) % 18446744073709551616 = x0 * 1000000000000000000 + x1 * 1000000000 + x2 by omega] at hd
  have hi1 : hi ≤ 60000000 := by omega
  clear hm1 he
  rw [HT.out] at hd
  generalize (x0 * 1000000000000000000 + x1 * 1000000000 + x2) % (z1 * 1000000000 + z2 + 1) = T2 at *
  obtain ⟨v, hv⟩ : ∃ v, x1 * 1000000000 + x2 = v := ⟨_, rfl⟩
  rw [hv] at ha hd
  have v0 : 0 ≤ v := by omega
  have v1 : v < 1000000000000000000 := by omega
  obtain ⟨A, hA⟩ : ∃ A, (lo + v) % 18446744073709551616 = A := ⟨_, rfl⟩
  obtain ⟨C, hC⟩ : ∃ C, (lo + v) / 18446744073709551616 = C := ⟨_, rfl⟩
  rw [hA, hC] at ha hd
  have C0 : 0 ≤ C := by omega
  have C1 : C ≤ 1 := by omega
  clear hA hC
  go_wp2_with fail
  go_quiet (fail)
  go_wp2_with fail
  go_quiet ((go_at_call 140; exact (hd _).mono (by rintro e w' ⟨rfl, q, rfl⟩; exact ⟨rfl, _, by rw [World.drewN_drewN, Nat.add_assoc]⟩)))
  go_wp2
  go_ret
  exact ⟨rfl, _, by rw [World.drewN_drewN]⟩
end Go.Proofs.YtfhapeinfhjihaaGreatDoor

namespace Go.Proofs.YtfhapeinfhjihaaGreatDoor
open Go.RowKit

theorem val_split (f : Nat → Int) (a k : Nat) : val f (a + k) = val f a + pw a * val (sh f a) k := by
  induction k with
  | zero => simp [val_zero]
  | succ k ih =>
    rw [← Nat.add_assoc, val_succ, ih, val_succ, Int.mul_add, pw_add]
    show _ + f (a + k) * (pw a * pw k) = _ + (pw a * val (sh f a) k + pw a * (f (a + k) * pw k))
    rw [Int.mul_left_comm]; omega
/-- The guess by the highest limbs: never too great, at most one short. -/
theorem guess_ok (m : Nat) (f g : Nat → Int) (h2 : 2 ≤ m) (hf : Limbs (m + 1) f) (hg : Limbs m g) (hz : g (m - 1) ≠ 0) (hlt : val f (m + 1) < 1000000000 * val g m) (T : Int)
    (hT : T = (f m * 1000000000000000000 + f (m - 1) * 1000000000 + f (m - 2)) / (g (m - 1) * 1000000000 + g (m - 2) + 1)) :
    0 ≤ T ∧ T < 1000000000 ∧ val g m * T ≤ val f (m + 1) ∧ val f (m + 1) < val g m * T + 2 * val g m := by
  obtain ⟨k, rfl⟩ : ∃ k, m = k + 2 := ⟨m - 2, by omega⟩
  simp only [show k + 2 - 1 = k + 1 by omega, show k + 2 - 2 = k by omega] at *
  have eF : val f (k + 2 + 1) = val f k + (f k + f (k + 1) * 1000000000 + f (k + 2) * 1000000000000000000) * pw k := by
    rw [val_succ, val_succ, val_succ, pw_succ (k + 1), pw_succ k, Int.add_mul, Int.add_mul, ← Int.mul_assoc, ← Int.mul_assoc, ← Int.mul_assoc, Int.mul_right_comm (f (k + 1)), Int.mul_right_comm (f (k + 2)) 1000000000000000000]
    omega
  have eG : val g (k + 2) = val g k + (g k + g (k + 1) * 1000000000) * pw k := by
    rw [val_succ, val_succ, pw_succ k, Int.add_mul, ← Int.mul_assoc, Int.mul_right_comm (g (k + 1))]
    omega
  have f0 := val_nonneg (hf.le (show k ≤ k + 2 + 1 by omega))
  have f1 := val_lt (hf.le (show k ≤ k + 2 + 1 by omega))
  have g0 := val_nonneg (hg.le (show k ≤ k + 2 by omega))
  have g1 := val_lt (hg.le (show k ≤ k + 2 by omega))
  have a0 := hf k (by omega)
  have a1 := hf (k + 1) (by omega)
  have a2 := hf (k + 2) (by omega)
  have b0 := hg k (by omega)
  have b1 := hg (k + 1) (by omega)
  have pp := pw_pos k
  generalize val f (k + 2 + 1) = R at *
  generalize val g (k + 2) = V at *
  obtain ⟨X, hX⟩ : ∃ X, f (k + 2) * 1000000000000000000 + f (k + 1) * 1000000000 + f k = X := ⟨_, rfl⟩
  obtain ⟨D, hD⟩ : ∃ D, g (k + 1) * 1000000000 + g k = D := ⟨_, rfl⟩
  rw [hX, hD] at hT
  rw [show f k + f (k + 1) * 1000000000 + f (k + 2) * 1000000000000000000 = X by omega] at eF
  rw [show g k + g (k + 1) * 1000000000 = D by omega] at eG
  have X0 : 0 ≤ X := by omega
  have D0 : 1000000000 ≤ D := by omega
  generalize val f k = r at *
  generalize val g k = s at *
  generalize pw k = E at *
  have e := Int.mul_ediv_add_emod X (D + 1)
  have m0 := Int.emod_nonneg X (show D + 1 ≠ 0 by omega)
  have m1 := Int.emod_lt_of_pos X (show 0 < D + 1 by omega)
  rw [← hT] at e
  have T0 : 0 ≤ T := by rw [hT]; exact Int.ediv_nonneg X0 (by omega)
  generalize X % (D + 1) = z at *
  clear hT hX hD a0 a1 a2 b0 b1 hz hf hg
  have sT : s * T ≤ E * T := Int.mul_le_mul_of_nonneg_right (by omega) T0
  have zE : 0 ≤ z * E := Int.mul_nonneg m0 (by omega)
  have lo : V * T ≤ R := by
    rw [eG, eF, ← e, Int.add_mul, Int.add_mul (_ * T), Int.add_mul D, Int.add_mul (D * T)]
    rw [Int.mul_right_comm D E T, Int.one_mul]
    rw [Int.mul_comm E T] at sT
    omega
  have hT9 : T < 1000000000 := by
    have hV : 0 < V := by
      have : 0 ≤ D * E := Int.mul_nonneg (by omega) (by omega)
      have : 1000000000 * E ≤ D * E := Int.mul_le_mul_of_nonneg_right D0 (by omega)
      omega
    by_cases c : T < 1000000000
    · exact c
    · have : V * 1000000000 ≤ V * T := Int.mul_le_mul_of_nonneg_left (by omega) (by omega)
      omega
  refine ⟨T0, hT9, lo, ?_⟩
  have zE2 : z * E ≤ D * E := Int.mul_le_mul_of_nonneg_right (by omega) (by omega)
  have sT0 : 0 ≤ s * T := Int.mul_nonneg g0 T0
  have tE : (T + 1) * E ≤ D * E := Int.mul_le_mul_of_nonneg_right (by omega) (by omega)
  have q1 : (D + 1) * T * E = D * T * E + T * E := by rw [Int.add_mul, Int.one_mul, Int.add_mul]
  have q2 : (s + D * E) * T = s * T + D * T * E := by rw [Int.add_mul, Int.mul_right_comm]
  rw [eG, eF, ← e, Int.add_mul ((D + 1) * T), q1, q2]
  rw [Int.add_mul] at tE
  omega

theorem own_lies {w : World} {B g N a k : Nat} {f : Nat → Int} (h : Own w B g N f) (h9 : All9 f) (hk : a + k ≤ N) : Lies w g a k (sh f a) :=
  ⟨fun i hi => h.cell (a + i) (by omega), fun i => (h9 (a + i)).1, fun i => by have := (h9 (a + i)).2; show f (a + i) < _; omega⟩
theorem sh_limbs {f : Nat → Int} (h9 : All9 f) (a k : Nat) : Limbs k (sh f a) := fun i _ => h9 (a + i)
/-- What nat.takeAll leaves. -/
def TakenAll (w w' : World) (B g N a m : Nat) (f : Nat → Int) (R V Q : Int) : Prop :=
  ∃ f', Own w' B g N f' ∧ All9 f' ∧ (∀ i, i < a ∨ a + m + 1 ≤ i → f' i = f i) ∧ val (sh f' a) (m + 1) = R - Q * V ∧ R - Q * V < V ∧ w.grownBy w' (some g)

set_option maxRecDepth 100000 in
set_option maxHeartbeats 1600000 in
theorem takeAll_any (vb : Value) (B g N a m : Nat) (f gb : Nat → Int) (R V : Int) (w0 w : World) (hB : Below w0.heap.size w0 w) (hBg : w0.heap.size ≤ B) (hR : Row w0 vb m gb) (hb : Can m gb) (h2 : 2 ≤ m) (hm : m ≤ 2305843009213693952) (hO : Own w B g N f) (h9 : All9 f) (hN : a + m + 1 ≤ N) (hNm : N ≤ 4611686018427387904)
    (eR : val (sh f a) (m + 1) = R) (eV : val gb m = V) (hlt : R < 1000000000 * V) :
    Calls Tryz.prog 126 #[.slice (some ⟨g, a, none⟩) (m + 1) (m + 1), vb] w fun e w' => ∃ Q, e = .returned (.int .u32 Q) ∧ (0 ≤ Q ∧ Q < 1000000000 ∧ TakenAll w w' B g N a m f R V Q) := by
  have hmL : m ≤ maxLen := by unfold maxLen; omega
  have gB := hO.block.1
  obtain ⟨b, off, cap, rfl, hc, hcm, hL0⟩ := hR.lies (by omega)
  have hL : Lies w b off m gb := hL0.below hB (fun _ => hL0.lt (by omega))
  have hgs := guess_any g a (m + 1) b off cap m (sh f a) gb w (own_lies hO h9 (by omega)) hL (sh_limbs h9 a _) hb.1 h2 (by omega) (hb.2 (by omega))
  obtain ⟨T, hT⟩ : ∃ T, (sh f a m * 1000000000000000000 + sh f a (m - 1) * 1000000000 + sh f a (m - 2)) / (gb (m - 1) * 1000000000 + gb (m - 2) + 1) = T := ⟨_, rfl⟩
  obtain ⟨T0, T1, lo, up⟩ := guess_ok m (sh f a) gb h2 (sh_limbs h9 a _) hb.1 (hb.2 (by omega)) (by rw [eR, eV]; exact hlt) T hT.symm
  rw [hT] at hgs
  have htk := fun q => take_any _ B g N a m f gb T w0 (w.drewN q) (below_drewN hB q) hBg hR hb.1 (by omega) hmL (show Own (w.drewN q) B g N f from hO) h9 hN hNm T0 T1 lo
  have HC : Hid (Can m gb) := hb
  have HR : Hid (Row w0 (.slice (some ⟨b, off, none⟩) m cap) m gb) := hR
  have HB : Hid (Below w0.heap.size w0 w) := hB
  have HEV : Hid (val gb m = V) := eV
  have HER : Hid (val (sh f a) (m + 1) = R) := eR
  rw [eR, eV] at lo up
  clear hT hR hb hB hL hL0 hO eV eR h9
  go_enter Tryz.func126, Tryz.ntmps126
  go_wp2_with fail
  refine hgs.mono ?_
  rintro e w' ⟨rfl, q, rfl⟩
  have htk := htk q
  clear hgs
  go_wp2_with fail
  refine htk.mono ?_
  rintro e w2 ⟨rfl, ⟨f', o2, a2, u2, v2, g2⟩⟩
  clear htk
  rw [HEV.out, HER.out] at v2
  have bel : Below w0.heap.size w0 w2 := (below_drewN HB.out q).grown g2 (by have := HB.out.size; simpa using this) (fun j hj => by simp at hj; omega)
  have hrow : Row w2 (.slice (some ⟨g, a, none⟩) (m + 1) (m + 1)) (m + 1) (sh f' a) := .inr ⟨g, a, m + 1, rfl, Nat.le_refl _, by unfold maxLen; omega, own_lies o2 a2 (by omega)⟩
  have ht := trimmed_any _ (m + 1) _ w2 hrow
  have hRb : Row w2 (.slice (some ⟨b, off, none⟩) m cap) m gb := HR.out.below bel
  have hg02 : w.grownBy w2 (some g) := grown_trans (grown_drew (grown_refl w (some g)) q) g2
  clear hrow g2
  go_wp2_with fail
  refine ht.mono ?_
  rintro e w' ⟨r, rfl, ⟨m', hr, htr⟩, rfl⟩
  obtain ⟨cr, er⟩ := htr.can (sh_limbs a2 a _)
  have hcp := compared_any r _ m' m (sh f' a) gb w2 hr hRb cr HC.out
  rw [er, v2, HEV.out] at hcp
  obtain ⟨ar, capr, rfl, _⟩ := hr.shape
  clear ht hr htr cr er hRb
  by_cases hge : V ≤ R - V * T
  · have hcl : decide (cmpI (R - V * T) V < 0) = false := by rw [cmpI_lt]; exact decide_eq_false (by omega)
    have hcg : 0 ≤ cmpI (R - V * T) V := by have := of_decide_eq_false hcl; omega
    have htk2 := fun q => take_any _ B g N a m f' gb 1 w0 (w2.drewN q) (below_drewN bel q) hBg HR.out HC.out.1 (by omega) hmL (show Own (w2.drewN q) B g N f' from o2) a2 hN hNm (by omega) (by omega) (by rw [v2, HEV.out]; omega)
    have HU : Hid (∀ i, i < a ∨ a + m + 1 ≤ i → f' i = f i) := u2
    have HV2 : Hid (val (sh f' a) (m + 1) = R - V * T) := v2
    have T2 : T + 1 < 1000000000 := by
      by_cases c : T + 1 < 1000000000
      · exact c
      · have : V * 999999999 ≤ V * T := Int.mul_le_mul_of_nonneg_left (by omega) (by omega)
        omega
    clear hcl o2 a2 u2 v2 bel
    generalize cmpI (R - V * T) V = C at *
    go_wp2_with fail
    refine hcp.mono ?_
    rintro e w' ⟨rfl, q2, rfl⟩
    have htk2 := htk2 q2
    clear hcp
    go_wp2_with fail
    refine htk2.mono ?_
    rintro e w3 ⟨rfl, ⟨f'', o3, a3, u3, v3, g3⟩⟩
    clear htk2
    have HF : Hid (TakenAll w w3 B g N a m f R V (T + 1)) := by
      refine ⟨f'', o3, a3, fun i hi => by rw [u3 i hi, HU.out i hi], ?_, ?_, grown_trans hg02 (grown_trans (grown_drew (grown_refl w2 (some g)) q2) g3)⟩
      · rw [v3, HV2.out, HEV.out, Int.mul_one, Int.add_mul, Int.mul_comm T V]; omega
      · rw [Int.add_mul, Int.mul_comm T V]; omega
    clear o3 a3 u3 v3 g3
    go_wp2
    go_ret
    exact ⟨_, rfl, by omega, T2, HF.out⟩
  · have hcl : decide (cmpI (R - V * T) V < 0) = true := by rw [cmpI_lt]; exact decide_eq_true (by omega)
    have hcg : ¬ 0 ≤ cmpI (R - V * T) V := by have := of_decide_eq_true hcl; omega
    have HF : Hid (∀ q, TakenAll w (w2.drewN q) B g N a m f R V T) := fun q =>
      ⟨f', o2, a2, u2, by rw [v2, Int.mul_comm T V], by rw [Int.mul_comm T V]; omega, grown_drew hg02 q⟩
    clear hcl o2 a2 u2 v2 bel
    generalize cmpI (R - V * T) V = C at *
    go_wp2_with fail
    refine hcp.mono ?_
    rintro e w' ⟨rfl, q2, rfl⟩
    clear hcp
    go_wp2
    go_ret
    exact ⟨_, rfl, T0, T1, HF.out _⟩
end Go.Proofs.YtfhapeinfhjihaaGreatDoor

namespace Go.Proofs.YtfhapeinfhjihaaGreatDoor
open Go.RowKit

theorem own_of_heap {w : World} {B g N : Nat} {f : Nat → Int} {cur : Array Value} (h : w.heap[g]? = some (.cells cur 76 (0, 0))) (hB : B ≤ g) (hm : N ≤ maxLen) (hc : cur.toList = vals N f) : Own w B g N f := by
  have hs : cur.size = N := by rw [← Array.length_toList, hc, vals_length]
  exact ⟨by rw [vals_length]; omega, .inr ⟨g, N, cur, rfl, hB, h, Nat.le_refl _, hm, by omega, by rw [hc, List.take_of_length_le (by rw [vals_length]; omega)]⟩⟩
theorem Own.keep {w w' : World} {B g N r : Nat} {f : Nat → Int} (h : Own w B g N f) (hg : w.grownBy w' (some r)) (hne : g ≠ r) : Own w' B g N f :=
  World.ownsRow.kept h hg (.inr (by simpa [Value.ownBlock] using hne))
theorem vals_over (n : Nat) (f : Nat → Int) : vals n f ++ [.int .u32 0] = vals (n + 1) (limb n f) := by
  rw [vals_snoc]
  exact vals_congr (fun i hi => by
    unfold upd limb
    by_cases e : i = n
    · subst e; simp
    · simp [e, show i < n by omega])
theorem val_sh_succ (f : Nat → Int) (a k : Nat) : val (sh f a) (k + 1) = f a + 1000000000 * val (sh f (a + 1)) k := by
  have := val_split (sh f a) 1 k
  rw [Nat.add_comm 1 k] at this
  rw [this]
  have e : sh (sh f a) 1 = sh f (a + 1) := by funext i; show f (a + (1 + i)) = f (a + 1 + i); congr 1; omega
  rw [e]
  have p1 : pw 1 = 1000000000 := by decide
  rw [p1]
  simp [val, pw_zero, sh]
/-- What stands at the head of each round. -/
def DvRel (w0 wr : World) (B g gq n m j : Nat) (A V : Int) : Prop :=
  ∃ f' q, Own wr B g (n + 1) f' ∧ All9 f' ∧ Own wr B gq (n - m + 1) q ∧ All9 q ∧ (∀ i, j + m ≤ i → f' i = 0) ∧ val (sh f' j) m < V ∧ (∀ i, i < j → q i = 0) ∧ A = val f' (j + m) + val q (n - m + 1) * V ∧ Below w0.heap.size w0 wr
theorem dv_start (n m : Nat) (f : Nat → Int) (V : Int) (hf : Limbs n f) (h1 : 1 ≤ m) (hmn : m ≤ n) (hV : pw (m - 1) ≤ V) : (∀ i, n - m + 1 + m ≤ i → limb n f i = 0) ∧ val (sh (limb n f) (n - m + 1)) m < V ∧ val f n = val (limb n f) (n - m + 1 + m) := by
  refine ⟨fun i hi => limb_z n f i (by omega), ?_, ?_⟩
  · obtain ⟨k, rfl⟩ : ∃ k, m = k + 1 := ⟨m - 1, by omega⟩
    have e : val (sh (limb n f) (n - (k + 1) + 1)) (k + 1) = val (sh (limb n f) (n - (k + 1) + 1)) k := val_trim (by omega) (fun i h1 h2 => limb_z n f _ (by omega))
    rw [e]
    have := val_lt (sh_limbs (limb_all hf) (n - (k + 1) + 1) k)
    simp only [Nat.add_sub_cancel] at hV
    omega
  · rw [limb_val (by omega)]
theorem dv_round (w0 wr w2 : World) (B g gq n m t : Nat) (A V Q R : Int) (f' q : Nat → Int) (hV : V < pw m) (ht : t + 1 ≤ n - m + 1) (hne : gq ≠ g) (hB : w0.heap.size ≤ B)
    (o : Own wr B g (n + 1) f') (oq : Own wr B gq (n - m + 1) q) (aq : All9 q) (hz : ∀ i, t + 1 + m ≤ i → f' i = 0) (hq : ∀ i, i < t + 1 → q i = 0) (hA : A = val f' (t + 1 + m) + val q (n - m + 1) * V) (hb : Below w0.heap.size w0 wr)
    (Q0 : 0 ≤ Q) (Q1 : Q < 1000000000) (eR : val (sh f' t) (m + 1) = R) (hT : TakenAll wr w2 B g (n + 1) t m f' R V Q) : DvRel w0 (w2.setCell ⟨gq, t, none⟩ (.int .u32 Q)) B g gq n m t A V := by
  obtain ⟨f2, o2, a2, u2, v2, l2, g2⟩ := hT
  have oq2 : Own w2 B gq (n - m + 1) q := oq.keep g2 hne
  have gB := o.block.1
  have gqB := oq.block.1
  have hb2 : Below w0.heap.size w0 w2 := hb.grown g2 hb.size (fun j hj => by simp at hj; omega)
  have R0 : 0 ≤ val (sh f2 t) (m + 1) := val_nonneg (sh_limbs a2 t _)
  have top : f2 (t + m) = 0 := by
    have h1 : val (sh f2 t) (m + 1) = val (sh f2 t) m + f2 (t + m) * pw m := rfl
    have h2 := val_nonneg (sh_limbs a2 t m)
    have h3 := (a2 (t + m)).1
    by_cases c : f2 (t + m) = 0
    · exact c
    · have : 1 * pw m ≤ f2 (t + m) * pw m := Int.mul_le_mul_of_nonneg_right (by omega) (by have := pw_pos m; omega)
      omega
  have e2 : val (sh f2 t) m = R - Q * V := by
    have h1 : val (sh f2 t) (m + 1) = val (sh f2 t) m + f2 (t + m) * pw m := rfl
    rw [top] at h1; omega
  have low : val f2 t = val f' t := val_congr (fun i hi => u2 i (.inl hi))
  refine ⟨f2, upd q t Q, ?_, a2, oq2.stored t Q, upd_all aq t Q Q0 Q1, fun i hi => ?_, by rw [e2]; exact l2, fun i hi => ?_, ?_, hb2.setCell (by show w0.heap.size ≤ gq; omega) _⟩
  · exact ownsRow_setCell_other o2 (by simp [Value.ownBlock]; omega) _
  · by_cases e : i = t + m
    · rw [e]; exact top
    · rw [u2 i (.inr (by omega))]; exact hz i (by omega)
  · rw [show upd q t Q i = q i by simp [upd, show ¬ i = t by omega]]; exact hq i (by omega)
  · rw [val_upd q (n - m + 1) t Q (by omega) (hq t (by omega)), val_split f2 t m, low, e2, hA, show t + 1 + m = t + (m + 1) by omega, val_split f' t (m + 1), eR, Int.mul_sub, Int.add_mul, Int.mul_right_comm Q (pw t) V, Int.mul_comm (Q * V) (pw t)]
    omega

set_option maxRecDepth 100000 in
set_option maxHeartbeats 1600000 in
theorem byRow_any (v0 v1 : Value) (n m : Nat) (f g : Nat → Int) (w : World) (h0 : Row w v0 n f) (h1 : Row w v1 m g) (hf : Can n f) (hg : Can m g) (h2 : 2 ≤ m) (hn : n ≤ 1000000) (hle : val g m ≤ val f n) :
    Calls Tryz.prog 110 #[v0, v1] w fun e w' => ∃ rq, ∃ rr, e = .returned (.tuple #[rq, rr]) ∧ Divides w' rq rr (val f n) (val g m) ∧ Below w.heap.size w w' := by
  have hmn : m ≤ n := by
    by_cases z : m ≤ n
    · exact z
    · have := can_less hf.1 hg (by omega); omega
  obtain ⟨A, hA⟩ : ∃ A, val f n = A := ⟨_, rfl⟩
  obtain ⟨V, hV⟩ : ∃ V, val g m = V := ⟨_, rfl⟩
  have V1 : pw (m - 1) ≤ V := by rw [← hV]; exact can_ge hg (by omega)
  have V2 : V < pw m := by rw [← hV]; exact val_lt hg.1
  obtain ⟨s1, s2, s3⟩ := dv_start n m f V hf.1 (by omega) hmn V1
  have f9 := limb_all hf.1
  rw [hA] at s3
  rw [hA, hV] at hle
  rw [hA, hV]
  obtain ⟨b, off, cap, e0, _, _, hL⟩ := h0.lies (by omega)
  obtain ⟨b', off', cap', e1, _, _, hL'⟩ := h1.lies (by omega)
  have hmk1 := make_row w (n + 1) (by omega)
  rw [show ((n + 1 : Nat) : Int) = (n : Int) + 1 from by omega] at hmk1
  have hhp : (w.alloc (.cells (madeCells #[.int .u32 0] (n + 1)) 76)).heap[w.heap.size]? = some (.cells (madeCells #[.int .u32 0] (n + 1)) 76 (0, 0)) := heap_alloc_new w _
  have hb1 : Below w.heap.size w (w.alloc (.cells (madeCells #[.int .u32 0] (n + 1)) 76)) := one_below w _
  have hL1 : Lies (w.alloc (.cells (madeCells #[.int .u32 0] (n + 1)) 76)) b off n f := hL.below hb1 (fun _ => hL.lt (by omega))
  have hsz46 : (Tryz.prog.info? 76).map (·.size) = some 1 := by kernel_rfl
  have hsrc : ∀ j v, (vals n f)[j]? = some v → (w.alloc (.cells (madeCells #[.int .u32 0] (n + 1)) 76)).cell? ((⟨b, off, none⟩ : Addr).add j) = some v := by
    intro j v hj
    have hlt : j < n := by have := (List.getElem?_eq_some_iff.1 hj).1; rwa [vals_length] at this
    rw [vals_get _ _ _ hlt] at hj
    rw [add_at, hL1.cell j hlt, hj]
  have hone : ∀ v ∈ vals n f, v.oneCell' = true := by
    intro v hv
    simp only [vals, List.mem_map] at hv
    obtain ⟨i, _, rfl⟩ := hv
    rfl
  have hsize : (madeCells #[Value.int .u32 0] (n + 1)).size = n + 1 := by have := size_madeCells #[Value.int .u32 0] (n + 1); simpa using this
  have hmin : (vals n f).length = Nat.min n (n + 1) := by
    rw [vals_length]
    show n = min n (n + 1)
    omega
  have hfit : 0 + (vals n f).length ≤ (madeCells #[Value.int .u32 0] (n + 1)).size := by rw [vals_length, hsize]; omega
  have hcp := run_copy_row (P := Tryz.prog) (w.alloc (.cells (madeCells #[.int .u32 0] (n + 1)) 76)) 45 45 3 76 w.heap.size 0 (n + 1) (n + 1) ⟨b, off, none⟩ n cap _ 76 (vals n f) Tryz.underlying45 hsz46 hhp hmin hsrc hfit hone
  obtain ⟨w1, hw1⟩ : ∃ w1, w1 = (w.alloc (.cells (madeCells #[.int .u32 0] (n + 1)) 76)).setRow w.heap.size ((madeCells #[.int .u32 0] (n + 1)).toList.take 0 ++ vals n f ++ (madeCells #[.int .u32 0] (n + 1)).toList.drop (0 + (vals n f).length)).toArray := ⟨_, rfl⟩
  rw [← hw1] at hcp
  have o1 : Own w1 w.heap.size w.heap.size (n + 1) (limb n f) := by
    refine own_of_heap (cur := ((madeCells #[.int .u32 0] (n + 1)).toList.take 0 ++ vals n f ++ (madeCells #[.int .u32 0] (n + 1)).toList.drop (0 + (vals n f).length)).toArray) ?_ (Nat.le_refl _) (by unfold maxLen; omega) ?_
    · rw [hw1]; exact setRow_heap _ _ _ _ _ _ hhp
    · rw [toList_madeCells_one, vals_length, ← vals_over]
      simp
  have b1 : Below w.heap.size w w1 := by rw [hw1]; exact below_setRow hb1 (Nat.le_refl _) _
  rw [vals_length] at hcp
  have hmk2 := make_row w1 (n - m + 1) (by omega)
  rw [show ((n - m + 1 : Nat) : Int) = (n : Int) - (m : Int) + 1 from by omega] at hmk2
  have z1 := b1.size
  have o2 : Own (w1.alloc (.cells (madeCells #[.int .u32 0] (n - m + 1)) 76)) w.heap.size w.heap.size (n + 1) (limb n f) := World.ownsRow.alloc o1 _
  have oq := make_own w1 w.heap.size (n - m + 1) z1 (by unfold maxLen; omega)
  have b2 : Below w.heap.size w (w1.alloc (.cells (madeCells #[.int .u32 0] (n - m + 1)) 76)) := b1.alloc z1 _
  have gne : w1.heap.size ≠ w.heap.size := by have := o1.block.2; omega
  have HS : Hid (DvRel w (w1.alloc (.cells (madeCells #[.int .u32 0] (n - m + 1)) 76)) w.heap.size w.heap.size w1.heap.size n m (n - m + 1) A V) :=
    ⟨_, _, o2, f9, oq, fun _ => (by decide : (0 : Int) ≤ 0 ∧ (0 : Int) < 1000000000), s1, s2, fun _ _ => rfl, by rw [val_null, s3]; omega, b2⟩
  clear hw1 o1 b1 o2 oq b2 hsrc hone hfit hmin hhp hsize hb1 f9 s1 s2 s3
  have HR1 : Hid (Row w v1 m g) := h1
  have HC1 : Hid (Can m g) := hg
  have HVV : Hid (val g m = V) := hV
  clear h0 h1 hf hg hA hV hL hL' hL1
  subst e0 e1
  go_enter Tryz.func110, Tryz.ntmps110
  go_wp2
  clear hmk1 hmk2 hcp
  go_loopw [8] (fun i wr => ∃ j : Nat, j ≤ n - m + 1 ∧ i = .int .i64 ((j : Int) - 1) ∧ Hid (DvRel w wr w.heap.size w.heap.size w1.heap.size n m j A V)) (fun i _ => (intOf i + 1).toNat)
  case atStart => exact ⟨n - m + 1, Nat.le_refl _, by simp only [Value.int.injEq, true_and]; omega, HS.out⟩
  case round =>
    obtain ⟨j, hj, rfl, HD⟩ := hrel
    obtain ⟨f', q, o, a9, oq, aq, hz, hs, hq, hA, hb⟩ := HD.out
    by_cases hlt : 0 < j
    · obtain ⟨t, rfl⟩ : ∃ t, j = t + 1 := ⟨j - 1, by omega⟩
      have eR := val_sh_succ f' t m
      have hft := a9 t
      have hta := takeAll_any _ w.heap.size w.heap.size (n + 1) t m f' g (val (sh f' t) (m + 1)) V w wr hb (Nat.le_refl _) HR1.out HC1.out h2 (by omega) o a9 (by omega) (by omega) rfl HVV.out (by rw [eR]; omega)
      have HN := fun Q w2 Q0 Q1 hT => dv_round w wr w2 w.heap.size w.heap.size w1.heap.size n m t A V Q _ f' q V2 hj gne (Nat.le_refl _) o oq aq hz hq hA hb Q0 Q1 rfl hT
      have HOQ := fun w2 (h : wr.grownBy w2 (some w.heap.size)) => Own.keep oq h gne
      generalize val (sh f' t) (m + 1) = R at *
      clear HD o oq a9 aq hz hs hq hA eR hft
      have i0 : ((t + 1 : Nat) : Int) - 1 = (t : Int) := by omega
      have i1 : 0 ≤ (t : Int) := by omega
      have i2 : (t : Int) < (n : Int) - (m : Int) + 1 := by omega
      have i3 : (t : Int) + (m : Int) + 1 ≤ (n : Int) + 1 := by omega
      have i4 : (n : Int) ≤ 1000000 := by omega
      have i5 : ((t : Int) + (m : Int) + 1).toNat = t + m + 1 := by omega
      have i6 : t + m + 1 - t = m + 1 := by omega
      have i7 : (t : Int) < ((n - m + 1 : Nat) : Int) := by omega
      rw [i0]
      go_wp2_with fail
      refine hta.mono ?_
      rintro e w2 ⟨Q, rfl, Q0, Q1, hT⟩
      have oq2 := HOQ w2 (by obtain ⟨_, _, _, _, _, _, hgr⟩ := hT; exact hgr)
      have cq := oq2.cell t (by omega)
      have fq := oq2.free t
      have HR : Hid (DvRel w (w2.setCell ⟨w1.heap.size, t, none⟩ (.int .u32 Q)) w.heap.size w.heap.size w1.heap.size n m t A V) := HN Q w2 Q0 Q1 hT
      clear hta HN HOQ hT oq2
      generalize q t = z at *
      go_wp2
      go_roundw
      case rel => exact ⟨t, by omega, by go_num, HR⟩
      case measure => simp [intOf]
    · have e : j = 0 := by omega
      subst e
      have hmL : n + 1 ≤ maxLen := by unfold maxLen; omega
      have t1 := trimmed_any _ (n - m + 1) _ wr (oq.row (fun i => (aq i).1) (fun i => by have := (aq i).2; omega) (by unfold maxLen; omega))
      have t2 := trimmed_any _ (n + 1) _ wr (o.row (fun i => (a9 i).1) (fun i => by have := (a9 i).2; omega) hmL)
      have HE : Hid (∀ rq rr, (∃ m', Row wr rq m' q ∧ Trims (n - m + 1) q m') → (∃ m', Row wr rr m' f' ∧ Trims (n + 1) f' m') → Divides wr rq rr A V) := by
        intro rq rr k1 k2
        have e0 : sh f' 0 = f' := by funext i; show f' (0 + i) = f' i; rw [Nat.zero_add]
        rw [e0] at hs
        rw [Nat.zero_add] at hA
        refine ⟨val q (n - m + 1), val f' m, num_of_trim aq k1 rfl, num_of_trim a9 k2 (val_trim (by omega) (fun i h1 h2 => hz i (by omega))), by omega, val_nonneg (fun i _ => a9 i), hs⟩
      clear HD o oq a9 aq hz hs hq hA
      go_wp2_with fail
      refine t1.mono ?_
      rintro e w' ⟨rq, rfl, hrq, rfl⟩
      clear t1
      go_wp2_with fail
      refine t2.mono ?_
      rintro e w' ⟨rr, rfl, hrr, rfl⟩
      clear t2
      go_wp2
      go_ret2
      exact ⟨_, _, rfl, HE.out _ _ hrq hrr, hb⟩

set_option maxHeartbeats 400000 in
theorem divided_row (v0 v1 : Value) (n m : Nat) (f g : Nat → Int) (w : World) (h0 : Row w v0 n f) (h1 : Row w v1 m g) (hf : Can n f) (hg : Can m g) (h2 : 2 ≤ m) (hn : n ≤ 1000000) (hle : val g m ≤ val f n) :
    Calls Tryz.prog 85 #[v0, v1] w fun e w' => ∃ rq, ∃ rr, e = .returned (.tuple #[rq, rr]) ∧ Divides w' rq rr (val f n) (val g m) ∧ Below w.heap.size w w' := by
  have hc := compared_any v0 v1 n m f g w h0 h1 hf hg
  have hl : decide (cmpI (val f n) (val g m) < 0) = false := by rw [cmpI_lt]; exact decide_eq_false (by omega)
  have hd := fun q => byRow_any v0 v1 n m f g (w.drewN q) (h0.drewN q) (h1.drewN q) hf hg h2 hn hle
  obtain ⟨a, cap, rfl, _⟩ := h0.shape
  obtain ⟨a', cap', rfl, _⟩ := h1.shape
  have hm1 : ((m : Int) == 1) = false := beq_eq_false_iff_ne.2 (by omega)
  clear h0 h1 hf hg hle
  generalize val g m = B at *
  generalize val f n = A at *
  generalize cmpI A B = C at *
  go_enter Tryz.func85, Tryz.ntmps85
  go_wp2_with fail
  refine hc.mono ?_
  rintro e w' ⟨rfl, q, rfl⟩
  have hd := hd q
  go_wp2_with fail
  refine hd.mono ?_
  rintro e w' ⟨rq, rr, rfl, hr, hb⟩
  clear hd hc
  go_wp2
  go_ret2
  exact ⟨_, _, rfl, hr, (below_drewN (Below.refl _ _) q).trans hb⟩
/-- nat.divided answers quotient and rest of every number by every one that is not nought. -/
theorem divided_any (v0 v1 : Value) (n m : Nat) (f g : Nat → Int) (w : World) (h0 : Row w v0 n f) (h1 : Row w v1 m g) (hf : Can n f) (hg : Can m g) (hm : 0 < m) (hn : n ≤ 1000000) :
    Calls Tryz.prog 85 #[v0, v1] w fun e w' => ∃ rq, ∃ rr, e = .returned (.tuple #[rq, rr]) ∧ Divides w' rq rr (val f n) (val g m) ∧ Below w.heap.size w w' := by
  by_cases hlt : val f n < val g m
  · exact divided_less v0 v1 n m f g w h0 h1 hf hg (by omega) hlt
  · by_cases h : m = 1
    · subst h
      exact divided_limb v0 v1 n f g w h0 h1 hf hg (by omega) (by omega)
    · exact divided_row v0 v1 n m f g w h0 h1 hf hg (by omega) hn (by omega)
end Go.Proofs.YtfhapeinfhjihaaGreatDoor

namespace Go.Proofs.YtfhapeinfhjihaaGreatDoor
open Go.RowKit

theorem num_pos_len {n : Nat} {f : Nat → Int} {B : Int} (hc : Can n f) (hB : 0 < B) (e : val f n = B) : 0 < n := by
  by_cases z : 0 < n
  · exact z
  · have : n = 0 := by omega
    subst this
    rw [val_zero] at e; omega
theorem divided_num (v0 v1 : Value) (A B : Int) (w : World) (h0 : Num w v0 A) (h1 : Num w v1 B) (hA : A < pw 1000) (hB : 0 < B) :
    Calls Tryz.prog 85 #[v0, v1] w fun e w' => ∃ rq, ∃ rr, e = .returned (.tuple #[rq, rr]) ∧ Divides w' rq rr A B ∧ Below w.heap.size w w' := by
  obtain ⟨n, f, r0, c0, e0⟩ := h0
  obtain ⟨m, g, r1, c1, e1⟩ := h1
  have := can_le c0 (k := 1000) (by rw [e0]; exact hA)
  have := divided_any v0 v1 n m f g w r0 r1 c0 c1 (num_pos_len c1 hB e1) (by omega)
  rw [e0, e1] at this
  exact this
theorem div_num (v0 v1 : Value) (A B : Int) (w : World) (h0 : Num w v0 A) (h1 : Num w v1 B) (hA : A < pw 1000) (hB : 0 < B) :
    Calls Tryz.prog 63 #[v0, v1] w fun e w' => ∃ rq, ∃ rr, e = .returned (.tuple #[rq, rr, .int .i64 0]) ∧ Divides w' rq rr A B ∧ Below w.heap.size w w' := by
  obtain ⟨n, f, r0, c0, e0⟩ := h0
  obtain ⟨m, g, r1, c1, e1⟩ := h1
  exact div_ok v0 v1 A B n m f g w r0 r1 c0 c1 (num_pos_len c1 hB e1) (fun w' k0 k1 => divided_num v0 v1 A B w' ⟨n, f, k0, c0, e0⟩ ⟨m, g, k1, c1, e1⟩ hA hB)

theorem Divides.below {w w' : World} {rq rr : Value} {A B : Int} (h : Divides w rq rr A B) (hb : Below w.heap.size w w') : Divides w' rq rr A B := by
  obtain ⟨Q, R, a, b, c⟩ := h
  exact ⟨Q, R, a.below hb, b.below hb, c⟩
/-- Quotient and rest are known by their equation. -/
theorem divides_eq {A B Q R : Int} (h : A = Q * B + R) (r0 : 0 ≤ R) (r1 : R < B) : Q = A / B ∧ R = A % B := by
  have e1 := Int.mul_ediv_add_emod A B
  have m0 := Int.emod_nonneg A (show B ≠ 0 by omega)
  have m1 := Int.emod_lt_of_pos A (show 0 < B by omega)
  rw [Int.mul_comm] at e1
  have hq : Q = A / B := by
    by_cases c : Q < A / B
    · have : (Q + 1) * B ≤ A / B * B := Int.mul_le_mul_of_nonneg_right (by omega) (by omega)
      rw [Int.add_mul] at this; omega
    · by_cases d : A / B < Q
      · have : (A / B + 1) * B ≤ Q * B := Int.mul_le_mul_of_nonneg_right (by omega) (by omega)
        rw [Int.add_mul] at this; omega
      · omega
  exact ⟨hq, by rw [← hq] at e1; omega⟩
end Go.Proofs.YtfhapeinfhjihaaGreatDoor
