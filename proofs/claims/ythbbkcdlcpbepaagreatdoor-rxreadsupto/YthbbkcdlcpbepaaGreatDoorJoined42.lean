/-
  What ref.Points answers: the same code points. Conditions: the text is at most 2^44 bytes long.
-/
import Derived.Test.YthbbkcdlcpbepaaGreatDoorJoined41
import Derived.Test.YthbbkcdlcpbepaaGreatDoorJoined5
import Derived.Deep.Light
namespace Go.Proofs.YthbbkcdlcpbepaaGreatDoor
open Go.RowKit

/-- One step of what is good, and of its code points. -/
theorem good_step (len : Nat) (f : Nat → Int) (k p : Nat) (hlt : p < len) (h : (goodF len f (k + 1) p).2 = true) :
    ∃ n, stepF (len - p) (fun i => f (p + i)) = (n, true) ∧ 1 ≤ n ∧ p + n ≤ len ∧ (goodF len f k (p + n)).2 = true ∧ pointsF len f (k + 1) p = ptF (fun i => f (p + i)) n :: pointsF len f k (p + n) := by
  unfold goodF at h
  rw [if_neg (by omega)] at h
  by_cases z : (stepF (len - p) fun i => f (p + i)).2 = true
  · rw [if_pos z] at h
    refine ⟨(stepF (len - p) fun i => f (p + i)).1, Prod.ext rfl z, stepF_pos _ _ z, ?_, h, ?_⟩
    · have := stepF_le (len - p) (fun i => f (p + i)) (by omega)
      omega
    · conv => lhs; unfold pointsF
      rw [if_neg (by omega)]
  · rw [if_neg z] at h; cases h

/-- What stands at the head of each round. -/
def RpRel (len : Nat) (f : Nat → Int) (w : World) (t i : Value) (wr : World) : Prop :=
  ∃ (p k : Nat) (xs : List Int), p ≤ len ∧ len ≤ p + k ∧ i = .int .i64 p ∧ (goodF len f k p).2 = true ∧ xs ++ pointsF len f k p = points len f ∧ wr.ownsRow w.heap.size 3 1 t xs.length (xs.map (Value.int .i64)) ∧
    Below w.heap.size w wr ∧ xs.length ≤ p

theorem RpRel_next (len : Nat) (f : Nat → Int) (w : World) (v v' : Value) (wr w3 : World) (o : Obj) (p k n : Nat) (xs : List Int) (pt : Int)
    (hk : len ≤ p + (k + 1)) (hn : p + n ≤ len) (hn1 : 1 ≤ n) (hg : (goodF len f k (p + n)).2 = true) (hpt : pointsF len f (k + 1) p = pt :: pointsF len f k (p + n)) (hx : xs ++ pointsF len f (k + 1) p = points len f)
    (hown : wr.ownsRow w.heap.size 3 1 v xs.length (xs.map (Value.int .i64))) (hb : Below w.heap.size w wr) (hl : xs.length ≤ p) (q : Nat)
    (hown3 : w3.ownsRow w.heap.size 3 1 v' (xs.length + 1) (xs.map (Value.int .i64) ++ [.int .i64 pt])) (hgrow : ((wr.drewN q).alloc o).grownBy w3 v.ownBlock) : RpRel len f w v' (.int .i64 ((p : Int) + (n : Int))) w3 := by
  refine ⟨p + n, k, xs ++ [pt], hn, by omega, by go_num, hg, ?_, ?_, ?_, by simp; omega⟩
  · rw [hpt] at hx; simpa using hx
  · simpa using hown3
  · exact ((below_drewN hb q).alloc hb.size o).grown hgrow (by have := hb.size; simp; omega) (fun j hj => (hown.lt j hj).1)
set_option maxHeartbeats 400000 in
theorem rpoints_none (v : Value) (len : Nat) (f : Nat → Int) (w : World) (hR : Row w v len f) (hg : (good len f).2 = false) :
    Calls Tryz.prog 16 #[v] w fun e w' => e = .returned (.tuple #[.slice none 0 0, .int .i64 10]) ∧ w = w' := by
  have hgood : Calls Tryz.prog 27 #[v] w fun e w' => e = .returned (.tuple #[.int .i64 ((good len f).1 : Nat), .bool false]) ∧ w = w' := by rw [← hg]; exact rgood_any v len f w hR
  go_enter Tryz.func16, Tryz.ntmps16
  go_wp2_with (go_at_call 27; refine hgood.mono ?_; rintro e w' ⟨rfl, rfl⟩)
  go_ret2
  exact ⟨rfl, rfl⟩

set_option maxHeartbeats 400000 in
theorem rpoints_empty (a : Option Addr) (cap : Nat) (f : Nat → Int) (w : World) (hR : Row w (.slice a 0 cap) 0 f) :
    Calls Tryz.prog 16 #[.slice a 0 cap] w fun e w' => e = .returned (.tuple #[.slice none 0 0, .int .i64 0]) ∧ w = w' := by
  have hgood := rgood_any _ 0 f w hR
  have e0 : good 0 f = (0, true) := rfl
  rw [e0] at hgood
  go_enter Tryz.func16, Tryz.ntmps16
  go_wp2_with (go_at_call 27; refine hgood.mono ?_; rintro e w' ⟨rfl, rfl⟩)
  refine wp_loop_rounds 1 ?_
  rw [rounds_succ]
  go_wp2
  go_ret2
  exact ⟨rfl, rfl⟩

theorem own_draw {w : World} {B : Nat} {e : TypeId} {size : Nat} {v : Value} {n : Nat} {xs : List Value} (h : w.ownsRow B e size v n xs) (q : Nat) : (w.drewN q).ownsRow B e size v n xs := h

set_option maxRecDepth 100000 in
set_option maxHeartbeats 2000000 in
theorem rpoints_some (b off len cap : Nat) (f : Nat → Int) (w : World) (hL : Lies w b off len f) (hc : len ≤ cap) (hm : cap ≤ maxLen) (hs : len ≤ 17592186044416) (hg : (good len f).2 = true) :
    Calls Tryz.prog 16 #[.slice (some ⟨b, off, none⟩) len cap] w fun e w' => ∃ r, e = .returned (.tuple #[r, .int .i64 0]) ∧ w'.ownsRow w.heap.size 3 1 r (points len f).length ((points len f).map (Value.int .i64)) ∧ Below w.heap.size w w' := by
  obtain ⟨i0, hi, hz0, hz1, hz2⟩ := info_parts info3
  have hgood : Calls Tryz.prog 27 #[.slice (some ⟨b, off, none⟩) len cap] w fun e w' => e = .returned (.tuple #[.int .i64 ((good len f).1 : Nat), .bool true]) ∧ w = w' := by rw [← hg]; exact rgood_some b off len cap f w hL hc hm
  have HG : Hid ((good len f).2 = true) := hg
  clear hg
  unfold maxLen at hm
  go_enter Tryz.func16, Tryz.ntmps16
  go_wp2_with (go_at_call 27; refine hgood.mono ?_; rintro e w' ⟨rfl, rfl⟩)
  clear hgood
  go_loopw [6, 7] (fun t i wr => RpRel len f w t i wr) (fun _ i _ => len - (intOf i).toNat)
  case atStart => exact ⟨0, len, [], Nat.zero_le _, by omega, rfl, HG.out, rfl, World.ownsRow_nil _ _ _ _, Below.refl _ _, Nat.zero_le _⟩
  case round =>
    obtain ⟨p, k, xs, hp, hk, rfl, hgk, hx, hown, hb, hxl⟩ := hrel
    by_cases hlt : p < len
    · obtain ⟨k', rfl⟩ : ∃ k', k = k' + 1 := ⟨k - 1, by omega⟩
      obtain ⟨n, hs', hn1, hn, hg', hpt⟩ := good_step len f k' p hlt hgk
      have hL2 : Lies wr b off len f := ⟨fun i hi => by rw [hb.cell (World.block_lt_of_cell? w _ (hL.cell i hi))]; exact hL.cell i hi, hL.lo, hL.hi⟩
      have hst := rstep_any b off len cap p f wr hL2 hlt (by unfold maxLen; omega)
      rw [hs'] at hst
      have hz := hb.size
      have HN := fun v' w3 o q h1 h2 => RpRel_next len f w u6 v' wr w3 o p k' n xs (ptF (fun i => f (p + i)) n) hk hn hn1 hg' hpt hx hown hb hxl q h1 h2
      have hbytes := step_bytes _ _ _ hs'
      have c0 := hL2.cell p hlt
      have l0 := hL2.lo p
      have u0 := hL2.hi p
      have hltI : (p : Int) < (len : Int) := by omega
      clear hgk hx hg' hpt
      rcases hbytes with ⟨rfl, x⟩ | ⟨rfl, l, x⟩ | ⟨rfl, l, x⟩ | ⟨rfl, l, x⟩
      · have e : ptF (fun i => f (p + i)) 1 = f p := rfl
        rw [e] at HN
        clear x e hs' hL2
        generalize f p = c at *
        go_wp2_with (first | (go_at_call 28; refine hst.mono ?_; rintro e w' ⟨rfl, rfl⟩) | (at_builtin; refine wpList_append_own _ rfl _ _ 41 rfl w.heap.size 3 i0 (.int .i64 0) 1 8 Tryz.underlying41 hi hz0 hz1 hz2 rfl (by decide) _ _ _ rfl (hown.alloc _) ⟨wr.heap.size, 0, none⟩ 1 1 [.int .i64 c] rfl rfl ?c1 ?c2 ?c3 ?c4 ?c5 ?_))
        case c1 => exact cell_one_new _ _ _
        case c2 => intro u hu; simp at hu; subst hu; rfl
        case c3 => unfold maxLen; omega
        case c4 => omega
        case c5 => simp; omega
        · intro v' w3 hown3 hgrow3 _
          have HR : Hid (RpRel len f w v' (.int .i64 ((p : Int) + 1)) w3) := HN v' w3 _ 0 hown3 hgrow3
          clear HN hown3 hgrow3 hown hst
          go_wp2
          go_roundw
          case rel => exact HR.out
          case measure => simp [intOf]; omega
      · have e : ptF (fun i => f (p + i)) 2 = f p % 32 * 64 + f (p + 1) % 64 := rfl
        rw [e] at HN
        simp only [Nat.add_zero] at x
        have d1 := hL2.cell (p + 1) (by omega)
        have l1 := hL2.lo (p + 1)
        have u1 := hL2.hi (p + 1)
        have i1 : (p : Int) + 1 < (len : Int) := by omega
        clear x e hs' hL2
        generalize f p = y0 at *
        generalize f (p + 1) = y1 at *
        have g0 := i64_and31 y0 l0 (by omega)
        have g1 := i64_and63 y1 l1 (by omega)
        have g2 := i64_or_add (y0 % 32 * 64) (y1 % 64) 6 (by omega) (by omega) (by omega) (by omega) (by omega)
        go_wp2_with (go_at_call 28; refine hst.mono ?_; rintro e w' ⟨rfl, rfl⟩)
        go_quiet (fail)
        go_wp2_with (at_builtin; refine wpList_append_own _ rfl _ _ 41 rfl w.heap.size 3 i0 (.int .i64 0) 1 8 Tryz.underlying41 hi hz0 hz1 hz2 rfl (by decide) _ _ _ rfl (World.ownsRow.alloc (own_draw hown _) _) ⟨wr.heap.size, 0, none⟩ 1 1 [.int .i64 (y0 % 32 * 64 + y1 % 64)] rfl rfl ?c1 ?c2 ?c3 ?c4 ?c5 ?_)
        case c1 => exact cell_one_new _ _ _
        case c2 => intro u hu; simp at hu; subst hu; rfl
        case c3 => unfold maxLen; omega
        case c4 => omega
        case c5 => simp; omega
        · intro v' w3 hown3 hgrow3 _
          have HR : Hid (RpRel len f w v' (.int .i64 ((p : Int) + 2)) w3) := HN v' w3 _ _ hown3 hgrow3
          clear HN hown3 hgrow3 hown hst
          go_wp2
          go_roundw
          case rel => exact HR.out
          case measure => simp [intOf]; omega
      · have e : ptF (fun i => f (p + i)) 3 = f p % 16 * 4096 + f (p + 1) % 64 * 64 + f (p + 2) % 64 := rfl
        rw [e] at HN
        simp only [Nat.add_zero] at x
        have d1 := hL2.cell (p + 1) (by omega)
        have l1 := hL2.lo (p + 1)
        have u1 := hL2.hi (p + 1)
        have i1 : (p : Int) + 1 < (len : Int) := by omega
        have d2 := hL2.cell (p + 2) (by omega)
        have l2 := hL2.lo (p + 2)
        have u2 := hL2.hi (p + 2)
        have i2 : (p : Int) + 2 < (len : Int) := by omega
        clear x e hs' hL2
        generalize f p = y0 at *
        generalize f (p + 1) = y1 at *
        generalize f (p + 2) = y2 at *
        have g0 := i64_and15 y0 l0 (by omega)
        have g1 := i64_and63 y1 l1 (by omega)
        have g2 := i64_and63 y2 l2 (by omega)
        have g3 := i64_or_add (y0 % 16 * 4096) (y1 % 64 * 64) 12 (by omega) (by omega) (by omega) (by omega) (by omega)
        have g4 := i64_or_add (y0 % 16 * 4096 + y1 % 64 * 64) (y2 % 64) 6 (by omega) (by omega) (by omega) (by omega) (by omega)
        go_wp2_with (go_at_call 28; refine hst.mono ?_; rintro e w' ⟨rfl, rfl⟩)
        go_quiet (fail)
        go_wp2_with (at_builtin; refine wpList_append_own _ rfl _ _ 41 rfl w.heap.size 3 i0 (.int .i64 0) 1 8 Tryz.underlying41 hi hz0 hz1 hz2 rfl (by decide) _ _ _ rfl (World.ownsRow.alloc (own_draw hown _) _) ⟨wr.heap.size, 0, none⟩ 1 1 [.int .i64 (y0 % 16 * 4096 + y1 % 64 * 64 + y2 % 64)] rfl rfl ?c1 ?c2 ?c3 ?c4 ?c5 ?_)
        case c1 => exact cell_one_new _ _ _
        case c2 => intro u hu; simp at hu; subst hu; rfl
        case c3 => unfold maxLen; omega
        case c4 => omega
        case c5 => simp; omega
        · intro v' w3 hown3 hgrow3 _
          have HR : Hid (RpRel len f w v' (.int .i64 ((p : Int) + 3)) w3) := HN v' w3 _ _ hown3 hgrow3
          clear HN hown3 hgrow3 hown hst
          go_wp2
          go_roundw
          case rel => exact HR.out
          case measure => simp [intOf]; omega
      · have e : ptF (fun i => f (p + i)) 4 = f p % 8 * 262144 + f (p + 1) % 64 * 4096 + f (p + 2) % 64 * 64 + f (p + 3) % 64 := rfl
        rw [e] at HN
        simp only [Nat.add_zero] at x
        have d1 := hL2.cell (p + 1) (by omega)
        have l1 := hL2.lo (p + 1)
        have u1 := hL2.hi (p + 1)
        have i1 : (p : Int) + 1 < (len : Int) := by omega
        have d2 := hL2.cell (p + 2) (by omega)
        have l2 := hL2.lo (p + 2)
        have u2 := hL2.hi (p + 2)
        have i2 : (p : Int) + 2 < (len : Int) := by omega
        have d3 := hL2.cell (p + 3) (by omega)
        have l3 := hL2.lo (p + 3)
        have u3 := hL2.hi (p + 3)
        have i3 : (p : Int) + 3 < (len : Int) := by omega
        clear x e hs' hL2
        generalize f p = y0 at *
        generalize f (p + 1) = y1 at *
        generalize f (p + 2) = y2 at *
        generalize f (p + 3) = y3 at *
        have g0 := i64_and7 y0 l0 (by omega)
        have g1 := i64_and63 y1 l1 (by omega)
        have g2 := i64_and63 y2 l2 (by omega)
        have g3 := i64_and63 y3 l3 (by omega)
        have g4 := i64_or_add (y0 % 8 * 262144) (y1 % 64 * 4096) 18 (by omega) (by omega) (by omega) (by omega) (by omega)
        have g5 := i64_or_add (y0 % 8 * 262144 + y1 % 64 * 4096) (y2 % 64 * 64) 12 (by omega) (by omega) (by omega) (by omega) (by omega)
        have g6 := i64_or_add (y0 % 8 * 262144 + y1 % 64 * 4096 + y2 % 64 * 64) (y3 % 64) 6 (by omega) (by omega) (by omega) (by omega) (by omega)
        go_wp2_with (go_at_call 28; refine hst.mono ?_; rintro e w' ⟨rfl, rfl⟩)
        go_quiet (fail)
        go_wp2_with (at_builtin; refine wpList_append_own _ rfl _ _ 41 rfl w.heap.size 3 i0 (.int .i64 0) 1 8 Tryz.underlying41 hi hz0 hz1 hz2 rfl (by decide) _ _ _ rfl (World.ownsRow.alloc (own_draw hown _) _) ⟨wr.heap.size, 0, none⟩ 1 1 [.int .i64 (y0 % 8 * 262144 + y1 % 64 * 4096 + y2 % 64 * 64 + y3 % 64)] rfl rfl ?c1 ?c2 ?c3 ?c4 ?c5 ?_)
        case c1 => exact cell_one_new _ _ _
        case c2 => intro u hu; simp at hu; subst hu; rfl
        case c3 => unfold maxLen; omega
        case c4 => omega
        case c5 => simp; omega
        · intro v' w3 hown3 hgrow3 _
          have HR : Hid (RpRel len f w v' (.int .i64 ((p : Int) + 4)) w3) := HN v' w3 _ _ hown3 hgrow3
          clear HN hown3 hgrow3 hown hst
          go_wp2
          go_roundw
          case rel => exact HR.out
          case measure => simp [intOf]; omega
    · have e : p = len := by omega
      subst e
      have hxx : xs = points p f := by
        rw [← hx]
        cases k with
        | zero => simp [pointsF]
        | succ k => simp [pointsF]
      subst hxx
      clear hgk hx
      go_wp2
      go_ret2
      exact ⟨_, rfl, hown, hb⟩
end Go.Proofs.YthbbkcdlcpbepaaGreatDoor
