/-
  What ref.Good and ref.Points answer: the same good beginning, and the same code points. Conditions: the text is at most 2^44 bytes long.
  What ref.Points answers: the same code points. Conditions: the text is at most 2^44 bytes long.
  PikeSteps answers true. Conditions: the table of greatest code points holds its four numbers; at most 2^20 states, ranges of a state and bytes.
-/
import Derived.Test.YtoinlmfodmgohaaGreatDoorJoined42m
import Derived.Test.YtoinlmfodmgohaaGreatDoorJoined4
import Derived.Deep.Light
import Derived.Test.YtoinlmfodmgohaaGreatDoorJoined40m
namespace Go.Proofs.YtoinlmfodmgohaaGreatDoor
open Go.RowKit

set_option maxHeartbeats 400000 in
theorem rgood_some (b off len cap : Nat) (f : Nat → Int) (w : World) (hL : Lies w b off len f) (hc : len ≤ cap) (hm : cap ≤ maxLen) :
    Calls Tryz.prog 29 #[.slice (some ⟨b, off, none⟩) len cap] w fun e w' => e = .returned (.tuple #[.int .i64 ((good len f).1 : Nat), .bool (good len f).2]) ∧ w = w' := by
  unfold maxLen at hm
  go_enter Tryz.func29, Tryz.ntmps29
  go_wp2
  go_loop [4] (fun t => ∃ p k : Nat, p ≤ len ∧ t = .int .i64 p ∧ len ≤ p + k ∧ Hid (goodF len f k p = good len f)) (fun t => len - (intOf t).toNat)
  case atStart => exact ⟨0, len, by omega, rfl, by omega, (rfl : goodF len f len 0 = good len f)⟩
  case round =>
    obtain ⟨p, k, hp, rfl, hk, HG⟩ := hrel
    by_cases hlt : p < len
    · obtain ⟨k', rfl⟩ : ∃ k', k = k' + 1 := ⟨k - 1, by omega⟩
      have hb := rstep_any b off len cap p f w hL hlt (by unfold maxLen; omega)
      have s1 := stepF_le (len - p) (fun i => f (p + i)) (by omega)
      have hG := HG.out
      clear HG
      unfold goodF at hG
      rw [if_neg (by omega)] at hG
      have s2 := stepF_pos (len - p) (fun i => f (p + i))
      generalize stepF (len - p) (fun i => f (p + i)) = s at *
      obtain ⟨a, t⟩ := s
      cases t
      · have hF : (p + a, false) = good len f := by simpa using hG
        have HF : Hid ((p + a, false) = good len f) := hF
        clear hF hG s2
        go_wp2_with (go_at_call 30; refine hb.mono ?_; rintro e w' ⟨rfl, rfl⟩)
        go_ret2
        exact ⟨ret_ib (by rw [← HF.out]; rfl) (by rw [← HF.out]), rfl⟩
      · have hF : goodF len f k' (p + a) = good len f := by simpa using hG
        have HF : Hid (goodF len f k' (p + a) = good len f) := hF
        have s3 : 1 ≤ a := s2 rfl
        have s4 : a ≤ len - p := s1
        clear hF hG s2 s1
        go_wp2_with (go_at_call 30; refine hb.mono ?_; rintro e w' ⟨rfl, rfl⟩)
        go_round
        case rel => exact ⟨p + a, k', by omega, by go_num, by omega, HF⟩
        case measure => simp [intOf]; omega
    · have e : p = len := by omega
      subst e
      have HF : Hid ((p, true) = good p f) := by
        have := HG.out
        cases k
        · exact this
        · unfold goodF at this; rw [if_pos (by omega)] at this; exact this
      clear HG
      go_wp2
      go_ret2
      exact ⟨ret_ib (by rw [← HF.out]) (by rw [← HF.out]), rfl⟩

set_option maxHeartbeats 400000 in
theorem rgood_any (v : Value) (len : Nat) (f : Nat → Int) (w : World) (hR : Row w v len f) :
    Calls Tryz.prog 29 #[v] w fun e w' => e = .returned (.tuple #[.int .i64 ((good len f).1 : Nat), .bool (good len f).2]) ∧ w = w' := by
  rcases hR with ⟨rfl, a, cap, rfl, _⟩ | ⟨b, off, cap, rfl, hc, hm, hL⟩
  · go_enter Tryz.func29, Tryz.ntmps29
    go_wp2
    refine wp_loop_rounds 1 ?_
    rw [rounds_succ]
    go_wp2
    go_ret2
    exact ⟨rfl, rfl⟩
  · exact rgood_some b off len cap f w hL hc hm

theorem i64_or_add (X Y : Int) (i : Nat) (h0 : 0 ≤ X) (h1 : 0 ≤ Y) (hx : X.toNat % 2 ^ i = 0) (hy : Y.toNat < 2 ^ i) (hs : X + Y < 4611686018427387904) : bits .or .i64 X Y = X + Y := by
  obtain ⟨a, rfl⟩ := Int.eq_ofNat_of_zero_le h0
  obtain ⟨b, rfl⟩ := Int.eq_ofNat_of_zero_le h1
  have := i64_or_nat a b i (by simpa using hx) (by simpa using hy) (by omega)
  simpa using this
theorem i64_and31 (x : Int) (h0 : 0 ≤ x) (h : x < 4611686018427387904) : bits .and .i64 x 31 = x % 32 := by
  obtain ⟨a, rfl⟩ := Int.eq_ofNat_of_zero_le h0
  show IntKind.i64.wrap ((BitVec.ofInt 64 (a : Int) &&& BitVec.ofInt 64 ((31 : Nat) : Int)).toNat : Int) = _
  rw [BitVec.toNat_and, ofInt_u64 a (by omega), ofInt_u64 31 (by omega), nat_mask5]
  rw [Lib.wrap_i64_small _ (by omega)]
  omega
theorem i64_and15 (x : Int) (h0 : 0 ≤ x) (h : x < 4611686018427387904) : bits .and .i64 x 15 = x % 16 := by
  obtain ⟨a, rfl⟩ := Int.eq_ofNat_of_zero_le h0
  show IntKind.i64.wrap ((BitVec.ofInt 64 (a : Int) &&& BitVec.ofInt 64 ((15 : Nat) : Int)).toNat : Int) = _
  rw [BitVec.toNat_and, ofInt_u64 a (by omega), ofInt_u64 15 (by omega), nat_mask4]
  rw [Lib.wrap_i64_small _ (by omega)]
  omega
theorem i64_and7 (x : Int) (h0 : 0 ≤ x) (h : x < 4611686018427387904) : bits .and .i64 x 7 = x % 8 := by
  obtain ⟨a, rfl⟩ := Int.eq_ofNat_of_zero_le h0
  show IntKind.i64.wrap ((BitVec.ofInt 64 (a : Int) &&& BitVec.ofInt 64 ((7 : Nat) : Int)).toNat : Int) = _
  rw [BitVec.toNat_and, ofInt_u64 a (by omega), ofInt_u64 7 (by omega), nat_mask3]
  rw [Lib.wrap_i64_small _ (by omega)]
  omega
end Go.Proofs.YtoinlmfodmgohaaGreatDoor

namespace Go.Proofs.YtoinlmfodmgohaaGreatDoor
open Go.RowKit

/-- One step of what is good, and of its code points. -/
theorem good_step (len : Nat) (f : Nat → Int) (k p : Nat) (hlt : p < len) (h : (goodF len f (k + 1) p).2 = true) :
    ∃ n, stepF (len - p) (fun i => f (p + i)) = (n, true) ∧ 1 ≤ n ∧ p + n ≤ len ∧ (goodF len f k (p + n)).2 = true ∧ pointsF len f (k + 1) p = ptF (fun i => f (p + i)) n :: pointsF len f k (p + n) := by
  unfold goodF at h
  rw [if_neg (by omega)] at h
  by_cases z : (stepF (len - p) fun i => f (p + i)).2 = true
  · rw [if_pos z] at h
    refine ⟨(stepF (len - p) fun i => f (p + i)).1, Prod.ext rfl z, stepF_pos _ _ z, ?_, h, ?_⟩
    · have := stepF_le (len - p) (fun i => f (p + i)) (by omega)
      omega
    · conv => lhs; unfold pointsF
      rw [if_neg (by omega)]
  · rw [if_neg z] at h; cases h

/-- What stands at the head of each round. -/
def RpRel (len : Nat) (f : Nat → Int) (w : World) (t i : Value) (wr : World) : Prop :=
  ∃ (p k : Nat) (xs : List Int), p ≤ len ∧ len ≤ p + k ∧ i = .int .i64 p ∧ (goodF len f k p).2 = true ∧ xs ++ pointsF len f k p = points len f ∧ wr.ownsRow w.heap.size 3 1 t xs.length (xs.map (Value.int .i64)) ∧
    Below w.heap.size w wr ∧ xs.length ≤ p

theorem RpRel_next (len : Nat) (f : Nat → Int) (w : World) (v v' : Value) (wr w3 : World) (o : Obj) (p k n : Nat) (xs : List Int) (pt : Int)
    (hk : len ≤ p + (k + 1)) (hn : p + n ≤ len) (hn1 : 1 ≤ n) (hg : (goodF len f k (p + n)).2 = true) (hpt : pointsF len f (k + 1) p = pt :: pointsF len f k (p + n)) (hx : xs ++ pointsF len f (k + 1) p = points len f)
    (hown : wr.ownsRow w.heap.size 3 1 v xs.length (xs.map (Value.int .i64))) (hb : Below w.heap.size w wr) (hl : xs.length ≤ p) (q : Nat)
    (hown3 : w3.ownsRow w.heap.size 3 1 v' (xs.length + 1) (xs.map (Value.int .i64) ++ [.int .i64 pt])) (hgrow : ((wr.drewN q).alloc o).grownBy w3 v.ownBlock) : RpRel len f w v' (.int .i64 ((p : Int) + (n : Int))) w3 := by
  refine ⟨p + n, k, xs ++ [pt], hn, by omega, by go_num, hg, ?_, ?_, ?_, by simp; omega⟩
  · rw [hpt] at hx; simpa using hx
  · simpa using hown3
  · exact ((below_drewN hb q).alloc hb.size o).grown hgrow (by have := hb.size; simp; omega) (fun j hj => (hown.lt j hj).1)
set_option maxHeartbeats 400000 in
theorem rpoints_none (v : Value) (len : Nat) (f : Nat → Int) (w : World) (hR : Row w v len f) (hg : (good len f).2 = false) :
    Calls Tryz.prog 11 #[v] w fun e w' => e = .returned (.tuple #[.slice none 0 0, .int .i64 10]) ∧ w = w' := by
  have hgood : Calls Tryz.prog 29 #[v] w fun e w' => e = .returned (.tuple #[.int .i64 ((good len f).1 : Nat), .bool false]) ∧ w = w' := by rw [← hg]; exact rgood_any v len f w hR
  go_enter Tryz.func11, Tryz.ntmps11
  go_wp2_with (go_at_call 29; refine hgood.mono ?_; rintro e w' ⟨rfl, rfl⟩)
  go_ret2
  exact ⟨rfl, rfl⟩

set_option maxHeartbeats 400000 in
theorem rpoints_empty (a : Option Addr) (cap : Nat) (f : Nat → Int) (w : World) (hR : Row w (.slice a 0 cap) 0 f) :
    Calls Tryz.prog 11 #[.slice a 0 cap] w fun e w' => e = .returned (.tuple #[.slice none 0 0, .int .i64 0]) ∧ w = w' := by
  have hgood := rgood_any _ 0 f w hR
  have e0 : good 0 f = (0, true) := rfl
  rw [e0] at hgood
  go_enter Tryz.func11, Tryz.ntmps11
  go_wp2_with (go_at_call 29; refine hgood.mono ?_; rintro e w' ⟨rfl, rfl⟩)
  refine wp_loop_rounds 1 ?_
  rw [rounds_succ]
  go_wp2
  go_ret2
  exact ⟨rfl, rfl⟩

theorem own_draw {w : World} {B : Nat} {e : TypeId} {size : Nat} {v : Value} {n : Nat} {xs : List Value} (h : w.ownsRow B e size v n xs) (q : Nat) : (w.drewN q).ownsRow B e size v n xs := h

set_option maxRecDepth 100000 in
set_option maxHeartbeats 2000000 in
theorem rpoints_some (b off len cap : Nat) (f : Nat → Int) (w : World) (hL : Lies w b off len f) (hc : len ≤ cap) (hm : cap ≤ maxLen) (hs : len ≤ 17592186044416) (hg : (good len f).2 = true) :
    Calls Tryz.prog 11 #[.slice (some ⟨b, off, none⟩) len cap] w fun e w' => ∃ r, e = .returned (.tuple #[r, .int .i64 0]) ∧ w'.ownsRow w.heap.size 3 1 r (points len f).length ((points len f).map (Value.int .i64)) ∧ Below w.heap.size w w' := by
  obtain ⟨i0, hi, hz0, hz1, hz2⟩ := info_parts info3
  have hgood : Calls Tryz.prog 29 #[.slice (some ⟨b, off, none⟩) len cap] w fun e w' => e = .returned (.tuple #[.int .i64 ((good len f).1 : Nat), .bool true]) ∧ w = w' := by rw [← hg]; exact rgood_some b off len cap f w hL hc hm
  have HG : Hid ((good len f).2 = true) := hg
  clear hg
  unfold maxLen at hm
  go_enter Tryz.func11, Tryz.ntmps11
  go_wp2_with (go_at_call 29; refine hgood.mono ?_; rintro e w' ⟨rfl, rfl⟩)
  clear hgood
  go_loopw [6, 7] (fun t i wr => RpRel len f w t i wr) (fun _ i _ => len - (intOf i).toNat)
  case atStart => exact ⟨0, len, [], Nat.zero_le _, by omega, rfl, HG.out, rfl, World.ownsRow_nil _ _ _ _, Below.refl _ _, Nat.zero_le _⟩
  case round =>
    obtain ⟨p, k, xs, hp, hk, rfl, hgk, hx, hown, hb, hxl⟩ := hrel
    by_cases hlt : p < len
    · obtain ⟨k', rfl⟩ : ∃ k', k = k' + 1 := ⟨k - 1, by omega⟩
      obtain ⟨n, hs', hn1, hn, hg', hpt⟩ := good_step len f k' p hlt hgk
      have hL2 : Lies wr b off len f := ⟨fun i hi => by rw [hb.cell (World.block_lt_of_cell? w _ (hL.cell i hi))]; exact hL.cell i hi, hL.lo, hL.hi⟩
      have hst := rstep_any b off len cap p f wr hL2 hlt (by unfold maxLen; omega)
      rw [hs'] at hst
      have hz := hb.size
      have HN := fun v' w3 o q h1 h2 => RpRel_next len f w u6 v' wr w3 o p k' n xs (ptF (fun i => f (p + i)) n) hk hn hn1 hg' hpt hx hown hb hxl q h1 h2
      have hbytes := step_bytes _ _ _ hs'
      have c0 := hL2.cell p hlt
      have l0 := hL2.lo p
      have u0 := hL2.hi p
      have hltI : (p : Int) < (len : Int) := by omega
      clear hgk hx hg' hpt
      rcases hbytes with ⟨rfl, x⟩ | ⟨rfl, l, x⟩ | ⟨rfl, l, x⟩ | ⟨rfl, l, x⟩
      · have e : ptF (fun i => f (p + i)) 1 = f p := rfl
        rw [e] at HN
        clear x e hs' hL2
        generalize f p = c at *
        go_wp2_with (first | (go_at_call 30; refine hst.mono ?_; rintro e w' ⟨rfl, rfl⟩) | (at_builtin; refine wpList_append_own _ rfl _ _ 32 rfl w.heap.size 3 i0 (.int .i64 0) 1 8 Tryz.underlying32 hi hz0 hz1 hz2 rfl (by decide) _ _ _ rfl (hown.alloc _) ⟨wr.heap.size, 0, none⟩ 1 1 [.int .i64 c] rfl rfl ?c1 ?c2 ?c3 ?c4 ?c5 ?_))
        case c1 => exact cell_one_new _ _ _
        case c2 => intro u hu; simp at hu; subst hu; rfl
        case c3 => unfold maxLen; omega
        case c4 => omega
        case c5 => simp; omega
        · intro v' w3 hown3 hgrow3 _
          have HR : Hid (RpRel len f w v' (.int .i64 ((p : Int) + 1)) w3) := HN v' w3 _ 0 hown3 hgrow3
          clear HN hown3 hgrow3 hown hst
          go_wp2
          go_roundw
          case rel => exact HR.out
          case measure => simp [intOf]; omega
      · have e : ptF (fun i => f (p + i)) 2 = f p % 32 * 64 + f (p + 1) % 64 := rfl
        rw [e] at HN
        simp only [Nat.add_zero] at x
        have d1 := hL2.cell (p + 1) (by omega)
        have l1 := hL2.lo (p + 1)
        have u1 := hL2.hi (p + 1)
        have i1 : (p : Int) + 1 < (len : Int) := by omega
        clear x e hs' hL2
        generalize f p = y0 at *
        generalize f (p + 1) = y1 at *
        have g0 := i64_and31 y0 l0 (by omega)
        have g1 := i64_and63 y1 l1 (by omega)
        have g2 := i64_or_add (y0 % 32 * 64) (y1 % 64) 6 (by omega) (by omega) (by omega) (by omega) (by omega)
        go_wp2_with (go_at_call 30; refine hst.mono ?_; rintro e w' ⟨rfl, rfl⟩)
        go_quiet (fail)
        go_wp2_with (at_builtin; refine wpList_append_own _ rfl _ _ 32 rfl w.heap.size 3 i0 (.int .i64 0) 1 8 Tryz.underlying32 hi hz0 hz1 hz2 rfl (by decide) _ _ _ rfl (World.ownsRow.alloc (own_draw hown _) _) ⟨wr.heap.size, 0, none⟩ 1 1 [.int .i64 (y0 % 32 * 64 + y1 % 64)] rfl rfl ?c1 ?c2 ?c3 ?c4 ?c5 ?_)
        case c1 => exact cell_one_new _ _ _
        case c2 => intro u hu; simp at hu; subst hu; rfl
        case c3 => unfold maxLen; omega
        case c4 => omega
        case c5 => simp; omega
        · intro v' w3 hown3 hgrow3 _
          have HR : Hid (RpRel len f w v' (.int .i64 ((p : Int) + 2)) w3) := HN v' w3 _ _ hown3 hgrow3
          clear HN hown3 hgrow3 hown hst
          go_wp2
          go_roundw
          case rel => exact HR.out
          case measure => simp [intOf]; omega
      · have e : ptF (fun i => f (p + i)) 3 = f p % 16 * 4096 + f (p + 1) % 64 * 64 + f (p + 2) % 64 := rfl
        rw [e] at HN
        simp only [Nat.add_zero] at x
        have d1 := hL2.cell (p + 1) (by omega)
        have l1 := hL2.lo (p + 1)
        have u1 := hL2.hi (p + 1)
        have i1 : (p : Int) + 1 < (len : Int) := by omega
        have d2 := hL2.cell (p + 2) (by omega)
        have l2 := hL2.lo (p + 2)
        have u2 := hL2.hi (p + 2)
        have i2 : (p : Int) + 2 < (len : Int) := by omega
        clear x e hs' hL2
        generalize f p = y0 at *
        generalize f (p + 1) = y1 at *
        generalize f (p + 2) = y2 at *
        have g0 := i64_and15 y0 l0 (by omega)
        have g1 := i64_and63 y1 l1 (by omega)
        have g2 := i64_and63 y2 l2 (by omega)
        have g3 := i64_or_add (y0 % 16 * 4096) (y1 % 64 * 64) 12 (by omega) (by omega) (by omega) (by omega) (by omega)
        have g4 := i64_or_add (y0 % 16 * 4096 + y1 % 64 * 64) (y2 % 64) 6 (by omega) (by omega) (by omega) (by omega) (by omega)
        go_wp2_with (go_at_call 30; refine hst.mono ?_; rintro e w' ⟨rfl, rfl⟩)
        go_quiet (fail)
        go_wp2_with (at_builtin; refine wpList_append_own _ rfl _ _ 32 rfl w.heap.size 3 i0 (.int .i64 0) 1 8 Tryz.underlying32 hi hz0 hz1 hz2 rfl (by decide) _ _ _ rfl (World.ownsRow.alloc (own_draw hown _) _) ⟨wr.heap.size, 0, none⟩ 1 1 [.int .i64 (y0 % 16 * 4096 + y1 % 64 * 64 + y2 % 64)] rfl rfl ?c1 ?c2 ?c3 ?c4 ?c5 ?_)
        case c1 => exact cell_one_new _ _ _
        case c2 => intro u hu; simp at hu; subst hu; rfl
        case c3 => unfold maxLen; omega
        case c4 => omega
        case c5 => simp; omega
        · intro v' w3 hown3 hgrow3 _
          have HR : Hid (RpRel len f w v' (.int .i64 ((p : Int) + 3)) w3) := HN v' w3 _ _ hown3 hgrow3
          clear HN hown3 hgrow3 hown hst
          go_wp2
          go_roundw
          case rel => exact HR.out
          case measure => simp [intOf]; omega
      · have e : ptF (fun i => f (p + i)) 4 = f p % 8 * 262144 + f (p + 1) % 64 * 4096 + f (p + 2) % 64 * 64 + f (p + 3) % 64 := rfl
        rw [e] at HN
        simp only [Nat.add_zero] at x
        have d1 := hL2.cell (p + 1) (by omega)
        have l1 := hL2.lo (p + 1)
        have u1 := hL2.hi (p + 1)
        have i1 : (p : Int) + 1 < (len : Int) := by omega
        have d2 := hL2.cell (p + 2) (by omega)
        have l2 := hL2.lo (p + 2)
        have u2 := hL2.hi (p + 2)
        have i2 : (p : Int) + 2 < (len : Int) := by omega
        have d3 := hL2.cell (p + 3) (by omega)
        have l3 := hL2.lo (p + 3)
        have u3 := hL2.hi (p + 3)
        have i3 : (p : Int) + 3 < (len : Int) := by omega
        clear x e hs' hL2
        generalize f p = y0 at *
        generalize f (p + 1) = y1 at *
        generalize f (p + 2) = y2 at *
        generalize f (p + 3) = y3 at *
        have g0 := i64_and7 y0 l0 (by omega)
        have g1 := i64_and63 y1 l1 (by omega)
        have g2 := i64_and63 y2 l2 (by omega)
        have g3 := i64_and63 y3 l3 (by omega)
        have g4 := i64_or_add (y0 % 8 * 262144) (y1 % 64 * 4096) 18 (by omega) (by omega) (by omega) (by omega) (by omega)
        have g5 := i64_or_add (y0 % 8 * 262144 + y1 % 64 * 4096) (y2 % 64 * 64) 12 (by omega) (by omega) (by omega) (by omega) (by omega)
        have g6 := i64_or_add (y0 % 8 * 262144 + y1 % 64 * 4096 + y2 % 64 * 64) (y3 % 64) 6 (by omega) (by omega) (by omega) (by omega) (by omega)
        go_wp2_with (go_at_call 30; refine hst.mono ?_; rintro e w' ⟨rfl, rfl⟩)
        go_quiet (fail)
        go_wp2_with (at_builtin; refine wpList_append_own _ rfl _ _ 32 rfl w.heap.size 3 i0 (.int .i64 0) 1 8 Tryz.underlying32 hi hz0 hz1 hz2 rfl (by decide) _ _ _ rfl (World.ownsRow.alloc (own_draw hown _) _) ⟨wr.heap.size, 0, none⟩ 1 1 [.int .i64 (y0 % 8 * 262144 + y1 % 64 * 4096 + y2 % 64 * 64 + y3 % 64)] rfl rfl ?c1 ?c2 ?c3 ?c4 ?c5 ?_)
        case c1 => exact cell_one_new _ _ _
        case c2 => intro u hu; simp at hu; subst hu; rfl
        case c3 => unfold maxLen; omega
        case c4 => omega
        case c5 => simp; omega
        · intro v' w3 hown3 hgrow3 _
          have HR : Hid (RpRel len f w v' (.int .i64 ((p : Int) + 4)) w3) := HN v' w3 _ _ hown3 hgrow3
          clear HN hown3 hgrow3 hown hst
          go_wp2
          go_roundw
          case rel => exact HR.out
          case measure => simp [intOf]; omega
    · have e : p = len := by omega
      subst e
      have hxx : xs = points p f := by
        rw [← hx]
        cases k with
        | zero => simp [pointsF]
        | succ k => simp [pointsF]
      subst hxx
      clear hgk hx
      go_wp2
      go_ret2
      exact ⟨_, rfl, hown, hb⟩
end Go.Proofs.YtoinlmfodmgohaaGreatDoor

namespace Go.Proofs.YtoinlmfodmgohaaGreatDoor
open Go.RowKit Go.Maps
attribute [local go_sem] setCell_drewN alloc_drewN

theorem lies_str (w : World) (s : ByteArray) : Lies (Lib.bytesWorld w 5 s) w.heap.size 0 s.size (bx s.data.toList) := by
  refine ⟨fun i hi => ?_, bx_lo _, bx_hi _⟩
  have h := byt_str w s
  have e : s.data.toList.length = s.size := Array.length_toList
  by_cases hm : s.size ≤ maxLen
  · have h := h hm
    unfold Byt at h
    rcases h with ⟨h0, _⟩ | ⟨b, off, cap, e1, _, _, hL⟩
    · omega
    · injection e1 with e1 _ _
      injection e1 with e1
      injection e1 with e1 e2 _
      subst e1 e2
      exact hL.cell i (by omega)
  · rw [Nat.zero_add, Lib.bytesWorld_cell w _ s i hi]
    unfold bx
    rfl
theorem rpts_ok (s : ByteArray) (hs : s.size ≤ 1099511627776) (w : World) (hg : goodS s = true) :
    Calls Tryz.prog 11 #[.slice (some ⟨w.heap.size, 0, none⟩) s.size (grownCap w s.size 0 5)] (Lib.bytesWorld w 5 s) fun e w' => ∃ r, e = .returned (.tuple #[r, .int .i64 0]) ∧ OwnI w' w.heap.size r (ptsS s) ∧ Below w.heap.size w w' := by
  have e : s.data.toList.length = s.size := Array.length_toList
  have hg' : (good s.size (bx s.data.toList)).2 = true := by unfold goodS at hg; rw [e] at hg; exact hg
  have hbd := ptsS_bd s hg
  refine (rpoints_some w.heap.size 0 s.size _ (bx s.data.toList) (Lib.bytesWorld w 5 s) (lies_str w s) (grownCap_ge _ _ _ _) (grownCap_le_maxLen w s.size 0 _ (by unfold maxLen; omega)) (by omega) hg').mono ?_
  rintro en w' ⟨r, rfl, ho, hb⟩
  have ep : ptsS s = points s.size (bx s.data.toList) := by unfold ptsS; rw [e]
  refine ⟨r, rfl, ⟨?_, fun x hx => by have := hbd x hx; exact ⟨by omega, by omega⟩⟩, vb_t (bl_bytes w s) hb⟩
  rw [ep]
  exact own_mono ho (bl_bytes w s).size
theorem rpts_no (s : ByteArray) (hs : s.size ≤ 1099511627776) (w : World) (hg : goodS s = false) :
    Calls Tryz.prog 11 #[.slice (some ⟨w.heap.size, 0, none⟩) s.size (grownCap w s.size 0 5)] (Lib.bytesWorld w 5 s) fun e w' => e = .returned (.tuple #[.slice none 0 0, .int .i64 10]) ∧ Below w.heap.size w w' := by
  refine (rpoints_none _ _ _ (Lib.bytesWorld w 5 s) (byt_str w s (by unfold maxLen; omega)) hg).mono ?_
  rintro en w' ⟨rfl, rfl⟩
  exact ⟨rfl, bl_bytes w s⟩
theorem read_zero {L : List ST} {s : ByteArray} (h : readE L s = 0) : nfaB L = true ∧ goodS s = true := by
  unfold readE at h
  by_cases h1 : nfaB L = true
  · rw [if_pos h1] at h
    by_cases h2 : goodS s = true
    · exact ⟨h1, h2⟩
    · rw [if_neg h2] at h; omega
  · rw [if_neg h1] at h; omega
theorem sr_bound {L : List ST} (hL : VS L) {t : List Int} {b : Bool} {n : Nat} (h : SrR L t b n) : 1 ≤ n ∧ n ≤ (t.length + 1) * L.length := by
  obtain ⟨Q, hQ, hs, _⟩ := h
  exact ⟨hs.pos, Nat.le_trans (hs.le hL) (Nat.mul_le_mul_right _ (by omega))⟩
set_option maxRecDepth 100000 in
set_option maxHeartbeats 3200000 in
theorem psteps_walk (L : List ST) (hlL : L.length ≤ 1048576) (hr : ∀ s ∈ L, s.r.length ≤ 1048576) (s : ByteArray) (hs : s.size ≤ 1048576) (lv : Value) (w : World) (hT : Tab w) (hg0 : 0 < w.heap.size) (X0 : Nat → Prop) (hS : SI w X0 L lv) :
    Calls Tryz.prog 6 #[lv, .string s] w fun e w' => e = .returned (.bool true) ∧ Below w.heap.size w w' := by
  obtain ⟨P, hP⟩ : ∃ P : Ending → World → Prop, P = fun e w' => e = .returned (.bool true) ∧ Below w.heap.size w w' := ⟨_, rfl⟩
  rw [← hP]
  have HP := hid_intro hP
  have HHD := hid_intro (fun w' (hb : Below w.heap.size w w') => pheads_any w' (hT.below hb) (Nat.lt_of_lt_of_le hg0 hb.size))
  have hcv : ∀ w', (convert 9 35 (.string s)).run Tryz.prog w' = _ := fun w' => conv_str w' s
  obtain ⟨a1, c1, rfl⟩ : ∃ a1 c1, lv = .slice a1 L.length c1 := by obtain ⟨a1, c1, rfl, _⟩ := hS; exact ⟨a1, c1, rfl⟩
  have hlen := ptsS_len s
  by_cases he : readE L s = 0
  · obtain ⟨hn, hg⟩ := read_zero he
    have h1 := search_ok L hlL hr s hs _ w hT X0 hS hn hg
    have HP2 := hid_intro (fun w' => rpts_ok s (by omega) w' hg)
    have HL := hid_intro (And.intro (vs_of hn) hlL)
    generalize ptsS s = t at h1 HP2 hlen
    have htl : t.length ≤ 1048576 := by omega
    clear hP hT hg0 hS hr he hn hg hlen
    go_enter Tryz.func6, Tryz.ntmps6
    go_wp2_with fail
    refine h1.mono ?_; rintro e w1 ⟨b, n, rfl, hsr, hb1⟩
    have hbd := sr_bound HL.out.1 hsr
    have hm1 : (t.length + 1) * L.length ≤ 1048577 * 1048576 := Nat.mul_le_mul (by omega) hlL
    have j0 : (1 : Int) ≤ (n : Int) := by omega
    have j1 : (n : Int) ≤ ((t.length : Int) + 1) * (L.length : Int) := by
      have : ((n : Nat) : Int) ≤ (((t.length + 1) * L.length : Nat) : Int) := by omega
      rw [Int.natCast_mul, Int.natCast_add] at this
      exact this
    have j2 : ((t.length : Int) + 1) * (L.length : Int) ≤ 1099512676352 := by
      have : (((t.length + 1) * L.length   : Nat) : Int) ≤ 1099512676352 := by omega
      rw [Int.natCast_mul, Int.natCast_add] at this
      exact this
    have j3 : -9223372036854775808 ≤ ((t.length : Int) + 1) * (L.length : Int) := by omega
    have j4 : ((t.length : Int) + 1) * (L.length : Int) ≤ 9223372036854775807 := by omega
    have hwr : IntKind.i64.wrap (((t.length : Int) + 1) * (L.length : Int)) = ((t.length : Int) + 1) * (L.length : Int) := by
      have h := Lib.wrap_i64_small ((t.length + 1) * L.length) (by omega)
      rw [Int.natCast_mul, Int.natCast_add] at h
      exact h
    have htI : (t.length : Int) + 1 ≤ 9223372036854775807 := by omega
    have h2 := HP2.out w1
    have HB1 := hid_intro hb1
    clear h1 hsr hb1 hbd hm1 htl hlL hs
    go_wp2_with fail
    refine h2.mono ?_; rintro e w2 ⟨r, rfl, ho, hb2⟩
    obtain ⟨ro, rc, rfl, _⟩ := ho.form
    have hb02 := vb_t HB1.out hb2
    have h3 := HHD.out w2 hb02
    have HB2 := hid_intro hb02
    clear h2 ho hb2 hb02
    go_wp2_with fail
    refine h3.mono ?_; rintro e w3 ⟨rfl, hb3⟩
    go_wp2_with fail
    rw [HP.out]
    exact ⟨by simp [*], vb_t HB2.out hb3⟩
  · have h1 := search_no L (fun s hs => by have := hr s hs; omega) s (by omega) _ w hT X0 hS he
    obtain ⟨q, hq⟩ : ∃ q, readE L s = q := ⟨_, rfl⟩
    rw [hq] at h1 he
    cases hg : goodS s
    · have HP2 := hid_intro (fun w' => rpts_no s (by omega) w' hg)
      clear hP hT hg0 hS hr hg hlen hq hs hlL
      go_enter Tryz.func6, Tryz.ntmps6
      go_wp2_with fail
      refine h1.mono ?_; rintro e w1 ⟨rfl, hb1⟩
      have h2 := HP2.out w1
      have HB1 := hid_intro hb1
      clear h1 hb1
      go_wp2_with fail
      refine h2.mono ?_; rintro e w2 ⟨rfl, hb2⟩
      have hb02 := vb_t HB1.out hb2
      have h3 := HHD.out w2 hb02
      have HB2 := hid_intro hb02
      clear h2 hb2 hb02
      go_wp2_with fail
      refine h3.mono ?_; rintro e w3 ⟨rfl, hb3⟩
      go_wp2_with fail
      rw [HP.out]
      exact ⟨rfl, vb_t HB2.out hb3⟩
    · have HP2 := hid_intro (fun w' => rpts_ok s (by omega) w' hg)
      clear hP hT hg0 hS hr hg hlen hq hs hlL
      go_enter Tryz.func6, Tryz.ntmps6
      go_wp2_with fail
      refine h1.mono ?_; rintro e w1 ⟨rfl, hb1⟩
      have h2 := HP2.out w1
      have HB1 := hid_intro hb1
      clear h1 hb1
      go_wp2_with fail
      refine h2.mono ?_; rintro e w2 ⟨r, rfl, ho, hb2⟩
      obtain ⟨ro, rc, rfl, _⟩ := ho.form
      have hb02 := vb_t HB1.out hb2
      have h3 := HHD.out w2 hb02
      have HB2 := hid_intro hb02
      clear h2 ho hb2 hb02
      go_wp2_with fail
      refine h3.mono ?_; rintro e w3 ⟨rfl, hb3⟩
      go_wp2_with fail
      rw [HP.out]
      exact ⟨rfl, vb_t HB2.out hb3⟩
end Go.Proofs.YtoinlmfodmgohaaGreatDoor
