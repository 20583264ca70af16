/-
  What utf.begun answers of bytes that lie in memory. Conditions: the slice is not empty; the table of greatest code points holds its four numbers.
  What utf.Good answers of bytes that lie in memory: how many bytes begin a valid text, and whether they are one. Conditions: the table of greatest code points holds its four numbers.
  Bytes as a list, and what lex's small functions are held against: plain mathematics. No condition.
  What is appended to a slice of bytes of the call's own, and what utf.joined and ref.Copy answer. Conditions: the bytes together are at most 2^47.
-/
import Derived.Test.YtjdboekanmfgpaaGreatDoorJoined6
import Derived.Deep.Light
import Derived.Laws.AppendOwnNone
namespace Go.Proofs.YtjdboekanmfgpaaGreatDoor.Lx
open Go.RowKit

/-- Bytes that lie one behind the other in memory. -/
structure Lies (w : World) (b off len : Nat) (f : Nat → Int) : Prop where
 cell : ∀ i, i < len → w.cell? ⟨b, off + i, none⟩ = some (.int .u8 (f i))
 lo : ∀ i, 0 ≤ f i
 hi : ∀ i, f i < 256

theorem Tab.drewN {w : World} (h : Tab w) (n : Nat) : Tab (w.drewN n) :=
 ⟨by rw [World.cell?_drewN]; exact h.t0, by rw [World.cell?_drewN]; exact h.t1, by rw [World.cell?_drewN]; exact h.t2, by rw [World.cell?_drewN]; exact h.t3⟩

theorem ret_ib {k : IntKind} {a b : Int} {c d : Bool} (h : a = b) (g : c = d) : Ending.returned (.tuple #[.int k a, .bool c]) = .returned (.tuple #[.int k b, .bool d]) := by rw [h, g]

set_option maxHeartbeats 400000 in
theorem begun_none (b off len cap : Nat) (f : Nat → Int) (w : World) (hT : Tab w) (hL : Lies w b off len f) (hl : 0 < len) (hm : len ≤ maxLen) (hz : stN (f 0) = 0) :
  Calls Tryz.prog 137 #[.slice (some ⟨b, off, none⟩) len cap] w fun e w' => e = .returned (.tuple #[.int .i64 0, .bool false]) ∧ ∃ n, w' = w.drewN n := by
 unfold maxLen at hm
 have c0 : w.cell? ⟨b, off, none⟩ = some (.int .u8 (f 0)) := by simpa using hL.cell 0 hl
 have b0 := hL.lo 0
 have b1 := hL.hi 0
 have hlI : (0 : Int) < (len : Int) := by omega
 have hr := (first_bad (f 0) b0 b1).2 hz
 have hc := ld_cases (f 0) b0 b1
 clear hL hz
 have e1 : 0 ≤ ldN (f 0) ∧ ldN (f 0) ≤ 4 ∧ 0 ≤ ldB (f 0) ∧ ldB (f 0) < 256 := by omega
 clear hc
 have hlead' : ∀ w, Calls Tryz.prog 161 #[.int .u8 (f 0)] w fun e w' => e = .returned (.tuple #[.int .i64 (ldN (f 0)), .int .i64 (ldB (f 0))]) ∧ w = w' :=
  fun w => (lead_any _ w b0 b1).mono fun e w' h => ⟨h.1, h.2.symm⟩
 generalize ldN (f 0) = n at *
 by_cases h0 : n = 0
 ·subst h0
  have hlead := hlead'
  clear hlead'
  clear hr
  go_enter Tryz.func137, Tryz.ntmps137
  go_wp2_with (go_at_call 161; refine (hlead _).mono ?_; rintro e w' ⟨rfl, rfl⟩)
  go_ret2
  exact ⟨rfl, 0, rfl⟩
 ·have hlead := hlead'
  clear hlead'
  have hr' : reachB (ldB (f 0)) n (n - 1) = false := by
   rcases hr with h | h
   ·exact absurd h h0
   ·exact h
  have hreach : Calls Tryz.prog 162 #[.int .i64 (ldB (f 0)), .int .i64 n, .int .i64 (n - 1)] w fun e w' => e = .returned (.bool false) ∧ ∃ n, w' = w.drewN n := by
   rw [← hr']; exact reaches_any _ _ _ w hT (by omega) (by omega) (by omega) (by omega) (by omega)
  clear hr hr'
  go_enter Tryz.func137, Tryz.ntmps137
  go_wp2_with (first | (go_at_call 161; refine (hlead _).mono ?_; rintro e w' ⟨rfl, rfl⟩) | (go_at_call 162; refine hreach.mono ?_; rintro e w' ⟨rfl, q, rfl⟩))
  go_ret2
  exact ⟨rfl, _, rfl⟩

set_option maxHeartbeats 1000000 in
theorem begun_some (b off len cap : Nat) (f : Nat → Int) (w : World) (hT : Tab w) (hL : Lies w b off len f) (hl : 0 < len) (hm : len ≤ maxLen) (hz : stN (f 0) ≠ 0) :
  Calls Tryz.prog 137 #[.slice (some ⟨b, off, none⟩) len cap] w fun e w' => e = .returned (.tuple #[.int .i64 ((stepF len f).1 : Nat), .bool (stepF len f).2]) ∧ ∃ n, w' = w.drewN n := by
 unfold maxLen at hm
 have c0 : w.cell? ⟨b, off, none⟩ = some (.int .u8 (f 0)) := by simpa using hL.cell 0 hl
 have b0 := hL.lo 0
 have b1 := hL.hi 0
 have hlI : (0 : Int) < (len : Int) := by omega
 obtain ⟨en, n1, n4, l0, l1, _, _, _⟩ := first_good (f 0) b0 b1 hz
 obtain ⟨n, hn⟩ : ∃ n : Nat, (n : Int) = stN (f 0) := ⟨(stN (f 0)).toNat, by omega⟩
 have hlead : ∀ w, Calls Tryz.prog 161 #[.int .u8 (f 0)] w fun e w' => e = .returned (.tuple #[.int .i64 (n : Int), .int .i64 (acc f 1)]) ∧ w = w' := by
  intro w; rw [hn, ← en]; exact (lead_any _ w b0 b1).mono fun e w' h => ⟨h.1, h.2.symm⟩
 have hreach : Calls Tryz.prog 162 #[.int .i64 (acc f 1), .int .i64 (n : Int), .int .i64 ((n : Int) - 1)] w fun e w' => e = .returned (.bool true) ∧ ∃ n, w' = w.drewN n := by
  have hr' : reachB (ldB (f 0)) (ldN (f 0)) (ldN (f 0) - 1) = true := by
   cases z : reachB (ldB (f 0)) (ldN (f 0)) (ldN (f 0) - 1)
   ·exact absurd ((first_bad (f 0) b0 b1).1 (.inr z)) hz
   ·rfl
  rw [← hr', hn, ← en]; exact reaches_any _ _ _ w hT (by show 0 ≤ ldB (f 0); omega) (by show ldB (f 0) < _; omega) (by omega) (by omega) (by omega)
 have HN : Hid ((n : Int) = stN (f 0)) := hn
 have HZ : Hid (stN (f 0) ≠ 0) := hz
 have g1 : 1 ≤ n := by omega
 have g4 : n ≤ 4 := by omega
 have gne : ((n : Int) == 0) = false := by simp; omega
 clear hn hz en n1 n4 l0 l1
 go_enter Tryz.func137, Tryz.ntmps137
 go_wp2_with (first | (go_at_call 161; refine (hlead _).mono ?_; rintro e w' ⟨rfl, rfl⟩) | (go_at_call 162; refine hreach.mono ?_; rintro e w' ⟨rfl, q, rfl⟩))
 clear hlead hreach
 go_loopw [5, 6] (fun bits k wr => ∃ j : Nat, 1 ≤ j ∧ j ≤ n ∧ k = .int .i64 j ∧ bits = .int .i64 (acc f j) ∧ passed len f j ∧ ∃ q, wr = w.drewN q) (fun _ k _ => n - (intOf k).toNat)
 case atStart => exact ⟨1, by omega, by omega, rfl, rfl, passed_one _ _, _, rfl⟩
 case round =>
  obtain ⟨j, hj1, hjn, rfl, rfl, hp, q', rfl⟩ := hrel
  by_cases hlt : j < n
  ·by_cases hle : j < len
   ·have cj : w.cell? ⟨b, off + j, none⟩ = some (.int .u8 (f j)) := hL.cell j hle
    have bj0 := hL.lo j
    have bj1 := hL.hi j
    have abd := acc_bd f b0 b1 HZ.out j hj1 (by rw [← HN.out]; omega)
    have abd' := acc_bd f b0 b1 HZ.out (j + 1) (by omega) (by rw [← HN.out]; omega)
    have hor : bits .or .i64 (acc f j * 64) (f j % 64) = acc f (j + 1) := by
     rw [i64_or64 _ _ abd.1 abd.2 (by omega) (by omega)]
     obtain ⟨i, rfl⟩ : ∃ i, j = i + 1 := ⟨j - 1, by omega⟩
     rfl
    have hfol : ∀ w, Calls Tryz.prog 83 #[.int .u8 (f j)] w fun e w' => e = .returned (.bool (folB (f j))) ∧ w = w' := fun w => (follows_any _ w).mono fun e w' h => ⟨h.1, h.2.symm⟩
    have hjl : ((j : Int) == (len : Int)) = false := by simp; omega
    cases hf : folB (f j)
    ·have HF : Hid (stepF len f = (j, false)) := stepF_part len f b0 b1 j hj1 (by rw [← HN.out]; omega) hp (.inr (.inl hf))
     rw [hf] at hfol
     clear hf hor
     go_wp2_with (go_at_call 83; refine (hfol _).mono ?_; rintro e w' ⟨rfl, rfl⟩)
     go_ret2
     exact ⟨ret_ib (by rw [HF.out]) (by rw [HF.out]), _, rfl⟩
    ·have hra : Calls Tryz.prog 162 #[.int .i64 (acc f (j + 1)), .int .i64 (n : Int), .int .i64 ((n : Int) - 1 - (j : Int))] (w.drewN q') fun e w' => e = .returned (.bool (okAt f j)) ∧ ∃ n, w' = (w.drewN q').drewN n := by
      rw [← reach_at f len j b0 b1 hj1 (by rw [← HN.out]; omega) hp hf, ← HN.out]
      exact reaches_any _ _ _ _ (hT.drewN _) (by omega) (by omega) (by omega) (by omega) (by omega)
     rw [hf] at hfol
     cases ho : okAt f j
     ·have HF : Hid (stepF len f = (j, false)) := stepF_part len f b0 b1 j hj1 (by rw [← HN.out]; omega) hp (.inr (.inr ho))
      rw [ho] at hra
      clear ho hf
      go_wp2_with (first | (go_at_call 83; refine (hfol _).mono ?_; rintro e w' ⟨rfl, rfl⟩) | (go_at_call 162; refine hra.mono ?_; rintro e w' ⟨rfl, q2, rfl⟩))
      go_ret2
      exact ⟨ret_ib (by rw [HF.out]) (by rw [HF.out]), _, rfl⟩
     ·have HP : Hid (passed len f (j + 1)) := passed_next len f j hj1 hle hf ho hp
      rw [ho] at hra
      clear ho hf
      go_wp2_with (first | (go_at_call 83; refine (hfol _).mono ?_; rintro e w' ⟨rfl, rfl⟩) | (go_at_call 162; refine hra.mono ?_; rintro e w' ⟨rfl, q2, rfl⟩))
      go_roundw
      case rel => exact ⟨j + 1, by omega, by omega, by go_num, rfl, HP.out, _, rfl⟩
      case measure => simp [intOf]; omega
   ·have HF : Hid (stepF len f = (j, false)) := stepF_part len f b0 b1 j hj1 (by rw [← HN.out]; omega) hp (.inl (by omega))
    have hjl : ((j : Int) == (len : Int)) = true := by
     have : passed len f j := hp
     obtain ⟨q2, q3, q4⟩ := hp
     simp; omega
    go_wp2
    go_ret2
    exact ⟨ret_ib (by rw [HF.out]) (by rw [HF.out]), _, rfl⟩
  ·have e : j = n := by omega
   subst e
   have HF : Hid (stepF len f = (j, true)) := stepF_whole len f b0 b1 HZ.out j HN.out hp
   go_wp2
   go_ret2
   exact ⟨ret_ib (by rw [HF.out]) (by rw [HF.out]), _, rfl⟩
end Go.Proofs.YtjdboekanmfgpaaGreatDoor.Lx

namespace Go.Proofs.YtjdboekanmfgpaaGreatDoor.Lx
open Go.RowKit

theorem begun_any (b off len cap : Nat) (f : Nat → Int) (w : World) (hT : Tab w) (hL : Lies w b off len f) (hl : 0 < len) (hm : len ≤ maxLen) :
    Calls Tryz.prog 137 #[.slice (some ⟨b, off, none⟩) len cap] w fun e w' => e = .returned (.tuple #[.int .i64 ((stepF len f).1 : Nat), .bool (stepF len f).2]) ∧ ∃ n, w' = w.drewN n := by
  by_cases hz : stN (f 0) = 0
  · rw [stepF_none len f hz]; exact begun_none b off len cap f w hT hL hl hm hz
  · exact begun_some b off len cap f w hT hL hl hm hz

/-- Step by step from a place on. -/
def goodF (len : Nat) (f : Nat → Int) : Nat → Nat → Nat × Bool
  | 0, p => (p, true)
  | k + 1, p => if len ≤ p then (p, true) else
      if (stepF (len - p) fun i => f (p + i)).2 = true then goodF len f k (p + (stepF (len - p) fun i => f (p + i)).1) else (p + (stepF (len - p) fun i => f (p + i)).1, false)
/-- How many bytes begin a valid text, and whether all are one. -/
def good (len : Nat) (f : Nat → Int) : Nat × Bool := goodF len f len 0

theorem stepF_le (r : Nat) (f : Nat → Int) (h : 0 < r) : (stepF r f).1 ≤ r := by
  unfold stepF
  repeat' split
  all_goals simp
  all_goals omega
theorem stepF_le4 (r : Nat) (f : Nat → Int) : (stepF r f).1 ≤ 4 := by
  unfold stepF
  repeat' split
  all_goals simp
theorem stepF_pos (r : Nat) (f : Nat → Int) (h : (stepF r f).2 = true) : 1 ≤ (stepF r f).1 := by
  have : (stepF r f).2 = false ∨ 1 ≤ (stepF r f).1 := by
    unfold stepF
    repeat' split
    all_goals simp
  rcases this with k | k
  · rw [k] at h; cases h
  · exact k

/-- A slice of bytes as a value. -/
def Row (w : World) (v : Value) (len : Nat) (f : Nat → Int) : Prop :=
  (len = 0 ∧ ∃ a cap, v = .slice a 0 cap ∧ (a = none → cap = 0)) ∨ ∃ b off cap, v = .slice (some ⟨b, off, none⟩) len cap ∧ len ≤ cap ∧ cap ≤ maxLen ∧ Lies w b off len f

theorem Lies.drop {w : World} {b off len : Nat} {f : Nat → Int} (h : Lies w b off len f) (p : Nat) : Lies w b (off + p) (len - p) fun i => f (p + i) :=
  ⟨fun i hi => by rw [show off + p + i = off + (p + i) from by omega]; exact h.cell (p + i) (by omega), fun i => h.lo _, fun i => h.hi _⟩
theorem Lies.drewN {w : World} {b off len : Nat} {f : Nat → Int} (h : Lies w b off len f) (n : Nat) : Lies (w.drewN n) b off len f :=
  ⟨fun i hi => by rw [World.cell?_drewN]; exact h.cell i hi, h.lo, h.hi⟩

set_option maxHeartbeats 400000 in
theorem good_some (b off len cap : Nat) (f : Nat → Int) (w : World) (hT : Tab w) (hL : Lies w b off len f) (hc : len ≤ cap) (hm : cap ≤ maxLen) :
    Calls Tryz.prog 120 #[.slice (some ⟨b, off, none⟩) len cap] w fun e w' => e = .returned (.tuple #[.int .i64 ((good len f).1 : Nat), .bool (good len f).2]) ∧ ∃ n, w' = w.drewN n := by
  unfold maxLen at hm
  go_enter Tryz.func120, Tryz.ntmps120
  go_wp2
  go_loopw [4] (fun t wr => ∃ p k : Nat, p ≤ len ∧ t = .int .i64 p ∧ len ≤ p + k ∧ Hid (goodF len f k p = good len f) ∧ ∃ q, wr = w.drewN q) (fun t _ => len - (intOf t).toNat)
  case atStart => exact ⟨0, len, by omega, rfl, by omega, (rfl : goodF len f len 0 = good len f), 0, rfl⟩
  case round =>
    obtain ⟨p, k, hp, rfl, hk, HG, q, rfl⟩ := hrel
    by_cases hlt : p < len
    · obtain ⟨k', rfl⟩ : ∃ k', k = k' + 1 := ⟨k - 1, by omega⟩
      have hb := begun_any b (off + p) (len - p) (cap - p) (fun i => f (p + i)) (w.drewN q) (hT.drewN q) ((hL.drop p).drewN q) (by omega) (by unfold maxLen; omega)
      have s1 := stepF_le (len - p) (fun i => f (p + i)) (by omega)
      have hG := HG.out
      clear HG
      unfold goodF at hG
      rw [if_neg (by omega)] at hG
      have s2 := stepF_pos (len - p) (fun i => f (p + i))
      generalize stepF (len - p) (fun i => f (p + i)) = s at *
      obtain ⟨a, t⟩ := s
      cases t
      · have hF : (p + a, false) = good len f := by simpa using hG
        have HF : Hid ((p + a, false) = good len f) := hF
        clear hF
        clear hG s2
        go_wp2_with (go_at_call 137; refine hb.mono ?_; rintro e w' ⟨rfl, q2, rfl⟩)
        go_ret2
        exact ⟨ret_ib (by rw [← HF.out]; rfl) (by rw [← HF.out]), _, rfl⟩
      · have hF : goodF len f k' (p + a) = good len f := by simpa using hG
        have HF : Hid (goodF len f k' (p + a) = good len f) := hF
        clear hF
        have s3 : 1 ≤ a := s2 rfl
        have s4 : a ≤ len - p := s1
        clear hG s2 s1
        go_wp2_with (go_at_call 137; refine hb.mono ?_; rintro e w' ⟨rfl, q2, rfl⟩)
        go_roundw
        case rel => exact ⟨p + a, k', by omega, by go_num, by omega, HF, _, rfl⟩
        case measure => simp [intOf]; omega
    · have e : p = len := by omega
      subst e
      have HF : Hid ((p, true) = good p f) := by
        have := HG.out
        cases k
        · exact this
        · unfold goodF at this; rw [if_pos (by omega)] at this; exact this
      clear HG
      go_wp2
      go_ret2
      exact ⟨ret_ib (by rw [← HF.out]) (by rw [← HF.out]), _, rfl⟩

set_option maxHeartbeats 400000 in
theorem good_any (v : Value) (len : Nat) (f : Nat → Int) (w : World) (hT : Tab w) (hR : Row w v len f) :
    Calls Tryz.prog 120 #[v] w fun e w' => e = .returned (.tuple #[.int .i64 ((good len f).1 : Nat), .bool (good len f).2]) ∧ ∃ n, w' = w.drewN n := by
  rcases hR with ⟨rfl, a, cap, rfl, _⟩ | ⟨b, off, cap, rfl, hc, hm, hL⟩
  · go_enter Tryz.func120, Tryz.ntmps120
    go_wp2
    refine wp_loop_rounds 1 ?_
    rw [rounds_succ]
    go_wp2
    go_ret2
    exact ⟨rfl, 0, rfl⟩
  · exact good_some b off len cap f w hT hL hc hm
end Go.Proofs.YtjdboekanmfgpaaGreatDoor.Lx

namespace Go.Proofs.YtjdboekanmfgpaaGreatDoor.Lx
open Go.RowKit

theorem setCell_drewN (w : World) (n : Nat) (a : Addr) (v : Value) : (w.drewN n).setCell a v = (w.setCell a v).drewN n := rfl
theorem alloc_drewN (w : World) (n : Nat) (o : Obj) : (w.drewN n).alloc o = (w.alloc o).drewN n := rfl

theorem ret_int {k : IntKind} {a b : Int} (h : a = b) : Ending.returned (.int k a) = .returned (.int k b) := by rw [h]
theorem add_at (b off j : Nat) : (⟨b, off, none⟩ : Addr).add j = ⟨b, off + j, none⟩ := by
 simp only [Addr.add]; split
 ·simp_all
 ·rfl

/-- A byte of a list, as a number. -/
def bx (l : List UInt8) (i : Nat) : Int := (((l[i]?).getD 0).toNat : Nat)
theorem bx_lo (l : List UInt8) (i : Nat) : 0 ≤ bx l i := Int.natCast_nonneg _
theorem bx_hi (l : List UInt8) (i : Nat) : bx l i < 256 := by
 have := UInt8.toNat_lt ((l[i]?).getD 0)
 unfold bx; omega
/-- A slice of bytes as a value. -/
def Byt (w : World) (v : Value) (l : List UInt8) : Prop := Row w v l.length (bx l)
/-- Does a byte that stands the test stand at a place? -/
def hasAt (l : List UInt8) (i : Nat) (p : Int → Bool) : Bool := decide (i < l.length) && p (bx l i)
theorem hasAt_lt {l : List UInt8} {i : Nat} {p : Int → Bool} (h : hasAt l i p = true) : i < l.length := by
 simp [hasAt] at h; exact h.1
/-- The first place from a place on whose byte fails the test. -/
def passL (l : List UInt8) (p : Int → Bool) : Nat → Nat → Nat
 | 0, i => i
 | k + 1, i => if hasAt l i p = true then passL l p k (i + 1) else i
def pass (l : List UInt8) (p : Int → Bool) (i : Nat) : Nat := passL l p (l.length - i) i
theorem pass_go {l : List UInt8} {p : Int → Bool} {i : Nat} (h : hasAt l i p = true) : pass l p i = pass l p (i + 1) := by
 have h1 := hasAt_lt h
 unfold pass
 obtain ⟨k, e⟩ : ∃ k, l.length - i = k + 1 := ⟨l.length - i - 1, by omega⟩
 rw [e, show l.length - (i + 1) = k by omega]
 simp [passL, h]
theorem pass_stop {l : List UInt8} {p : Int → Bool} {i : Nat} (h : hasAt l i p = false) : pass l p i = i := by
 unfold pass
 cases l.length - i <;> simp [passL, h]
theorem passL_le (l : List UInt8) (p : Int → Bool) (k : Nat) : ∀ i, i ≤ passL l p k i ∧ (i ≤ l.length → passL l p k i ≤ l.length) := by
 induction k with
 | zero => exact fun i => ⟨Nat.le_refl _, id⟩
 | succ k ih =>
  intro i
  simp only [passL]
  split
  ·rename_i h
   have := ih (i + 1)
   have := hasAt_lt h
   exact ⟨by omega, fun _ => (ih (i + 1)).2 (by omega)⟩
  ·exact ⟨Nat.le_refl _, id⟩
theorem pass_ge (l : List UInt8) (p : Int → Bool) (i : Nat) : i ≤ pass l p i := (passL_le l p _ i).1
theorem pass_le {l : List UInt8} {p : Int → Bool} {i : Nat} (h : i ≤ l.length) : pass l p i ≤ l.length := (passL_le l p _ i).2 h

/-- A place, or how many bytes it takes to tell that there is none. -/
abbrev Pl := Except Nat Nat

/-- The error, as a value. -/
def errV (n : Nat) : Value := .iface 184 (.agg #[.int .i64 n])
/-- A place, or the error, as they are returned. -/
def plV : Pl → Value
 | .ok k => .tuple #[.int .i64 k, .nilIface]
 | .error n => .tuple #[.int .i64 0, errV n]

def blankB (c : Int) : Bool := c == 9 || c == 10 || c == 13 || c == 32
def digitB (c : Int) : Bool := decide (48 ≤ c) && decide (c ≤ 57)
def plainB (c : Int) : Bool := decide (32 ≤ c) && !(c == 34 || c == 92)

def takenL (l : List UInt8) (i : Nat) (p : Int → Bool) : Pl := if hasAt l i p = true then .ok (i + 1) else .error (i + 1)
def digitsL (l : List UInt8) (i : Nat) : Pl := if hasAt l i digitB = true then .ok (pass l digitB (i + 1)) else .error (i + 1)
/-- Behind a byte that may stand at a place. -/
def aft (l : List UInt8) (i : Nat) (p : Int → Bool) : Nat := if hasAt l i p = true then i + 1 else i
theorem aft_le (l : List UInt8) (i : Nat) (p : Int → Bool) : i ≤ aft l i p ∧ aft l i p ≤ i + 1 ∧ (i ≤ l.length → aft l i p ≤ l.length) := by
 unfold aft
 split
 ·rename_i h
  have := hasAt_lt h
  omega
 ·omega
def wholeL (l : List UInt8) (i : Nat) : Pl := if hasAt l (aft l i (· == 45)) (· == 48) = true then .ok (aft l i (· == 45) + 1) else digitsL l (aft l i (· == 45))
def exponentL (l : List UInt8) (i : Nat) : Pl := digitsL l (aft l i (fun c => c == 43 || c == 45))
def fracPart (l : List UInt8) : Pl → Pl
 | .ok k => if hasAt l k (· == 46) = true then digitsL l (k + 1) else .ok k
 | .error n => .error n
def expPart (l : List UInt8) : Pl → Pl
 | .ok k => if hasAt l k (fun c => c == 101 || c == 69) = true then exponentL l (k + 1) else .ok k
 | .error n => .error n
def numberL (l : List UInt8) (i : Nat) : Pl := expPart l (fracPart l (wholeL l i))
def spelledL (l : List UInt8) : Nat → List UInt8 → Pl
 | i, [] => .ok i
 | i, c :: cs => if hasAt l i (· == (c.toNat : Int)) = true then spelledL l (i + 1) cs else .error (i + 1)

theorem digitsL_le {l : List UInt8} {i k : Nat} (h : digitsL l i = .ok k) : i < k ∧ k ≤ l.length := by
 unfold digitsL at h
 split at h
 ·rename_i g
  have g1 := hasAt_lt g
  cases h
  have := pass_ge l digitB (i + 1)
  have := pass_le (l := l) (p := digitB) (i := i + 1) (by omega)
  omega
 ·cases h
theorem wholeL_le {l : List UInt8} {i k : Nat} (h : wholeL l i = .ok k) : i < k ∧ k ≤ l.length := by
 unfold wholeL at h
 have ha := aft_le l i (· == 45)
 split at h
 ·rename_i g
  have g1 := hasAt_lt g
  cases h
  omega
 ·have := digitsL_le h
  omega
theorem exponentL_le {l : List UInt8} {i k : Nat} (h : exponentL l i = .ok k) : i < k ∧ k ≤ l.length := by
 unfold exponentL at h
 have ha := aft_le l i (fun c => c == 43 || c == 45)
 have := digitsL_le h
 omega
theorem fracPart_le {l : List UInt8} {i k : Nat} (hi : i ≤ l.length) (h : fracPart l (.ok i) = .ok k) : i ≤ k ∧ k ≤ l.length := by
 unfold fracPart at h
 simp only at h
 split at h
 ·have := digitsL_le h; omega
 ·cases h; exact ⟨Nat.le_refl _, hi⟩
theorem numberL_le {l : List UInt8} {i k : Nat} (h : numberL l i = .ok k) : i < k ∧ k ≤ l.length := by
 unfold numberL at h
 cases hw : wholeL l i with
 | error n => rw [hw] at h; simp [fracPart, expPart] at h
 | ok a =>
  rw [hw] at h
  have ha := wholeL_le hw
  cases hf : fracPart l (.ok a) with
  | error n => rw [hf] at h; simp [expPart] at h
  | ok b =>
   rw [hf] at h
   have hb := fracPart_le ha.2 hf
   unfold expPart at h
   simp only at h
   split at h
   ·have := exponentL_le h; omega
   ·cases h; omega
theorem spelledL_le {l : List UInt8} (cs : List UInt8) : ∀ {i k : Nat}, spelledL l i cs = .ok k → k = i + cs.length ∧ (i ≤ l.length → k ≤ l.length) := by
 induction cs with
 | nil => intro i k h; simp [spelledL] at h; subst h; exact ⟨rfl, id⟩
 | cons c cs ih =>
  intro i k h
  simp only [spelledL] at h
  split at h
  ·rename_i g
   have := ih h
   have := hasAt_lt g
   refine ⟨by simp; omega, fun _ => (ih h).2 (by omega)⟩
  ·cases h
end Go.Proofs.YtjdboekanmfgpaaGreatDoor.Lx

namespace Go.Proofs.YtjdboekanmfgpaaGreatDoor.Lx
open Go.RowKit

/-- Bytes as the cells hold them. -/
def vals (len : Nat) (f : Nat → Int) : List Value := (List.range len).map fun i => .int .u8 (f i)
theorem vals_length (len : Nat) (f : Nat → Int) : (vals len f).length = len := by simp [vals]
theorem vals_at (len : Nat) (f : Nat → Int) (i : Nat) (h : i < len) : (vals len f)[i]? = some (.int .u8 (f i)) := by simp [vals, h]
/-- One row of bytes behind another. -/
def catF (n : Nat) (f g : Nat → Int) : Nat → Int := fun i => if i < n then f i else g (i - n)
theorem vals_cat (n m : Nat) (f g : Nat → Int) : vals n f ++ vals m g = vals (n + m) (catF n f g) := by
 apply List.ext_getElem?
 intro i
 by_cases h : i < n
 ·rw [List.getElem?_append_left (by rw [vals_length]; exact h), vals_at _ _ _ h, vals_at _ _ _ (by omega)]
  simp [catF, h]
 ·rw [List.getElem?_append_right (by rw [vals_length]; omega), vals_length]
  by_cases h2 : i < n + m
  ·rw [vals_at _ _ _ (by omega), vals_at _ _ _ h2]
   simp [catF, h]
  ·rw [List.getElem?_eq_none (by rw [vals_length]; omega), List.getElem?_eq_none (by rw [vals_length]; omega)]

theorem info5 : (Tryz.prog.info? 5).map (fun i => (i.zero, i.size, i.bytes)) = some (some (.int .u8 0), 1, 1) := by kernel_rfl

theorem Row.of_own {w : World} {B : Nat} {v : Value} {len : Nat} {f : Nat → Int} (lo : ∀ i, 0 ≤ f i) (hi : ∀ i, f i < 256) (h : w.ownsRow B 5 1 v len (vals len f)) : Row w v len f := by
 rcases h.2 with ⟨rfl, h0⟩ | ⟨g, cap, cur, rfl, hb, hg, hc, hm, hs, ht⟩
 ·exact .inl ⟨h0, none, 0, rfl, fun _ => rfl⟩
 ·refine .inr ⟨g, 0, cap, rfl, hc, hm, ⟨fun i hi => ?_, lo, hi⟩⟩
  rw [Nat.zero_add, h.cellAt i (by omega), vals_at _ _ _ hi]

theorem cell_lt {w : World} {a : Addr} {v : Value} (h : w.cell? a = some v) : a.block < w.heap.size := by
 by_cases z : a.block < w.heap.size
 ·exact z
 ·simp [World.cell?, Array.getElem?_eq_none (show w.heap.size ≤ a.block by omega)] at h

theorem Row.below {w w' : World} {v : Value} {len : Nat} {f : Nat → Int} (h : Row w v len f) (hb : Below w.heap.size w w') : Row w' v len f := by
 rcases h with h | ⟨b, off, cap, rfl, hc, hm, hL⟩
 ·exact .inl h
 ·exact .inr ⟨b, off, cap, rfl, hc, hm, ⟨fun i hi => by rw [hb.cell (cell_lt (hL.cell i hi))]; exact hL.cell i hi, hL.lo, hL.hi⟩⟩
theorem Row.alloc {w : World} {v : Value} {len : Nat} {f : Nat → Int} (h : Row w v len f) (o : Obj) : Row (w.alloc o) v len f := h.below ((Below.refl _ _).alloc (Nat.le_refl _) o)

theorem Row.shape {w : World} {v : Value} {len : Nat} {f : Nat → Int} (h : Row w v len f) : ∃ a cap, v = .slice a len cap ∧ len ≤ maxLen := by
 rcases h with ⟨rfl, a, cap, rfl, _⟩ | ⟨b, off, cap, rfl, hc, hm, _⟩
 ·exact ⟨a, cap, rfl, by simp [maxLen]⟩
 ·exact ⟨_, cap, rfl, by omega⟩

/-- 'append(x, y...)', x of the call's own, y a slice of bytes. -/
theorem wpList_append_row {w : World} {ops : Array Oper} {rest : List Oper} {o : Oper} {a : Act} {Q : Exit → Act → World → Prop} (hgd : o.guard = none) (s x : Operand)
  (ho : o.op = .call { callee := .builtin .append, args := #[s, x], argTypes := #[50, 50] }) (base : Nat) (v : Value) (n : Nat) (xs : List Value) (hs : a.eval s = v) (hown : w.ownsRow base 5 1 v n xs)
  (v1 : Value) (m : Nat) (g : Nat → Int) (hx : a.eval x = v1) (hR : Row w v1 m g) (hb : n + m ≤ 140737488355328) (hbase : base ≤ w.heap.size)
  (h : ∀ v' w', w'.ownsRow base 5 1 v' (n + m) (xs ++ vals m g) → w.grownBy w' v.ownBlock → wpList Tryz.prog ops Q rest (a.put o.dst v') w') : wpList Tryz.prog ops Q (o :: rest) a w := by
 obtain ⟨i0, hi, hz0, hz1, hz2⟩ := info_parts info5
 rcases hR with ⟨rfl, ad, cap, rfl, hn⟩ | ⟨b, off, cap, rfl, hc, hm, hL⟩
 ·rcases ad with _ | ad
  ·have hc := hn rfl
   subst hc
   refine wpList_append_own_none hgd s x 50 ho base 5 i0 1 Tryz.underlying50 hi v n xs hs hown hx (h v w (by simpa [vals] using hown) ?_)
   exact ⟨rfl, rfl, rfl, Nat.le_refl _, fun _ _ _ => rfl⟩
  ·refine wpList_append_own _ hgd s x 50 ho base 5 i0 (.int .u8 0) 1 1 Tryz.underlying50 hi hz0 hz1 hz2 rfl (by decide) v n xs hs hown ad 0 cap [] hx rfl (fun j u hj => by simp at hj) (fun u hu => by simp at hu) (by unfold maxLen; omega) (by omega) hbase ?_
   intro v' w' h1 h2 _
   exact h v' w' (by simpa [vals] using h1) h2
 ·refine wpList_append_own _ hgd s x 50 ho base 5 i0 (.int .u8 0) 1 1 Tryz.underlying50 hi hz0 hz1 hz2 rfl (by decide) v n xs hs hown ⟨b, off, none⟩ m cap (vals m g) hx (by rw [vals_length]; omega) (fun j u hj => ?_) (fun u hu => ?_) (by unfold maxLen; omega) (by omega) hbase ?_
  ·have hlt : j < m := by have := (List.getElem?_eq_some_iff.1 hj).1; rwa [vals_length] at this
   rw [vals_at _ _ _ hlt] at hj
   rw [add_at, hL.cell j hlt, hj]
  ·simp only [vals, List.mem_map] at hu
   obtain ⟨i, _, rfl⟩ := hu
   rfl
  ·intro v' w' h1 h2 _
   exact h v' w' h1 h2

theorem make_bytes (w : World) (c : Nat) (hc : c ≤ 281474976710656) : (Instr.makeSlice 50 (.int .i64 0) (.int .i64 (c : Int))).run Tryz.prog w = .ok (.slice (some ⟨w.heap.size, 0, none⟩) 0 c) (w.alloc (.cells (madeCells #[.int .u8 0] c) 5)) := by
 obtain ⟨i0, hi, hz0, hz1, hz2⟩ := info_parts info5
 have := run_make (P := Tryz.prog) w 50 5 i0 (.int .u8 0) Tryz.underlying50 hi hz0 .i64 .i64 0 (c : Int) (by omega) (by omega) (by rw [hz2]; omega) (by omega)
 rw [hz1] at this
 simpa [Value.cells] using this
theorem make_own (w : World) (c : Nat) (hc : c ≤ maxLen) : (w.alloc (.cells (madeCells #[.int .u8 0] c) 5)).ownsRow w.heap.size 5 1 (.slice (some ⟨w.heap.size, 0, none⟩) 0 c) 0 [] :=
 World.ownsRow_made w _ c (Nat.le_refl _) hc (by have := size_madeCells #[Value.int .u8 0] (c * 1); simpa using this)

set_option maxHeartbeats 400000 in
theorem joined_any (v0 v1 : Value) (n m : Nat) (f g : Nat → Int) (w : World) (h0 : Row w v0 n f) (h1 : Row w v1 m g) (hb : n + m ≤ 140737488355328) :
  Calls Tryz.prog 238 #[v0, v1] w fun e w' => ∃ r, e = .returned r ∧ w'.ownsRow w.heap.size 5 1 r (n + m) (vals (n + m) (catF n f g)) ∧ Below w.heap.size w w' := by
 have k0 := h0
 have k1 := h1
 obtain ⟨a, cap, e0, m0⟩ := h0.shape
 obtain ⟨a', cap', e1, m1⟩ := h1.shape
 subst e0 e1
 have hmk := make_bytes w (n + m) (by omega)
 have hok := make_own w (n + m) (by unfold maxLen; omega)
 rw [show (((n + m : Nat)) : Int) = (n : Int) + (m : Int) from by omega] at hmk
 have hA : Row (w.alloc (.cells (madeCells #[.int .u8 0] (n + m)) 5)) (.slice a n cap) n f := k0.alloc _
 have hbl : Below w.heap.size w (w.alloc (.cells (madeCells #[.int .u8 0] (n + m)) 5)) := (Below.refl _ _).alloc (Nat.le_refl _) _
 clear h0 h1 k0 m0 m1
 go_enter Tryz.func238, Tryz.ntmps238
 go_wp2_with (at_builtin; refine wpList_append_row rfl (.tmp 12) (.tmp 13) rfl w.heap.size _ _ _ rfl hok _ n f rfl hA ?_ ?_ ?_)
 ·omega
 ·simp
 ·intro v' w2 hown2 hgrow2
  have hb2 : Below w.heap.size w w2 := hbl.grown hgrow2 (by simp) (fun j hj => (hok.lt j hj).1)
  have hz2 := hb2.size
  have hB := k1.below hb2
  clear hA hok hmk hbl hgrow2 k1
  go_wp2_with (at_builtin; refine wpList_append_row rfl (.tmp 15) (.tmp 16) rfl w.heap.size _ _ _ rfl hown2 _ m g rfl hB ?_ ?_ ?_)
  ·omega
  ·exact hz2
  ·intro v3 w3 hown3 hgrow3
   have hb3 : Below w.heap.size w w3 := hb2.grown hgrow3 hz2 (fun j hj => (hown2.lt j hj).1)
   rw [vals_cat] at hown3
   clear hown2 hgrow3 hB
   go_wp2
   go_ret
   exact ⟨_, rfl, hown3, hb3⟩

/-! ### A code point's bytes -/
def encN (p : Int) : Nat := if p < 128 then 1 else if p < 2048 then 2 else if p < 65536 then 3 else 4
def encF (p : Int) : Nat → Int := fun i =>
 if p < 128 then (if i = 0 then p else 0)
 else if p < 2048 then (if i = 0 then 192 + p / 64 else if i = 1 then 128 + p % 64 else 0)
 else if p < 65536 then (if i = 0 then 224 + p / 4096 else if i = 1 then 128 + p / 64 % 64 else if i = 2 then 128 + p % 64 else 0)
 else (if i = 0 then 240 + p / 262144 else if i = 1 then 128 + p / 4096 % 64 else if i = 2 then 128 + p / 64 % 64 else if i = 3 then 128 + p % 64 else 0)
theorem encF_lo (p : Int) (h0 : 0 ≤ p) (h1 : p ≤ 1114111) (i : Nat) : 0 ≤ encF p i := by
 unfold encF; repeat' split
 all_goals omega
theorem encF_hi (p : Int) (h0 : 0 ≤ p) (h1 : p ≤ 1114111) (i : Nat) : encF p i < 256 := by
 unfold encF; repeat' split
 all_goals omega

theorem i64_orx (x : Nat) (y : Int) (i : Nat) (hx : x % 2 ^ i = 0) (hxs : x < 1000) (h0 : 0 ≤ y) (h1 : y.toNat < 2 ^ i) (h2 : y < 1000) : bits .or .i64 (x : Int) y = (x : Int) + y := by
 obtain ⟨b, rfl⟩ := Int.eq_ofNat_of_zero_le h0
 have := i64_or_nat x b i hx (by simpa using h1) (by omega)
 simpa using this
theorem or128 (y : Int) (h0 : 0 ≤ y) (h1 : y < 64) : bits .or .i64 128 y = 128 + y := i64_orx 128 y 6 rfl (by omega) h0 (by omega) (by omega)
theorem or192 (y : Int) (h0 : 0 ≤ y) (h1 : y < 32) : bits .or .i64 192 y = 192 + y := i64_orx 192 y 5 rfl (by omega) h0 (by omega) (by omega)
theorem or224 (y : Int) (h0 : 0 ≤ y) (h1 : y < 16) : bits .or .i64 224 y = 224 + y := i64_orx 224 y 4 rfl (by omega) h0 (by omega) (by omega)
theorem or240 (y : Int) (h0 : 0 ≤ y) (h1 : y < 8) : bits .or .i64 240 y = 240 + y := i64_orx 240 y 3 rfl (by omega) h0 (by omega) (by omega)

set_option maxHeartbeats 400000 in
theorem follower_any (p : Int) (w : World) (h0 : 0 ≤ p) (h1 : p ≤ 1114111) :
  Calls Tryz.prog 239 #[.int .i64 p] w fun e w' => e = .returned (.int .u8 (128 + p % 64)) ∧ w = w' := by
 have e1 := i64_and63 p h0 (by omega)
 have e2 := or128 (p % 64) (by omega) (by omega)
 go_enter Tryz.func239, Tryz.ntmps239
 go_wp2
 go_ret
 exact ⟨ret_int (by omega), rfl⟩
end Go.Proofs.YtjdboekanmfgpaaGreatDoor.Lx
