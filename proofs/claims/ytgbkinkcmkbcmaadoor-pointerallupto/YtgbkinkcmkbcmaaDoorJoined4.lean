/-
  What utf.Good answers of bytes that lie in memory: how many bytes begin a valid text, and whether they are one. Conditions: the table of greatest code points holds its four numbers.
-/
import Derived.Test.YtgbkinkcmkbcmaaDoorJoined3
import Derived.Deep.Light
namespace Go.Proofs.YtgbkinkcmkbcmaaDoor
open Go.RowKit

theorem begun_any (b off len cap : Nat) (f : Nat → Int) (w : World) (hT : Tab w) (hL : Lies w b off len f) (hl : 0 < len) (hm : len ≤ maxLen) :
    Calls Tryd.prog 54 #[.slice (some ⟨b, off, none⟩) len cap] w fun e w' => e = .returned (.tuple #[.int .i64 ((stepF len f).1 : Nat), .bool (stepF len f).2]) ∧ ∃ n, w' = w.drewN n := by
  by_cases hz : stN (f 0) = 0
  · rw [stepF_none len f hz]; exact begun_none b off len cap f w hT hL hl hm hz
  · exact begun_some b off len cap f w hT hL hl hm hz

/-- Step by step from a place on. -/
def goodF (len : Nat) (f : Nat → Int) : Nat → Nat → Nat × Bool
  | 0, p => (p, true)
  | k + 1, p => if len ≤ p then (p, true) else
      if (stepF (len - p) fun i => f (p + i)).2 = true then goodF len f k (p + (stepF (len - p) fun i => f (p + i)).1) else (p + (stepF (len - p) fun i => f (p + i)).1, false)
/-- How many bytes begin a valid text, and whether all are one. -/
def good (len : Nat) (f : Nat → Int) : Nat × Bool := goodF len f len 0

theorem stepF_le (r : Nat) (f : Nat → Int) (h : 0 < r) : (stepF r f).1 ≤ r := by
  unfold stepF
  repeat' split
  all_goals simp
  all_goals omega
theorem stepF_le4 (r : Nat) (f : Nat → Int) : (stepF r f).1 ≤ 4 := by
  unfold stepF
  repeat' split
  all_goals simp
theorem stepF_pos (r : Nat) (f : Nat → Int) (h : (stepF r f).2 = true) : 1 ≤ (stepF r f).1 := by
  have : (stepF r f).2 = false ∨ 1 ≤ (stepF r f).1 := by
    unfold stepF
    repeat' split
    all_goals simp
  rcases this with k | k
  · rw [k] at h; cases h
  · exact k

/-- A slice of bytes as a value. -/
def Row (w : World) (v : Value) (len : Nat) (f : Nat → Int) : Prop :=
  (len = 0 ∧ ∃ a cap, v = .slice a 0 cap ∧ (a = none → cap = 0)) ∨ ∃ b off cap, v = .slice (some ⟨b, off, none⟩) len cap ∧ len ≤ cap ∧ cap ≤ maxLen ∧ Lies w b off len f

theorem Lies.drop {w : World} {b off len : Nat} {f : Nat → Int} (h : Lies w b off len f) (p : Nat) : Lies w b (off + p) (len - p) fun i => f (p + i) :=
  ⟨fun i hi => by rw [show off + p + i = off + (p + i) from by omega]; exact h.cell (p + i) (by omega), fun i => h.lo _, fun i => h.hi _⟩
theorem Lies.drewN {w : World} {b off len : Nat} {f : Nat → Int} (h : Lies w b off len f) (n : Nat) : Lies (w.drewN n) b off len f :=
  ⟨fun i hi => by rw [World.cell?_drewN]; exact h.cell i hi, h.lo, h.hi⟩

set_option maxHeartbeats 400000 in
theorem good_some (b off len cap : Nat) (f : Nat → Int) (w : World) (hT : Tab w) (hL : Lies w b off len f) (hc : len ≤ cap) (hm : cap ≤ maxLen) :
    Calls Tryd.prog 34 #[.slice (some ⟨b, off, none⟩) len cap] w fun e w' => e = .returned (.tuple #[.int .i64 ((good len f).1 : Nat), .bool (good len f).2]) ∧ ∃ n, w' = w.drewN n := by
  unfold maxLen at hm
  go_enter Tryd.func34, Tryd.ntmps34
  go_wp2
  go_loopw [4] (fun t wr => ∃ p k : Nat, p ≤ len ∧ t = .int .i64 p ∧ len ≤ p + k ∧ Hid (goodF len f k p = good len f) ∧ ∃ q, wr = w.drewN q) (fun t _ => len - (intOf t).toNat)
  case atStart => exact ⟨0, len, by omega, rfl, by omega, (rfl : goodF len f len 0 = good len f), 0, rfl⟩
  case round =>
    obtain ⟨p, k, hp, rfl, hk, HG, q, rfl⟩ := hrel
    by_cases hlt : p < len
    · obtain ⟨k', rfl⟩ : ∃ k', k = k' + 1 := ⟨k - 1, by omega⟩
      have hb := begun_any b (off + p) (len - p) (cap - p) (fun i => f (p + i)) (w.drewN q) (hT.drewN q) ((hL.drop p).drewN q) (by omega) (by unfold maxLen; omega)
      have s1 := stepF_le (len - p) (fun i => f (p + i)) (by omega)
      have hG := HG.out
      clear HG
      unfold goodF at hG
      rw [if_neg (by omega)] at hG
      have s2 := stepF_pos (len - p) (fun i => f (p + i))
      generalize stepF (len - p) (fun i => f (p + i)) = s at *
      obtain ⟨a, t⟩ := s
      cases t
      · have hF : (p + a, false) = good len f := by simpa using hG
        have HF : Hid ((p + a, false) = good len f) := hF
        clear hF
        clear hG s2
        go_wp2_with (go_at_call 54; refine hb.mono ?_; rintro e w' ⟨rfl, q2, rfl⟩)
        go_ret2
        exact ⟨ret_ib (by rw [← HF.out]; rfl) (by rw [← HF.out]), _, rfl⟩
      · have hF : goodF len f k' (p + a) = good len f := by simpa using hG
        have HF : Hid (goodF len f k' (p + a) = good len f) := hF
        clear hF
        have s3 : 1 ≤ a := s2 rfl
        have s4 : a ≤ len - p := s1
        clear hG s2 s1
        go_wp2_with (go_at_call 54; refine hb.mono ?_; rintro e w' ⟨rfl, q2, rfl⟩)
        go_roundw
        case rel => exact ⟨p + a, k', by omega, by go_num, by omega, HF, _, rfl⟩
        case measure => simp [intOf]; omega
    · have e : p = len := by omega
      subst e
      have HF : Hid ((p, true) = good p f) := by
        have := HG.out
        cases k
        · exact this
        · unfold goodF at this; rw [if_pos (by omega)] at this; exact this
      clear HG
      go_wp2
      go_ret2
      exact ⟨ret_ib (by rw [← HF.out]) (by rw [← HF.out]), _, rfl⟩

set_option maxHeartbeats 400000 in
theorem good_any (v : Value) (len : Nat) (f : Nat → Int) (w : World) (hT : Tab w) (hR : Row w v len f) :
    Calls Tryd.prog 34 #[v] w fun e w' => e = .returned (.tuple #[.int .i64 ((good len f).1 : Nat), .bool (good len f).2]) ∧ ∃ n, w' = w.drewN n := by
  rcases hR with ⟨rfl, a, cap, rfl, _⟩ | ⟨b, off, cap, rfl, hc, hm, hL⟩
  · go_enter Tryd.func34, Tryd.ntmps34
    go_wp2
    refine wp_loop_rounds 1 ?_
    rw [rounds_succ]
    go_wp2
    go_ret2
    exact ⟨rfl, 0, rfl⟩
  · exact good_some b off len cap f w hT hL hc hm
end Go.Proofs.YtgbkinkcmkbcmaaDoor
