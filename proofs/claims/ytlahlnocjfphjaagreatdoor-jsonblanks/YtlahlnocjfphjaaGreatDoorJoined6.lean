/-
  What utf.Good answers of bytes that lie in memory: how many bytes begin a valid text, and whether they are one. Conditions: the table of greatest code points holds its four numbers.
  Bytes as a list, and what lex's small functions are held against: plain mathematics. No condition.
-/
import Derived.Test.YtlahlnocjfphjaaGreatDoorJoined5
import Derived.Deep.Light
namespace Go.Proofs.YtlahlnocjfphjaaGreatDoor.Lx
open Go.RowKit

theorem begun_any (b off len cap : Nat) (f : Nat → Int) (w : World) (hT : Tab w) (hL : Lies w b off len f) (hl : 0 < len) (hm : len ≤ maxLen) :
    Calls Tryz.prog 113 #[.slice (some ⟨b, off, none⟩) len cap] w fun e w' => e = .returned (.tuple #[.int .i64 ((stepF len f).1 : Nat), .bool (stepF len f).2]) ∧ ∃ n, w' = w.drewN n := by
  by_cases hz : stN (f 0) = 0
  · rw [stepF_none len f hz]; exact begun_none b off len cap f w hT hL hl hm hz
  · exact begun_some b off len cap f w hT hL hl hm hz

/-- Step by step from a place on. -/
def goodF (len : Nat) (f : Nat → Int) : Nat → Nat → Nat × Bool
  | 0, p => (p, true)
  | k + 1, p => if len ≤ p then (p, true) else
      if (stepF (len - p) fun i => f (p + i)).2 = true then goodF len f k (p + (stepF (len - p) fun i => f (p + i)).1) else (p + (stepF (len - p) fun i => f (p + i)).1, false)
/-- How many bytes begin a valid text, and whether all are one. -/
def good (len : Nat) (f : Nat → Int) : Nat × Bool := goodF len f len 0

theorem stepF_le (r : Nat) (f : Nat → Int) (h : 0 < r) : (stepF r f).1 ≤ r := by
  unfold stepF
  repeat' split
  all_goals simp
  all_goals omega
theorem stepF_le4 (r : Nat) (f : Nat → Int) : (stepF r f).1 ≤ 4 := by
  unfold stepF
  repeat' split
  all_goals simp
theorem stepF_pos (r : Nat) (f : Nat → Int) (h : (stepF r f).2 = true) : 1 ≤ (stepF r f).1 := by
  have : (stepF r f).2 = false ∨ 1 ≤ (stepF r f).1 := by
    unfold stepF
    repeat' split
    all_goals simp
  rcases this with k | k
  · rw [k] at h; cases h
  · exact k

/-- A slice of bytes as a value. -/
def Row (w : World) (v : Value) (len : Nat) (f : Nat → Int) : Prop :=
  (len = 0 ∧ ∃ a cap, v = .slice a 0 cap ∧ (a = none → cap = 0)) ∨ ∃ b off cap, v = .slice (some ⟨b, off, none⟩) len cap ∧ len ≤ cap ∧ cap ≤ maxLen ∧ Lies w b off len f

theorem Lies.drop {w : World} {b off len : Nat} {f : Nat → Int} (h : Lies w b off len f) (p : Nat) : Lies w b (off + p) (len - p) fun i => f (p + i) :=
  ⟨fun i hi => by rw [show off + p + i = off + (p + i) from by omega]; exact h.cell (p + i) (by omega), fun i => h.lo _, fun i => h.hi _⟩
theorem Lies.drewN {w : World} {b off len : Nat} {f : Nat → Int} (h : Lies w b off len f) (n : Nat) : Lies (w.drewN n) b off len f :=
  ⟨fun i hi => by rw [World.cell?_drewN]; exact h.cell i hi, h.lo, h.hi⟩

set_option maxHeartbeats 400000 in
theorem good_some (b off len cap : Nat) (f : Nat → Int) (w : World) (hT : Tab w) (hL : Lies w b off len f) (hc : len ≤ cap) (hm : cap ≤ maxLen) :
    Calls Tryz.prog 96 #[.slice (some ⟨b, off, none⟩) len cap] w fun e w' => e = .returned (.tuple #[.int .i64 ((good len f).1 : Nat), .bool (good len f).2]) ∧ ∃ n, w' = w.drewN n := by
  unfold maxLen at hm
  go_enter Tryz.func96, Tryz.ntmps96
  go_wp2
  go_loopw [4] (fun t wr => ∃ p k : Nat, p ≤ len ∧ t = .int .i64 p ∧ len ≤ p + k ∧ Hid (goodF len f k p = good len f) ∧ ∃ q, wr = w.drewN q) (fun t _ => len - (intOf t).toNat)
  case atStart => exact ⟨0, len, by omega, rfl, by omega, (rfl : goodF len f len 0 = good len f), 0, rfl⟩
  case round =>
    obtain ⟨p, k, hp, rfl, hk, HG, q, rfl⟩ := hrel
    by_cases hlt : p < len
    · obtain ⟨k', rfl⟩ : ∃ k', k = k' + 1 := ⟨k - 1, by omega⟩
      have hb := begun_any b (off + p) (len - p) (cap - p) (fun i => f (p + i)) (w.drewN q) (hT.drewN q) ((hL.drop p).drewN q) (by omega) (by unfold maxLen; omega)
      have s1 := stepF_le (len - p) (fun i => f (p + i)) (by omega)
      have hG := HG.out
      clear HG
      unfold goodF at hG
      rw [if_neg (by omega)] at hG
      have s2 := stepF_pos (len - p) (fun i => f (p + i))
      generalize stepF (len - p) (fun i => f (p + i)) = s at *
      obtain ⟨a, t⟩ := s
      cases t
      · have hF : (p + a, false) = good len f := by simpa using hG
        have HF : Hid ((p + a, false) = good len f) := hF
        clear hF
        clear hG s2
        go_wp2_with (go_at_call 113; refine hb.mono ?_; rintro e w' ⟨rfl, q2, rfl⟩)
        go_ret2
        exact ⟨ret_ib (by rw [← HF.out]; rfl) (by rw [← HF.out]), _, rfl⟩
      · have hF : goodF len f k' (p + a) = good len f := by simpa using hG
        have HF : Hid (goodF len f k' (p + a) = good len f) := hF
        clear hF
        have s3 : 1 ≤ a := s2 rfl
        have s4 : a ≤ len - p := s1
        clear hG s2 s1
        go_wp2_with (go_at_call 113; refine hb.mono ?_; rintro e w' ⟨rfl, q2, rfl⟩)
        go_roundw
        case rel => exact ⟨p + a, k', by omega, by go_num, by omega, HF, _, rfl⟩
        case measure => simp [intOf]; omega
    · have e : p = len := by omega
      subst e
      have HF : Hid ((p, true) = good p f) := by
        have := HG.out
        cases k
        · exact this
        · unfold goodF at this; rw [if_pos (by omega)] at this; exact this
      clear HG
      go_wp2
      go_ret2
      exact ⟨ret_ib (by rw [← HF.out]) (by rw [← HF.out]), _, rfl⟩

set_option maxHeartbeats 400000 in
theorem good_any (v : Value) (len : Nat) (f : Nat → Int) (w : World) (hT : Tab w) (hR : Row w v len f) :
    Calls Tryz.prog 96 #[v] w fun e w' => e = .returned (.tuple #[.int .i64 ((good len f).1 : Nat), .bool (good len f).2]) ∧ ∃ n, w' = w.drewN n := by
  rcases hR with ⟨rfl, a, cap, rfl, _⟩ | ⟨b, off, cap, rfl, hc, hm, hL⟩
  · go_enter Tryz.func96, Tryz.ntmps96
    go_wp2
    refine wp_loop_rounds 1 ?_
    rw [rounds_succ]
    go_wp2
    go_ret2
    exact ⟨rfl, 0, rfl⟩
  · exact good_some b off len cap f w hT hL hc hm
end Go.Proofs.YtlahlnocjfphjaaGreatDoor.Lx

namespace Go.Proofs.YtlahlnocjfphjaaGreatDoor.Lx
open Go.RowKit

theorem setCell_drewN (w : World) (n : Nat) (a : Addr) (v : Value) : (w.drewN n).setCell a v = (w.setCell a v).drewN n := rfl
theorem alloc_drewN (w : World) (n : Nat) (o : Obj) : (w.drewN n).alloc o = (w.alloc o).drewN n := rfl

theorem ret_int {k : IntKind} {a b : Int} (h : a = b) : Ending.returned (.int k a) = .returned (.int k b) := by rw [h]
theorem add_at (b off j : Nat) : (⟨b, off, none⟩ : Addr).add j = ⟨b, off + j, none⟩ := by
  simp only [Addr.add]; split
  · simp_all
  · rfl

/-- A byte of a list, as a number. -/
def bx (l : List UInt8) (i : Nat) : Int := (((l[i]?).getD 0).toNat : Nat)
theorem bx_lo (l : List UInt8) (i : Nat) : 0 ≤ bx l i := Int.natCast_nonneg _
theorem bx_hi (l : List UInt8) (i : Nat) : bx l i < 256 := by
  have := UInt8.toNat_lt ((l[i]?).getD 0)
  unfold bx; omega
/-- A slice of bytes as a value. -/
def Byt (w : World) (v : Value) (l : List UInt8) : Prop := Row w v l.length (bx l)
/-- Does a byte that stands the test stand at a place? -/
def hasAt (l : List UInt8) (i : Nat) (p : Int → Bool) : Bool := decide (i < l.length) && p (bx l i)
theorem hasAt_lt {l : List UInt8} {i : Nat} {p : Int → Bool} (h : hasAt l i p = true) : i < l.length := by
  simp [hasAt] at h; exact h.1
/-- The first place from a place on whose byte fails the test. -/
def passL (l : List UInt8) (p : Int → Bool) : Nat → Nat → Nat
  | 0, i => i
  | k + 1, i => if hasAt l i p = true then passL l p k (i + 1) else i
def pass (l : List UInt8) (p : Int → Bool) (i : Nat) : Nat := passL l p (l.length - i) i
theorem pass_go {l : List UInt8} {p : Int → Bool} {i : Nat} (h : hasAt l i p = true) : pass l p i = pass l p (i + 1) := by
  have h1 := hasAt_lt h
  unfold pass
  obtain ⟨k, e⟩ : ∃ k, l.length - i = k + 1 := ⟨l.length - i - 1, by omega⟩
  rw [e, show l.length - (i + 1) = k by omega]
  simp [passL, h]
theorem pass_stop {l : List UInt8} {p : Int → Bool} {i : Nat} (h : hasAt l i p = false) : pass l p i = i := by
  unfold pass
  cases l.length - i <;> simp [passL, h]
theorem passL_le (l : List UInt8) (p : Int → Bool) (k : Nat) : ∀ i, i ≤ passL l p k i ∧ (i ≤ l.length → passL l p k i ≤ l.length) := by
  induction k with
  | zero => exact fun i => ⟨Nat.le_refl _, id⟩
  | succ k ih =>
    intro i
    simp only [passL]
    split
    · rename_i h
      have := ih (i + 1)
      have := hasAt_lt h
      exact ⟨by omega, fun _ => (ih (i + 1)).2 (by omega)⟩
    · exact ⟨Nat.le_refl _, id⟩
theorem pass_ge (l : List UInt8) (p : Int → Bool) (i : Nat) : i ≤ pass l p i := (passL_le l p _ i).1
theorem pass_le {l : List UInt8} {p : Int → Bool} {i : Nat} (h : i ≤ l.length) : pass l p i ≤ l.length := (passL_le l p _ i).2 h

/-- A place, or how many bytes it takes to tell that there is none. -/
abbrev Pl := Except Nat Nat

/-- The error, as a value. -/
def errV (n : Nat) : Value := .iface 90 (.agg #[.int .i64 n])
/-- A place, or the error, as they are returned. -/
def plV : Pl → Value
  | .ok k => .tuple #[.int .i64 k, .nilIface]
  | .error n => .tuple #[.int .i64 0, errV n]

def blankB (c : Int) : Bool := c == 9 || c == 10 || c == 13 || c == 32
def digitB (c : Int) : Bool := decide (48 ≤ c) && decide (c ≤ 57)
def plainB (c : Int) : Bool := decide (32 ≤ c) && !(c == 34 || c == 92)

def takenL (l : List UInt8) (i : Nat) (p : Int → Bool) : Pl := if hasAt l i p = true then .ok (i + 1) else .error (i + 1)
def digitsL (l : List UInt8) (i : Nat) : Pl := if hasAt l i digitB = true then .ok (pass l digitB (i + 1)) else .error (i + 1)
/-- Behind a byte that may stand at a place. -/
def aft (l : List UInt8) (i : Nat) (p : Int → Bool) : Nat := if hasAt l i p = true then i + 1 else i
theorem aft_le (l : List UInt8) (i : Nat) (p : Int → Bool) : i ≤ aft l i p ∧ aft l i p ≤ i + 1 ∧ (i ≤ l.length → aft l i p ≤ l.length) := by
  unfold aft
  split
  · rename_i h
    have := hasAt_lt h
    omega
  · omega
def wholeL (l : List UInt8) (i : Nat) : Pl := if hasAt l (aft l i (· == 45)) (· == 48) = true then .ok (aft l i (· == 45) + 1) else digitsL l (aft l i (· == 45))
def exponentL (l : List UInt8) (i : Nat) : Pl := digitsL l (aft l i (fun c => c == 43 || c == 45))
def fracPart (l : List UInt8) : Pl → Pl
  | .ok k => if hasAt l k (· == 46) = true then digitsL l (k + 1) else .ok k
  | .error n => .error n
def expPart (l : List UInt8) : Pl → Pl
  | .ok k => if hasAt l k (fun c => c == 101 || c == 69) = true then exponentL l (k + 1) else .ok k
  | .error n => .error n
def numberL (l : List UInt8) (i : Nat) : Pl := expPart l (fracPart l (wholeL l i))
def spelledL (l : List UInt8) : Nat → List UInt8 → Pl
  | i, [] => .ok i
  | i, c :: cs => if hasAt l i (· == (c.toNat : Int)) = true then spelledL l (i + 1) cs else .error (i + 1)

theorem digitsL_le {l : List UInt8} {i k : Nat} (h : digitsL l i = .ok k) : i < k ∧ k ≤ l.length := by
  unfold digitsL at h
  split at h
  · rename_i g
    have g1 := hasAt_lt g
    cases h
    have := pass_ge l digitB (i + 1)
    have := pass_le (l := l) (p := digitB) (i := i + 1) (by omega)
    omega
  · cases h
theorem wholeL_le {l : List UInt8} {i k : Nat} (h : wholeL l i = .ok k) : i < k ∧ k ≤ l.length := by
  unfold wholeL at h
  have ha := aft_le l i (· == 45)
  split at h
  · rename_i g
    have g1 := hasAt_lt g
    cases h
    omega
  · have := digitsL_le h
    omega
theorem exponentL_le {l : List UInt8} {i k : Nat} (h : exponentL l i = .ok k) : i < k ∧ k ≤ l.length := by
  unfold exponentL at h
  have ha := aft_le l i (fun c => c == 43 || c == 45)
  have := digitsL_le h
  omega
theorem fracPart_le {l : List UInt8} {i k : Nat} (hi : i ≤ l.length) (h : fracPart l (.ok i) = .ok k) : i ≤ k ∧ k ≤ l.length := by
  unfold fracPart at h
  simp only at h
  split at h
  · have := digitsL_le h; omega
  · cases h; exact ⟨Nat.le_refl _, hi⟩
theorem numberL_le {l : List UInt8} {i k : Nat} (h : numberL l i = .ok k) : i < k ∧ k ≤ l.length := by
  unfold numberL at h
  cases hw : wholeL l i with
  | error n => rw [hw] at h; simp [fracPart, expPart] at h
  | ok a =>
    rw [hw] at h
    have ha := wholeL_le hw
    cases hf : fracPart l (.ok a) with
    | error n => rw [hf] at h; simp [expPart] at h
    | ok b =>
      rw [hf] at h
      have hb := fracPart_le ha.2 hf
      unfold expPart at h
      simp only at h
      split at h
      · have := exponentL_le h; omega
      · cases h; omega
theorem spelledL_le {l : List UInt8} (cs : List UInt8) : ∀ {i k : Nat}, spelledL l i cs = .ok k → k = i + cs.length ∧ (i ≤ l.length → k ≤ l.length) := by
  induction cs with
  | nil => intro i k h; simp [spelledL] at h; subst h; exact ⟨rfl, id⟩
  | cons c cs ih =>
    intro i k h
    simp only [spelledL] at h
    split at h
    · rename_i g
      have := ih h
      have := hasAt_lt g
      refine ⟨by simp; omega, fun _ => (ih h).2 (by omega)⟩
    · cases h
end Go.Proofs.YtlahlnocjfphjaaGreatDoor.Lx
