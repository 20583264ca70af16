/-
  Bytes as a list, and what lex's small functions are held against: plain mathematics. No condition.
  The library's strings.Builder at this program: what WriteByte and WriteString answer. Conditions: each states its own.
-/
import Derived.Test.YtgbkinkcmkbcmaaDoorJoined4
import Derived.Test.YtgbkinkcmkbcmaaDoorProg
import Derived.Shelf.Strings.BuilderK
namespace Go.Proofs.YtgbkinkcmkbcmaaDoor
open Go.RowKit

theorem setCell_drewN (w : World) (n : Nat) (a : Addr) (v : Value) : (w.drewN n).setCell a v = (w.setCell a v).drewN n := rfl
theorem alloc_drewN (w : World) (n : Nat) (o : Obj) : (w.drewN n).alloc o = (w.alloc o).drewN n := rfl

theorem ret_int {k : IntKind} {a b : Int} (h : a = b) : Ending.returned (.int k a) = .returned (.int k b) := by rw [h]
theorem add_at (b off j : Nat) : (⟨b, off, none⟩ : Addr).add j = ⟨b, off + j, none⟩ := by
  simp only [Addr.add]; split
  · simp_all
  · rfl

/-- A byte of a list, as a number. -/
def bx (l : List UInt8) (i : Nat) : Int := (((l[i]?).getD 0).toNat : Nat)
theorem bx_lo (l : List UInt8) (i : Nat) : 0 ≤ bx l i := Int.natCast_nonneg _
theorem bx_hi (l : List UInt8) (i : Nat) : bx l i < 256 := by
  have := UInt8.toNat_lt ((l[i]?).getD 0)
  unfold bx; omega
/-- A slice of bytes as a value. -/
def Byt (w : World) (v : Value) (l : List UInt8) : Prop := Row w v l.length (bx l)
/-- Does a byte that stands the test stand at a place? -/
def hasAt (l : List UInt8) (i : Nat) (p : Int → Bool) : Bool := decide (i < l.length) && p (bx l i)
theorem hasAt_lt {l : List UInt8} {i : Nat} {p : Int → Bool} (h : hasAt l i p = true) : i < l.length := by
  simp [hasAt] at h; exact h.1
/-- The first place from a place on whose byte fails the test. -/
def passL (l : List UInt8) (p : Int → Bool) : Nat → Nat → Nat
  | 0, i => i
  | k + 1, i => if hasAt l i p = true then passL l p k (i + 1) else i
def pass (l : List UInt8) (p : Int → Bool) (i : Nat) : Nat := passL l p (l.length - i) i
theorem pass_go {l : List UInt8} {p : Int → Bool} {i : Nat} (h : hasAt l i p = true) : pass l p i = pass l p (i + 1) := by
  have h1 := hasAt_lt h
  unfold pass
  obtain ⟨k, e⟩ : ∃ k, l.length - i = k + 1 := ⟨l.length - i - 1, by omega⟩
  rw [e, show l.length - (i + 1) = k by omega]
  simp [passL, h]
theorem pass_stop {l : List UInt8} {p : Int → Bool} {i : Nat} (h : hasAt l i p = false) : pass l p i = i := by
  unfold pass
  cases l.length - i <;> simp [passL, h]
theorem passL_le (l : List UInt8) (p : Int → Bool) (k : Nat) : ∀ i, i ≤ passL l p k i ∧ (i ≤ l.length → passL l p k i ≤ l.length) := by
  induction k with
  | zero => exact fun i => ⟨Nat.le_refl _, id⟩
  | succ k ih =>
    intro i
    simp only [passL]
    split
    · rename_i h
      have := ih (i + 1)
      have := hasAt_lt h
      exact ⟨by omega, fun _ => (ih (i + 1)).2 (by omega)⟩
    · exact ⟨Nat.le_refl _, id⟩
theorem pass_ge (l : List UInt8) (p : Int → Bool) (i : Nat) : i ≤ pass l p i := (passL_le l p _ i).1
theorem pass_le {l : List UInt8} {p : Int → Bool} {i : Nat} (h : i ≤ l.length) : pass l p i ≤ l.length := (passL_le l p _ i).2 h

/-- A place, or how many bytes it takes to tell that there is none. -/
abbrev Pl := Except Nat Nat

def blankB (c : Int) : Bool := c == 9 || c == 10 || c == 13 || c == 32
def digitB (c : Int) : Bool := decide (48 ≤ c) && decide (c ≤ 57)
def plainB (c : Int) : Bool := decide (32 ≤ c) && !(c == 34 || c == 92)

def takenL (l : List UInt8) (i : Nat) (p : Int → Bool) : Pl := if hasAt l i p = true then .ok (i + 1) else .error (i + 1)
def digitsL (l : List UInt8) (i : Nat) : Pl := if hasAt l i digitB = true then .ok (pass l digitB (i + 1)) else .error (i + 1)
/-- Behind a byte that may stand at a place. -/
def aft (l : List UInt8) (i : Nat) (p : Int → Bool) : Nat := if hasAt l i p = true then i + 1 else i
theorem aft_le (l : List UInt8) (i : Nat) (p : Int → Bool) : i ≤ aft l i p ∧ aft l i p ≤ i + 1 ∧ (i ≤ l.length → aft l i p ≤ l.length) := by
  unfold aft
  split
  · rename_i h
    have := hasAt_lt h
    omega
  · omega
def wholeL (l : List UInt8) (i : Nat) : Pl := if hasAt l (aft l i (· == 45)) (· == 48) = true then .ok (aft l i (· == 45) + 1) else digitsL l (aft l i (· == 45))
def exponentL (l : List UInt8) (i : Nat) : Pl := digitsL l (aft l i (fun c => c == 43 || c == 45))
def fracPart (l : List UInt8) : Pl → Pl
  | .ok k => if hasAt l k (· == 46) = true then digitsL l (k + 1) else .ok k
  | .error n => .error n
def expPart (l : List UInt8) : Pl → Pl
  | .ok k => if hasAt l k (fun c => c == 101 || c == 69) = true then exponentL l (k + 1) else .ok k
  | .error n => .error n
def numberL (l : List UInt8) (i : Nat) : Pl := expPart l (fracPart l (wholeL l i))
def spelledL (l : List UInt8) : Nat → List UInt8 → Pl
  | i, [] => .ok i
  | i, c :: cs => if hasAt l i (· == (c.toNat : Int)) = true then spelledL l (i + 1) cs else .error (i + 1)

theorem digitsL_le {l : List UInt8} {i k : Nat} (h : digitsL l i = .ok k) : i < k ∧ k ≤ l.length := by
  unfold digitsL at h
  split at h
  · rename_i g
    have g1 := hasAt_lt g
    cases h
    have := pass_ge l digitB (i + 1)
    have := pass_le (l := l) (p := digitB) (i := i + 1) (by omega)
    omega
  · cases h
theorem wholeL_le {l : List UInt8} {i k : Nat} (h : wholeL l i = .ok k) : i < k ∧ k ≤ l.length := by
  unfold wholeL at h
  have ha := aft_le l i (· == 45)
  split at h
  · rename_i g
    have g1 := hasAt_lt g
    cases h
    omega
  · have := digitsL_le h
    omega
theorem exponentL_le {l : List UInt8} {i k : Nat} (h : exponentL l i = .ok k) : i < k ∧ k ≤ l.length := by
  unfold exponentL at h
  have ha := aft_le l i (fun c => c == 43 || c == 45)
  have := digitsL_le h
  omega
theorem fracPart_le {l : List UInt8} {i k : Nat} (hi : i ≤ l.length) (h : fracPart l (.ok i) = .ok k) : i ≤ k ∧ k ≤ l.length := by
  unfold fracPart at h
  simp only at h
  split at h
  · have := digitsL_le h; omega
  · cases h; exact ⟨Nat.le_refl _, hi⟩
theorem numberL_le {l : List UInt8} {i k : Nat} (h : numberL l i = .ok k) : i < k ∧ k ≤ l.length := by
  unfold numberL at h
  cases hw : wholeL l i with
  | error n => rw [hw] at h; simp [fracPart, expPart] at h
  | ok a =>
    rw [hw] at h
    have ha := wholeL_le hw
    cases hf : fracPart l (.ok a) with
    | error n => rw [hf] at h; simp [expPart] at h
    | ok b =>
      rw [hf] at h
      have hb := fracPart_le ha.2 hf
      unfold expPart at h
      simp only at h
      split at h
      · have := exponentL_le h; omega
      · cases h; omega
theorem spelledL_le {l : List UInt8} (cs : List UInt8) : ∀ {i k : Nat}, spelledL l i cs = .ok k → k = i + cs.length ∧ (i ≤ l.length → k ≤ l.length) := by
  induction cs with
  | nil => intro i k h; simp [spelledL] at h; subst h; exact ⟨rfl, id⟩
  | cons c cs ih =>
    intro i k h
    simp only [spelledL] at h
    split at h
    · rename_i g
      have := ih h
      have := hasAt_lt g
      refine ⟨by simp; omega, fun _ => (ih h).2 (by omega)⟩
    · cases h
end Go.Proofs.YtgbkinkcmkbcmaaDoor

namespace Go.Proofs.YtgbkinkcmkbcmaaDoor
open Go.Shelf
def lays166_ren : Go.Shelf.Ren := ⟨fun | 166 => 50 | 240 => 63 | 276 => 78 | n => n, fun | 0 => 0 | 3 => 3 | 4 => 4 | 5 => 5 | 9 => 9 | 20 => 20 | 37 => 65 | 70 => 74 | 72 => 76 | 75 => 78 | 80 => 81 | 164 => 105 | n => n, fun | n => n⟩
theorem lays166 : Go.Proofs.Lays.n166 Tryd.prog lays166_ren := {
  mixed := by kernel_rfl
  f166 := Tryd.func50.trans (congrArg some (by kernel_rfl))
  f240 := Tryd.func63.trans (congrArg some (by kernel_rfl))
  f276 := Tryd.func78.trans (congrArg some (by kernel_rfl))
  t0 := Tryd.underlying0
  a0 := Tryd.isAgg0
  z0 := Tryd.sizeOf0
  v0 := Tryd.zeroValue0
  t3 := Tryd.underlying3
  a3 := Tryd.isAgg3
  z3 := Tryd.sizeOf3
  v3 := Tryd.zeroValue3
  t4 := Tryd.underlying4
  a4 := Tryd.isAgg4
  z4 := Tryd.sizeOf4
  v4 := Tryd.zeroValue4
  t9 := Tryd.underlying9
  a9 := Tryd.isAgg9
  z9 := Tryd.sizeOf9
  v9 := Tryd.zeroValue9
  t20 := Tryd.underlying20
  a20 := Tryd.isAgg20
  z20 := Tryd.sizeOf20
  v20 := Tryd.zeroValue20
  t37 := Tryd.underlying65
  a37 := Tryd.isAgg65
  z37 := Tryd.sizeOf65
  v37 := Tryd.zeroValue65
  t70 := Tryd.underlying74
  a70 := Tryd.isAgg74
  z70 := Tryd.sizeOf74
  v70 := Tryd.zeroValue74
  t72 := Tryd.underlying76
  a72 := Tryd.isAgg76
  z72 := Tryd.sizeOf76
  v72 := Tryd.zeroValue76
  t75 := Tryd.underlying78
  a75 := Tryd.isAgg78
  z75 := Tryd.sizeOf78
  v75 := Tryd.zeroValue78
  t164 := Tryd.underlying105
  a164 := Tryd.isAgg105
  z164 := Tryd.sizeOf105
  v164 := Tryd.zeroValue105 }
theorem extra166 : Builder.Extra Tryd.prog lays166_ren := {
  sizeBuilder := by kernel_rfl
  liesBuilder := by kernel_rfl
  t5 := Tryd.underlying5
  a5 := Tryd.isAgg5
  z5 := Tryd.sizeOf5
  v5 := Tryd.zeroValue5
  infoByte := by kernel_rfl
  cellsByte := by kernel_rfl
  sizeByte := by kernel_rfl
  neB5 := by decide }

def lays167_ren : Go.Shelf.Ren := ⟨fun | 167 => 52 | 240 => 63 | 276 => 78 | n => n, fun | 0 => 0 | 4 => 4 | 5 => 5 | 9 => 9 | 20 => 20 | 37 => 65 | 70 => 74 | 72 => 76 | 75 => 78 | 80 => 81 | 164 => 105 | n => n, fun | n => n⟩
theorem lays167 : Go.Proofs.Lays.n167 Tryd.prog lays167_ren := {
  mixed := by kernel_rfl
  f167 := Tryd.func52.trans (congrArg some (by kernel_rfl))
  f240 := Tryd.func63.trans (congrArg some (by kernel_rfl))
  f276 := Tryd.func78.trans (congrArg some (by kernel_rfl))
  t0 := Tryd.underlying0
  a0 := Tryd.isAgg0
  z0 := Tryd.sizeOf0
  v0 := Tryd.zeroValue0
  t4 := Tryd.underlying4
  a4 := Tryd.isAgg4
  z4 := Tryd.sizeOf4
  v4 := Tryd.zeroValue4
  t5 := Tryd.underlying5
  a5 := Tryd.isAgg5
  z5 := Tryd.sizeOf5
  v5 := Tryd.zeroValue5
  t9 := Tryd.underlying9
  a9 := Tryd.isAgg9
  z9 := Tryd.sizeOf9
  v9 := Tryd.zeroValue9
  t20 := Tryd.underlying20
  a20 := Tryd.isAgg20
  z20 := Tryd.sizeOf20
  v20 := Tryd.zeroValue20
  t37 := Tryd.underlying65
  a37 := Tryd.isAgg65
  z37 := Tryd.sizeOf65
  v37 := Tryd.zeroValue65
  t70 := Tryd.underlying74
  a70 := Tryd.isAgg74
  z70 := Tryd.sizeOf74
  v70 := Tryd.zeroValue74
  t72 := Tryd.underlying76
  a72 := Tryd.isAgg76
  z72 := Tryd.sizeOf76
  v72 := Tryd.zeroValue76
  t75 := Tryd.underlying78
  a75 := Tryd.isAgg78
  z75 := Tryd.sizeOf78
  v75 := Tryd.zeroValue78
  t164 := Tryd.underlying105
  a164 := Tryd.isAgg105
  z164 := Tryd.sizeOf105
  v164 := Tryd.zeroValue105 }
theorem extra167 : Builder.Extra Tryd.prog lays167_ren := {
  sizeBuilder := by kernel_rfl
  liesBuilder := by kernel_rfl
  t5 := Tryd.underlying5
  a5 := Tryd.isAgg5
  z5 := Tryd.sizeOf5
  v5 := Tryd.zeroValue5
  infoByte := by kernel_rfl
  cellsByte := by kernel_rfl
  sizeByte := by kernel_rfl
  neB5 := by decide }

end Go.Proofs.YtgbkinkcmkbcmaaDoor
