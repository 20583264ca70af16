/-
  What lex.quoted answers: the string as it is written. Conditions: the bytes lie in memory, at most 2^43 of them.
-/
import Derived.Test.YtpeoepcfiejpmaaDoorZ1
namespace Go.Proofs.YtpeoepcfiejpmaaDoor
open Go.RowKit
attribute [local go_sem] setCell_drewN alloc_drewN

/-- A string's bytes as they are written. -/
def bodyL (l : List UInt8) : List UInt8 := l.flatMap fun c => if plainB (c.toNat : Int) = true then [c] else escOne c
def quoteL (l : List UInt8) : List UInt8 := 34 :: (bodyL l ++ [34])
theorem body_append (a b : List UInt8) : bodyL (a ++ b) = bodyL a ++ bodyL b := by simp [bodyL]
theorem body_plain {l : List UInt8} (h : ∀ c ∈ l, plainB (c.toNat : Int) = true) : bodyL l = l := by
  induction l with
  | nil => rfl
  | cons c l ih =>
    have e : bodyL (c :: l) = (if plainB (c.toNat : Int) = true then [c] else escOne c) ++ bodyL l := by simp [bodyL]
    rw [e, if_pos (h c (by simp)), ih (fun d hd => h d (by simp [hd]))]
    rfl
theorem body_esc {c : UInt8} (h : plainB (c.toNat : Int) = false) : bodyL [c] = escOne c := by simp [bodyL, h]
theorem passL_all {l : List UInt8} {p : Int → Bool} (k : Nat) : ∀ i j, i ≤ j → j < passL l p k i → p (bx l j) = true := by
  induction k with
  | zero => intro i j h1 h2; simp only [passL] at h2; omega
  | succ k ih =>
    intro i j h1 h2
    simp only [passL] at h2
    split at h2
    · rename_i g
      by_cases e : i = j
      · subst e; simp [hasAt] at g; exact g.2
      · exact ih (i + 1) j (by omega) h2
    · omega
theorem pass_all {l : List UInt8} {p : Int → Bool} {i j : Nat} (h1 : i ≤ j) (h2 : j < pass l p i) : p (bx l j) = true := passL_all _ i j h1 h2
theorem passL_end {l : List UInt8} {p : Int → Bool} (k : Nat) : ∀ i, l.length ≤ i + k → hasAt l (passL l p k i) p = false := by
  induction k with
  | zero => intro i h; simp only [passL]; exact hasAt_out p (by omega)
  | succ k ih =>
    intro i h
    simp only [passL]
    split
    · exact ih (i + 1) (by omega)
    · rename_i g; simpa using g
theorem pass_end (l : List UInt8) (p : Int → Bool) (i : Nat) : hasAt l (pass l p i) p = false := passL_end _ i (by omega)
theorem take_sub (l : List UInt8) {a e : Nat} (h : a ≤ e) : l.take e = l.take a ++ sub l a e := by
  unfold sub
  rw [← List.take_add, show a + (e - a) = e by omega]
theorem body_run {l : List UInt8} {i : Nat} (hi : i ≤ l.length) : bodyL (l.take (pass l plainB i)) = bodyL (l.take i) ++ sub l i (pass l plainB i) := by
  have h1 := pass_ge l plainB i
  have h2 := pass_le (l := l) (p := plainB) hi
  rw [take_sub l h1, body_append]
  congr 1
  refine body_plain (fun c hc => ?_)
  obtain ⟨j, hj, rfl⟩ := List.getElem_of_mem hc
  have hj' : j < pass l plainB i - i := by rw [sub_length h1 h2] at hj; exact hj
  have := pass_all (l := l) (p := plainB) (i := i) (j := i + j) (by omega) (by omega)
  rw [← bx_sub hj', ← bx_at hj] at this
  exact this
theorem body_step {l : List UInt8} {e : Nat} (he : e < l.length) (h : plainB (bx l e) = false) : bodyL (l.take (e + 1)) = bodyL (l.take e) ++ escOne l[e] := by
  rw [List.take_succ_eq_append_getElem he, body_append, body_esc]
  rw [bx_at he]; exact h
theorem escOne_len (c : UInt8) : (escOne c).length ≤ 6 := by
  unfold escOne
  repeat' split
  all_goals simp
theorem body_len (l : List UInt8) : (bodyL l).length ≤ 6 * l.length := by
  induction l with
  | nil => simp [bodyL]
  | cons c l ih =>
    have e : bodyL (c :: l) = (if plainB (c.toNat : Int) = true then [c] else escOne c) ++ bodyL l := by simp [bodyL]
    rw [e, List.length_append, List.length_cons]
    have := escOne_len c
    split <;> simp <;> omega
theorem str_cells (t : List UInt8) : Lib.strCells ⟨t.toArray⟩ = cellsL t := by simp [Lib.strCells, cellsL]
theorem not_plain {c : UInt8} (h : plainB (c.toNat : Int) = false) : c.toNat < 32 ∨ c.toNat = 34 ∨ c.toNat = 92 := by
  simp [plainB] at h
  omega
theorem escaped_any (c : UInt8) (h : plainB (c.toNat : Int) = false) (w : World) :
    Calls Tryd.prog 39 #[.int .u8 (c.toNat : Int)] w fun r w' => r = .returned (.string ⟨(escOne c).toArray⟩) ∧ ∃ n, w' = w.drewN n := by
  have := escaped_lit c.toNat (not_plain h) w
  rw [UInt8.ofNat_toNat] at this
  exact this
theorem own_str {w : World} {base : Nat} {v : Value} {a b : List UInt8} {n : Nat} (hn : n = a.length) (h : w.ownsRow base 5 1 v (n + (ByteArray.mk b.toArray).size) (cellsL a ++ Lib.strCells ⟨b.toArray⟩)) : w.ownsRow base 5 1 v (a ++ b).length (cellsL (a ++ b)) := by
  subst hn
  rw [str_cells, cells_cat] at h
  rw [List.length_append]
  simpa [ByteArray.size] using h
end Go.Proofs.YtpeoepcfiejpmaaDoor
