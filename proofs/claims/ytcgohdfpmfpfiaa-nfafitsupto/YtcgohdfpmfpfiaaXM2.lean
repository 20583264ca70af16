/-
  What rx.Turn answers: what is in none of the ranges; the sets by a letter; a set's tree. Conditions: at most 2^30 ranges.
-/
import Derived.Test.YtcgohdfpmfpfiaaXM1
namespace Go.Proofs.Ytcgohdfpmfpfiaa
open Go.RowKit
attribute [local go_sem] setCell_drewN alloc_drewN

theorem merge_len (l : List (Int × Int)) : (mergeL l).length ≤ l.length := by
  have put_len : ∀ (out : List (Int × Int)) (st : List (Int × Int) × Bool × (Int × Int)), (putLast (out.foldl stepM st)).length ≤ out.length + st.1.length + (if st.2.1 then 0 else 1) := by
    intro out
    induction out with
    | nil =>
      intro st
      simp only [List.foldl_nil, putLast]
      by_cases h : st.2.1 = true
      · simp [h]
      · simp [h]
    | cons r out ih =>
      intro st
      rw [List.foldl_cons]
      refine Nat.le_trans (ih _) ?_
      unfold stepM
      split
      · simp only [List.length_append, List.length_cons, List.length_nil]; omega
      · split
        · simp only
          split <;> simp <;> omega
        · simp only [List.length_cons]; omega
  have go : ∀ (l out : List (Int × Int)), (l.foldl mergeS out).length ≤ out.length + l.length := by
    intro l
    induction l with
    | nil => intro out; simp
    | cons r l ih =>
      intro out
      rw [List.foldl_cons]
      refine Nat.le_trans (ih _) ?_
      unfold mergeS
      split
      · simp only [List.length_cons]; omega
      · have := put_len out ([], false, cutR r)
        simp only [List.length_nil, Bool.false_eq_true, reduceIte] at this
        simp only [List.length_cons, putR]; omega
  have := go l []
  simp at this
  exact this

end Go.Proofs.Ytcgohdfpmfpfiaa
