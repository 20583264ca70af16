/-
  A reference's text comes back: plain mathematics. No condition.
-/
import Derived.Test.YtgmigdfkdioalaaUU17
namespace Go.Proofs.Ytgmigdfkdioalaa
open Go.RowKit

theorem cut_back (c : UInt8) (l : List UInt8) : l = (cutL c l).1 ++ if (cutL c l).2.2 then c :: (cutL c l).2.1 else [] := by
  show l = l.take (ix l c) ++ if decide (ix l c < l.length) then c :: l.drop (ix l c + 1) else []
  rcases Nat.lt_or_ge (ix l c) l.length with h | h
  · rw [decide_eq_true h, if_pos rfl]
    have h1 := ix_at l c h
    rw [List.getElem?_eq_getElem h] at h1
    injection h1 with h1
    conv => lhs; rw [← List.take_append_drop (ix l c) l, List.drop_eq_getElem_cons h, h1]
  · rw [decide_eq_false (by omega), List.take_of_length_le h]
    simp
theorem sch_back (l : List UInt8) : l = (if !(schL l).1.isEmpty then (schL l).1 ++ [58] else []) ++ (schL l).2 := by
  unfold schL
  split
  · rename_i h
    have h1 := ix_at l 58 h.2.1
    rw [List.getElem?_eq_getElem h.2.1] at h1
    injection h1 with h1
    have hne : (l.take (ix l 58)).isEmpty = false := by
      cases hl : l.take (ix l 58) with
      | nil =>
        have := congrArg List.length hl
        rw [List.length_take] at this
        simp only [List.length_nil] at this
        omega
      | cons _ _ => rfl
    simp only [hne, Bool.not_false, if_true]
    conv => lhs; rw [← List.take_append_drop (ix l 58) l, List.drop_eq_getElem_cons h.2.1, h1]
    simp
  · simp
theorem auth_back (l : List UInt8) : l = (if (authL l).2.2 then [47, 47] ++ (authL l).1 else []) ++ (authL l).2.1 := by
  unfold authL
  split
  · rename_i h
    obtain ⟨t, rfl⟩ := List.isPrefixOf_iff_prefix.1 h
    simp
  · simp
theorem text_part (l : List UInt8) : textL (partL l) = l := by
  have h1 := cut_back 35 l
  have h2 := cut_back 63 (cutL 35 l).1
  have h3 := sch_back (cutL 63 (cutL 35 l).1).1
  have h4 := auth_back (schL (cutL 63 (cutL 35 l).1).1).2
  unfold textL partL
  simp only
  conv => rhs; rw [h1, h2, h3, h4]
  simp [List.append_assoc]
theorem text_bare (l : List UInt8) : textL { partL l with frag := [], hF := false } = (cutL 35 l).1 := by
  have h2 := cut_back 63 (cutL 35 l).1
  have h3 := sch_back (cutL 63 (cutL 35 l).1).1
  have h4 := auth_back (schL (cutL 63 (cutL 35 l).1).1).2
  unfold textL partL
  simp only
  conv => rhs; rw [h2, h3, h4]
  simp [List.append_assoc]
theorem parse_part {l : List UInt8} {u : Ur} (h : parseL l = some u) : u = partL l := by
  unfold parseL at h
  split at h
  · injection h with h; exact h.symm
  · cases h
end Go.Proofs.Ytgmigdfkdioalaa
