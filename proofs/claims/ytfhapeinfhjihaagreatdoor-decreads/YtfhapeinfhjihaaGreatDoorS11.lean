/-
  What dec.Parse answers, for every text. Conditions: the package's sentinel and the library's variable errors.errorType as the program lays them.
-/
import Derived.Test.YtfhapeinfhjihaaGreatDoorS10
namespace Go.Proofs.YtfhapeinfhjihaaGreatDoor
open Go.RowKit

theorem len_twdw (l : List UInt8) : (tw l).length + (dw l).length = l.length := by
  have := congrArg List.length (List.takeWhile_append_dropWhile (p := isD) (l := l))
  rw [List.length_append] at this
  exact this
theorem fracL_len {l f r : List UInt8} (h : fracL l = some (f, r)) : f.length + r.length ≤ l.length := by
  unfold fracL at h
  split at h
  · split at h
    · cases h
    · simp only [Option.some.injEq, Prod.mk.injEq] at h
      have := len_twdw l.tail
      rw [← h.1, ← h.2]; simp at this ⊢; omega
  · simp only [Option.some.injEq, Prod.mk.injEq] at h
    rw [← h.1, ← h.2]; simp
theorem expL_len {l x r : List UInt8} {m : Bool} (h : expL l = some (m, x, r)) : x.length + r.length ≤ l.length := by
  unfold expL at h
  split at h
  · split at h
    · cases h
    · simp only [Option.some.injEq, Prod.mk.injEq] at h
      have := len_twdw (signL l.tail)
      have := len_sign l.tail
      rw [← h.2.1, ← h.2.2]; simp at this; omega
  · simp only [Option.some.injEq, Prod.mk.injEq] at h
    rw [← h.2.1, ← h.2.2]; simp
theorem behindL_len {neg : Bool} {w l r : List UInt8} {p : P3} (h : behindL neg w l = some (p, r)) : p.int = w ∧ p.frac.length + p.exp.length ≤ l.length := by
  unfold behindL at h
  split at h
  · cases h
  · rename_i f l3 hf
    split at h
    · cases h
    · rename_i m x r' hx
      simp only [Option.some.injEq, Prod.mk.injEq] at h
      rw [← h.1]
      have := fracL_len hf
      have := expL_len hx
      exact ⟨rfl, by simp only; omega⟩
theorem splitL_facts {l r : List UInt8} {p : P3} (h : splitL l = some (p, r)) : PD p ∧ p.int.length + p.frac.length + p.exp.length ≤ l.length := by
  have hm := len_minus l
  unfold splitL at h
  split at h
  · rename_i h48
    have hb := behindL_len h
    refine ⟨behindL_pd (by decide) h, ?_⟩
    rw [hb.1]
    have : (minusL l).length = 1 + (minusL l).tail.length := by
      cases hq : minusL l with
      | nil => rw [hq] at h48; simp at h48
      | cons c t => simp; omega
    have := hb.2
    simp at *
    omega
  · split at h
    · cases h
    · have hb := behindL_len h
      refine ⟨behindL_pd (tw_all _) h, ?_⟩
      rw [hb.1]
      have := len_twdw (minusL l)
      have := hb.2
      omega
theorem parse_list (l : List UInt8) (a : Addr) (w : World) (hE : Env w a) (hs : l.length ≤ maxLen) :
    Calls Tryz.prog 6 #[.string (bs l)] w fun e w' => e = .returned (.tuple #[d3 (parseL l).2, .int .i64 (parseL l).1]) ∧ Below w.heap.size w w' := by
  unfold parseL
  rw [← split_cut]
  cases h : splitL l with
  | none => exact parse_none l a w hE (fun w => read_no l w hs h)
  | some x =>
    obtain ⟨P, r⟩ := x
    cases r with
    | cons c r => exact parse_none l a w hE (fun w => read_left l P c r w hs h)
    | nil =>
      obtain ⟨f1, f2⟩ := splitL_facts h
      have hr := fun w (hE : Env w a) => read_parts l P _ w hE.large hs h f1 (by omega) (by omega)
      have e : wholeL (some (P, [])) = some P := by simp [wholeL]
      rw [e]
      simp only
      cases hv : valueL 1131072 P with
      | none =>
        simp only [hv, Option.getD_none, Option.isSome_none, Bool.false_eq_true, if_false] at hr
        exact parse_large l a w hE hr
      | some d =>
        simp only [hv, Option.getD_some, Option.isSome_some, if_true] at hr
        exact parse_ok l d a w hE hr
theorem parse_any (s : ByteArray) (a : Addr) (w : World) (hE : Env w a) (hs : s.size ≤ maxLen) :
    Calls Tryz.prog 6 #[.string s] w fun e w' => e = .returned (.tuple #[d3 (parseL s.data.toList).2, .int .i64 (parseL s.data.toList).1]) ∧ Below w.heap.size w w' :=
  parse_list s.data.toList a w hE (by rw [len_of]; exact hs)
end Go.Proofs.YtfhapeinfhjihaaGreatDoor
