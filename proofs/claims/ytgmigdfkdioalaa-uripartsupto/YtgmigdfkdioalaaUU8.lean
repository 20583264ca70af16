/-
  What uri.schemeOff, uri.authorityOff and uri.parted answer: a text cut at its marks. Conditions: less than 2^32 - 16 bytes.
-/
import Derived.Test.YtgmigdfkdioalaaUU7
namespace Go.Proofs.Ytgmigdfkdioalaa
open Go.RowKit
attribute [local go_sem] setCell_drewN alloc_drewN

theorem indexAny_cases (l : List UInt8) : (Lib.indexAny l [58, 47] = -1 ∧ ix l 58 = l.length ∧ ix l 47 = l.length) ∨ (∃ k, k < l.length ∧ Lib.indexAny l [58, 47] = (k : Int) ∧ l[k]? = some 58 ∧ ix l 58 = k ∧ k < ix l 47) ∨ (∃ k, k < l.length ∧ Lib.indexAny l [58, 47] = (k : Int) ∧ l[k]? = some 47 ∧ ix l 47 = k ∧ k < ix l 58) := by
  induction l with
  | nil => exact .inl ⟨rfl, rfl, rfl⟩
  | cons b l ih =>
    by_cases h1 : b = 58
    · subst h1
      refine .inr (.inl ⟨0, by simp, rfl, rfl, rfl, ?_⟩)
      show 0 < (if ((58 : UInt8) == 47) then 0 else ix l 47 + 1)
      rw [if_neg (by decide)]; omega
    · by_cases h2 : b = 47
      · subst h2
        refine .inr (.inr ⟨0, by simp, rfl, rfl, rfl, ?_⟩)
        show 0 < (if ((47 : UInt8) == 58) then 0 else ix l 58 + 1)
        rw [if_neg (by decide)]; omega
      · have hc : ([58, 47] : List UInt8).contains b = false := by
          cases hc : ([58, 47] : List UInt8).contains b
          · rfl
          · rw [List.contains_iff_mem] at hc
            simp only [List.mem_cons, List.not_mem_nil, or_false] at hc
            rcases hc with e | e
            · exact absurd e h1
            · exact absurd e h2
        have e1 : (b == 58) = false := by rw [beq_eq_false_iff_ne]; exact h1
        have e2 : (b == 47) = false := by rw [beq_eq_false_iff_ne]; exact h2
        simp only [Lib.indexAny, hc, ix, e1, e2, Bool.false_eq_true, if_false, List.length_cons]
        rcases ih with ⟨a1, a2, a3⟩ | ⟨k, a1, a2, a3, a4, a5⟩ | ⟨k, a1, a2, a3, a4, a5⟩
        · refine .inl ⟨by rw [a1]; rfl, by omega, by omega⟩
        · refine .inr (.inl ⟨k + 1, by omega, ?_, by simpa using a3, by omega, by omega⟩)
          rw [a2, if_neg (by rw [beq_iff_eq]; omega)]; omega
        · refine .inr (.inr ⟨k + 1, by omega, ?_, by simpa using a3, by omega, by omega⟩)
          rw [a2, if_neg (by rw [beq_iff_eq]; omega)]; omega

/-- The scheme at a text's begin, and what stands behind its mark. -/
def schL (l : List UInt8) : List UInt8 × List UInt8 := if 0 < ix l 58 ∧ ix l 58 < l.length ∧ ix l 58 < ix l 47 then (l.take (ix l 58), l.drop (ix l 58 + 1)) else ([], l)
def schV (t : List UInt8 × List UInt8) : Value := .tuple #[.string (bs t.1), .string (bs t.2)]

set_option maxHeartbeats 800000 in
theorem schemeOff_any (s : ByteArray) (w : World) (hs : s.size < 4294967281) :
    Calls Try.prog 40 #[.string s] w fun e w' => e = .returned (schV (schL s.data.toList)) ∧ Below w.heap.size w w' := by
  have hl := len_of s
  have h := indexAny_any s w hs
  rcases indexAny_cases s.data.toList with ⟨a1, a2, a3⟩ | ⟨k, a1, a2, a3, a4, a5⟩ | ⟨k, a1, a2, a3, a4, a5⟩
  · have HE : Hid (schL s.data.toList = ([], s.data.toList)) := by show _ = _; unfold schL; rw [if_neg (by omega)]
    rw [a1] at h
    clear a1 a2 a3
    go_enter Try.func40, Try.ntmps40
    go_wp2_with (go_at_call 55; refine h.mono ?_; rintro e w' ⟨rfl, hb⟩)
    go_ret2
    exact ⟨by rw [HE.out]; rfl, hb⟩
  · rw [a2] at h
    have hx := bx_some a3
    rw [hl] at a1
    have hx2 := bx_at s k a1
    rw [hx] at hx2
    have e58 : ((58 : UInt8).toNat : Int) = 58 := rfl
    rw [e58] at hx2
    by_cases k0 : k = 0
    · subst k0
      have HE : Hid (schL s.data.toList = ([], s.data.toList)) := by show _ = _; unfold schL; rw [if_neg (by omega)]
      clear a1 a2 a3 a4 a5 hx hx2
      go_enter Try.func40, Try.ntmps40
      go_wp2_with (go_at_call 55; refine h.mono ?_; rintro e w' ⟨rfl, hb⟩)
      go_ret2
      exact ⟨by rw [HE.out]; rfl, hb⟩
    · have HE : Hid (schL s.data.toList = (s.data.toList.take k, s.data.toList.drop (k + 1))) := by show _ = _; unfold schL; rw [a4, if_pos (by omega)]
      have c0 : (0 : Int) < (k : Int) := by omega
      have cS : (k : Int) < (s.size : Int) := by omega
      have c1 : (0 : Int) ≤ (k : Int) := by omega
      have c2 : (k : Int) ≤ (s.size : Int) := by omega
      have c3 : (0 : Int) ≤ (k : Int) + 1 := by omega
      have c4 : (k : Int) + 1 ≤ (s.size : Int) := by omega
      have tk : s.extract 0 k = bs (s.data.toList.take k) := by rw [piece_bs, List.drop_zero, Nat.sub_zero]
      have dk2 : s.extract (k + 1) s.size = bs (s.data.toList.drop (k + 1)) := by
        rw [piece_bs, List.take_of_length_le]
        rw [List.length_drop]; omega
      have dk : s.extract ((k : Int) + 1).toNat s.size = bs (s.data.toList.drop (k + 1)) := by
        rw [show ((k : Int) + 1).toNat = k + 1 by omega, dk2]
      clear a2 a3 a4 a5 hx k0
      go_enter Try.func40, Try.ntmps40
      go_wp2_with (go_at_call 55; refine h.mono ?_; rintro e w' ⟨rfl, hb⟩)
      go_region
      go_wp2
      go_ret2
      exact ⟨by rw [HE.out]; rfl, bl_d hb⟩
  · rw [a2] at h
    have hx := bx_some a3
    rw [hl] at a1
    have hx2 := bx_at s k a1
    rw [hx] at hx2
    have e47 : ((47 : UInt8).toNat : Int) = 47 := rfl
    rw [e47] at hx2
    have HE : Hid (schL s.data.toList = ([], s.data.toList)) := by show _ = _; unfold schL; rw [if_neg (by omega)]
    by_cases k0 : k = 0
    · subst k0
      clear a1 a2 a3 a4 a5 hx hx2
      go_enter Try.func40, Try.ntmps40
      go_wp2_with (go_at_call 55; refine h.mono ?_; rintro e w' ⟨rfl, hb⟩)
      go_ret2
      exact ⟨by rw [HE.out]; rfl, hb⟩
    · have c0 : (0 : Int) < (k : Int) := by omega
      have cS : (k : Int) < (s.size : Int) := by omega
      clear a2 a3 a4 a5 hx k0
      go_enter Try.func40, Try.ntmps40
      go_wp2_with (go_at_call 55; refine h.mono ?_; rintro e w' ⟨rfl, hb⟩)
      go_ret2
      exact ⟨by rw [HE.out]; rfl, hb⟩

/-- The authority at a text's begin, what stands behind it, and whether there is one. -/
def authL (l : List UInt8) : List UInt8 × List UInt8 × Bool := if Lib.hasPrefix l [47, 47] then ((l.drop 2).take (ix (l.drop 2) 47), (l.drop 2).drop (ix (l.drop 2) 47), true) else ([], l, false)

set_option maxHeartbeats 800000 in
theorem authorityOff_any (s : ByteArray) (w : World) (hs : s.size ≤ 4611686018427387904) :
    Calls Try.prog 41 #[.string s] w fun e w' => e = .returned (cutV (authL s.data.toList)) ∧ Below w.heap.size w w' := by
  have hl := len_of s
  have h := cutPrefix_any s ⟨#[47, 47]⟩ w
  have hp : (ByteArray.mk #[47, 47]).data.toList = [47, 47] := rfl
  have hp2 : (ByteArray.mk #[47, 47]).size = 2 := rfl
  rw [hp, hp2] at h
  cases hb : Lib.hasPrefix s.data.toList [47, 47]
  · rw [hb] at h
    simp only [Bool.false_eq_true, if_false, bs_self] at h
    have HE : Hid (authL s.data.toList = ([], s.data.toList, false)) := by show _ = _; unfold authL; rw [hb]; rfl
    go_enter Try.func41, Try.ntmps41
    go_wp2_with (go_at_call 56; refine h.mono ?_; rintro e w' ⟨rfl, rfl⟩)
    go_ret3
    exact ⟨by rw [HE.out]; rfl, Below.refl _ _⟩
  · rw [hb] at h
    simp only [if_true] at h
    obtain ⟨r, hr⟩ : ∃ r, r = s.data.toList.drop 2 := ⟨_, rfl⟩
    have HE : Hid (authL s.data.toList = (r.take (ix r 47), r.drop (ix r 47), true)) := by show _ = _; unfold authL; rw [hb, hr]; rfl
    have hrl : r.length ≤ s.size := by rw [hr, List.length_drop]; omega
    rw [← hr] at h
    have hI := indexByte_any (bs r) 47 w
    rw [bs_list, show ((47 : Int)).toNat.toUInt8 = 47 from rfl] at hI
    have hz := bs_size r
    have tk : ∀ k, (bs r).extract 0 k = bs (r.take k) := fun k => by rw [piece_bs, List.drop_zero, Nat.sub_zero, bs_list]
    have dk : ∀ k, (bs r).extract k r.length = bs (r.drop k) := fun k => by
      rw [piece_bs, bs_list, List.take_of_length_le]
      rw [List.length_drop]; omega
    rcases idx_ix r 47 with ⟨i1, i2⟩ | ⟨i1, i2⟩
    · rw [i2] at hI
      generalize ix r 47 = k at *
      have c1 : (0 : Int) ≤ (k : Int) := by omega
      have c2 : (k : Int) ≤ (r.length : Int) := by omega
      have c2' : (k : Int) ≤ ((bs r).size : Int) := by omega
      have tk' := tk k
      have dk' := dk k
      clear i1 i2 hr hb tk dk
      go_enter Try.func41, Try.ntmps41
      go_wp2_with first | (go_at_call 56; refine h.mono ?_; rintro e w' ⟨rfl, rfl⟩) | (go_at_call 57; refine hI.mono ?_; rintro e w' ⟨rfl, rfl⟩)
      go_region
      go_wp2
      go_ret3
      exact ⟨by rw [HE.out]; rfl, bl_d (Below.refl _ _)⟩
    · rw [i2] at hI
      rw [i1] at HE
      have tk' := tk r.length
      have dk' := dk r.length
      clear i1 i2 hr hb tk dk
      go_enter Try.func41, Try.ntmps41
      go_wp2_with first | (go_at_call 56; refine h.mono ?_; rintro e w' ⟨rfl, rfl⟩) | (go_at_call 57; refine hI.mono ?_; rintro e w' ⟨rfl, rfl⟩)
      go_region
      go_wp2
      go_ret3
      exact ⟨by rw [HE.out, List.take_length, List.drop_length]; rfl, bl_d (Below.refl _ _)⟩
end Go.Proofs.Ytgmigdfkdioalaa
