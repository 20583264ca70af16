/-
  UriBack: a reference's text comes back. Conditions: less than 2^32 - 16 bytes.
-/
import Derived.Test.YtgmigdfkdioalaaUU20
namespace Go.Proofs.Ytgmigdfkdioalaa
open Go.RowKit
attribute [local go_sem] setCell_drewN alloc_drewN

set_option maxRecDepth 100000 in
set_option maxHeartbeats 1600000 in
theorem back_walk (s : ByteArray) (w : World) (hs : s.size < 4294967281) :
    Calls Try.prog 6 #[.string s] w fun e w' => e = .returned (.bool true) ∧ Below w.heap.size w w' := by
  have hl := len_of s
  have f1 := fun w' => parse_any s w' hs
  have hH := heads_any
  have hPP := @parse_part s.data.toList
  generalize hpl : parseL s.data.toList = pl at *
  cases pl with
  | none =>
    have f2 : ∃ u : Ur, Hid (u = u0) ∧ ∀ w', Calls Try.prog 9 #[.string s] w' fun e w2 => e = .returned (.tuple #[uV u, .int .i64 80]) ∧ Below w'.heap.size w' w2 := ⟨u0, rfl, f1⟩
    clear f1 hPP
    obtain ⟨⟨sch, auth, path, q, frag, hA, hQ, hF⟩, hu, f1⟩ := f2
    simp only [uV, uc] at f1
    have hu' := hu.out
    unfold u0 at hu'
    injection hu' with i1 i2 i3 i4 i5 i6 i7 i8
    have e1 : (bs sch).toList = [] := by rw [bs_toList, i1]
    have e2 : (bs auth).toList = [] := by rw [bs_toList, i2]
    have e3 : (bs path).toList = [] := by rw [bs_toList, i3]
    have e4 : (bs q).toList = [] := by rw [bs_toList, i4]
    have e5 : (bs frag).toList = [] := by rw [bs_toList, i5]
    have e6 : (hA == false) = true := by rw [i6]; rfl
    have e7 : (hQ == false) = true := by rw [i7]; rfl
    have e8 : (hF == false) = true := by rw [i8]; rfl
    clear i1 i2 i3 i4 i5 i6 i7 i8 hu hpl hl
    go_enter Try.func6, Try.ntmps6
    go_wp2_with first | (go_at_call 9; refine (f1 _).mono ?_; rintro e w1 ⟨rfl, hb1⟩) | (go_at_call 17; refine (hH _).mono ?_; rintro e w2 ⟨rfl, hb2⟩)
    go_ret
    exact ⟨rfl, bl_t (bl_a hb1 _) hb2⟩
  | some u =>
    have hu := hPP rfl
    have hln := parse_len hpl
    have us := usum_of hln
    rw [hl] at us
    have tu : textL u = s.data.toList := by rw [hu]; exact text_part _
    have tb : textL { u with frag := [], hF := false } = (cutL 35 s.data.toList).1 := by rw [hu]; exact text_bare _
    have f2 : ∀ w', Calls Try.prog 13 #[uV u] w' fun e w2 => e = .returned (.string s) ∧ Below w'.heap.size w' w2 := fun w' => by
      have := text_any u w' (by omega)
      rw [tu] at this
      exact this
    have f3 := fun w' => bare_any s w' (by omega)
    have f4 : ∀ w', Calls Try.prog 13 #[uV { u with frag := [], hF := false }] w' fun e w2 => e = .returned (.string (bs (cutL 35 s.data.toList).1)) ∧ Below w'.heap.size w' w2 := fun w' => by
      have := text_any { u with frag := [], hF := false } w' (by unfold usum at *; simp only [List.length_nil]; omega)
      rw [tb] at this
      exact this
    generalize (cutL 35 s.data.toList).1 = bl at *
    generalize (cutL 35 s.data.toList).2.1 = bf at *
    clear hu hln us tu tb hPP hpl hl
    obtain ⟨sch, auth, path, q, frag, hA, hQ, hF⟩ := u
    simp only [uV, uc, parV] at f1 f2 f4
    have e0 : bs [] = ⟨#[]⟩ := rfl
    rw [e0] at f4
    go_enter Try.func6, Try.ntmps6
    go_wp2_with fail
    refine (f1 _).mono ?_
    rintro e w1 ⟨rfl, hb1⟩
    obtain ⟨W1, hW1⟩ : ∃ W, w1.alloc (.cells #[.string (bs sch), .string (bs auth), .string (bs path), .string (bs q), .string (bs frag), .bool hA, .bool hQ, .bool hF] 23) = W := ⟨_, rfl⟩
    have kA : Bk W1 w1.heap.size #[.string (bs sch), .string (bs auth), .string (bs path), .string (bs q), .string (bs frag), .bool hA, .bool hQ, .bool hF] := hW1 ▸ Bk.new _ _ _
    have hbel1 : Below w.heap.size w W1 := hW1 ▸ bl_a hb1 _
    obtain ⟨x0, x1, x2, x3, x4, x5, x6, x7⟩ := kA.c8
    clear hb1
    go_wp2_with fail
    refine (f2 _).mono ?_
    rintro e w2 ⟨rfl, hb2⟩
    have kA2 := kA.bel hb2
    have hbel2 := bl_t hbel1 hb2
    clear x0 x1 x2 x3 x4 x5 x6 x7 hW1 kA hbel1 hb2 f2
    go_wp2_with fail
    refine (f1 _).mono ?_
    rintro e w3 ⟨rfl, hb3⟩
    obtain ⟨W3, hW3⟩ : ∃ W, w3.alloc (.cells #[.string (bs sch), .string (bs auth), .string (bs path), .string (bs q), .string (bs frag), .bool hA, .bool hQ, .bool hF] 23) = W := ⟨_, rfl⟩
    have kA3 : Bk W3 w1.heap.size #[.string (bs sch), .string (bs auth), .string (bs path), .string (bs q), .string (bs frag), .bool hA, .bool hQ, .bool hF] := hW3 ▸ (kA2.bel hb3).al _
    have kB3 : Bk W3 w3.heap.size #[.string (bs sch), .string (bs auth), .string (bs path), .string (bs q), .string (bs frag), .bool hA, .bool hQ, .bool hF] := hW3 ▸ Bk.new _ _ _
    have hbel3 : Below w.heap.size w W3 := hW3 ▸ bl_a (bl_t hbel2 hb3) _
    clear kA2 hbel2 hb3 f1
    go_wp2_with fail
    refine (f3 _).mono ?_
    rintro e w4 ⟨rfl, hb4⟩
    have kA4 := kA3.bel hb4
    have kB4 := kB3.bel hb4
    have hbel4 := bl_t hbel3 hb4
    clear hW3 kA3 kB3 hbel3 hb4 f3
    obtain ⟨x0, x1, x2, x3, x4, x5, x6, x7⟩ := kA4.c8
    obtain ⟨y0, y1, y2, y3, y4, y5, y6, y7⟩ := kB4.c8
    obtain ⟨W5, hW5⟩ : ∃ W, w4.alloc (.cells #[.string (bs sch), .string (bs auth), .string (bs path), .string (bs q), .string ⟨#[]⟩, .bool hA, .bool hQ, .bool false] 23) = W := ⟨_, rfl⟩
    have kA5 : Bk W5 w1.heap.size #[.string (bs sch), .string (bs auth), .string (bs path), .string (bs q), .string (bs frag), .bool hA, .bool hQ, .bool hF] := hW5 ▸ kA4.al _
    have kB5 : Bk W5 w3.heap.size #[.string (bs sch), .string (bs auth), .string (bs path), .string (bs q), .string (bs frag), .bool hA, .bool hQ, .bool hF] := hW5 ▸ kB4.al _
    have kC5 : Bk W5 w4.heap.size #[.string (bs sch), .string (bs auth), .string (bs path), .string (bs q), .string ⟨#[]⟩, .bool hA, .bool hQ, .bool false] := hW5 ▸ Bk.new _ _ _
    have hbel5 : Below w.heap.size w W5 := hW5 ▸ bl_a hbel4 _
    obtain ⟨p0, p1, p2, p3, p4, p5, p6, p7⟩ := kA5.c8
    obtain ⟨q0, q1, q2, q3, q4, q5, q6, q7⟩ := kB5.c8
    obtain ⟨r0, r1, r2, r3, r4, r5, r6, r7⟩ := kC5.c8
    clear kA4 kB4 hbel4 kA5 kB5 kC5
    go_wp2_with first | (go_at_call 13; refine (f4 _).mono ?_; rintro e w6 ⟨rfl, hb6⟩) | (go_at_call 17; refine (hH _).mono ?_; rintro e w7 ⟨rfl, hb7⟩)
    go_ret
    exact ⟨rfl, bl_t (bl_t hbel5 hb6) hb7⟩
end Go.Proofs.Ytgmigdfkdioalaa
