/-
  What ref8.Absolute, ref8.Join and ref8.Bare answer; UriJoins. Conditions: at most 2^30 bytes each.
-/
import Derived.Test.YtgmigdfkdioalaaUR4
import Derived.Test.YtgmigdfkdioalaaUR6
import Derived.Test.YtgmigdfkdioalaaUR7
import Derived.Test.YtgmigdfkdioalaaUU20
namespace Go.Proofs.Ytgmigdfkdioalaa
open Go.RowKit
attribute [local go_sem] setCell_drewN alloc_drewN

theorem parV_form (o : Option Ur) : ∃ (u : Ur) (n : Int), parV o = .tuple #[uV u, .int .i64 n] ∧ ((o = some u ∧ n = 0) ∨ (o = none ∧ n = 80)) := by
  cases o with
  | none => exact ⟨u0, 80, rfl, .inr ⟨rfl, rfl⟩⟩
  | some u => exact ⟨u, 0, rfl, .inl ⟨rfl, rfl⟩⟩

set_option maxRecDepth 100000 in
set_option maxHeartbeats 800000 in
theorem rabsolute_any (l : List UInt8) (w : World) (hs : l.length ≤ 1073741824) :
    Calls Try.prog 16 #[.string (bs l)] w fun e w' => e = .returned (.bool (absL l).isSome) ∧ Below w.heap.size w w' := by
  have f1 := fun w' => rparse_any l w' (by omega)
  have HA : Hid (absL l = (parseL l).bind fun u => if u.sch.isEmpty || u.hF then none else some u) := rfl
  generalize absL l = al at *
  obtain ⟨⟨sch, auth, path, q, frag, hA, hQ, hF⟩, n, hpv, hc⟩ := parV_form (parseL l)
  simp only [hpv, uV, uc] at f1
  have E1 := emp_bs sch
  rcases hc with ⟨hp, rfl⟩ | ⟨hp, rfl⟩
  · rw [hp, Option.bind_some] at HA
    simp only at HA
    have HA2 : Hid (al.isSome = !(sch.isEmpty || hF)) := by show _ = _; rw [HA.out]; cases sch.isEmpty <;> cases hF <;> rfl
    generalize sch.isEmpty = se at *
    clear HA hp hpv
    cases se
    all_goals
      go_enter Try.func16, Try.ntmps16
      go_wp2_with fail
      refine (f1 _).mono ?_
      rintro e w1 ⟨rfl, hb1⟩
      obtain ⟨W, hW⟩ : ∃ W, w1.alloc (.cells #[.string (bs sch), .string (bs auth), .string (bs path), .string (bs q), .string (bs frag), .bool hA, .bool hQ, .bool hF] 23) = W := ⟨_, rfl⟩
      have k1 : Bk W w1.heap.size #[.string (bs sch), .string (bs auth), .string (bs path), .string (bs q), .string (bs frag), .bool hA, .bool hQ, .bool hF] := hW ▸ Bk.new _ _ _
      have hbel : Below w.heap.size w W := hW ▸ bl_a hb1 _
      obtain ⟨x0, x1, x2, x3, x4, x5, x6, x7⟩ := k1.c8
      clear hb1 f1 k1
      go_wp2
      go_ret
      exact ⟨r_bool (by rw [HA2.out]; cases hF <;> rfl), hbel⟩
  · rw [hp] at HA
    have HA2 : Hid (al = none) := HA.out
    clear HA hp hpv
    go_enter Try.func16, Try.ntmps16
    go_wp2_with fail
    refine (f1 _).mono ?_
    rintro e w1 ⟨rfl, hb1⟩
    obtain ⟨W, hW⟩ : ∃ W, w1.alloc (.cells #[.string (bs sch), .string (bs auth), .string (bs path), .string (bs q), .string (bs frag), .bool hA, .bool hQ, .bool hF] 23) = W := ⟨_, rfl⟩
    have k1 : Bk W w1.heap.size #[.string (bs sch), .string (bs auth), .string (bs path), .string (bs q), .string (bs frag), .bool hA, .bool hQ, .bool hF] := hW ▸ Bk.new _ _ _
    have hbel : Below w.heap.size w W := hW ▸ bl_a hb1 _
    obtain ⟨x0, x1, x2, x3, x4, x5, x6, x7⟩ := k1.c8
    clear hb1 f1 k1
    go_wp2
    go_ret
    exact ⟨r_bool (by rw [HA2.out]; rfl), hbel⟩

set_option maxHeartbeats 400000 in
theorem rbare_any (l : List UInt8) (w : World) (hs : l.length ≤ 1152921504606846976) :
    Calls Try.prog 12 #[.string (bs l)] w fun e w' => e = .returned (.tuple #[.string (bs (cutL 35 l).1), .string (bs (cutL 35 l).2.1)]) ∧ Below w.heap.size w w' := by
  have h := ri l 35 35 w rfl (by omega)
  have hz := bs_size l
  by_cases hk : ix l 35 < l.length
  · rw [cutL_hit hk]
    have hq : ((ix l 35 : Int) == (l.length : Int)) = false := by rw [beq_eq_false_iff_ne]; omega
    have n1 : (0 : Int) ≤ (ix l 35 : Int) := by omega
    have n2 : (ix l 35 : Int) ≤ (l.length : Int) := by omega
    have n3 : (0 : Int) ≤ (ix l 35 : Int) + 1 := by omega
    have n4 : (ix l 35 : Int) + 1 ≤ (l.length : Int) := by omega
    have w1 : IntKind.i64.wrap ((ix l 35 : Int) + 1) = (ix l 35 : Int) + 1 := by rw [IntKind.wrap_i64]; omega
    have e1 := ex_t l (ix l 35)
    have e2 := ex_d l (ix l 35 + 1)
    have e3 : (bs l).extract ((ix l 35 : Int) + 1).toNat l.length = bs (l.drop (ix l 35 + 1)) := by rw [show ((ix l 35 : Int) + 1).toNat = ix l 35 + 1 by omega]; exact e2
    generalize l.take (ix l 35) = a1 at *
    generalize l.drop (ix l 35 + 1) = a2 at *
    generalize ix l 35 = k at *
    clear hk hs
    go_enter Try.func12, Try.ntmps12
    go_wp2_with (go_at_call 29; refine h.mono ?_; rintro e w' ⟨rfl, rfl⟩)
    go_region
    go_wp2
    go_ret2
    exact ⟨rfl, bl_d (Below.refl _ _)⟩
  · rw [cutL_miss hk]
    have hle := ix_le l 35
    have hkk : ix l 35 = l.length := by omega
    rw [hkk] at h
    clear hk hle hkk hs
    go_enter Try.func12, Try.ntmps12
    go_wp2_with (go_at_call 29; refine h.mono ?_; rintro e w' ⟨rfl, rfl⟩)
    go_ret2
    exact ⟨rfl, Below.refl _ _⟩

set_option maxRecDepth 100000 in
set_option maxHeartbeats 1600000 in
theorem rjoin_any (a s : List UInt8) (w : World) (ha : a.length ≤ 1073741824) (hs : s.length ≤ 1073741824) :
    Calls Try.prog 23 #[.string (bs a), .string (bs s)] w fun e w' => e = .returned (jV (joinL a s)) ∧ Below w.heap.size w w' := by
  have f1 := fun w' => rparse_any a w' (by omega)
  have f2 := fun w' => rparse_any s w' (by omega)
  have f3 := fun w' => rabsolute_any a w' ha
  have HJ : Hid (joinL a s = (absL a).bind fun b => (parseL s).map fun u => textL (resolveL b u)) := rfl
  have n1 := @abs_len a
  have n2 := @parse_len s
  have n3 : ∀ b, absL a = some b → parseL a = some b := fun b h => by
    unfold absL at h
    cases hp : parseL a with
    | none => rw [hp] at h; cases h
    | some v =>
      rw [hp, Option.bind_some] at h
      split at h
      · cases h
      · injection h with h; rw [h]
  generalize joinL a s = jl at *
  obtain ⟨bb, m1, hpv1, hc1⟩ := parV_form (parseL a)
  obtain ⟨uu, m2, hpv2, hc2⟩ := parV_form (parseL s)
  simp only [hpv1] at f1
  simp only [hpv2] at f2
  cases hal : absL a with
  | none =>
    rw [hal] at HJ
    simp only [hal] at f3
    have HJ2 : Hid (jl = none) := HJ.out
    clear n1 n2 n3 HJ hc1 hc2 hpv1 hpv2
    obtain ⟨bsch, bauth, bpath, bq, bfrag, bhA, bhQ, bhF⟩ := bb
    obtain ⟨sch, auth, path, q, frag, hA, hQ, hF⟩ := uu
    simp only [uV, uc, Option.isSome_none] at f1 f2 f3
    go_enter Try.func23, Try.ntmps23
    go_wp2_with fail
    refine (f1 _).mono ?_
    rintro e w1 ⟨rfl, hb1⟩
    go_wp2_with fail
    refine (f2 _).mono ?_
    rintro e w2 ⟨rfl, hb2⟩
    go_wp2_with fail
    refine (f3 _).mono ?_
    rintro e w3 ⟨rfl, hb3⟩
    have hbel : Below w.heap.size w w3 := bl_t (bl_a (bl_t (bl_a hb1 _) hb2) _) hb3
    clear hb1 hb2 hb3 f1 f2 f3
    go_wp2
    go_ret2
    exact ⟨by rw [HJ2.out]; rfl, hbel⟩
  | some b =>
    have hpa := n3 b hal
    simp only [hal] at f3
    rw [hal, Option.bind_some] at HJ
    obtain ⟨hb, rfl⟩ : bb = b ∧ m1 = 0 := by
      rcases hc1 with ⟨h, h'⟩ | ⟨h, _⟩
      · rw [hpa] at h; injection h with h; exact ⟨h.symm, h'⟩
      · rw [hpa] at h; cases h
    subst hb
    have u1 := usum_of (n1 hal)
    have v1 := (n1 hal).2.2.1
    clear n1 n3 hc1 hpv1 hal hpa
    rcases hc2 with ⟨hp, rfl⟩ | ⟨hp, rfl⟩
    · have u2 := usum_of (n2 hp)
      have v2 := (n2 hp).2.2.1
      have u3 := resolve_len bb uu
      have f4 := fun w' => rresolve_any bb uu w' (by omega) (by omega)
      have f5 := fun w' => rtext_any (resolveL bb uu) w' (by omega)
      rw [hp, Option.map_some] at HJ
      generalize textL (resolveL bb uu) = tx at *
      generalize resolveL bb uu = ru at *
      clear u1 u2 u3 v1 v2 n2 hp hpv2
      obtain ⟨bsch, bauth, bpath, bq, bfrag, bhA, bhQ, bhF⟩ := bb
      obtain ⟨sch, auth, path, q, frag, hA, hQ, hF⟩ := uu
      simp only [uV, uc, Option.isSome_some] at f1 f2 f3 f4
      go_enter Try.func23, Try.ntmps23
      go_wp2_with fail
      refine (f1 _).mono ?_
      rintro e w1 ⟨rfl, hb1⟩
      go_wp2_with fail
      refine (f2 _).mono ?_
      rintro e w2 ⟨rfl, hb2⟩
      have kA : Bk w2 w1.heap.size #[.string (bs bsch), .string (bs bauth), .string (bs bpath), .string (bs bq), .string (bs bfrag), .bool bhA, .bool bhQ, .bool bhF] := Bk.bel (Bk.new _ _ _) hb2
      have hbel2 : Below w.heap.size w w2 := bl_t (bl_a hb1 _) hb2
      obtain ⟨W, hW⟩ : ∃ W, w2.alloc (.cells #[.string (bs sch), .string (bs auth), .string (bs path), .string (bs q), .string (bs frag), .bool hA, .bool hQ, .bool hF] 23) = W := ⟨_, rfl⟩
      have kA2 : Bk W w1.heap.size #[.string (bs bsch), .string (bs bauth), .string (bs bpath), .string (bs bq), .string (bs bfrag), .bool bhA, .bool bhQ, .bool bhF] := hW ▸ kA.al _
      have kB2 : Bk W w2.heap.size #[.string (bs sch), .string (bs auth), .string (bs path), .string (bs q), .string (bs frag), .bool hA, .bool hQ, .bool hF] := hW ▸ Bk.new _ _ _
      have hbelW : Below w.heap.size w W := hW ▸ bl_a hbel2 _
      clear hb1 hb2 f1 f2 hbel2 kA
      go_wp2_with fail
      refine (f3 _).mono ?_
      rintro e w3 ⟨rfl, hb3⟩
      have kA3 := kA2.bel hb3
      have kB3 := kB2.bel hb3
      have hbel3 := bl_t hbelW hb3
      clear hW kA2 kB2 hbelW hb3 f3
      obtain ⟨x0, x1, x2, x3, x4, x5, x6, x7⟩ := kA3.c8
      obtain ⟨y0, y1, y2, y3, y4, y5, y6, y7⟩ := kB3.c8
      clear kA3 kB3
      go_wp2_with fail
      refine (f4 _).mono ?_
      rintro e w4 ⟨rfl, hb4⟩
      have f5' := f5 w4
      simp only [uV, uc] at f5'
      clear x0 x1 x2 x3 x4 x5 x6 x7 y0 y1 y2 y3 y4 y5 y6 y7 f4
      go_wp2_with fail
      refine f5'.mono ?_
      rintro e w5 ⟨rfl, hb5⟩
      go_wp2
      go_ret2
      exact ⟨by rw [HJ.out]; rfl, bl_t (bl_t hbel3 hb4) hb5⟩
    · rw [hp] at HJ
      have HJ2 : Hid (jl = none) := HJ.out
      clear u1 v1 n2 hp hpv2 HJ
      obtain ⟨bsch, bauth, bpath, bq, bfrag, bhA, bhQ, bhF⟩ := bb
      obtain ⟨sch, auth, path, q, frag, hA, hQ, hF⟩ := uu
      simp only [uV, uc, Option.isSome_some] at f1 f2 f3
      go_enter Try.func23, Try.ntmps23
      go_wp2_with fail
      refine (f1 _).mono ?_
      rintro e w1 ⟨rfl, hb1⟩
      go_wp2_with fail
      refine (f2 _).mono ?_
      rintro e w2 ⟨rfl, hb2⟩
      go_wp2_with fail
      refine (f3 _).mono ?_
      rintro e w3 ⟨rfl, hb3⟩
      have hbel : Below w.heap.size w w3 := bl_t (bl_a (bl_t (bl_a hb1 _) hb2) _) hb3
      clear hb1 hb2 hb3 f1 f2 f3
      go_wp2
      go_ret2
      exact ⟨by rw [HJ2.out]; rfl, hbel⟩

theorem jV_form (o : Option (List UInt8)) : ∃ (t : List UInt8) (n : Int), jV o = .tuple #[.string (bs t), .int .i64 n] := by
  cases o with
  | none => exact ⟨[], 80, rfl⟩
  | some t => exact ⟨t, 0, rfl⟩
set_option maxHeartbeats 800000 in
theorem joins_walk (a s : ByteArray) (w : World) (ha : a.size ≤ 1073741824) (hs : s.size ≤ 1073741824) :
    Calls Try.prog 5 #[.string a, .string s] w fun e w' => e = .returned (.bool true) ∧ Below w.heap.size w w' := by
  have f1 := fun w' => join_any a s w' (by omega) (by omega)
  have f2 := fun w' => rjoin_any a.data.toList s.data.toList w' (by rw [len_of]; omega) (by rw [len_of]; omega)
  simp only [bs_self] at f2
  obtain ⟨t, n, hj⟩ := jV_form (joinL a.data.toList s.data.toList)
  simp only [hj] at f1 f2
  have hH := heads_any
  clear hj
  go_enter Try.func5, Try.ntmps5
  go_wp2_with first | (go_at_call 22; refine (f1 _).mono ?_; rintro e w1 ⟨rfl, hb1⟩) | (go_at_call 23; refine (f2 _).mono ?_; rintro e w2 ⟨rfl, hb2⟩) | (go_at_call 17; refine (hH _).mono ?_; rintro e w3 ⟨rfl, hb3⟩)
  go_ret
  exact ⟨rfl, bl_t (bl_t hb1 hb2) hb3⟩
end Go.Proofs.Ytgmigdfkdioalaa
