/-
  What uri.Resolve, uri.absolute, uri.Join, uri.Bare and uri.Absolute answer. Conditions: less than 2^32 - 16 bytes, parts of at most 2^42 bytes.
-/
import Derived.Test.YtgmigdfkdioalaaUU14
namespace Go.Proofs.Ytgmigdfkdioalaa
open Go.RowKit
attribute [local go_sem] setCell_drewN alloc_drewN

set_option maxRecDepth 100000 in
set_option maxHeartbeats 1600000 in
theorem resolve_any (b u : Ur) (w : World) (hs : b.path.length ≤ 35184372088832) (hs2 : u.path.length ≤ 35184372088832) :
    Calls Try.prog 18 #[uV b, uV u] w fun e w' => e = .returned (uV (resolveL b u)) ∧ Below w.heap.size w w' := by
  have hS := fun bl w' hk => settle_any b u bl w' hk hs hs2
  obtain ⟨⟨rsch, rauth, rpath, rq, rfrag, rhA, rhQ, rhF⟩, hR⟩ : ∃ r, r = resolveL b u := ⟨_, rfl⟩
  simp only [← hR] at hS ⊢
  clear hR
  obtain ⟨sch, auth, path, q, frag, hA, hQ, hF⟩ := u
  obtain ⟨bsch, bauth, bpath, bq, bfrag, bhA, bhQ, bhF⟩ := b
  simp only [uV, uc, rc] at *
  clear hs hs2
  go_enter Try.func18, Try.ntmps18
  go_wp2_with fail
  refine (hS _ _ (Bk.new' _ _ _ _ (by simp))).mono ?_
  rintro e w1 ⟨rfl, k1, hb1⟩
  have k0 : Bk w1 (w.heap.size + 2) #[.string ⟨#[]⟩, .string ⟨#[]⟩, .string ⟨#[]⟩, .string ⟨#[]⟩, .string ⟨#[]⟩, .bool false, .bool false, .bool false] := Bk.below (Bk.al (Bk.new' _ _ _ _ (by simp)) _) hb1 (by omega)
  have hbel : Below w.heap.size w w1 := (bl_a (bl_a (bl_a (bl_a (Below.refl _ _) _) _) _) _).trans (hb1.mono (by omega))
  clear hb1 hS
  obtain ⟨c0, c1, c2, c3, c4, c5, c6, c7, d0, d1, d2, d3, d4, d5, d6, d7⟩ := k1.c16
  obtain ⟨p0, p1, p2, p3, p4, p5, p6, p7⟩ := k0.c8
  obtain ⟨q0, q1, q2, q3, q4, q5, q6, q7⟩ := k0.z8
  clear k1 k0
  go_wp2
  try simp only [Exit.inBlock, Exit.then]
  refine bodyPost_ret (by simp [results, Try.results18, go_sem, p0, p1, p2, p3, p4, p5, p6, p7]; try rfl) rfl ?_
  exact ⟨rfl, by with_reducible repeat (first | exact hbel | refine bl_s ?_ (by omega) _)⟩

/-- A reference with a scheme and without a fragment. -/
def absL (l : List UInt8) : Option Ur := (parseL l).bind fun u => if u.sch.isEmpty || u.hF then none else some u
def absV : Option Ur → Value
  | some u => .tuple #[uV u, .bool true]
  | none => .tuple #[uV u0, .bool false]

set_option maxRecDepth 100000 in
set_option maxHeartbeats 1600000 in
theorem absolute_any (s : ByteArray) (w : World) (hs : s.size < 4294967281) :
    Calls Try.prog 34 #[.string s] w fun e w' => e = .returned (absV (absL s.data.toList)) ∧ Below w.heap.size w w' := by
  have f1 := fun w' => parse_any s w' hs
  have HA : Hid (absL s.data.toList = (parseL s.data.toList).bind fun u => if u.sch.isEmpty || u.hF then none else some u) := rfl
  generalize parseL s.data.toList = pl at *
  generalize absL s.data.toList = al at *
  cases pl with
  | none =>
    have HA2 : Hid (al = none) := HA.out
    have f2 : ∃ u : Ur, ∀ w', Calls Try.prog 9 #[.string s] w' fun e w2 => e = .returned (.tuple #[uV u, .int .i64 80]) ∧ Below w'.heap.size w' w2 := ⟨u0, f1⟩
    clear HA f1
    obtain ⟨⟨sch, auth, path, q, frag, hA, hQ, hF⟩, f1⟩ := f2
    simp only [uV, uc] at f1
    go_enter Try.func34, Try.ntmps34
    go_wp2_with fail
    refine (f1 _).mono ?_
    rintro e w1 ⟨rfl, hb1⟩
    have k0 : Bk w1 w.heap.size #[.string ⟨#[]⟩, .string ⟨#[]⟩, .string ⟨#[]⟩, .string ⟨#[]⟩, .string ⟨#[]⟩, .bool false, .bool false, .bool false] := Bk.bel (Bk.new _ _ _) hb1
    have hbel : Below w.heap.size w w1 := bl_t (bl_a (Below.refl _ _) _) hb1
    obtain ⟨W, hW⟩ : ∃ W, w1.alloc (.cells #[.string (bs sch), .string (bs auth), .string (bs path), .string (bs q), .string (bs frag), .bool hA, .bool hQ, .bool hF] 23) = W := ⟨_, rfl⟩
    have k2 : Bk W w.heap.size #[.string ⟨#[]⟩, .string ⟨#[]⟩, .string ⟨#[]⟩, .string ⟨#[]⟩, .string ⟨#[]⟩, .bool false, .bool false, .bool false] := hW ▸ k0.al _
    have k3 : Bk W w1.heap.size #[.string (bs sch), .string (bs auth), .string (bs path), .string (bs q), .string (bs frag), .bool hA, .bool hQ, .bool hF] := hW ▸ Bk.new _ _ _
    have hbel2 : Below w.heap.size w W := hW ▸ bl_a hbel _
    clear hb1 f1 hbel k0
    obtain ⟨x0, x1, x2, x3, x4, x5, x6, x7⟩ := k3.c8
    obtain ⟨p0, p1, p2, p3, p4, p5, p6, p7⟩ := k2.c8
    obtain ⟨q0, q1, q2, q3, q4, q5, q6, q7⟩ := k2.z8
    clear k2 k3
    go_wp2
    try simp only [Exit.inBlock, Exit.then]
    refine bodyPost_ret (by simp [results, Try.results34, go_sem, p0, p1, p2, p3, p4, p5, p6, p7]; try rfl) rfl ?_
    exact ⟨by rw [HA2.out]; rfl, by with_reducible repeat (first | exact hbel2 | refine bl_s ?_ (Nat.le_refl _) _)⟩
  | some u =>
    obtain ⟨sch, auth, path, q, frag, hA, hQ, hF⟩ := u
    have E1 := emp_bs sch
    have HA2 : Hid (al = if sch.isEmpty || hF then none else some ⟨sch, auth, path, q, frag, hA, hQ, hF⟩) := HA.out
    simp only [parV, uV, uc] at f1
    clear HA
    generalize sch.isEmpty = se at *
    cases se
    all_goals
      go_enter Try.func34, Try.ntmps34
      go_wp2_with fail
      refine (f1 _).mono ?_
      rintro e w1 ⟨rfl, hb1⟩
      have k0 : Bk w1 w.heap.size #[.string ⟨#[]⟩, .string ⟨#[]⟩, .string ⟨#[]⟩, .string ⟨#[]⟩, .string ⟨#[]⟩, .bool false, .bool false, .bool false] := Bk.bel (Bk.new _ _ _) hb1
      have hbel : Below w.heap.size w w1 := bl_t (bl_a (Below.refl _ _) _) hb1
      obtain ⟨W, hW⟩ : ∃ W, w1.alloc (.cells #[.string (bs sch), .string (bs auth), .string (bs path), .string (bs q), .string (bs frag), .bool hA, .bool hQ, .bool hF] 23) = W := ⟨_, rfl⟩
      have k2 : Bk W w.heap.size #[.string ⟨#[]⟩, .string ⟨#[]⟩, .string ⟨#[]⟩, .string ⟨#[]⟩, .string ⟨#[]⟩, .bool false, .bool false, .bool false] := hW ▸ k0.al _
      have k3 : Bk W w1.heap.size #[.string (bs sch), .string (bs auth), .string (bs path), .string (bs q), .string (bs frag), .bool hA, .bool hQ, .bool hF] := hW ▸ Bk.new _ _ _
      have hbel2 : Below w.heap.size w W := hW ▸ bl_a hbel _
      clear hb1 f1 hbel k0
      obtain ⟨x0, x1, x2, x3, x4, x5, x6, x7⟩ := k3.c8
      obtain ⟨p0, p1, p2, p3, p4, p5, p6, p7⟩ := k2.c8
      obtain ⟨q0, q1, q2, q3, q4, q5, q6, q7⟩ := k2.z8
      clear k2 k3
      go_wp2
      all_goals
        try simp only [Exit.inBlock, Exit.then]
        refine bodyPost_ret (by simp [results, Try.results34, go_sem, p0, p1, p2, p3, p4, p5, p6, p7]; try rfl) rfl ?_
        exact ⟨by rw [HA2.out]; simp [*, absV, uV, uc, u0]; try rfl, by with_reducible repeat (first | exact hbel2 | refine bl_s ?_ (Nat.le_refl _) _)⟩
end Go.Proofs.Ytgmigdfkdioalaa
