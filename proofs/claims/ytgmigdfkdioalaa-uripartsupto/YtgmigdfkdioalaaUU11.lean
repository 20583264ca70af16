/-
  What uri.looksSchemed, uri.isWellWritten and uri.Parse answer. Conditions: less than 2^32 - 16 bytes.
-/
import Derived.Test.YtgmigdfkdioalaaUU10
namespace Go.Proofs.Ytgmigdfkdioalaa
open Go.RowKit
attribute [local go_sem] setCell_drewN alloc_drewN

/-- Would the path alone be read as a scheme and more? -/
def looksL (u : Ur) : Bool := !(!u.sch.isEmpty || u.hA) && (u.path.take (ix u.path 47)).contains 58
theorem emp_bs (l : List UInt8) : (bs l).toList.isEmpty = l.isEmpty := by rw [bs_toList]

set_option maxRecDepth 100000 in
set_option maxHeartbeats 800000 in
theorem looksSchemed_any (u : Ur) (w : World) (hs : u.path.length ≤ 4611686018427387904) :
    Calls Try.prog 44 #[uV u] w fun e w' => e = .returned (.bool (looksL u)) ∧ Below w.heap.size w w' := by
  obtain ⟨sch, auth, path, q, frag, hA, hQ, hF⟩ := u
  simp only at hs
  have hE := emp_bs sch
  have HL : Hid (looksL ⟨sch, auth, path, q, frag, hA, hQ, hF⟩ = (!(!sch.isEmpty || hA) && (path.take (ix path 47)).contains 58)) := rfl
  have h1 := fun w' => cut_any (bs path) 47 w' (by rw [bs_size]; exact hs)
  have h2 := fun w' => contains_any (bs (path.take (ix path 47))) 58 w'
  simp only [bs_list, cutV, cutL] at h1 h2
  simp only [uV, uc]
  generalize sch.isEmpty = b at *
  generalize path.take (ix path 47) = pt at *
  generalize path.drop (ix path 47 + 1) = pd at *
  generalize decide (ix path 47 < path.length) = px at *
  generalize pt.contains 58 = cb at *
  cases b
  · clear h1 h2
    go_enter Try.func44, Try.ntmps44
    go_wp2
    go_ret
    exact ⟨r_bool (by rw [HL.out]; rfl), bl_a (Below.refl _ _) _⟩
  · cases hA
    · go_enter Try.func44, Try.ntmps44
      go_wp2_with first | (go_at_call 30; refine (h1 _).mono ?_; rintro e w1 ⟨rfl, n, rfl⟩) | (go_at_call 61; refine (h2 _).mono ?_; rintro e w2 ⟨rfl, rfl⟩)
      go_ret
      exact ⟨r_bool (by rw [HL.out]; rfl), bl_n (bl_a (Below.refl _ _) _) _⟩
    · clear h1 h2
      go_enter Try.func44, Try.ntmps44
      go_wp2
      go_ret
      exact ⟨r_bool (by rw [HL.out]; rfl), bl_a (Below.refl _ _) _⟩

/-- Are the parts well written? -/
def wellL (u : Ur) : Bool := schOk u.sch && plainL (pOk [91, 93]) u.auth && plainL (pOk []) u.path && plainL (pOk []) u.q && plainL (pOk []) u.frag && !looksL u
/-- Lengths. -/
def Ul (u : Ur) (n : Nat) : Prop := u.sch.length ≤ n ∧ u.auth.length ≤ n ∧ u.path.length ≤ n ∧ u.q.length ≤ n ∧ u.frag.length ≤ n

set_option maxRecDepth 100000 in
set_option maxHeartbeats 1600000 in
theorem isWellWritten_any (u : Ur) (w : World) (hs : Ul u 4611686018427387904) :
    Calls Try.prog 25 #[uV u] w fun e w' => e = .returned (.bool (wellL u)) ∧ Below w.heap.size w w' := by
  have f1 := fun w' => isScheme_any (bs u.sch) w' (by rw [bs_size]; exact hs.1)
  have f2 := fun w' => hasPlain_any (bs u.auth) ⟨#[91, 93]⟩ w' (by rw [bs_size]; exact hs.2.1)
  have f3 := fun w' => hasPlain_any (bs u.path) ⟨#[]⟩ w' (by rw [bs_size]; exact hs.2.2.1)
  have f4 := fun w' => hasPlain_any (bs u.q) ⟨#[]⟩ w' (by rw [bs_size]; exact hs.2.2.2.1)
  have f5 := fun w' => hasPlain_any (bs u.frag) ⟨#[]⟩ w' (by rw [bs_size]; exact hs.2.2.2.2)
  have f6 := fun w' => looksSchemed_any u w' hs.2.2.1
  have HW : Hid (wellL u = (schOk u.sch && plainL (pOk [91, 93]) u.auth && plainL (pOk []) u.path && plainL (pOk []) u.q && plainL (pOk []) u.frag && !looksL u)) := rfl
  simp only [bs_list] at f1 f2 f3 f4 f5
  generalize schOk u.sch = b1 at *
  generalize plainL (pOk [91, 93]) u.auth = b2 at *
  generalize plainL (pOk []) u.path = b3 at *
  generalize plainL (pOk []) u.q = b4 at *
  generalize plainL (pOk []) u.frag = b5 at *
  generalize looksL u = b6 at *
  generalize wellL u = wl at *
  obtain ⟨sch, auth, path, q, frag, hA, hQ, hF⟩ := u
  simp only [uV, uc] at *
  clear hs
  cases b1
  · go_enter Try.func25, Try.ntmps25
    go_wp2_with (go_at_call 42; refine (f1 _).mono ?_; rintro e w1 ⟨rfl, rfl⟩)
    go_ret
    exact ⟨r_bool (by rw [HW.out]; rfl), bl_a (Below.refl _ _) _⟩
  cases b2
  · go_enter Try.func25, Try.ntmps25
    go_wp2_with first | (go_at_call 42; refine (f1 _).mono ?_; rintro e w1 ⟨rfl, rfl⟩) | (go_at_call 43; with_reducible refine (f2 _).mono ?_; rintro e w1 ⟨rfl, rfl⟩)
    go_ret
    exact ⟨r_bool (by rw [HW.out]; rfl), bl_a (Below.refl _ _) _⟩
  cases b3
  · go_enter Try.func25, Try.ntmps25
    go_wp2_with first | (go_at_call 42; refine (f1 _).mono ?_; rintro e w1 ⟨rfl, rfl⟩) | (go_at_call 43; (first | with_reducible refine (f2 _).mono ?_ | with_reducible refine (f3 _).mono ?_); rintro e w1 ⟨rfl, rfl⟩)
    go_ret
    exact ⟨r_bool (by rw [HW.out]; rfl), bl_a (Below.refl _ _) _⟩
  cases b4
  · go_enter Try.func25, Try.ntmps25
    go_wp2_with first | (go_at_call 42; refine (f1 _).mono ?_; rintro e w1 ⟨rfl, rfl⟩) | (go_at_call 43; (first | with_reducible refine (f2 _).mono ?_ | with_reducible refine (f3 _).mono ?_ | with_reducible refine (f4 _).mono ?_); rintro e w1 ⟨rfl, rfl⟩)
    go_ret
    exact ⟨r_bool (by rw [HW.out]; rfl), bl_a (Below.refl _ _) _⟩
  cases b5
  · go_enter Try.func25, Try.ntmps25
    go_wp2_with first | (go_at_call 42; refine (f1 _).mono ?_; rintro e w1 ⟨rfl, rfl⟩) | (go_at_call 43; (first | with_reducible refine (f2 _).mono ?_ | with_reducible refine (f3 _).mono ?_ | with_reducible refine (f4 _).mono ?_ | with_reducible refine (f5 _).mono ?_); rintro e w1 ⟨rfl, rfl⟩)
    go_ret
    exact ⟨r_bool (by rw [HW.out]; rfl), bl_a (Below.refl _ _) _⟩
  · go_enter Try.func25, Try.ntmps25
    go_wp2_with first | (go_at_call 42; refine (f1 _).mono ?_; rintro e w1 ⟨rfl, rfl⟩) | (go_at_call 43; (first | with_reducible refine (f2 _).mono ?_ | with_reducible refine (f3 _).mono ?_ | with_reducible refine (f4 _).mono ?_ | with_reducible refine (f5 _).mono ?_); rintro e w1 ⟨rfl, rfl⟩) | (go_at_call 44; refine (f6 _).mono ?_; rintro e w2 ⟨rfl, hb2⟩)
    go_ret
    exact ⟨r_bool (by rw [HW.out]; cases b6 <;> rfl), bl_t (bl_a (Below.refl _ _) _) hb2⟩

theorem cutL_len2 (c : UInt8) (l : List UInt8) : (cutL c l).2.1.length ≤ l.length := by show (l.drop _).length ≤ _; rw [List.length_drop]; omega
theorem schL_len1 (l : List UInt8) : (schL l).1.length ≤ l.length := by unfold schL; split; rw [List.length_take]; omega; exact Nat.zero_le _
theorem authL_len (l : List UInt8) : (authL l).1.length ≤ l.length ∧ (authL l).2.1.length ≤ l.length := by
  unfold authL
  split
  · simp only [List.length_take, List.length_drop]; omega
  · exact ⟨Nat.zero_le _, Nat.le_refl _⟩
theorem partL_len (l : List UInt8) : Ul (partL l) l.length := by
  have a1 := cutL_len 35 l
  have a2 := cutL_len2 35 l
  have b1 := cutL_len 63 (cutL 35 l).1
  have b2 := cutL_len2 63 (cutL 35 l).1
  have c1 := schL_len1 (cutL 63 (cutL 35 l).1).1
  have c2 := schL_len (cutL 63 (cutL 35 l).1).1
  have d := authL_len (schL (cutL 63 (cutL 35 l).1).1).2
  unfold Ul partL
  simp only
  omega
/-- A reference, or none. -/
def parseL (l : List UInt8) : Option Ur := if wellL (partL l) then some (partL l) else none
def parV : Option Ur → Value
  | some u => .tuple #[uV u, .int .i64 0]
  | none => .tuple #[uV u0, .int .i64 80]

set_option maxRecDepth 100000 in
set_option maxHeartbeats 1600000 in
theorem parse_any (s : ByteArray) (w : World) (hs : s.size < 4294967281) :
    Calls Try.prog 9 #[.string s] w fun e w' => e = .returned (parV (parseL s.data.toList)) ∧ Below w.heap.size w w' := by
  have hl := len_of s
  have f1 := fun w' => parted_any s w' hs
  have hu := partL_len s.data.toList
  have f2 := fun w' => isWellWritten_any (partL s.data.toList) w' (by unfold Ul at *; omega)
  have HP : Hid (parseL s.data.toList = if wellL (partL s.data.toList) then some (partL s.data.toList) else none) := rfl
  generalize wellL (partL s.data.toList) = b at *
  obtain ⟨⟨sch, auth, path, q, frag, hA, hQ, hF⟩, hp⟩ : ∃ u, u = partL s.data.toList := ⟨_, rfl⟩
  rw [← hp] at HP
  simp only [← hp, uV, uc] at f1 f2
  clear hp hu hl
  cases b
  all_goals
    go_enter Try.func9, Try.ntmps9
    go_wp2_with fail
    refine (f1 _).mono ?_
    rintro e w1 ⟨rfl, hb1⟩
    go_wp2_with fail
    refine (f2 _).mono ?_
    rintro e w2 ⟨rfl, hb2⟩
    have k0 : Bk w2 w.heap.size #[.string ⟨#[]⟩, .string ⟨#[]⟩, .string ⟨#[]⟩, .string ⟨#[]⟩, .string ⟨#[]⟩, .bool false, .bool false, .bool false] := Bk.bel (Bk.al (Bk.bel (Bk.new _ _ _) hb1) _) hb2
    have k1 : Bk w2 w1.heap.size #[.string (bs sch), .string (bs auth), .string (bs path), .string (bs q), .string (bs frag), .bool hA, .bool hQ, .bool hF] := Bk.bel (Bk.new _ _ _) hb2
    have hbel : Below w.heap.size w w2 := bl_t (bl_a (bl_t (bl_a (Below.refl _ _) _) hb1) _) hb2
    clear hb1 hb2 f1 f2
    obtain ⟨x0, x1, x2, x3, x4, x5, x6, x7⟩ := k1.c8
    obtain ⟨p0, p1, p2, p3, p4, p5, p6, p7⟩ := k0.c8
    obtain ⟨q0, q1, q2, q3, q4, q5, q6, q7⟩ := k0.z8
    clear k1 k0
    go_wp2
    try simp only [Exit.inBlock, Exit.then]
    refine bodyPost_ret (by simp [results, Try.results9, go_sem, p0, p1, p2, p3, p4, p5, p6, p7]; try rfl) rfl ?_
    exact ⟨by rw [HP.out]; rfl, by with_reducible repeat (first | exact hbel | refine bl_s ?_ (Nat.le_refl _) _)⟩
end Go.Proofs.Ytgmigdfkdioalaa
