/-
  What uri.Join, uri.Bare and uri.Absolute answer. Conditions: less than 2^32 - 16 bytes each.
-/
import Derived.Test.YtgmigdfkdioalaaUU15
namespace Go.Proofs.Ytgmigdfkdioalaa
open Go.RowKit
attribute [local go_sem] setCell_drewN alloc_drewN

theorem dotsF_len : ∀ (n : Nat) (r o : List UInt8), (dotsF n r o).length ≤ o.length + r.length
  | 0, r, o => by simp [dotsF]
  | n + 1, r, o => by
    simp only [dotsF]
    by_cases h : r = []
    · rw [if_pos h]; omega
    · rw [if_neg h]
      have h1 := step_len h
      have h2 := upL_len o
      have := dotsF_len n (stepL r).2.2 ((if (stepL r).1 then upL o else o) ++ (stepL r).2.1)
      rw [List.length_append] at this
      have h3 : (if (stepL r).1 then upL o else o).length ≤ o.length := by split <;> omega
      omega
theorem dots_len (p : List UInt8) : (dotsL p).length ≤ p.length := by
  have := dotsF_len p.length p []
  unfold dotsL
  simpa using this
theorem resolve_len (b u : Ur) : usum (resolveL b u) ≤ usum b + usum u + 1 := by
  have h1 := dots_len u.path
  have h2 := dots_len (fullL b u)
  have h3 := fullL_len b u
  unfold resolveL usum
  repeat' split
  all_goals simp only
  all_goals omega
theorem usum_of {u : Ur} {n : Nat} (h : Ul u n) : usum u ≤ 5 * n := by unfold Ul at h; unfold usum; omega
theorem parse_len {l : List UInt8} {u : Ur} (h : parseL l = some u) : Ul u l.length := by
  unfold parseL at h
  split at h
  · injection h with h; rw [← h]; exact partL_len l
  · cases h
theorem abs_len {l : List UInt8} {u : Ur} (h : absL l = some u) : Ul u l.length := by
  unfold absL at h
  cases hp : parseL l with
  | none => rw [hp] at h; cases h
  | some v =>
    rw [hp, Option.bind_some] at h
    split at h
    · cases h
    · injection h with h; rw [← h]; exact parse_len hp
/-- What a text comes to at a base. -/
def joinL (a s : List UInt8) : Option (List UInt8) := (absL a).bind fun b => (parseL s).map fun u => textL (resolveL b u)
def jV : Option (List UInt8) → Value
  | some t => .tuple #[.string (bs t), .int .i64 0]
  | none => .tuple #[.string ⟨#[]⟩, .int .i64 80]

set_option maxHeartbeats 400000 in
theorem bare_any (s : ByteArray) (w : World) (hs : s.size ≤ 4611686018427387904) :
    Calls Try.prog 11 #[.string s] w fun e w' => e = .returned (.tuple #[.string (bs (cutL 35 s.data.toList).1), .string (bs (cutL 35 s.data.toList).2.1)]) ∧ Below w.heap.size w w' := by
  have h := cut_any s 35 w hs
  obtain ⟨⟨a, b, c⟩, hc⟩ : ∃ t, t = cutL 35 s.data.toList := ⟨_, rfl⟩
  simp only [← hc, cutV] at h ⊢
  go_enter Try.func11, Try.ntmps11
  go_wp2_with (go_at_call 30; refine h.mono ?_; rintro e w1 ⟨rfl, n, rfl⟩)
  go_ret2
  exact ⟨rfl, bl_n (Below.refl _ _) _⟩

theorem absV_form (o : Option Ur) : ∃ u : Ur, absV o = .tuple #[uV u, .bool o.isSome] := by
  cases o with
  | none => exact ⟨u0, rfl⟩
  | some u => exact ⟨u, rfl⟩
set_option maxHeartbeats 400000 in
theorem absoluteB_any (s : ByteArray) (w : World) (hs : s.size < 4294967281) :
    Calls Try.prog 15 #[.string s] w fun e w' => e = .returned (.bool (absL s.data.toList).isSome) ∧ Below w.heap.size w w' := by
  have h := absolute_any s w hs
  obtain ⟨⟨sch, auth, path, q, frag, hA, hQ, hF⟩, hu⟩ := absV_form (absL s.data.toList)
  rw [hu] at h
  simp only [uV, uc] at h
  generalize (absL s.data.toList).isSome = b at *
  go_enter Try.func15, Try.ntmps15
  go_wp2_with (go_at_call 34; refine h.mono ?_; rintro e w1 ⟨rfl, hb1⟩)
  go_ret
  exact ⟨rfl, bl_a hb1 _⟩

set_option maxRecDepth 100000 in
set_option maxHeartbeats 1600000 in
theorem join_any (a s : ByteArray) (w : World) (ha : a.size < 4294967281) (hs : s.size < 4294967281) :
    Calls Try.prog 22 #[.string a, .string s] w fun e w' => e = .returned (jV (joinL a.data.toList s.data.toList)) ∧ Below w.heap.size w w' := by
  have l1 := len_of a
  have l2 := len_of s
  have f1 := fun w' => absolute_any a w' ha
  have f2 := fun w' => parse_any s w' hs
  have HJ : Hid (joinL a.data.toList s.data.toList = (absL a.data.toList).bind fun b => (parseL s.data.toList).map fun u => textL (resolveL b u)) := rfl
  have n1 := @abs_len a.data.toList
  have n2 := @parse_len s.data.toList
  rw [l1] at n1
  rw [l2] at n2
  generalize joinL a.data.toList s.data.toList = jl at *
  generalize absL a.data.toList = al at *
  generalize parseL s.data.toList = pl at *
  clear l1 l2
  cases al with
  | none =>
    have f1' : ∃ u : Ur, ∀ w', Calls Try.prog 34 #[.string a] w' fun e w2 => e = .returned (.tuple #[uV u, .bool false]) ∧ Below w'.heap.size w' w2 := ⟨u0, f1⟩
    clear f1 n1 n2 f2
    obtain ⟨⟨sch, auth, path, q, frag, hA, hQ, hF⟩, f1⟩ := f1'
    simp only [uV, uc] at f1
    go_enter Try.func22, Try.ntmps22
    go_wp2_with (go_at_call 34; refine (f1 _).mono ?_; rintro e w1 ⟨rfl, hb1⟩)
    go_ret2
    exact ⟨by rw [HJ.out]; rfl, bl_a hb1 _⟩
  | some b =>
    have n1' := n1 rfl
    cases pl with
    | none =>
      have f2' : ∃ u : Ur, ∀ w', Calls Try.prog 9 #[.string s] w' fun e w2 => e = .returned (.tuple #[uV u, .int .i64 80]) ∧ Below w'.heap.size w' w2 := ⟨u0, f2⟩
      clear f2 n1 n2 n1'
      obtain ⟨⟨sch, auth, path, q, frag, hA, hQ, hF⟩, f2⟩ := f2'
      obtain ⟨bsch, bauth, bpath, bq, bfrag, bhA, bhQ, bhF⟩ := b
      simp only [absV, uV, uc] at f1 f2
      go_enter Try.func22, Try.ntmps22
      go_wp2_with first | (go_at_call 34; refine (f1 _).mono ?_; rintro e w1 ⟨rfl, hb1⟩) | (go_at_call 9; refine (f2 _).mono ?_; rintro e w2 ⟨rfl, hb2⟩)
      go_ret2
      exact ⟨by rw [HJ.out]; rfl, bl_a (bl_t (bl_a hb1 _) hb2) _⟩
    | some u =>
      have n2' := n2 rfl
      have u1 := usum_of n1'
      have u2 := usum_of n2'
      have u3 := resolve_len b u
      have f3 := fun w' => resolve_any b u w' (by have := n1'.2.2.1; omega) (by have := n2'.2.2.1; omega)
      have f4 := fun w' => text_any (resolveL b u) w' (by omega)
      have HJ2 : Hid (jl = some (textL (resolveL b u))) := HJ.out
      generalize textL (resolveL b u) = tx at *
      generalize resolveL b u = ru at *
      clear u1 u2 u3 n1 n2 n1' n2' HJ
      obtain ⟨sch, auth, path, q, frag, hA, hQ, hF⟩ := u
      obtain ⟨bsch, bauth, bpath, bq, bfrag, bhA, bhQ, bhF⟩ := b
      simp only [absV, parV, uV, uc] at f1 f2 f3
      go_enter Try.func22, Try.ntmps22
      go_wp2_with fail
      refine (f1 _).mono ?_
      rintro e w1 ⟨rfl, hb1⟩
      go_wp2_with fail
      refine (f2 _).mono ?_
      rintro e w2 ⟨rfl, hb2⟩
      have k1 : Bk w2 w1.heap.size #[.string (bs bsch), .string (bs bauth), .string (bs bpath), .string (bs bq), .string (bs bfrag), .bool bhA, .bool bhQ, .bool bhF] := Bk.bel (Bk.new _ _ _) hb2
      have hbel : Below w.heap.size w w2 := bl_t (bl_a hb1 _) hb2
      obtain ⟨W, hW⟩ : ∃ W, w2.alloc (.cells #[.string (bs sch), .string (bs auth), .string (bs path), .string (bs q), .string (bs frag), .bool hA, .bool hQ, .bool hF] 23) = W := ⟨_, rfl⟩
      have k2 : Bk W w1.heap.size #[.string (bs bsch), .string (bs bauth), .string (bs bpath), .string (bs bq), .string (bs bfrag), .bool bhA, .bool bhQ, .bool bhF] := hW ▸ k1.al _
      have k3 : Bk W w2.heap.size #[.string (bs sch), .string (bs auth), .string (bs path), .string (bs q), .string (bs frag), .bool hA, .bool hQ, .bool hF] := hW ▸ Bk.new _ _ _
      have hbel2 : Below w.heap.size w W := hW ▸ bl_a hbel _
      clear hb1 hb2 f1 f2 hbel k1
      obtain ⟨x0, x1, x2, x3, x4, x5, x6, x7⟩ := k3.c8
      obtain ⟨p0, p1, p2, p3, p4, p5, p6, p7⟩ := k2.c8
      clear k2 k3
      go_wp2_with fail
      refine (f3 _).mono ?_
      rintro e w3 ⟨rfl, hb3⟩
      clear x0 x1 x2 x3 x4 x5 x6 x7 p0 p1 p2 p3 p4 p5 p6 p7 hW
      have f4' := f4 w3
      simp only [uV, uc] at f4'
      go_wp2_with fail
      refine f4'.mono ?_
      rintro e w4 ⟨rfl, hb4⟩
      go_wp2
      go_ret2
      exact ⟨by rw [HJ2.out]; rfl, bl_t (bl_t hbel2 hb3) hb4⟩
end Go.Proofs.Ytgmigdfkdioalaa
