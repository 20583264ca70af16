/-
  UriAbsolute: what is joined to a base has a scheme, an empty reference is the base, what is absolute stays. Conditions: at most 2^30 bytes each.
-/
import Derived.Test.YtgmigdfkdioalaaUU20
namespace Go.Proofs.Ytgmigdfkdioalaa
open Go.RowKit
attribute [local go_sem] setCell_drewN alloc_drewN

theorem abs_parse {l : List UInt8} {b : Ur} (h : absL l = some b) : parseL l = some b ∧ b.sch.isEmpty = false ∧ b.hF = false := by
  unfold absL at h
  cases hp : parseL l with
  | none => rw [hp] at h; cases h
  | some v =>
    rw [hp, Option.bind_some] at h
    cases h1 : v.sch.isEmpty <;> cases h2 : v.hF <;> rw [h1, h2] at h
    · simp only [Bool.or_false, Bool.false_eq_true, if_false] at h
      injection h with h
      subst h
      exact ⟨rfl, h1, h2⟩
    all_goals simp at h
theorem parse_none : parseL [] = some u0 := by decide +kernel
theorem abs_x : absL [120, 58, 47, 121] = some ⟨[120], [], [47, 121], [], [], false, false, false⟩ := by decide +kernel
theorem join_empty {l : List UInt8} {b : Ur} (h : absL l = some b) : joinL l [] = some l := by
  obtain ⟨h1, h2, h3⟩ := abs_parse h
  unfold joinL
  rw [h, Option.bind_some, parse_none, Option.map_some]
  have e : resolveL b u0 = { b with frag := [], hF := false } := rfl
  have e2 : textL { b with frag := [], hF := false } = textL b := by unfold textL; rw [h3]; rfl
  rw [e, e2, parse_part h1, text_part]
theorem join_x {l : List UInt8} {b : Ur} (h : absL l = some b) : joinL [120, 58, 47, 121] l = some (textL { b with path := dotsL b.path }) := by
  obtain ⟨h1, h2, h3⟩ := abs_parse h
  unfold joinL
  rw [abs_x, Option.bind_some, h1, Option.map_some]
  unfold resolveL
  rw [h2]
  rfl
theorem resolve_sch {b u : Ur} (h : b.sch.isEmpty = false) : (resolveL b u).sch.isEmpty = false := by
  unfold resolveL
  cases hs : u.sch.isEmpty
  · simp [hs]
  · simp only [Bool.not_true, Bool.false_eq_true, if_false]
    split
    · exact h
    split
    · exact h
    split
    · exact h
    · exact h
theorem text_pos {u : Ur} (h : u.sch.isEmpty = false) : 0 < (textL u).length := by
  unfold textL
  rw [h]
  simp only [Bool.not_false, if_true, List.length_append, List.length_cons, List.length_nil]
  omega
theorem join_some {a s t : List UInt8} (h : joinL a s = some t) : ∃ b, absL a = some b ∧ 0 < t.length := by
  unfold joinL at h
  cases ha : absL a with
  | none => rw [ha] at h; cases h
  | some b =>
    rw [ha, Option.bind_some] at h
    cases hp : parseL s with
    | none => rw [hp] at h; cases h
    | some u =>
      rw [hp, Option.map_some] at h
      injection h with h
      subst h
      exact ⟨b, rfl, text_pos (resolve_sch (abs_parse ha).2.1)⟩

set_option maxRecDepth 100000 in
set_option maxHeartbeats 1600000 in
theorem absolute_walk (a s : ByteArray) (w : World) (ha : a.size ≤ 1073741824) (hs : s.size ≤ 1073741824) :
    Calls Try.prog 7 #[.string a, .string s] w fun e w' => e = .returned (.bool true) ∧ Below w.heap.size w w' := by
  have la := len_of a
  have f1 := fun w' => join_any a s w' (by omega) (by omega)
  have hH := heads_any
  have hJS := @join_some a.data.toList s.data.toList
  generalize hj : joinL a.data.toList s.data.toList = jl at *
  cases jl with
  | none =>
    clear hJS
    simp only [jV] at f1
    go_enter Try.func7, Try.ntmps7
    go_wp2_with first | (go_at_call 22; refine (f1 _).mono ?_; rintro e w1 ⟨rfl, hb1⟩) | (go_at_call 17; refine (hH _).mono ?_; rintro e w2 ⟨rfl, hb2⟩)
    go_ret
    exact ⟨rfl, bl_t hb1 hb2⟩
  | some t =>
    obtain ⟨b, hab, htp⟩ := hJS rfl
    obtain ⟨hpb, hb2, hb3⟩ := abs_parse hab
    have hln := parse_len hpb
    have us := usum_of hln
    rw [la] at us
    have dl := dots_len b.path
    have f2 : ∀ w', Calls Try.prog 22 #[.string a, .string ⟨#[]⟩] w' fun e w2 => e = .returned (.tuple #[.string a, .int .i64 0]) ∧ Below w'.heap.size w' w2 := fun w' => by
      have := join_any a (bs []) w' (by omega) (by decide)
      rw [bs_list, join_empty hab] at this
      exact this
    have f3 : ∀ w', Calls Try.prog 22 #[.string ⟨#[120, 58, 47, 121]⟩, .string a] w' fun e w2 => e = .returned (.tuple #[.string (bs (textL { b with path := dotsL b.path })), .int .i64 0]) ∧ Below w'.heap.size w' w2 := fun w' => by
      have := join_any (bs [120, 58, 47, 121]) a w' (by decide) (by omega)
      rw [bs_list, join_x hab] at this
      exact this
    have f4 : ∀ w', Calls Try.prog 9 #[.string a] w' fun e w2 => e = .returned (.tuple #[uV b, .int .i64 0]) ∧ Below w'.heap.size w' w2 := fun w' => by
      have := parse_any a w' (by omega)
      rw [hpb] at this
      exact this
    have f5 := fun w' => dots_any (bs b.path) w' (by rw [bs_size]; unfold usum at us; omega)
    have f6 : ∀ w', Calls Try.prog 15 #[.string a] w' fun e w2 => e = .returned (.bool true) ∧ Below w'.heap.size w' w2 := fun w' => by
      have := absoluteB_any a w' (by omega)
      rw [hab] at this
      exact this
    have f7 := fun w' => text_any { b with path := dotsL b.path } w' (by unfold usum at *; simp only; omega)
    have htI : (0 : Int) < (t.length : Int) := by omega
    have hz := bs_size t
    simp only [jV, bs_list] at f1 f5
    generalize textL { b with path := dotsL b.path } = tx at *
    generalize dotsL b.path = dp at *
    clear hab hpb hb2 hb3 hln us dl la hJS hj htp
    obtain ⟨sch, auth, path, q, frag, hA, hQ, hF⟩ := b
    simp only [uV, uc] at f4 f7 f5
    go_enter Try.func7, Try.ntmps7
    go_wp2_with fail
    refine (f1 _).mono ?_
    rintro e w1 ⟨rfl, hb1⟩
    go_wp2_with fail
    refine (f2 _).mono ?_
    rintro e w2 ⟨rfl, hb2⟩
    go_wp2_with fail
    refine (f3 _).mono ?_
    rintro e w3 ⟨rfl, hb3⟩
    go_wp2_with fail
    refine (f4 _).mono ?_
    rintro e w4 ⟨rfl, hb4⟩
    have hbel4 := bl_t (bl_t (bl_t hb1 hb2) hb3) hb4
    clear hb1 hb2 hb3 hb4 f1 f2 f3 f4
    go_wp2_with fail
    refine (f5 _).mono ?_
    rintro e w5 ⟨rfl, hb5⟩
    have k5 : Bk w5 w4.heap.size #[.string (bs sch), .string (bs auth), .string (bs path), .string (bs q), .string (bs frag), .bool hA, .bool hQ, .bool hF] := Bk.bel (Bk.new _ _ _) hb5
    have hbel5 := bl_t (bl_a hbel4 _) hb5
    have hlt := k5.lt
    clear hb5 f5
    obtain ⟨W6, hW6⟩ : ∃ W, w5.setCell ⟨w4.heap.size, 2, none⟩ (.string (bs dp)) = W := ⟨_, rfl⟩
    have k6 : Bk W6 w4.heap.size #[.string (bs sch), .string (bs auth), .string (bs dp), .string (bs q), .string (bs frag), .bool hA, .bool hQ, .bool hF] := hW6 ▸ k5.set 2 _ rfl
    have hbel6 : Below w.heap.size w W6 := hW6 ▸ bl_s hbel5 hbel4.size _
    have z2 := k5.frz 2
    have c2 : w5.cell? ⟨w4.heap.size, 2, none⟩ = some (.string (bs path)) := k5.cell 2
    clear k5 hbel5 hlt
    go_wp2_with fail
    refine (f6 _).mono ?_
    rintro e w7 ⟨rfl, hb7⟩
    have k7 := k6.bel hb7
    have hbel7 := bl_t hbel6 hb7
    clear hb7 k6 hbel6 f6 hW6 z2 c2
    obtain ⟨x0, x1, x2, x3, x4, x5, x6, x7⟩ := k7.c8
    clear k7
    go_wp2_with fail
    refine (f7 _).mono ?_
    rintro e w8 ⟨rfl, hb8⟩
    have hbel8 := bl_t hbel7 hb8
    clear hb8 hbel7 f7 x0 x1 x2 x3 x4 x5 x6 x7
    go_wp2_with (go_at_call 17; refine (hH _).mono ?_; rintro e w9 ⟨rfl, hb9⟩)
    go_ret
    exact ⟨rfl, bl_t hbel8 hb9⟩
end Go.Proofs.Ytgmigdfkdioalaa
