/-
  Dot segments: one step at the begin of a path: what uri.segmentEnd and uri.firstStep answer. Conditions: at most 2^62 bytes; a path that is not empty.
-/
import Derived.Test.YtgmigdfkdioalaaUU3
import Derived.Handy
namespace Go.Proofs.Ytgmigdfkdioalaa
open Go.RowKit
attribute [local go_sem] setCell_drewN alloc_drewN

set_option maxHeartbeats 400000 in
theorem segmentEnd_any (s : ByteArray) (w : World) (h0 : 0 < s.size) (hs : s.size ≤ 4611686018427387904) :
    Calls Try.prog 53 #[.string s] w fun e w' => e = .returned (.int .i64 ((1 + ix (s.data.toList.drop 1) 47 : Nat) : Int)) ∧ w' = w := by
  have hI : (1 : Int) ≤ (s.size : Int) := by omega
  have hl := len_of s
  have h := indexByte_any (s.extract 1 s.size) 47 w
  have hd : (s.extract 1 s.size).data.toList = s.data.toList.drop 1 := by
    rw [piece, List.take_of_length_le]
    rw [List.length_drop]; omega
  rw [hd, show ((47 : Int)).toNat.toUInt8 = 47 from rfl] at h
  have hdl : (s.data.toList.drop 1).length = s.size - 1 := by rw [List.length_drop, hl]
  rcases idx_ix (s.data.toList.drop 1) 47 with ⟨h1, h2⟩ | ⟨h1, h2⟩
  · rw [h2] at h
    generalize ix (s.data.toList.drop 1) 47 = k at *
    have kI : (0 : Int) ≤ (k : Int) := by omega
    have kS : (k : Int) < 4611686018427387904 := by omega
    clear h2 hd hdl hl
    go_enter Try.func53, Try.ntmps53
    go_wp2_with (go_at_call 57; refine h.mono ?_; rintro e w' ⟨rfl, rfl⟩)
    go_returns
    exact ⟨ret_int (by omega), rfl⟩
  · rw [h2] at h
    have HE : Hid (((1 + ix (s.data.toList.drop 1) 47 : Nat) : Int) = s.size) := by show _ = _; omega
    clear h2 hd hdl hl h1
    go_enter Try.func53, Try.ntmps53
    go_wp2_with (go_at_call 57; refine h.mono ?_; rintro e w' ⟨rfl, rfl⟩)
    go_returns
    exact ⟨ret_int HE.out.symm, rfl⟩

/-- One step: whether the last segment goes, what is put out, what is left. -/
def stepL (p : List UInt8) : Bool × List UInt8 × List UInt8 :=
  if (p == [46]) || (p == [46, 46]) then (false, [], [])
  else if Lib.hasPrefix p [46, 47] then (false, [], p.drop 2)
  else if Lib.hasPrefix p [46, 46, 47] then (false, [], p.drop 3)
  else if p == [47, 46] then (false, [], [47])
  else if Lib.hasPrefix p [47, 46, 47] then (false, [], p.drop 2)
  else if p == [47, 46, 46] then (true, [], [47])
  else if Lib.hasPrefix p [47, 46, 46, 47] then (true, [], p.drop 3)
  else (false, p.take (1 + ix (p.drop 1) 47), p.drop (1 + ix (p.drop 1) 47))
def stepV (t : Bool × List UInt8 × List UInt8) : Value := .agg #[.bool t.1, .string (bs t.2.1), .string (bs t.2.2)]

theorem pre_len {p q : List UInt8} (h : Lib.hasPrefix p q = true) : q.length ≤ p.length := by
  obtain ⟨t, rfl⟩ := List.isPrefixOf_iff_prefix.1 h
  rw [List.length_append]; omega

theorem hp_at {s p : ByteArray} {q : List UInt8} {b : Bool} (hq : p.data.toList = q) (h : Lib.hasPrefix s.data.toList q = b) (w : World) :
    Calls Try.prog 52 #[.string s, .string p] w fun e w' => e = .returned (.bool b) ∧ w' = w := by
  have := hasPrefix_any s p w
  rw [hq, h] at this
  exact this

set_option maxRecDepth 100000 in
set_option maxHeartbeats 1600000 in
theorem firstStep_any (s : ByteArray) (w : World) (h0 : 0 < s.size) (hs : s.size ≤ 4611686018427387904) :
    Calls Try.prog 36 #[.string s] w fun e w' => e = .returned (stepV (stepL s.data.toList)) ∧ Below w.heap.size w w' := by
  have hl := len_of s
  have dr : ∀ k, s.extract k s.size = bs (s.data.toList.drop k) := fun k => by
    rw [piece_bs, List.take_of_length_le]
    rw [List.length_drop]; omega
  have e1 : (s.toList == [46]) = (s.data.toList == [46]) := by rw [Lib.toList_data]
  have e2 : (s.toList == [46, 46]) = (s.data.toList == [46, 46]) := by rw [Lib.toList_data]
  have e3 : (s.toList == [47, 46]) = (s.data.toList == [47, 46]) := by rw [Lib.toList_data]
  have e4 : (s.toList == [47, 46, 46]) = (s.data.toList == [47, 46, 46]) := by rw [Lib.toList_data]
  cases b1a : (s.data.toList == [46])
  · cases b1b : (s.data.toList == [46, 46])
    · cases c1 : Lib.hasPrefix s.data.toList [46, 47]
      · cases c2 : Lib.hasPrefix s.data.toList [46, 46, 47]
        · cases b3 : (s.data.toList == [47, 46])
          · cases c4 : Lib.hasPrefix s.data.toList [47, 46, 47]
            · cases b5 : (s.data.toList == [47, 46, 46])
              · cases c6 : Lib.hasPrefix s.data.toList [47, 46, 46, 47]
                · have HE : Hid (stepL s.data.toList = (false, s.data.toList.take (1 + ix (s.data.toList.drop 1) 47), s.data.toList.drop (1 + ix (s.data.toList.drop 1) 47))) := by show _ = _; unfold stepL; rw [b1a, b1b, c1, c2, b3, c4, b5, c6]; rfl
                  have Pc1 := hp_at (p := ⟨#[46, 47]⟩) rfl c1
                  have Pc2 := hp_at (p := ⟨#[46, 46, 47]⟩) rfl c2
                  have Pc4 := hp_at (p := ⟨#[47, 46, 47]⟩) rfl c4
                  have Pc6 := hp_at (p := ⟨#[47, 46, 46, 47]⟩) rfl c6
                  have hE := segmentEnd_any s
                  have hix := ix_le (s.data.toList.drop 1) 47
                  rw [List.length_drop, hl] at hix
                  obtain ⟨k, hk⟩ : ∃ k, k = 1 + ix (s.data.toList.drop 1) 47 := ⟨_, rfl⟩
                  rw [← hk] at HE hE
                  have k0 : (0 : Int) ≤ (k : Int) := by omega
                  have kS : (k : Int) ≤ (s.size : Int) := by omega
                  have dk := dr k
                  have tk : s.extract 0 k = bs (s.data.toList.take k) := by rw [piece_bs, List.drop_zero, Nat.sub_zero]
                  have hE' := fun w => hE w h0 hs
                  clear dr hl h0 hix hk hE
                  clear c1
                  clear c2
                  clear c4
                  clear c6
                  go_enter Try.func36, Try.ntmps36
                  go_wp2_with first | (go_at_call 52; (first | (with_reducible refine (Pc1 _).mono ?_) | (with_reducible refine (Pc2 _).mono ?_) | (with_reducible refine (Pc4 _).mono ?_) | (with_reducible refine (Pc6 _).mono ?_)); rintro e w' ⟨rfl, rfl⟩) | (go_at_call 53; refine (hE' _).mono ?_; rintro e w' ⟨rfl, rfl⟩)
                  go_region
                  go_wp2
                  go_returns
                  exact ⟨by rw [HE.out]; rfl, by with_reducible repeat (first | exact Below.refl _ _ | refine bl_d ?_ | refine bl_s ?_ (Nat.le_refl _) _ | refine bl_a ?_ _)⟩
                · have HE : Hid (stepL s.data.toList = (true, [], s.data.toList.drop 3)) := by show _ = _; unfold stepL; rw [b1a, b1b, c1, c2, b3, c4, b5, c6]; rfl
                  have Pc1 := hp_at (p := ⟨#[46, 47]⟩) rfl c1
                  have Pc2 := hp_at (p := ⟨#[46, 46, 47]⟩) rfl c2
                  have Pc4 := hp_at (p := ⟨#[47, 46, 47]⟩) rfl c4
                  have Pc6 := hp_at (p := ⟨#[47, 46, 46, 47]⟩) rfl c6
                  have kS : (3 : Int) ≤ (s.size : Int) := by have := pre_len c6; rw [hl] at this; simp only [List.length_cons, List.length_nil] at this; omega
                  have dk := dr 3
                  clear dr hl h0
                  clear c1
                  clear c2
                  clear c4
                  clear c6
                  go_enter Try.func36, Try.ntmps36
                  go_wp2_with (go_at_call 52; (first | (with_reducible refine (Pc1 _).mono ?_) | (with_reducible refine (Pc2 _).mono ?_) | (with_reducible refine (Pc4 _).mono ?_) | (with_reducible refine (Pc6 _).mono ?_)); rintro e w' ⟨rfl, rfl⟩)
                  go_returns
                  exact ⟨by rw [HE.out]; first | rfl | (rw [dk]; rfl), by with_reducible repeat (first | exact Below.refl _ _ | refine bl_s ?_ (Nat.le_refl _) _ | refine bl_a ?_ _)⟩
              · have HE : Hid (stepL s.data.toList = (true, [], [47])) := by show _ = _; unfold stepL; rw [b1a, b1b, c1, c2, b3, c4, b5]; rfl
                have Pc1 := hp_at (p := ⟨#[46, 47]⟩) rfl c1
                have Pc2 := hp_at (p := ⟨#[46, 46, 47]⟩) rfl c2
                have Pc4 := hp_at (p := ⟨#[47, 46, 47]⟩) rfl c4
                clear dr hl h0
                clear c1
                clear c2
                clear c4
                go_enter Try.func36, Try.ntmps36
                go_wp2_with (go_at_call 52; (first | (with_reducible refine (Pc1 _).mono ?_) | (with_reducible refine (Pc2 _).mono ?_) | (with_reducible refine (Pc4 _).mono ?_)); rintro e w' ⟨rfl, rfl⟩)
                go_returns
                exact ⟨by rw [HE.out]; rfl, by with_reducible repeat (first | exact Below.refl _ _ | refine bl_s ?_ (Nat.le_refl _) _ | refine bl_a ?_ _)⟩
            · have HE : Hid (stepL s.data.toList = (false, [], s.data.toList.drop 2)) := by show _ = _; unfold stepL; rw [b1a, b1b, c1, c2, b3, c4]; rfl
              have Pc1 := hp_at (p := ⟨#[46, 47]⟩) rfl c1
              have Pc2 := hp_at (p := ⟨#[46, 46, 47]⟩) rfl c2
              have Pc4 := hp_at (p := ⟨#[47, 46, 47]⟩) rfl c4
              have kS : (2 : Int) ≤ (s.size : Int) := by have := pre_len c4; rw [hl] at this; simp only [List.length_cons, List.length_nil] at this; omega
              have dk := dr 2
              clear dr hl h0
              clear c1
              clear c2
              clear c4
              go_enter Try.func36, Try.ntmps36
              go_wp2_with (go_at_call 52; (first | (with_reducible refine (Pc1 _).mono ?_) | (with_reducible refine (Pc2 _).mono ?_) | (with_reducible refine (Pc4 _).mono ?_)); rintro e w' ⟨rfl, rfl⟩)
              go_returns
              exact ⟨by rw [HE.out]; first | rfl | (rw [dk]; rfl), by with_reducible repeat (first | exact Below.refl _ _ | refine bl_s ?_ (Nat.le_refl _) _ | refine bl_a ?_ _)⟩
          · have HE : Hid (stepL s.data.toList = (false, [], [47])) := by show _ = _; unfold stepL; rw [b1a, b1b, c1, c2, b3]; rfl
            have Pc1 := hp_at (p := ⟨#[46, 47]⟩) rfl c1
            have Pc2 := hp_at (p := ⟨#[46, 46, 47]⟩) rfl c2
            clear dr hl h0
            clear c1
            clear c2
            go_enter Try.func36, Try.ntmps36
            go_wp2_with (go_at_call 52; (first | (with_reducible refine (Pc1 _).mono ?_) | (with_reducible refine (Pc2 _).mono ?_)); rintro e w' ⟨rfl, rfl⟩)
            go_returns
            exact ⟨by rw [HE.out]; rfl, by with_reducible repeat (first | exact Below.refl _ _ | refine bl_s ?_ (Nat.le_refl _) _ | refine bl_a ?_ _)⟩
        · have HE : Hid (stepL s.data.toList = (false, [], s.data.toList.drop 3)) := by show _ = _; unfold stepL; rw [b1a, b1b, c1, c2]; rfl
          have Pc1 := hp_at (p := ⟨#[46, 47]⟩) rfl c1
          have Pc2 := hp_at (p := ⟨#[46, 46, 47]⟩) rfl c2
          have kS : (3 : Int) ≤ (s.size : Int) := by have := pre_len c2; rw [hl] at this; simp only [List.length_cons, List.length_nil] at this; omega
          have dk := dr 3
          clear dr hl h0
          clear c1
          clear c2
          go_enter Try.func36, Try.ntmps36
          go_wp2_with (go_at_call 52; (first | (with_reducible refine (Pc1 _).mono ?_) | (with_reducible refine (Pc2 _).mono ?_)); rintro e w' ⟨rfl, rfl⟩)
          go_returns
          exact ⟨by rw [HE.out]; first | rfl | (rw [dk]; rfl), by with_reducible repeat (first | exact Below.refl _ _ | refine bl_s ?_ (Nat.le_refl _) _ | refine bl_a ?_ _)⟩
      · have HE : Hid (stepL s.data.toList = (false, [], s.data.toList.drop 2)) := by show _ = _; unfold stepL; rw [b1a, b1b, c1]; rfl
        have Pc1 := hp_at (p := ⟨#[46, 47]⟩) rfl c1
        have kS : (2 : Int) ≤ (s.size : Int) := by have := pre_len c1; rw [hl] at this; simp only [List.length_cons, List.length_nil] at this; omega
        have dk := dr 2
        clear dr hl h0
        clear c1
        go_enter Try.func36, Try.ntmps36
        go_wp2_with (go_at_call 52; (first | (with_reducible refine (Pc1 _).mono ?_)); rintro e w' ⟨rfl, rfl⟩)
        go_returns
        exact ⟨by rw [HE.out]; first | rfl | (rw [dk]; rfl), by with_reducible repeat (first | exact Below.refl _ _ | refine bl_s ?_ (Nat.le_refl _) _ | refine bl_a ?_ _)⟩
    · have HE : Hid (stepL s.data.toList = (false, [], [])) := by show _ = _; unfold stepL; rw [b1a, b1b]; rfl
      clear dr hl h0
      go_enter Try.func36, Try.ntmps36
      go_wp2
      go_returns
      exact ⟨by rw [HE.out]; rfl, by with_reducible repeat (first | exact Below.refl _ _ | refine bl_s ?_ (Nat.le_refl _) _ | refine bl_a ?_ _)⟩
  · have HE : Hid (stepL s.data.toList = (false, [], [])) := by show _ = _; unfold stepL; rw [b1a]; rfl
    clear dr hl h0
    go_enter Try.func36, Try.ntmps36
    go_wp2
    go_returns
    exact ⟨by rw [HE.out]; rfl, by with_reducible repeat (first | exact Below.refl _ _ | refine bl_s ?_ (Nat.le_refl _) _ | refine bl_a ?_ _)⟩
end Go.Proofs.Ytgmigdfkdioalaa
