/-
  What ref8.Dots answers. Conditions: at most 2^46 bytes.
-/
import Derived.Test.YtgmigdfkdioalaaUR2
import Derived.Test.YtgmigdfkdioalaaUU18
namespace Go.Proofs.Ytgmigdfkdioalaa
open Go.RowKit
attribute [local go_sem] setCell_drewN alloc_drewN

theorem rp_at {r : List UInt8} {p : ByteArray} {q : List UInt8} {b : Bool} (hq : p.data.toList = q) (h : Lib.hasPrefix r q = b) (w : World) :
    Calls Try.prog 38 #[.string (bs r), .string p] w fun e w' => e = .returned (.bool b) ∧ w' = w := by
  have := rstarts_any (bs r) p w
  rw [bs_list, hq, h] at this
  exact this
theorem exd (l : List UInt8) (k : Nat) : (bs l).extract k l.length = bs (l.drop k) := by
  rw [piece_bs, bs_list, List.take_of_length_le]
  rw [List.length_drop]; omega
theorem bs_lt {a b : List UInt8} (h : a.length < b.length) : (bs a).size < (bs b).size := by rw [bs_size, bs_size]; exact h
theorem ext (l : List UInt8) (k : Nat) : (bs l).extract 0 k = bs (l.take k) := by rw [piece_bs, List.drop_zero, Nat.sub_zero, bs_list]

set_option maxRecDepth 100000 in
set_option maxHeartbeats 3200000 in
theorem rdots_any (l : List UInt8) (w : World) (hs : l.length ≤ 70368744177664) :
    Calls Try.prog 21 #[.string (bs l)] w fun e w' => e = .returned (.string (bs (dotsL l))) ∧ w' = w := by
  go_enter Try.func21, Try.ntmps21
  go_wp2_with fail
  go_loopw [3, 4] (fun u t wr => ∃ (o r : List UInt8), u = .string (bs o) ∧ t = .string (bs r) ∧ o.length + r.length ≤ l.length ∧ Hid (dotsL l = dotsF r.length r o) ∧ wr = w) (fun _ t _ => match t with | .string b => b.size | _ => 0)
  case atStart => exact ⟨[], l, rfl, rfl, by simp, rfl, rfl⟩
  case round =>
    obtain ⟨o, r, rfl, rfl, hle, HD, rfl⟩ := hrel
    by_cases hr : r = []
    · subst hr
      have HE : Hid (dotsL l = o) := by show _ = _; rw [HD.out, dotsF_nil]
      have hn : (bs []).toList = [] := bs_toList []
      clear HD hle
      go_wp2
      go_ret
      exact ⟨r_str HE.out.symm, rfl⟩
    · have hn : (bs r).toList.isEmpty = false := by rw [bs_toList]; cases r with
        | nil => exact absurd rfl hr
        | cons _ _ => rfl
      have hstep := dotsF_step hr o
      rw [← HD.out] at hstep
      have hpos : 0 < r.length := List.length_pos_iff.2 hr
      have hsl := step_len hr
      have zr := bs_size r
      have hul := upL_len o
      have hl := fun w' => rlast_any (bs o) w' (by rw [bs_size]; omega)
      simp only [bs_list] at hl
      clear HD
      cases p1 : Lib.hasPrefix r [46, 46, 47]
      · cases p2 : Lib.hasPrefix r [46, 47]
        · cases p3 : Lib.hasPrefix r [47, 46, 47]
          · cases e4 : (r == [47, 46])
            · cases p5 : Lib.hasPrefix r [47, 46, 46, 47]
              · cases e6 : (r == [47, 46, 46])
                · cases e7 : (r == [46])
                  · cases e8 : (r == [46, 46])
                    · have hst : stepL r = (false, r.take (1 + ix (r.drop 1) 47), r.drop (1 + ix (r.drop 1) 47)) := by
                        unfold stepL
                        rw [e7, e8, p2, p1, e4, p3, e6, p5]
                        rfl
                      have hix := ix_le (r.drop 1) 47
                      rw [List.length_drop] at hix
                      have hri := fun w' => rindex_u8 (bs (r.drop 1)) 47 w' (by rw [bs_size, List.length_drop]; omega)
                      simp only [bs_list] at hri
                      have ev : (((47 : UInt8).toNat : Int)) = 47 := rfl
                      simp only [ev] at hri
                      obtain ⟨k0, hk0⟩ : ∃ k0, k0 = ix (r.drop 1) 47 := ⟨_, rfl⟩
                      rw [← hk0] at hst hix
                      simp only [← hk0] at hri
                      obtain ⟨k, hk⟩ : ∃ k, k = 1 + k0 := ⟨_, rfl⟩
                      rw [← hk] at hst
                      have HN : Hid (dotsL l = dotsF (r.drop k).length (r.drop k) (o ++ r.take k)) := by
                        show _ = _
                        rw [hstep, hst]
                        simp
                      have hm : (r.drop k).length < r.length := by rw [List.length_drop]; omega
                      have hln : (o ++ r.take k).length + (r.drop k).length ≤ l.length := by rw [List.length_append, List.length_take, List.length_drop]; omega
                      have n1 : IntKind.i64.wrap (1 + (k0 : Int)) = (k : Int) := by rw [IntKind.wrap_i64]; omega
                      have n2 : (1 : Int) + (k0 : Int) = (k : Int) := by omega
                      have n3 : (0 : Int) ≤ (k : Int) := by omega
                      have n4 : (k : Int) ≤ (r.length : Int) := by omega
                      have n5 : (1 : Int) ≤ (r.length : Int) := by omega
                      have d1 := exd r 1
                      obtain ⟨rt, hrt⟩ : ∃ rt, rt = r.drop 1 := ⟨_, rfl⟩
                      rw [← hrt] at d1
                      simp only [← hrt] at hri
                      clear hrt
                      have dk := exd r k
                      have tk := ext r k
                      have ad := bs_add o (r.take k)
                      have zo := bs_size o
                      have zt : (bs (r.take k)).size = k := by rw [bs_size, List.length_take]; omega
                      have hcat : ¬ 9223372036854775807 < o.length + k := by omega
                      have Pp1 := rp_at (p := ⟨#[46, 46, 47]⟩) rfl p1
                      have Pp2 := rp_at (p := ⟨#[46, 47]⟩) rfl p2
                      have Pp3 := rp_at (p := ⟨#[47, 46, 47]⟩) rfl p3
                      have Qe4 : ((bs r).toList == [47, 46]) = false := by rw [bs_toList]; exact e4
                      have Pp5 := rp_at (p := ⟨#[47, 46, 46, 47]⟩) rfl p5
                      have Qe6 : ((bs r).toList == [47, 46, 46]) = false := by rw [bs_toList]; exact e6
                      have Qe7 : ((bs r).toList == [46]) = false := by rw [bs_toList]; exact e7
                      have Qe8 : ((bs r).toList == [46, 46]) = false := by rw [bs_toList]; exact e8
                      clear hst hstep hsl hr hul hl hk hk0 hix ev p1 p2 p3 e4 p5 e6 e7 e8
                      go_wp2_with first | (go_at_call 38; (first | (with_reducible refine (Pp1 _).mono ?_) | (with_reducible refine (Pp2 _).mono ?_) | (with_reducible refine (Pp3 _).mono ?_) | (with_reducible refine (Pp5 _).mono ?_)); rintro e w' ⟨rfl, rfl⟩) | (go_at_call 29; refine (hri _).mono ?_; rintro e w' ⟨rfl, rfl⟩)
                      go_roundw
                      case rel => exact ⟨o ++ r.take k, r.drop k, rfl, rfl, hln, HN, trivial⟩
                      case measure => exact bs_lt hm
                    · have hst : stepL r = (false, [], []) := by
                        rw [beq_iff_eq] at e8
                        subst e8
                        rfl
                      have HN : Hid (dotsL l = dotsF ([] : List UInt8).length ([] : List UInt8) (o)) := by
                        show _ = _
                        rw [hstep, hst]
                        simp
                      have hm : ([] : List UInt8).length < r.length := by have := hsl.1; rw [hst] at this; exact this
                      have hln : (o).length + ([] : List UInt8).length ≤ l.length := by omega
                      have Pp1 := rp_at (p := ⟨#[46, 46, 47]⟩) rfl p1
                      have Pp2 := rp_at (p := ⟨#[46, 47]⟩) rfl p2
                      have Pp3 := rp_at (p := ⟨#[47, 46, 47]⟩) rfl p3
                      have Qe4 : ((bs r).toList == [47, 46]) = false := by rw [bs_toList]; exact e4
                      have Pp5 := rp_at (p := ⟨#[47, 46, 46, 47]⟩) rfl p5
                      have Qe6 : ((bs r).toList == [47, 46, 46]) = false := by rw [bs_toList]; exact e6
                      have Qe7 : ((bs r).toList == [46]) = false := by rw [bs_toList]; exact e7
                      have Qe8 : ((bs r).toList == [46, 46]) = true := by rw [bs_toList]; exact e8
                      clear hst hstep hsl hr hul p1 p2 p3 e4 p5 e6 e7 e8 hl
                      go_wp2_with (go_at_call 38; (first | (with_reducible refine (Pp1 _).mono ?_) | (with_reducible refine (Pp2 _).mono ?_) | (with_reducible refine (Pp3 _).mono ?_) | (with_reducible refine (Pp5 _).mono ?_)); rintro e w' ⟨rfl, rfl⟩)
                      go_roundw
                      case rel => exact ⟨_, [], rfl, rfl, hln, HN, trivial⟩
                      case measure => exact bs_lt hm
                  · have hst : stepL r = (false, [], []) := by
                      rw [beq_iff_eq] at e7
                      subst e7
                      rfl
                    have HN : Hid (dotsL l = dotsF ([] : List UInt8).length ([] : List UInt8) (o)) := by
                      show _ = _
                      rw [hstep, hst]
                      simp
                    have hm : ([] : List UInt8).length < r.length := by have := hsl.1; rw [hst] at this; exact this
                    have hln : (o).length + ([] : List UInt8).length ≤ l.length := by omega
                    have Pp1 := rp_at (p := ⟨#[46, 46, 47]⟩) rfl p1
                    have Pp2 := rp_at (p := ⟨#[46, 47]⟩) rfl p2
                    have Pp3 := rp_at (p := ⟨#[47, 46, 47]⟩) rfl p3
                    have Qe4 : ((bs r).toList == [47, 46]) = false := by rw [bs_toList]; exact e4
                    have Pp5 := rp_at (p := ⟨#[47, 46, 46, 47]⟩) rfl p5
                    have Qe6 : ((bs r).toList == [47, 46, 46]) = false := by rw [bs_toList]; exact e6
                    have Qe7 : ((bs r).toList == [46]) = true := by rw [bs_toList]; exact e7
                    clear hst hstep hsl hr hul p1 p2 p3 e4 p5 e6 e7 hl
                    go_wp2_with (go_at_call 38; (first | (with_reducible refine (Pp1 _).mono ?_) | (with_reducible refine (Pp2 _).mono ?_) | (with_reducible refine (Pp3 _).mono ?_) | (with_reducible refine (Pp5 _).mono ?_)); rintro e w' ⟨rfl, rfl⟩)
                    go_roundw
                    case rel => exact ⟨_, [], rfl, rfl, hln, HN, trivial⟩
                    case measure => exact bs_lt hm
                · have hst : stepL r = (true, [], [47]) := by
                    rw [beq_iff_eq] at e6
                    subst e6
                    rfl
                  have HN : Hid (dotsL l = dotsF ([47] : List UInt8).length ([47] : List UInt8) (upL o)) := by
                    show _ = _
                    rw [hstep, hst]
                    simp
                  have hm : ([47] : List UInt8).length < r.length := by have := hsl.1; rw [hst] at this; exact this
                  have hln : (upL o).length + ([47] : List UInt8).length ≤ l.length := by omega
                  have Pp1 := rp_at (p := ⟨#[46, 46, 47]⟩) rfl p1
                  have Pp2 := rp_at (p := ⟨#[46, 47]⟩) rfl p2
                  have Pp3 := rp_at (p := ⟨#[47, 46, 47]⟩) rfl p3
                  have Qe4 : ((bs r).toList == [47, 46]) = false := by rw [bs_toList]; exact e4
                  have Pp5 := rp_at (p := ⟨#[47, 46, 46, 47]⟩) rfl p5
                  have Qe6 : ((bs r).toList == [47, 46, 46]) = true := by rw [bs_toList]; exact e6
                  clear hst hstep hsl hr hul p1 p2 p3 e4 p5 e6
                  go_wp2_with first | (go_at_call 38; (first | (with_reducible refine (Pp1 _).mono ?_) | (with_reducible refine (Pp2 _).mono ?_) | (with_reducible refine (Pp3 _).mono ?_) | (with_reducible refine (Pp5 _).mono ?_)); rintro e w' ⟨rfl, rfl⟩) | (go_at_call 39; refine (hl _).mono ?_; rintro e w' ⟨rfl, rfl⟩)
                  go_roundw
                  case rel => exact ⟨_, [47], rfl, rfl, hln, HN, trivial⟩
                  case measure => exact bs_lt hm
              · have hst : stepL r = (true, [], r.drop 3) := by
                  obtain ⟨t, rfl⟩ := List.isPrefixOf_iff_prefix.1 p5
                  simp [stepL, hp_cons, hp_nil]
                have HN : Hid (dotsL l = dotsF (r.drop 3 : List UInt8).length (r.drop 3 : List UInt8) (upL o)) := by
                  show _ = _
                  rw [hstep, hst]
                  simp
                have hm : (r.drop 3 : List UInt8).length < r.length := by have := hsl.1; rw [hst] at this; exact this
                have hln : (upL o).length + (r.drop 3 : List UInt8).length ≤ l.length := by omega
                have Pp1 := rp_at (p := ⟨#[46, 46, 47]⟩) rfl p1
                have Pp2 := rp_at (p := ⟨#[46, 47]⟩) rfl p2
                have Pp3 := rp_at (p := ⟨#[47, 46, 47]⟩) rfl p3
                have Qe4 : ((bs r).toList == [47, 46]) = false := by rw [bs_toList]; exact e4
                have Pp5 := rp_at (p := ⟨#[47, 46, 46, 47]⟩) rfl p5
                have kS : (3 : Int) ≤ (r.length : Int) := by have := pre_len p5; simp only [List.length_cons, List.length_nil] at this; omega
                have dk := exd r 3
                clear hst hstep hsl hr hul p1 p2 p3 e4 p5
                go_wp2_with first | (go_at_call 38; (first | (with_reducible refine (Pp1 _).mono ?_) | (with_reducible refine (Pp2 _).mono ?_) | (with_reducible refine (Pp3 _).mono ?_) | (with_reducible refine (Pp5 _).mono ?_)); rintro e w' ⟨rfl, rfl⟩) | (go_at_call 39; refine (hl _).mono ?_; rintro e w' ⟨rfl, rfl⟩)
                go_roundw
                case rel => exact ⟨_, r.drop 3, rfl, rfl, hln, HN, trivial⟩
                case measure => exact bs_lt hm
            · have hst : stepL r = (false, [], [47]) := by
                rw [beq_iff_eq] at e4
                subst e4
                rfl
              have HN : Hid (dotsL l = dotsF ([47] : List UInt8).length ([47] : List UInt8) (o)) := by
                show _ = _
                rw [hstep, hst]
                simp
              have hm : ([47] : List UInt8).length < r.length := by have := hsl.1; rw [hst] at this; exact this
              have hln : (o).length + ([47] : List UInt8).length ≤ l.length := by omega
              have Pp1 := rp_at (p := ⟨#[46, 46, 47]⟩) rfl p1
              have Pp2 := rp_at (p := ⟨#[46, 47]⟩) rfl p2
              have Pp3 := rp_at (p := ⟨#[47, 46, 47]⟩) rfl p3
              have Qe4 : ((bs r).toList == [47, 46]) = true := by rw [bs_toList]; exact e4
              clear hst hstep hsl hr hul p1 p2 p3 e4 hl
              go_wp2_with (go_at_call 38; (first | (with_reducible refine (Pp1 _).mono ?_) | (with_reducible refine (Pp2 _).mono ?_) | (with_reducible refine (Pp3 _).mono ?_)); rintro e w' ⟨rfl, rfl⟩)
              go_roundw
              case rel => exact ⟨_, [47], rfl, rfl, hln, HN, trivial⟩
              case measure => exact bs_lt hm
          · have hst : stepL r = (false, [], r.drop 2) := by
              obtain ⟨t, rfl⟩ := List.isPrefixOf_iff_prefix.1 p3
              simp [stepL, hp_cons, hp_nil]
            have HN : Hid (dotsL l = dotsF (r.drop 2 : List UInt8).length (r.drop 2 : List UInt8) (o)) := by
              show _ = _
              rw [hstep, hst]
              simp
            have hm : (r.drop 2 : List UInt8).length < r.length := by have := hsl.1; rw [hst] at this; exact this
            have hln : (o).length + (r.drop 2 : List UInt8).length ≤ l.length := by omega
            have Pp1 := rp_at (p := ⟨#[46, 46, 47]⟩) rfl p1
            have Pp2 := rp_at (p := ⟨#[46, 47]⟩) rfl p2
            have Pp3 := rp_at (p := ⟨#[47, 46, 47]⟩) rfl p3
            have kS : (2 : Int) ≤ (r.length : Int) := by have := pre_len p3; simp only [List.length_cons, List.length_nil] at this; omega
            have dk := exd r 2
            clear hst hstep hsl hr hul p1 p2 p3 hl
            go_wp2_with (go_at_call 38; (first | (with_reducible refine (Pp1 _).mono ?_) | (with_reducible refine (Pp2 _).mono ?_) | (with_reducible refine (Pp3 _).mono ?_)); rintro e w' ⟨rfl, rfl⟩)
            go_roundw
            case rel => exact ⟨_, r.drop 2, rfl, rfl, hln, HN, trivial⟩
            case measure => exact bs_lt hm
        · have hst : stepL r = (false, [], r.drop 2) := by
            obtain ⟨t, rfl⟩ := List.isPrefixOf_iff_prefix.1 p2
            simp [stepL, hp_cons, hp_nil]
          have HN : Hid (dotsL l = dotsF (r.drop 2 : List UInt8).length (r.drop 2 : List UInt8) (o)) := by
            show _ = _
            rw [hstep, hst]
            simp
          have hm : (r.drop 2 : List UInt8).length < r.length := by have := hsl.1; rw [hst] at this; exact this
          have hln : (o).length + (r.drop 2 : List UInt8).length ≤ l.length := by omega
          have Pp1 := rp_at (p := ⟨#[46, 46, 47]⟩) rfl p1
          have Pp2 := rp_at (p := ⟨#[46, 47]⟩) rfl p2
          have kS : (2 : Int) ≤ (r.length : Int) := by have := pre_len p2; simp only [List.length_cons, List.length_nil] at this; omega
          have dk := exd r 2
          clear hst hstep hsl hr hul p1 p2 hl
          go_wp2_with (go_at_call 38; (first | (with_reducible refine (Pp1 _).mono ?_) | (with_reducible refine (Pp2 _).mono ?_)); rintro e w' ⟨rfl, rfl⟩)
          go_roundw
          case rel => exact ⟨_, r.drop 2, rfl, rfl, hln, HN, trivial⟩
          case measure => exact bs_lt hm
      · have hst : stepL r = (false, [], r.drop 3) := by
          obtain ⟨t, rfl⟩ := List.isPrefixOf_iff_prefix.1 p1
          simp [stepL, hp_cons, hp_nil]
        have HN : Hid (dotsL l = dotsF (r.drop 3 : List UInt8).length (r.drop 3 : List UInt8) (o)) := by
          show _ = _
          rw [hstep, hst]
          simp
        have hm : (r.drop 3 : List UInt8).length < r.length := by have := hsl.1; rw [hst] at this; exact this
        have hln : (o).length + (r.drop 3 : List UInt8).length ≤ l.length := by omega
        have Pp1 := rp_at (p := ⟨#[46, 46, 47]⟩) rfl p1
        have kS : (3 : Int) ≤ (r.length : Int) := by have := pre_len p1; simp only [List.length_cons, List.length_nil] at this; omega
        have dk := exd r 3
        clear hst hstep hsl hr hul p1 hl
        go_wp2_with (go_at_call 38; (first | (with_reducible refine (Pp1 _).mono ?_)); rintro e w' ⟨rfl, rfl⟩)
        go_roundw
        case rel => exact ⟨_, r.drop 3, rfl, rfl, hln, HN, trivial⟩
        case measure => exact bs_lt hm
end Go.Proofs.Ytgmigdfkdioalaa
