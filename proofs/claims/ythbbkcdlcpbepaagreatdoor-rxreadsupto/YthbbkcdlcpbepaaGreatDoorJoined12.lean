/-
  The reference's hex. No condition.
-/
import Derived.Test.YthbbkcdlcpbepaaGreatDoorJoined11
namespace Go.Proofs.YthbbkcdlcpbepaaGreatDoor
open Go.RowKit
attribute [local go_sem] setCell_drewN alloc_drewN

theorem hexN_d {c d : Int} (h : hexD c = some d) : hexN c = d := by unfold hexN; rw [h]; rfl
theorem hexN_n {c : Int} (h : hexD c = none) : hexN c = -1 := by unfold hexN; rw [h]; rfl
theorem hexD_rng {c d : Int} (h : hexD c = some d) : 0 ≤ c ∧ c ≤ 127 := by
  unfold hexD dig at h
  repeat' (split at h)
  all_goals first
    | (simp at h; done)
    | (rename_i e; simp only [isDig, Bool.and_eq_true, decide_eq_true_eq] at e; omega)
    | omega
/-- What hex answers. -/
def HexQ (x : Option (Int × List Int)) (S : List Int) (v : Int) (a' : Nat) : Prop := match x with
  | some (d, l') => v = d ∧ l' = S.drop a' ∧ a' ≤ S.length
  | none => v = -1
theorem hexG_sum : ∀ (n m : Nat) (acc : Int) (l : List Int), hexG (n + m) acc l = (hexG n acc l).bind fun y => hexG m y.1 y.2
  | 0, m, acc, l => by simp [hexG]
  | n + 1, m, acc, [] => by rw [show n + 1 + m = n + m + 1 by omega]; simp [hexG]
  | n + 1, m, acc, c :: l => by
    rw [show n + 1 + m = n + m + 1 by omega]
    simp only [hexG]
    cases hexD c with
    | none => rfl
    | some d => exact hexG_sum n m _ l

set_option maxRecDepth 100000 in
set_option maxHeartbeats 800000 in
theorem rhex_any (w : World) (pb a : Nat) (S : List Int) (g : Int) (bad : Bool) (n : Nat) (hn : n ≤ 4) (ha : a ≤ S.length) (h : RP w pb S a g bad) :
    Calls Tryz.prog 95 #[.pointer (some ⟨pb, 0, none⟩), .int .i64 (n : Int)] w fun r w' => ∃ x a', r = .returned (.int .i64 x) ∧ But (· = pb) w w' ∧ RP w' pb S a' g bad ∧ a' ≤ S.length ∧ HexQ (hexG n 0 (S.drop a)) S x a' := by
  obtain ⟨P, hP⟩ : ∃ P : Ending → World → Prop, P = fun r w' => ∃ x a', r = .returned (.int .i64 x) ∧ But (· = pb) w w' ∧ RP w' pb S a' g bad ∧ a' ≤ S.length ∧ HexQ (hexG n 0 (S.drop a)) S x a' := ⟨_, rfl⟩
  rw [← hP]
  have HP := hid_intro hP
  have H := hid_intro h
  have HLA := hid_intro ha
  have HN4 := hid_intro hn
  clear hP h ha hn
  go_enter Tryz.func95, Tryz.ntmps95
  go_wp2_with fail
  go_loopg [5, 6] n (fun m s5 s6 wr => ∃ (i : Nat) (x : Int), m = n - i ∧ s5 = .int .i64 x ∧ s6 = .int .i64 (i : Int) ∧ Hid (i ≤ n ∧ a + i ≤ S.length ∧ 0 ≤ x ∧ x < 16 ^ i ∧ hexG n 0 (S.drop a) = hexG (n - i) x (S.drop (a + i)) ∧ But (· = pb) w wr ∧ RP wr pb S (a + i) g bad))
  case atStart => exact ⟨0, 0, rfl, rfl, rfl, Nat.zero_le _, HLA.out, by omega, by omega, rfl, But.refl _ _, H.out⟩
  case round =>
    obtain ⟨i, x, rfl, rfl, rfl, HI⟩ := hrel
    by_cases hi : i < n
    · have hiI : (i : Int) < (n : Int) := by omega
      have HIN := hid_intro hi
      have hpk := fun w' (h : RP w' pb S (a + i) g bad) => rpeek_any w' pb (a + i) S g bad h
      have HPK := hid_intro hpk
      have hrg := HI.out.2.2.2.2.2.2.pkr (a + i)
      have hx0 : 0 ≤ x := HI.out.2.2.1
      have hx1 : x < 4096 := by
        have h1 := HI.out.2.2.2.1
        have h2 := pow16 i (by have := HN4.out; omega)
        omega
      cases hd : hexD (pk S (a + i)) with
      | none =>
        have HE : Hid (HexQ (hexG n 0 (S.drop a)) S (-1) (a + i)) := hid_intro (by
          rw [HI.out.2.2.2.2.1]
          obtain ⟨j, hj⟩ : ∃ j, n - i = j + 1 := ⟨n - i - 1, by omega⟩
          rw [hj]
          by_cases hk : a + i < S.length
          · rw [drop_at hk]; simp only [hexG, hd]; rfl
          · rw [drop_out (by omega)]; rfl)
        have hhx : ∀ w', 0 ≤ pk S (a + i) → pk S (a + i) < 256 → Calls Tryz.prog 111 #[.int .u8 (pk S (a + i))] w' fun e w2 => e = .returned (.int .i64 (-1)) ∧ w2 = w' := fun w' h1 h2 => by
          have := rhexd_any (pk S (a + i)) w' h1 h2
          rwa [hexN_n hd] at this
        have HHX := hid_intro hhx
        clear hpk hhx hd hi
        generalize pk S (a + i) = q at *
        by_cases hq0 : q < 0
        · clear hrg hx0 hx1
          go_wp2_with fail
          refine (HPK.out wr HI.out.2.2.2.2.2.2).mono ?_; rintro r w1 ⟨rfl, hb1⟩
          have HR := hid_intro (HI.out.2.2.2.2.2.2.below hb1)
          have HB := hid_intro (HI.out.2.2.2.2.2.1.below hb1)
          clear hb1
          go_wp2_with fail
          rw [HP.out]
          exact ⟨-1, a + i, rfl, HB.out, HR.out, HI.out.2.1, HE.out⟩
        · by_cases hq1 : 127 < q
          · clear hrg hx0 hx1
            go_wp2_with fail
            refine (HPK.out wr HI.out.2.2.2.2.2.2).mono ?_; rintro r w1 ⟨rfl, hb1⟩
            have HR := hid_intro (HI.out.2.2.2.2.2.2.below hb1)
            have HB := hid_intro (HI.out.2.2.2.2.2.1.below hb1)
            clear hb1
            go_wp2_with fail
            rw [HP.out]
            exact ⟨-1, a + i, rfl, HB.out, HR.out, HI.out.2.1, HE.out⟩
          · have hw8 : IntKind.u8.wrap q = q := by simp [IntKind.wrap, IntKind.bits, IntKind.signed]; omega
            clear hrg hx0 hx1
            go_wp2_with fail
            refine (HPK.out wr HI.out.2.2.2.2.2.2).mono ?_; rintro r w1 ⟨rfl, hb1⟩
            have HR := hid_intro (HI.out.2.2.2.2.2.2.below hb1)
            have HB := hid_intro (HI.out.2.2.2.2.2.1.below hb1)
            clear hb1
            go_wp2_with fail
            refine (HHX.out w1 (by omega) (by omega)).mono ?_; rintro r w2 ⟨rfl, rfl⟩
            go_wp2_with fail
            rw [HP.out]
            exact ⟨-1, a + i, rfl, HB.out, HR.out, HI.out.2.1, HE.out⟩
      | some d =>
        have hcr := hexD_rng hd
        have hdb := hexD_bd hd
        have hkl : a + i < S.length := by
          by_cases hk : a + i < S.length
          · exact hk
          · rw [pk_out (by omega)] at hcr; omega
        have HKL := hid_intro hkl
        have hlen := HI.out.2.2.2.2.2.2.len.1
        have hn4 := HN4.out
        have hw : wrap64 ((a : Int) + (i : Int) + 1) = (a : Int) + (i : Int) + 1 := w64 (by omega) (by omega)
        have hwi : wrap64 ((i : Int) + 1) = (i : Int) + 1 := w64 (by omega) (by omega)
        have HWI := hid_intro hwi
        clear hlen hn4
        have HE : Hid (hexG n 0 (S.drop a) = hexG (n - (i + 1)) (x * 16 + d) (S.drop (a + i + 1))) := hid_intro (by
          rw [HI.out.2.2.2.2.1]
          obtain ⟨j, hj⟩ : ∃ j, n - i = j + 1 := ⟨n - i - 1, by omega⟩
          rw [hj, show n - (i + 1) = j by omega, drop_at hkl]; simp only [hexG, hd])
        have HPW : Hid (x * 16 + d < 16 ^ (i + 1)) := hid_intro (by have := HI.out.2.2.2.1; rw [Int.pow_succ]; omega)
        have hhx : ∀ w', Calls Tryz.prog 111 #[.int .u8 (pk S (a + i))] w' fun e w2 => e = .returned (.int .i64 d) ∧ w2 = w' := fun w' => by
          have := rhexd_any (pk S (a + i)) w' hcr.1 (by omega)
          rwa [hexN_d hd] at this
        have HHX := hid_intro hhx
        clear hpk hhx hd hi hkl
        generalize pk S (a + i) = q at *
        have hq0 : ¬ q < 0 := by omega
        have hq1 : ¬ 127 < q := by omega
        have hd0 : ¬ d < 0 := by omega
        have hw8 : IntKind.u8.wrap q = q := by simp [IntKind.wrap, IntKind.bits, IntKind.signed]; omega
        have hw1 : IntKind.i64.wrap (16 * x) = 16 * x := by simp [IntKind.wrap, IntKind.bits, IntKind.signed]; omega
        have hw2 : IntKind.i64.wrap (16 * x + d) = 16 * x + d := by simp [IntKind.wrap, IntKind.bits, IntKind.signed]; omega
        have HD0 := hid_intro hdb.1
        have HX0 := hid_intro hx0
        clear hrg hx0 hx1 hdb hcr
        go_wp2_with fail
        refine (HPK.out wr HI.out.2.2.2.2.2.2).mono ?_; rintro r w1 ⟨rfl, hb1⟩
        have HR := hid_intro (HI.out.2.2.2.2.2.2.below hb1)
        have HB := hid_intro (HI.out.2.2.2.2.2.1.below hb1)
        clear hb1
        go_wp2_with fail
        refine (HHX.out w1).mono ?_; rintro r w2 ⟨rfl, rfl⟩
        go_wp2_with fail
        refine (HHX.out _).mono ?_; rintro r w2 ⟨rfl, rfl⟩
        obtain ⟨ao, cap, c0, c1, c2, c3, fr, h1, h2, h3, h4, h5, h6⟩ := HR.out
        have ff := fr 1
        clear h6 h4 h3 c2 c3 fr h5 h2 h1 c0
        have HREL : Hid (i + 1 ≤ n ∧ a + (i + 1) ≤ S.length ∧ 0 ≤ 16 * x + d ∧ 16 * x + d < 16 ^ (i + 1) ∧ hexG n 0 (S.drop a) = hexG (n - (i + 1)) (16 * x + d) (S.drop (a + (i + 1))) ∧ But (· = pb) w (w2.setCell ⟨pb, 1, none⟩ (.int .i64 ((a : Int) + (i : Int) + 1))) ∧ RP (w2.setCell ⟨pb, 1, none⟩ (.int .i64 ((a : Int) + (i : Int) + 1))) pb S (a + (i + 1)) g bad) := by
          refine hid_intro ⟨HIN.out, HKL.out, ?_, ?_, ?_, But.setr HB.out _, HR.out.at (a + i + 1) ?_ _ ?_⟩
          · have := HD0.out; have := HX0.out; omega
          · have := HPW.out; omega
          · rw [HE.out, show x * 16 + d = 16 * x + d by omega]; rfl
          · have := HKL.out; omega
          · omega
        clear HE HPW HD0 HX0
        go_wp2_with fail
        go_roundg (n - (i + 1))
        case measure => have := HIN.out; omega
        case rel =>
          refine ⟨i + 1, 16 * x + d, rfl, rfl, ?_, HREL.out⟩
          simp
          exact HWI.out
    · have hiI : ¬ (i : Int) < (n : Int) := by omega
      have HE : Hid (HexQ (hexG n 0 (S.drop a)) S x (a + i)) := hid_intro (by
        rw [HI.out.2.2.2.2.1, show n - i = 0 by omega]
        exact ⟨rfl, rfl, HI.out.2.1⟩)
      clear hi
      go_wp2_with fail
      rw [HP.out]
      exact ⟨x, a + i, rfl, HI.out.2.2.2.2.2.1, HI.out.2.2.2.2.2.2, HI.out.2.1, HE.out⟩
end Go.Proofs.YthbbkcdlcpbepaaGreatDoor
