/-
  What ref4.escape answers: the code point behind a backslash, or the bad length: the same as lex.escape. Conditions: the bytes lie in memory, at most 2^48 of them.
-/
import Derived.Test.YtnpnnkjkohcgnaaDoorF3
import Derived.Test.YtnpnnkjkohcgnaaDoorF5
import Derived.Test.YtnpnnkjkohcgnaaDoorG2
import Derived.Deep.DeepCutAuto
namespace Go.Proofs.YtnpnnkjkohcgnaaDoor
open Go.RowKit
attribute [local go_sem] setCell_drewN alloc_drewN

def markS : ByteArray := ⟨#[92, 117]⟩
theorem spelledL_error {l : List UInt8} (cs : List UInt8) : ∀ {i n : Nat}, spelledL l i cs = .error n → 0 < n := by
  induction cs with
  | nil => intro i n h; simp [spelledL] at h
  | cons c cs ih =>
    intro i n h
    simp only [spelledL] at h
    split at h
    · exact ih h
    · have := Except.error.inj h; omega

set_option maxRecDepth 100000 in
set_option maxHeartbeats 12800000 in
theorem rescape_any (l : List UInt8) (i : Nat) (v : Value) (w : World) (hB : Byt w v l) (h0 : 0 < l.length) (hi : i ≤ l.length) (hm : l.length ≤ 281474976710656) :
    Calls Tryd.prog 27 #[v, .int .i64 i] w fun r w' => r = .returned (runV (escL l i)) ∧ ∃ n, w' = w.drewN n := by
  have hlI : (l.length : Int) ≤ 281474976710656 := by omega
  by_cases hin : i < l.length
  · have hf := fun q => four_false l (i + 1) v (w.drewN q) (hB.below (bl_n (Below.refl _ _) q)) h0 (by omega) hm
    have ht := fun q k (hk : k ≤ l.length) => four_true l k v (w.drewN q) (hB.below (bl_n (Below.refl _ _) q)) h0 hk hm
    rcases hB with ⟨h, _⟩ | ⟨b, off, cap, rfl, hc, hm', hL⟩
    · omega
    clear hc hm' h0
    have hcell := hL.cell i hin
    have hne : ((i : Int) == (l.length : Int)) = false := beq_eq_false_iff_ne.2 (by omega)
    have hiI : (i : Int) < (l.length : Int) := by omega
    have e1 : ((i + 1 : Nat) : Int) = (i : Int) + 1 := by omega
    rw [e1] at hf
    clear e1
    have HH : Hid (∀ k, k < 8 → bx l i = cx fromS k → escL l i = .ok ((cx toS k).toNat, i + 1)) := fun k hk he => by
      have a := mean_hit hk he
      unfold escL
      rw [if_pos (by rw [hasAt_in _ hin]; exact a.1), a.2]
    have HX : Hid ((∀ j, j < 8 → bx l i ≠ cx fromS j) → escL l i = if bx l i = 117 then afterU l (unitL l false (i + 1)) else .error (i + 1)) := fun hj => by
      have a := mean_miss hj
      unfold escL
      rw [if_neg (by rw [hasAt_in _ hin, a]; simp), hasAt_in _ hin]
      simp only [beq_iff_eq]
    have HS : Hid (fromS.size = 8 ∧ toS.size = 8) := ⟨rfl, rfl⟩
    go_enter Tryd.func27, Tryd.ntmps27
    go_upto_region 3 with fail
    go_cut [7, 8] (fun s7 s8 wx => s7 = .string fromS ∧ s8 = .string toS ∧ w = wx)
    case first =>
      clear hf ht
      go_wp2_with fail
      go_meet
      exact ⟨rfl, rfl, rfl⟩
    case rest =>
      obtain ⟨rfl, rfl, rfl⟩ := hcut
      generalize fromS = s at *
      generalize toS = t at *
      go_wp2_with fail
      go_loopw [9] (fun u wr => ∃ k : Nat, k ≤ 8 ∧ u = .int .i64 (k : Int) ∧ Hid (∀ j, j < k → bx l i ≠ cx s j) ∧ ∃ q, wr = w.drewN q) (fun u _ => 8 - (intOf u).toNat)
      case atStart => exact ⟨0, Nat.zero_le _, rfl, fun j hj => by omega, 0, rfl⟩
      case round =>
        obtain ⟨k, hk, rfl, HP, q, rfl⟩ := hrel
        by_cases hks : k < 8
        · have hks1 : k < s.size := by rw [HS.out.1]; exact hks
          have hks2 : k < t.size := by rw [HS.out.2]; exact hks
          have hI : (k : Int) < (s.size : Int) := by omega
          have hI2 : (k : Int) < (t.size : Int) := by omega
          have hx := cx_at s k hks1
          have hy := cx_at t k hks2
          have hbd := cx_bd t k
          clear hf ht HX
          by_cases he : bx l i = cx s k
          · have HR : Hid (escL l i = .ok ((cx t k).toNat, i + 1)) := HH.out k hks he
            have heq : (bx l i == cx s k) = true := by rw [he]; simp
            obtain ⟨b0, b1⟩ := hbd
            clear HP HH he
            generalize bx l i = c at *
            generalize cx s k = x at *
            generalize cx t k = y at *
            go_wp2_with fail
            go_quiet (fail)
            go_wp2
            go_ret3
            exact ⟨r_pl (by rw [HR.out]; simp [runV]; omega), _, rfl⟩
          · have heq : (bx l i == cx s k) = false := beq_eq_false_iff_ne.2 he
            have HP2 : Hid (∀ j, j < k + 1 → bx l i ≠ cx s j) := fun j hj => by
              by_cases e : j = k
              · subst e; exact he
              · exact HP.out j (by omega)
            clear HP HH he hbd hy
            generalize hcc : bx l i = c at *
            generalize hxx : cx s k = x at *
            go_wp2_with fail
            go_quiet (fail)
            go_wp2
            go_roundw
            case rel => exact ⟨k + 1, by omega, by go_num, HP2, _, rfl⟩
            case measure => simp [intOf]; omega
        · obtain rfl : k = 8 := by omega
          have hI : ¬ ((8 : Nat) : Int) < (s.size : Int) := by rw [HS.out.1]; omega
          have HX2 := HX.out HP.out
          clear HP HH HS HX
          by_cases hu : bx l i = 117
          · rw [if_pos hu] at HX2
            have hub : (bx l i != 117) = false := by rw [hu]; rfl
            clear hu
            generalize bx l i = c at *
            have h1 := hf q
            clear hf
            cases hd : unitL l false (i + 1) with
            | error n =>
              rw [hd] at h1 HX2
              simp only [runV] at h1
              have HR : Hid (escL l i = .error n) := HX2
              have hn0 : (0 : Int) < (n : Int) := by have := unitL_error hd; omega
              clear hd HX2 ht hL
              go_wp2_with (go_at_call 42; refine h1.mono ?_; rintro r w' ⟨rfl, q2, rfl⟩)
              go_ret3
              exact ⟨r_pl (by rw [HR.out]; simp [runV]), _, rfl⟩
            | ok r =>
              obtain ⟨x, e⟩ := r
              have hle := unitL_le hd
              have hnl := unitL_not hd
              rw [hd] at h1 HX2
              simp only [runV] at h1
              have hA : escL l i = if 55296 ≤ x ∧ x ≤ 56319 then pairL l e x else .ok (x, e) := HX2
              simp only at hle hnl
              clear HX2
              have hel := hle.2 (by omega)
              obtain ⟨X, hX⟩ : ∃ X : Int, (x : Int) = X := ⟨_, rfl⟩
              have HXe : Hid ((x : Int) = X) := hX
              rw [hX] at h1
              clear hd hle
              by_cases hx1 : x < 55296
              · rw [if_neg (by omega)] at hA
                have HR : Hid (escL l i = .ok (x, e)) := hA
                have hx1I : X < 55296 := by omega
                clear hA ht hL hnl hx1 hX
                go_wp2_with (go_at_call 42; refine h1.mono ?_; rintro r w' ⟨rfl, q2, rfl⟩)
                go_ret3
                exact ⟨r_pl (by rw [HR.out, ← HXe.out]; simp [runV]), _, rfl⟩
              · have hx1I : decide (X < 55296) = false := decide_eq_false (by omega)
                by_cases hx2 : 56319 < x
                · rw [if_neg (by omega)] at hA
                  have HR : Hid (escL l i = .ok (x, e)) := hA
                  have hx2I : 56319 < X := by omega
                  clear hA ht hL hnl hx1 hx2 hX
                  go_wp2_with (go_at_call 42; refine h1.mono ?_; rintro r w' ⟨rfl, q2, rfl⟩)
                  go_ret3
                  exact ⟨r_pl (by rw [HR.out, ← HXe.out]; simp [runV]), _, rfl⟩
                · rw [if_pos (by omega)] at hA
                  have HR : Hid (escL l i = pairL l e x) := hA
                  have hx2I : decide (56319 < X) = false := decide_eq_false (by omega)
                  have hxa : (55296 : Int) ≤ X := by omega
                  have hxb : X ≤ 56319 := by omega
                  clear hA hnl hx1 hx2 hX
                  have heI : (e : Int) ≤ 281474976710656 := by omega
                  go_upto_region 14 with (go_at_call 42; refine h1.mono ?_; rintro r w' ⟨rfl, q2, rfl⟩)
                  go_cut [13] (fun s13 wx => s13 = .string markS ∧ ∃ q, wx = w.drewN q)
                  case first =>
                    clear ht
                    go_wp2_with fail
                    go_meet
                    exact ⟨rfl, _, rfl⟩
                  case rest =>
                    obtain ⟨rfl, q3, rfl⟩ := hcut
                    have HM : Hid (markS.size = 2 ∧ markS.data.toList = [92, 117]) := ⟨rfl, rfl⟩
                    clear hcell hne hub h1 hI
                    generalize markS = m at *
                    go_wp2_with fail
                    go_loopw [14] (fun u wr => ∃ k : Nat, k ≤ 2 ∧ u = .int .i64 (k : Int) ∧ e + k ≤ l.length ∧ Hid (spelledL l (e + k) (m.data.toList.drop k) = spelledL l e m.data.toList) ∧ ∃ q, wr = w.drewN q) (fun u _ => 2 - (intOf u).toNat)
                    case atStart => exact ⟨0, Nat.zero_le _, rfl, by omega, rfl, _, rfl⟩
                    case round =>
                      obtain ⟨k, hk, rfl, hil, HP, q4, rfl⟩ := hrel
                      by_cases hks : k < 2
                      · have hksz : k < m.size := by rw [HM.out.1]; exact hks
                        have hI : (k : Int) < 2 := by omega
                        have hIm : (k : Int) < (m.size : Int) := by omega
                        obtain ⟨c, ec, ecx⟩ := cx_list m k hksz
                        have hx := cx_at m k hksz
                        by_cases hin2 : e + k < l.length
                        · have hcell := hL.cell (e + k) hin2
                          have hne : ((e : Int) + (k : Int) == (l.length : Int)) = false := beq_eq_false_iff_ne.2 (by omega)
                          have hinI : (e : Int) + (k : Int) < (l.length : Int) := by omega
                          have hin0 : (0 : Int) ≤ (e : Int) + (k : Int) := by omega
                          have hnat : ((e : Int) + (k : Int)).toNat = e + k := by omega
                          by_cases he : bx l (e + k) = cx m k
                          · have HR2 : Hid (spelledL l (e + (k + 1)) (m.data.toList.drop (k + 1)) = spelledL l e m.data.toList) := by
                              show _ = _
                              rw [← HP.out, ec, spelledL, ecx, hasAt_in _ hin2, he]; simp; rfl
                            have heq : (bx l (e + k) != cx m k) = false := by rw [he]; simp
                            clear HP ec ecx he ht HR HM
                            generalize bx l (e + k) = y at *
                            generalize cx m k = x2 at *
                            go_wp2_with fail
                            go_quiet (fail)
                            go_wp2
                            go_roundw
                            case rel => exact ⟨k + 1, by omega, by go_num, by omega, HR2, _, rfl⟩
                            case measure => simp [intOf]; omega
                          · have HR2 : Hid (escL l i = .error (e + k + 1)) := by
                              show _ = _
                              rw [HR.out, pairL, ← HM.out.2, ← HP.out, ec, spelledL, ecx, hasAt_in _ hin2, beq_eq_false_iff_ne.2 he]; rfl
                            have heq : (bx l (e + k) != cx m k) = true := by simp only [bne, beq_eq_false_iff_ne.2 he]; rfl
                            clear HP ec ecx he ht HR HM
                            generalize bx l (e + k) = y at *
                            generalize cx m k = x2 at *
                            go_wp2_with fail
                            go_quiet (fail)
                            go_wp2
                            go_ret3
                            exact ⟨r_pl (by rw [HR2.out]; simp [runV]), _, rfl⟩
                        · have HR2 : Hid (escL l i = .error (e + k + 1)) := by
                            show _ = _
                            rw [HR.out, pairL, ← HM.out.2, ← HP.out, ec, spelledL, ecx, hasAt_out _ hin2]; rfl
                          have heq : ((e : Int) + (k : Int) == (l.length : Int)) = true := by
                            have : (e : Int) + (k : Int) = (l.length : Int) := by omega
                            rw [this]; simp
                          clear HP ec ecx hL hx hin2 ht HR HM
                          go_wp2_with fail
                          go_quiet (fail)
                          go_wp2
                          go_ret3
                          exact ⟨r_pl (by rw [HR2.out]; simp [runV]), _, rfl⟩
                      · obtain rfl : k = 2 := by omega
                        have hI : ¬ ((2 : Nat) : Int) < 2 := by omega
                        have HR3 : Hid (escL l i = match unitL l true (e + 2) with
                            | .error n => .error n
                            | .ok r => .ok (65536 + (x - 55296) * 1024 + (r.1 - 56320), r.2)) := by
                          show _ = _
                          have hz : m.data.toList.drop 2 = [] := by rw [HM.out.2]; rfl
                          have hsp : spelledL l e [92, 117] = .ok (e + 2) := by rw [← HM.out.2, ← HP.out, hz]; rfl
                          rw [HR.out, pairL, hsp]
                          show (match unitL l true (e + 2) with | .error n => _ | .ok r => _) = _
                          cases unitL l true (e + 2) <;> rfl
                        have h2 := ht q4 (e + 2) hil
                        have e2 : ((e + 2 : Nat) : Int) = (e : Int) + 2 := by omega
                        rw [e2] at h2
                        clear HP HR HM ht hL e2
                        cases hd : unitL l true (e + 2) with
                        | error n =>
                          rw [hd] at h2 HR3
                          simp only [runV] at h2
                          have hn0 : (0 : Int) < (n : Int) := by have := unitL_error hd; omega
                          clear hd
                          go_wp2_with (go_at_call 42; refine h2.mono ?_; rintro r w' ⟨rfl, q2, rfl⟩)
                          go_ret3
                          exact ⟨r_pl (by rw [HR3.out]; simp [runV]), _, rfl⟩
                        | ok r =>
                          obtain ⟨y, e3⟩ := r
                          have hlo := unitL_low hd
                          rw [hd] at h2 HR3
                          simp only [runV] at h2
                          simp only at HR3 hlo
                          have h3 := fun w => rpair_ok X (y : Int) w hxa hxb (by omega) (by omega)
                          have HV : Hid ((65536 : Int) + (X - 55296) * 1024 + ((y : Int) - 56320) = ((65536 + (x - 55296) * 1024 + (y - 56320) : Nat) : Int)) := by have := HXe.out; show _ = _; omega
                          have HV2 : Hid (escL l i = .ok (65536 + (x - 55296) * 1024 + (y - 56320), e3)) := HR3.out
                          have hbig : (0 : Int) ≤ (65536 : Int) + (X - 55296) * 1024 + ((y : Int) - 56320) ∧ (65536 : Int) + (X - 55296) * 1024 + ((y : Int) - 56320) ≤ 2000000 := by omega
                          clear hd hlo HR3 hxa hxb hx1I hx2I
                          generalize (65536 : Int) + (X - 55296) * 1024 + ((y : Int) - 56320) = z at *
                          generalize 65536 + (x - 55296) * 1024 + (y - 56320) = zn at *
                          go_wp2_with (first | (go_at_call 42; refine h2.mono ?_; rintro r w' ⟨rfl, q2, rfl⟩) | (go_at_call 43; refine (h3 _).mono ?_; rintro r w' ⟨rfl, rfl⟩))
                          go_ret3
                          exact ⟨r_pl (by rw [HV2.out, HV.out]; simp [runV]), _, rfl⟩
          · rw [if_neg hu] at HX2
            have HR : Hid (escL l i = .error (i + 1)) := HX2
            have hub : (bx l i != 117) = true := by simp only [bne, beq_eq_false_iff_ne.2 hu]; rfl
            clear hu HX2 hf ht
            generalize bx l i = c at *
            go_wp2
            go_ret3
            exact ⟨r_pl (by rw [HR.out]; simp [runV]), _, rfl⟩
  · have heq : ((i : Int) == (l.length : Int)) = true := by
      have : (i : Int) = (l.length : Int) := by omega
      rw [this]; simp
    have HR : Hid (escL l i = .error (i + 1)) := by show _ = _; simp [escL, hasAt_out _ hin]
    obtain ⟨a, cap, rfl, _⟩ := hB.shape
    clear hB hin
    go_enter Tryd.func27, Tryd.ntmps27
    go_wp2
    go_ret3
    exact ⟨r_pl (by rw [HR.out]; simp [runV]), 0, rfl⟩
end Go.Proofs.YtnpnnkjkohcgnaaDoor
