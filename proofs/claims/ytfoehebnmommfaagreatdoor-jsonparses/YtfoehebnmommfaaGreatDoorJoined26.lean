/-
  What ref1.Put and ref1.Pair answer. Conditions: what stands ahead of a code point is at most 2^47 - 4096 bytes long.
  What ref4.escape answers: the code point behind a backslash, or the bad length: the same as lex.escape. Conditions: the bytes lie in memory, at most 2^48 of them.
  Plain mathematics: a string that is read step by step is the string that is read run by run. No condition.
-/
import Derived.Test.YtfoehebnmommfaaGreatDoorJoined5
import Derived.Test.YtfoehebnmommfaaGreatDoorJoined8
import Derived.Test.YtfoehebnmommfaaGreatDoorJoined25
import Derived.Deep.DeepCutAuto
import Derived.Test.YtfoehebnmommfaaGreatDoorJoined21
namespace Go.Proofs.YtfoehebnmommfaaGreatDoor.Lx
open Go.RowKit

set_option maxHeartbeats 400000 in
theorem bytes_ok (p : Int) (w : World) (hp : ptB p = true) :
    Calls Tryz.prog 89 #[.int .i64 p] w fun e w' => ∃ v, e = .returned v ∧ Row w' v (encN p) (encF p) ∧ Below w.heap.size w w' := by
  obtain ⟨q0, q1, q2⟩ := (ptB_iff p).1 hp
  clear hp
  by_cases h1 : p < 128
  · have e : encN p = 1 := by simp [encN, h1]
    rw [e]
    have hr := enc_row1 w p q0 h1
    clear e
    go_enter Tryz.func89, Tryz.ntmps89
    go_wp2
    go_ret
    exact ⟨_, rfl, hr, (Below.refl _ _).alloc (Nat.le_refl _) _⟩
  · by_cases h2 : p < 2048
    · have e : encN p = 2 := by simp [encN, h1, h2]
      rw [e]
      have hr := enc_row2 w p (by omega) h2
      have e1 := or192 (p / 64) (by omega) (by omega)
      have e2 := i64_and63 p q0 (by omega)
      have e3 := or128 (p % 64) (by omega) (by omega)
      clear e
      go_enter Tryz.func89, Tryz.ntmps89
      go_wp2
      go_ret
      exact ⟨_, rfl, hr, (Below.refl _ _).alloc (Nat.le_refl _) _⟩
    · by_cases h3 : p < 65536
      · have e : encN p = 3 := by simp [encN, h1, h2, h3]
        rw [e]
        have hr := enc_row3 w p (by omega) h3
        have e1 := or224 (p / 4096) (by omega) (by omega)
        have e2 := i64_and63 p q0 (by omega)
        have e3 := or128 (p % 64) (by omega) (by omega)
        have e4 := i64_and63 (p / 64) (by omega) (by omega)
        have e5 := or128 (p / 64 % 64) (by omega) (by omega)
        clear e
        go_enter Tryz.func89, Tryz.ntmps89
        go_wp2
        go_ret
        exact ⟨_, rfl, hr, (Below.refl _ _).alloc (Nat.le_refl _) _⟩
      · have e : encN p = 4 := by simp [encN, h1, h2, h3]
        rw [e]
        have hr := enc_row4 w p (by omega) q1
        have e1 := or240 (p / 262144) (by omega) (by omega)
        have e2 := i64_and63 p q0 (by omega)
        have e3 := or128 (p % 64) (by omega) (by omega)
        have e4 := i64_and63 (p / 64) (by omega) (by omega)
        have e5 := or128 (p / 64 % 64) (by omega) (by omega)
        have e6 := i64_and63 (p / 4096) (by omega) (by omega)
        have e7 := or128 (p / 4096 % 64) (by omega) (by omega)
        clear e
        go_enter Tryz.func89, Tryz.ntmps89
        go_wp2
        go_ret
        exact ⟨_, rfl, hr, (Below.refl _ _).alloc (Nat.le_refl _) _⟩
set_option maxHeartbeats 400000 in
theorem rput_ok (v0 : Value) (n : Nat) (f : Nat → Int) (p : Int) (w : World) (hp : ptB p = true) (hR : Row w v0 n f) (hb : n + 4 ≤ 140737488355328) :
    Calls Tryz.prog 60 #[v0, .int .i64 p] w fun e w' => ∃ r, e = .returned (.tuple #[r, .int .i64 0]) ∧ w'.ownsRow w.heap.size 5 1 r (n + encN p) (vals (n + encN p) (catF n f (encF p))) ∧ Below w.heap.size w w' := by
  have h := scalar_any p w
  rw [hp] at h
  have hc := copy_any v0 n f w hR (by omega)
  have hbs := fun w => bytes_ok p w hp
  have hn4 : encN p ≤ 4 := by unfold encN; repeat' split
                              all_goals omega
  clear hp hR
  go_enter Tryz.func60, Tryz.ntmps60
  go_wp2_with (first | (go_at_call 87; refine h.mono ?_; rintro e w' ⟨rfl, rfl⟩) | (go_at_call 88; fail))
  refine hc.mono ?_
  rintro e w1 ⟨r, rfl, ho, hb1⟩
  have hz1 := hb1.size
  clear hc h
  go_wp2_with fail
  refine (hbs w1).mono ?_
  rintro e w2 ⟨v, rfl, hv, hb2⟩
  have ho2 := own_below ho hb2
  have hb3 : Below w.heap.size w w2 := hb1.trans (hb2.mono hz1)
  have hz2 := hb3.size
  clear hbs ho hb1 hb2 hz1
  go_wp2_with (at_builtin; refine wpList_append_row rfl (.tmp 10) (.tmp 12) rfl w.heap.size _ _ _ rfl ho2 _ _ _ rfl hv ?_ ?_ ?_)
  · omega
  · exact hz2
  · intro v' w3 ho3 hg3
    have hb4 : Below w.heap.size w w3 := hb3.grown hg3 hz2 (fun j hj => (ho2.lt j hj).1)
    rw [vals_cat] at ho3
    clear ho2 hg3 hv
    go_wp2
    go_ret2
    exact ⟨_, rfl, ho3, hb4⟩
set_option maxHeartbeats 400000 in
theorem rpair_ok (h l : Int) (w : World) (h1 : 55296 ≤ h) (h2 : h ≤ 56319) (h3 : 56320 ≤ l) (h4 : l ≤ 57343) :
    Calls Tryz.prog 86 #[.int .i64 h, .int .i64 l] w fun e w' => e = .returned (.tuple #[.int .i64 (65536 + (h - 55296) * 1024 + (l - 56320)), .int .i64 0]) ∧ w = w' := by
  go_enter Tryz.func86, Tryz.ntmps86
  go_wp2
  go_ret2
  exact ⟨ret2_int rfl rfl, rfl⟩
end Go.Proofs.YtfoehebnmommfaaGreatDoor.Lx

namespace Go.Proofs.YtfoehebnmommfaaGreatDoor.Lx
open Go.RowKit
attribute [local go_sem] setCell_drewN alloc_drewN

def markS : ByteArray := ⟨#[92, 117]⟩
theorem spelledL_error {l : List UInt8} (cs : List UInt8) : ∀ {i n : Nat}, spelledL l i cs = .error n → 0 < n := by
  induction cs with
  | nil => intro i n h; simp [spelledL] at h
  | cons c cs ih =>
    intro i n h
    simp only [spelledL] at h
    split at h
    · exact ih h
    · have := Except.error.inj h; omega
set_option maxRecDepth 100000 in
set_option maxHeartbeats 12800000 in
theorem rescape_any (l : List UInt8) (i : Nat) (v : Value) (w : World) (hB : Byt w v l) (h0 : 0 < l.length) (hi : i ≤ l.length) (hm : l.length ≤ 281474976710656) :
    Calls Tryz.prog 59 #[v, .int .i64 i] w fun r w' => r = .returned (runV (escL l i)) ∧ ∃ n, w' = w.drewN n := by
  have hlI : (l.length : Int) ≤ 281474976710656 := by omega
  by_cases hin : i < l.length
  · have hf := fun q => four_false l (i + 1) v (w.drewN q) (hB.below (bl_n (Below.refl _ _) q)) h0 (by omega) hm
    have ht := fun q k (hk : k ≤ l.length) => four_true l k v (w.drewN q) (hB.below (bl_n (Below.refl _ _) q)) h0 hk hm
    rcases hB with ⟨h, _⟩ | ⟨b, off, cap, rfl, hc, hm', hL⟩
    · omega
    clear hc hm' h0
    have hcell := hL.cell i hin
    have hne : ((i : Int) == (l.length : Int)) = false := beq_eq_false_iff_ne.2 (by omega)
    have hiI : (i : Int) < (l.length : Int) := by omega
    have e1 : ((i + 1 : Nat) : Int) = (i : Int) + 1 := by omega
    rw [e1] at hf
    clear e1
    have HH : Hid (∀ k, k < 8 → bx l i = cx fromS k → escL l i = .ok ((cx toS k).toNat, i + 1)) := fun k hk he => by
      have a := mean_hit hk he
      unfold escL
      rw [if_pos (by rw [hasAt_in _ hin]; exact a.1), a.2]
    have HX : Hid ((∀ j, j < 8 → bx l i ≠ cx fromS j) → escL l i = if bx l i = 117 then afterU l (unitL l false (i + 1)) else .error (i + 1)) := fun hj => by
      have a := mean_miss hj
      unfold escL
      rw [if_neg (by rw [hasAt_in _ hin, a]; simp), hasAt_in _ hin]
      simp only [beq_iff_eq]
    have HS : Hid (fromS.size = 8 ∧ toS.size = 8) := ⟨rfl, rfl⟩
    go_enter Tryz.func59, Tryz.ntmps59
    go_upto_region 3 with fail
    go_cut [7, 8] (fun s7 s8 wx => s7 = .string fromS ∧ s8 = .string toS ∧ w = wx)
    case first =>
      clear hf ht
      go_wp2_with fail
      go_meet
      exact ⟨rfl, rfl, rfl⟩
    case rest =>
      obtain ⟨rfl, rfl, rfl⟩ := hcut
      generalize fromS = s at *
      generalize toS = t at *
      go_wp2_with fail
      go_loopw [9] (fun u wr => ∃ k : Nat, k ≤ 8 ∧ u = .int .i64 (k : Int) ∧ Hid (∀ j, j < k → bx l i ≠ cx s j) ∧ ∃ q, wr = w.drewN q) (fun u _ => 8 - (intOf u).toNat)
      case atStart => exact ⟨0, Nat.zero_le _, rfl, fun j hj => by omega, 0, rfl⟩
      case round =>
        obtain ⟨k, hk, rfl, HP, q, rfl⟩ := hrel
        by_cases hks : k < 8
        · have hks1 : k < s.size := by rw [HS.out.1]; exact hks
          have hks2 : k < t.size := by rw [HS.out.2]; exact hks
          have hI : (k : Int) < (s.size : Int) := by omega
          have hI2 : (k : Int) < (t.size : Int) := by omega
          have hx := cx_at s k hks1
          have hy := cx_at t k hks2
          have hbd := cx_bd t k
          clear hf ht HX
          by_cases he : bx l i = cx s k
          · have HR : Hid (escL l i = .ok ((cx t k).toNat, i + 1)) := HH.out k hks he
            have heq : (bx l i == cx s k) = true := by rw [he]; simp
            obtain ⟨b0, b1⟩ := hbd
            clear HP HH he
            generalize bx l i = c at *
            generalize cx s k = x at *
            generalize cx t k = y at *
            go_wp2_with fail
            go_quiet (fail)
            go_wp2
            go_ret3
            exact ⟨r_pl (by rw [HR.out]; simp [runV]; omega), _, rfl⟩
          · have heq : (bx l i == cx s k) = false := beq_eq_false_iff_ne.2 he
            have HP2 : Hid (∀ j, j < k + 1 → bx l i ≠ cx s j) := fun j hj => by
              by_cases e : j = k
              · subst e; exact he
              · exact HP.out j (by omega)
            clear HP HH he hbd hy
            generalize hcc : bx l i = c at *
            generalize hxx : cx s k = x at *
            go_wp2_with fail
            go_quiet (fail)
            go_wp2
            go_roundw
            case rel => exact ⟨k + 1, by omega, by go_num, HP2, _, rfl⟩
            case measure => simp [intOf]; omega
        · obtain rfl : k = 8 := by omega
          have hI : ¬ ((8 : Nat) : Int) < (s.size : Int) := by rw [HS.out.1]; omega
          have HX2 := HX.out HP.out
          clear HP HH HS HX
          by_cases hu : bx l i = 117
          · rw [if_pos hu] at HX2
            have hub : (bx l i != 117) = false := by rw [hu]; rfl
            clear hu
            generalize bx l i = c at *
            have h1 := hf q
            clear hf
            cases hd : unitL l false (i + 1) with
            | error n =>
              rw [hd] at h1 HX2
              simp only [runV] at h1
              have HR : Hid (escL l i = .error n) := HX2
              have hn0 : (0 : Int) < (n : Int) := by have := unitL_error hd; omega
              clear hd HX2 ht hL
              go_wp2_with (go_at_call 85; refine h1.mono ?_; rintro r w' ⟨rfl, q2, rfl⟩)
              go_ret3
              exact ⟨r_pl (by rw [HR.out]; simp [runV]), _, rfl⟩
            | ok r =>
              obtain ⟨x, e⟩ := r
              have hle := unitL_le hd
              have hnl := unitL_not hd
              rw [hd] at h1 HX2
              simp only [runV] at h1
              have hA : escL l i = if 55296 ≤ x ∧ x ≤ 56319 then pairL l e x else .ok (x, e) := HX2
              simp only at hle hnl
              clear HX2
              have hel := hle.2 (by omega)
              obtain ⟨X, hX⟩ : ∃ X : Int, (x : Int) = X := ⟨_, rfl⟩
              have HXe : Hid ((x : Int) = X) := hX
              rw [hX] at h1
              clear hd hle
              by_cases hx1 : x < 55296
              · rw [if_neg (by omega)] at hA
                have HR : Hid (escL l i = .ok (x, e)) := hA
                have hx1I : X < 55296 := by omega
                clear hA ht hL hnl hx1 hX
                go_wp2_with (go_at_call 85; refine h1.mono ?_; rintro r w' ⟨rfl, q2, rfl⟩)
                go_ret3
                exact ⟨r_pl (by rw [HR.out, ← HXe.out]; simp [runV]), _, rfl⟩
              · have hx1I : decide (X < 55296) = false := decide_eq_false (by omega)
                by_cases hx2 : 56319 < x
                · rw [if_neg (by omega)] at hA
                  have HR : Hid (escL l i = .ok (x, e)) := hA
                  have hx2I : 56319 < X := by omega
                  clear hA ht hL hnl hx1 hx2 hX
                  go_wp2_with (go_at_call 85; refine h1.mono ?_; rintro r w' ⟨rfl, q2, rfl⟩)
                  go_ret3
                  exact ⟨r_pl (by rw [HR.out, ← HXe.out]; simp [runV]), _, rfl⟩
                · rw [if_pos (by omega)] at hA
                  have HR : Hid (escL l i = pairL l e x) := hA
                  have hx2I : decide (56319 < X) = false := decide_eq_false (by omega)
                  have hxa : (55296 : Int) ≤ X := by omega
                  have hxb : X ≤ 56319 := by omega
                  clear hA hnl hx1 hx2 hX
                  have heI : (e : Int) ≤ 281474976710656 := by omega
                  go_upto_region 14 with (go_at_call 85; refine h1.mono ?_; rintro r w' ⟨rfl, q2, rfl⟩)
                  go_cut [13] (fun s13 wx => s13 = .string markS ∧ ∃ q, wx = w.drewN q)
                  case first =>
                    clear ht
                    go_wp2_with fail
                    go_meet
                    exact ⟨rfl, _, rfl⟩
                  case rest =>
                    obtain ⟨rfl, q3, rfl⟩ := hcut
                    have HM : Hid (markS.size = 2 ∧ markS.data.toList = [92, 117]) := ⟨rfl, rfl⟩
                    clear hcell hne hub h1 hI
                    generalize markS = m at *
                    go_wp2_with fail
                    go_loopw [14] (fun u wr => ∃ k : Nat, k ≤ 2 ∧ u = .int .i64 (k : Int) ∧ e + k ≤ l.length ∧ Hid (spelledL l (e + k) (m.data.toList.drop k) = spelledL l e m.data.toList) ∧ ∃ q, wr = w.drewN q) (fun u _ => 2 - (intOf u).toNat)
                    case atStart => exact ⟨0, Nat.zero_le _, rfl, by omega, rfl, _, rfl⟩
                    case round =>
                      obtain ⟨k, hk, rfl, hil, HP, q4, rfl⟩ := hrel
                      by_cases hks : k < 2
                      · have hksz : k < m.size := by rw [HM.out.1]; exact hks
                        have hI : (k : Int) < 2 := by omega
                        have hIm : (k : Int) < (m.size : Int) := by omega
                        obtain ⟨c, ec, ecx⟩ := cx_list m k hksz
                        have hx := cx_at m k hksz
                        by_cases hin2 : e + k < l.length
                        · have hcell := hL.cell (e + k) hin2
                          have hne : ((e : Int) + (k : Int) == (l.length : Int)) = false := beq_eq_false_iff_ne.2 (by omega)
                          have hinI : (e : Int) + (k : Int) < (l.length : Int) := by omega
                          have hin0 : (0 : Int) ≤ (e : Int) + (k : Int) := by omega
                          have hnat : ((e : Int) + (k : Int)).toNat = e + k := by omega
                          by_cases he : bx l (e + k) = cx m k
                          · have HR2 : Hid (spelledL l (e + (k + 1)) (m.data.toList.drop (k + 1)) = spelledL l e m.data.toList) := by
                              show _ = _
                              rw [← HP.out, ec, spelledL, ecx, hasAt_in _ hin2, he]; simp; rfl
                            have heq : (bx l (e + k) != cx m k) = false := by rw [he]; simp
                            clear HP ec ecx he ht HR HM
                            generalize bx l (e + k) = y at *
                            generalize cx m k = x2 at *
                            go_wp2_with fail
                            go_quiet (fail)
                            go_wp2
                            go_roundw
                            case rel => exact ⟨k + 1, by omega, by go_num, by omega, HR2, _, rfl⟩
                            case measure => simp [intOf]; omega
                          · have HR2 : Hid (escL l i = .error (e + k + 1)) := by
                              show _ = _
                              rw [HR.out, pairL, ← HM.out.2, ← HP.out, ec, spelledL, ecx, hasAt_in _ hin2, beq_eq_false_iff_ne.2 he]; rfl
                            have heq : (bx l (e + k) != cx m k) = true := by simp only [bne, beq_eq_false_iff_ne.2 he]; rfl
                            clear HP ec ecx he ht HR HM
                            generalize bx l (e + k) = y at *
                            generalize cx m k = x2 at *
                            go_wp2_with fail
                            go_quiet (fail)
                            go_wp2
                            go_ret3
                            exact ⟨r_pl (by rw [HR2.out]; simp [runV]), _, rfl⟩
                        · have HR2 : Hid (escL l i = .error (e + k + 1)) := by
                            show _ = _
                            rw [HR.out, pairL, ← HM.out.2, ← HP.out, ec, spelledL, ecx, hasAt_out _ hin2]; rfl
                          have heq : ((e : Int) + (k : Int) == (l.length : Int)) = true := by
                            have : (e : Int) + (k : Int) = (l.length : Int) := by omega
                            rw [this]; simp
                          clear HP ec ecx hL hx hin2 ht HR HM
                          go_wp2_with fail
                          go_quiet (fail)
                          go_wp2
                          go_ret3
                          exact ⟨r_pl (by rw [HR2.out]; simp [runV]), _, rfl⟩
                      · obtain rfl : k = 2 := by omega
                        have hI : ¬ ((2 : Nat) : Int) < 2 := by omega
                        have HR3 : Hid (escL l i = match unitL l true (e + 2) with
                            | .error n => .error n
                            | .ok r => .ok (65536 + (x - 55296) * 1024 + (r.1 - 56320), r.2)) := by
                          show _ = _
                          have hz : m.data.toList.drop 2 = [] := by rw [HM.out.2]; rfl
                          have hsp : spelledL l e [92, 117] = .ok (e + 2) := by rw [← HM.out.2, ← HP.out, hz]; rfl
                          rw [HR.out, pairL, hsp]
                          show (match unitL l true (e + 2) with | .error n => _ | .ok r => _) = _
                          cases unitL l true (e + 2) <;> rfl
                        have h2 := ht q4 (e + 2) hil
                        have e2 : ((e + 2 : Nat) : Int) = (e : Int) + 2 := by omega
                        rw [e2] at h2
                        clear HP HR HM ht hL e2
                        cases hd : unitL l true (e + 2) with
                        | error n =>
                          rw [hd] at h2 HR3
                          simp only [runV] at h2
                          have hn0 : (0 : Int) < (n : Int) := by have := unitL_error hd; omega
                          clear hd
                          go_wp2_with (go_at_call 85; refine h2.mono ?_; rintro r w' ⟨rfl, q2, rfl⟩)
                          go_ret3
                          exact ⟨r_pl (by rw [HR3.out]; simp [runV]), _, rfl⟩
                        | ok r =>
                          obtain ⟨y, e3⟩ := r
                          have hlo := unitL_low hd
                          rw [hd] at h2 HR3
                          simp only [runV] at h2
                          simp only at HR3 hlo
                          have h3 := fun w => rpair_ok X (y : Int) w hxa hxb (by omega) (by omega)
                          have HV : Hid ((65536 : Int) + (X - 55296) * 1024 + ((y : Int) - 56320) = ((65536 + (x - 55296) * 1024 + (y - 56320) : Nat) : Int)) := by have := HXe.out; show _ = _; omega
                          have HV2 : Hid (escL l i = .ok (65536 + (x - 55296) * 1024 + (y - 56320), e3)) := HR3.out
                          have hbig : (0 : Int) ≤ (65536 : Int) + (X - 55296) * 1024 + ((y : Int) - 56320) ∧ (65536 : Int) + (X - 55296) * 1024 + ((y : Int) - 56320) ≤ 2000000 := by omega
                          clear hd hlo HR3 hxa hxb hx1I hx2I
                          generalize (65536 : Int) + (X - 55296) * 1024 + ((y : Int) - 56320) = z at *
                          generalize 65536 + (x - 55296) * 1024 + (y - 56320) = zn at *
                          go_wp2_with (first | (go_at_call 85; refine h2.mono ?_; rintro r w' ⟨rfl, q2, rfl⟩) | (go_at_call 86; refine (h3 _).mono ?_; rintro r w' ⟨rfl, rfl⟩))
                          go_ret3
                          exact ⟨r_pl (by rw [HV2.out, HV.out]; simp [runV]), _, rfl⟩
          · rw [if_neg hu] at HX2
            have HR : Hid (escL l i = .error (i + 1)) := HX2
            have hub : (bx l i != 117) = true := by simp only [bne, beq_eq_false_iff_ne.2 hu]; rfl
            clear hu HX2 hf ht
            generalize bx l i = c at *
            go_wp2
            go_ret3
            exact ⟨r_pl (by rw [HR.out]; simp [runV]), _, rfl⟩
  · have heq : ((i : Int) == (l.length : Int)) = true := by
      have : (i : Int) = (l.length : Int) := by omega
      rw [this]; simp
    have HR : Hid (escL l i = .error (i + 1)) := by show _ = _; simp [escL, hasAt_out _ hin]
    obtain ⟨a, cap, rfl, _⟩ := hB.shape
    clear hB hin
    go_enter Tryz.func59, Tryz.ntmps59
    go_wp2
    go_ret3
    exact ⟨r_pl (by rw [HR.out]; simp [runV]), 0, rfl⟩
end Go.Proofs.YtfoehebnmommfaaGreatDoor.Lx

namespace Go.Proofs.YtfoehebnmommfaaGreatDoor.Lx
open Go.RowKit

theorem goodF_shift2 (len : Nat) (f : Nat → Int) (p : Nat) (hp : p ≤ len) (k : Nat) : ∀ q, goodF len f k (p + q) = (p + (goodF (len - p) (fun i => f (p + i)) k q).1, (goodF (len - p) (fun i => f (p + i)) k q).2) := by
 induction k with
 | zero => intro q; rfl
 | succ k ih =>
  intro q
  simp only [goodF]
  rw [show len - (p + q) = len - p - q by omega]
  have e : (fun i => f (p + q + i)) = fun i => f (p + (q + i)) := by funext i; rw [Nat.add_assoc]
  rw [e]
  by_cases g : len ≤ p + q
  ·rw [if_pos g, if_pos (show len - p ≤ q by omega)]
  ·rw [if_neg g, if_neg (show ¬ len - p ≤ q by omega)]
   by_cases g2 : (stepF (len - p - q) fun i => f (p + (q + i))).2 = true
   ·rw [if_pos g2, if_pos g2, Nat.add_assoc]
    exact ih _
   ·rw [if_neg g2, if_neg g2, Nat.add_assoc]
theorem good_step {t : List UInt8} (h0 : t ≠ []) : goodL t = if (stepF t.length (bx t)).2 = true then ((stepF t.length (bx t)).1 + (goodL (t.drop (stepF t.length (bx t)).1)).1, (goodL (t.drop (stepF t.length (bx t)).1)).2) else ((stepF t.length (bx t)).1, false) := by
 have hl : 0 < t.length := List.length_pos_iff.2 h0
 obtain ⟨k, hk⟩ : ∃ k, t.length = k + 1 := ⟨t.length - 1, by omega⟩
 unfold goodL good
 have e0 : (fun i => bx t (0 + i)) = bx t := by funext i; rw [Nat.zero_add]
 have key : ∀ n, 1 ≤ n → n ≤ t.length → goodF t.length (bx t) k n = (n + (goodF (t.drop n).length (bx (t.drop n)) (t.drop n).length 0).1, (goodF (t.drop n).length (bx (t.drop n)) (t.drop n).length 0).2) := fun n h1 hn => by
  rw [goodF_fuel t.length (bx t) k (t.length - n) n (by omega) (by omega)]
  have := goodF_shift2 t.length (bx t) n hn (t.length - n) 0
  rw [Nat.add_zero] at this
  rw [this, bx_drop, List.length_drop]
 have hs := stepF_le t.length (bx t) hl
 rw [show goodF t.length (bx t) t.length 0 = goodF t.length (bx t) (k + 1) 0 by rw [← hk]]
 simp only [goodF]
 rw [if_neg (by omega), Nat.sub_zero, e0, Nat.zero_add]
 by_cases g : (stepF t.length (bx t)).2 = true
 ·rw [if_pos g, if_pos g, key _ (stepF_pos _ _ g) hs]
 ·rw [if_neg g, if_neg g]
theorem step_cut (r r' : Nat) (F G : Nat → Int) (a : Nat) (l : 0 ≤ G 0) (u : G 0 < 256) (h : stepF r F = (a, false)) (h0 : G 0 = F 0) (he : ∀ i, i < a → G i = F i) (har' : a ≤ r')
  (hb : r' ≤ a ∨ folB (G a) = false ∨ (a < r ∧ G a = F a)) : stepF r' G = (a, false) := by
 rcases stepF_false r F a h with ⟨rfl, z⟩ | ⟨a1, a3, ah, s2, s3, hz⟩
 ·exact stepF_none r' G (by rw [h0]; exact z)
 ·have hp : passed r' G a := by
   refine ⟨fun h2 => ⟨by omega, ?_⟩, fun h3 => ⟨by omega, ?_⟩, fun h4 => by omega⟩
   ·rw [h0, he 1 (by omega)]; exact s2 h2
   ·rw [he 2 (by omega)]; exact s3 h3
  have hb' : r' ≤ a ∨ folB (G a) = false ∨ okAt G a = false := by
   rcases hb with z | z | ⟨z, z2⟩
   ·exact .inl z
   ·exact .inr (.inl z)
   ·rcases hz with y | ⟨rfl, y⟩ | ⟨rfl, y⟩ | ⟨rfl, y⟩
    ·omega
    ·exact .inr (.inr (by simp [okAt, h0, z2, y]))
    ·exact .inr (.inl (by rw [z2]; exact y))
    ·exact .inr (.inl (by rw [z2]; exact y))
  exact stepF_part r' G l u a a1 (by rw [h0]; exact ah) hp hb'
theorem textF_fuel (l : List UInt8) (fr : Nat) (f : Nat) : ∀ (f' i : Nat) (out : List UInt8), i ≤ l.length → l.length + 1 ≤ i + f → l.length + 1 ≤ i + f' → textF l fr f i out = textF l fr f' i out := by
 induction f with
 | zero => intro f' i out h1 h2; omega
 | succ f ih =>
  intro f' i out hi h1 h2
  cases f' with
  | zero => omega
  | succ f' =>
   simp only [textF]
   cases hp : plainL l i with
   | error n => rfl
   | ok e =>
    simp only
    split
    ·rfl
    ·cases he : escapeL l e with
     | error n => rfl
     | ok r =>
      obtain ⟨t, k⟩ := r
      have a := plainL_le hp
      have b := escapeL_le he
      exact ih f' k _ b.2.1 (by omega) (by omega)
def textT (l : List UInt8) (fr i : Nat) (out : List UInt8) : Tk := textF l fr (l.length + 1) i out
theorem sub_self (l : List UInt8) (i : Nat) : sub l i i = [] := by simp [sub]
theorem sub_cat {l : List UInt8} {i m e : Nat} (h : i + m ≤ e) : sub l i (i + m) ++ sub l (i + m) e = sub l i e := by
 unfold sub
 rw [show i + m - i = m by omega, ← List.drop_drop, show e - i = m + (e - (i + m)) by omega, List.take_add]
theorem sub_drop {l : List UInt8} {i m e : Nat} : (sub l i e).drop m = sub l (i + m) e := by
 unfold sub
 rw [List.drop_take, List.drop_drop, show e - i - m = e - (i + m) by omega]
theorem plainL_none {l : List UInt8} {i : Nat} (h : hasAt l i plainB = false) : plainL l i = .ok i := by
 unfold plainL
 rw [pass_stop h, sub_self]
 rfl
theorem textT_stop {l : List UInt8} {fr i : Nat} {out : List UInt8} (h : hasAt l i plainB = false) : textT l fr i out = if hasAt l i (· == 34) = true then .ok ⟨1, out, fr, i + 1⟩ else match escapeL l i with
  | .error n => .error n
  | .ok r => textT l fr r.2 (out ++ r.1) := by
 unfold textT
 conv => lhs; rw [textF]
 rw [plainL_none h]
 simp only [sub_self, List.append_nil]
 split
 ·rfl
 ·cases he : escapeL l i with
  | error n => rfl
  | ok r =>
   obtain ⟨t, k⟩ := r
   have b := escapeL_le he
   exact textF_fuel l fr _ _ _ _ b.2.1 (by omega) (by omega)
theorem textT_end (l : List UInt8) (fr : Nat) (out : List UInt8) : textT l fr l.length out = .error (l.length + 1) := by
 rw [textT_stop (hasAt_out _ (by omega)), hasAt_out _ (by omega)]
 simp [escapeL, hasAt_out]
theorem textT_quote {l : List UInt8} {fr i : Nat} {out : List UInt8} (hi : i < l.length) (h : bx l i = 34) : textT l fr i out = .ok ⟨1, out, fr, i + 1⟩ := by
 rw [textT_stop (by rw [hasAt_in _ hi, h]; rfl), hasAt_in _ hi, h]
 rfl
theorem textT_low {l : List UInt8} {fr i : Nat} {out : List UInt8} (hi : i < l.length) (h : bx l i < 32) : textT l fr i out = .error (i + 1) := by
 rw [textT_stop (by rw [hasAt_in _ hi]; simp [plainB]; omega), hasAt_in _ hi]
 have a : ¬ bx l i = 34 := by omega
 have b : ¬ bx l i = 92 := by omega
 simp [escapeL, hasAt_in _ hi, a, b]
theorem textT_back {l : List UInt8} {fr i : Nat} {out : List UInt8} (hi : i < l.length) (h : bx l i = 92) : textT l fr i out = match escapeL l i with
  | .error n => .error n
  | .ok r => textT l fr r.2 (out ++ r.1) := by
 rw [textT_stop (by rw [hasAt_in _ hi, h]; rfl), hasAt_in _ hi, h]
 rfl
theorem pass_far {l : List UInt8} {p : Int → Bool} {i : Nat} (m : Nat) (h : i + m ≤ pass l p i) (hl : pass l p i ≤ l.length) : pass l p (i + m) = pass l p i := by
 induction m with
 | zero => rfl
 | succ m ih =>
  have e := ih (by omega)
  have : hasAt l (i + m) p = true := by
   rw [hasAt_in _ (by omega)]
   exact pass_all (i := i) (by omega) (by omega)
  rw [← e, pass_go this]
  rfl
def stepL (l : List UInt8) (i : Nat) : Nat × Bool := stepF (l.length - i) fun j => bx l (i + j)
theorem textT_step {l : List UInt8} {fr i : Nat} {out : List UInt8} (hi : i < l.length) (h : plainB (bx l i) = true) : textT l fr i out = if (stepL l i).2 = true then textT l fr (i + (stepL l i).1) (out ++ sub l i (i + (stepL l i).1)) else .error (i + (stepL l i).1 + 1) := by
 have hg : hasAt l i plainB = true := by rw [hasAt_in _ hi]; exact h
 have he1 : i + 1 ≤ pass l plainB i := by rw [pass_go hg]; exact pass_ge _ _ _
 have hel : pass l plainB i ≤ l.length := pass_le (by omega)
 have hend := pass_end l plainB i
 have hfar := fun m hm => pass_far (l := l) (p := plainB) (i := i) m hm hel
 have hpl : plainL l i = if (goodL (sub l i (pass l plainB i))).2 = true then .ok (pass l plainB i) else .error (i + (goodL (sub l i (pass l plainB i))).1 + 1) := rfl
 have hpf : ∀ m, plainL l (i + m) = if (goodL (sub l (i + m) (pass l plainB (i + m)))).2 = true then .ok (pass l plainB (i + m)) else .error (i + m + (goodL (sub l (i + m) (pass l plainB (i + m)))).1 + 1) := fun m => rfl
 generalize pass l plainB i = e at *
 have hlen := sub_length (l := l) (a := i) (e := e) (by omega) hel
 have hne : sub l i e ≠ [] := by intro h; rw [h] at hlen; simp at hlen; omega
 have hgs := good_step hne
 have hbx : ∀ j, j < e - i → bx (sub l i e) j = bx l (i + j) := fun j hj => bx_sub hj
 rw [hlen] at hgs
 have hsle := stepF_le (e - i) (bx (sub l i e)) (by omega)
 unfold stepL
 cases hst : stepF (e - i) (bx (sub l i e)) with
 | mk m ok =>
  rw [hst] at hgs hsle
  simp only at hgs hsle
  cases ok
  ·rw [if_neg (by simp)] at hgs
   rw [hgs, if_neg (by simp)] at hpl
   have hs : stepF (l.length - i) (fun j => bx l (i + j)) = (m, false) := by
    refine step_cut (e - i) (l.length - i) (bx (sub l i e)) _ m (bx_lo _ _) (bx_hi _ _) hst (hbx 0 (by omega)).symm (fun j hj => (hbx j (by omega)).symm) (by omega) ?_
    by_cases hme : m < e - i
    ·exact .inr (.inr ⟨hme, (hbx m hme).symm⟩)
    ·by_cases hll : e < l.length
     ·refine .inr (.inl ?_)
      rw [hasAt_in _ hll] at hend
      show folB (bx l (i + m)) = false
      rw [show i + m = e by omega]
      simp [plainB] at hend
      simp [folB]
      omega
     ·exact .inl (by omega)
   rw [hs]
   unfold textT
   conv => lhs; rw [textF]
   rw [hpl]
   rfl
  ·rw [if_pos rfl, sub_drop] at hgs
   have hs : stepF (l.length - i) (fun j => bx l (i + j)) = (m, true) :=
    step_good (e - i) (l.length - i) (bx (sub l i e)) _ m (fun _ => bx_lo _ _) (fun _ => bx_hi _ _) hst (by omega) (fun j hj => (hbx j (by omega)).symm)
   rw [hs]
   have hf := hfar m (by omega)
   have hpm := hpf m
   rw [hf] at hpm
   rw [hgs] at hpl
   simp only at hpl
   unfold textT
   rw [if_pos rfl]
   conv => lhs; rw [textF]
   conv => rhs; rw [textF]
   rw [hpl, hpm]
   by_cases g : (goodL (sub l (i + m) e)).2 = true
   ·rw [if_pos g, if_pos g]
    simp only
    rw [List.append_assoc out, sub_cat (by omega)]
   ·rw [if_neg g, if_neg g]
    simp only
    rw [Nat.add_assoc i m]
theorem good_one (k : Nat) (f : Nat → Int) (n : Nat) (h : stepF k f = (n, false)) (hk : 1 ≤ k) : good k f = (n, false) := by
 obtain ⟨j, rfl⟩ : ∃ j, k = j + 1 := ⟨k - 1, by omega⟩
 unfold good
 simp only [goodF]
 rw [if_neg (by omega), Nat.sub_zero]
 have e0 : (fun i => f (0 + i)) = f := by funext i; rw [Nat.zero_add]
 rw [e0, h, if_neg (by simp), Nat.zero_add]
theorem good_all (k : Nat) (f : Nat → Int) (h : stepF k f = (k, true)) (hk : 1 ≤ k) : good k f = (k, true) := by
 obtain ⟨j, rfl⟩ : ∃ j, k = j + 1 := ⟨k - 1, by omega⟩
 unfold good
 simp only [goodF]
 rw [if_neg (by omega), Nat.sub_zero]
 have e0 : (fun i => f (0 + i)) = f := by funext i; rw [Nat.zero_add]
 rw [e0, h, if_pos rfl, Nat.zero_add]
 simp only
 cases j with
 | zero => rfl
 | succ j => simp only [goodF]; rw [if_pos (by omega)]
theorem step_ahead (r : Nat) (f : Nat → Int) (m : Nat) (ok : Bool) (h : stepF r f = (m, ok)) (h0 : 0 ≤ f 0) (h1 : f 0 < 256) (hr : 0 < r) : m ≤ 4 ∧ m ≤ r ∧ ∀ j, 1 ≤ j → j < m → folB (f j) = true ∧ 192 ≤ f 0 := by
 have a := stepF_le4 r f
 have b := stepF_le r f hr
 rw [h] at a b
 refine ⟨a, b, ?_⟩
 cases ok
 ·rcases stepF_false r f m h with ⟨rfl, _⟩ | ⟨a1, a3, ah, s2, s3, _⟩
  ·intro j hj hj2; omega
  ·intro j hj hj2
   have hc : 192 ≤ f 0 := by
    unfold stN at ah; repeat' split at ah
    all_goals omega
   have : j = 1 ∨ j = 2 := by omega
   rcases this with rfl | rfl
   ·exact ⟨secB_fol _ _ (s2 (by omega)), hc⟩
   ·exact ⟨s3 (by omega), hc⟩
 ·rcases step_bytes r f m h with ⟨rfl, _⟩ | ⟨rfl, _, c1, _, d1, d2⟩ | ⟨rfl, _, c1, _, d1, d2, _, _, e1, e2⟩ | ⟨rfl, _, c1, _, d1, d2, _, _, e1, e2, g1, g2⟩
  ·intro j hj hj2; omega
  ·intro j hj hj2
   obtain rfl : j = 1 := by omega
   exact ⟨(folB_iff _).2 ⟨d1, d2⟩, by omega⟩
  ·intro j hj hj2
   have : j = 1 ∨ j = 2 := by omega
   rcases this with rfl | rfl
   ·exact ⟨(folB_iff _).2 ⟨d1, d2⟩, by omega⟩
   ·exact ⟨(folB_iff _).2 ⟨e1, e2⟩, by omega⟩
  ·intro j hj hj2
   have : j = 1 ∨ j = 2 ∨ j = 3 := by omega
   rcases this with rfl | rfl | rfl
   ·exact ⟨(folB_iff _).2 ⟨d1, d2⟩, by omega⟩
   ·exact ⟨(folB_iff _).2 ⟨e1, e2⟩, by omega⟩
   ·exact ⟨(folB_iff _).2 ⟨g1, g2⟩, by omega⟩
theorem try_lt (r : Nat) (f : Nat → Int) (m k : Nat) (h : stepF r f = (m, true)) (h0 : 0 ≤ f 0) (h1 : f 0 < 256) (hk : 1 ≤ k) (hm : k < m) : good k f = (k, false) := by
 refine good_one k f k ?_ hk
 rcases stepF_true r f m h with ⟨rfl, _⟩ | ⟨rfl, z, _, s⟩ | ⟨rfl, z, _, s, t⟩ | ⟨rfl, z0, z1, z2, z3, _, s, t, v⟩
 ·omega
 ·exact stepF_part k f h0 h1 k hk (by omega) ⟨by omega, by omega, by omega⟩ (.inl (Nat.le_refl _))
 ·exact stepF_part k f h0 h1 k hk (by omega) ⟨fun _ => ⟨by omega, s⟩, by omega, by omega⟩ (.inl (Nat.le_refl _))
 ·have := stN_range (f 0)
  exact stepF_part k f h0 h1 k hk (by omega) ⟨fun _ => ⟨by omega, s⟩, fun _ => ⟨by omega, t⟩, by omega⟩ (.inl (Nat.le_refl _))
theorem try_eq (r : Nat) (f : Nat → Int) (m : Nat) (h : stepF r f = (m, true)) (l : ∀ i, 0 ≤ f i) (u : ∀ i, f i < 256) : good m f = (m, true) := by
 have hp := stepF_pos r f (by rw [h])
 rw [h] at hp
 exact good_all m f (step_good r m f f m l u h (Nat.le_refl _) (fun _ _ => rfl)) hp
theorem try_bad (r : Nat) (f : Nat → Int) (m k : Nat) (h : stepF r f = (m, false)) (h0 : 0 ≤ f 0) (h1 : f 0 < 256) (hk : 1 ≤ k) (hr : k ≤ r) : good k f = (min k m, false) := by
 refine good_one k f _ ?_ hk
 by_cases hm : k ≤ m
 ·rw [Nat.min_eq_left hm]
  rcases stepF_false r f m h with ⟨rfl, _⟩ | ⟨a1, a3, ah, s2, s3, _⟩
  ·omega
  ·exact stepF_part k f h0 h1 k hk (by omega) ⟨fun _ => ⟨by omega, s2 (by omega)⟩, fun _ => ⟨by omega, s3 (by omega)⟩, by omega⟩ (.inl (Nat.le_refl _))
 ·rw [Nat.min_eq_right (by omega)]
  exact step_cut r k f f m h0 h1 h rfl (fun _ _ => rfl) (by omega) (.inr (.inr ⟨by omega, rfl⟩))
end Go.Proofs.YtfoehebnmommfaaGreatDoor.Lx
