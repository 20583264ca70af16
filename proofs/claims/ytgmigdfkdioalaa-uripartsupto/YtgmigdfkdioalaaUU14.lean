/-
  What (*uri.resolved).settle and uri.Resolve answer. Conditions: at most 2^45 bytes each.
-/
import Derived.Test.YtgmigdfkdioalaaUU13
namespace Go.Proofs.Ytgmigdfkdioalaa
open Go.RowKit
attribute [local go_sem] setCell_drewN alloc_drewN

theorem fullL_len (b u : Ur) : (fullL b u).length ≤ b.path.length + u.path.length + 1 := by
  unfold fullL
  split
  · omega
  split
  · simp
  · rw [List.length_append, List.length_take]; omega

set_option maxRecDepth 100000 in
set_option maxHeartbeats 3200000 in
theorem settle_any (b u : Ur) (bl : Nat) (w : World) (hk : Bk w bl (rc u b)) (hs : b.path.length ≤ 35184372088832) (hs2 : u.path.length ≤ 35184372088832) :
    Calls Try.prog 35 #[.pointer (some ⟨bl, 0, none⟩)] w fun e w' => e = .returned (.tuple #[]) ∧ Bk w' bl (rc (resolveL b u) b) ∧ Below bl w w' := by
  have hfl := fullL_len b u
  have hD := fun w' => dots_any (bs u.path) w' (by rw [bs_size]; omega)
  have hDf := fun w' => dots_any (bs (fullL b u)) w' (by rw [bs_size]; omega)
  have hF : ∀ w', Bk w' bl (rc { u with sch := b.sch, auth := b.auth, hA := b.hA } b) → u.path ≠ [] → Calls Try.prog 51 #[.pointer (some ⟨bl, 0, none⟩)] w' fun e w2 => e = .returned (.string (bs (fullL b u))) ∧ ∃ n, w2 = w'.drewN n := fun w' hk' hp => fullPath_any b { u with sch := b.sch, auth := b.auth, hA := b.hA } bl w' hk' hp hs hs2
  have HR : Hid (resolveL b u = if !u.sch.isEmpty then { u with path := dotsL u.path }
    else if u.hA then { u with sch := b.sch, path := dotsL u.path }
    else if !u.path.isEmpty then { u with sch := b.sch, auth := b.auth, hA := b.hA, path := dotsL (fullL b u) }
    else if !u.hQ then { u with sch := b.sch, auth := b.auth, hA := b.hA, path := b.path, q := b.q, hQ := b.hQ }
    else { u with sch := b.sch, auth := b.auth, hA := b.hA, path := b.path }) := rfl
  simp only [bs_list] at hD hDf
  have hbl := hk.lt
  have E1 := emp_bs u.sch
  have E2 := emp_bs u.path
  generalize dotsL (fullL b u) = dfl at *
  generalize hfu : fullL b u = fl at *
  generalize resolveL b u = R at *
  obtain ⟨sch, auth, path, q, frag, hA, hQ, hF'⟩ := u
  obtain ⟨bsch, bauth, bpath, bq, bfrag, bhA, bhQ, bhF⟩ := b
  simp only [rc] at *
  generalize dotsL path = dp at *
  clear hfl hs hs2 hfu
  have hke := hk
  obtain ⟨c0, c1, c2, c3, c4, c5, c6, c7, d0, d1, d2, d3, d4, d5, d6, d7⟩ := hk.c16
  obtain ⟨e0, e1, e2, e3, e4, e5, e6, e7, f0, f1, f2, f3, f4, f5, f6, f7⟩ := hk.z16
  clear hk
  cases hse : sch.isEmpty
  · rw [hse] at HR E1
    clear hDf hF E2
    go_enter Try.func35, Try.ntmps35
    go_wp2_with fail
    refine (hD _).mono ?_
    rintro e w1 ⟨rfl, hb1⟩
    have k1 := hke.bel hb1
    have hbel := hb1.mono (Nat.le_of_lt hbl)
    have z2 := k1.frz 2
    have y2 : w1.cell? ⟨bl, 2, none⟩ = some (.string (bs path)) := k1.cell 2
    clear hb1 hD hke
    go_wp2
    go_returns
    exact ⟨rfl, by rw [HR.out]; exact k1.set 2 _ rfl, hbel.setCell (p := ⟨bl, 2, none⟩) (Nat.le_refl _) _⟩
  · rw [hse] at HR E1
    cases hA
    · have k1 := hke.set 0 (.string (bs bsch)) rfl
      have hb1 : Below bl w (w.setCell ⟨bl, 0, none⟩ (.string (bs bsch))) := (Below.refl _ _).setCell (p := ⟨bl, 0, none⟩) (Nat.le_refl _) _
      go_enter Try.func35, Try.ntmps35
      go_wp2_with fail
      generalize w.setCell ⟨bl, 0, none⟩ (.string (bs bsch)) = W at *
      clear c0 c1 c2 c3 c4 c5 c6 c7 d0 d1 d2 d3 d4 d5 d6 d7 e0 e1 e2 e3 e4 e5 e6 e7 f0 f1 f2 f3 f4 f5 f6 f7
      obtain ⟨g0, g1, g2, g3, g4, g5, g6, g7, g8, g9, g10, g11, g12, g13, g14, g15⟩ := k1.c16
      obtain ⟨m0, m1, m2, m3, m4, m5, m6, m7, m8, m9, m10, m11, m12, m13, m14, m15⟩ := k1.z16
      clear hke hD
      go_region
      have k2v := ((k1.set 1 (.string (bs bauth)) rfl).set 5 (.bool bhA) rfl)
      have k2 := k2v.dw
      have hb2v : Below bl w ((W.setCell ⟨bl, 1, none⟩ (.string (bs bauth))).setCell ⟨bl, 5, none⟩ (.bool bhA)) := ((hb1.setCell (p := ⟨bl, 1, none⟩) (Nat.le_refl _) _).setCell (p := ⟨bl, 5, none⟩) (Nat.le_refl _) _)
      have hb2 : Below bl w ((W.setCell ⟨bl, 1, none⟩ (.string (bs bauth))).setCell ⟨bl, 5, none⟩ (.bool bhA)).drew := bl_d ((hb1.setCell (p := ⟨bl, 1, none⟩) (Nat.le_refl _) _).setCell (p := ⟨bl, 5, none⟩) (Nat.le_refl _) _)
      cases hpe : path.isEmpty
      · have hp : path ≠ [] := by intro e; rw [e] at hpe; cases hpe
        rw [hpe] at HR E2
        go_wp2_with fail
        refine (hF _ k2 hp).mono ?_
        rintro e w1 ⟨rfl, n, rfl⟩
        go_wp2_with fail
        refine (hDf _).mono ?_
        rintro e w2 ⟨rfl, hb3⟩
        have k3 := (k2v.dr (1 + n)).bel hb3
        have hbel := (bl_n hb2v (1 + n)).trans (hb3.mono (Nat.le_of_lt k2.lt))
        have z2 := k3.frz 2
        have y2 : w2.cell? ⟨bl, 2, none⟩ = some (.string (bs path)) := k3.cell 2
        clear hb3 hDf hF hb2 k2 k2v hb2v
        go_wp2
        go_returns
        exact ⟨rfl, by rw [HR.out]; exact k3.set 2 _ rfl, hbel.setCell (p := ⟨bl, 2, none⟩) (Nat.le_refl _) _⟩
      · rw [hpe] at HR E2
        clear hDf hF
        cases hQ
        · go_wp2_with fail
          have k3 := (k2v.set 2 (.string (bs bpath)) rfl).dw
          have hb3 := bl_d (hb2v.setCell (p := ⟨bl, 2, none⟩) (Nat.le_refl _) (.string (bs bpath)))
          generalize (((W.setCell ⟨bl, 1, none⟩ (.string (bs bauth))).setCell ⟨bl, 5, none⟩ (.bool bhA)).setCell ⟨bl, 2, none⟩ (.string (bs bpath))).drew = V at *
          clear g0 g1 g2 g3 g4 g5 g6 g7 g8 g9 g10 g11 g12 g13 g14 g15 m0 m1 m2 m3 m4 m5 m6 m7 m8 m9 m10 m11 m12 m13 m14 m15 k1 k2 k2v hb1 hb2 hb2v
          obtain ⟨r0, r1, r2, r3, r4, r5, r6, r7, r8, r9, r10, r11, r12, r13, r14, r15⟩ := k3.c16
          obtain ⟨s0, s1, s2, s3, s4, s5, s6, s7, s8, s9, s10, s11, s12, s13, s14, s15⟩ := k3.z16
          go_region
          go_wp2
          go_returns
          exact ⟨rfl, by rw [HR.out]; exact ((k3.set 3 (.string (bs bq)) rfl).set 6 (.bool bhQ) rfl).dw, bl_d ((hb3.setCell (p := ⟨bl, 3, none⟩) (Nat.le_refl _) _).setCell (p := ⟨bl, 6, none⟩) (Nat.le_refl _) _)⟩
        · go_wp2
          go_returns
          exact ⟨rfl, by rw [HR.out]; exact (k2v.set 2 _ rfl).dw, bl_d (hb2v.setCell (p := ⟨bl, 2, none⟩) (Nat.le_refl _) _)⟩
    · clear hDf hF E2
      have k1 := hke.set 0 (.string (bs bsch)) rfl
      have hb1 : Below bl w (w.setCell ⟨bl, 0, none⟩ (.string (bs bsch))) := (Below.refl _ _).setCell (p := ⟨bl, 0, none⟩) (Nat.le_refl _) _
      go_enter Try.func35, Try.ntmps35
      go_wp2_with fail
      refine (hD _).mono ?_
      rintro e w1 ⟨rfl, hb2⟩
      have k2 := k1.bel hb2
      have hbel := hb1.trans (hb2.mono (Nat.le_of_lt k1.lt))
      have z2 := k2.frz 2
      have y2 : w1.cell? ⟨bl, 2, none⟩ = some (.string (bs path)) := k2.cell 2
      clear hb1 hD hke hb2
      go_wp2
      go_returns
      exact ⟨rfl, by rw [HR.out]; exact k2.set 2 _ rfl, hbel.setCell (p := ⟨bl, 2, none⟩) (Nat.le_refl _) _⟩
end Go.Proofs.Ytgmigdfkdioalaa
