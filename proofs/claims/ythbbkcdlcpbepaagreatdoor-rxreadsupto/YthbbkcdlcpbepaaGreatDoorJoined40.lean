/-
  The reference's alt, whole: what a pattern is read as. No condition.
-/
import Derived.Test.YthbbkcdlcpbepaaGreatDoorJoined38
import Derived.Test.YthbbkcdlcpbepaaGreatDoorJoined39
namespace Go.Proofs.YthbbkcdlcpbepaaGreatDoor
open Go.RowKit
attribute [local go_sem] setCell_drewN alloc_drewN

def AltI (pat : List Int → Option (RX × List Int)) (S : List Int) (a : Nat) (g : Int) (k : Nat) (g' : Int) (xs : List RX) : Bool → Prop
  | false => g' = g ∧ k ≤ S.length ∧ xs.length ≤ k + 1 ∧ ∃ n, S.length - k ≤ n ∧ patP pat (S.drop a) = match altG (rowP pat) n xs (S.drop k) with | none => none | some y => some (together 4 y.1, y.2)
  | true => g ≤ g' ∧ xs.length ≤ 5000 ∧ patP pat (S.drop a) = none
theorem AltI.len {pat : List Int → Option (RX × List Int)} {S : List Int} {a k : Nat} {g g' : Int} {xs : List RX} {b : Bool} (h : AltI pat S a g k g' xs b) (hS : S.length ≤ 4096) : xs.length ≤ 5000 := by
  cases b
  · have h1 := h.2.1; have h2 := h.2.2.1; omega
  · exact h.2.1
theorem alt_start {pat : List Int → Option (RX × List Int)} {S : List Int} {a : Nat} {g : Int} : (rowP pat (S.drop a) = none → ∀ g' t k, g ≤ g' → AltI pat S a g k g' [t] true) ∧ (∀ t k, rowP pat (S.drop a) = some (t, S.drop k) → k ≤ S.length → AltI pat S a g k g [t] false) := by
  refine ⟨fun h g' t k hg => ⟨hg, by simp, by unfold patP; rw [h]⟩, fun t k h hk => ⟨rfl, hk, by simp, S.length - k, Nat.le_refl _, ?_⟩⟩
  unfold patP
  rw [h]
  simp only [List.length_drop]
  cases altG (rowP pat) (S.length - k) [t] (S.drop k) <;> rfl
theorem AltI.fin {pat : List Int → Option (RX × List Int)} {S : List Int} {a k : Nat} {g g' : Int} {xs : List RX} (h : AltI pat S a g k g' xs false) (hq : pk S k ≠ 124) : RowF S g k g' (patP pat (S.drop a)) (together 4 xs) false := by
  obtain ⟨h1, h2, h3, n, h4, h5⟩ := h
  refine ⟨h1, h2, ?_⟩
  rw [h5]
  cases n with
  | zero => rfl
  | succ n =>
    unfold altG
    rw [sw1 (by omega), decide_eq_false hq]; rfl
theorem AltI.bad {pat : List Int → Option (RX × List Int)} {S : List Int} {a k : Nat} {g g' : Int} {xs : List RX} (h : AltI pat S a g k g' xs true) : RowF S g k g' (patP pat (S.drop a)) (together 4 xs) true := ⟨h.1, h.2.2⟩
theorem AltI.step {pat : List Int → Option (RX × List Int)} {S : List Int} {a k : Nat} {g g' : Int} {xs : List RX} (h : AltI pat S a g k g' xs false) (hq : pk S k = 124) :
    (rowP pat (S.drop (k + 1)) = none → ∀ g2 t k2, g ≤ g2 → S.length ≤ 4096 → AltI pat S a g k2 g2 (xs ++ [t]) true) ∧ (∀ t k2, rowP pat (S.drop (k + 1)) = some (t, S.drop k2) → k2 ≤ S.length → k < k2 → AltI pat S a g k2 g (xs ++ [t]) false) := by
  obtain ⟨h1, h2, h3, n, h4, h5⟩ := h
  have hk := pk_lt (S := S) (a := k) (by omega)
  obtain ⟨n, rfl⟩ : ∃ n', n = n' + 1 := ⟨n - 1, by omega⟩
  have e : altG (rowP pat) (n + 1) xs (S.drop k) = match rowP pat (S.drop (k + 1)) with | none => none | some (x, l') => altG (rowP pat) n (xs ++ [x]) l' := by
    conv => lhs; unfold altG
    rw [sw1 (by omega), decide_eq_true hq, if_pos rfl, List.drop_drop]
    cases rowP pat (S.drop (k + 1)) <;> rfl
  rw [e] at h5
  refine ⟨fun ht g2 t k2 hg hS => ?_, fun t k2 ht hk2 hlt => ?_⟩
  · rw [ht] at h5
    exact ⟨hg, by rw [List.length_append]; simp; omega, h5⟩
  · rw [ht] at h5
    exact ⟨rfl, hk2, by rw [List.length_append]; simp; omega, n, by omega, h5⟩
theorem pat_63 {pat : List Int → Option (RX × List Int)} {S : List Int} {b : Nat} (h : pk S b = 63) : patP pat (S.drop b) = none := by
  have hk := pk_lt (S := S) (a := b) (by omega)
  have e1 : atomP pat (S.drop b) = none := by
    rw [atom_at (by omega) (by omega), if_neg (by omega), if_neg (by omega), if_neg (by omega), h]; rfl
  have e2 : termP pat (S.drop b) = none := by rw [term_el (by omega) (by omega) (by omega), e1]
  have e3 : rowP pat (S.drop b) = none := by
    rw [row_in]
    obtain ⟨n, hn⟩ : ∃ n, S.length - b = n + 1 := ⟨S.length - b - 1, by omega⟩
    rw [hn, drop_at hk]
    rw [drop_at hk] at e2
    simp only [rowG]
    rw [if_neg (by omega), e2]
  unfold patP
  rw [e3]

set_option maxRecDepth 100000 in
set_option maxHeartbeats 12800000 in
theorem ralt_of (pat : List Int → Option (RX × List Int)) (w : World) (pb a : Nat) (S : List Int) (g : Int) (ha : a ≤ S.length) (hg200 : g ≤ 200) (hpat : g + 1 ≤ 200 → PatQ pat S pb (g + 1)) (hnone : ¬ g + 1 ≤ 200 → ∀ l, pat l = none) (h63 : ∀ b, pk S b = 63 → pat (S.drop b) = none) (hshr : Shr pat) (h : RP w pb S a g false) :
    Calls Tryz.prog 17 #[.pointer (some ⟨pb, 0, none⟩)] w (TreeQ (patP pat (S.drop a)) S pb g w) := by
  obtain ⟨P, hP⟩ : ∃ P, P = TreeQ (patP pat (S.drop a)) S pb g w := ⟨_, rfl⟩
  rw [← hP]
  have HP := hid_intro hP
  have HPL := hid_intro h.lt
  have HLN := hid_intro h.len.1
  have hrl := h.lt
  have HA := hid_intro ha
  obtain ⟨W, hW⟩ : ∃ W, w.alloc (.cells #[.int .i64 0, .slice none 0 0, .int .i64 0, .int .i64 0, .bool false, .slice none 0 0] 26) = W := ⟨_, rfl⟩
  have HK0 : Hid (Bk W w.heap.size #[.int .i64 0, .slice none 0 0, .int .i64 0, .int .i64 0, .bool false, .slice none 0 0]) := hid_intro (hW ▸ Bk.new _ _ _)
  have HR0 : Hid (RP W pb S a g false) := hid_intro (h.below (hW ▸ vb_a (Below.refl _ _) _))
  have HB0 : Hid (But (· = pb) w W) := hid_intro (But.ofBelow (hW ▸ vb_a (Below.refl _ _) _))
  have HM0 : Hid (w.heap.size + 1 ≤ W.heap.size) := hid_intro (by rw [← hW]; simp)
  have hnp : ¬ w.heap.size = pb := by have := h.lt; omega
  have HTM := hid_intro (fun k (hk : k ≤ S.length) w' (h : RP w' pb S k g false) => rrow_any pat w' pb k S g hk hg200 hpat hnone h63 hshr h)
  have HSH := hid_intro hshr
  have HST0 := hid_intro (alt_start (pat := pat) (S := S) (a := a) (g := g))
  have htm0 := HTM.out a ha W HR0.out
  obtain ⟨U0, hU0⟩ : ∃ U0, rowP pat (S.drop a) = U0 := ⟨_, rfl⟩
  rw [hU0] at htm0 HST0
  have HT0 := hid_intro htm0
  clear hP h ha hpat hnone h63 hshr hg200 hU0 htm0
  go_enter Tryz.func17, Tryz.ntmps17
  go_wp2_with fail
  refine HT0.out.mono ?_; rintro r w1 ⟨hb1, hcs⟩
  obtain ⟨t, f, k0, g0, b0, hr, hx1, hr1, hai⟩ : ∃ t f k0 g0 b0, r = .returned (xa f) ∧ XI w1 (· < W.heap.size) t f ∧ RP w1 pb S k0 g0 b0 ∧ AltI pat S a g k0 g0 [t] b0 := by
    cases U0 with
    | none =>
      obtain ⟨t, f, a1, g1, h1, h2, h3, h4⟩ := hcs
      exact ⟨t, f, a1, g1, true, h1, h2, h3, HST0.out.1 rfl g1 t a1 h4⟩
    | some y =>
      obtain ⟨t, l1⟩ := y
      obtain ⟨f, a1, h1, h2, h3, h4, h5⟩ := hcs
      exact ⟨t, f, a1, g, false, h1, h2, h3, HST0.out.2 t a1 (by rw [h5]) h4⟩
  subst hr
  obtain ⟨k_, i1, n1, q1, lo, hi, z, i2, n2, q2, ef⟩ := hx1.lit
  have hcs2 := xa_cells ef
  rw [ef]
  have hal : Below w1.heap.size w1 (w1.alloc (.cells #[.int .i64 k_, .slice i1 n1 q1, .int .i64 lo, .int .i64 hi, .bool z, .slice i2 n2 q2] 26)) := vb_a (Below.refl _ _) _
  have hsz1 : w.heap.size + 1 ≤ w1.heap.size := Nat.le_trans HM0.out hb1.size
  have hx1' : XI w1 (· < w.heap.size + 1) t f := hx1.weak (fun j hj => by have h1 : j < w.heap.size + 1 := hj; have := HM0.out; show j < _; omega)
  have HO1 : Hid (OwnX (w1.alloc (.cells #[.int .i64 k_, .slice i1 n1 q1, .int .i64 lo, .int .i64 hi, .bool z, .slice i2 n2 q2] 26)) (w.heap.size + 1) (.slice (some ⟨w1.heap.size, 0, none⟩) 1 1) [(t, f)]) := hid_intro (by
    refine OwnX.lit ?_ hsz1 (hx1'.carry (fun b hb hlt => ⟨hal.block b hlt, ?_⟩))
    · rw [← hcs2]; show (w1.heap.push _)[w1.heap.size]? = _; simp
    · rintro (h | h)
      · exact hb h
      · omega)
  have HB1 := hid_intro ((HB0.out.trans hb1).below hal)
  have HK1 := hid_intro ((HK0.out.but hb1 hnp).bel hal)
  have HM1 := hid_intro (Nat.le_trans hsz1 hal.size)
  have HR1 := hid_intro (hr1.below hal)
  have HAI := hid_intro hai
  clear hb1 hcs hx1 hr1 hai ef hcs2 hal hsz1 hx1' HT0 HST0
  go_upto_block 0 with fail
  generalize w1.alloc (.cells #[.int .i64 k_, .slice i1 n1 q1, .int .i64 lo, .int .i64 hi, .bool z, .slice i2 n2 q2] 26) = W1 at *
  go_cut [3] (fun s3 wx => ∃ (ps : List PX) (k : Nat) (g' : Int) (b : Bool), Hid (But (· = pb) w wx ∧ w.heap.size + 1 ≤ wx.heap.size ∧ Bk wx w.heap.size #[.int .i64 0, .slice none 0 0, .int .i64 0, .int .i64 0, .bool false, .slice none 0 0] ∧ OwnX wx (w.heap.size + 1) s3 ps ∧ ps.length ≤ 5001 ∧ RP wx pb S k g' b ∧ ps ≠ [] ∧ RowF S g k g' (patP pat (S.drop a)) (together 4 (ps.map (·.1))) b))
  case first =>
    go_wp2_with fail
    go_loopg [3] (if b0 = true then 0 else S.length + 1 - k0) (fun m s3 wr => ∃ (ps : List PX) (k : Nat) (g' : Int) (b : Bool), m = (if b = true then 0 else S.length + 1 - k) ∧ Hid (But (· = pb) w wr ∧ w.heap.size + 1 ≤ wr.heap.size ∧ Bk wr w.heap.size #[.int .i64 0, .slice none 0 0, .int .i64 0, .int .i64 0, .bool false, .slice none 0 0] ∧ OwnX wr (w.heap.size + 1) s3 ps ∧ RP wr pb S k g' b ∧ AltI pat S a g k g' (ps.map (·.1)) b ∧ ps ≠ []))
    case atStart => exact ⟨[(t, f)], k0, g0, b0, rfl, HB1.out, HM1.out, HK1.out, HO1.out, HR1.out, HAI.out, by simp⟩
    case round =>
      obtain ⟨ps, k, g', b, rfl, HI⟩ := hrel
      have HRI := hid_intro HI.out.2.2.2.2.2.1
      have HPS := hid_intro HI.out.2.2.2.2.2.2
      have HPL5 : Hid (ps.length ≤ 5000) := hid_intro (by have := HRI.out.len HLN.out; simpa using this)
      have HRW := hid_intro HI.out.2.2.2.2.1
      cases b
      · have hgg : g' = g := HRI.out.1
        subst hgg
        obtain ⟨ao, cap, _, _, _, c3, _, _, _, _, _, _, _⟩ := HRW.out
        have ht := rtake_any wr pb k S g' 124 false (by omega) HRW.out
        by_cases hq : pk S k = 124
        · have HST := hid_intro (HRI.out.step hq)
          have HKL := hid_intro (pk_lt (S := S) (a := k) (by omega))
          rw [decide_eq_true hq, show tk S k 124 = k + 1 by unfold tk; rw [if_pos hq]] at ht
          clear hq
          go_wp2_with fail
          refine ht.mono ?_; rintro r w3 ⟨rfl, hb3, hr3⟩
          have HB3 := hid_intro (HI.out.1.trans hb3)
          have HK3 := hid_intro (HI.out.2.2.1.but hb3 hnp)
          have HM3 := hid_intro (Nat.le_trans HI.out.2.1 hb3.size)
          have HO3 := hid_intro (HI.out.2.2.2.1.but hb3 (fun j hj => by have h1 : j = pb := hj; have := HPL.out; omega))
          have htm := HTM.out (k + 1) HKL.out w3 hr3
          obtain ⟨U, hU⟩ : ∃ U, rowP pat (S.drop (k + 1)) = U := ⟨_, rfl⟩
          rw [hU] at htm
          clear hb3 hr3 ht c3
          go_wp2_with fail
          refine htm.mono ?_; rintro r w4 ⟨hb4, hcs⟩
          cases U with
          | none =>
            obtain ⟨t2, f2, a4, g4, rfl, hx4, hr4, hg4⟩ := hcs
            have HB4 := hid_intro (HB3.out.trans hb4)
            have HK4 := hid_intro (HK3.out.but hb4 hnp)
            have HM4 := hid_intro (Nat.le_trans HM3.out hb4.size)
            have HO4 := hid_intro (HO3.out.but hb4 (fun j hj => by have h1 : j = pb := hj; have := HPL.out; omega))
            have HX4 : Hid (XI w4 (fun j => j < w.heap.size + 1 ∨ u3.ownBlock = some j) t2 f2) := hid_intro (hx4.weak (fun j hj => by
              rcases hj with hj | hj
              · have := HM3.out; show j < _; omega
              · exact (HO3.out.lt j hj).2))
            have HR4 := hid_intro hr4
            have HN4 := hid_intro (HST.out.1 hU g4 t2 a4 hg4 HLN.out)
            clear hb4 hx4 hr4 hg4 htm hU
            have hlt4 := HO4.out.lt
            obtain ⟨k_, i1, n1, q1, lo, hi, z, i2, n2, q2, ef⟩ := HX4.out.lit
            have hcs := xa_cells ef
            rw [ef]
            have HCS := hid_intro hcs
            clear ef hcs hlt4
            go_wp2_with (at_builtin; refine wpList_append_tree rfl _ _ rfl (w.heap.size + 1) _ ps t2 f2 rfl (HO4.out.below (vb_a (Below.refl _ _) _)) ?cB ?cS (HX4.out.kept (vb_a (Below.refl _ _) _)) _ rfl ?cK ?_)
            case cB => have := HM4.out; simp; omega
            case cS => have := HPL5.out; omega
            case cK => rw [← HCS.out]; exact Bk.new _ _ _
            intro v' w5 ho5 hg5
            have hlt := HO4.out.lt
            have hal : Below w4.heap.size w4 (w4.alloc (.cells #[.int .i64 k_, .slice i1 n1 q1, .int .i64 lo, .int .i64 hi, .bool z, .slice i2 n2 q2] 26)) := vb_a (Below.refl _ _) _
            have hb5 : But (· = pb) w w5 := (HB4.out.below hal).grown hg5 (fun j hj => Or.inr (by have := (hlt j hj).1; omega))
            have hr5 := (HR4.out.below hal).grown hg5 (fun j hj => by have h1 := (hlt j hj).1; have h2 := HPL.out; omega)
            have hk5 : Bk w5 w.heap.size #[.int .i64 0, .slice none 0 0, .int .i64 0, .int .i64 0, .bool false, .slice none 0 0] := (HK4.out.al _).grown hg5 (fun e => by have := (hlt _ e).1; omega)
            have hs5 : w.heap.size + 1 ≤ w5.heap.size := Nat.le_trans HM4.out (Nat.le_trans hal.size hg5.size)
            have HXX := hid_intro (And.intro hb5 (And.intro hs5 (And.intro hk5 (And.intro ho5 hr5))))
            clear ho5 hg5 hb5 hr5 hk5 hlt hal hs5
            go_wp2_with fail
            go_roundg 0
            case measure => have := HKL.out; simp; omega
            case rel => exact ⟨ps ++ [(t2, f2)], a4, g4, true, rfl, HXX.out.1, HXX.out.2.1, HXX.out.2.2.1, HXX.out.2.2.2.1, HXX.out.2.2.2.2, by rw [List.map_append]; exact HN4.out, by simp⟩
          | some y =>
            obtain ⟨t2, l4⟩ := y
            obtain ⟨f2, a4, rfl, hx4, hr4, hle4, hl4⟩ := hcs
            subst hl4
            have hln := rowP_len HSH.out _ _ hU
            simp only [List.length_drop] at hln
            have HB4 := hid_intro (HB3.out.trans hb4)
            have HK4 := hid_intro (HK3.out.but hb4 hnp)
            have HM4 := hid_intro (Nat.le_trans HM3.out hb4.size)
            have HO4 := hid_intro (HO3.out.but hb4 (fun j hj => by have h1 : j = pb := hj; have := HPL.out; omega))
            have HX4 : Hid (XI w4 (fun j => j < w.heap.size + 1 ∨ u3.ownBlock = some j) t2 f2) := hid_intro (hx4.weak (fun j hj => by
              rcases hj with hj | hj
              · have := HM3.out; show j < _; omega
              · exact (HO3.out.lt j hj).2))
            have HR4 := hid_intro hr4
            have HLT : Hid (k < a4) := hid_intro (by have := HKL.out; omega)
            have HN4 := hid_intro (HST.out.2 t2 a4 hU hle4 HLT.out)
            have HL4 := hid_intro hle4
            clear hb4 hx4 hr4 htm hU hle4 hln
            have hlt4 := HO4.out.lt
            obtain ⟨k_, i1, n1, q1, lo, hi, z, i2, n2, q2, ef⟩ := HX4.out.lit
            have hcs := xa_cells ef
            rw [ef]
            have HCS := hid_intro hcs
            clear ef hcs hlt4
            go_wp2_with (at_builtin; refine wpList_append_tree rfl _ _ rfl (w.heap.size + 1) _ ps t2 f2 rfl (HO4.out.below (vb_a (Below.refl _ _) _)) ?cB ?cS (HX4.out.kept (vb_a (Below.refl _ _) _)) _ rfl ?cK ?_)
            case cB => have := HM4.out; simp; omega
            case cS => have := HPL5.out; omega
            case cK => rw [← HCS.out]; exact Bk.new _ _ _
            intro v' w5 ho5 hg5
            have hlt := HO4.out.lt
            have hal : Below w4.heap.size w4 (w4.alloc (.cells #[.int .i64 k_, .slice i1 n1 q1, .int .i64 lo, .int .i64 hi, .bool z, .slice i2 n2 q2] 26)) := vb_a (Below.refl _ _) _
            have hb5 : But (· = pb) w w5 := (HB4.out.below hal).grown hg5 (fun j hj => Or.inr (by have := (hlt j hj).1; omega))
            have hr5 := (HR4.out.below hal).grown hg5 (fun j hj => by have h1 := (hlt j hj).1; have h2 := HPL.out; omega)
            have hk5 : Bk w5 w.heap.size #[.int .i64 0, .slice none 0 0, .int .i64 0, .int .i64 0, .bool false, .slice none 0 0] := (HK4.out.al _).grown hg5 (fun e => by have := (hlt _ e).1; omega)
            have hs5 : w.heap.size + 1 ≤ w5.heap.size := Nat.le_trans HM4.out (Nat.le_trans hal.size hg5.size)
            have HXX := hid_intro (And.intro hb5 (And.intro hs5 (And.intro hk5 (And.intro ho5 hr5))))
            clear ho5 hg5 hb5 hr5 hk5 hlt hal hs5
            go_wp2_with fail
            go_roundg (S.length + 1 - a4)
            case measure => have := HLT.out; have := HL4.out; simp; omega
            case rel => exact ⟨ps ++ [(t2, f2)], a4, g', false, by simp, HXX.out.1, HXX.out.2.1, HXX.out.2.2.1, HXX.out.2.2.2.1, HXX.out.2.2.2.2, by rw [List.map_append]; exact HN4.out, by simp⟩
        · have HFI := hid_intro (HRI.out.fin hq)
          rw [decide_eq_false hq, show tk S k 124 = k by unfold tk; rw [if_neg hq]] at ht
          clear hq
          go_wp2_with fail
          refine ht.mono ?_; rintro r w3 ⟨rfl, hb3, hr3⟩
          have HB3 := hid_intro (HI.out.1.trans hb3)
          have HK3 := hid_intro (HI.out.2.2.1.but hb3 hnp)
          have HM3 := hid_intro (Nat.le_trans HI.out.2.1 hb3.size)
          have HO3 := hid_intro (HI.out.2.2.2.1.but hb3 (fun j hj => by have h1 : j = pb := hj; have := HPL.out; omega))
          have HR3 := hid_intro hr3
          clear hb3 hr3 ht c3
          go_wp2_with fail
          go_meet
          exact ⟨ps, k, g', false, HB3.out, HM3.out, HK3.out, HO3.out, Nat.le_succ_of_le HPL5.out, HR3.out, HPS.out, HFI.out⟩
      · obtain ⟨ao, cap, _, _, _, c3, _, _, _, _, _, _, _⟩ := HRW.out
        go_wp2_with fail
        go_meet
        exact ⟨ps, k, g', true, HI.out.1, HI.out.2.1, HI.out.2.2.1, HI.out.2.2.2.1, Nat.le_succ_of_le HPL5.out, HRW.out, HPS.out, HRI.out.bad⟩
  case rest =>
    clear HO1 HB1 HK1 HM1 HR1 HAI
    obtain ⟨ps, k, g', b, HCU⟩ := hcut
    have HB := hid_intro HCU.out.1
    have HM := hid_intro HCU.out.2.1
    have HK := hid_intro HCU.out.2.2.1
    have HO := hid_intro HCU.out.2.2.2.1
    have HR := hid_intro HCU.out.2.2.2.2.2.1
    have HF := hid_intro HCU.out.2.2.2.2.2.2.2
    have HNE := hid_intro HCU.out.2.2.2.2.2.2.1
    have HPS := hid_intro HCU.out.2.2.2.2.1
    clear HCU
    rcases ps with _ | ⟨p, _ | ⟨q, ps⟩⟩
    · obtain ⟨ao, cap, hsh⟩ := HO.out.shape
      subst hsh
      exact absurd rfl HNE.out
    · obtain ⟨gb, cap, rfl, hcel, hx1⟩ := own_first HO.out
      obtain ⟨t, f⟩ := p
      have HX1 := hid_intro hx1
      obtain ⟨k_, i1, n1, q1, lo, hi, z, i2, n2, q2, ef⟩ := hx1.lit
      have HEF := hid_intro ef
      unfold xa at ef
      injection ef with ef
      simp only [Array.mk.injEq, List.cons.injEq, and_true] at ef
      obtain ⟨y0, y1, y2, y3, y4, y5⟩ := ef
      simp only at hcel
      have d0 := (hcel 0 (by omega)).trans (congrArg some y0)
      have d1 := (hcel 1 (by omega)).trans (congrArg some y1)
      have d2 := (hcel 2 (by omega)).trans (congrArg some y2)
      have d3 := (hcel 3 (by omega)).trans (congrArg some y3)
      have d4 := (hcel 4 (by omega)).trans (congrArg some y4)
      have d5 := (hcel 5 (by omega)).trans (congrArg some y5)
      clear hcel y0 y1 y2 y3 y4 y5 hx1
      obtain ⟨c0, c1, c2, c3, c4, c5⟩ := HK.out.c6
      obtain ⟨z0, z1, z2, z3, z4, z5⟩ := HK.out.z6
      go_wp2_with fail
      refine bodyPost_ret (v := .agg #[.int .i64 k_, .slice i1 n1 q1, .int .i64 lo, .int .i64 hi, .bool z, .slice i2 n2 q2]) (by simp [results, Tryz.results17, go_sem, c0, c1, c2, c3, c4, c5]) rfl ?_
      rw [HP.out]
      have hbf : But (· = pb) w ((((((wc.setCell ⟨w.heap.size, 0, none⟩ (.int .i64 k_)).setCell ⟨w.heap.size, 1, none⟩ (.slice i1 n1 q1)).setCell ⟨w.heap.size, 2, none⟩ (.int .i64 lo)).setCell ⟨w.heap.size, 3, none⟩ (.int .i64 hi)).setCell ⟨w.heap.size, 4, none⟩ (.bool z)).setCell ⟨w.heap.size, 5, none⟩ (.slice i2 n2 q2)) := by with_reducible (repeat (first | exact HB.out | refine But.set ?_ (Or.inr (Nat.le_refl _)) _))
      have hrf : RP ((((((wc.setCell ⟨w.heap.size, 0, none⟩ (.int .i64 k_)).setCell ⟨w.heap.size, 1, none⟩ (.slice i1 n1 q1)).setCell ⟨w.heap.size, 2, none⟩ (.int .i64 lo)).setCell ⟨w.heap.size, 3, none⟩ (.int .i64 hi)).setCell ⟨w.heap.size, 4, none⟩ (.bool z)).setCell ⟨w.heap.size, 5, none⟩ (.slice i2 n2 q2)) pb S k g' b := by with_reducible (repeat (first | exact HR.out | refine RP.away ?_ hrl _))
      have hxf : XI ((((((wc.setCell ⟨w.heap.size, 0, none⟩ (.int .i64 k_)).setCell ⟨w.heap.size, 1, none⟩ (.slice i1 n1 q1)).setCell ⟨w.heap.size, 2, none⟩ (.int .i64 lo)).setCell ⟨w.heap.size, 3, none⟩ (.int .i64 hi)).setCell ⟨w.heap.size, 4, none⟩ (.bool z)).setCell ⟨w.heap.size, 5, none⟩ (.slice i2 n2 q2)) (· < w.heap.size) t f := XI.weak (X := fun j => j < w.heap.size + 1) (by with_reducible (repeat (first | exact HX1.out | refine XI.set ?_ (Nat.lt_succ_self _) _))) (fun j hj => Nat.lt_succ_of_lt hj)
      exact rowF_end HF.out hbf hxf hrf (by rw [HEF.out])
    · obtain ⟨ao, cap, hsh⟩ := HO.out.shape
      have hnz : ((((p :: q :: ps).length : Nat) : Int) == 0) = false := by rw [beq_eq_false_iff_ne]; simp only [List.length_cons]; omega
      have hno : ((((p :: q :: ps).length : Nat) : Int) == 1) = false := by rw [beq_eq_false_iff_ne]; simp only [List.length_cons]; omega
      have htg : together 4 ((p :: q :: ps).map (·.1)) = .mk 4 [] 0 0 false ((p :: q :: ps).map (·.1)) := rfl
      rw [htg] at HF
      have HX1 := hid_intro (own_tree HO.out 4 (I64_of (by omega) (by omega)))
      rw [hsh] at HX1
      subst hsh
      clear htg HNE
      generalize p :: q :: ps = ps' at *
      obtain ⟨c0, c1, c2, c3, c4, c5⟩ := HK.out.c6
      obtain ⟨z0, z1, z2, z3, z4, z5⟩ := HK.out.z6
      go_wp2_with fail
      refine bodyPost_ret (v := .agg #[.int .i64 4, .slice none 0 0, .int .i64 0, .int .i64 0, .bool false, .slice ao ps'.length cap]) (by simp [results, Tryz.results17, go_sem, c0, c1, c2, c3, c4, c5]) rfl ?_
      rw [HP.out]
      have hbf : But (· = pb) w ((((((wc.setCell ⟨w.heap.size, 0, none⟩ (.int .i64 4)).setCell ⟨w.heap.size, 1, none⟩ (.slice none 0 0)).setCell ⟨w.heap.size, 2, none⟩ (.int .i64 0)).setCell ⟨w.heap.size, 3, none⟩ (.int .i64 0)).setCell ⟨w.heap.size, 4, none⟩ (.bool false)).setCell ⟨w.heap.size, 5, none⟩ (.slice ao ps'.length cap)) := by with_reducible (repeat (first | exact HB.out | refine But.set ?_ (Or.inr (Nat.le_refl _)) _))
      have hrf : RP ((((((wc.setCell ⟨w.heap.size, 0, none⟩ (.int .i64 4)).setCell ⟨w.heap.size, 1, none⟩ (.slice none 0 0)).setCell ⟨w.heap.size, 2, none⟩ (.int .i64 0)).setCell ⟨w.heap.size, 3, none⟩ (.int .i64 0)).setCell ⟨w.heap.size, 4, none⟩ (.bool false)).setCell ⟨w.heap.size, 5, none⟩ (.slice ao ps'.length cap)) pb S k g' b := by with_reducible (repeat (first | exact HR.out | refine RP.away ?_ hrl _))
      have hxf : XI ((((((wc.setCell ⟨w.heap.size, 0, none⟩ (.int .i64 4)).setCell ⟨w.heap.size, 1, none⟩ (.slice none 0 0)).setCell ⟨w.heap.size, 2, none⟩ (.int .i64 0)).setCell ⟨w.heap.size, 3, none⟩ (.int .i64 0)).setCell ⟨w.heap.size, 4, none⟩ (.bool false)).setCell ⟨w.heap.size, 5, none⟩ (.slice ao ps'.length cap)) (· < w.heap.size) (.mk 4 [] 0 0 false (ps'.map (·.1))) (fun i => [Value.int .i64 4, .slice none 0 0, .int .i64 0, .int .i64 0, .bool false, .slice ao ps'.length cap].getD i .nilIface) := XI.weak (X := fun j => j < w.heap.size + 1) (by with_reducible (repeat (first | exact HX1.out | refine XI.set ?_ (Nat.lt_succ_self _) _))) (fun j hj => Nat.lt_succ_of_lt hj)
      exact rowF_end HF.out hbf hxf hrf (rfl)

/-- alt, however many groups are open. -/
theorem ralt_any (S : List Int) (pb : Nat) : ∀ (d : Nat) (g : Int), g + d = 200 → 0 ≤ g → PatQ (patL d) S pb g
  | 0, g, hd, h0 => fun w a ha h => ralt_of (fun _ => none) w pb a S g ha (by omega) (fun h => absurd h (by omega)) (fun _ _ => rfl) (fun _ _ => rfl) (fun l x h => by simp at h) h
  | d + 1, g, hd, h0 => fun w a ha h => ralt_of (patL d) w pb a S g ha (by omega) (fun _ => ralt_any S pb d (g + 1) (by omega) (by omega)) (fun h => absurd (by omega) h) (fun b hb => by cases d <;> exact pat_63 hb) (patL_len d) h
end Go.Proofs.YthbbkcdlcpbepaaGreatDoor
