/-
  The reference's row. Conditions: what is read within a group is given.
-/
import Derived.Test.YthbbkcdlcpbepaaGreatDoorJoined35
import Derived.Test.YthbbkcdlcpbepaaGreatDoorJoined37
import Derived.Deep.DeepCutAuto
import Derived.Deep.LoopGhost
import Derived.Deep.CutBlock
namespace Go.Proofs.YthbbkcdlcpbepaaGreatDoor
open Go.RowKit
attribute [local go_sem] setCell_drewN alloc_drewN

theorem own_tree {w : World} {B : Nat} {v : Value} {ps : List PX} (h : OwnX w B v ps) (k : Int) (hk : I64 k) : XI w (· < B) (.mk k [] 0 0 false (ps.map (·.1))) (fun i => [Value.int .i64 k, .slice none 0 0, .int .i64 0, .int .i64 0, .bool false, v].getD i .nilIface) := by
  have hxs := h.2
  have ho := h.1
  rcases ho.2 with ⟨rfl, hn⟩ | ⟨g, cap, cur, rfl, hB, hg, hc, hm, hs, ht⟩
  · have : ps = [] := List.eq_nil_of_length_eq_zero hn
    subst this
    exact XI.mk none 0 (fun _ _ => .nilIface) rfl (RI.nil _ _) rfl rfl rfl rfl ⟨Nat.le_refl _, by unfold maxLen; omega⟩ ⟨hk, I64_of (by omega) (by omega), I64_of (by omega) (by omega)⟩ (Or.inl rfl) (fun i hi => by simp at hi)
  · have cel : ∀ i, i < ps.length → ∀ j, j < 6 → w.cell? ⟨g, i * 6 + j, none⟩ = some ((px ps i).2 j) := fun i hi j hj => (ho.cellAt (i * 6 + j) (by omega)).trans (flat6_at ps i j hi hj)
    refine XI.mk (some ⟨g, 0, none⟩) cap (fun i => (px ps i).2) rfl (RI.nil _ _) rfl rfl rfl (by simp) ⟨by simpa using hc, hm⟩ ⟨hk, I64_of (by omega) (by omega), I64_of (by omega) (by omega)⟩ (Or.inr ⟨g, 0, rfl, by omega, fun i hi j hj => ?_⟩) (fun i hi => ?_)
    · have hi' : i < ps.length := by simpa using hi
      rw [Nat.zero_add]
      exact cel i hi' j hj
    · have hi' : i < ps.length := by simpa using hi
      have := (hxs _ (px_mem hi')).weak (Y := (· < B)) (fun b hb => Or.inl hb)
      have e : (ps.map (·.1))[i] = (px ps i).1 := by rw [px_get hi']; simp
      rw [e]
      exact this
theorem own_first {w : World} {B : Nat} {v : Value} {p : PX} (h : OwnX w B v [p]) : ∃ g cap, v = .slice (some ⟨g, 0, none⟩) 1 cap ∧ (∀ j, j < 6 → w.cell? ⟨g, j, none⟩ = some (p.2 j)) ∧ XI w (· < B) p.1 p.2 := by
  have hx := (h.2 p (by simp)).weak (Y := (· < B)) (fun b hb => Or.inl hb)
  have ho := h.1
  rcases ho.2 with ⟨_, hn⟩ | ⟨g, cap, cur, rfl, hB, hg, hc, hm, hs, ht⟩
  · simp at hn
  · refine ⟨g, cap, rfl, fun j hj => ?_, hx⟩
    have := (ho.cellAt j (by simp; omega)).trans (flat6_at [p] 0 j (by simp) hj |> fun h => by simpa using h)
    exact this
def RowF (S : List Int) (g : Int) (k : Nat) (g' : Int) (y : Option (RX × List Int)) (t : RX) : Bool → Prop
  | false => g' = g ∧ k ≤ S.length ∧ y = some (t, S.drop k)
  | true => g ≤ g' ∧ y = none
theorem rowF_end {S : List Int} {pb k : Nat} {g g' : Int} {b : Bool} {y : Option (RX × List Int)} {t : RX} {w wf : World} {F : Nat → Value} {r : Ending} (h : RowF S g k g' y t b) (h1 : But (· = pb) w wf) (h2 : XI wf (· < w.heap.size) t F) (h3 : RP wf pb S k g' b) (h4 : r = .returned (xa F)) : TreeQ y S pb g w r wf := by
  cases b
  · obtain ⟨rfl, h5, rfl⟩ := h
    exact ⟨h1, F, k, h4, h2, h3, h5, rfl⟩
  · obtain ⟨h5, rfl⟩ := h
    exact ⟨h1, t, F, k, g', h4, h2, h3, h5⟩
def RowI (pat : List Int → Option (RX × List Int)) (S : List Int) (a N : Nat) (g : Int) (k : Nat) (g' : Int) (xs : List RX) : Bool → Prop
  | false => g' = g ∧ k ≤ S.length ∧ xs.length ≤ k ∧ ∃ n, S.length - k ≤ n ∧ rowG (termP pat) N [] (S.drop a) = rowG (termP pat) n xs (S.drop k)
  | true => g ≤ g' ∧ xs.length ≤ 5000 ∧ rowG (termP pat) N [] (S.drop a) = none
theorem row_in {pat : List Int → Option (RX × List Int)} {S : List Int} {a : Nat} : rowP pat (S.drop a) = match rowG (termP pat) (S.length - a) [] (S.drop a) with
    | none => none
    | some (xs, l') => some (together 3 xs, l') := by
  unfold rowP
  rw [List.length_drop]
  cases rowG (termP pat) (S.length - a) [] (S.drop a) <;> rfl
theorem RowI.len {pat : List Int → Option (RX × List Int)} {S : List Int} {a N k : Nat} {g g' : Int} {xs : List RX} {b : Bool} (h : RowI pat S a N g k g' xs b) (hS : S.length ≤ 4096) : xs.length ≤ 5000 := by
  cases b
  · have h1 := h.2.1; have h2 := h.2.2.1; omega
  · exact h.2.1
theorem RowI.fin {pat : List Int → Option (RX × List Int)} {S : List Int} {a k : Nat} {g g' : Int} {xs : List RX} (h : RowI pat S a (S.length - a) g k g' xs false) (hq : pk S k < 0 ∨ pk S k = 124 ∨ pk S k = 41) (hmem : ∀ c ∈ S, 0 ≤ c ∧ c ≤ 1114111) : RowF S g k g' (rowP pat (S.drop a)) (together 3 xs) false := by
  obtain ⟨h1, h2, h3, n, h4, h5⟩ := h
  refine ⟨h1, h2, ?_⟩
  rw [row_in, h5]
  by_cases hk : k < S.length
  · obtain ⟨n, rfl⟩ : ∃ n', n = n' + 1 := ⟨n - 1, by omega⟩
    rw [drop_at hk]
    simp only [rowG]
    have := hmem _ (pk_mem hk)
    rw [if_pos (by omega)]
  · rw [drop_out (by omega)]
    cases n <;> rfl
theorem RowI.bad {pat : List Int → Option (RX × List Int)} {S : List Int} {a k : Nat} {g g' : Int} {xs : List RX} (h : RowI pat S a (S.length - a) g k g' xs true) : RowF S g k g' (rowP pat (S.drop a)) (together 3 xs) true := ⟨h.1, by rw [row_in, h.2.2]⟩
theorem RowI.step {pat : List Int → Option (RX × List Int)} {S : List Int} {a N k : Nat} {g g' : Int} {xs : List RX} (h : RowI pat S a N g k g' xs false) (hk : k < S.length) (hq : ¬ (pk S k = 124 ∨ pk S k = 41)) :
    (termP pat (S.drop k) = none → ∀ g2 t k2, g ≤ g2 → S.length ≤ 4096 → RowI pat S a N g k2 g2 (xs ++ [t]) true) ∧ (∀ t k2, termP pat (S.drop k) = some (t, S.drop k2) → k2 ≤ S.length → k < k2 → RowI pat S a N g k2 g (xs ++ [t]) false) := by
  obtain ⟨h1, h2, h3, n, h4, h5⟩ := h
  obtain ⟨n, rfl⟩ : ∃ n', n = n' + 1 := ⟨n - 1, by omega⟩
  have e : rowG (termP pat) (n + 1) xs (S.drop k) = match termP pat (S.drop k) with | none => none | some (x, l') => rowG (termP pat) n (xs ++ [x]) l' := by
    rw [drop_at hk]
    simp only [rowG]
    rw [if_neg hq]
    cases termP pat (pk S k :: S.drop (k + 1)) <;> rfl
  rw [e] at h5
  refine ⟨fun ht g2 t k2 hg hS => ?_, fun t k2 ht hk2 hlt => ?_⟩
  · rw [ht] at h5
    exact ⟨hg, by rw [List.length_append]; simp; omega, h5⟩
  · rw [ht] at h5
    exact ⟨rfl, hk2, by rw [List.length_append]; simp; omega, n, by omega, h5⟩

set_option maxRecDepth 100000 in
set_option maxHeartbeats 12800000 in
theorem rrow_any (pat : List Int → Option (RX × List Int)) (w : World) (pb a : Nat) (S : List Int) (g : Int) (ha : a ≤ S.length) (hg200 : g ≤ 200) (hpat : g + 1 ≤ 200 → PatQ pat S pb (g + 1)) (hnone : ¬ g + 1 ≤ 200 → ∀ l, pat l = none) (h63 : ∀ b, pk S b = 63 → pat (S.drop b) = none) (hshr : Shr pat) (h : RP w pb S a g false) :
    Calls Tryz.prog 29 #[.pointer (some ⟨pb, 0, none⟩)] w (TreeQ (rowP pat (S.drop a)) S pb g w) := by
  obtain ⟨P, hP⟩ : ∃ P, P = TreeQ (rowP pat (S.drop a)) S pb g w := ⟨_, rfl⟩
  rw [← hP]
  have HP := hid_intro hP
  have HPL := hid_intro h.lt
  have HLN := hid_intro h.len.1
  have hrl := h.lt
  have HA := hid_intro ha
  obtain ⟨W, hW⟩ : ∃ W, w.alloc (.cells #[.int .i64 0, .slice none 0 0, .int .i64 0, .int .i64 0, .bool false, .slice none 0 0] 26) = W := ⟨_, rfl⟩
  have HK0 : Hid (Bk W w.heap.size #[.int .i64 0, .slice none 0 0, .int .i64 0, .int .i64 0, .bool false, .slice none 0 0]) := hid_intro (hW ▸ Bk.new _ _ _)
  have HR0 : Hid (RP W pb S a g false) := hid_intro (h.below (hW ▸ vb_a (Below.refl _ _) _))
  have HB0 : Hid (But (· = pb) w W) := hid_intro (But.ofBelow (hW ▸ vb_a (Below.refl _ _) _))
  have HM0 : Hid (w.heap.size + 1 ≤ W.heap.size) := hid_intro (by rw [← hW]; simp)
  have hnp : ¬ w.heap.size = pb := by have := h.lt; omega
  have HTM := hid_intro (fun k (hk : k ≤ S.length) w' (h : RP w' pb S k g false) => rterm_any pat w' pb k S g hk hg200 hpat hnone h63 h)
  have HSH := hid_intro hshr
  clear hP h ha hpat hnone h63 hshr hg200
  go_enter Tryz.func29, Tryz.ntmps29
  go_upto_block 0 with fail
  go_cut [3] (fun s3 wx => ∃ (ps : List PX) (k : Nat) (g' : Int) (b : Bool), Hid (But (· = pb) w wx ∧ w.heap.size + 1 ≤ wx.heap.size ∧ Bk wx w.heap.size #[.int .i64 0, .slice none 0 0, .int .i64 0, .int .i64 0, .bool false, .slice none 0 0] ∧ OwnX wx (w.heap.size + 1) s3 ps ∧ ps.length ≤ 5001 ∧ RP wx pb S k g' b ∧ RowF S g k g' (rowP pat (S.drop a)) (together 3 (ps.map (·.1))) b))
  case first =>
    go_wp2_with fail
    go_loopg [3] (S.length + 1 - a) (fun m s3 wr => ∃ (ps : List PX) (k : Nat) (g' : Int) (b : Bool), m = (if b = true then 0 else S.length + 1 - k) ∧ Hid (But (· = pb) w wr ∧ w.heap.size + 1 ≤ wr.heap.size ∧ Bk wr w.heap.size #[.int .i64 0, .slice none 0 0, .int .i64 0, .int .i64 0, .bool false, .slice none 0 0] ∧ OwnX wr (w.heap.size + 1) s3 ps ∧ RP wr pb S k g' b ∧ RowI pat S a (S.length - a) g k g' (ps.map (·.1)) b))
    case atStart => exact ⟨[], a, g, false, rfl, HB0.out, HM0.out, HK0.out, OwnX.nil _ _, HR0.out, rfl, HA.out, Nat.zero_le _, _, Nat.le_refl _, rfl⟩
    case round =>
      obtain ⟨ps, k, g', b, rfl, HI⟩ := hrel
      have HRI := hid_intro HI.out.2.2.2.2.2
      have HPL5 : Hid (ps.length ≤ 5000) := hid_intro (by have := HRI.out.len HLN.out; simpa using this)
      have HRW := hid_intro HI.out.2.2.2.2.1
      cases b
      · have hgg : g' = g := HRI.out.1
        subst hgg
        have HPK := hid_intro (fun w' (h : RP w' pb S k g' false) => rpeek_any w' pb k S g' false h)
        obtain ⟨ao, cap, _, _, _, c3, _, _, _, _, _, _, _⟩ := HRW.out
        by_cases h0 : pk S k < 0
        · have HFI := hid_intro (HRI.out.fin (Or.inl h0) HRW.out.mem)
          generalize pk S k = qk at *
          have h0' : ¬ 0 ≤ qk := by omega
          clear h0
          go_wp2_with fail
          refine (HPK.out _ HRW.out).mono ?_; rintro r w1 ⟨rfl, hb1⟩
          have HRW1 := hid_intro (HRW.out.below hb1)
          have HBE1 : Hid (Below wr.heap.size wr w1) := hid_intro (hb1)
          clear hb1
          go_wp2_with fail
          go_meet
          exact ⟨ps, k, g', false, HI.out.1.below HBE1.out, Nat.le_trans HI.out.2.1 HBE1.out.size, HI.out.2.2.1.bel HBE1.out, HI.out.2.2.2.1.below HBE1.out, Nat.le_succ_of_le HPL5.out, HRW1.out, HFI.out⟩
        have h0' : 0 ≤ pk S k := by omega
        by_cases h124 : pk S k = 124
        · have HFI := hid_intro (HRI.out.fin (Or.inr (Or.inl h124)) HRW.out.mem)
          rw [h124] at HPK
          clear h0 h0' h124
          go_wp2_with fail
          refine (HPK.out _ HRW.out).mono ?_; rintro r w1 ⟨rfl, hb1⟩
          have HRW1 := hid_intro (HRW.out.below hb1)
          have HBE1 : Hid (Below wr.heap.size wr w1) := hid_intro (hb1)
          clear hb1
          go_wp2_with fail
          refine (HPK.out _ HRW1.out).mono ?_; rintro r w2 ⟨rfl, hb2⟩
          have HRW2 := hid_intro (HRW1.out.below hb2)
          have HBE2 : Hid (Below wr.heap.size wr w2) := hid_intro (vb_t HBE1.out hb2)
          clear hb2
          go_wp2_with fail
          go_meet
          exact ⟨ps, k, g', false, HI.out.1.below HBE2.out, Nat.le_trans HI.out.2.1 HBE2.out.size, HI.out.2.2.1.bel HBE2.out, HI.out.2.2.2.1.below HBE2.out, Nat.le_succ_of_le HPL5.out, HRW2.out, HFI.out⟩
        by_cases h41 : pk S k = 41
        · have HFI := hid_intro (HRI.out.fin (Or.inr (Or.inr h41)) HRW.out.mem)
          rw [h41] at HPK
          clear h0 h0' h124 h41
          go_wp2_with fail
          refine (HPK.out _ HRW.out).mono ?_; rintro r w1 ⟨rfl, hb1⟩
          have HRW1 := hid_intro (HRW.out.below hb1)
          have HBE1 : Hid (Below wr.heap.size wr w1) := hid_intro (hb1)
          clear hb1
          go_wp2_with fail
          refine (HPK.out _ HRW1.out).mono ?_; rintro r w2 ⟨rfl, hb2⟩
          have HRW2 := hid_intro (HRW1.out.below hb2)
          have HBE2 : Hid (Below wr.heap.size wr w2) := hid_intro (vb_t HBE1.out hb2)
          clear hb2
          go_wp2_with fail
          refine (HPK.out _ HRW2.out).mono ?_; rintro r w3 ⟨rfl, hb3⟩
          have HRW3 := hid_intro (HRW2.out.below hb3)
          have HBE3 : Hid (Below wr.heap.size wr w3) := hid_intro (vb_t HBE2.out hb3)
          clear hb3
          go_wp2_with fail
          go_meet
          exact ⟨ps, k, g', false, HI.out.1.below HBE3.out, Nat.le_trans HI.out.2.1 HBE3.out.size, HI.out.2.2.1.bel HBE3.out, HI.out.2.2.2.1.below HBE3.out, Nat.le_succ_of_le HPL5.out, HRW3.out, HFI.out⟩
        have HKL := hid_intro (pk_lt h0')
        have HST := hid_intro (HRI.out.step HKL.out (by omega))
        have b124 : (pk S k != 124) = true := by simpa using h124
        have b41 : (pk S k != 41) = true := by simpa using h41
        generalize pk S k = qk at *
        clear h0 h124 h41
        go_wp2_with fail
        refine (HPK.out _ HRW.out).mono ?_; rintro r w1 ⟨rfl, hb1⟩
        have HRW1 := hid_intro (HRW.out.below hb1)
        have HBE1 : Hid (Below wr.heap.size wr w1) := hid_intro (hb1)
        clear hb1
        go_wp2_with fail
        refine (HPK.out _ HRW1.out).mono ?_; rintro r w2 ⟨rfl, hb2⟩
        have HRW2 := hid_intro (HRW1.out.below hb2)
        have HBE2 : Hid (Below wr.heap.size wr w2) := hid_intro (vb_t HBE1.out hb2)
        clear hb2
        go_wp2_with fail
        refine (HPK.out _ HRW2.out).mono ?_; rintro r w3 ⟨rfl, hb3⟩
        have HRW3 := hid_intro (HRW2.out.below hb3)
        have HBE3 : Hid (Below wr.heap.size wr w3) := hid_intro (vb_t HBE2.out hb3)
        clear hb3
        go_wp2_with fail
        have HB3 := hid_intro (HI.out.1.below HBE3.out)
        have HK3 := hid_intro (HI.out.2.2.1.bel HBE3.out)
        have HM3 := hid_intro (Nat.le_trans HI.out.2.1 HBE3.out.size)
        have HO3 := hid_intro (HI.out.2.2.2.1.below HBE3.out)
        have htm := HTM.out k (Nat.le_of_lt HKL.out) w3 HRW3.out
        obtain ⟨U, hU⟩ : ∃ U, termP pat (S.drop k) = U := ⟨_, rfl⟩
        rw [hU] at htm
        refine htm.mono ?_; rintro r w4 ⟨hb4, hcs⟩
        cases U with
        | none =>
          obtain ⟨t, f, a4, g4, rfl, hx4, hr4, hg4⟩ := hcs
          have HB4 := hid_intro (HB3.out.trans hb4)
          have HK4 := hid_intro (HK3.out.but hb4 hnp)
          have HM4 := hid_intro (Nat.le_trans HM3.out hb4.size)
          have HO4 := hid_intro (HO3.out.but hb4 (fun j hj => by have h1 : j = pb := hj; have := HPL.out; omega))
          have HX4 : Hid (XI w4 (fun j => j < w.heap.size + 1 ∨ u3.ownBlock = some j) t f) := hid_intro (hx4.weak (fun j hj => by
            rcases hj with hj | hj
            · have := HM3.out; show j < _; omega
            · exact (HO3.out.lt j hj).2))
          have HR4 := hid_intro hr4
          have HN4 := hid_intro (HST.out.1 hU g4 t a4 hg4 HLN.out)
          clear hb4 hx4 hr4 hg4 htm hU
          have hlt4 := HO4.out.lt
          obtain ⟨k_, i1, n1, q1, lo, hi, z, i2, n2, q2, ef⟩ := HX4.out.lit
          have hcs := xa_cells ef
          rw [ef]
          have HCS := hid_intro hcs
          clear ef hcs hlt4
          go_wp2_with (at_builtin; refine wpList_append_tree rfl _ _ rfl (w.heap.size + 1) _ ps t f rfl (HO4.out.below (vb_a (Below.refl _ _) _)) ?cB ?cS (HX4.out.kept (vb_a (Below.refl _ _) _)) _ rfl ?cK ?_)
          case cB => have := HM4.out; simp; omega
          case cS => have := HPL5.out; omega
          case cK => rw [← HCS.out]; exact Bk.new _ _ _
          intro v' w5 ho5 hg5
          have hlt := HO4.out.lt
          have hal : Below w4.heap.size w4 (w4.alloc (.cells #[.int .i64 k_, .slice i1 n1 q1, .int .i64 lo, .int .i64 hi, .bool z, .slice i2 n2 q2] 26)) := vb_a (Below.refl _ _) _
          have hb5 : But (· = pb) w w5 := (HB4.out.below hal).grown hg5 (fun j hj => Or.inr (by have := (hlt j hj).1; omega))
          have hr5 := (HR4.out.below hal).grown hg5 (fun j hj => by have h1 := (hlt j hj).1; have h2 := HPL.out; omega)
          have hk5 : Bk w5 w.heap.size #[.int .i64 0, .slice none 0 0, .int .i64 0, .int .i64 0, .bool false, .slice none 0 0] := (HK4.out.al _).grown hg5 (fun e => by have := (hlt _ e).1; omega)
          have hs5 : w.heap.size + 1 ≤ w5.heap.size := Nat.le_trans HM4.out (Nat.le_trans hal.size hg5.size)
          have HXX := hid_intro (And.intro hb5 (And.intro hs5 (And.intro hk5 (And.intro ho5 hr5))))
          clear ho5 hg5 hb5 hr5 hk5 hlt hal hs5
          go_wp2_with fail
          go_roundg 0
          case measure => have := HKL.out; simp; omega
          case rel => exact ⟨ps ++ [(t, f)], a4, g4, true, rfl, HXX.out.1, HXX.out.2.1, HXX.out.2.2.1, HXX.out.2.2.2.1, HXX.out.2.2.2.2, by rw [List.map_append]; exact HN4.out⟩
        | some y =>
          obtain ⟨t, l4⟩ := y
          obtain ⟨f, a4, rfl, hx4, hr4, hle4, hl4⟩ := hcs
          subst hl4
          have hln := termP_len HSH.out _ _ hU
          simp only [List.length_drop] at hln
          have HB4 := hid_intro (HB3.out.trans hb4)
          have HK4 := hid_intro (HK3.out.but hb4 hnp)
          have HM4 := hid_intro (Nat.le_trans HM3.out hb4.size)
          have HO4 := hid_intro (HO3.out.but hb4 (fun j hj => by have h1 : j = pb := hj; have := HPL.out; omega))
          have HX4 : Hid (XI w4 (fun j => j < w.heap.size + 1 ∨ u3.ownBlock = some j) t f) := hid_intro (hx4.weak (fun j hj => by
            rcases hj with hj | hj
            · have := HM3.out; show j < _; omega
            · exact (HO3.out.lt j hj).2))
          have HR4 := hid_intro hr4
          have HLT : Hid (k < a4) := hid_intro (by omega)
          have HN4 := hid_intro (HST.out.2 t a4 hU hle4 HLT.out)
          have HL4 := hid_intro hle4
          clear hb4 hx4 hr4 htm hU hle4 hln
          have hlt4 := HO4.out.lt
          obtain ⟨k_, i1, n1, q1, lo, hi, z, i2, n2, q2, ef⟩ := HX4.out.lit
          have hcs := xa_cells ef
          rw [ef]
          have HCS := hid_intro hcs
          clear ef hcs hlt4
          go_wp2_with (at_builtin; refine wpList_append_tree rfl _ _ rfl (w.heap.size + 1) _ ps t f rfl (HO4.out.below (vb_a (Below.refl _ _) _)) ?cB ?cS (HX4.out.kept (vb_a (Below.refl _ _) _)) _ rfl ?cK ?_)
          case cB => have := HM4.out; simp; omega
          case cS => have := HPL5.out; omega
          case cK => rw [← HCS.out]; exact Bk.new _ _ _
          intro v' w5 ho5 hg5
          have hlt := HO4.out.lt
          have hal : Below w4.heap.size w4 (w4.alloc (.cells #[.int .i64 k_, .slice i1 n1 q1, .int .i64 lo, .int .i64 hi, .bool z, .slice i2 n2 q2] 26)) := vb_a (Below.refl _ _) _
          have hb5 : But (· = pb) w w5 := (HB4.out.below hal).grown hg5 (fun j hj => Or.inr (by have := (hlt j hj).1; omega))
          have hr5 := (HR4.out.below hal).grown hg5 (fun j hj => by have h1 := (hlt j hj).1; have h2 := HPL.out; omega)
          have hk5 : Bk w5 w.heap.size #[.int .i64 0, .slice none 0 0, .int .i64 0, .int .i64 0, .bool false, .slice none 0 0] := (HK4.out.al _).grown hg5 (fun e => by have := (hlt _ e).1; omega)
          have hs5 : w.heap.size + 1 ≤ w5.heap.size := Nat.le_trans HM4.out (Nat.le_trans hal.size hg5.size)
          have HXX := hid_intro (And.intro hb5 (And.intro hs5 (And.intro hk5 (And.intro ho5 hr5))))
          clear ho5 hg5 hb5 hr5 hk5 hlt hal hs5
          go_wp2_with fail
          go_roundg (S.length + 1 - a4)
          case measure => have := HLT.out; have := HL4.out; simp; omega
          case rel => exact ⟨ps ++ [(t, f)], a4, g', false, by simp, HXX.out.1, HXX.out.2.1, HXX.out.2.2.1, HXX.out.2.2.2.1, HXX.out.2.2.2.2, by rw [List.map_append]; exact HN4.out⟩
      · obtain ⟨ao, cap, _, _, _, c3, _, _, _, _, _, _, _⟩ := HRW.out
        go_wp2_with fail
        go_meet
        exact ⟨ps, k, g', true, HI.out.1, HI.out.2.1, HI.out.2.2.1, HI.out.2.2.2.1, Nat.le_succ_of_le HPL5.out, HRW.out, HRI.out.bad⟩
  case rest =>
    obtain ⟨ps, k, g', b, HCU⟩ := hcut
    have HB := hid_intro HCU.out.1
    have HM := hid_intro HCU.out.2.1
    have HK := hid_intro HCU.out.2.2.1
    have HO := hid_intro HCU.out.2.2.2.1
    have HR := hid_intro HCU.out.2.2.2.2.2.1
    have HF := hid_intro HCU.out.2.2.2.2.2.2
    have HPS := hid_intro HCU.out.2.2.2.2.1
    clear HCU
    rcases ps with _ | ⟨p, _ | ⟨q, ps⟩⟩
    · obtain ⟨ao, cap, hsh⟩ := HO.out.shape
      subst hsh
      obtain ⟨c0, c1, c2, c3, c4, c5⟩ := HK.out.c6
      obtain ⟨z0, z1, z2, z3, z4, z5⟩ := HK.out.z6
      go_wp2_with fail
      refine bodyPost_ret (v := .agg #[.int .i64 1, .slice none 0 0, .int .i64 0, .int .i64 0, .bool false, .slice none 0 0]) (by simp [results, Tryz.results29, go_sem, c0, c1, c2, c3, c4, c5]) rfl ?_
      rw [HP.out]
      have hbf : But (· = pb) w ((((((wc.setCell ⟨w.heap.size, 0, none⟩ (.int .i64 1)).setCell ⟨w.heap.size, 1, none⟩ (.slice none 0 0)).setCell ⟨w.heap.size, 2, none⟩ (.int .i64 0)).setCell ⟨w.heap.size, 3, none⟩ (.int .i64 0)).setCell ⟨w.heap.size, 4, none⟩ (.bool false)).setCell ⟨w.heap.size, 5, none⟩ (.slice none 0 0)) := by with_reducible (repeat (first | exact HB.out | refine But.set ?_ (Or.inr (Nat.le_refl _)) _))
      have hrf : RP ((((((wc.setCell ⟨w.heap.size, 0, none⟩ (.int .i64 1)).setCell ⟨w.heap.size, 1, none⟩ (.slice none 0 0)).setCell ⟨w.heap.size, 2, none⟩ (.int .i64 0)).setCell ⟨w.heap.size, 3, none⟩ (.int .i64 0)).setCell ⟨w.heap.size, 4, none⟩ (.bool false)).setCell ⟨w.heap.size, 5, none⟩ (.slice none 0 0)) pb S k g' b := by with_reducible (repeat (first | exact HR.out | refine RP.away ?_ hrl _))
      have hxf : XI ((((((wc.setCell ⟨w.heap.size, 0, none⟩ (.int .i64 1)).setCell ⟨w.heap.size, 1, none⟩ (.slice none 0 0)).setCell ⟨w.heap.size, 2, none⟩ (.int .i64 0)).setCell ⟨w.heap.size, 3, none⟩ (.int .i64 0)).setCell ⟨w.heap.size, 4, none⟩ (.bool false)).setCell ⟨w.heap.size, 5, none⟩ (.slice none 0 0)) (· < w.heap.size) (leaf 1) (fun i => [Value.int .i64 1, .slice none 0 0, .int .i64 0, .int .i64 0, .bool false, .slice none 0 0].getD i .nilIface) := XI.weak (X := fun j => j < w.heap.size + 1) (by with_reducible (repeat (first | exact xi_leaf _ _ 1 (I64_of (by omega) (by omega)) | refine XI.set ?_ (Nat.lt_succ_self _) _))) (fun j hj => Nat.lt_succ_of_lt hj)
      exact rowF_end HF.out hbf hxf hrf (rfl)
    · obtain ⟨gb, cap, rfl, hcel, hx1⟩ := own_first HO.out
      obtain ⟨t, f⟩ := p
      have HX1 := hid_intro hx1
      obtain ⟨k_, i1, n1, q1, lo, hi, z, i2, n2, q2, ef⟩ := hx1.lit
      have HEF := hid_intro ef
      unfold xa at ef
      injection ef with ef
      simp only [Array.mk.injEq, List.cons.injEq, and_true] at ef
      obtain ⟨y0, y1, y2, y3, y4, y5⟩ := ef
      simp only at hcel
      have d0 := (hcel 0 (by omega)).trans (congrArg some y0)
      have d1 := (hcel 1 (by omega)).trans (congrArg some y1)
      have d2 := (hcel 2 (by omega)).trans (congrArg some y2)
      have d3 := (hcel 3 (by omega)).trans (congrArg some y3)
      have d4 := (hcel 4 (by omega)).trans (congrArg some y4)
      have d5 := (hcel 5 (by omega)).trans (congrArg some y5)
      clear hcel y0 y1 y2 y3 y4 y5 hx1
      obtain ⟨c0, c1, c2, c3, c4, c5⟩ := HK.out.c6
      obtain ⟨z0, z1, z2, z3, z4, z5⟩ := HK.out.z6
      go_wp2_with fail
      refine bodyPost_ret (v := .agg #[.int .i64 k_, .slice i1 n1 q1, .int .i64 lo, .int .i64 hi, .bool z, .slice i2 n2 q2]) (by simp [results, Tryz.results29, go_sem, c0, c1, c2, c3, c4, c5]) rfl ?_
      rw [HP.out]
      have hbf : But (· = pb) w ((((((wc.setCell ⟨w.heap.size, 0, none⟩ (.int .i64 k_)).setCell ⟨w.heap.size, 1, none⟩ (.slice i1 n1 q1)).setCell ⟨w.heap.size, 2, none⟩ (.int .i64 lo)).setCell ⟨w.heap.size, 3, none⟩ (.int .i64 hi)).setCell ⟨w.heap.size, 4, none⟩ (.bool z)).setCell ⟨w.heap.size, 5, none⟩ (.slice i2 n2 q2)) := by with_reducible (repeat (first | exact HB.out | refine But.set ?_ (Or.inr (Nat.le_refl _)) _))
      have hrf : RP ((((((wc.setCell ⟨w.heap.size, 0, none⟩ (.int .i64 k_)).setCell ⟨w.heap.size, 1, none⟩ (.slice i1 n1 q1)).setCell ⟨w.heap.size, 2, none⟩ (.int .i64 lo)).setCell ⟨w.heap.size, 3, none⟩ (.int .i64 hi)).setCell ⟨w.heap.size, 4, none⟩ (.bool z)).setCell ⟨w.heap.size, 5, none⟩ (.slice i2 n2 q2)) pb S k g' b := by with_reducible (repeat (first | exact HR.out | refine RP.away ?_ hrl _))
      have hxf : XI ((((((wc.setCell ⟨w.heap.size, 0, none⟩ (.int .i64 k_)).setCell ⟨w.heap.size, 1, none⟩ (.slice i1 n1 q1)).setCell ⟨w.heap.size, 2, none⟩ (.int .i64 lo)).setCell ⟨w.heap.size, 3, none⟩ (.int .i64 hi)).setCell ⟨w.heap.size, 4, none⟩ (.bool z)).setCell ⟨w.heap.size, 5, none⟩ (.slice i2 n2 q2)) (· < w.heap.size) t f := XI.weak (X := fun j => j < w.heap.size + 1) (by with_reducible (repeat (first | exact HX1.out | refine XI.set ?_ (Nat.lt_succ_self _) _))) (fun j hj => Nat.lt_succ_of_lt hj)
      exact rowF_end HF.out hbf hxf hrf (by rw [HEF.out])
    · obtain ⟨ao, cap, hsh⟩ := HO.out.shape
      have hnz : ((((p :: q :: ps).length : Nat) : Int) == 0) = false := by rw [beq_eq_false_iff_ne]; simp only [List.length_cons]; omega
      have hno : ((((p :: q :: ps).length : Nat) : Int) == 1) = false := by rw [beq_eq_false_iff_ne]; simp only [List.length_cons]; omega
      have htg : together 3 ((p :: q :: ps).map (·.1)) = .mk 3 [] 0 0 false ((p :: q :: ps).map (·.1)) := rfl
      rw [htg] at HF
      have HX1 := hid_intro (own_tree HO.out 3 (I64_of (by omega) (by omega)))
      rw [hsh] at HX1
      subst hsh
      clear htg
      generalize p :: q :: ps = ps' at *
      obtain ⟨c0, c1, c2, c3, c4, c5⟩ := HK.out.c6
      obtain ⟨z0, z1, z2, z3, z4, z5⟩ := HK.out.z6
      go_wp2_with fail
      refine bodyPost_ret (v := .agg #[.int .i64 3, .slice none 0 0, .int .i64 0, .int .i64 0, .bool false, .slice ao ps'.length cap]) (by simp [results, Tryz.results29, go_sem, c0, c1, c2, c3, c4, c5]) rfl ?_
      rw [HP.out]
      have hbf : But (· = pb) w ((((((wc.setCell ⟨w.heap.size, 0, none⟩ (.int .i64 3)).setCell ⟨w.heap.size, 1, none⟩ (.slice none 0 0)).setCell ⟨w.heap.size, 2, none⟩ (.int .i64 0)).setCell ⟨w.heap.size, 3, none⟩ (.int .i64 0)).setCell ⟨w.heap.size, 4, none⟩ (.bool false)).setCell ⟨w.heap.size, 5, none⟩ (.slice ao ps'.length cap)) := by with_reducible (repeat (first | exact HB.out | refine But.set ?_ (Or.inr (Nat.le_refl _)) _))
      have hrf : RP ((((((wc.setCell ⟨w.heap.size, 0, none⟩ (.int .i64 3)).setCell ⟨w.heap.size, 1, none⟩ (.slice none 0 0)).setCell ⟨w.heap.size, 2, none⟩ (.int .i64 0)).setCell ⟨w.heap.size, 3, none⟩ (.int .i64 0)).setCell ⟨w.heap.size, 4, none⟩ (.bool false)).setCell ⟨w.heap.size, 5, none⟩ (.slice ao ps'.length cap)) pb S k g' b := by with_reducible (repeat (first | exact HR.out | refine RP.away ?_ hrl _))
      have hxf : XI ((((((wc.setCell ⟨w.heap.size, 0, none⟩ (.int .i64 3)).setCell ⟨w.heap.size, 1, none⟩ (.slice none 0 0)).setCell ⟨w.heap.size, 2, none⟩ (.int .i64 0)).setCell ⟨w.heap.size, 3, none⟩ (.int .i64 0)).setCell ⟨w.heap.size, 4, none⟩ (.bool false)).setCell ⟨w.heap.size, 5, none⟩ (.slice ao ps'.length cap)) (· < w.heap.size) (.mk 3 [] 0 0 false (ps'.map (·.1))) (fun i => [Value.int .i64 3, .slice none 0 0, .int .i64 0, .int .i64 0, .bool false, .slice ao ps'.length cap].getD i .nilIface) := XI.weak (X := fun j => j < w.heap.size + 1) (by with_reducible (repeat (first | exact HX1.out | refine XI.set ?_ (Nat.lt_succ_self _) _))) (fun j hj => Nat.lt_succ_of_lt hj)
      exact rowF_end HF.out hbf hxf hrf (rfl)
end Go.Proofs.YthbbkcdlcpbepaaGreatDoor
