/-
  What ref.Ints, utf.Pair and utf.Split answer, and that heads holds. Conditions: the table of greatest code points holds its four numbers.
-/
import Derived.Test.YtibkhbmglnlgkaaDoorA6
namespace Go.Proofs.YtibkhbmglnlgkaaDoor
open Go.RowKit

/-- A slice of ints as a value. -/
def IRow (w : World) (v : Value) (xs : List Int) : Prop :=
  (xs = [] ∧ ∃ a cap, v = .slice a 0 cap) ∨ ∃ b off cap, v = .slice (some ⟨b, off, none⟩) xs.length cap ∧ xs.length ≤ maxLen ∧ ∀ i, i < xs.length → w.cell? ⟨b, off + i, none⟩ = some (.int .i64 (xs.getD i 0))

theorem IRow.of_own {w : World} {B : Nat} {v : Value} {xs : List Int} (h : w.ownsRow B 3 1 v xs.length (xs.map (Value.int .i64))) : IRow w v xs := by
  rcases h.2 with ⟨rfl, h0⟩ | ⟨g, cap, cur, rfl, hb, hg, hc, hm, hs, ht⟩
  · exact .inl ⟨List.eq_nil_of_length_eq_zero h0, none, 0, rfl⟩
  · refine .inr ⟨g, 0, cap, rfl, by omega, fun i hi => ?_⟩
    rw [Nat.zero_add, h.cellAt i (by omega)]
    simp [hi]

theorem IRow.len {w : World} {v : Value} {xs : List Int} (h : IRow w v xs) : ∃ a cap, v = .slice a xs.length cap ∧ xs.length ≤ maxLen := by
  rcases h with ⟨rfl, a, cap, rfl⟩ | ⟨b, off, cap, rfl, hm, _⟩
  · exact ⟨a, cap, rfl, by simp [maxLen]⟩
  · exact ⟨_, cap, rfl, hm⟩

set_option maxHeartbeats 400000 in
theorem ints_any (va vb : Value) (xs ys : List Int) (w : World) (ha : IRow w va xs) (hb : IRow w vb ys) :
    Calls Tryd.prog 13 #[va, vb] w fun e w' => e = .returned (.bool (decide (xs = ys))) ∧ ∃ n, w' = w.drewN n := by
  by_cases hlen : xs.length = ys.length
  · by_cases h0 : xs.length = 0
    · obtain ⟨a, cap, rfl, _⟩ := ha.len
      obtain ⟨a', cap', rfl, _⟩ := hb.len
      have e : xs = [] := List.eq_nil_of_length_eq_zero h0
      have e' : ys = [] := List.eq_nil_of_length_eq_zero (by omega)
      subst e e'
      clear ha hb hlen h0
      go_enter Tryd.func13, Tryd.ntmps13
      go_wp2
      refine wp_loop_rounds 1 ?_
      rw [rounds_succ]
      go_wp2
      go_ret
      exact ⟨rfl, 0, rfl⟩
    · rcases ha with ⟨rfl, _⟩ | ⟨b, off, cap, rfl, hm, hc⟩
      · exact absurd rfl h0
      rcases hb with ⟨rfl, _⟩ | ⟨b', off', cap', rfl, hm', hc'⟩
      · exact absurd hlen h0
      unfold maxLen at hm hm'
      obtain ⟨n, hl⟩ : ∃ n, n = xs.length := ⟨_, rfl⟩
      have hl' : n = ys.length := by omega
      rw [← hl] at hc hm ⊢
      rw [← hl'] at hc' hm' ⊢
      have HL : Hid (n = xs.length) := hl
      have HL' : Hid (n = ys.length) := hl'
      have hcx := hc
      have hcy := hc'
      clear hc hc' hl hl' h0 hlen
      go_enter Tryd.func13, Tryd.ntmps13
      go_wp2
      go_loopw [5] (fun i wr => ∃ k : Nat, k ≤ n ∧ i = .int .i64 k ∧ Hid (∀ j, j < k → xs.getD j 0 = ys.getD j 0) ∧ ∃ q, wr = w.drewN q) (fun i _ => n - (intOf i).toNat)
      case atStart => exact ⟨0, Nat.zero_le _, rfl, fun j hj => absurd hj (by omega), 0, rfl⟩
      case round =>
        obtain ⟨k, hk, rfl, HE, q, rfl⟩ := hrel
        by_cases hlt : k < n
        · have c1 := hcx k hlt
          have c2 := hcy k hlt
          by_cases he : xs.getD k 0 = ys.getD k 0
          · have HE2 : Hid (∀ j, j < k + 1 → xs.getD j 0 = ys.getD j 0) := fun j hj => by
              by_cases e : j = k
              · rw [e]; exact he
              · exact HE.out j (by omega)
            rw [← he] at c2
            generalize xs.getD k 0 = x at *
            clear he HE hcx hcy
            have hI : (k : Int) < (n : Int) := by omega
            go_wp2_with fail
            go_quiet (fail)
            go_wp2
            go_roundw
            case rel => exact ⟨k + 1, by omega, by go_num, HE2, _, rfl⟩
            case measure => simp [intOf]; omega
          · have HF : Hid (decide (xs = ys) = false) := by
              show decide (xs = ys) = false
              exact decide_eq_false (fun e => he (by rw [e]))
            have hne : (xs.getD k 0 == ys.getD k 0) = false := by simpa using he
            generalize xs.getD k 0 = x at *
            generalize ys.getD k 0 = y at *
            clear he HE hcx hcy
            have hI : (k : Int) < (n : Int) := by omega
            go_wp2_with fail
            go_quiet (fail)
            go_wp2
            go_ret
            exact ⟨ret_bool HF.out.symm, _, by rw [World.drewN_drewN]⟩
        · have e : k = n := by omega
          subst e
          have HF : Hid (decide (xs = ys) = true) := by
            show decide (xs = ys) = true
            refine decide_eq_true (List.ext_getElem (by rw [← HL.out, ← HL'.out]) fun i h1 h2 => ?_)
            have := HE.out i (by rw [← HL.out] at h1; exact h1)
            rw [List.getD_eq_getElem?_getD, List.getD_eq_getElem?_getD, List.getElem?_eq_getElem h1, List.getElem?_eq_getElem h2] at this
            exact this
          clear HE hcx hcy
          go_wp2
          go_ret
          exact ⟨ret_bool HF.out.symm, _, rfl⟩
  · obtain ⟨a, cap, rfl, m1⟩ := ha.len
    obtain ⟨a', cap', rfl, m2⟩ := hb.len
    have HF : Hid (decide (xs = ys) = false) := by
      show decide (xs = ys) = false
      exact decide_eq_false (fun e => hlen (by rw [e]))
    have hne : ((xs.length : Int) == (ys.length : Int)) = false := by simp; omega
    clear ha hb
    go_enter Tryd.func13, Tryd.ntmps13
    go_wp2
    go_ret
    exact ⟨ret_bool HF.out.symm, 0, rfl⟩

theorem least4 (w : World) (hT : Tab w) : Calls Tryd.prog 37 #[.int .i64 4] w fun e w' => e = .returned (.int .i64 65536) ∧ w = w' :=
  (least_any 4 w hT (by omega) (by omega)).mono fun e w' h => ⟨h.1, h.2.symm⟩

set_option maxHeartbeats 400000 in
theorem pair_bad (h l : Int) (w : World) (hb : h < 55296 ∨ 56319 < h ∨ l < 56320 ∨ 57343 < l) :
    Calls Tryd.prog 21 #[.int .i64 h, .int .i64 l] w fun e w' => e = .returned (.tuple #[.int .i64 0, .int .i64 11]) ∧ w' = w := by
  by_cases h1 : h < 55296
  · go_enter Tryd.func21, Tryd.ntmps21
    go_wp2
    go_ret2
    exact ⟨rfl, rfl⟩
  · by_cases h2 : 56319 < h
    · go_enter Tryd.func21, Tryd.ntmps21
      go_wp2
      go_ret2
      exact ⟨rfl, rfl⟩
    · by_cases h3 : l < 56320
      · go_enter Tryd.func21, Tryd.ntmps21
        go_wp2
        go_ret2
        exact ⟨rfl, rfl⟩
      · have h4 : 57343 < l := by omega
        go_enter Tryd.func21, Tryd.ntmps21
        go_wp2
        go_ret2
        exact ⟨rfl, rfl⟩
set_option maxHeartbeats 400000 in
theorem pair_ok (h l : Int) (w : World) (hT : Tab w) (h1 : 55296 ≤ h) (h2 : h ≤ 56319) (h3 : 56320 ≤ l) (h4 : l ≤ 57343) :
    Calls Tryd.prog 21 #[.int .i64 h, .int .i64 l] w fun e w' => e = .returned (.tuple #[.int .i64 (65536 + (h - 55296) * 1024 + (l - 56320)), .int .i64 0]) ∧ w = w' := by
  go_enter Tryd.func21, Tryd.ntmps21
  go_wp2_with (go_at_call 37; refine (least4 _ hT).mono ?_; rintro e w' ⟨rfl, rfl⟩)
  go_ret2
  exact ⟨ret2_int rfl rfl, rfl⟩
theorem ret3_int {k l m : IntKind} {a b c d e f : Int} (h : a = b) (g : c = d) (i : e = f) : Ending.returned (.tuple #[.int k a, .int l c, .int m e]) = .returned (.tuple #[.int k b, .int l d, .int m f]) := by rw [h, g, i]
set_option maxHeartbeats 400000 in
theorem split_bad (p : Int) (w : World) (hT : Tab w) (hb : p < 65536 ∨ 1114111 < p) :
    Calls Tryd.prog 23 #[.int .i64 p] w fun e w' => e = .returned (.tuple #[.int .i64 0, .int .i64 0, .int .i64 2]) ∧ w = w' := by
  have t3 := hT.t3
  by_cases h1 : p < 65536
  · go_enter Tryd.func23, Tryd.ntmps23
    go_wp2_with (go_at_call 37; refine (least4 _ hT).mono ?_; rintro e w' ⟨rfl, rfl⟩)
    go_ret3
    exact ⟨rfl, rfl⟩
  · have h2 : 1114111 < p := by omega
    go_enter Tryd.func23, Tryd.ntmps23
    go_wp2_with (go_at_call 37; refine (least4 _ hT).mono ?_; rintro e w' ⟨rfl, rfl⟩)
    go_ret3
    exact ⟨rfl, rfl⟩
set_option maxHeartbeats 400000 in
theorem split_ok (p : Int) (w : World) (hT : Tab w) (h1 : 65536 ≤ p) (h2 : p ≤ 1114111) :
    Calls Tryd.prog 23 #[.int .i64 p] w fun e w' => e = .returned (.tuple #[.int .i64 (55296 + (p - 65536) / 1024), .int .i64 (56320 + (p - 65536) % 1024), .int .i64 0]) ∧ w = w' := by
  have t3 := hT.t3
  go_enter Tryd.func23, Tryd.ntmps23
  go_wp2_with (go_at_call 37; refine (least4 _ hT).mono ?_; rintro e w' ⟨rfl, rfl⟩)
  go_ret3
  exact ⟨ret3_int (by omega) (by omega) rfl, rfl⟩

theorem Tab.below {w w' : World} {B : Nat} (h : Tab w) (hb : Below B w w') (h0 : 0 < B) : Tab w' :=
  ⟨(hb.cell h0).trans h.t0, (hb.cell h0).trans h.t1, (hb.cell h0).trans h.t2, (hb.cell h0).trans h.t3⟩
end Go.Proofs.YtibkhbmglnlgkaaDoor
