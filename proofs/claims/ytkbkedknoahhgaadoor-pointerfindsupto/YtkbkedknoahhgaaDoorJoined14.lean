/-
  What ref7.Texts answers: are two rows of texts the same. Conditions: at most 2^40 of them.
  What pointer.Find answers at an array of one true: what heads asks. No condition but that the value lies in memory.
-/
import Derived.Test.YtkbkedknoahhgaaDoorJoined13
import Derived.WalkSpells
import Derived.Deep.RegionHeld3
namespace Go.Proofs.YtkbkedknoahhgaaDoor
open Go.RowKit
attribute [local go_sem] setCell_drewN alloc_drewN

theorem SRow.shape {w : World} {v : Value} {xs : List (List UInt8)} (h : SRow w v xs) : ∃ a c, v = .slice a xs.length c := by
  rcases h with ⟨rfl, a, c, rfl⟩ | ⟨b, off, c, rfl, _⟩
  · exact ⟨a, c, rfl⟩
  · exact ⟨_, c, rfl⟩
theorem SRow.lies {w : World} {a : Option Addr} {n c : Nat} {xs : List (List UInt8)} (h : SRow w (.slice a n c) xs) (h0 : xs ≠ []) : ∃ b off, a = some ⟨b, off, none⟩ ∧ ∀ i x, xs[i]? = some x → w.cell? ⟨b, off + i, none⟩ = some (.string (bs x)) := by
  rcases h with ⟨e, _⟩ | ⟨b, off, c', e, hc⟩
  · exact absurd e h0
  · injection e with e1 e2 e3
    refine ⟨b, off, e1, fun i x hx => ?_⟩
    obtain ⟨hi, rfl⟩ := List.getElem?_eq_some_iff.1 hx
    exact hc i hi
theorem bs_inj {a b : List UInt8} : bs a = bs b ↔ a = b := ⟨fun h => by have := congrArg (fun s => s.data.toList) h; simpa [bs_list] using this, fun h => by rw [h]⟩

set_option maxRecDepth 100000 in
set_option maxHeartbeats 1600000 in
theorem texts_any (v1 v2 : Value) (xs ys : List (List UInt8)) (w : World) (h1 : SRow w v1 xs) (h2 : SRow w v2 ys) (hm : xs.length ≤ 1099511627776) :
    Calls Tryd.prog 11 #[v1, v2] w fun r w' => r = .returned (.bool (decide (xs = ys))) ∧ Below w.heap.size w w' := by
  obtain ⟨a1, c1, rfl⟩ := h1.shape
  obtain ⟨a2, c2, rfl⟩ := h2.shape
  have hmI : (xs.length : Int) ≤ 1099511627776 := by omega
  by_cases hl : xs.length = ys.length
  · have hneq : ((xs.length : Int) != (ys.length : Int)) = false := by rw [hl]; simp
    have hlI : (xs.length : Int) = (ys.length : Int) := by omega
    have H1 : Hid (xs ≠ [] → ∃ b off, a1 = some ⟨b, off, none⟩ ∧ ∀ i x, xs[i]? = some x → w.cell? ⟨b, off + i, none⟩ = some (.string (bs x))) := h1.lies
    have H2 : Hid (ys ≠ [] → ∃ b off, a2 = some ⟨b, off, none⟩ ∧ ∀ i x, ys[i]? = some x → w.cell? ⟨b, off + i, none⟩ = some (.string (bs x))) := h2.lies
    clear h1 h2
    obtain ⟨n, hn⟩ : ∃ n, xs.length = n := ⟨_, rfl⟩
    have hn2 : ys.length = n := by omega
    rw [hn] at hmI hneq hm ⊢
    rw [hn2] at hneq ⊢
    clear hl hlI
    go_enter Tryd.func11, Tryd.ntmps11
    go_wp2_with fail
    go_loopw [5] (fun t wr => ∃ i : Nat, i ≤ n ∧ t = .int .i64 i ∧ Hid (xs.take i = ys.take i) ∧ ∃ q, wr = w.drewN q) (fun t _ => n - (intOf t).toNat)
    case atStart => exact ⟨0, Nat.zero_le _, rfl, by show _ = _; rw [List.take_zero, List.take_zero], 0, rfl⟩
    case round =>
      obtain ⟨i, hi, rfl, HT, q, rfl⟩ := hrel
      by_cases hlt : i < n
      · have hI : (i : Int) < (n : Int) := by omega
        obtain ⟨b, off, rfl, hc⟩ := H1.out (fun e => by rw [e] at hn; simp at hn; omega)
        obtain ⟨b', off', rfl, hc'⟩ := H2.out (fun e => by rw [e] at hn2; simp at hn2; omega)
        have i1 : i < xs.length := by omega
        have i2 : i < ys.length := by omega
        have d1 : w.cell? ⟨b, off + i, none⟩ = some (.string (bs xs[i])) := hc i _ (List.getElem?_eq_getElem i1)
        have d2 : w.cell? ⟨b', off' + i, none⟩ = some (.string (bs ys[i])) := hc' i _ (List.getElem?_eq_getElem i2)
        have heq := eq_bytes (bs xs[i]) (bs ys[i])
        clear hc hc' H1 H2
        by_cases hx : xs[i] = ys[i]
        · have HN : Hid (xs.take (i + 1) = ys.take (i + 1)) := by show _ = _; rw [List.take_add_one, List.take_add_one, HT.out, List.getElem?_eq_getElem i1, List.getElem?_eq_getElem i2, hx]
          rw [decide_eq_true (by rw [hx])] at heq
          clear HT hx
          generalize bs xs[i] = x at *
          generalize bs ys[i] = y at *
          go_wp2_with fail
          go_quiet (fail)
          go_wp2
          go_roundw
          case rel => exact ⟨i + 1, by omega, by go_num, HN, _, rfl⟩
          case measure => simp [intOf]; omega
        · have HN : Hid (decide (xs = ys) = false) := by
            show _ = _
            refine decide_eq_false (fun e => hx ?_)
            subst e; rfl
          rw [decide_eq_false (by rw [bs_inj]; exact hx)] at heq
          clear HT hx
          generalize bs xs[i] = x at *
          generalize bs ys[i] = y at *
          go_wp2_with fail
          go_quiet (fail)
          go_wp2
          go_ret
          exact ⟨by rw [HN.out]; rfl, bl_n (bl_n (Below.refl _ _) _) _⟩
      · have hI : ¬ (i : Int) < (n : Int) := by omega
        have HN : Hid (decide (xs = ys) = true) := by
          show _ = _
          have e := HT.out
          rw [List.take_of_length_le (by omega), List.take_of_length_le (by omega)] at e
          exact decide_eq_true e
        go_wp2
        go_ret
        exact ⟨by rw [HN.out]; rfl, bl_n (Below.refl _ _) _⟩
  · have hneq : ((xs.length : Int) != (ys.length : Int)) = true := by simp; omega
    have HN : Hid (decide (xs = ys) = false) := decide_eq_false (fun e => hl (by rw [e]))
    go_enter Tryd.func11, Tryd.ntmps11
    go_wp2
    go_ret
    exact ⟨by rw [HN.out]; rfl, Below.refl _ _⟩
end Go.Proofs.YtkbkedknoahhgaaDoor

namespace Go.Proofs.YtkbkedknoahhgaaDoor
open Go.RowKit
attribute [local go_sem] setCell_drewN alloc_drewN

set_option maxRecDepth 100000 in
set_option maxHeartbeats 800000 in
theorem below_0 (w : World) : Calls Tryd.prog 35 #[.string ⟨#[48]⟩, .int .i64 1] w fun r w' => r = .returned (.tuple #[.int .i64 0, .bool true]) ∧ w' = w := by
  go_enter Tryd.func35, Tryd.ntmps35
  go_wp2_with fail
  refine wp_loop_rounds 3 ?_
  rw [rounds_succ]
  go_wp2_with (go_at_call 55; refine (isDigit_any _ _).mono ?_; rintro e w' ⟨rfl, rfl⟩)
  rw [rounds_succ]
  go_wp2
  go_ret2
  exact ⟨rfl, rfl⟩
set_option maxRecDepth 100000 in
set_option maxHeartbeats 800000 in
theorem below_00 (w : World) : Calls Tryd.prog 35 #[.string ⟨#[48, 48]⟩, .int .i64 1] w fun r w' => r = .returned (.tuple #[.int .i64 0, .bool false]) ∧ w' = w := by
  go_enter Tryd.func35, Tryd.ntmps35
  go_wp2
  go_ret2
  exact ⟨rfl, rfl⟩
/-- True, and an array of it. -/
def lfV : Value := .agg #[.int .i64 2, .bool false, .string ⟨#[]⟩, .int .i64 0, .string ⟨#[]⟩, .slice none 0 0, .slice none 0 0]
def zeroV : Value := .agg #[.int .i64 0, .bool false, .string ⟨#[]⟩, .int .i64 0, .string ⟨#[]⟩, .slice none 0 0, .slice none 0 0]
def fvV (b : Nat) : Value := .agg #[.int .i64 5, .bool false, .string ⟨#[]⟩, .int .i64 0, .string ⟨#[]⟩, .slice (some ⟨b, 0, none⟩) 1 1, .slice none 0 0]
structure LF (w : World) (b : Nat) : Prop where
  c0 : w.cell? ⟨b, 0, none⟩ = some (.int .i64 2)
  c1 : w.cell? ⟨b, 1, none⟩ = some (.bool false)
  c2 : w.cell? ⟨b, 2, none⟩ = some (.string ⟨#[]⟩)
  c3 : w.cell? ⟨b, 3, none⟩ = some (.int .i64 0)
  c4 : w.cell? ⟨b, 4, none⟩ = some (.string ⟨#[]⟩)
  c5 : w.cell? ⟨b, 5, none⟩ = some (.slice none 0 0)
  c6 : w.cell? ⟨b, 6, none⟩ = some (.slice none 0 0)
theorem LF.below {w w' : World} {b : Nat} (h : LF w b) (hb : Below w.heap.size w w') : LF w' b := by
  have k : ∀ o v, w.cell? ⟨b, o, none⟩ = some v → w'.cell? ⟨b, o, none⟩ = some v := fun o v hv => by rw [hb.cell (World.block_lt_of_cell? w _ hv)]; exact hv
  exact ⟨k _ _ h.c0, k _ _ h.c1, k _ _ h.c2, k _ _ h.c3, k _ _ h.c4, k _ _ h.c5, k _ _ h.c6⟩

set_option maxRecDepth 100000 in
set_option maxHeartbeats 800000 in
theorem placeOf_0 (b : Nat) (w : World) : Calls Tryd.prog 18 #[fvV b, .string ⟨#[48]⟩] w fun r w' => r = .returned (.tuple #[.int .i64 0, .bool true]) ∧ Below w.heap.size w w' := by
  unfold fvV
  go_enter Tryd.func18, Tryd.ntmps18
  go_wp2_with (go_at_call 35; refine (below_0 _).mono ?_; rintro e w' ⟨rfl, rfl⟩)
  go_ret2
  exact ⟨rfl, bl_a (Below.refl _ _) _⟩
set_option maxRecDepth 100000 in
set_option maxHeartbeats 800000 in
theorem placeOf_00 (b : Nat) (w : World) : Calls Tryd.prog 18 #[fvV b, .string ⟨#[48, 48]⟩] w fun r w' => r = .returned (.tuple #[.int .i64 0, .bool false]) ∧ Below w.heap.size w w' := by
  unfold fvV
  go_enter Tryd.func18, Tryd.ntmps18
  go_wp2_with (go_at_call 35; refine (below_00 _).mono ?_; rintro e w' ⟨rfl, rfl⟩)
  go_ret2
  exact ⟨rfl, bl_a (Below.refl _ _) _⟩

set_option maxHeartbeats 400000 in
theorem cloneS_nil (w : World) : Calls Tryd.prog 37 #[.slice none 0 0] w fun r w' => r = .returned (.slice none 0 0) ∧ w' = w := by
  have q : ∀ (w : World) (a : Option Addr) (n c n' c' : Nat), (binOp .eql 26 (.slice a n c) (.slice none n' c')).run Tryd.prog w = .ok (.bool a.isNone) w := fun w a n c n' c' => Lib.run_eql_slice_nil w _ _ a n c n' c' Tryd.underlying26
  go_enter Tryd.func37, Tryd.ntmps37
  go_wp2
  go_ret
  exact ⟨rfl, rfl⟩
set_option maxHeartbeats 400000 in
theorem cloneV_nil (w : World) : Calls Tryd.prog 38 #[.slice none 0 0] w fun r w' => r = .returned (.slice none 0 0) ∧ w' = w := by
  have q : ∀ (w : World) (a : Option Addr) (n c n' c' : Nat), (binOp .eql 25 (.slice a n c) (.slice none n' c')).run Tryd.prog w = .ok (.bool a.isNone) w := fun w a n c n' c' => Lib.run_eql_slice_nil w _ _ a n c n' c' Tryd.underlying25
  go_enter Tryd.func38, Tryd.ntmps38
  go_wp2
  go_ret
  exact ⟨rfl, rfl⟩

set_option maxRecDepth 100000 in
set_option maxHeartbeats 1600000 in
theorem copied_lf (w : World) : Calls Tryd.prog 19 #[lfV] w fun r w' => r = .returned lfV ∧ Below w.heap.size w w' := by
  unfold lfV
  go_enter Tryd.func19, Tryd.ntmps19
  go_wp2_with fail
  go_region_with first | (go_at_call 37; refine (cloneS_nil _).mono ?_; rintro r w' ⟨rfl, rfl⟩) | (go_at_call 38; refine (cloneV_nil _).mono ?_; rintro r w' ⟨rfl, rfl⟩)
  all_goals
    go_wp2_with fail
    refine wp_loop_rounds 1 ?_
    rw [rounds_succ]
    go_wp2
    refine bodyPost_ret (v := .agg #[.int .i64 2, .bool false, .string ⟨#[]⟩, .int .i64 0, .string ⟨#[]⟩, .slice none 0 0, .slice none 0 0]) (by simp [results, Tryd.results19, go_sem]) rfl ⟨rfl, ?_⟩
    repeat (first | exact Below.refl _ _ | refine bl_d ?_ | refine bl_a ?_ _ | refine bl_s ?_ (by simp) _)
end Go.Proofs.YtkbkedknoahhgaaDoor
