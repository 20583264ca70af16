/-
  What dec.withoutTens and dec.divides answer where the divisor has no prime of ten, and where the dividend's last place is the lower one. Conditions: at most 9000 digits.
-/
import Derived.Test.YtfhapeinfhjihaaGreatDoorS3
import Derived.Test.YtfhapeinfhjihaaGreatDoorS8
import Derived.Test.YtfhapeinfhjihaaGreatDoorNE
namespace Go.Proofs.YtfhapeinfhjihaaGreatDoor
open Go.RowKit
attribute [local go_sem] setCell_drewN alloc_drewN

theorem Num.len {w : World} {v : Value} {R : Int} (h : Num w v R) : ∃ a n cap, v = .slice a n cap ∧ ((n : Int) == 0) = decide (R = 0) := by
  obtain ⟨n, f, hr, hc, he⟩ := h
  obtain ⟨a, cap, rfl, hm⟩ := hr.shape
  refine ⟨a, n, cap, rfl, ?_⟩
  by_cases z : n = 0
  · subst z
    rw [val_zero] at he
    rw [decide_eq_true he.symm]; rfl
  · have := can_ge hc (by omega)
    have := pw_pos (n - 1)
    rw [decide_eq_false (by omega)]
    exact beq_eq_false_iff_ne.2 (by omega)

set_option maxRecDepth 100000 in
set_option maxHeartbeats 800000 in
theorem withoutTens_plain (s : ByteArray) (t : Int) (w : World) (h1 : 1 ≤ s.size) (h2 : s.size ≤ 1048576) (hd : Digits s) (hl : cx s (s.size - 1) = 49 ∨ cx s (s.size - 1) = 51 ∨ cx s (s.size - 1) = 55 ∨ cx s (s.size - 1) = 57) :
    Calls Tryz.prog 64 #[.string s, .int .i64 t] w fun e w' => ∃ r, e = .returned r ∧ Num w' r (dec (dig s) s.size) ∧ Below w.heap.size w w' := by
  have ho := of_ok s w h1 h2 hd
  have hp1 : s.size - 1 < s.size := by omega
  have hx1 := cx_at s (s.size - 1) hp1
  have ez : ((s.size : Int) - 1).toNat = s.size - 1 := by omega
  have i0 : (0 : Int) < (s.size : Int) := by omega
  have i1 : (s.size : Int) ≤ 1048576 := by omega
  generalize dec (dig s) s.size = A at *
  clear hd
  rcases hl with hl | hl | hl | hl
  all_goals
    rw [hl] at hx1
    clear hl
    go_enter Tryz.func64, Tryz.ntmps64
    go_wp2_with (go_at_call 20; refine ho.mono ?_; rintro e w' ⟨r, rfl, hN, hb⟩)
    go_ret
    exact ⟨_, rfl, hN, hb⟩

set_option maxRecDepth 100000 in
set_option maxHeartbeats 1600000 in
theorem divides_plain (n m : Bool) (s t : ByteArray) (e f : Int) (w : World) (hz : eqD m t f false ⟨#[]⟩ 0 = false) (e0 : -1000000 ≤ e) (e1 : e ≤ 1000000) (f0 : -1000000 ≤ f) (f1 : f ≤ 1000000) (hef : e ≤ f)
    (s1 : 1 ≤ s.size) (s2 : s.size ≤ 1048576) (sd : Digits s) (t1 : 1 ≤ t.size) (t2 : t.size ≤ 1048576) (td : Digits t) (hl : cx s (s.size - 1) = 49 ∨ cx s (s.size - 1) = 51 ∨ cx s (s.size - 1) = 55 ∨ cx s (s.size - 1) = 57)
    (hA : dec (dig t) t.size < pw 1000) (hB : 0 < dec (dig s) s.size) :
    Calls Tryz.prog 37 #[.agg #[.bool n, .string s, .int .i64 e], .agg #[.bool m, .string t, .int .i64 f]] w fun r w' => r = .returned (.bool (decide (dec (dig t) t.size % dec (dig s) s.size = 0))) ∧ Below w.heap.size w w' := by
  have hq := eqIn_dec m t f false ⟨#[]⟩ 0
  rw [hz] at hq
  have h1 := fun w => of_ok t w t1 t2 td
  have h2 := fun x w => withoutTens_plain s x w s1 s2 sd hl
  have h3 := fun v0 v1 w h0 h1 => div_num v0 v1 (dec (dig t) t.size) (dec (dig s) s.size) w h0 h1 hA hB
  have HM : Hid (∀ Q R, dec (dig t) t.size = Q * dec (dig s) s.size + R → 0 ≤ R → R < dec (dig s) s.size → decide (R = 0) = decide (dec (dig t) t.size % dec (dig s) s.size = 0)) := fun Q R a b c => by rw [(divides_eq a b c).2]
  clear sd td hl hz
  generalize decide (dec (dig t) t.size % dec (dig s) s.size = 0) = res at *
  generalize dec (dig t) t.size = A at *
  generalize dec (dig s) s.size = B at *
  have hn : ¬ f - e < 0 := by omega
  clear hef
  go_enter Tryz.func37, Tryz.ntmps37
  go_wp2_with fail
  go_region_with (go_at_call 32; refine (nought_any _).mono ?_; rintro r w' ⟨rfl, rfl⟩)
  all_goals (try go_wp2_with fail)
  all_goals
    refine (h1 _).mono ?_
    rintro r w1 ⟨r1, rfl, hN1, hb1⟩
    have hS : Below (w.alloc (.cells #[.bool n, .string s, .int .i64 e] 23)).heap.size (w.alloc (.cells #[.bool n, .string s, .int .i64 e] 23)) w1 := (by with_reducible repeat (first | exact Below.refl _ _ | refine bl_t ?_ hb1 |  refine bl_d ?_ | refine bl_n ?_ _ | refine bl_a ?_ _ | refine bl_s ?_ (by omega) _))
    have hk1 := fun o => hS.cell (p := ⟨w.heap.size, o, none⟩) (by simp)
    go_wp2_with fail
    refine (h2 _ _).mono ?_
    rintro r w2 ⟨r2, rfl, hN2, hb2⟩
    go_wp2_with fail
    refine (h3 _ _ _ (hN1.below hb2) hN2).mono ?_
    rintro r w3 ⟨q3, r3, rfl, ⟨Q, R, _, hR, hE⟩, hb3⟩
    obtain ⟨a, k, cap, rfl, hlen⟩ := hR.len
    rw [HM.out Q R hE.1 hE.2.1 hE.2.2] at hlen
    go_wp2
    go_ret
    exact ⟨rfl, (by with_reducible repeat (first | exact Below.refl _ _ | refine bl_t ?_ hb3 | refine bl_t ?_ hb2 | refine bl_t ?_ hb1 |  refine bl_d ?_ | refine bl_n ?_ _ | refine bl_a ?_ _ | refine bl_s ?_ (by omega) _))⟩

set_option maxRecDepth 100000 in
set_option maxHeartbeats 800000 in
theorem divides_lower (n m : Bool) (s t : ByteArray) (e f : Int) (w : World) (hz : eqD m t f false ⟨#[]⟩ 0 = false) (e0 : -1000000 ≤ e) (e1 : e ≤ 1000000) (f0 : -1000000 ≤ f) (f1 : f ≤ 1000000) (hef : f - e < 0) :
    Calls Tryz.prog 37 #[.agg #[.bool n, .string s, .int .i64 e], .agg #[.bool m, .string t, .int .i64 f]] w fun r w' => r = .returned (.bool false) ∧ Below w.heap.size w w' := by
  have hq := eqIn_dec m t f false ⟨#[]⟩ 0
  rw [hz] at hq
  clear hz
  go_enter Tryz.func37, Tryz.ntmps37
  go_wp2_with fail
  go_region_with (go_at_call 32; refine (nought_any _).mono ?_; rintro r w' ⟨rfl, rfl⟩)
  all_goals (try go_wp2)
  all_goals go_ret
  all_goals exact ⟨rfl, (by with_reducible repeat (first | exact Below.refl _ _ | refine bl_d ?_ | refine bl_n ?_ _ | refine bl_a ?_ _ | refine bl_s ?_ (by omega) _))⟩
end Go.Proofs.YtfhapeinfhjihaaGreatDoor
