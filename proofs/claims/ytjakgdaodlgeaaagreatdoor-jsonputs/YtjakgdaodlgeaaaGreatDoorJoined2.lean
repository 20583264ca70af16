/-
  What utf.reaches answers. Conditions: the table of greatest code points holds its four numbers; the bits are below 2^21.
-/
import Derived.Test.YtjakgdaodlgeaaaGreatDoorJoined1
import Derived.Deep.Light
namespace Go.Proofs.YtjakgdaodlgeaaaGreatDoor.Lx
open Go.RowKit

theorem ret_bool {a b : Bool} (h : a = b) : Ending.returned (.bool a) = .returned (.bool b) := by rw [h]
theorem surB_iff (p : Int) : surB p = true ↔ (55296 ≤ p ∧ p ≤ 57343) := by simp [surB]
def reachB (b n m : Int) : Bool := decide (leastN n ≤ (b + 1) * p64 m - 1 ∧ b * p64 m ≤ greatN n ∧ ¬ (n = 3 ∧ 55296 ≤ b * p64 m ∧ (b + 1) * p64 m - 1 ≤ 57343))
theorem reachB_mk {b n m lo hi p : Int} {x : Bool} (e1 : leastN n = lo) (e2 : greatN n = hi) (e3 : p64 m = p)
  (h : x = true ↔ (lo ≤ (b + 1) * p - 1 ∧ b * p ≤ hi ∧ ¬ (n = 3 ∧ 55296 ≤ b * p ∧ (b + 1) * p - 1 ≤ 57343))) : x = reachB b n m := by
 subst e1 e2 e3
 rw [Bool.eq_iff_iff, h]
 rw [reachB, decide_eq_true_iff]
theorem not_sur (x : Int) : (!surB x) = true ↔ ¬ (55296 ≤ x ∧ x ≤ 57343) := by rw [← surB_iff]; simp
set_option maxHeartbeats 400000 in
theorem reaches_10 (b : Int) (w : World) (hT : Tab w) (h0 : 0 ≤ b) (h1 : b < 2097152) :
  Calls Tryz.prog 121 #[.int .i64 b, .int .i64 1, .int .i64 0] w fun e w' => e = .returned (.bool (reachB b 1 0)) ∧ ∃ n, w' = w.drewN n := by
 have hl : ∀ w, Tab w → Calls Tryz.prog 133 #[.int .i64 1] w fun e w' => e = .returned (.int .i64 0) ∧ w' = w := fun w h => least_any 1 w h (by omega) (by omega)
 obtain ⟨t0, t1, t2, t3⟩ := hT
 go_enter Tryz.func121, Tryz.ntmps121
 go_wp2_with fail
 go_quiet ((go_at_call 133; exact Calls.quiet_of_same (hl _ ⟨by go_simp, by go_simp, by go_simp, by go_simp⟩)))
 all_goals (go_wp2_with fail)
 all_goals go_quiet (fail)
 all_goals go_wp2_with (go_at_call 134; refine (sur_any _ _).mono ?_; rintro e w' ⟨rfl, rfl⟩)
 all_goals go_ret
 all_goals go_light
 all_goals refine ⟨ret_bool (reachB_mk (lo := 0) (hi := 127) (p := 1) rfl rfl rfl ?_), _, rfl⟩
 all_goals clear t0 t1 t2 t3 hl
 all_goals (try rw [not_sur])
 all_goals (try simp only [surB_iff] at *)
 all_goals (try simp only [Bool.false_eq_true, false_iff, true_iff])
 all_goals omega
set_option maxHeartbeats 400000 in
theorem reaches_20 (b : Int) (w : World) (hT : Tab w) (h0 : 0 ≤ b) (h1 : b < 2097152) :
  Calls Tryz.prog 121 #[.int .i64 b, .int .i64 2, .int .i64 0] w fun e w' => e = .returned (.bool (reachB b 2 0)) ∧ ∃ n, w' = w.drewN n := by
 have hl : ∀ w, Tab w → Calls Tryz.prog 133 #[.int .i64 2] w fun e w' => e = .returned (.int .i64 128) ∧ w' = w := fun w h => least_any 2 w h (by omega) (by omega)
 obtain ⟨t0, t1, t2, t3⟩ := hT
 go_enter Tryz.func121, Tryz.ntmps121
 go_wp2_with fail
 go_quiet ((go_at_call 133; exact Calls.quiet_of_same (hl _ ⟨by go_simp, by go_simp, by go_simp, by go_simp⟩)))
 all_goals (go_wp2_with fail)
 all_goals go_quiet (fail)
 all_goals go_wp2_with (go_at_call 134; refine (sur_any _ _).mono ?_; rintro e w' ⟨rfl, rfl⟩)
 all_goals go_ret
 all_goals go_light
 all_goals refine ⟨ret_bool (reachB_mk (lo := 128) (hi := 2047) (p := 1) rfl rfl rfl ?_), _, rfl⟩
 all_goals clear t0 t1 t2 t3 hl
 all_goals (try rw [not_sur])
 all_goals (try simp only [surB_iff] at *)
 all_goals (try simp only [Bool.false_eq_true, false_iff, true_iff])
 all_goals omega
set_option maxHeartbeats 400000 in
theorem reaches_21 (b : Int) (w : World) (hT : Tab w) (h0 : 0 ≤ b) (h1 : b < 2097152) :
  Calls Tryz.prog 121 #[.int .i64 b, .int .i64 2, .int .i64 1] w fun e w' => e = .returned (.bool (reachB b 2 1)) ∧ ∃ n, w' = w.drewN n := by
 have hl : ∀ w, Tab w → Calls Tryz.prog 133 #[.int .i64 2] w fun e w' => e = .returned (.int .i64 128) ∧ w' = w := fun w h => least_any 2 w h (by omega) (by omega)
 obtain ⟨t0, t1, t2, t3⟩ := hT
 go_enter Tryz.func121, Tryz.ntmps121
 go_wp2_with fail
 go_quiet ((go_at_call 133; exact Calls.quiet_of_same (hl _ ⟨by go_simp, by go_simp, by go_simp, by go_simp⟩)))
 all_goals (go_wp2_with fail)
 all_goals go_quiet (fail)
 all_goals go_wp2_with (go_at_call 134; refine (sur_any _ _).mono ?_; rintro e w' ⟨rfl, rfl⟩)
 all_goals go_ret
 all_goals go_light
 all_goals refine ⟨ret_bool (reachB_mk (lo := 128) (hi := 2047) (p := 64) rfl rfl rfl ?_), _, rfl⟩
 all_goals clear t0 t1 t2 t3 hl
 all_goals (try rw [not_sur])
 all_goals (try simp only [surB_iff] at *)
 all_goals (try simp only [Bool.false_eq_true, false_iff, true_iff])
 all_goals omega
set_option maxHeartbeats 400000 in
theorem reaches_30 (b : Int) (w : World) (hT : Tab w) (h0 : 0 ≤ b) (h1 : b < 2097152) :
  Calls Tryz.prog 121 #[.int .i64 b, .int .i64 3, .int .i64 0] w fun e w' => e = .returned (.bool (reachB b 3 0)) ∧ ∃ n, w' = w.drewN n := by
 have hl : ∀ w, Tab w → Calls Tryz.prog 133 #[.int .i64 3] w fun e w' => e = .returned (.int .i64 2048) ∧ w' = w := fun w h => least_any 3 w h (by omega) (by omega)
 obtain ⟨t0, t1, t2, t3⟩ := hT
 go_enter Tryz.func121, Tryz.ntmps121
 go_wp2_with fail
 go_quiet ((go_at_call 133; exact Calls.quiet_of_same (hl _ ⟨by go_simp, by go_simp, by go_simp, by go_simp⟩)))
 all_goals (go_wp2_with fail)
 all_goals go_quiet (fail)
 all_goals go_wp2_with (go_at_call 134; refine (sur_any _ _).mono ?_; rintro e w' ⟨rfl, rfl⟩)
 all_goals go_ret
 all_goals go_light
 all_goals refine ⟨ret_bool (reachB_mk (lo := 2048) (hi := 65535) (p := 1) rfl rfl rfl ?_), _, rfl⟩
 all_goals clear t0 t1 t2 t3 hl
 all_goals (try rw [not_sur])
 all_goals (try simp only [surB_iff] at *)
 all_goals (try simp only [Bool.false_eq_true, false_iff, true_iff])
 all_goals (try simp only [true_and])
 all_goals omega
set_option maxHeartbeats 400000 in
theorem reaches_31 (b : Int) (w : World) (hT : Tab w) (h0 : 0 ≤ b) (h1 : b < 2097152) :
  Calls Tryz.prog 121 #[.int .i64 b, .int .i64 3, .int .i64 1] w fun e w' => e = .returned (.bool (reachB b 3 1)) ∧ ∃ n, w' = w.drewN n := by
 have hl : ∀ w, Tab w → Calls Tryz.prog 133 #[.int .i64 3] w fun e w' => e = .returned (.int .i64 2048) ∧ w' = w := fun w h => least_any 3 w h (by omega) (by omega)
 obtain ⟨t0, t1, t2, t3⟩ := hT
 go_enter Tryz.func121, Tryz.ntmps121
 go_wp2_with fail
 go_quiet ((go_at_call 133; exact Calls.quiet_of_same (hl _ ⟨by go_simp, by go_simp, by go_simp, by go_simp⟩)))
 all_goals (go_wp2_with fail)
 all_goals go_quiet (fail)
 all_goals go_wp2_with (go_at_call 134; refine (sur_any _ _).mono ?_; rintro e w' ⟨rfl, rfl⟩)
 all_goals go_ret
 all_goals go_light
 all_goals refine ⟨ret_bool (reachB_mk (lo := 2048) (hi := 65535) (p := 64) rfl rfl rfl ?_), _, rfl⟩
 all_goals clear t0 t1 t2 t3 hl
 all_goals (try rw [not_sur])
 all_goals (try simp only [surB_iff] at *)
 all_goals (try simp only [Bool.false_eq_true, false_iff, true_iff])
 all_goals (try simp only [true_and])
 all_goals omega
set_option maxHeartbeats 400000 in
theorem reaches_32 (b : Int) (w : World) (hT : Tab w) (h0 : 0 ≤ b) (h1 : b < 2097152) :
  Calls Tryz.prog 121 #[.int .i64 b, .int .i64 3, .int .i64 2] w fun e w' => e = .returned (.bool (reachB b 3 2)) ∧ ∃ n, w' = w.drewN n := by
 have hl : ∀ w, Tab w → Calls Tryz.prog 133 #[.int .i64 3] w fun e w' => e = .returned (.int .i64 2048) ∧ w' = w := fun w h => least_any 3 w h (by omega) (by omega)
 obtain ⟨t0, t1, t2, t3⟩ := hT
 go_enter Tryz.func121, Tryz.ntmps121
 go_wp2_with fail
 go_quiet ((go_at_call 133; exact Calls.quiet_of_same (hl _ ⟨by go_simp, by go_simp, by go_simp, by go_simp⟩)))
 all_goals (go_wp2_with fail)
 all_goals go_quiet (fail)
 all_goals go_wp2_with (go_at_call 134; refine (sur_any _ _).mono ?_; rintro e w' ⟨rfl, rfl⟩)
 all_goals go_ret
 all_goals go_light
 all_goals refine ⟨ret_bool (reachB_mk (lo := 2048) (hi := 65535) (p := 4096) rfl rfl rfl ?_), _, rfl⟩
 all_goals clear t0 t1 t2 t3 hl
 all_goals (try rw [not_sur])
 all_goals (try simp only [surB_iff] at *)
 all_goals (try simp only [Bool.false_eq_true, false_iff, true_iff])
 all_goals (try simp only [true_and])
 all_goals omega
set_option maxHeartbeats 400000 in
theorem reaches_40 (b : Int) (w : World) (hT : Tab w) (h0 : 0 ≤ b) (h1 : b < 2097152) :
  Calls Tryz.prog 121 #[.int .i64 b, .int .i64 4, .int .i64 0] w fun e w' => e = .returned (.bool (reachB b 4 0)) ∧ ∃ n, w' = w.drewN n := by
 have hl : ∀ w, Tab w → Calls Tryz.prog 133 #[.int .i64 4] w fun e w' => e = .returned (.int .i64 65536) ∧ w' = w := fun w h => least_any 4 w h (by omega) (by omega)
 obtain ⟨t0, t1, t2, t3⟩ := hT
 go_enter Tryz.func121, Tryz.ntmps121
 go_wp2_with fail
 go_quiet ((go_at_call 133; exact Calls.quiet_of_same (hl _ ⟨by go_simp, by go_simp, by go_simp, by go_simp⟩)))
 all_goals (go_wp2_with fail)
 all_goals go_quiet (fail)
 all_goals go_wp2_with (go_at_call 134; refine (sur_any _ _).mono ?_; rintro e w' ⟨rfl, rfl⟩)
 all_goals go_ret
 all_goals go_light
 all_goals refine ⟨ret_bool (reachB_mk (lo := 65536) (hi := 1114111) (p := 1) rfl rfl rfl ?_), _, rfl⟩
 all_goals clear t0 t1 t2 t3 hl
 all_goals (try rw [not_sur])
 all_goals (try simp only [surB_iff] at *)
 all_goals (try simp only [Bool.false_eq_true, false_iff, true_iff])
 all_goals omega
set_option maxHeartbeats 400000 in
theorem reaches_41 (b : Int) (w : World) (hT : Tab w) (h0 : 0 ≤ b) (h1 : b < 2097152) :
  Calls Tryz.prog 121 #[.int .i64 b, .int .i64 4, .int .i64 1] w fun e w' => e = .returned (.bool (reachB b 4 1)) ∧ ∃ n, w' = w.drewN n := by
 have hl : ∀ w, Tab w → Calls Tryz.prog 133 #[.int .i64 4] w fun e w' => e = .returned (.int .i64 65536) ∧ w' = w := fun w h => least_any 4 w h (by omega) (by omega)
 obtain ⟨t0, t1, t2, t3⟩ := hT
 go_enter Tryz.func121, Tryz.ntmps121
 go_wp2_with fail
 go_quiet ((go_at_call 133; exact Calls.quiet_of_same (hl _ ⟨by go_simp, by go_simp, by go_simp, by go_simp⟩)))
 all_goals (go_wp2_with fail)
 all_goals go_quiet (fail)
 all_goals go_wp2_with (go_at_call 134; refine (sur_any _ _).mono ?_; rintro e w' ⟨rfl, rfl⟩)
 all_goals go_ret
 all_goals go_light
 all_goals refine ⟨ret_bool (reachB_mk (lo := 65536) (hi := 1114111) (p := 64) rfl rfl rfl ?_), _, rfl⟩
 all_goals clear t0 t1 t2 t3 hl
 all_goals (try rw [not_sur])
 all_goals (try simp only [surB_iff] at *)
 all_goals (try simp only [Bool.false_eq_true, false_iff, true_iff])
 all_goals omega
set_option maxHeartbeats 400000 in
theorem reaches_42 (b : Int) (w : World) (hT : Tab w) (h0 : 0 ≤ b) (h1 : b < 2097152) :
  Calls Tryz.prog 121 #[.int .i64 b, .int .i64 4, .int .i64 2] w fun e w' => e = .returned (.bool (reachB b 4 2)) ∧ ∃ n, w' = w.drewN n := by
 have hl : ∀ w, Tab w → Calls Tryz.prog 133 #[.int .i64 4] w fun e w' => e = .returned (.int .i64 65536) ∧ w' = w := fun w h => least_any 4 w h (by omega) (by omega)
 obtain ⟨t0, t1, t2, t3⟩ := hT
 go_enter Tryz.func121, Tryz.ntmps121
 go_wp2_with fail
 go_quiet ((go_at_call 133; exact Calls.quiet_of_same (hl _ ⟨by go_simp, by go_simp, by go_simp, by go_simp⟩)))
 all_goals (go_wp2_with fail)
 all_goals go_quiet (fail)
 all_goals go_wp2_with (go_at_call 134; refine (sur_any _ _).mono ?_; rintro e w' ⟨rfl, rfl⟩)
 all_goals go_ret
 all_goals go_light
 all_goals refine ⟨ret_bool (reachB_mk (lo := 65536) (hi := 1114111) (p := 4096) rfl rfl rfl ?_), _, rfl⟩
 all_goals clear t0 t1 t2 t3 hl
 all_goals (try rw [not_sur])
 all_goals (try simp only [surB_iff] at *)
 all_goals (try simp only [Bool.false_eq_true, false_iff, true_iff])
 all_goals omega
set_option maxHeartbeats 400000 in
theorem reaches_43 (b : Int) (w : World) (hT : Tab w) (h0 : 0 ≤ b) (h1 : b < 2097152) :
  Calls Tryz.prog 121 #[.int .i64 b, .int .i64 4, .int .i64 3] w fun e w' => e = .returned (.bool (reachB b 4 3)) ∧ ∃ n, w' = w.drewN n := by
 have hl : ∀ w, Tab w → Calls Tryz.prog 133 #[.int .i64 4] w fun e w' => e = .returned (.int .i64 65536) ∧ w' = w := fun w h => least_any 4 w h (by omega) (by omega)
 obtain ⟨t0, t1, t2, t3⟩ := hT
 go_enter Tryz.func121, Tryz.ntmps121
 go_wp2_with fail
 go_quiet ((go_at_call 133; exact Calls.quiet_of_same (hl _ ⟨by go_simp, by go_simp, by go_simp, by go_simp⟩)))
 all_goals (go_wp2_with fail)
 all_goals go_quiet (fail)
 all_goals go_wp2_with (go_at_call 134; refine (sur_any _ _).mono ?_; rintro e w' ⟨rfl, rfl⟩)
 all_goals go_ret
 all_goals go_light
 all_goals refine ⟨ret_bool (reachB_mk (lo := 65536) (hi := 1114111) (p := 262144) rfl rfl rfl ?_), _, rfl⟩
 all_goals clear t0 t1 t2 t3 hl
 all_goals (try rw [not_sur])
 all_goals (try simp only [surB_iff] at *)
 all_goals (try simp only [Bool.false_eq_true, false_iff, true_iff])
 all_goals omega
theorem reaches_any (b n m : Int) (w : World) (hT : Tab w) (h0 : 0 ≤ b) (h1 : b < 2097152) (hn : n ≤ 4) (hm : 0 ≤ m) (hmn : m < n) :
  Calls Tryz.prog 121 #[.int .i64 b, .int .i64 n, .int .i64 m] w fun e w' => e = .returned (.bool (reachB b n m)) ∧ ∃ n, w' = w.drewN n := by
 have hn' : n = 1 ∨ n = 2 ∨ n = 3 ∨ n = 4 := by omega
 have hm' : m = 0 ∨ m = 1 ∨ m = 2 ∨ m = 3 := by omega
 rcases hn' with rfl | rfl | rfl | rfl <;> rcases hm' with rfl | rfl | rfl | rfl
 ·exact reaches_10 b w hT h0 h1
 ·omega
 ·omega
 ·omega
 ·exact reaches_20 b w hT h0 h1
 ·exact reaches_21 b w hT h0 h1
 ·omega
 ·omega
 ·exact reaches_30 b w hT h0 h1
 ·exact reaches_31 b w hT h0 h1
 ·exact reaches_32 b w hT h0 h1
 ·omega
 ·exact reaches_40 b w hT h0 h1
 ·exact reaches_41 b w hT h0 h1
 ·exact reaches_42 b w hT h0 h1
 ·exact reaches_43 b w hT h0 h1
end Go.Proofs.YtjakgdaodlgeaaaGreatDoor.Lx
