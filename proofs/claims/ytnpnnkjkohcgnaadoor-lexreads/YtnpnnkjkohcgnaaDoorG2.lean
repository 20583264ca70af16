/-
  What ref1.Put and ref1.Pair answer. Conditions: what stands ahead of a code point is at most 2^47 - 4096 bytes long.
-/
import Derived.Test.YtnpnnkjkohcgnaaDoorUB3
import Derived.Test.YtnpnnkjkohcgnaaDoorV13
namespace Go.Proofs.YtnpnnkjkohcgnaaDoor
open Go.RowKit

set_option maxHeartbeats 400000 in
theorem bytes_ok (p : Int) (w : World) (hp : ptB p = true) :
    Calls Tryd.prog 46 #[.int .i64 p] w fun e w' => ∃ v, e = .returned v ∧ Row w' v (encN p) (encF p) ∧ Below w.heap.size w w' := by
  obtain ⟨q0, q1, q2⟩ := (ptB_iff p).1 hp
  clear hp
  by_cases h1 : p < 128
  · have e : encN p = 1 := by simp [encN, h1]
    rw [e]
    have hr := enc_row1 w p q0 h1
    clear e
    go_enter Tryd.func46, Tryd.ntmps46
    go_wp2
    go_ret
    exact ⟨_, rfl, hr, (Below.refl _ _).alloc (Nat.le_refl _) _⟩
  · by_cases h2 : p < 2048
    · have e : encN p = 2 := by simp [encN, h1, h2]
      rw [e]
      have hr := enc_row2 w p (by omega) h2
      have e1 := or192 (p / 64) (by omega) (by omega)
      have e2 := i64_and63 p q0 (by omega)
      have e3 := or128 (p % 64) (by omega) (by omega)
      clear e
      go_enter Tryd.func46, Tryd.ntmps46
      go_wp2
      go_ret
      exact ⟨_, rfl, hr, (Below.refl _ _).alloc (Nat.le_refl _) _⟩
    · by_cases h3 : p < 65536
      · have e : encN p = 3 := by simp [encN, h1, h2, h3]
        rw [e]
        have hr := enc_row3 w p (by omega) h3
        have e1 := or224 (p / 4096) (by omega) (by omega)
        have e2 := i64_and63 p q0 (by omega)
        have e3 := or128 (p % 64) (by omega) (by omega)
        have e4 := i64_and63 (p / 64) (by omega) (by omega)
        have e5 := or128 (p / 64 % 64) (by omega) (by omega)
        clear e
        go_enter Tryd.func46, Tryd.ntmps46
        go_wp2
        go_ret
        exact ⟨_, rfl, hr, (Below.refl _ _).alloc (Nat.le_refl _) _⟩
      · have e : encN p = 4 := by simp [encN, h1, h2, h3]
        rw [e]
        have hr := enc_row4 w p (by omega) q1
        have e1 := or240 (p / 262144) (by omega) (by omega)
        have e2 := i64_and63 p q0 (by omega)
        have e3 := or128 (p % 64) (by omega) (by omega)
        have e4 := i64_and63 (p / 64) (by omega) (by omega)
        have e5 := or128 (p / 64 % 64) (by omega) (by omega)
        have e6 := i64_and63 (p / 4096) (by omega) (by omega)
        have e7 := or128 (p / 4096 % 64) (by omega) (by omega)
        clear e
        go_enter Tryd.func46, Tryd.ntmps46
        go_wp2
        go_ret
        exact ⟨_, rfl, hr, (Below.refl _ _).alloc (Nat.le_refl _) _⟩

set_option maxHeartbeats 400000 in
theorem rput_bad (v0 : Value) (p : Int) (w : World) (hp : ptB p = false) :
    Calls Tryd.prog 28 #[v0, .int .i64 p] w fun e w' => e = .returned (.tuple #[.slice none 0 0, .int .i64 2]) ∧ w = w' := by
  have h := scalar_any p w
  rw [hp] at h
  go_enter Tryd.func28, Tryd.ntmps28
  go_wp2_with (go_at_call 44; refine h.mono ?_; rintro e w' ⟨rfl, rfl⟩)
  go_ret2
  exact ⟨rfl, rfl⟩

set_option maxHeartbeats 400000 in
theorem rput_ok (v0 : Value) (n : Nat) (f : Nat → Int) (p : Int) (w : World) (hp : ptB p = true) (hR : Row w v0 n f) (hb : n + 4 ≤ 140737488355328) :
    Calls Tryd.prog 28 #[v0, .int .i64 p] w fun e w' => ∃ r, e = .returned (.tuple #[r, .int .i64 0]) ∧ w'.ownsRow w.heap.size 5 1 r (n + encN p) (vals (n + encN p) (catF n f (encF p))) ∧ Below w.heap.size w w' := by
  have h := scalar_any p w
  rw [hp] at h
  have hc := copy_any v0 n f w hR (by omega)
  have hbs := fun w => bytes_ok p w hp
  have hn4 : encN p ≤ 4 := by unfold encN; repeat' split
                              all_goals omega
  clear hp hR
  go_enter Tryd.func28, Tryd.ntmps28
  go_wp2_with (first | (go_at_call 44; refine h.mono ?_; rintro e w' ⟨rfl, rfl⟩) | (go_at_call 45; fail))
  refine hc.mono ?_
  rintro e w1 ⟨r, rfl, ho, hb1⟩
  have hz1 := hb1.size
  clear hc h
  go_wp2_with fail
  refine (hbs w1).mono ?_
  rintro e w2 ⟨v, rfl, hv, hb2⟩
  have ho2 := own_below ho hb2
  have hb3 : Below w.heap.size w w2 := hb1.trans (hb2.mono hz1)
  have hz2 := hb3.size
  clear hbs ho hb1 hb2 hz1
  go_wp2_with (at_builtin; refine wpList_append_row rfl (.tmp 10) (.tmp 12) rfl w.heap.size _ _ _ rfl ho2 _ _ _ rfl hv ?_ ?_ ?_)
  · omega
  · exact hz2
  · intro v' w3 ho3 hg3
    have hb4 : Below w.heap.size w w3 := hb3.grown hg3 hz2 (fun j hj => (ho2.lt j hj).1)
    rw [vals_cat] at ho3
    clear ho2 hg3 hv
    go_wp2
    go_ret2
    exact ⟨_, rfl, ho3, hb4⟩

set_option maxHeartbeats 400000 in
theorem rpair_ok (h l : Int) (w : World) (h1 : 55296 ≤ h) (h2 : h ≤ 56319) (h3 : 56320 ≤ l) (h4 : l ≤ 57343) :
    Calls Tryd.prog 43 #[.int .i64 h, .int .i64 l] w fun e w' => e = .returned (.tuple #[.int .i64 (65536 + (h - 55296) * 1024 + (l - 56320)), .int .i64 0]) ∧ w = w' := by
  go_enter Tryd.func43, Tryd.ntmps43
  go_wp2
  go_ret2
  exact ⟨ret2_int rfl rfl, rfl⟩
end Go.Proofs.YtnpnnkjkohcgnaaDoor
