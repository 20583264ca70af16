/-
  What lex.passed answers, and lex.taken at a test of one sign: the first place whose byte fails the test; the place behind a byte that stands it. Conditions: the bytes lie in memory, at most 2^48 of them.
-/
import Derived.Test.YtlahlnocjfphjaaGreatDoorJoined7
namespace Go.Proofs.YtlahlnocjfphjaaGreatDoor.Lx
open Go.RowKit
attribute [local go_sem] setCell_drewN alloc_drewN

theorem Byt.below {w w' : World} {v : Value} {l : List UInt8} (h : Byt w v l) (hb : Below w.heap.size w w') : Byt w' v l := Row.below h hb
theorem hasAt_out {l : List UInt8} {i : Nat} (p : Int → Bool) (h : ¬ i < l.length) : hasAt l i p = false := by simp [hasAt, h]
theorem hasAt_in {l : List UInt8} {i : Nat} (p : Int → Bool) (h : i < l.length) : hasAt l i p = p (bx l i) := by simp [hasAt, h]
theorem r_pl {a b : Value} (h : a = b) : Ending.returned a = .returned b := by rw [h]

set_option maxHeartbeats 400000 in
theorem passed_blank (l : List UInt8) (i : Nat) (v : Value) (w : World) (hB : Byt w v l) (hi : i ≤ l.length) (hm : l.length ≤ 281474976710656) :
    Calls Tryz.prog 28 #[v, .int .i64 i, .func (.func 29) #[] #[]] w fun r w' => r = .returned (.int .i64 (pass l blankB i : Nat)) ∧ Below w.heap.size w w' := by
  have hmI : (l.length : Int) ≤ 281474976710656 := by omega
  rcases hB with ⟨h0, a, cap, rfl, _⟩ | ⟨b, off, cap, rfl, hc, hm', hL⟩
  · have hi0 : i = 0 := by omega
    subst hi0
    have HR : Hid (pass l blankB 0 = 0) := pass_stop (hasAt_out _ (by omega))
    clear h0 hmI hm
    go_enter Tryz.func28, Tryz.ntmps28
    go_wp2
    refine wp_loop_rounds 1 ?_
    rw [rounds_succ]
    go_wp2
    go_ret
    exact ⟨ret_int (by rw [HR.out]), Below.refl _ _⟩
  · clear hc hm'
    go_enter Tryz.func28, Tryz.ntmps28
    go_wp2
    go_loopw [1] (fun t wr => ∃ k : Nat, k ≤ l.length ∧ t = .int .i64 k ∧ Hid (pass l blankB k = pass l blankB i) ∧ Below w.heap.size w wr) (fun t _ => l.length - (intOf t).toNat)
    case atStart => exact ⟨i, hi, rfl, rfl, Below.refl _ _⟩
    case round =>
      obtain ⟨k, hk, rfl, HP, hbel⟩ := hrel
      by_cases hlt : k < l.length
      · have hcell : wr.cell? ⟨b, off + k, none⟩ = some (.int .u8 (bx l k)) := by rw [hbel.cell (cell_lt (hL.cell k hlt))]; exact hL.cell k hlt
        have hI : (k : Int) < (l.length : Int) := by omega
        have h1 := blank_any (bx l k) wr
        have hq := hasAt_in (l := l) blankB hlt
        cases hp : blankB (bx l k)
        · rw [hp] at h1 hq
          have HR : Hid (pass l blankB i = k) := by show _ = _; rw [← HP.out, pass_stop hq]
          clear HP hq hp
          generalize bx l k = c at *
          go_wp2_with (go_at_call 29; refine h1.mono ?_; rintro r w2 ⟨rfl, hb2⟩)
          go_ret
          exact ⟨ret_int (by rw [HR.out]), bl_t hbel hb2⟩
        · rw [hp] at h1 hq
          have HR : Hid (pass l blankB (k + 1) = pass l blankB i) := by show _ = _; rw [← HP.out, pass_go hq]
          clear HP hq hp
          generalize bx l k = c at *
          go_wp2_with (go_at_call 29; refine h1.mono ?_; rintro r w2 ⟨rfl, hb2⟩)
          go_roundw
          case rel => exact ⟨k + 1, by omega, by go_num, HR, bl_t hbel hb2⟩
          case measure => simp [intOf]; omega
      · have hI : ¬ (k : Int) < (l.length : Int) := by omega
        have HR : Hid (pass l blankB i = k) := by show _ = _; rw [← HP.out, pass_stop (hasAt_out _ hlt)]
        clear HP
        go_wp2
        go_ret
        exact ⟨ret_int (by rw [HR.out]), hbel⟩

set_option maxHeartbeats 400000 in
theorem passed_digit (l : List UInt8) (i : Nat) (v : Value) (w : World) (hB : Byt w v l) (hi : i ≤ l.length) (hm : l.length ≤ 281474976710656) :
    Calls Tryz.prog 28 #[v, .int .i64 i, .func (.func 45) #[] #[]] w fun r w' => r = .returned (.int .i64 (pass l digitB i : Nat)) ∧ Below w.heap.size w w' := by
  have hmI : (l.length : Int) ≤ 281474976710656 := by omega
  rcases hB with ⟨h0, a, cap, rfl, _⟩ | ⟨b, off, cap, rfl, hc, hm', hL⟩
  · have hi0 : i = 0 := by omega
    subst hi0
    have HR : Hid (pass l digitB 0 = 0) := pass_stop (hasAt_out _ (by omega))
    clear h0 hmI hm
    go_enter Tryz.func28, Tryz.ntmps28
    go_wp2
    refine wp_loop_rounds 1 ?_
    rw [rounds_succ]
    go_wp2
    go_ret
    exact ⟨ret_int (by rw [HR.out]), Below.refl _ _⟩
  · clear hc hm'
    go_enter Tryz.func28, Tryz.ntmps28
    go_wp2
    go_loopw [1] (fun t wr => ∃ k : Nat, k ≤ l.length ∧ t = .int .i64 k ∧ Hid (pass l digitB k = pass l digitB i) ∧ Below w.heap.size w wr) (fun t _ => l.length - (intOf t).toNat)
    case atStart => exact ⟨i, hi, rfl, rfl, Below.refl _ _⟩
    case round =>
      obtain ⟨k, hk, rfl, HP, hbel⟩ := hrel
      by_cases hlt : k < l.length
      · have hcell : wr.cell? ⟨b, off + k, none⟩ = some (.int .u8 (bx l k)) := by rw [hbel.cell (cell_lt (hL.cell k hlt))]; exact hL.cell k hlt
        have hI : (k : Int) < (l.length : Int) := by omega
        have h1 := isDigit_any (bx l k) wr
        have hq := hasAt_in (l := l) digitB hlt
        cases hp : digitB (bx l k)
        · rw [hp] at h1 hq
          have HR : Hid (pass l digitB i = k) := by show _ = _; rw [← HP.out, pass_stop hq]
          clear HP hq hp
          generalize bx l k = c at *
          go_wp2_with (go_at_call 45; refine h1.mono ?_; rintro r w2 ⟨rfl, hb2⟩)
          go_ret
          exact ⟨ret_int (by rw [HR.out]), bl_t hbel hb2⟩
        · rw [hp] at h1 hq
          have HR : Hid (pass l digitB (k + 1) = pass l digitB i) := by show _ = _; rw [← HP.out, pass_go hq]
          clear HP hq hp
          generalize bx l k = c at *
          go_wp2_with (go_at_call 45; refine h1.mono ?_; rintro r w2 ⟨rfl, hb2⟩)
          go_roundw
          case rel => exact ⟨k + 1, by omega, by go_num, HR, bl_t hbel hb2⟩
          case measure => simp [intOf]; omega
      · have hI : ¬ (k : Int) < (l.length : Int) := by omega
        have HR : Hid (pass l digitB i = k) := by show _ = _; rw [← HP.out, pass_stop (hasAt_out _ hlt)]
        clear HP
        go_wp2
        go_ret
        exact ⟨ret_int (by rw [HR.out]), hbel⟩

set_option maxHeartbeats 400000 in
theorem passed_plain (l : List UInt8) (i : Nat) (v : Value) (w : World) (hB : Byt w v l) (hi : i ≤ l.length) (hm : l.length ≤ 281474976710656) :
    Calls Tryz.prog 28 #[v, .int .i64 i, .func (.func 95) #[] #[]] w fun r w' => r = .returned (.int .i64 (pass l plainB i : Nat)) ∧ Below w.heap.size w w' := by
  have hmI : (l.length : Int) ≤ 281474976710656 := by omega
  rcases hB with ⟨h0, a, cap, rfl, _⟩ | ⟨b, off, cap, rfl, hc, hm', hL⟩
  · have hi0 : i = 0 := by omega
    subst hi0
    have HR : Hid (pass l plainB 0 = 0) := pass_stop (hasAt_out _ (by omega))
    clear h0 hmI hm
    go_enter Tryz.func28, Tryz.ntmps28
    go_wp2
    refine wp_loop_rounds 1 ?_
    rw [rounds_succ]
    go_wp2
    go_ret
    exact ⟨ret_int (by rw [HR.out]), Below.refl _ _⟩
  · clear hc hm'
    go_enter Tryz.func28, Tryz.ntmps28
    go_wp2
    go_loopw [1] (fun t wr => ∃ k : Nat, k ≤ l.length ∧ t = .int .i64 k ∧ Hid (pass l plainB k = pass l plainB i) ∧ Below w.heap.size w wr) (fun t _ => l.length - (intOf t).toNat)
    case atStart => exact ⟨i, hi, rfl, rfl, Below.refl _ _⟩
    case round =>
      obtain ⟨k, hk, rfl, HP, hbel⟩ := hrel
      by_cases hlt : k < l.length
      · have hcell : wr.cell? ⟨b, off + k, none⟩ = some (.int .u8 (bx l k)) := by rw [hbel.cell (cell_lt (hL.cell k hlt))]; exact hL.cell k hlt
        have hI : (k : Int) < (l.length : Int) := by omega
        have h1 := isPlain_any (bx l k) wr
        have hq := hasAt_in (l := l) plainB hlt
        cases hp : plainB (bx l k)
        · rw [hp] at h1 hq
          have HR : Hid (pass l plainB i = k) := by show _ = _; rw [← HP.out, pass_stop hq]
          clear HP hq hp
          generalize bx l k = c at *
          go_wp2_with (go_at_call 95; refine h1.mono ?_; rintro r w2 ⟨rfl, hb2⟩)
          go_ret
          exact ⟨ret_int (by rw [HR.out]), bl_t hbel hb2⟩
        · rw [hp] at h1 hq
          have HR : Hid (pass l plainB (k + 1) = pass l plainB i) := by show _ = _; rw [← HP.out, pass_go hq]
          clear HP hq hp
          generalize bx l k = c at *
          go_wp2_with (go_at_call 95; refine h1.mono ?_; rintro r w2 ⟨rfl, hb2⟩)
          go_roundw
          case rel => exact ⟨k + 1, by omega, by go_num, HR, bl_t hbel hb2⟩
          case measure => simp [intOf]; omega
      · have hI : ¬ (k : Int) < (l.length : Int) := by omega
        have HR : Hid (pass l plainB i = k) := by show _ = _; rw [← HP.out, pass_stop (hasAt_out _ hlt)]
        clear HP
        go_wp2
        go_ret
        exact ⟨ret_int (by rw [HR.out]), hbel⟩

set_option maxHeartbeats 400000 in
theorem taken_digit  (l : List UInt8) (i : Nat) (v : Value) (p : Int → Bool) (w : World) (hB : Byt w v l) (hi : i ≤ l.length) (hm : l.length ≤ 281474976710656)
    (hf : ∀ c, Calls Tryz.prog 45 #[.int .u8 c] w fun r w' => r = .returned (.bool (p c)) ∧ Below w.heap.size w w') :
    Calls Tryz.prog 93 #[v, .int .i64 i, .func (.func 45) #[] #[]] w fun r w' => r = .returned (plV (takenL l i p)) ∧ Below w.heap.size w w' := by
  have hmI : (l.length : Int) ≤ 281474976710656 := by omega
  have g1 := fun w => badAt_any i w (by omega)
  by_cases hlt : i < l.length
  · rcases hB with ⟨h0, _⟩ | ⟨b, off, cap, rfl, hc, hm', hL⟩
    · omega
    · have hcell := hL.cell i hlt
      have hI : (i : Int) < (l.length : Int) := by omega
      have h1 := hf (bx l i)
      cases hp : p (bx l i)
      · rw [hp] at h1
        have HR : Hid (takenL l i p = .error (i + 1)) := by show _ = _; simp [takenL, hasAt_in p hlt, hp]
        clear hp hL hf hc hm'
        generalize bx l i = c at *
        go_enter Tryz.func93, Tryz.ntmps93
        go_wp2_with (first | (go_at_call 45; refine h1.mono ?_; rintro r w2 ⟨rfl, hb2⟩) | (go_at_call 48; refine (g1 _).mono ?_; rintro r w3 ⟨rfl, rfl⟩))
        go_ret2
        exact ⟨r_pl (by rw [HR.out]; rfl), hb2⟩
      · rw [hp] at h1
        have HR : Hid (takenL l i p = .ok (i + 1)) := by show _ = _; simp [takenL, hasAt_in p hlt, hp]
        clear hp hL hf hc hm' g1
        generalize bx l i = c at *
        go_enter Tryz.func93, Tryz.ntmps93
        go_wp2_with (go_at_call 45; refine h1.mono ?_; rintro r w2 ⟨rfl, hb2⟩)
        go_ret2
        exact ⟨r_pl (by rw [HR.out]; simp [plV]), hb2⟩
  · have hI : ¬ (i : Int) < (l.length : Int) := by omega
    have HR : Hid (takenL l i p = .error (i + 1)) := by show _ = _; simp [takenL, hasAt_out p hlt]
    obtain ⟨a, cap, rfl, _⟩ := hB.shape
    clear hB hf
    go_enter Tryz.func93, Tryz.ntmps93
    go_wp2_with (go_at_call 48; refine (g1 _).mono ?_; rintro r w3 ⟨rfl, rfl⟩)
    go_ret2
    exact ⟨r_pl (by rw [HR.out]; rfl), Below.refl _ _⟩

set_option maxHeartbeats 400000 in
theorem taken_slash  (l : List UInt8) (i : Nat) (v : Value) (p : Int → Bool) (w : World) (hB : Byt w v l) (hi : i ≤ l.length) (hm : l.length ≤ 281474976710656)
    (hf : ∀ c, Calls Tryz.prog 97 #[.int .u8 c] w fun r w' => r = .returned (.bool (p c)) ∧ Below w.heap.size w w') :
    Calls Tryz.prog 93 #[v, .int .i64 i, .func (.func 97) #[] #[]] w fun r w' => r = .returned (plV (takenL l i p)) ∧ Below w.heap.size w w' := by
  have hmI : (l.length : Int) ≤ 281474976710656 := by omega
  have g1 := fun w => badAt_any i w (by omega)
  by_cases hlt : i < l.length
  · rcases hB with ⟨h0, _⟩ | ⟨b, off, cap, rfl, hc, hm', hL⟩
    · omega
    · have hcell := hL.cell i hlt
      have hI : (i : Int) < (l.length : Int) := by omega
      have h1 := hf (bx l i)
      cases hp : p (bx l i)
      · rw [hp] at h1
        have HR : Hid (takenL l i p = .error (i + 1)) := by show _ = _; simp [takenL, hasAt_in p hlt, hp]
        clear hp hL hf hc hm'
        generalize bx l i = c at *
        go_enter Tryz.func93, Tryz.ntmps93
        go_wp2_with (first | (go_at_call 97; refine h1.mono ?_; rintro r w2 ⟨rfl, hb2⟩) | (go_at_call 48; refine (g1 _).mono ?_; rintro r w3 ⟨rfl, rfl⟩))
        go_ret2
        exact ⟨r_pl (by rw [HR.out]; rfl), hb2⟩
      · rw [hp] at h1
        have HR : Hid (takenL l i p = .ok (i + 1)) := by show _ = _; simp [takenL, hasAt_in p hlt, hp]
        clear hp hL hf hc hm' g1
        generalize bx l i = c at *
        go_enter Tryz.func93, Tryz.ntmps93
        go_wp2_with (go_at_call 97; refine h1.mono ?_; rintro r w2 ⟨rfl, hb2⟩)
        go_ret2
        exact ⟨r_pl (by rw [HR.out]; simp [plV]), hb2⟩
  · have hI : ¬ (i : Int) < (l.length : Int) := by omega
    have HR : Hid (takenL l i p = .error (i + 1)) := by show _ = _; simp [takenL, hasAt_out p hlt]
    obtain ⟨a, cap, rfl, _⟩ := hB.shape
    clear hB hf
    go_enter Tryz.func93, Tryz.ntmps93
    go_wp2_with (go_at_call 48; refine (g1 _).mono ?_; rintro r w3 ⟨rfl, rfl⟩)
    go_ret2
    exact ⟨r_pl (by rw [HR.out]; rfl), Below.refl _ _⟩
end Go.Proofs.YtlahlnocjfphjaaGreatDoor.Lx
