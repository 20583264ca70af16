/-
  What ref.Put, ref.Pair, ref.Split and ref.Same answer. Conditions: what stands ahead of a code point is at most 2^47 - 4096 bytes long.
-/
import Derived.Test.YtibkhbmglnlgkaaDoorB3
namespace Go.Proofs.YtibkhbmglnlgkaaDoor
open Go.RowKit

theorem own_below {w w' : World} {B : Nat} {e : TypeId} {size : Nat} {v : Value} {n : Nat} {xs : List Value} (h : w.ownsRow B e size v n xs) (hb : Below w.heap.size w w') : w'.ownsRow B e size v n xs := by
  obtain ⟨h1, h2⟩ := h
  refine ⟨h1, ?_⟩
  rcases h2 with h2 | ⟨g, cap, cur, a, b, c, d⟩
  · exact .inl h2
  · exact .inr ⟨g, cap, cur, a, b, by rw [hb.block g (Array.getElem?_eq_some_iff.1 c).1]; exact c, d⟩

set_option maxHeartbeats 400000 in
theorem bytes_ok (p : Int) (w : World) (hp : ptB p = true) :
    Calls Tryd.prog 36 #[.int .i64 p] w fun e w' => ∃ v, e = .returned v ∧ Row w' v (encN p) (encF p) ∧ Below w.heap.size w w' := by
  obtain ⟨q0, q1, q2⟩ := (ptB_iff p).1 hp
  clear hp
  by_cases h1 : p < 128
  · have e : encN p = 1 := by simp [encN, h1]
    rw [e]
    have hr := enc_row1 w p q0 h1
    clear e
    go_enter Tryd.func36, Tryd.ntmps36
    go_wp2
    go_ret
    exact ⟨_, rfl, hr, (Below.refl _ _).alloc (Nat.le_refl _) _⟩
  · by_cases h2 : p < 2048
    · have e : encN p = 2 := by simp [encN, h1, h2]
      rw [e]
      have hr := enc_row2 w p (by omega) h2
      have e1 := or192 (p / 64) (by omega) (by omega)
      have e2 := i64_and63 p q0 (by omega)
      have e3 := or128 (p % 64) (by omega) (by omega)
      clear e
      go_enter Tryd.func36, Tryd.ntmps36
      go_wp2
      go_ret
      exact ⟨_, rfl, hr, (Below.refl _ _).alloc (Nat.le_refl _) _⟩
    · by_cases h3 : p < 65536
      · have e : encN p = 3 := by simp [encN, h1, h2, h3]
        rw [e]
        have hr := enc_row3 w p (by omega) h3
        have e1 := or224 (p / 4096) (by omega) (by omega)
        have e2 := i64_and63 p q0 (by omega)
        have e3 := or128 (p % 64) (by omega) (by omega)
        have e4 := i64_and63 (p / 64) (by omega) (by omega)
        have e5 := or128 (p / 64 % 64) (by omega) (by omega)
        clear e
        go_enter Tryd.func36, Tryd.ntmps36
        go_wp2
        go_ret
        exact ⟨_, rfl, hr, (Below.refl _ _).alloc (Nat.le_refl _) _⟩
      · have e : encN p = 4 := by simp [encN, h1, h2, h3]
        rw [e]
        have hr := enc_row4 w p (by omega) q1
        have e1 := or240 (p / 262144) (by omega) (by omega)
        have e2 := i64_and63 p q0 (by omega)
        have e3 := or128 (p % 64) (by omega) (by omega)
        have e4 := i64_and63 (p / 64) (by omega) (by omega)
        have e5 := or128 (p / 64 % 64) (by omega) (by omega)
        have e6 := i64_and63 (p / 4096) (by omega) (by omega)
        have e7 := or128 (p / 4096 % 64) (by omega) (by omega)
        clear e
        go_enter Tryd.func36, Tryd.ntmps36
        go_wp2
        go_ret
        exact ⟨_, rfl, hr, (Below.refl _ _).alloc (Nat.le_refl _) _⟩

set_option maxHeartbeats 400000 in
theorem rput_bad (v0 : Value) (p : Int) (w : World) (hp : ptB p = false) :
    Calls Tryd.prog 20 #[v0, .int .i64 p] w fun e w' => e = .returned (.tuple #[.slice none 0 0, .int .i64 2]) ∧ w = w' := by
  have h := scalar_any p w
  rw [hp] at h
  go_enter Tryd.func20, Tryd.ntmps20
  go_wp2_with (go_at_call 35; refine h.mono ?_; rintro e w' ⟨rfl, rfl⟩)
  go_ret2
  exact ⟨rfl, rfl⟩

set_option maxHeartbeats 400000 in
theorem rput_ok (v0 : Value) (n : Nat) (f : Nat → Int) (p : Int) (w : World) (hp : ptB p = true) (hR : Row w v0 n f) (hb : n + 4 ≤ 140737488355328) :
    Calls Tryd.prog 20 #[v0, .int .i64 p] w fun e w' => ∃ r, e = .returned (.tuple #[r, .int .i64 0]) ∧ w'.ownsRow w.heap.size 5 1 r (n + encN p) (vals (n + encN p) (catF n f (encF p))) ∧ Below w.heap.size w w' := by
  have h := scalar_any p w
  rw [hp] at h
  have hc := copy_any v0 n f w hR (by omega)
  have hbs := fun w => bytes_ok p w hp
  have hn4 : encN p ≤ 4 := by unfold encN; repeat' split
                              all_goals omega
  clear hp hR
  go_enter Tryd.func20, Tryd.ntmps20
  go_wp2_with (first | (go_at_call 35; refine h.mono ?_; rintro e w' ⟨rfl, rfl⟩) | (go_at_call 26; fail))
  refine hc.mono ?_
  rintro e w1 ⟨r, rfl, ho, hb1⟩
  have hz1 := hb1.size
  clear hc h
  go_wp2_with fail
  refine (hbs w1).mono ?_
  rintro e w2 ⟨v, rfl, hv, hb2⟩
  have ho2 := own_below ho hb2
  have hb3 : Below w.heap.size w w2 := hb1.trans (hb2.mono hz1)
  have hz2 := hb3.size
  clear hbs ho hb1 hb2 hz1
  go_wp2_with (at_builtin; refine wpList_append_row rfl (.tmp 10) (.tmp 12) rfl w.heap.size _ _ _ rfl ho2 _ _ _ rfl hv ?_ ?_ ?_)
  · omega
  · exact hz2
  · intro v' w3 ho3 hg3
    have hb4 : Below w.heap.size w w3 := hb3.grown hg3 hz2 (fun j hj => (ho2.lt j hj).1)
    rw [vals_cat] at ho3
    clear ho2 hg3 hv
    go_wp2
    go_ret2
    exact ⟨_, rfl, ho3, hb4⟩

theorem bs_inj (n : Nat) (f g : Nat → Int) (lo : ∀ i, 0 ≤ f i) (hi : ∀ i, f i < 256) (lo' : ∀ i, 0 ≤ g i) (hi' : ∀ i, g i < 256) (i : Nat) (h : i < n) (e : bs n f = bs n g) : f i = g i := by
  have a := bs_at n f lo hi i (by rw [bs_length]; exact h)
  have b := bs_at n g lo' hi' i (by rw [bs_length]; exact h)
  rw [← a, ← b]; simp [e]

set_option maxHeartbeats 400000 in
theorem same_any (va vb : Value) (n m : Nat) (f g : Nat → Int) (w : World) (ha : Row w va n f) (hb : Row w vb m g) :
    Calls Tryd.prog 25 #[va, vb] w fun e w' => e = .returned (.bool ((txt n f).toList == (txt m g).toList)) ∧ w = w' := by
  have c1 := conv_row w va n f ha
  have c2 := conv_row w vb m g hb
  go_enter Tryd.func25, Tryd.ntmps25
  go_wp2
  go_ret
  exact ⟨rfl, rfl⟩

set_option maxHeartbeats 400000 in
theorem rpair_bad (h l : Int) (w : World) (hb : h < 55296 ∨ 56319 < h ∨ l < 56320 ∨ 57343 < l) :
    Calls Tryd.prog 22 #[.int .i64 h, .int .i64 l] w fun e w' => e = .returned (.tuple #[.int .i64 0, .int .i64 11]) ∧ w = w' := by
  by_cases h1 : h < 55296
  · go_enter Tryd.func22, Tryd.ntmps22
    go_wp2
    go_ret2
    exact ⟨rfl, rfl⟩
  · by_cases h2 : 56319 < h
    · go_enter Tryd.func22, Tryd.ntmps22
      go_wp2
      go_ret2
      exact ⟨rfl, rfl⟩
    · by_cases h3 : l < 56320
      · go_enter Tryd.func22, Tryd.ntmps22
        go_wp2
        go_ret2
        exact ⟨rfl, rfl⟩
      · have h4 : 57343 < l := by omega
        go_enter Tryd.func22, Tryd.ntmps22
        go_wp2
        go_ret2
        exact ⟨rfl, rfl⟩
set_option maxHeartbeats 400000 in
theorem rpair_ok (h l : Int) (w : World) (h1 : 55296 ≤ h) (h2 : h ≤ 56319) (h3 : 56320 ≤ l) (h4 : l ≤ 57343) :
    Calls Tryd.prog 22 #[.int .i64 h, .int .i64 l] w fun e w' => e = .returned (.tuple #[.int .i64 (65536 + (h - 55296) * 1024 + (l - 56320)), .int .i64 0]) ∧ w = w' := by
  go_enter Tryd.func22, Tryd.ntmps22
  go_wp2
  go_ret2
  exact ⟨ret2_int rfl rfl, rfl⟩
set_option maxHeartbeats 400000 in
theorem rsplit_bad (p : Int) (w : World) (hb : p < 65536 ∨ 1114111 < p) :
    Calls Tryd.prog 24 #[.int .i64 p] w fun e w' => e = .returned (.tuple #[.int .i64 0, .int .i64 0, .int .i64 2]) ∧ w = w' := by
  by_cases h1 : p < 65536
  · go_enter Tryd.func24, Tryd.ntmps24
    go_wp2
    go_ret3
    exact ⟨rfl, rfl⟩
  · have h2 : 1114111 < p := by omega
    go_enter Tryd.func24, Tryd.ntmps24
    go_wp2
    go_ret3
    exact ⟨rfl, rfl⟩
set_option maxHeartbeats 400000 in
theorem rsplit_ok (p : Int) (w : World) (h1 : 65536 ≤ p) (h2 : p ≤ 1114111) :
    Calls Tryd.prog 24 #[.int .i64 p] w fun e w' => e = .returned (.tuple #[.int .i64 (55296 + (p - 65536) / 1024), .int .i64 (56320 + (p - 65536) % 1024), .int .i64 0]) ∧ w = w' := by
  go_enter Tryd.func24, Tryd.ntmps24
  go_wp2
  go_ret3
  exact ⟨ret3_int (by omega) (by omega) rfl, rfl⟩
end Go.Proofs.YtibkhbmglnlgkaaDoor
