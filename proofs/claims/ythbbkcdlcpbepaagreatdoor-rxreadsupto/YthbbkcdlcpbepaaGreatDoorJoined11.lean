/-
  Small functions of the reference: ref4.digit, ref4.Hex, ref9.in, one, set, kinds; ref1.Pair. No condition.
  The reference's number and hex. No condition.
-/
import Derived.Test.YthbbkcdlcpbepaaGreatDoorJoined7
import Derived.Test.YthbbkcdlcpbepaaGreatDoorJoined8
import Derived.Test.YthbbkcdlcpbepaaGreatDoorJoined9
import Derived.Test.YthbbkcdlcpbepaaGreatDoorJoined10
namespace Go.Proofs.YthbbkcdlcpbepaaGreatDoor
open Go.RowKit
attribute [local go_sem] setCell_drewN alloc_drewN

set_option maxHeartbeats 400000 in
theorem rdig_any (c : Int) (w : World) :
    Calls Tryz.prog 143 #[.int .u8 c] w fun r w' => r = .returned (.bool (isDig c)) ∧ w' = w := by
  by_cases h1 : 48 ≤ c
  · by_cases h2 : c ≤ 57
    · go_enter Tryz.func143, Tryz.ntmps143
      go_wp2
      go_ret
      exact ⟨by simp [isDig, h1, h2], rfl⟩
    · go_enter Tryz.func143, Tryz.ntmps143
      go_wp2
      go_ret
      exact ⟨by simp [isDig, h1, h2], rfl⟩
  · go_enter Tryz.func143, Tryz.ntmps143
    go_wp2
    go_ret
    exact ⟨by have : decide (48 ≤ c) = false := by simpa using h1
              simp [isDig, this], rfl⟩
/-- A digit of 16, as a number, or below nought. -/
def hexN (c : Int) : Int := (hexD c).getD (-1)
theorem isDig_iff (c : Int) : isDig c = true ↔ 48 ≤ c ∧ c ≤ 57 := by simp [isDig]
theorem isDig_no {c : Int} (h : ¬ (48 ≤ c ∧ c ≤ 57)) : isDig c = false := by rw [Bool.eq_false_iff, ne_eq, isDig_iff]; exact h
set_option maxHeartbeats 800000 in
theorem rhexd_any (c : Int) (w : World) (h0 : 0 ≤ c) (h9 : c < 256) :
    Calls Tryz.prog 111 #[.int .u8 c] w fun e w' => e = .returned (.int .i64 (hexN c)) ∧ w' = w := by
  have hd := rdig_any c
  by_cases a1 : 48 ≤ c ∧ c ≤ 57
  · rw [(isDig_iff c).2 a1] at hd
    have HE : Hid (hexN c = c - 48) := by show _ = _; unfold hexN hexD dig; rw [if_neg (by omega), if_neg (by omega), if_pos ((isDig_iff c).2 a1)]; rfl
    obtain ⟨b1, b2⟩ := a1
    go_enter Tryz.func111, Tryz.ntmps111
    go_wp2_with (go_at_call 143; refine (hd _).mono ?_; rintro e w' ⟨rfl, rfl⟩)
    go_ret
    exact ⟨by rw [HE.out]; rfl, rfl⟩
  · have e1 : isDig c = false := isDig_no a1
    rw [e1] at hd
    by_cases a2 : 97 ≤ c ∧ c ≤ 102
    · have HE : Hid (hexN c = c - 97 + 10) := by
        show _ = _
        unfold hexN hexD; rw [if_pos a2]; rfl
      obtain ⟨b1, b2⟩ := a2
      clear a1 e1
      go_enter Tryz.func111, Tryz.ntmps111
      go_wp2_with (go_at_call 143; refine (hd _).mono ?_; rintro e w' ⟨rfl, rfl⟩)
      go_ret
      exact ⟨by rw [HE.out]; rfl, rfl⟩
    · by_cases a3 : 65 ≤ c ∧ c ≤ 70
      · have HE : Hid (hexN c = c - 65 + 10) := by
          show _ = _
          unfold hexN hexD; rw [if_neg a2, if_pos a3]; rfl
        obtain ⟨b1, b2⟩ := a3
        have b3 : ¬ 97 ≤ c := by omega
        clear a1 a2 e1
        go_enter Tryz.func111, Tryz.ntmps111
        go_wp2_with (go_at_call 143; refine (hd _).mono ?_; rintro e w' ⟨rfl, rfl⟩)
        go_ret
        exact ⟨by rw [HE.out]; rfl, rfl⟩
      · have HE : Hid (hexN c = -1) := by show _ = _; unfold hexN hexD dig; rw [if_neg a2, if_neg a3, e1]; rfl
        have ha : c < 65 ∨ (70 < c ∧ c < 97) ∨ 102 < c := by omega
        clear a1 a2 a3 e1
        rcases ha with r1 | ⟨r1, r2⟩ | r1
        all_goals
          go_enter Tryz.func111, Tryz.ntmps111
          go_wp2_with (go_at_call 143; refine (hd _).mono ?_; rintro e w' ⟨rfl, rfl⟩)
          go_ret
          exact ⟨by rw [HE.out]; rfl, rfl⟩

set_option maxRecDepth 100000 in
set_option maxHeartbeats 800000 in
theorem rin_any (c : Int) (s : ByteArray) (w : World) (hs : s.size ≤ 4096) :
    Calls Tryz.prog 59 #[.int .i64 c, .string s] w fun r w' => r = .returned (.bool (decide (c ∈ ints s))) ∧ w' = w := by
  obtain ⟨P, hP⟩ : ∃ P : Ending → World → Prop, P = fun r w' => r = .returned (.bool (decide (c ∈ ints s))) ∧ w' = w := ⟨_, rfl⟩
  rw [← hP]
  have HP := hid_intro hP
  have hsI : (s.size : Int) ≤ 4096 := by omega
  clear hP
  go_enter Tryz.func59, Tryz.ntmps59
  go_wp2_with fail
  go_loopg [5] s.size (fun m s5 wr => ∃ k : Nat, k ≤ s.size ∧ m = s.size - k ∧ s5 = .int .i64 (k : Int) ∧ Hid (∀ i, i < k → pk (ints s) i ≠ c) ∧ wr = w)
  case atStart => exact ⟨0, Nat.zero_le _, rfl, rfl, fun i hi => absurd hi (by omega), rfl⟩
  case round =>
    obtain ⟨k, hk, rfl, rfl, HA, rfl⟩ := hrel
    by_cases hlt : k < s.size
    · have hI : (k : Int) < (s.size : Int) := by omega
      have hx := ints_at s k hlt
      obtain ⟨q, hq⟩ : ∃ q : Int, ((s[k]'hlt).toNat : Int) = q := ⟨_, rfl⟩
      have hqq : ∀ h, ((s[k]'h).toNat : Int) = q := fun h => hq
      rw [hq] at hx
      have hw : wrap64 q = q := by have := (s[k]'hlt).toNat_lt; unfold wrap64; omega
      by_cases he : c = q
      · have HE : Hid (decide (c ∈ ints s) = true) := hid_intro (decide_eq_true (by rw [he, ← hx]; exact pk_mem (by rw [ints_len]; exact hlt)))
        have hd : (c == q) = true := by simpa using he
        clear hx HA hq he hlt hk
        go_wp2_with fail
        rw [HP.out, HE.out]
        exact ⟨rfl, rfl⟩
      · have HA2 : Hid (∀ i, i < k + 1 → pk (ints s) i ≠ c) := hid_intro (fun i hi => by
          by_cases e : i = k
          · rw [e, hx]; exact fun e => he e.symm
          · exact HA.out i (by omega))
        have HK := hid_intro hlt
        have hd : (c == q) = false := by simpa using he
        clear hx HA hq he hlt hk
        go_wp2_with fail
        go_roundg (s.size - (k + 1))
        case measure => have := HK.out; omega
        case rel => exact ⟨k + 1, HK.out, rfl, by simp, HA2, rfl⟩
    · have hI : ¬ ((k : Int) < (s.size : Int)) := by omega
      have HE : Hid (decide (c ∈ ints s) = false) := hid_intro (decide_eq_false (fun hm => by
        obtain ⟨i, hi, e⟩ := List.getElem_of_mem hm
        have := HA.out i (by rw [ints_len] at hi; omega)
        apply this
        unfold pk; rw [List.getD_eq_getElem?_getD, List.getElem?_eq_getElem hi]; exact e))
      clear HA hlt hk
      go_wp2_with fail
      rw [HP.out, HE.out]
      exact ⟨rfl, rfl⟩

set_option maxHeartbeats 400000 in
theorem rone_any (p : Int) (w : World) (hp : I64 p) :
    Calls Tryz.prog 76 #[.int .i64 p] w fun r w' => ∃ v, r = .returned v ∧ OwnR w' w.heap.size v [(p, p)] ∧ Below w.heap.size w w' := by
  have ho := OwnR.lit w w.heap.size [(p, p)] #[.int .i64 p, .int .i64 p] rfl (Nat.le_refl _) (by simp) (by simp; exact hp) 1 rfl
  have hb : Below w.heap.size w (w.alloc (.cells #[.int .i64 p, .int .i64 p] 51)) := vb_a (Below.refl _ _) _
  have HO := hid_intro ho
  have HB := hid_intro hb
  clear ho hb
  go_enter Tryz.func76, Tryz.ntmps76
  go_wp2_with fail
  go_ret
  exact ⟨_, rfl, HO.out, HB.out⟩

set_option maxHeartbeats 400000 in
theorem rset_any (r : List (Int × Int)) (v : Value) (w : World) (X : Nat → Prop) (hR : RI w X r v) :
    Calls Tryz.prog 72 #[v] w fun e w' => ∃ f, e = .returned (xa f) ∧ XI w' X (.mk 2 r 0 0 false []) f ∧ Below w.heap.size w w' := by
  obtain ⟨ao, cap, hv, _⟩ := hR.shape
  have HR := hid_intro hR
  clear hR
  subst hv
  go_enter Tryz.func72, Tryz.ntmps72
  go_wp2_with fail
  refine bodyPost_ret (v := .agg #[.int .i64 2, .slice ao r.length cap, .int .i64 0, .int .i64 0, .bool false, .slice none 0 0]) (by simp [results, Tryz.results72, go_sem]) rfl ?_
  have hb : Below w.heap.size w (w.alloc (.cells #[.int .i64 2, .slice ao r.length cap, .int .i64 0, .int .i64 0, .bool false, .slice none 0 0] 26)) := vb_a (Below.refl _ _) _
  refine ⟨fun i => [Value.int .i64 2, .slice ao r.length cap, .int .i64 0, .int .i64 0, .bool false, .slice none 0 0].getD i .nilIface, rfl, ?_, ?_⟩
  · refine XI.mk none 0 (fun _ _ => .nilIface) rfl ?_ rfl rfl rfl rfl ⟨Nat.le_refl _, by unfold maxLen; omega⟩ ⟨I64_of (by omega) (by omega), I64_of (by omega) (by omega), I64_of (by omega) (by omega)⟩ (Or.inl rfl) (fun i hi => by simp at hi)
    have := HR.out.kept hb
    first | exact this | exact HR.out.carry (fun b hb hl => ⟨by simp, hb⟩)
  · first | exact hb | (with_reducible repeat (first | exact Below.refl _ _ | refine vb_a ?_ _ | refine vb_s ?_ (Nat.le_refl _) _))

set_option maxHeartbeats 1600000 in
theorem rkinds_any (c : Int) (w : World) (hc : c = 100 ∨ c = 119 ∨ c = 115) :
    Calls Tryz.prog 94 #[.int .i64 c] w fun r w' => ∃ v, r = .returned v ∧ OwnR w' w.heap.size v (if c = 100 then digits else if c = 119 then wordLetters else spacesL) ∧ Below w.heap.size w w' := by
  rcases hc with rfl | rfl | rfl
  · have HO := hid_intro (OwnR.lit w w.heap.size digits #[.int .i64 48, .int .i64 57] rfl (Nat.le_refl _) (by decide) (by simp [digits, I64]) 1 rfl)
    go_enter Tryz.func94, Tryz.ntmps94
    go_wp2_with fail
    go_ret
    exact ⟨_, rfl, HO.out, vb_a (Below.refl _ _) _⟩
  · have HO := hid_intro (OwnR.lit w w.heap.size wordLetters #[.int .i64 48, .int .i64 57, .int .i64 65, .int .i64 90, .int .i64 95, .int .i64 95, .int .i64 97, .int .i64 122] rfl (Nat.le_refl _) (by decide) (by simp [wordLetters, I64]) 4 rfl)
    go_enter Tryz.func94, Tryz.ntmps94
    go_wp2_with fail
    go_ret
    exact ⟨_, rfl, HO.out, vb_a (Below.refl _ _) _⟩
  · have HO := hid_intro (OwnR.lit w w.heap.size spacesL #[.int .i64 9, .int .i64 13, .int .i64 32, .int .i64 32, .int .i64 160, .int .i64 160, .int .i64 5760, .int .i64 5760, .int .i64 8192, .int .i64 8202, .int .i64 8232, .int .i64 8233, .int .i64 8239, .int .i64 8239, .int .i64 8287, .int .i64 8287, .int .i64 12288, .int .i64 12288, .int .i64 65279, .int .i64 65279] rfl (Nat.le_refl _) (by decide) (by simp [spacesL, I64]) 10 rfl)
    go_enter Tryz.func94, Tryz.ntmps94
    go_wp2_with fail
    go_ret
    exact ⟨_, rfl, HO.out, vb_a (Below.refl _ _) _⟩

set_option maxHeartbeats 400000 in
theorem rpair_no (h l : Int) (w : World) (hb : h < 55296 ∨ 56319 < h ∨ l < 56320 ∨ 57343 < l) :
    Calls Tryz.prog 113 #[.int .i64 h, .int .i64 l] w fun e w' => e = .returned (.tuple #[.int .i64 0, .int .i64 11]) ∧ w = w' := by
  by_cases h1 : h < 55296
  · go_enter Tryz.func113, Tryz.ntmps113
    go_wp2
    go_ret2
    exact ⟨rfl, rfl⟩
  · by_cases h2 : 56319 < h
    · go_enter Tryz.func113, Tryz.ntmps113
      go_wp2
      go_ret2
      exact ⟨rfl, rfl⟩
    · by_cases h3 : l < 56320
      · go_enter Tryz.func113, Tryz.ntmps113
        go_wp2
        go_ret2
        exact ⟨rfl, rfl⟩
      · have h4 : 57343 < l := by omega
        go_enter Tryz.func113, Tryz.ntmps113
        go_wp2
        go_ret2
        exact ⟨rfl, rfl⟩
set_option maxHeartbeats 400000 in
theorem rpair_yes (h l : Int) (w : World) (h1 : 55296 ≤ h) (h2 : h ≤ 56319) (h3 : 56320 ≤ l) (h4 : l ≤ 57343) :
    Calls Tryz.prog 113 #[.int .i64 h, .int .i64 l] w fun e w' => e = .returned (.tuple #[.int .i64 (65536 + (h - 55296) * 1024 + (l - 56320)), .int .i64 0]) ∧ w = w' := by
  go_enter Tryz.func113, Tryz.ntmps113
  go_wp2
  go_ret2
  exact ⟨ret2_int rfl rfl, rfl⟩
end Go.Proofs.YthbbkcdlcpbepaaGreatDoor

namespace Go.Proofs.YthbbkcdlcpbepaaGreatDoor
open Go.RowKit
attribute [local go_sem] setCell_drewN alloc_drewN

theorem w64 {x : Int} (h0 : -9223372036854775808 ≤ x) (h1 : x ≤ 9223372036854775807) : wrap64 x = x := by unfold wrap64; omega
theorem drop_at {S : List Int} {a : Nat} (h : a < S.length) : S.drop a = pk S a :: S.drop (a + 1) := by
  rw [List.drop_eq_getElem_cons h]
  unfold pk; rw [List.getD_eq_getElem?_getD, List.getElem?_eq_getElem h]; rfl
theorem drop_out {S : List Int} {a : Nat} (h : S.length ≤ a) : S.drop a = [] := List.drop_eq_nil_of_le h
/-- What number has read so far. -/
def NumI (S : List Int) (a k : Nat) (n : Int) : Prop :=
  a ≤ k ∧ ((k = a ∧ n = -1) ∨ (a < k ∧ k ≤ S.length ∧ 0 ≤ n ∧ n ≤ 1000 ∧ isDig (pk S a) = true ∧ countL (S.drop a) = countG n (S.drop k)) ∨ (a < k ∧ k ≤ S.length ∧ n = 1001 ∧ isDig (pk S a) = true ∧ countL (S.drop a) = none))
theorem isDig_lt {S : List Int} {k : Nat} (h : isDig (pk S k) = true) : k < S.length := by
  by_cases hk : k < S.length
  · exact hk
  · rw [pk_out (by omega)] at h; simp [isDig] at h
theorem NumI.bd {S : List Int} {a k : Nat} {n : Int} (h : NumI S a k n) : -1 ≤ n ∧ n ≤ 1001 := by
  rcases h.2 with ⟨_, h⟩ | ⟨_, _, h1, h2, _⟩ | ⟨_, _, h, _, _⟩ <;> omega
theorem NumI.next {S : List Int} {a k : Nat} {n : Int} (h : NumI S a k n) (hd : isDig (pk S k) = true) : NumI S a (k + 1) (min (10 * max n 0 + pk S k - 48) 1001) := by
  have hk := isDig_lt hd
  have hd' := (isDig_iff _).1 hd
  obtain ⟨h0, h⟩ := h
  refine ⟨by omega, ?_⟩
  rcases h with ⟨rfl, rfl⟩ | ⟨h1, h2, h3, h4, h5, h6⟩ | ⟨h1, h2, rfl, h5, h4⟩
  · refine Or.inr (Or.inl ⟨by omega, hk, by omega, by omega, hd, ?_⟩)
    rw [drop_at hk]
    simp only [countL, hd, if_true]
    congr 1; omega
  · rw [drop_at hk] at h6
    simp only [countG, hd, if_true] at h6
    by_cases hov : n * 10 + (pk S k - 48) > 1000
    · rw [if_pos hov] at h6
      exact Or.inr (Or.inr ⟨by omega, hk, by omega, h5, h6⟩)
    · rw [if_neg hov] at h6
      refine Or.inr (Or.inl ⟨by omega, hk, by omega, by omega, h5, ?_⟩)
      rw [h6]; congr 1; omega
  · exact Or.inr (Or.inr ⟨by omega, hk, by omega, h5, h4⟩)
/-- What number answers. -/
def NumQ (S : List Int) (a : Nat) (bad : Bool) (x : Int) (a' : Nat) (b' : Bool) : Prop :=
  -1 ≤ x ∧ x ≤ 1001 ∧ (bad = true → b' = true) ∧ match countL (S.drop a) with
    | some (n, l') => x = n ∧ 0 ≤ n ∧ l' = S.drop a' ∧ a < a' ∧ a' ≤ S.length ∧ b' = bad
    | none => (x = -1 ∧ a' = a ∧ b' = bad ∧ isDig (pk S a) = false) ∨ (b' = true ∧ x = 1001 ∧ isDig (pk S a) = true)
theorem NumI.ends {S : List Int} {a k : Nat} {n : Int} {bad : Bool} (h : NumI S a k n) (hd : isDig (pk S k) = false) : (n ≤ 1000 → NumQ S a bad n k bad) ∧ (1000 < n → NumQ S a bad n k true) := by
  have hb := h.bd
  obtain ⟨h0, h⟩ := h
  rcases h with ⟨rfl, rfl⟩ | ⟨h1, h2, h3, h4, h5, h6⟩ | ⟨h1, h2, rfl, h5, h4⟩
  · refine ⟨fun _ => ⟨by omega, by omega, fun h => h, ?_⟩, fun h => by omega⟩
    have e : countL (S.drop k) = none := by
      by_cases hk : k < S.length
      · rw [drop_at hk]; simp only [countL, hd]; rfl
      · rw [drop_out (by omega)]; rfl
    rw [e]
    exact Or.inl ⟨rfl, rfl, rfl, hd⟩
  · refine ⟨fun _ => ⟨by omega, by omega, fun h => h, ?_⟩, fun h => by omega⟩
    have e : countG n (S.drop k) = some (n, S.drop k) := by
      by_cases hk : k < S.length
      · rw [drop_at hk]; simp only [countG, hd]; rfl
      · rw [drop_out (by omega)]; rfl
    rw [h6, e]
    exact ⟨rfl, h3, rfl, h1, h2, rfl⟩
  · refine ⟨fun h => by omega, fun _ => ⟨by omega, by omega, fun _ => rfl, ?_⟩⟩
    rw [h4]
    exact Or.inr ⟨rfl, rfl, h5⟩

set_option maxRecDepth 100000 in
set_option maxHeartbeats 3200000 in
theorem rnumber_any (w : World) (pb a : Nat) (S : List Int) (g : Int) (bad : Bool) (h : RP w pb S a g bad) :
    Calls Tryz.prog 70 #[.pointer (some ⟨pb, 0, none⟩)] w fun r w' => ∃ x a' b', r = .returned (.int .i64 x) ∧ But (· = pb) w w' ∧ RP w' pb S a' g b' ∧ NumQ S a bad x a' b' := by
  obtain ⟨P, hP⟩ : ∃ P : Ending → World → Prop, P = fun r w' => ∃ x a' b', r = .returned (.int .i64 x) ∧ But (· = pb) w w' ∧ RP w' pb S a' g b' ∧ NumQ S a bad x a' b' := ⟨_, rfl⟩
  rw [← hP]
  have HP := hid_intro hP
  have H := hid_intro h
  have HLE := hid_intro h.len
  clear hP h
  go_enter Tryz.func70, Tryz.ntmps70
  go_wp2_with fail
  go_loopg [3] (S.length + 2 - a) (fun m s3 wr => ∃ (k : Nat) (n : Int), m = S.length + 2 - k ∧ s3 = .int .i64 n ∧ Hid (NumI S a k n ∧ But (· = pb) w wr ∧ RP wr pb S k g bad))
  case atStart => exact ⟨a, -1, rfl, rfl, ⟨Nat.le_refl _, Or.inl ⟨rfl, rfl⟩⟩, But.refl _ _, H.out⟩
  case round =>
    obtain ⟨k, n, rfl, rfl, HI⟩ := hrel
    have hpk := fun w' (h : RP w' pb S k g bad) => rpeek_any w' pb k S g bad h
    have hbd := HI.out.1.bd
    cases hd : isDig (pk S k)
    · have HE := hid_intro (HI.out.1.ends (bad := bad) hd)
      have hdd : ¬ (48 ≤ pk S k ∧ pk S k ≤ 57) := fun h => by rw [(isDig_iff _).2 h] at hd; simp at hd
      have HPK := hid_intro hpk
      clear hpk
      generalize pk S k = q at *
      have hcs : q < 48 ∨ 57 < q := by omega
      clear hdd hd
      rcases hcs with hq | hq
      · have hq1 : ¬ 48 ≤ q := by omega
        clear hq
        go_wp2_with fail
        refine (HPK.out wr HI.out.2.2).mono ?_; rintro r w1 ⟨rfl, hb1⟩
        have HR := hid_intro (HI.out.2.2.below hb1)
        have HB := hid_intro (HI.out.2.1.below hb1)
        clear hb1
        by_cases hn : 1000 < n
        · go_wp2_with fail
          refine (rfail_any _ _ _ _ _ _ HR.out).mono ?_; rintro r w2 ⟨rfl, hb2, hr2⟩
          have HR2 := hid_intro hr2
          have HB2 := hid_intro (HB.out.trans hb2)
          clear hb2 hr2
          go_wp2_with fail
          rw [HP.out]
          exact ⟨n, k, true, rfl, HB2.out, HR2.out, HE.out.2 hn⟩
        · go_wp2_with fail
          rw [HP.out]
          exact ⟨n, k, bad, rfl, HB.out, HR.out, HE.out.1 (by omega)⟩
      · have hq1 : 48 ≤ q := by omega
        have hq2 : ¬ q ≤ 57 := by omega
        clear hq
        go_wp2_with fail
        refine (HPK.out wr HI.out.2.2).mono ?_; rintro r w0 ⟨rfl, hb0⟩
        have HR0 := hid_intro (HI.out.2.2.below hb0)
        have HB0 := hid_intro (HI.out.2.1.below hb0)
        clear hb0
        go_wp2_with fail
        refine (HPK.out w0 HR0.out).mono ?_; rintro r w1 ⟨rfl, hb1⟩
        have HR := hid_intro (HR0.out.below hb1)
        have HB := hid_intro (HB0.out.below hb1)
        clear hb1
        by_cases hn : 1000 < n
        · go_wp2_with fail
          refine (rfail_any _ _ _ _ _ _ HR.out).mono ?_; rintro r w2 ⟨rfl, hb2, hr2⟩
          have HR2 := hid_intro hr2
          have HB2 := hid_intro (HB.out.trans hb2)
          clear hb2 hr2
          go_wp2_with fail
          rw [HP.out]
          exact ⟨n, k, true, rfl, HB2.out, HR2.out, HE.out.2 hn⟩
        · go_wp2_with fail
          rw [HP.out]
          exact ⟨n, k, bad, rfl, HB.out, HR.out, HE.out.1 (by omega)⟩
    · have HN := hid_intro (HI.out.1.next hd)
      have HK := hid_intro (isDig_lt hd)
      have hdd := (isDig_iff _).1 hd
      have HPK := hid_intro hpk
      clear hpk hd
      generalize pk S k = q at *
      obtain ⟨hq1, hq2⟩ := hdd
      by_cases hn0 : 0 ≤ n
      · have hw1 : wrap64 (10 * n) = 10 * n := by unfold wrap64; omega
        have hw2 : wrap64 (10 * n + q) = 10 * n + q := by unfold wrap64; omega
        have hw3 : wrap64 (10 * n + q - 48) = 10 * n + q - 48 := by unfold wrap64; omega
        by_cases ho : 10 * n + q - 48 ≤ 1001
        · rw [show min (10 * max n 0 + q - 48) 1001 = 10 * n + q - 48 by omega] at HN
          clear hbd
          go_wp2_with fail
          refine (HPK.out wr HI.out.2.2).mono ?_; rintro r w0 ⟨rfl, hb0⟩
          have HR0 := hid_intro (HI.out.2.2.below hb0)
          have HB0 := hid_intro (HI.out.2.1.below hb0)
          clear hb0
          go_wp2_with fail
          refine (HPK.out w0 HR0.out).mono ?_; rintro r w1 ⟨rfl, hb1⟩
          have HR := hid_intro (HR0.out.below hb1)
          have HB := hid_intro (HB0.out.below hb1)
          clear hb1
          go_wp2_with fail
          refine (HPK.out w1 HR.out).mono ?_; rintro r w2 ⟨rfl, hb2⟩
          have HR2 := hid_intro (HR.out.below hb2)
          have HB2 := hid_intro (HB.out.below hb2)
          clear hb2
          obtain ⟨ao, cap, c0, c1, c2, c3, fr, h1, h2, h3, h4, h5, h6⟩ := HR2.out
          have ff := fr 1
          have hw : IntKind.i64.wrap ((k : Int) + 1) = (k : Int) + 1 := by simp [IntKind.wrap, IntKind.bits, IntKind.signed]; omega
          clear h6 h4 h3 c2 c3 fr h5 h2 h1 c0
          go_wp2_with fail
          go_roundg (S.length + 2 - (k + 1))
          case measure => have := HK.out; omega
          case rel => exact ⟨k + 1, 10 * n + q - 48, rfl, rfl, HN.out, But.setr HB2.out _, HR2.out.at (k + 1) (by have := HK.out; omega) _ (by omega)⟩
        · rw [show min (10 * max n 0 + q - 48) 1001 = 1001 by omega] at HN
          clear hbd
          go_wp2_with fail
          refine (HPK.out wr HI.out.2.2).mono ?_; rintro r w0 ⟨rfl, hb0⟩
          have HR0 := hid_intro (HI.out.2.2.below hb0)
          have HB0 := hid_intro (HI.out.2.1.below hb0)
          clear hb0
          go_wp2_with fail
          refine (HPK.out w0 HR0.out).mono ?_; rintro r w1 ⟨rfl, hb1⟩
          have HR := hid_intro (HR0.out.below hb1)
          have HB := hid_intro (HB0.out.below hb1)
          clear hb1
          go_wp2_with fail
          refine (HPK.out w1 HR.out).mono ?_; rintro r w2 ⟨rfl, hb2⟩
          have HR2 := hid_intro (HR.out.below hb2)
          have HB2 := hid_intro (HB.out.below hb2)
          clear hb2
          obtain ⟨ao, cap, c0, c1, c2, c3, fr, h1, h2, h3, h4, h5, h6⟩ := HR2.out
          have ff := fr 1
          have hw : IntKind.i64.wrap ((k : Int) + 1) = (k : Int) + 1 := by simp [IntKind.wrap, IntKind.bits, IntKind.signed]; omega
          clear h6 h4 h3 c2 c3 fr h5 h2 h1 c0
          go_wp2_with fail
          go_roundg (S.length + 2 - (k + 1))
          case measure => have := HK.out; omega
          case rel => exact ⟨k + 1, 1001, rfl, rfl, HN.out, But.setr HB2.out _, HR2.out.at (k + 1) (by have := HK.out; omega) _ (by omega)⟩
      · obtain rfl : n = -1 := by omega
        rw [show min (10 * max (-1) 0 + q - 48) 1001 = q - 48 by omega] at HN
        have hw3 : wrap64 (q - 48) = q - 48 := by unfold wrap64; omega
        have ho : q - 48 ≤ 1001 := by omega
        clear hbd hn0
        go_wp2_with fail
        refine (HPK.out wr HI.out.2.2).mono ?_; rintro r w0 ⟨rfl, hb0⟩
        have HR0 := hid_intro (HI.out.2.2.below hb0)
        have HB0 := hid_intro (HI.out.2.1.below hb0)
        clear hb0
        go_wp2_with fail
        refine (HPK.out w0 HR0.out).mono ?_; rintro r w1 ⟨rfl, hb1⟩
        have HR := hid_intro (HR0.out.below hb1)
        have HB := hid_intro (HB0.out.below hb1)
        clear hb1
        go_wp2_with fail
        refine (HPK.out w1 HR.out).mono ?_; rintro r w2 ⟨rfl, hb2⟩
        have HR2 := hid_intro (HR.out.below hb2)
        have HB2 := hid_intro (HB.out.below hb2)
        clear hb2
        obtain ⟨ao, cap, c0, c1, c2, c3, fr, h1, h2, h3, h4, h5, h6⟩ := HR2.out
        have ff := fr 1
        have hw : IntKind.i64.wrap ((k : Int) + 1) = (k : Int) + 1 := by simp [IntKind.wrap, IntKind.bits, IntKind.signed]; omega
        clear h6 h4 h3 c2 c3 fr h5 h2 h1 c0
        go_wp2_with fail
        go_roundg (S.length + 2 - (k + 1))
        case measure => have := HK.out; omega
        case rel => exact ⟨k + 1, q - 48, rfl, rfl, HN.out, But.setr HB2.out _, HR2.out.at (k + 1) (by have := HK.out; omega) _ (by omega)⟩
end Go.Proofs.YthbbkcdlcpbepaaGreatDoor
