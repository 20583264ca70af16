/-
  The reader's small steps: ended, peek, next, take, need. No condition.
-/
import Derived.Test.YtppilokmgdpnnaaGreatDoorJoined6
import Derived.Deep.RegionHeld3
namespace Go.Proofs.YtppilokmgdpnnaaGreatDoor
open Go.RowKit
attribute [local go_sem] setCell_drewN alloc_drewN

theorem But.setr {rb o : Nat} {a w : World} (h : But (· = rb) a w) (u : Value) : But (· = rb) a (w.setCell ⟨rb, o, none⟩ u) := h.set (Or.inl rfl) u
/-- What a step that only reads leaves. -/
theorem RD.drew {w : World} {rb : Nat} {l : List Int} {g : Int} (h : RD w rb l g) : RD w.drew rb l g := h.below (vb_d (Below.refl _ _))

set_option maxRecDepth 100000 in
set_option maxHeartbeats 800000 in
theorem ended_any (w : World) (rb : Nat) (l : List Int) (g : Int) (h : RD w rb l g) :
    Calls Tryz.prog 28 #[.pointer (some ⟨rb, 0, none⟩)] w fun r w' => r = .returned (.bool l.isEmpty) ∧ Below w.heap.size w w' := by
  obtain ⟨ao, n, cap, a, c0, c1, c2, fr, h1, h2, h3, h4, h5, h6⟩ := h
  have hd : ((a : Int) == (n : Int)) = l.isEmpty := by
    cases l with
    | nil => simp at h1 ⊢; omega
    | cons c l => simp at h1 ⊢; omega
  clear h6 h4 h1
  go_enter Tryz.func28, Tryz.ntmps28
  go_wp2_with fail
  go_region
  all_goals
    go_wp2_with fail
    go_ret
    exact ⟨rfl, vb_d (Below.refl _ _)⟩

set_option maxRecDepth 100000 in
set_option maxHeartbeats 800000 in
theorem peek_any (w : World) (rb : Nat) (l : List Int) (g : Int) (i : Nat) (hi : i ≤ 4096) (h : RD w rb l g) :
    Calls Tryz.prog 49 #[.pointer (some ⟨rb, 0, none⟩), .int .i64 (i : Int)] w fun r w' => r = .returned (.int .i64 (pk l i)) ∧ Below w.heap.size w w' := by
  obtain ⟨ao, n, cap, a, c0, c1, c2, fr, h1, h2, h3, h4, h5, h6⟩ := h
  have hw : IntKind.i64.wrap ((a : Int) + (i : Int)) = (a : Int) + (i : Int) := by simp [IntKind.wrap, IntKind.bits, IntKind.signed]; omega
  by_cases hlt : i < l.length
  · rcases h6 with h6 | ⟨pb, po, rfl, hne, h7⟩
    · subst h6; simp at hlt
    have hc := h7 i hlt
    have hI : (a : Int) + (i : Int) < (n : Int) := by omega
    have h0 : (0 : Int) ≤ (a : Int) + (i : Int) := by omega
    have hd : decide ((n : Int) ≤ (a : Int) + (i : Int)) = false := decide_eq_false (by omega)
    generalize pk l i = q at *
    clear h7 h4 h1 hlt h3 hi
    go_enter Tryz.func49, Tryz.ntmps49
    go_wp2_with fail
    go_region
    go_wp2_with fail
    go_region
    all_goals
      go_wp2_with fail
      go_ret
      exact ⟨rfl, vb_d (vb_d (Below.refl _ _))⟩
  · rw [pk_out (by omega)]
    have hd : decide ((n : Int) ≤ (a : Int) + (i : Int)) = true := decide_eq_true (by omega)
    clear h6 h4 h1 hlt h3 hi
    go_enter Tryz.func49, Tryz.ntmps49
    go_wp2_with fail
    go_region
    go_wp2_with fail
    all_goals
      go_ret
      exact ⟨rfl, vb_d (Below.refl _ _)⟩

set_option maxRecDepth 100000 in
set_option maxHeartbeats 800000 in
theorem next_ok (w : World) (rb : Nat) (c : Int) (l : List Int) (g : Int) (h : RD w rb (c :: l) g) :
    Calls Tryz.prog 70 #[.pointer (some ⟨rb, 0, none⟩)] w fun r w' => r = .returned (.int .i64 c) ∧ But (· = rb) w w' ∧ RD w' rb l g := by
  have he := ended_any w rb (c :: l) g h
  go_enter Tryz.func70, Tryz.ntmps70
  go_wp2_with fail
  refine he.mono ?_
  rintro r w1 ⟨rfl, hb1⟩
  have h' := h.below hb1
  have HB := hid_intro hb1
  have HH := hid_intro h'
  obtain ⟨ao, n, cap, a, c0, c1, c2, fr, h1, h2, h3, h4, h5, h6⟩ := h'
  rcases h6 with h6 | ⟨pb, po, rfl, hne, h7⟩
  · simp at h6
  have hne2 : pb ≠ rb := by omega
  have hc := h7 0 (by simp)
  have ff := fr 1
  have hcc : pk (c :: l) 0 = c := rfl
  rw [hcc, Nat.add_zero] at hc
  have hn : (a : Int) + 1 ≤ (n : Int) := by simp at h1; omega
  have hn2 : (n : Int) ≤ 4096 := by omega
  have hw : IntKind.i64.wrap ((a : Int) + 1) = (a : Int) + 1 := by simp [IntKind.wrap, IntKind.bits, IntKind.signed]; omega
  have hw2 : IntKind.i64.wrap (a : Int) = (a : Int) := by simp [IntKind.wrap, IntKind.bits, IntKind.signed]; omega
  have hlt : (a : Int) < (n : Int) := by omega
  have HA := hid_intro c1
  clear h7 h4 h1 h3 h he hcc fr hn2 hb1
  go_wp2_with fail
  go_region
  all_goals
    go_wp2_with fail
    go_ret
    refine ⟨rfl, (But.setr (But.ofBelow HB.out) _).drew, ?_⟩
    exact (HH.out.adv 1 (by simp) a HA.out _ (by omega)).below (vb_d (Below.refl _ _))

set_option maxRecDepth 100000 in
set_option maxHeartbeats 800000 in
theorem next_no (w : World) (rb : Nat) (g : Int) (h : RD w rb [] g) :
    Calls Tryz.prog 70 #[.pointer (some ⟨rb, 0, none⟩)] w fun r w' => r = stopX ∧ But (· = rb) w w' := by
  have he := ended_any w rb [] g h
  clear h
  go_enter Tryz.func70, Tryz.ntmps70
  go_wp2_with fail
  refine he.mono ?_
  rintro r w1 ⟨rfl, hb1⟩
  go_wp2_with fail
  exact ⟨rfl, rfl, But.ofBelow hb1⟩

/-- A text's bytes as numbers. -/
def ints (s : ByteArray) : List Int := s.data.toList.map fun c => ((c.toNat : Nat) : Int)
/-- What is left behind a beginning, if it stands there. -/
def rest (s l : List Int) : List Int := if startsW s l = true then l.drop s.length else l
theorem startsW_iff : ∀ (s l : List Int), startsW s l = true ↔ s.length ≤ l.length ∧ ∀ i, i < s.length → pk l i = pk s i
  | [], l => by simp [startsW]
  | a :: s, [] => by simp [startsW]
  | a :: s, b :: l => by
    simp only [startsW, Bool.and_eq_true, beq_iff_eq, startsW_iff s l, List.length_cons]
    constructor
    · rintro ⟨rfl, h1, h2⟩
      refine ⟨by omega, fun i hi => ?_⟩
      cases i with
      | zero => rfl
      | succ i => exact h2 i (by omega)
    · rintro ⟨h1, h2⟩
      exact ⟨h2 0 (by omega), by omega, fun i hi => h2 (i + 1) (by omega)⟩
theorem ints_len (s : ByteArray) : (ints s).length = s.size := by unfold ints; rw [List.length_map]; rfl
theorem ints_at (s : ByteArray) (i : Nat) (h : i < s.size) : pk (ints s) i = ((s[i]'h).toNat : Int) := by
  unfold pk ints
  have h2 : s.data.toList[i]? = some (s[i]'h) := by rw [List.getElem?_eq_getElem h]; rfl
  rw [List.getD_eq_getElem?_getD, List.getElem?_map, h2]
  rfl
set_option maxRecDepth 100000 in
set_option maxHeartbeats 1600000 in
theorem take_any (w : World) (rb : Nat) (l : List Int) (g : Int) (s : ByteArray) (hs : s.size ≤ 4096) (h : RD w rb l g) :
    Calls Tryz.prog 41 #[.pointer (some ⟨rb, 0, none⟩), .string s] w fun r w' => r = .returned (.bool (startsW (ints s) l)) ∧ But (· = rb) w w' ∧ RD w' rb (rest (ints s) l) g := by
  have hsI : (s.size : Int) ≤ 4096 := by omega
  have HH := hid_intro h
  go_enter Tryz.func41, Tryz.ntmps41
  go_wp2_with fail
  go_loopg [8] s.size (fun m s8 wr => ∃ k : Nat, k ≤ s.size ∧ m = s.size - k ∧ s8 = .int .i64 (k : Int) ∧ Hid (∀ i, i < k → pk l i = pk (ints s) i) ∧ Below w.heap.size w wr)
  case atStart => exact ⟨0, Nat.zero_le _, rfl, rfl, fun i hi => absurd hi (by omega), Below.refl _ _⟩
  case round =>
    obtain ⟨k, hk, rfl, rfl, HP, hb⟩ := hrel
    by_cases hlt : k < s.size
    · have hp := fun w' (hb' : Below wr.heap.size wr w') => peek_any w' rb l g k (by omega) (h.below (vb_t hb hb'))
      have hI : (k : Int) < (s.size : Int) := by omega
      have hch : ∀ hh, ((s[k]'hh).toNat : Int) = pk (ints s) k := fun hh => (ints_at s k hh).symm
      have HB := hid_intro hb
      have hwq : IntKind.i64.wrap (pk (ints s) k) = pk (ints s) k := by
        rw [ints_at s k hlt]
        have := UInt8.toNat_lt (s[k]'hlt)
        simp [IntKind.wrap, IntKind.bits, IntKind.signed]; omega
      have hstart : pk l k ≠ pk (ints s) k → startsW (ints s) l = false := fun hne => by
        rw [Bool.eq_false_iff]
        intro h
        exact hne (((startsW_iff _ _).1 h).2 k (by rw [ints_len]; exact hlt))
      cases he : (pk l k != pk (ints s) k)
      · have HQ : Hid (pk l k = pk (ints s) k) := hid_intro (by simpa using he)
        have HP2 : Hid (∀ i, i < k + 1 → pk l i = pk (ints s) i) := fun i hi => by
          by_cases e : i = k
          · rw [e]; exact HQ.out
          · exact HP.out i (by omega)
        clear HP HQ hstart
        generalize pk (ints s) k = q at *
        generalize pk l k = q2 at *
        clear hb h
        go_wp2_with fail
        go_region_held3 (fun _ => True) (first | exact trivial | fail) (first | (go_at_call 49; refine (hp _ (by with_reducible repeat (first | exact Below.refl _ _ | refine vb_d ?_))).mono ?_; rintro r w2 ⟨rfl, hb2⟩))
        all_goals
          go_wp2_with fail
          go_roundg (s.size - (k + 1))
          case measure => omega
          case rel => exact ⟨k + 1, by omega, rfl, by simp, HP2, vb_t HB.out (vb_t (vb_d (Below.refl _ _)) hb2)⟩
      · have HQ : Hid (startsW (ints s) l = false) := hid_intro (hstart (by simpa using he))
        clear hstart HP
        generalize pk (ints s) k = q at *
        generalize pk l k = q2 at *
        clear hb h
        go_wp2_with fail
        go_region_held3 (fun _ => True) (first | exact trivial | fail) (first | (go_at_call 49; refine (hp _ (by with_reducible repeat (first | exact Below.refl _ _ | refine vb_d ?_))).mono ?_; rintro r w2 ⟨rfl, hb2⟩))
        all_goals
          go_wp2_with fail
          go_ret
          have hbb := vb_t HB.out (vb_t (vb_d (Below.refl _ _)) hb2)
          exact ⟨by rw [HQ.out]; rfl, But.ofBelow hbb, by unfold rest; rw [HQ.out]; exact HH.out.below hbb⟩
    · obtain rfl : k = s.size := by omega
      have hI : ¬ ((s.size : Int) < (s.size : Int)) := by omega
      have hR := h.below hb
      have HR := hid_intro hR
      have HB := hid_intro hb
      obtain ⟨ao, n, cap, a, c0, c1, c2, fr, h1, h2, h3, h4, h5, h6⟩ := hR
      have HA := hid_intro c1
      have ff := fr 1
      have HQ : Hid (startsW (ints s) l = true) := by
        refine hid_intro ((startsW_iff _ _).2 ⟨?_, fun i hi => HP.out i (by rw [ints_len] at hi; exact hi)⟩)
        rw [ints_len]
        by_cases hz : s.size ≤ l.length
        · exact hz
        · have := HP.out l.length (by omega)
          rw [pk_out (Nat.le_refl _), ints_at s l.length (by omega)] at this
          omega
      have hw : IntKind.i64.wrap ((a : Int) + (s.size : Int)) = (a : Int) + (s.size : Int) := by simp [IntKind.wrap, IntKind.bits, IntKind.signed]; omega
      clear h6 h4 h1 h3 h hb HP fr hI hs hsI h5
      go_wp2_with fail
      go_ret
      refine ⟨by rw [HQ.out]; rfl, But.setr (But.ofBelow HB.out) _, ?_⟩
      unfold rest
      rw [HQ.out, if_pos rfl, ints_len]
      exact HR.out.adv s.size (by have := (startsW_iff _ _).1 HQ.out; rw [ints_len] at this; exact this.1) a HA.out _ rfl

set_option maxRecDepth 100000 in
set_option maxHeartbeats 800000 in
theorem need_ok (w : World) (rb : Nat) (l : List Int) (g : Int) (s : ByteArray) (hs : s.size ≤ 4096) (h : RD w rb l g) (he : startsW (ints s) l = true) :
    Calls Tryz.prog 96 #[.pointer (some ⟨rb, 0, none⟩), .string s] w fun r w' => r = .returned (.tuple #[]) ∧ But (· = rb) w w' ∧ RD w' rb (l.drop s.size) g := by
  have ht := take_any w rb l g s hs h
  have hr : rest (ints s) l = l.drop s.size := by unfold rest; rw [he, if_pos rfl, ints_len]
  rw [he, hr] at ht
  clear he hr h hs
  go_enter Tryz.func96, Tryz.ntmps96
  go_wp2_with fail
  refine ht.mono ?_
  rintro r w1 ⟨rfl, hb1, hr1⟩
  go_wp2_with fail
  go_end0
  exact ⟨rfl, hb1, hr1⟩
set_option maxRecDepth 100000 in
set_option maxHeartbeats 800000 in
theorem need_no (w : World) (rb : Nat) (l : List Int) (g : Int) (s : ByteArray) (hs : s.size ≤ 4096) (h : RD w rb l g) (he : startsW (ints s) l = false) :
    Calls Tryz.prog 96 #[.pointer (some ⟨rb, 0, none⟩), .string s] w fun r w' => r = stopX ∧ But (· = rb) w w' := by
  have ht := take_any w rb l g s hs h
  rw [he] at ht
  clear he h hs
  go_enter Tryz.func96, Tryz.ntmps96
  go_wp2_with fail
  refine ht.mono ?_
  rintro r w1 ⟨rfl, hb1, hr1⟩
  go_wp2_with fail
  exact ⟨rfl, rfl, hb1⟩
end Go.Proofs.YtppilokmgdpnnaaGreatDoor
