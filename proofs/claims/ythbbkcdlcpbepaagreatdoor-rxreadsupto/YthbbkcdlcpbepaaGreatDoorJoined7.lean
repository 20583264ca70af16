/-
  The reader's small steps: ended, peek, next, take, need. No condition.
  The reference's reader as it lies in memory: all code points, the place, how many groups are open, whether it failed; peek, take, fail. No condition.
-/
import Derived.Test.YthbbkcdlcpbepaaGreatDoorJoined6
import Derived.Deep.RegionHeld3
namespace Go.Proofs.YthbbkcdlcpbepaaGreatDoor
open Go.RowKit
attribute [local go_sem] setCell_drewN alloc_drewN

theorem But.setr {rb o : Nat} {a w : World} (h : But (· = rb) a w) (u : Value) : But (· = rb) a (w.setCell ⟨rb, o, none⟩ u) := h.set (Or.inl rfl) u
/-- What a step that only reads leaves. -/
theorem RD.drew {w : World} {rb : Nat} {l : List Int} {g : Int} (h : RD w rb l g) : RD w.drew rb l g := h.below (vb_d (Below.refl _ _))

set_option maxRecDepth 100000 in
set_option maxHeartbeats 800000 in
theorem ended_any (w : World) (rb : Nat) (l : List Int) (g : Int) (h : RD w rb l g) :
    Calls Tryz.prog 26 #[.pointer (some ⟨rb, 0, none⟩)] w fun r w' => r = .returned (.bool l.isEmpty) ∧ Below w.heap.size w w' := by
  obtain ⟨ao, n, cap, a, c0, c1, c2, fr, h1, h2, h3, h4, h5, h6⟩ := h
  have hd : ((a : Int) == (n : Int)) = l.isEmpty := by
    cases l with
    | nil => simp at h1 ⊢; omega
    | cons c l => simp at h1 ⊢; omega
  clear h6 h4 h1
  go_enter Tryz.func26, Tryz.ntmps26
  go_wp2_with fail
  go_region
  all_goals
    go_wp2_with fail
    go_ret
    exact ⟨rfl, vb_d (Below.refl _ _)⟩

set_option maxRecDepth 100000 in
set_option maxHeartbeats 800000 in
theorem peek_any (w : World) (rb : Nat) (l : List Int) (g : Int) (i : Nat) (hi : i ≤ 4096) (h : RD w rb l g) :
    Calls Tryz.prog 57 #[.pointer (some ⟨rb, 0, none⟩), .int .i64 (i : Int)] w fun r w' => r = .returned (.int .i64 (pk l i)) ∧ Below w.heap.size w w' := by
  obtain ⟨ao, n, cap, a, c0, c1, c2, fr, h1, h2, h3, h4, h5, h6⟩ := h
  have hw : IntKind.i64.wrap ((a : Int) + (i : Int)) = (a : Int) + (i : Int) := by simp [IntKind.wrap, IntKind.bits, IntKind.signed]; omega
  by_cases hlt : i < l.length
  · rcases h6 with h6 | ⟨pb, po, rfl, hne, h7⟩
    · subst h6; simp at hlt
    have hc := h7 i hlt
    have hI : (a : Int) + (i : Int) < (n : Int) := by omega
    have h0 : (0 : Int) ≤ (a : Int) + (i : Int) := by omega
    have hd : decide ((n : Int) ≤ (a : Int) + (i : Int)) = false := decide_eq_false (by omega)
    generalize pk l i = q at *
    clear h7 h4 h1 hlt h3 hi
    go_enter Tryz.func57, Tryz.ntmps57
    go_wp2_with fail
    go_region
    go_wp2_with fail
    go_region
    all_goals
      go_wp2_with fail
      go_ret
      exact ⟨rfl, vb_d (vb_d (Below.refl _ _))⟩
  · rw [pk_out (by omega)]
    have hd : decide ((n : Int) ≤ (a : Int) + (i : Int)) = true := decide_eq_true (by omega)
    clear h6 h4 h1 hlt h3 hi
    go_enter Tryz.func57, Tryz.ntmps57
    go_wp2_with fail
    go_region
    go_wp2_with fail
    all_goals
      go_ret
      exact ⟨rfl, vb_d (Below.refl _ _)⟩

set_option maxRecDepth 100000 in
set_option maxHeartbeats 800000 in
theorem next_ok (w : World) (rb : Nat) (c : Int) (l : List Int) (g : Int) (h : RD w rb (c :: l) g) :
    Calls Tryz.prog 86 #[.pointer (some ⟨rb, 0, none⟩)] w fun r w' => r = .returned (.int .i64 c) ∧ But (· = rb) w w' ∧ RD w' rb l g := by
  have he := ended_any w rb (c :: l) g h
  go_enter Tryz.func86, Tryz.ntmps86
  go_wp2_with fail
  refine he.mono ?_
  rintro r w1 ⟨rfl, hb1⟩
  have h' := h.below hb1
  have HB := hid_intro hb1
  have HH := hid_intro h'
  obtain ⟨ao, n, cap, a, c0, c1, c2, fr, h1, h2, h3, h4, h5, h6⟩ := h'
  rcases h6 with h6 | ⟨pb, po, rfl, hne, h7⟩
  · simp at h6
  have hne2 : pb ≠ rb := by omega
  have hc := h7 0 (by simp)
  have ff := fr 1
  have hcc : pk (c :: l) 0 = c := rfl
  rw [hcc, Nat.add_zero] at hc
  have hn : (a : Int) + 1 ≤ (n : Int) := by simp at h1; omega
  have hn2 : (n : Int) ≤ 4096 := by omega
  have hw : IntKind.i64.wrap ((a : Int) + 1) = (a : Int) + 1 := by simp [IntKind.wrap, IntKind.bits, IntKind.signed]; omega
  have hw2 : IntKind.i64.wrap (a : Int) = (a : Int) := by simp [IntKind.wrap, IntKind.bits, IntKind.signed]; omega
  have hlt : (a : Int) < (n : Int) := by omega
  have HA := hid_intro c1
  clear h7 h4 h1 h3 h he hcc fr hn2 hb1
  go_wp2_with fail
  go_region
  all_goals
    go_wp2_with fail
    go_ret
    refine ⟨rfl, (But.setr (But.ofBelow HB.out) _).drew, ?_⟩
    exact (HH.out.adv 1 (by simp) a HA.out _ (by omega)).below (vb_d (Below.refl _ _))

set_option maxRecDepth 100000 in
set_option maxHeartbeats 800000 in
theorem next_no (w : World) (rb : Nat) (g : Int) (h : RD w rb [] g) :
    Calls Tryz.prog 86 #[.pointer (some ⟨rb, 0, none⟩)] w fun r w' => r = stopX ∧ But (· = rb) w w' := by
  have he := ended_any w rb [] g h
  clear h
  go_enter Tryz.func86, Tryz.ntmps86
  go_wp2_with fail
  refine he.mono ?_
  rintro r w1 ⟨rfl, hb1⟩
  go_wp2_with fail
  exact ⟨rfl, rfl, But.ofBelow hb1⟩

/-- A text's bytes as numbers. -/
def ints (s : ByteArray) : List Int := s.data.toList.map fun c => ((c.toNat : Nat) : Int)
/-- What is left behind a beginning, if it stands there. -/
def rest (s l : List Int) : List Int := if startsW s l = true then l.drop s.length else l
theorem startsW_iff : ∀ (s l : List Int), startsW s l = true ↔ s.length ≤ l.length ∧ ∀ i, i < s.length → pk l i = pk s i
  | [], l => by simp [startsW]
  | a :: s, [] => by simp [startsW]
  | a :: s, b :: l => by
    simp only [startsW, Bool.and_eq_true, beq_iff_eq, startsW_iff s l, List.length_cons]
    constructor
    · rintro ⟨rfl, h1, h2⟩
      refine ⟨by omega, fun i hi => ?_⟩
      cases i with
      | zero => rfl
      | succ i => exact h2 i (by omega)
    · rintro ⟨h1, h2⟩
      exact ⟨h2 0 (by omega), by omega, fun i hi => h2 (i + 1) (by omega)⟩
theorem ints_len (s : ByteArray) : (ints s).length = s.size := by unfold ints; rw [List.length_map]; rfl
theorem ints_at (s : ByteArray) (i : Nat) (h : i < s.size) : pk (ints s) i = ((s[i]'h).toNat : Int) := by
  unfold pk ints
  have h2 : s.data.toList[i]? = some (s[i]'h) := by rw [List.getElem?_eq_getElem h]; rfl
  rw [List.getD_eq_getElem?_getD, List.getElem?_map, h2]
  rfl
set_option maxRecDepth 100000 in
set_option maxHeartbeats 1600000 in
theorem take_any (w : World) (rb : Nat) (l : List Int) (g : Int) (s : ByteArray) (hs : s.size ≤ 4096) (h : RD w rb l g) :
    Calls Tryz.prog 39 #[.pointer (some ⟨rb, 0, none⟩), .string s] w fun r w' => r = .returned (.bool (startsW (ints s) l)) ∧ But (· = rb) w w' ∧ RD w' rb (rest (ints s) l) g := by
  have hsI : (s.size : Int) ≤ 4096 := by omega
  have HH := hid_intro h
  go_enter Tryz.func39, Tryz.ntmps39
  go_wp2_with fail
  go_loopg [8] s.size (fun m s8 wr => ∃ k : Nat, k ≤ s.size ∧ m = s.size - k ∧ s8 = .int .i64 (k : Int) ∧ Hid (∀ i, i < k → pk l i = pk (ints s) i) ∧ Below w.heap.size w wr)
  case atStart => exact ⟨0, Nat.zero_le _, rfl, rfl, fun i hi => absurd hi (by omega), Below.refl _ _⟩
  case round =>
    obtain ⟨k, hk, rfl, rfl, HP, hb⟩ := hrel
    by_cases hlt : k < s.size
    · have hp := fun w' (hb' : Below wr.heap.size wr w') => peek_any w' rb l g k (by omega) (h.below (vb_t hb hb'))
      have hI : (k : Int) < (s.size : Int) := by omega
      have hch : ∀ hh, ((s[k]'hh).toNat : Int) = pk (ints s) k := fun hh => (ints_at s k hh).symm
      have HB := hid_intro hb
      have hwq : IntKind.i64.wrap (pk (ints s) k) = pk (ints s) k := by
        rw [ints_at s k hlt]
        have := UInt8.toNat_lt (s[k]'hlt)
        simp [IntKind.wrap, IntKind.bits, IntKind.signed]; omega
      have hstart : pk l k ≠ pk (ints s) k → startsW (ints s) l = false := fun hne => by
        rw [Bool.eq_false_iff]
        intro h
        exact hne (((startsW_iff _ _).1 h).2 k (by rw [ints_len]; exact hlt))
      cases he : (pk l k != pk (ints s) k)
      · have HQ : Hid (pk l k = pk (ints s) k) := hid_intro (by simpa using he)
        have HP2 : Hid (∀ i, i < k + 1 → pk l i = pk (ints s) i) := fun i hi => by
          by_cases e : i = k
          · rw [e]; exact HQ.out
          · exact HP.out i (by omega)
        clear HP HQ hstart
        generalize pk (ints s) k = q at *
        generalize pk l k = q2 at *
        clear hb h
        go_wp2_with fail
        go_region_held3 (fun _ => True) (first | exact trivial | fail) (first | (go_at_call 57; refine (hp _ (by with_reducible repeat (first | exact Below.refl _ _ | refine vb_d ?_))).mono ?_; rintro r w2 ⟨rfl, hb2⟩))
        all_goals
          go_wp2_with fail
          go_roundg (s.size - (k + 1))
          case measure => omega
          case rel => exact ⟨k + 1, by omega, rfl, by simp, HP2, vb_t HB.out (vb_t (vb_d (Below.refl _ _)) hb2)⟩
      · have HQ : Hid (startsW (ints s) l = false) := hid_intro (hstart (by simpa using he))
        clear hstart HP
        generalize pk (ints s) k = q at *
        generalize pk l k = q2 at *
        clear hb h
        go_wp2_with fail
        go_region_held3 (fun _ => True) (first | exact trivial | fail) (first | (go_at_call 57; refine (hp _ (by with_reducible repeat (first | exact Below.refl _ _ | refine vb_d ?_))).mono ?_; rintro r w2 ⟨rfl, hb2⟩))
        all_goals
          go_wp2_with fail
          go_ret
          have hbb := vb_t HB.out (vb_t (vb_d (Below.refl _ _)) hb2)
          exact ⟨by rw [HQ.out]; rfl, But.ofBelow hbb, by unfold rest; rw [HQ.out]; exact HH.out.below hbb⟩
    · obtain rfl : k = s.size := by omega
      have hI : ¬ ((s.size : Int) < (s.size : Int)) := by omega
      have hR := h.below hb
      have HR := hid_intro hR
      have HB := hid_intro hb
      obtain ⟨ao, n, cap, a, c0, c1, c2, fr, h1, h2, h3, h4, h5, h6⟩ := hR
      have HA := hid_intro c1
      have ff := fr 1
      have HQ : Hid (startsW (ints s) l = true) := by
        refine hid_intro ((startsW_iff _ _).2 ⟨?_, fun i hi => HP.out i (by rw [ints_len] at hi; exact hi)⟩)
        rw [ints_len]
        by_cases hz : s.size ≤ l.length
        · exact hz
        · have := HP.out l.length (by omega)
          rw [pk_out (Nat.le_refl _), ints_at s l.length (by omega)] at this
          omega
      have hw : IntKind.i64.wrap ((a : Int) + (s.size : Int)) = (a : Int) + (s.size : Int) := by simp [IntKind.wrap, IntKind.bits, IntKind.signed]; omega
      clear h6 h4 h1 h3 h hb HP fr hI hs hsI h5
      go_wp2_with fail
      go_ret
      refine ⟨by rw [HQ.out]; rfl, But.setr (But.ofBelow HB.out) _, ?_⟩
      unfold rest
      rw [HQ.out, if_pos rfl, ints_len]
      exact HR.out.adv s.size (by have := (startsW_iff _ _).1 HQ.out; rw [ints_len] at this; exact this.1) a HA.out _ rfl

set_option maxRecDepth 100000 in
set_option maxHeartbeats 800000 in
theorem need_ok (w : World) (rb : Nat) (l : List Int) (g : Int) (s : ByteArray) (hs : s.size ≤ 4096) (h : RD w rb l g) (he : startsW (ints s) l = true) :
    Calls Tryz.prog 106 #[.pointer (some ⟨rb, 0, none⟩), .string s] w fun r w' => r = .returned (.tuple #[]) ∧ But (· = rb) w w' ∧ RD w' rb (l.drop s.size) g := by
  have ht := take_any w rb l g s hs h
  have hr : rest (ints s) l = l.drop s.size := by unfold rest; rw [he, if_pos rfl, ints_len]
  rw [he, hr] at ht
  clear he hr h hs
  go_enter Tryz.func106, Tryz.ntmps106
  go_wp2_with fail
  refine ht.mono ?_
  rintro r w1 ⟨rfl, hb1, hr1⟩
  go_wp2_with fail
  go_end0
  exact ⟨rfl, hb1, hr1⟩
set_option maxRecDepth 100000 in
set_option maxHeartbeats 800000 in
theorem need_no (w : World) (rb : Nat) (l : List Int) (g : Int) (s : ByteArray) (hs : s.size ≤ 4096) (h : RD w rb l g) (he : startsW (ints s) l = false) :
    Calls Tryz.prog 106 #[.pointer (some ⟨rb, 0, none⟩), .string s] w fun r w' => r = stopX ∧ But (· = rb) w w' := by
  have ht := take_any w rb l g s hs h
  rw [he] at ht
  clear he h hs
  go_enter Tryz.func106, Tryz.ntmps106
  go_wp2_with fail
  refine ht.mono ?_
  rintro r w1 ⟨rfl, hb1, hr1⟩
  go_wp2_with fail
  exact ⟨rfl, rfl, hb1⟩
end Go.Proofs.YthbbkcdlcpbepaaGreatDoor

namespace Go.Proofs.YthbbkcdlcpbepaaGreatDoor
open Go.RowKit
attribute [local go_sem] setCell_drewN alloc_drewN

def RP (w : World) (pb : Nat) (S : List Int) (a : Nat) (g : Int) (bad : Bool) : Prop :=
  ∃ (ao : Option Addr) (cap : Nat), w.cell? ⟨pb, 0, none⟩ = some (.slice ao S.length cap) ∧ w.cell? ⟨pb, 1, none⟩ = some (.int .i64 (a : Int)) ∧ w.cell? ⟨pb, 2, none⟩ = some (.int .i64 g) ∧ w.cell? ⟨pb, 3, none⟩ = some (.bool bad) ∧
    (∀ o, w.frozen? ⟨pb, o, none⟩ = false) ∧ S.length ≤ cap ∧ S.length ≤ 4096 ∧ a ≤ S.length + 1 ∧ (∀ c ∈ S, 0 ≤ c ∧ c ≤ 1114111) ∧ (0 ≤ g ∧ g ≤ 201) ∧
    (S = [] ∨ ∃ qb qo, ao = some ⟨qb, qo, none⟩ ∧ qb < pb ∧ ∀ i, i < S.length → w.cell? ⟨qb, qo + i, none⟩ = some (.int .i64 (pk S i)))
theorem RP.lt {w : World} {pb a : Nat} {S : List Int} {g : Int} {bad : Bool} (h : RP w pb S a g bad) : pb < w.heap.size := by
  obtain ⟨_, _, c0, _⟩ := h
  exact World.block_lt_of_cell? w _ c0
theorem RP.len {w : World} {pb a : Nat} {S : List Int} {g : Int} {bad : Bool} (h : RP w pb S a g bad) : S.length ≤ 4096 ∧ a ≤ S.length + 1 := by
  obtain ⟨_, _, _, _, _, _, _, _, h1, h2, _⟩ := h
  exact ⟨h1, h2⟩
theorem RP.mem {w : World} {pb a : Nat} {S : List Int} {g : Int} {bad : Bool} (h : RP w pb S a g bad) : ∀ c ∈ S, 0 ≤ c ∧ c ≤ 1114111 := by
  obtain ⟨_, _, _, _, _, _, _, _, _, _, h1, _⟩ := h
  exact h1
theorem RP.grps {w : World} {pb a : Nat} {S : List Int} {g : Int} {bad : Bool} (h : RP w pb S a g bad) : 0 ≤ g ∧ g ≤ 201 := by
  obtain ⟨_, _, _, _, _, _, _, _, _, _, _, h1, _⟩ := h
  exact h1
theorem RP.pkr {w : World} {pb a : Nat} {S : List Int} {g : Int} {bad : Bool} (h : RP w pb S a g bad) (i : Nat) : -1 ≤ pk S i ∧ pk S i ≤ 1114111 := by
  by_cases hi : i < S.length
  · have := h.mem _ (pk_mem hi); omega
  · rw [pk_out (by omega)]; omega
theorem RP.carry {w w' : World} {pb a : Nat} {S : List Int} {g : Int} {bad : Bool} (h : RP w pb S a g bad) (hk : ∀ k, k ≤ pb → w'.heap[k]? = w.heap[k]?) : RP w' pb S a g bad := by
  obtain ⟨ao, cap, c0, c1, c2, c3, fr, h1, h2, h3, h4, h5, h6⟩ := h
  have key : ∀ p : Addr, p.block ≤ pb → w'.cell? p = w.cell? p := fun p hp => World.cell?_of_block (w := w) (w' := w') (hk _ hp)
  refine ⟨ao, cap, (key _ (Nat.le_refl _)).trans c0, (key _ (Nat.le_refl _)).trans c1, (key _ (Nat.le_refl _)).trans c2, (key _ (Nat.le_refl _)).trans c3, fun o => ?_, h1, h2, h3, h4, h5, ?_⟩
  · have := fr o
    unfold World.frozen? at this ⊢
    simp only [hk pb (Nat.le_refl _)]
    exact this
  · rcases h6 with h6 | ⟨qb, qo, e, hne, h7⟩
    · exact Or.inl h6
    · exact Or.inr ⟨qb, qo, e, hne, fun i hi => (key ⟨qb, qo + i, none⟩ (Nat.le_of_lt hne)).trans (h7 i hi)⟩
theorem RP.below {w w' : World} {pb a : Nat} {S : List Int} {g : Int} {bad : Bool} (h : RP w pb S a g bad) (hb : Below w.heap.size w w') : RP w' pb S a g bad :=
  h.carry fun k hk => hb.block k (Nat.lt_of_le_of_lt hk h.lt)
theorem RP.drew {w : World} {pb a : Nat} {S : List Int} {g : Int} {bad : Bool} (h : RP w pb S a g bad) : RP w.drew pb S a g bad := h.below (vb_d (Below.refl _ _))
theorem RP.away {w : World} {pb a : Nat} {S : List Int} {g : Int} {bad : Bool} (h : RP w pb S a g bad) {b o : Nat} (hb : pb < b) (u : Value) : RP (w.setCell ⟨b, o, none⟩ u) pb S a g bad :=
  h.carry fun k hk => Below.heap_setCell _ _ _ _ (by intro e; simp only at e; omega)
theorem RP.grown {w w' : World} {pb a : Nat} {S : List Int} {g : Int} {bad : Bool} {o : Option Nat} (h : RP w pb S a g bad) (hg : w.grownBy w' o) (ho : ∀ b, o = some b → pb < b) : RP w' pb S a g bad :=
  h.carry fun k hk => hg.block k (Nat.lt_of_le_of_lt hk h.lt) (fun e => by have := ho k e.symm; omega)
/-- The place turned. -/
theorem RP.at {w : World} {pb a : Nat} {S : List Int} {g : Int} {bad : Bool} (h : RP w pb S a g bad) (a' : Nat) (ha : a' ≤ S.length + 1) (x : Int) (hx : x = (a' : Int)) : RP (w.setCell ⟨pb, 1, none⟩ (.int .i64 x)) pb S a' g bad := by
  subst hx
  obtain ⟨ao, cap, c0, c1, c2, c3, fr, h1, h2, h3, h4, h5, h6⟩ := h
  have oth : ∀ p : Addr, (⟨pb, 1, none⟩ : Addr) ≠ p → ∀ v, (w.setCell ⟨pb, 1, none⟩ v).cell? p = w.cell? p := fun p hp v => World.cell?_setCell_other _ _ _ _ hp
  refine ⟨ao, cap, (oth _ (by simp) _).trans c0, World.cell?_setCell_same _ _ _ c1, (oth _ (by simp) _).trans c2, (oth _ (by simp) _).trans c3, fun o => by rw [World.frozen?_setCell]; exact fr o, h1, h2, ha, h4, h5, ?_⟩
  rcases h6 with h6 | ⟨qb, qo, e, hne, h7⟩
  · exact Or.inl h6
  · exact Or.inr ⟨qb, qo, e, hne, fun i hi => (oth _ (by intro he; injection he with he1; omega) _).trans (h7 i hi)⟩
/-- The count of groups turned. -/
theorem RP.grp {w : World} {pb a : Nat} {S : List Int} {g : Int} {bad : Bool} (h : RP w pb S a g bad) (x : Int) (hx : 0 ≤ x ∧ x ≤ 201) : RP (w.setCell ⟨pb, 2, none⟩ (.int .i64 x)) pb S a x bad := by
  obtain ⟨ao, cap, c0, c1, c2, c3, fr, h1, h2, h3, h4, h5, h6⟩ := h
  have oth : ∀ p : Addr, (⟨pb, 2, none⟩ : Addr) ≠ p → ∀ v, (w.setCell ⟨pb, 2, none⟩ v).cell? p = w.cell? p := fun p hp v => World.cell?_setCell_other _ _ _ _ hp
  refine ⟨ao, cap, (oth _ (by simp) _).trans c0, (oth _ (by simp) _).trans c1, World.cell?_setCell_same _ _ _ c2, (oth _ (by simp) _).trans c3, fun o => by rw [World.frozen?_setCell]; exact fr o, h1, h2, h3, h4, hx, ?_⟩
  rcases h6 with h6 | ⟨qb, qo, e, hne, h7⟩
  · exact Or.inl h6
  · exact Or.inr ⟨qb, qo, e, hne, fun i hi => (oth _ (by intro he; injection he with he1; omega) _).trans (h7 i hi)⟩
/-- It failed. -/
theorem RP.fl {w : World} {pb a : Nat} {S : List Int} {g : Int} {bad : Bool} (h : RP w pb S a g bad) (x : Bool) : RP (w.setCell ⟨pb, 3, none⟩ (.bool x)) pb S a g x := by
  obtain ⟨ao, cap, c0, c1, c2, c3, fr, h1, h2, h3, h4, h5, h6⟩ := h
  have oth : ∀ p : Addr, (⟨pb, 3, none⟩ : Addr) ≠ p → ∀ v, (w.setCell ⟨pb, 3, none⟩ v).cell? p = w.cell? p := fun p hp v => World.cell?_setCell_other _ _ _ _ hp
  refine ⟨ao, cap, (oth _ (by simp) _).trans c0, (oth _ (by simp) _).trans c1, (oth _ (by simp) _).trans c2, World.cell?_setCell_same _ _ _ c3, fun o => by rw [World.frozen?_setCell]; exact fr o, h1, h2, h3, h4, h5, ?_⟩
  rcases h6 with h6 | ⟨qb, qo, e, hne, h7⟩
  · exact Or.inl h6
  · exact Or.inr ⟨qb, qo, e, hne, fun i hi => (oth _ (by intro he; injection he with he1; omega) _).trans (h7 i hi)⟩

set_option maxRecDepth 100000 in
set_option maxHeartbeats 800000 in
theorem rpeek_any (w : World) (pb a : Nat) (S : List Int) (g : Int) (bad : Bool) (h : RP w pb S a g bad) :
    Calls Tryz.prog 43 #[.pointer (some ⟨pb, 0, none⟩)] w fun r w' => r = .returned (.int .i64 (pk S a)) ∧ Below w.heap.size w w' := by
  obtain ⟨ao, cap, c0, c1, c2, c3, fr, h1, h2, h3, h4, h5, h6⟩ := h
  by_cases hlt : a < S.length
  · rcases h6 with h6 | ⟨qb, qo, rfl, hne, h7⟩
    · subst h6; simp at hlt
    have hc := h7 a hlt
    have hI : (a : Int) < (S.length : Int) := by omega
    generalize pk S a = q at *
    generalize S.length = n at *
    clear h7 h4 hlt h3 c2 c3 fr h5 h2
    go_enter Tryz.func43, Tryz.ntmps43
    go_wp2_with fail
    go_region
    go_wp2_with fail
    go_region
    all_goals
      go_wp2_with fail
      go_ret
      exact ⟨rfl, vb_d (vb_d (Below.refl _ _))⟩
  · rw [pk_out (by omega)]
    have hd : ¬ (a : Int) < (S.length : Int) := by omega
    generalize S.length = n at *
    clear h6 h4 hlt h3 c2 c3 fr h5 h2
    go_enter Tryz.func43, Tryz.ntmps43
    go_wp2_with fail
    go_region
    go_wp2_with fail
    all_goals
      go_ret
      exact ⟨rfl, vb_d (Below.refl _ _)⟩

/-- The place behind a sign, if it stands there. -/
def tk (S : List Int) (a : Nat) (c : Int) : Nat := if pk S a = c then a + 1 else a
theorem tk_le {S : List Int} {a : Nat} {c : Int} (hc : c ≠ -1) (h : a ≤ S.length + 1) : tk S a c ≤ S.length + 1 ∧ (a ≤ S.length → tk S a c ≤ S.length) := by
  unfold tk
  split
  · rename_i e
    by_cases hl : a < S.length
    · omega
    · rw [pk_out (by omega)] at e; omega
  · omega

set_option maxRecDepth 100000 in
set_option maxHeartbeats 800000 in
theorem rtake_any (w : World) (pb a : Nat) (S : List Int) (g c : Int) (bad : Bool) (hc : c ≠ -1) (h : RP w pb S a g bad) :
    Calls Tryz.prog 30 #[.pointer (some ⟨pb, 0, none⟩), .int .i64 c] w fun r w' => r = .returned (.bool (decide (pk S a = c))) ∧ But (· = pb) w w' ∧ RP w' pb S (tk S a c) g bad := by
  have hp := rpeek_any w pb a S g bad h
  by_cases he : pk S a = c
  · have ht : tk S a c = a + 1 := by unfold tk; rw [if_pos he]
    have hle := (tk_le hc h.len.2).1
    rw [ht] at hle
    rw [decide_eq_true he, ht]
    have hne : (pk S a != c) = false := by simpa using he
    have HL := hid_intro hle
    clear hc he ht hle
    generalize pk S a = q at *
    go_enter Tryz.func30, Tryz.ntmps30
    go_wp2_with fail
    refine hp.mono ?_
    rintro r w1 ⟨rfl, hb1⟩
    have HR := hid_intro (h.below hb1)
    have HB := hid_intro hb1
    obtain ⟨ao, cap, c0, c1, c2, c3, fr, h1, h2, h3, h4, h5, h6⟩ := HR.out
    have ff := fr 1
    have hw : IntKind.i64.wrap ((a : Int) + 1) = (a : Int) + 1 := by simp [IntKind.wrap, IntKind.bits, IntKind.signed]; omega
    clear h6 h4 h3 c2 c3 fr h5 h2 h1 hb1 h hp c0
    go_wp2_with fail
    go_ret
    exact ⟨rfl, But.setr (But.ofBelow HB.out) _, HR.out.at (a + 1) HL.out _ (by omega)⟩
  · have ht : tk S a c = a := by unfold tk; rw [if_neg he]
    rw [decide_eq_false he, ht]
    have hne : (pk S a != c) = true := by simpa using he
    clear hc he ht
    generalize pk S a = q at *
    go_enter Tryz.func30, Tryz.ntmps30
    go_wp2_with fail
    refine hp.mono ?_
    rintro r w1 ⟨rfl, hb1⟩
    have HR := hid_intro (h.below hb1)
    have HB := hid_intro hb1
    clear h hb1 hp
    go_wp2_with fail
    go_ret
    exact ⟨rfl, But.ofBelow HB.out, HR.out⟩

set_option maxRecDepth 100000 in
set_option maxHeartbeats 800000 in
theorem rfail_any (w : World) (pb a : Nat) (S : List Int) (g : Int) (bad : Bool) (h : RP w pb S a g bad) :
    Calls Tryz.prog 71 #[.pointer (some ⟨pb, 0, none⟩)] w fun r w' => r = .returned (.tuple #[]) ∧ But (· = pb) w w' ∧ RP w' pb S a g true := by
  have HR := hid_intro h
  obtain ⟨ao, cap, c0, c1, c2, c3, fr, h1, h2, h3, h4, h5, h6⟩ := h
  have ff := fr 3
  clear h6 h4 h3 c2 c1 fr h5 h2 h1 c0
  go_enter Tryz.func71, Tryz.ntmps71
  go_wp2_with fail
  go_end0
  exact ⟨rfl, But.setr (But.refl _ _) _, HR.out.fl true⟩
end Go.Proofs.YthbbkcdlcpbepaaGreatDoor
