/-
  The reference's escape. No condition.
-/
import Derived.Test.YthbbkcdlcpbepaaGreatDoorJoined21
import Derived.Test.YthbbkcdlcpbepaaGreatDoorJoined23
namespace Go.Proofs.YthbbkcdlcpbepaaGreatDoor
open Go.RowKit
attribute [local go_sem] setCell_drewN alloc_drewN

/-- What a mark is read as: its ranges, or it failed. -/
def MarkQ (x : Option (Mark × List Int)) (S : List Int) (pb : Nat) (g : Int) (B : Nat) (w' : World) (v : Value) (nm : Bool) : Prop := match x with
  | none => ∃ a', RP w' pb S a' g true ∧ (v = .slice none 0 0 ∨ ∃ rl, RI w' (· < B) rl v ∧ rl ≠ [] ∧ rl.length ≤ 16)
  | some (m, l') => ∃ a', RP w' pb S a' g false ∧ a' ≤ S.length ∧ l' = S.drop a' ∧ nm = m.named ∧ RI w' (· < B) m.ranges v
abbrev EscP (x : Option (Mark × List Int)) (S : List Int) (pb : Nat) (g : Int) (w : World) (r : Ending) (w' : World) : Prop :=
  ∃ v nm, r = .returned (.tuple #[v, .bool nm]) ∧ But (· = pb) w w' ∧ MarkQ x S pb g w.heap.size w' v nm
theorem esc_out {S : List Int} {a : Nat} (h : pk S a = -1) (hm : ∀ c ∈ S, 0 ≤ c ∧ c ≤ 1114111) : escapeL (S.drop a) = none := by
  by_cases hk : a < S.length
  · have := hm _ (pk_mem hk); omega
  · rw [drop_out (by omega)]; rfl
theorem esc_in {S : List Int} {a : Nat} (h : 0 ≤ pk S a) : escapeL (S.drop a) = match namedBy (pk S a) with
    | some s => some (.set s, S.drop (a + 1))
    | none => match escapedL (pk S a) (S.drop (a + 1)) with
      | none => none
      | some (p, r') => some (.one p, r') := by
  rw [drop_at (pk_lt h)]
  simp only [escapeL]
  cases namedBy (pk S a) with
  | some s => rfl
  | none =>
    simp only
    cases escapedL (pk S a) (S.drop (a + 1)) with
    | none => rfl
    | some y => rfl
theorem rin_s (c : Int) (s : ByteArray) (w : World) (hs : s.size ≤ 4096) :
    Calls Tryz.prog 59 #[.int .i64 c, .string s] w fun r w' => r = .returned (.bool (decide (c ∈ ints s))) ∧ w = w' :=
  (rin_any c s w hs).mono (fun _ _ h => ⟨h.1, h.2.symm⟩)

set_option maxRecDepth 100000 in
set_option maxHeartbeats 1600000 in
theorem resc_100 (w : World) (pb a : Nat) (S : List Int) (g : Int) (hq : pk S a = 100) (h : RP w pb S a g false) :
    Calls Tryz.prog 75 #[.pointer (some ⟨pb, 0, none⟩)] w (EscP (escapeL (S.drop a)) S pb g w) := by
  obtain ⟨P, hP⟩ : ∃ P, P = EscP (escapeL (S.drop a)) S pb g w := ⟨_, rfl⟩
  rw [← hP]
  have HP := hid_intro hP
  have HR0 := hid_intro h
  have HPK := hid_intro (rpeek_any w pb a S g false h)
  have hlen := h.len
  have hmem := h.mem
  have hw : wrap64 ((a : Int) + 1) = (a : Int) + 1 := w64 (by omega) (by omega)
  have HAL : Hid (a + 1 ≤ S.length + 1) := hid_intro (by have := pk_lt (S := S) (a := a) (by omega); omega)
  have HAK : Hid (a + 1 ≤ S.length) := hid_intro (pk_lt (S := S) (a := a) (by omega))
  have hE := esc_in (S := S) (a := a) (by omega)
  rw [hq] at hE HPK
  have HE : Hid (escapeL (S.drop a) = some (.set digits, S.drop (a + 1))) := hid_intro (by rw [hE, show namedBy 100 = some digits by decide])
  clear hE hq
  have i0 : ∀ w', Calls Tryz.prog 59 #[.int .i64 100, .string ⟨#[100, 119, 115]⟩] w' fun r w2 => r = .returned (.bool true) ∧ w' = w2 := fun w' => by
    have := rin_s 100 ⟨#[100, 119, 115]⟩ w' (by decide)
    rw [show decide (100 ∈ ints ⟨#[100, 119, 115]⟩) = true by decide] at this
    exact this
  clear hP h hlen hmem
  go_enter Tryz.func75, Tryz.ntmps75
  go_wp2_with fail
  refine HPK.out.mono ?_; rintro r w1 ⟨rfl, hb1⟩
  have HR1 := hid_intro (HR0.out.below hb1)
  have HB1 : Hid (But (· = pb) w (w1.setCell ⟨pb, 1, none⟩ (.int .i64 ((a : Int) + 1)))) := hid_intro (But.setr (But.ofBelow hb1) _)
  have HR2 : Hid (RP (w1.setCell ⟨pb, 1, none⟩ (.int .i64 ((a : Int) + 1))) pb S (a + 1) g false) := hid_intro (HR1.out.at (a + 1) HAL.out _ (by omega))
  obtain ⟨ao, cap, c0, c1, c2, c3, fr, h1, h2, h3, h4, h5, h6⟩ := HR1.out
  have ff := fr 1
  clear h6 h4 h3 c2 c3 fr h5 h2 h1 c0 hb1
  go_wp2_with fail
  generalize w1.setCell ⟨pb, 1, none⟩ (.int .i64 ((a : Int) + 1)) = W2 at *
  clear HR1 c1 ff hw
  refine (i0 _).mono ?_; rintro r w3 ⟨rfl, rfl⟩
  go_wp2_with fail
  refine (rkinds_any 100 _ (by decide)).mono ?_; rintro r w9 ⟨v9, rfl, ho9, hb9⟩
  have HF := hid_intro (And.intro (HB1.out.below hb9) (And.intro (HR2.out.below hb9) (ho9.ri (· < w.heap.size) (fun b hb h => by have := HB1.out.size; have h2 : b < w.heap.size := h; omega))))
  clear hb9 ho9
  go_wp2_with fail
  rw [HP.out, HE.out]
  exact ⟨_, _, rfl, HF.out.1, a + 1, HF.out.2.1, HAK.out, rfl, rfl, HF.out.2.2⟩

set_option maxRecDepth 100000 in
set_option maxHeartbeats 1600000 in
theorem resc_119 (w : World) (pb a : Nat) (S : List Int) (g : Int) (hq : pk S a = 119) (h : RP w pb S a g false) :
    Calls Tryz.prog 75 #[.pointer (some ⟨pb, 0, none⟩)] w (EscP (escapeL (S.drop a)) S pb g w) := by
  obtain ⟨P, hP⟩ : ∃ P, P = EscP (escapeL (S.drop a)) S pb g w := ⟨_, rfl⟩
  rw [← hP]
  have HP := hid_intro hP
  have HR0 := hid_intro h
  have HPK := hid_intro (rpeek_any w pb a S g false h)
  have hlen := h.len
  have hmem := h.mem
  have hw : wrap64 ((a : Int) + 1) = (a : Int) + 1 := w64 (by omega) (by omega)
  have HAL : Hid (a + 1 ≤ S.length + 1) := hid_intro (by have := pk_lt (S := S) (a := a) (by omega); omega)
  have HAK : Hid (a + 1 ≤ S.length) := hid_intro (pk_lt (S := S) (a := a) (by omega))
  have hE := esc_in (S := S) (a := a) (by omega)
  rw [hq] at hE HPK
  have HE : Hid (escapeL (S.drop a) = some (.set wordLetters, S.drop (a + 1))) := hid_intro (by rw [hE, show namedBy 119 = some wordLetters by decide])
  clear hE hq
  have i0 : ∀ w', Calls Tryz.prog 59 #[.int .i64 119, .string ⟨#[100, 119, 115]⟩] w' fun r w2 => r = .returned (.bool true) ∧ w' = w2 := fun w' => by
    have := rin_s 119 ⟨#[100, 119, 115]⟩ w' (by decide)
    rw [show decide (119 ∈ ints ⟨#[100, 119, 115]⟩) = true by decide] at this
    exact this
  clear hP h hlen hmem
  go_enter Tryz.func75, Tryz.ntmps75
  go_wp2_with fail
  refine HPK.out.mono ?_; rintro r w1 ⟨rfl, hb1⟩
  have HR1 := hid_intro (HR0.out.below hb1)
  have HB1 : Hid (But (· = pb) w (w1.setCell ⟨pb, 1, none⟩ (.int .i64 ((a : Int) + 1)))) := hid_intro (But.setr (But.ofBelow hb1) _)
  have HR2 : Hid (RP (w1.setCell ⟨pb, 1, none⟩ (.int .i64 ((a : Int) + 1))) pb S (a + 1) g false) := hid_intro (HR1.out.at (a + 1) HAL.out _ (by omega))
  obtain ⟨ao, cap, c0, c1, c2, c3, fr, h1, h2, h3, h4, h5, h6⟩ := HR1.out
  have ff := fr 1
  clear h6 h4 h3 c2 c3 fr h5 h2 h1 c0 hb1
  go_wp2_with fail
  generalize w1.setCell ⟨pb, 1, none⟩ (.int .i64 ((a : Int) + 1)) = W2 at *
  clear HR1 c1 ff hw
  refine (i0 _).mono ?_; rintro r w3 ⟨rfl, rfl⟩
  go_wp2_with fail
  refine (rkinds_any 119 _ (by decide)).mono ?_; rintro r w9 ⟨v9, rfl, ho9, hb9⟩
  have HF := hid_intro (And.intro (HB1.out.below hb9) (And.intro (HR2.out.below hb9) (ho9.ri (· < w.heap.size) (fun b hb h => by have := HB1.out.size; have h2 : b < w.heap.size := h; omega))))
  clear hb9 ho9
  go_wp2_with fail
  rw [HP.out, HE.out]
  exact ⟨_, _, rfl, HF.out.1, a + 1, HF.out.2.1, HAK.out, rfl, rfl, HF.out.2.2⟩

set_option maxRecDepth 100000 in
set_option maxHeartbeats 1600000 in
theorem resc_115 (w : World) (pb a : Nat) (S : List Int) (g : Int) (hq : pk S a = 115) (h : RP w pb S a g false) :
    Calls Tryz.prog 75 #[.pointer (some ⟨pb, 0, none⟩)] w (EscP (escapeL (S.drop a)) S pb g w) := by
  obtain ⟨P, hP⟩ : ∃ P, P = EscP (escapeL (S.drop a)) S pb g w := ⟨_, rfl⟩
  rw [← hP]
  have HP := hid_intro hP
  have HR0 := hid_intro h
  have HPK := hid_intro (rpeek_any w pb a S g false h)
  have hlen := h.len
  have hmem := h.mem
  have hw : wrap64 ((a : Int) + 1) = (a : Int) + 1 := w64 (by omega) (by omega)
  have HAL : Hid (a + 1 ≤ S.length + 1) := hid_intro (by have := pk_lt (S := S) (a := a) (by omega); omega)
  have HAK : Hid (a + 1 ≤ S.length) := hid_intro (pk_lt (S := S) (a := a) (by omega))
  have hE := esc_in (S := S) (a := a) (by omega)
  rw [hq] at hE HPK
  have HE : Hid (escapeL (S.drop a) = some (.set spacesL, S.drop (a + 1))) := hid_intro (by rw [hE, show namedBy 115 = some spacesL by decide])
  clear hE hq
  have i0 : ∀ w', Calls Tryz.prog 59 #[.int .i64 115, .string ⟨#[100, 119, 115]⟩] w' fun r w2 => r = .returned (.bool true) ∧ w' = w2 := fun w' => by
    have := rin_s 115 ⟨#[100, 119, 115]⟩ w' (by decide)
    rw [show decide (115 ∈ ints ⟨#[100, 119, 115]⟩) = true by decide] at this
    exact this
  clear hP h hlen hmem
  go_enter Tryz.func75, Tryz.ntmps75
  go_wp2_with fail
  refine HPK.out.mono ?_; rintro r w1 ⟨rfl, hb1⟩
  have HR1 := hid_intro (HR0.out.below hb1)
  have HB1 : Hid (But (· = pb) w (w1.setCell ⟨pb, 1, none⟩ (.int .i64 ((a : Int) + 1)))) := hid_intro (But.setr (But.ofBelow hb1) _)
  have HR2 : Hid (RP (w1.setCell ⟨pb, 1, none⟩ (.int .i64 ((a : Int) + 1))) pb S (a + 1) g false) := hid_intro (HR1.out.at (a + 1) HAL.out _ (by omega))
  obtain ⟨ao, cap, c0, c1, c2, c3, fr, h1, h2, h3, h4, h5, h6⟩ := HR1.out
  have ff := fr 1
  clear h6 h4 h3 c2 c3 fr h5 h2 h1 c0 hb1
  go_wp2_with fail
  generalize w1.setCell ⟨pb, 1, none⟩ (.int .i64 ((a : Int) + 1)) = W2 at *
  clear HR1 c1 ff hw
  refine (i0 _).mono ?_; rintro r w3 ⟨rfl, rfl⟩
  go_wp2_with fail
  refine (rkinds_any 115 _ (by decide)).mono ?_; rintro r w9 ⟨v9, rfl, ho9, hb9⟩
  have HF := hid_intro (And.intro (HB1.out.below hb9) (And.intro (HR2.out.below hb9) (ho9.ri (· < w.heap.size) (fun b hb h => by have := HB1.out.size; have h2 : b < w.heap.size := h; omega))))
  clear hb9 ho9
  go_wp2_with fail
  rw [HP.out, HE.out]
  exact ⟨_, _, rfl, HF.out.1, a + 1, HF.out.2.1, HAK.out, rfl, rfl, HF.out.2.2⟩

set_option maxRecDepth 100000 in
set_option maxHeartbeats 1600000 in
theorem resc_68 (w : World) (pb a : Nat) (S : List Int) (g : Int) (hq : pk S a = 68) (h : RP w pb S a g false) :
    Calls Tryz.prog 75 #[.pointer (some ⟨pb, 0, none⟩)] w (EscP (escapeL (S.drop a)) S pb g w) := by
  obtain ⟨P, hP⟩ : ∃ P, P = EscP (escapeL (S.drop a)) S pb g w := ⟨_, rfl⟩
  rw [← hP]
  have HP := hid_intro hP
  have HR0 := hid_intro h
  have HPK := hid_intro (rpeek_any w pb a S g false h)
  have hlen := h.len
  have hmem := h.mem
  have hw : wrap64 ((a : Int) + 1) = (a : Int) + 1 := w64 (by omega) (by omega)
  have HAL : Hid (a + 1 ≤ S.length + 1) := hid_intro (by have := pk_lt (S := S) (a := a) (by omega); omega)
  have HAK : Hid (a + 1 ≤ S.length) := hid_intro (pk_lt (S := S) (a := a) (by omega))
  have hE := esc_in (S := S) (a := a) (by omega)
  rw [hq] at hE HPK
  have HE : Hid (escapeL (S.drop a) = some (.set (turnL digits), S.drop (a + 1))) := hid_intro (by rw [hE, show namedBy 68 = some (turnL digits) by unfold namedBy; simp only [Int.reduceEq, reduceIte]])
  clear hE hq
  have i0 : ∀ w', Calls Tryz.prog 59 #[.int .i64 68, .string ⟨#[100, 119, 115]⟩] w' fun r w2 => r = .returned (.bool false) ∧ w' = w2 := fun w' => by
    have := rin_s 68 ⟨#[100, 119, 115]⟩ w' (by decide)
    rw [show decide (68 ∈ ints ⟨#[100, 119, 115]⟩) = false by decide] at this
    exact this
  have i1 : ∀ w', Calls Tryz.prog 59 #[.int .i64 68, .string ⟨#[68, 87, 83]⟩] w' fun r w2 => r = .returned (.bool true) ∧ w' = w2 := fun w' => by
    have := rin_s 68 ⟨#[68, 87, 83]⟩ w' (by decide)
    rw [show decide (68 ∈ ints ⟨#[68, 87, 83]⟩) = true by decide] at this
    exact this
  clear hP h hlen hmem
  go_enter Tryz.func75, Tryz.ntmps75
  go_wp2_with fail
  refine HPK.out.mono ?_; rintro r w1 ⟨rfl, hb1⟩
  have HR1 := hid_intro (HR0.out.below hb1)
  have HB1 : Hid (But (· = pb) w (w1.setCell ⟨pb, 1, none⟩ (.int .i64 ((a : Int) + 1)))) := hid_intro (But.setr (But.ofBelow hb1) _)
  have HR2 : Hid (RP (w1.setCell ⟨pb, 1, none⟩ (.int .i64 ((a : Int) + 1))) pb S (a + 1) g false) := hid_intro (HR1.out.at (a + 1) HAL.out _ (by omega))
  obtain ⟨ao, cap, c0, c1, c2, c3, fr, h1, h2, h3, h4, h5, h6⟩ := HR1.out
  have ff := fr 1
  clear h6 h4 h3 c2 c3 fr h5 h2 h1 c0 hb1
  go_wp2_with fail
  generalize w1.setCell ⟨pb, 1, none⟩ (.int .i64 ((a : Int) + 1)) = W2 at *
  clear HR1 c1 ff hw
  refine (i0 _).mono ?_; rintro r w3 ⟨rfl, rfl⟩
  go_wp2_with fail
  refine (i1 _).mono ?_; rintro r w3 ⟨rfl, rfl⟩
  go_wp2_with fail
  refine (rkinds_any 100 _ (by decide)).mono ?_; rintro r w8 ⟨v8, rfl, ho8, hb8⟩
  have hri : RI w8 (fun _ => False) digits v8 := ho8.ri _ (fun _ _ h => h)
  have htn := refTurnN_any digits v8 w8 _ hri (by decide)
  have HB8 := hid_intro (HB1.out.below hb8)
  have HR8 := hid_intro (HR2.out.below hb8)
  clear hb8 ho8 hri
  go_wp2_with fail
  refine htn.mono ?_; rintro r w9 ⟨v9, rfl, ho9, hb9⟩
  have HF := hid_intro (And.intro (HB8.out.below hb9) (And.intro (HR8.out.below hb9) (ho9.weak (Y := (· < w.heap.size)) (fun b h => by have := HB8.out.size; have h2 : b < w.heap.size := h; show b < _; omega))))
  clear hb9 ho9 htn
  go_wp2_with fail
  rw [HP.out, HE.out]
  exact ⟨_, _, rfl, HF.out.1, a + 1, HF.out.2.1, HAK.out, rfl, rfl, HF.out.2.2⟩

set_option maxRecDepth 100000 in
set_option maxHeartbeats 1600000 in
theorem resc_87 (w : World) (pb a : Nat) (S : List Int) (g : Int) (hq : pk S a = 87) (h : RP w pb S a g false) :
    Calls Tryz.prog 75 #[.pointer (some ⟨pb, 0, none⟩)] w (EscP (escapeL (S.drop a)) S pb g w) := by
  obtain ⟨P, hP⟩ : ∃ P, P = EscP (escapeL (S.drop a)) S pb g w := ⟨_, rfl⟩
  rw [← hP]
  have HP := hid_intro hP
  have HR0 := hid_intro h
  have HPK := hid_intro (rpeek_any w pb a S g false h)
  have hlen := h.len
  have hmem := h.mem
  have hw : wrap64 ((a : Int) + 1) = (a : Int) + 1 := w64 (by omega) (by omega)
  have HAL : Hid (a + 1 ≤ S.length + 1) := hid_intro (by have := pk_lt (S := S) (a := a) (by omega); omega)
  have HAK : Hid (a + 1 ≤ S.length) := hid_intro (pk_lt (S := S) (a := a) (by omega))
  have hE := esc_in (S := S) (a := a) (by omega)
  rw [hq] at hE HPK
  have HE : Hid (escapeL (S.drop a) = some (.set (turnL wordLetters), S.drop (a + 1))) := hid_intro (by rw [hE, show namedBy 87 = some (turnL wordLetters) by unfold namedBy; simp only [Int.reduceEq, reduceIte]])
  clear hE hq
  have i0 : ∀ w', Calls Tryz.prog 59 #[.int .i64 87, .string ⟨#[100, 119, 115]⟩] w' fun r w2 => r = .returned (.bool false) ∧ w' = w2 := fun w' => by
    have := rin_s 87 ⟨#[100, 119, 115]⟩ w' (by decide)
    rw [show decide (87 ∈ ints ⟨#[100, 119, 115]⟩) = false by decide] at this
    exact this
  have i1 : ∀ w', Calls Tryz.prog 59 #[.int .i64 87, .string ⟨#[68, 87, 83]⟩] w' fun r w2 => r = .returned (.bool true) ∧ w' = w2 := fun w' => by
    have := rin_s 87 ⟨#[68, 87, 83]⟩ w' (by decide)
    rw [show decide (87 ∈ ints ⟨#[68, 87, 83]⟩) = true by decide] at this
    exact this
  clear hP h hlen hmem
  go_enter Tryz.func75, Tryz.ntmps75
  go_wp2_with fail
  refine HPK.out.mono ?_; rintro r w1 ⟨rfl, hb1⟩
  have HR1 := hid_intro (HR0.out.below hb1)
  have HB1 : Hid (But (· = pb) w (w1.setCell ⟨pb, 1, none⟩ (.int .i64 ((a : Int) + 1)))) := hid_intro (But.setr (But.ofBelow hb1) _)
  have HR2 : Hid (RP (w1.setCell ⟨pb, 1, none⟩ (.int .i64 ((a : Int) + 1))) pb S (a + 1) g false) := hid_intro (HR1.out.at (a + 1) HAL.out _ (by omega))
  obtain ⟨ao, cap, c0, c1, c2, c3, fr, h1, h2, h3, h4, h5, h6⟩ := HR1.out
  have ff := fr 1
  clear h6 h4 h3 c2 c3 fr h5 h2 h1 c0 hb1
  go_wp2_with fail
  generalize w1.setCell ⟨pb, 1, none⟩ (.int .i64 ((a : Int) + 1)) = W2 at *
  clear HR1 c1 ff hw
  refine (i0 _).mono ?_; rintro r w3 ⟨rfl, rfl⟩
  go_wp2_with fail
  refine (i1 _).mono ?_; rintro r w3 ⟨rfl, rfl⟩
  go_wp2_with fail
  refine (rkinds_any 119 _ (by decide)).mono ?_; rintro r w8 ⟨v8, rfl, ho8, hb8⟩
  have hri : RI w8 (fun _ => False) wordLetters v8 := ho8.ri _ (fun _ _ h => h)
  have htn := refTurnN_any wordLetters v8 w8 _ hri (by decide)
  have HB8 := hid_intro (HB1.out.below hb8)
  have HR8 := hid_intro (HR2.out.below hb8)
  clear hb8 ho8 hri
  go_wp2_with fail
  refine htn.mono ?_; rintro r w9 ⟨v9, rfl, ho9, hb9⟩
  have HF := hid_intro (And.intro (HB8.out.below hb9) (And.intro (HR8.out.below hb9) (ho9.weak (Y := (· < w.heap.size)) (fun b h => by have := HB8.out.size; have h2 : b < w.heap.size := h; show b < _; omega))))
  clear hb9 ho9 htn
  go_wp2_with fail
  rw [HP.out, HE.out]
  exact ⟨_, _, rfl, HF.out.1, a + 1, HF.out.2.1, HAK.out, rfl, rfl, HF.out.2.2⟩

set_option maxRecDepth 100000 in
set_option maxHeartbeats 1600000 in
theorem resc_83 (w : World) (pb a : Nat) (S : List Int) (g : Int) (hq : pk S a = 83) (h : RP w pb S a g false) :
    Calls Tryz.prog 75 #[.pointer (some ⟨pb, 0, none⟩)] w (EscP (escapeL (S.drop a)) S pb g w) := by
  obtain ⟨P, hP⟩ : ∃ P, P = EscP (escapeL (S.drop a)) S pb g w := ⟨_, rfl⟩
  rw [← hP]
  have HP := hid_intro hP
  have HR0 := hid_intro h
  have HPK := hid_intro (rpeek_any w pb a S g false h)
  have hlen := h.len
  have hmem := h.mem
  have hw : wrap64 ((a : Int) + 1) = (a : Int) + 1 := w64 (by omega) (by omega)
  have HAL : Hid (a + 1 ≤ S.length + 1) := hid_intro (by have := pk_lt (S := S) (a := a) (by omega); omega)
  have HAK : Hid (a + 1 ≤ S.length) := hid_intro (pk_lt (S := S) (a := a) (by omega))
  have hE := esc_in (S := S) (a := a) (by omega)
  rw [hq] at hE HPK
  have HE : Hid (escapeL (S.drop a) = some (.set (turnL spacesL), S.drop (a + 1))) := hid_intro (by rw [hE, show namedBy 83 = some (turnL spacesL) by unfold namedBy; simp only [Int.reduceEq, reduceIte]])
  clear hE hq
  have i0 : ∀ w', Calls Tryz.prog 59 #[.int .i64 83, .string ⟨#[100, 119, 115]⟩] w' fun r w2 => r = .returned (.bool false) ∧ w' = w2 := fun w' => by
    have := rin_s 83 ⟨#[100, 119, 115]⟩ w' (by decide)
    rw [show decide (83 ∈ ints ⟨#[100, 119, 115]⟩) = false by decide] at this
    exact this
  have i1 : ∀ w', Calls Tryz.prog 59 #[.int .i64 83, .string ⟨#[68, 87, 83]⟩] w' fun r w2 => r = .returned (.bool true) ∧ w' = w2 := fun w' => by
    have := rin_s 83 ⟨#[68, 87, 83]⟩ w' (by decide)
    rw [show decide (83 ∈ ints ⟨#[68, 87, 83]⟩) = true by decide] at this
    exact this
  clear hP h hlen hmem
  go_enter Tryz.func75, Tryz.ntmps75
  go_wp2_with fail
  refine HPK.out.mono ?_; rintro r w1 ⟨rfl, hb1⟩
  have HR1 := hid_intro (HR0.out.below hb1)
  have HB1 : Hid (But (· = pb) w (w1.setCell ⟨pb, 1, none⟩ (.int .i64 ((a : Int) + 1)))) := hid_intro (But.setr (But.ofBelow hb1) _)
  have HR2 : Hid (RP (w1.setCell ⟨pb, 1, none⟩ (.int .i64 ((a : Int) + 1))) pb S (a + 1) g false) := hid_intro (HR1.out.at (a + 1) HAL.out _ (by omega))
  obtain ⟨ao, cap, c0, c1, c2, c3, fr, h1, h2, h3, h4, h5, h6⟩ := HR1.out
  have ff := fr 1
  clear h6 h4 h3 c2 c3 fr h5 h2 h1 c0 hb1
  go_wp2_with fail
  generalize w1.setCell ⟨pb, 1, none⟩ (.int .i64 ((a : Int) + 1)) = W2 at *
  clear HR1 c1 ff hw
  refine (i0 _).mono ?_; rintro r w3 ⟨rfl, rfl⟩
  go_wp2_with fail
  refine (i1 _).mono ?_; rintro r w3 ⟨rfl, rfl⟩
  go_wp2_with fail
  refine (rkinds_any 115 _ (by decide)).mono ?_; rintro r w8 ⟨v8, rfl, ho8, hb8⟩
  have hri : RI w8 (fun _ => False) spacesL v8 := ho8.ri _ (fun _ _ h => h)
  have htn := refTurnN_any spacesL v8 w8 _ hri (by decide)
  have HB8 := hid_intro (HB1.out.below hb8)
  have HR8 := hid_intro (HR2.out.below hb8)
  clear hb8 ho8 hri
  go_wp2_with fail
  refine htn.mono ?_; rintro r w9 ⟨v9, rfl, ho9, hb9⟩
  have HF := hid_intro (And.intro (HB8.out.below hb9) (And.intro (HR8.out.below hb9) (ho9.weak (Y := (· < w.heap.size)) (fun b h => by have := HB8.out.size; have h2 : b < w.heap.size := h; show b < _; omega))))
  clear hb9 ho9 htn
  go_wp2_with fail
  rw [HP.out, HE.out]
  exact ⟨_, _, rfl, HF.out.1, a + 1, HF.out.2.1, HAK.out, rfl, rfl, HF.out.2.2⟩

set_option maxRecDepth 100000 in
set_option maxHeartbeats 1600000 in
theorem resc_116 (w : World) (pb a : Nat) (S : List Int) (g : Int) (hq : pk S a = 116) (h : RP w pb S a g false) :
    Calls Tryz.prog 75 #[.pointer (some ⟨pb, 0, none⟩)] w (EscP (escapeL (S.drop a)) S pb g w) := by
  obtain ⟨P, hP⟩ : ∃ P, P = EscP (escapeL (S.drop a)) S pb g w := ⟨_, rfl⟩
  rw [← hP]
  have HP := hid_intro hP
  have HR0 := hid_intro h
  have HPK := hid_intro (rpeek_any w pb a S g false h)
  have hlen := h.len
  have hmem := h.mem
  have hw : wrap64 ((a : Int) + 1) = (a : Int) + 1 := w64 (by omega) (by omega)
  have HAL : Hid (a + 1 ≤ S.length + 1) := hid_intro (by have := pk_lt (S := S) (a := a) (by omega); omega)
  have HAK : Hid (a + 1 ≤ S.length) := hid_intro (pk_lt (S := S) (a := a) (by omega))
  have hE := esc_in (S := S) (a := a) (by omega)
  rw [hq] at hE HPK
  have HE : Hid (escapeL (S.drop a) = some (.one 9, S.drop (a + 1))) := hid_intro (by rw [hE, show namedBy 116 = none by decide]; unfold escapedL; simp only [Int.reduceEq, reduceIte])
  clear hE hq
  have i0 : ∀ w', Calls Tryz.prog 59 #[.int .i64 116, .string ⟨#[100, 119, 115]⟩] w' fun r w2 => r = .returned (.bool false) ∧ w' = w2 := fun w' => by
    have := rin_s 116 ⟨#[100, 119, 115]⟩ w' (by decide)
    rw [show decide (116 ∈ ints ⟨#[100, 119, 115]⟩) = false by decide] at this
    exact this
  have i1 : ∀ w', Calls Tryz.prog 59 #[.int .i64 116, .string ⟨#[68, 87, 83]⟩] w' fun r w2 => r = .returned (.bool false) ∧ w' = w2 := fun w' => by
    have := rin_s 116 ⟨#[68, 87, 83]⟩ w' (by decide)
    rw [show decide (116 ∈ ints ⟨#[68, 87, 83]⟩) = false by decide] at this
    exact this
  have i2 : ∀ w', Calls Tryz.prog 59 #[.int .i64 116, .string ⟨#[116, 110, 118, 102, 114]⟩] w' fun r w2 => r = .returned (.bool true) ∧ w' = w2 := fun w' => by
    have := rin_s 116 ⟨#[116, 110, 118, 102, 114]⟩ w' (by decide)
    rw [show decide (116 ∈ ints ⟨#[116, 110, 118, 102, 114]⟩) = true by decide] at this
    exact this
  clear hP h hlen hmem
  go_enter Tryz.func75, Tryz.ntmps75
  go_wp2_with fail
  refine HPK.out.mono ?_; rintro r w1 ⟨rfl, hb1⟩
  have HR1 := hid_intro (HR0.out.below hb1)
  have HB1 : Hid (But (· = pb) w (w1.setCell ⟨pb, 1, none⟩ (.int .i64 ((a : Int) + 1)))) := hid_intro (But.setr (But.ofBelow hb1) _)
  have HR2 : Hid (RP (w1.setCell ⟨pb, 1, none⟩ (.int .i64 ((a : Int) + 1))) pb S (a + 1) g false) := hid_intro (HR1.out.at (a + 1) HAL.out _ (by omega))
  obtain ⟨ao, cap, c0, c1, c2, c3, fr, h1, h2, h3, h4, h5, h6⟩ := HR1.out
  have ff := fr 1
  clear h6 h4 h3 c2 c3 fr h5 h2 h1 c0 hb1
  go_wp2_with fail
  generalize w1.setCell ⟨pb, 1, none⟩ (.int .i64 ((a : Int) + 1)) = W2 at *
  clear HR1 c1 ff hw
  refine (i0 _).mono ?_; rintro r w3 ⟨rfl, rfl⟩
  go_wp2_with fail
  refine (i1 _).mono ?_; rintro r w3 ⟨rfl, rfl⟩
  go_wp2_with fail
  refine (i2 _).mono ?_; rintro r w3 ⟨rfl, rfl⟩
  clear i0 i1 i2
  go_wp2_with fail
  go_loopg [5, 8] 5 (fun m s5 s8 wr => ∃ i : Nat, i ≤ 5 ∧ m = 5 - i ∧ s8 = .int .i64 (i : Int) ∧ s5 = .int .i64 (if 0 < i then 9 else -1) ∧ wr = W2)
  case atStart => exact ⟨0, by omega, rfl, rfl, rfl, rfl⟩
  case round =>
    obtain ⟨i, hi, rfl, rfl, rfl, rfl⟩ := hrel
    have hcs : i = 0 ∨ i = 1 ∨ i = 2 ∨ i = 3 ∨ i = 4 ∨ i = 5 := by omega
    clear hi
    rcases hcs with rfl | rfl | rfl | rfl | rfl | rfl
    · have f0 : ∀ h, ((((⟨#[116, 110, 118, 102, 114]⟩ : ByteArray)[0]'h).toNat : Nat) : Int) = 116 := fun _ => rfl
      have f1 : wrap64 116 = 116 := w64 (by omega) (by omega)
      have t0 : ∀ h, ((((⟨#[9, 10, 11, 12, 13]⟩ : ByteArray)[0]'h).toNat : Nat) : Int) = 9 := fun _ => rfl
      have t1 : wrap64 9 = 9 := w64 (by omega) (by omega)
      go_wp2_with fail
      go_roundg 4
      case measure => omega
      case rel => exact ⟨1, by omega, rfl, rfl, rfl, rfl⟩
    · have f0 : ∀ h, ((((⟨#[116, 110, 118, 102, 114]⟩ : ByteArray)[1]'h).toNat : Nat) : Int) = 110 := fun _ => rfl
      have f1 : wrap64 110 = 110 := w64 (by omega) (by omega)
      have t0 : ∀ h, ((((⟨#[9, 10, 11, 12, 13]⟩ : ByteArray)[1]'h).toNat : Nat) : Int) = 10 := fun _ => rfl
      have t1 : wrap64 10 = 10 := w64 (by omega) (by omega)
      go_wp2_with fail
      go_roundg 3
      case measure => omega
      case rel => exact ⟨2, by omega, rfl, rfl, rfl, rfl⟩
    · have f0 : ∀ h, ((((⟨#[116, 110, 118, 102, 114]⟩ : ByteArray)[2]'h).toNat : Nat) : Int) = 118 := fun _ => rfl
      have f1 : wrap64 118 = 118 := w64 (by omega) (by omega)
      have t0 : ∀ h, ((((⟨#[9, 10, 11, 12, 13]⟩ : ByteArray)[2]'h).toNat : Nat) : Int) = 11 := fun _ => rfl
      have t1 : wrap64 11 = 11 := w64 (by omega) (by omega)
      go_wp2_with fail
      go_roundg 2
      case measure => omega
      case rel => exact ⟨3, by omega, rfl, rfl, rfl, rfl⟩
    · have f0 : ∀ h, ((((⟨#[116, 110, 118, 102, 114]⟩ : ByteArray)[3]'h).toNat : Nat) : Int) = 102 := fun _ => rfl
      have f1 : wrap64 102 = 102 := w64 (by omega) (by omega)
      have t0 : ∀ h, ((((⟨#[9, 10, 11, 12, 13]⟩ : ByteArray)[3]'h).toNat : Nat) : Int) = 12 := fun _ => rfl
      have t1 : wrap64 12 = 12 := w64 (by omega) (by omega)
      go_wp2_with fail
      go_roundg 1
      case measure => omega
      case rel => exact ⟨4, by omega, rfl, rfl, rfl, rfl⟩
    · have f0 : ∀ h, ((((⟨#[116, 110, 118, 102, 114]⟩ : ByteArray)[4]'h).toNat : Nat) : Int) = 114 := fun _ => rfl
      have f1 : wrap64 114 = 114 := w64 (by omega) (by omega)
      have t0 : ∀ h, ((((⟨#[9, 10, 11, 12, 13]⟩ : ByteArray)[4]'h).toNat : Nat) : Int) = 13 := fun _ => rfl
      have t1 : wrap64 13 = 13 := w64 (by omega) (by omega)
      go_wp2_with fail
      go_roundg 0
      case measure => omega
      case rel => exact ⟨5, by omega, rfl, rfl, rfl, rfl⟩
    · go_wp2_with fail
      refine (rone_any (9) _ ⟨by omega, by omega⟩).mono ?_; rintro r w9 ⟨v9, rfl, ho9, hb9⟩
      have HF := hid_intro (And.intro (HB1.out.below hb9) (And.intro (HR2.out.below hb9) (ho9.ri (· < w.heap.size) (fun b hb h => by have := HB1.out.size; have h2 : b < w.heap.size := h; omega))))
      clear hb9 ho9
      go_wp2_with fail
      rw [HP.out, HE.out]
      exact ⟨_, _, rfl, HF.out.1, a + 1, HF.out.2.1, HAK.out, rfl, rfl, HF.out.2.2⟩

set_option maxRecDepth 100000 in
set_option maxHeartbeats 1600000 in
theorem resc_110 (w : World) (pb a : Nat) (S : List Int) (g : Int) (hq : pk S a = 110) (h : RP w pb S a g false) :
    Calls Tryz.prog 75 #[.pointer (some ⟨pb, 0, none⟩)] w (EscP (escapeL (S.drop a)) S pb g w) := by
  obtain ⟨P, hP⟩ : ∃ P, P = EscP (escapeL (S.drop a)) S pb g w := ⟨_, rfl⟩
  rw [← hP]
  have HP := hid_intro hP
  have HR0 := hid_intro h
  have HPK := hid_intro (rpeek_any w pb a S g false h)
  have hlen := h.len
  have hmem := h.mem
  have hw : wrap64 ((a : Int) + 1) = (a : Int) + 1 := w64 (by omega) (by omega)
  have HAL : Hid (a + 1 ≤ S.length + 1) := hid_intro (by have := pk_lt (S := S) (a := a) (by omega); omega)
  have HAK : Hid (a + 1 ≤ S.length) := hid_intro (pk_lt (S := S) (a := a) (by omega))
  have hE := esc_in (S := S) (a := a) (by omega)
  rw [hq] at hE HPK
  have HE : Hid (escapeL (S.drop a) = some (.one 10, S.drop (a + 1))) := hid_intro (by rw [hE, show namedBy 110 = none by decide]; unfold escapedL; simp only [Int.reduceEq, reduceIte])
  clear hE hq
  have i0 : ∀ w', Calls Tryz.prog 59 #[.int .i64 110, .string ⟨#[100, 119, 115]⟩] w' fun r w2 => r = .returned (.bool false) ∧ w' = w2 := fun w' => by
    have := rin_s 110 ⟨#[100, 119, 115]⟩ w' (by decide)
    rw [show decide (110 ∈ ints ⟨#[100, 119, 115]⟩) = false by decide] at this
    exact this
  have i1 : ∀ w', Calls Tryz.prog 59 #[.int .i64 110, .string ⟨#[68, 87, 83]⟩] w' fun r w2 => r = .returned (.bool false) ∧ w' = w2 := fun w' => by
    have := rin_s 110 ⟨#[68, 87, 83]⟩ w' (by decide)
    rw [show decide (110 ∈ ints ⟨#[68, 87, 83]⟩) = false by decide] at this
    exact this
  have i2 : ∀ w', Calls Tryz.prog 59 #[.int .i64 110, .string ⟨#[116, 110, 118, 102, 114]⟩] w' fun r w2 => r = .returned (.bool true) ∧ w' = w2 := fun w' => by
    have := rin_s 110 ⟨#[116, 110, 118, 102, 114]⟩ w' (by decide)
    rw [show decide (110 ∈ ints ⟨#[116, 110, 118, 102, 114]⟩) = true by decide] at this
    exact this
  clear hP h hlen hmem
  go_enter Tryz.func75, Tryz.ntmps75
  go_wp2_with fail
  refine HPK.out.mono ?_; rintro r w1 ⟨rfl, hb1⟩
  have HR1 := hid_intro (HR0.out.below hb1)
  have HB1 : Hid (But (· = pb) w (w1.setCell ⟨pb, 1, none⟩ (.int .i64 ((a : Int) + 1)))) := hid_intro (But.setr (But.ofBelow hb1) _)
  have HR2 : Hid (RP (w1.setCell ⟨pb, 1, none⟩ (.int .i64 ((a : Int) + 1))) pb S (a + 1) g false) := hid_intro (HR1.out.at (a + 1) HAL.out _ (by omega))
  obtain ⟨ao, cap, c0, c1, c2, c3, fr, h1, h2, h3, h4, h5, h6⟩ := HR1.out
  have ff := fr 1
  clear h6 h4 h3 c2 c3 fr h5 h2 h1 c0 hb1
  go_wp2_with fail
  generalize w1.setCell ⟨pb, 1, none⟩ (.int .i64 ((a : Int) + 1)) = W2 at *
  clear HR1 c1 ff hw
  refine (i0 _).mono ?_; rintro r w3 ⟨rfl, rfl⟩
  go_wp2_with fail
  refine (i1 _).mono ?_; rintro r w3 ⟨rfl, rfl⟩
  go_wp2_with fail
  refine (i2 _).mono ?_; rintro r w3 ⟨rfl, rfl⟩
  clear i0 i1 i2
  go_wp2_with fail
  go_loopg [5, 8] 5 (fun m s5 s8 wr => ∃ i : Nat, i ≤ 5 ∧ m = 5 - i ∧ s8 = .int .i64 (i : Int) ∧ s5 = .int .i64 (if 1 < i then 10 else -1) ∧ wr = W2)
  case atStart => exact ⟨0, by omega, rfl, rfl, rfl, rfl⟩
  case round =>
    obtain ⟨i, hi, rfl, rfl, rfl, rfl⟩ := hrel
    have hcs : i = 0 ∨ i = 1 ∨ i = 2 ∨ i = 3 ∨ i = 4 ∨ i = 5 := by omega
    clear hi
    rcases hcs with rfl | rfl | rfl | rfl | rfl | rfl
    · have f0 : ∀ h, ((((⟨#[116, 110, 118, 102, 114]⟩ : ByteArray)[0]'h).toNat : Nat) : Int) = 116 := fun _ => rfl
      have f1 : wrap64 116 = 116 := w64 (by omega) (by omega)
      have t0 : ∀ h, ((((⟨#[9, 10, 11, 12, 13]⟩ : ByteArray)[0]'h).toNat : Nat) : Int) = 9 := fun _ => rfl
      have t1 : wrap64 9 = 9 := w64 (by omega) (by omega)
      go_wp2_with fail
      go_roundg 4
      case measure => omega
      case rel => exact ⟨1, by omega, rfl, rfl, rfl, rfl⟩
    · have f0 : ∀ h, ((((⟨#[116, 110, 118, 102, 114]⟩ : ByteArray)[1]'h).toNat : Nat) : Int) = 110 := fun _ => rfl
      have f1 : wrap64 110 = 110 := w64 (by omega) (by omega)
      have t0 : ∀ h, ((((⟨#[9, 10, 11, 12, 13]⟩ : ByteArray)[1]'h).toNat : Nat) : Int) = 10 := fun _ => rfl
      have t1 : wrap64 10 = 10 := w64 (by omega) (by omega)
      go_wp2_with fail
      go_roundg 3
      case measure => omega
      case rel => exact ⟨2, by omega, rfl, rfl, rfl, rfl⟩
    · have f0 : ∀ h, ((((⟨#[116, 110, 118, 102, 114]⟩ : ByteArray)[2]'h).toNat : Nat) : Int) = 118 := fun _ => rfl
      have f1 : wrap64 118 = 118 := w64 (by omega) (by omega)
      have t0 : ∀ h, ((((⟨#[9, 10, 11, 12, 13]⟩ : ByteArray)[2]'h).toNat : Nat) : Int) = 11 := fun _ => rfl
      have t1 : wrap64 11 = 11 := w64 (by omega) (by omega)
      go_wp2_with fail
      go_roundg 2
      case measure => omega
      case rel => exact ⟨3, by omega, rfl, rfl, rfl, rfl⟩
    · have f0 : ∀ h, ((((⟨#[116, 110, 118, 102, 114]⟩ : ByteArray)[3]'h).toNat : Nat) : Int) = 102 := fun _ => rfl
      have f1 : wrap64 102 = 102 := w64 (by omega) (by omega)
      have t0 : ∀ h, ((((⟨#[9, 10, 11, 12, 13]⟩ : ByteArray)[3]'h).toNat : Nat) : Int) = 12 := fun _ => rfl
      have t1 : wrap64 12 = 12 := w64 (by omega) (by omega)
      go_wp2_with fail
      go_roundg 1
      case measure => omega
      case rel => exact ⟨4, by omega, rfl, rfl, rfl, rfl⟩
    · have f0 : ∀ h, ((((⟨#[116, 110, 118, 102, 114]⟩ : ByteArray)[4]'h).toNat : Nat) : Int) = 114 := fun _ => rfl
      have f1 : wrap64 114 = 114 := w64 (by omega) (by omega)
      have t0 : ∀ h, ((((⟨#[9, 10, 11, 12, 13]⟩ : ByteArray)[4]'h).toNat : Nat) : Int) = 13 := fun _ => rfl
      have t1 : wrap64 13 = 13 := w64 (by omega) (by omega)
      go_wp2_with fail
      go_roundg 0
      case measure => omega
      case rel => exact ⟨5, by omega, rfl, rfl, rfl, rfl⟩
    · go_wp2_with fail
      refine (rone_any (10) _ ⟨by omega, by omega⟩).mono ?_; rintro r w9 ⟨v9, rfl, ho9, hb9⟩
      have HF := hid_intro (And.intro (HB1.out.below hb9) (And.intro (HR2.out.below hb9) (ho9.ri (· < w.heap.size) (fun b hb h => by have := HB1.out.size; have h2 : b < w.heap.size := h; omega))))
      clear hb9 ho9
      go_wp2_with fail
      rw [HP.out, HE.out]
      exact ⟨_, _, rfl, HF.out.1, a + 1, HF.out.2.1, HAK.out, rfl, rfl, HF.out.2.2⟩

set_option maxRecDepth 100000 in
set_option maxHeartbeats 1600000 in
theorem resc_118 (w : World) (pb a : Nat) (S : List Int) (g : Int) (hq : pk S a = 118) (h : RP w pb S a g false) :
    Calls Tryz.prog 75 #[.pointer (some ⟨pb, 0, none⟩)] w (EscP (escapeL (S.drop a)) S pb g w) := by
  obtain ⟨P, hP⟩ : ∃ P, P = EscP (escapeL (S.drop a)) S pb g w := ⟨_, rfl⟩
  rw [← hP]
  have HP := hid_intro hP
  have HR0 := hid_intro h
  have HPK := hid_intro (rpeek_any w pb a S g false h)
  have hlen := h.len
  have hmem := h.mem
  have hw : wrap64 ((a : Int) + 1) = (a : Int) + 1 := w64 (by omega) (by omega)
  have HAL : Hid (a + 1 ≤ S.length + 1) := hid_intro (by have := pk_lt (S := S) (a := a) (by omega); omega)
  have HAK : Hid (a + 1 ≤ S.length) := hid_intro (pk_lt (S := S) (a := a) (by omega))
  have hE := esc_in (S := S) (a := a) (by omega)
  rw [hq] at hE HPK
  have HE : Hid (escapeL (S.drop a) = some (.one 11, S.drop (a + 1))) := hid_intro (by rw [hE, show namedBy 118 = none by decide]; unfold escapedL; simp only [Int.reduceEq, reduceIte])
  clear hE hq
  have i0 : ∀ w', Calls Tryz.prog 59 #[.int .i64 118, .string ⟨#[100, 119, 115]⟩] w' fun r w2 => r = .returned (.bool false) ∧ w' = w2 := fun w' => by
    have := rin_s 118 ⟨#[100, 119, 115]⟩ w' (by decide)
    rw [show decide (118 ∈ ints ⟨#[100, 119, 115]⟩) = false by decide] at this
    exact this
  have i1 : ∀ w', Calls Tryz.prog 59 #[.int .i64 118, .string ⟨#[68, 87, 83]⟩] w' fun r w2 => r = .returned (.bool false) ∧ w' = w2 := fun w' => by
    have := rin_s 118 ⟨#[68, 87, 83]⟩ w' (by decide)
    rw [show decide (118 ∈ ints ⟨#[68, 87, 83]⟩) = false by decide] at this
    exact this
  have i2 : ∀ w', Calls Tryz.prog 59 #[.int .i64 118, .string ⟨#[116, 110, 118, 102, 114]⟩] w' fun r w2 => r = .returned (.bool true) ∧ w' = w2 := fun w' => by
    have := rin_s 118 ⟨#[116, 110, 118, 102, 114]⟩ w' (by decide)
    rw [show decide (118 ∈ ints ⟨#[116, 110, 118, 102, 114]⟩) = true by decide] at this
    exact this
  clear hP h hlen hmem
  go_enter Tryz.func75, Tryz.ntmps75
  go_wp2_with fail
  refine HPK.out.mono ?_; rintro r w1 ⟨rfl, hb1⟩
  have HR1 := hid_intro (HR0.out.below hb1)
  have HB1 : Hid (But (· = pb) w (w1.setCell ⟨pb, 1, none⟩ (.int .i64 ((a : Int) + 1)))) := hid_intro (But.setr (But.ofBelow hb1) _)
  have HR2 : Hid (RP (w1.setCell ⟨pb, 1, none⟩ (.int .i64 ((a : Int) + 1))) pb S (a + 1) g false) := hid_intro (HR1.out.at (a + 1) HAL.out _ (by omega))
  obtain ⟨ao, cap, c0, c1, c2, c3, fr, h1, h2, h3, h4, h5, h6⟩ := HR1.out
  have ff := fr 1
  clear h6 h4 h3 c2 c3 fr h5 h2 h1 c0 hb1
  go_wp2_with fail
  generalize w1.setCell ⟨pb, 1, none⟩ (.int .i64 ((a : Int) + 1)) = W2 at *
  clear HR1 c1 ff hw
  refine (i0 _).mono ?_; rintro r w3 ⟨rfl, rfl⟩
  go_wp2_with fail
  refine (i1 _).mono ?_; rintro r w3 ⟨rfl, rfl⟩
  go_wp2_with fail
  refine (i2 _).mono ?_; rintro r w3 ⟨rfl, rfl⟩
  clear i0 i1 i2
  go_wp2_with fail
  go_loopg [5, 8] 5 (fun m s5 s8 wr => ∃ i : Nat, i ≤ 5 ∧ m = 5 - i ∧ s8 = .int .i64 (i : Int) ∧ s5 = .int .i64 (if 2 < i then 11 else -1) ∧ wr = W2)
  case atStart => exact ⟨0, by omega, rfl, rfl, rfl, rfl⟩
  case round =>
    obtain ⟨i, hi, rfl, rfl, rfl, rfl⟩ := hrel
    have hcs : i = 0 ∨ i = 1 ∨ i = 2 ∨ i = 3 ∨ i = 4 ∨ i = 5 := by omega
    clear hi
    rcases hcs with rfl | rfl | rfl | rfl | rfl | rfl
    · have f0 : ∀ h, ((((⟨#[116, 110, 118, 102, 114]⟩ : ByteArray)[0]'h).toNat : Nat) : Int) = 116 := fun _ => rfl
      have f1 : wrap64 116 = 116 := w64 (by omega) (by omega)
      have t0 : ∀ h, ((((⟨#[9, 10, 11, 12, 13]⟩ : ByteArray)[0]'h).toNat : Nat) : Int) = 9 := fun _ => rfl
      have t1 : wrap64 9 = 9 := w64 (by omega) (by omega)
      go_wp2_with fail
      go_roundg 4
      case measure => omega
      case rel => exact ⟨1, by omega, rfl, rfl, rfl, rfl⟩
    · have f0 : ∀ h, ((((⟨#[116, 110, 118, 102, 114]⟩ : ByteArray)[1]'h).toNat : Nat) : Int) = 110 := fun _ => rfl
      have f1 : wrap64 110 = 110 := w64 (by omega) (by omega)
      have t0 : ∀ h, ((((⟨#[9, 10, 11, 12, 13]⟩ : ByteArray)[1]'h).toNat : Nat) : Int) = 10 := fun _ => rfl
      have t1 : wrap64 10 = 10 := w64 (by omega) (by omega)
      go_wp2_with fail
      go_roundg 3
      case measure => omega
      case rel => exact ⟨2, by omega, rfl, rfl, rfl, rfl⟩
    · have f0 : ∀ h, ((((⟨#[116, 110, 118, 102, 114]⟩ : ByteArray)[2]'h).toNat : Nat) : Int) = 118 := fun _ => rfl
      have f1 : wrap64 118 = 118 := w64 (by omega) (by omega)
      have t0 : ∀ h, ((((⟨#[9, 10, 11, 12, 13]⟩ : ByteArray)[2]'h).toNat : Nat) : Int) = 11 := fun _ => rfl
      have t1 : wrap64 11 = 11 := w64 (by omega) (by omega)
      go_wp2_with fail
      go_roundg 2
      case measure => omega
      case rel => exact ⟨3, by omega, rfl, rfl, rfl, rfl⟩
    · have f0 : ∀ h, ((((⟨#[116, 110, 118, 102, 114]⟩ : ByteArray)[3]'h).toNat : Nat) : Int) = 102 := fun _ => rfl
      have f1 : wrap64 102 = 102 := w64 (by omega) (by omega)
      have t0 : ∀ h, ((((⟨#[9, 10, 11, 12, 13]⟩ : ByteArray)[3]'h).toNat : Nat) : Int) = 12 := fun _ => rfl
      have t1 : wrap64 12 = 12 := w64 (by omega) (by omega)
      go_wp2_with fail
      go_roundg 1
      case measure => omega
      case rel => exact ⟨4, by omega, rfl, rfl, rfl, rfl⟩
    · have f0 : ∀ h, ((((⟨#[116, 110, 118, 102, 114]⟩ : ByteArray)[4]'h).toNat : Nat) : Int) = 114 := fun _ => rfl
      have f1 : wrap64 114 = 114 := w64 (by omega) (by omega)
      have t0 : ∀ h, ((((⟨#[9, 10, 11, 12, 13]⟩ : ByteArray)[4]'h).toNat : Nat) : Int) = 13 := fun _ => rfl
      have t1 : wrap64 13 = 13 := w64 (by omega) (by omega)
      go_wp2_with fail
      go_roundg 0
      case measure => omega
      case rel => exact ⟨5, by omega, rfl, rfl, rfl, rfl⟩
    · go_wp2_with fail
      refine (rone_any (11) _ ⟨by omega, by omega⟩).mono ?_; rintro r w9 ⟨v9, rfl, ho9, hb9⟩
      have HF := hid_intro (And.intro (HB1.out.below hb9) (And.intro (HR2.out.below hb9) (ho9.ri (· < w.heap.size) (fun b hb h => by have := HB1.out.size; have h2 : b < w.heap.size := h; omega))))
      clear hb9 ho9
      go_wp2_with fail
      rw [HP.out, HE.out]
      exact ⟨_, _, rfl, HF.out.1, a + 1, HF.out.2.1, HAK.out, rfl, rfl, HF.out.2.2⟩

set_option maxRecDepth 100000 in
set_option maxHeartbeats 1600000 in
theorem resc_102 (w : World) (pb a : Nat) (S : List Int) (g : Int) (hq : pk S a = 102) (h : RP w pb S a g false) :
    Calls Tryz.prog 75 #[.pointer (some ⟨pb, 0, none⟩)] w (EscP (escapeL (S.drop a)) S pb g w) := by
  obtain ⟨P, hP⟩ : ∃ P, P = EscP (escapeL (S.drop a)) S pb g w := ⟨_, rfl⟩
  rw [← hP]
  have HP := hid_intro hP
  have HR0 := hid_intro h
  have HPK := hid_intro (rpeek_any w pb a S g false h)
  have hlen := h.len
  have hmem := h.mem
  have hw : wrap64 ((a : Int) + 1) = (a : Int) + 1 := w64 (by omega) (by omega)
  have HAL : Hid (a + 1 ≤ S.length + 1) := hid_intro (by have := pk_lt (S := S) (a := a) (by omega); omega)
  have HAK : Hid (a + 1 ≤ S.length) := hid_intro (pk_lt (S := S) (a := a) (by omega))
  have hE := esc_in (S := S) (a := a) (by omega)
  rw [hq] at hE HPK
  have HE : Hid (escapeL (S.drop a) = some (.one 12, S.drop (a + 1))) := hid_intro (by rw [hE, show namedBy 102 = none by decide]; unfold escapedL; simp only [Int.reduceEq, reduceIte])
  clear hE hq
  have i0 : ∀ w', Calls Tryz.prog 59 #[.int .i64 102, .string ⟨#[100, 119, 115]⟩] w' fun r w2 => r = .returned (.bool false) ∧ w' = w2 := fun w' => by
    have := rin_s 102 ⟨#[100, 119, 115]⟩ w' (by decide)
    rw [show decide (102 ∈ ints ⟨#[100, 119, 115]⟩) = false by decide] at this
    exact this
  have i1 : ∀ w', Calls Tryz.prog 59 #[.int .i64 102, .string ⟨#[68, 87, 83]⟩] w' fun r w2 => r = .returned (.bool false) ∧ w' = w2 := fun w' => by
    have := rin_s 102 ⟨#[68, 87, 83]⟩ w' (by decide)
    rw [show decide (102 ∈ ints ⟨#[68, 87, 83]⟩) = false by decide] at this
    exact this
  have i2 : ∀ w', Calls Tryz.prog 59 #[.int .i64 102, .string ⟨#[116, 110, 118, 102, 114]⟩] w' fun r w2 => r = .returned (.bool true) ∧ w' = w2 := fun w' => by
    have := rin_s 102 ⟨#[116, 110, 118, 102, 114]⟩ w' (by decide)
    rw [show decide (102 ∈ ints ⟨#[116, 110, 118, 102, 114]⟩) = true by decide] at this
    exact this
  clear hP h hlen hmem
  go_enter Tryz.func75, Tryz.ntmps75
  go_wp2_with fail
  refine HPK.out.mono ?_; rintro r w1 ⟨rfl, hb1⟩
  have HR1 := hid_intro (HR0.out.below hb1)
  have HB1 : Hid (But (· = pb) w (w1.setCell ⟨pb, 1, none⟩ (.int .i64 ((a : Int) + 1)))) := hid_intro (But.setr (But.ofBelow hb1) _)
  have HR2 : Hid (RP (w1.setCell ⟨pb, 1, none⟩ (.int .i64 ((a : Int) + 1))) pb S (a + 1) g false) := hid_intro (HR1.out.at (a + 1) HAL.out _ (by omega))
  obtain ⟨ao, cap, c0, c1, c2, c3, fr, h1, h2, h3, h4, h5, h6⟩ := HR1.out
  have ff := fr 1
  clear h6 h4 h3 c2 c3 fr h5 h2 h1 c0 hb1
  go_wp2_with fail
  generalize w1.setCell ⟨pb, 1, none⟩ (.int .i64 ((a : Int) + 1)) = W2 at *
  clear HR1 c1 ff hw
  refine (i0 _).mono ?_; rintro r w3 ⟨rfl, rfl⟩
  go_wp2_with fail
  refine (i1 _).mono ?_; rintro r w3 ⟨rfl, rfl⟩
  go_wp2_with fail
  refine (i2 _).mono ?_; rintro r w3 ⟨rfl, rfl⟩
  clear i0 i1 i2
  go_wp2_with fail
  go_loopg [5, 8] 5 (fun m s5 s8 wr => ∃ i : Nat, i ≤ 5 ∧ m = 5 - i ∧ s8 = .int .i64 (i : Int) ∧ s5 = .int .i64 (if 3 < i then 12 else -1) ∧ wr = W2)
  case atStart => exact ⟨0, by omega, rfl, rfl, rfl, rfl⟩
  case round =>
    obtain ⟨i, hi, rfl, rfl, rfl, rfl⟩ := hrel
    have hcs : i = 0 ∨ i = 1 ∨ i = 2 ∨ i = 3 ∨ i = 4 ∨ i = 5 := by omega
    clear hi
    rcases hcs with rfl | rfl | rfl | rfl | rfl | rfl
    · have f0 : ∀ h, ((((⟨#[116, 110, 118, 102, 114]⟩ : ByteArray)[0]'h).toNat : Nat) : Int) = 116 := fun _ => rfl
      have f1 : wrap64 116 = 116 := w64 (by omega) (by omega)
      have t0 : ∀ h, ((((⟨#[9, 10, 11, 12, 13]⟩ : ByteArray)[0]'h).toNat : Nat) : Int) = 9 := fun _ => rfl
      have t1 : wrap64 9 = 9 := w64 (by omega) (by omega)
      go_wp2_with fail
      go_roundg 4
      case measure => omega
      case rel => exact ⟨1, by omega, rfl, rfl, rfl, rfl⟩
    · have f0 : ∀ h, ((((⟨#[116, 110, 118, 102, 114]⟩ : ByteArray)[1]'h).toNat : Nat) : Int) = 110 := fun _ => rfl
      have f1 : wrap64 110 = 110 := w64 (by omega) (by omega)
      have t0 : ∀ h, ((((⟨#[9, 10, 11, 12, 13]⟩ : ByteArray)[1]'h).toNat : Nat) : Int) = 10 := fun _ => rfl
      have t1 : wrap64 10 = 10 := w64 (by omega) (by omega)
      go_wp2_with fail
      go_roundg 3
      case measure => omega
      case rel => exact ⟨2, by omega, rfl, rfl, rfl, rfl⟩
    · have f0 : ∀ h, ((((⟨#[116, 110, 118, 102, 114]⟩ : ByteArray)[2]'h).toNat : Nat) : Int) = 118 := fun _ => rfl
      have f1 : wrap64 118 = 118 := w64 (by omega) (by omega)
      have t0 : ∀ h, ((((⟨#[9, 10, 11, 12, 13]⟩ : ByteArray)[2]'h).toNat : Nat) : Int) = 11 := fun _ => rfl
      have t1 : wrap64 11 = 11 := w64 (by omega) (by omega)
      go_wp2_with fail
      go_roundg 2
      case measure => omega
      case rel => exact ⟨3, by omega, rfl, rfl, rfl, rfl⟩
    · have f0 : ∀ h, ((((⟨#[116, 110, 118, 102, 114]⟩ : ByteArray)[3]'h).toNat : Nat) : Int) = 102 := fun _ => rfl
      have f1 : wrap64 102 = 102 := w64 (by omega) (by omega)
      have t0 : ∀ h, ((((⟨#[9, 10, 11, 12, 13]⟩ : ByteArray)[3]'h).toNat : Nat) : Int) = 12 := fun _ => rfl
      have t1 : wrap64 12 = 12 := w64 (by omega) (by omega)
      go_wp2_with fail
      go_roundg 1
      case measure => omega
      case rel => exact ⟨4, by omega, rfl, rfl, rfl, rfl⟩
    · have f0 : ∀ h, ((((⟨#[116, 110, 118, 102, 114]⟩ : ByteArray)[4]'h).toNat : Nat) : Int) = 114 := fun _ => rfl
      have f1 : wrap64 114 = 114 := w64 (by omega) (by omega)
      have t0 : ∀ h, ((((⟨#[9, 10, 11, 12, 13]⟩ : ByteArray)[4]'h).toNat : Nat) : Int) = 13 := fun _ => rfl
      have t1 : wrap64 13 = 13 := w64 (by omega) (by omega)
      go_wp2_with fail
      go_roundg 0
      case measure => omega
      case rel => exact ⟨5, by omega, rfl, rfl, rfl, rfl⟩
    · go_wp2_with fail
      refine (rone_any (12) _ ⟨by omega, by omega⟩).mono ?_; rintro r w9 ⟨v9, rfl, ho9, hb9⟩
      have HF := hid_intro (And.intro (HB1.out.below hb9) (And.intro (HR2.out.below hb9) (ho9.ri (· < w.heap.size) (fun b hb h => by have := HB1.out.size; have h2 : b < w.heap.size := h; omega))))
      clear hb9 ho9
      go_wp2_with fail
      rw [HP.out, HE.out]
      exact ⟨_, _, rfl, HF.out.1, a + 1, HF.out.2.1, HAK.out, rfl, rfl, HF.out.2.2⟩

set_option maxRecDepth 100000 in
set_option maxHeartbeats 1600000 in
theorem resc_114 (w : World) (pb a : Nat) (S : List Int) (g : Int) (hq : pk S a = 114) (h : RP w pb S a g false) :
    Calls Tryz.prog 75 #[.pointer (some ⟨pb, 0, none⟩)] w (EscP (escapeL (S.drop a)) S pb g w) := by
  obtain ⟨P, hP⟩ : ∃ P, P = EscP (escapeL (S.drop a)) S pb g w := ⟨_, rfl⟩
  rw [← hP]
  have HP := hid_intro hP
  have HR0 := hid_intro h
  have HPK := hid_intro (rpeek_any w pb a S g false h)
  have hlen := h.len
  have hmem := h.mem
  have hw : wrap64 ((a : Int) + 1) = (a : Int) + 1 := w64 (by omega) (by omega)
  have HAL : Hid (a + 1 ≤ S.length + 1) := hid_intro (by have := pk_lt (S := S) (a := a) (by omega); omega)
  have HAK : Hid (a + 1 ≤ S.length) := hid_intro (pk_lt (S := S) (a := a) (by omega))
  have hE := esc_in (S := S) (a := a) (by omega)
  rw [hq] at hE HPK
  have HE : Hid (escapeL (S.drop a) = some (.one 13, S.drop (a + 1))) := hid_intro (by rw [hE, show namedBy 114 = none by decide]; unfold escapedL; simp only [Int.reduceEq, reduceIte])
  clear hE hq
  have i0 : ∀ w', Calls Tryz.prog 59 #[.int .i64 114, .string ⟨#[100, 119, 115]⟩] w' fun r w2 => r = .returned (.bool false) ∧ w' = w2 := fun w' => by
    have := rin_s 114 ⟨#[100, 119, 115]⟩ w' (by decide)
    rw [show decide (114 ∈ ints ⟨#[100, 119, 115]⟩) = false by decide] at this
    exact this
  have i1 : ∀ w', Calls Tryz.prog 59 #[.int .i64 114, .string ⟨#[68, 87, 83]⟩] w' fun r w2 => r = .returned (.bool false) ∧ w' = w2 := fun w' => by
    have := rin_s 114 ⟨#[68, 87, 83]⟩ w' (by decide)
    rw [show decide (114 ∈ ints ⟨#[68, 87, 83]⟩) = false by decide] at this
    exact this
  have i2 : ∀ w', Calls Tryz.prog 59 #[.int .i64 114, .string ⟨#[116, 110, 118, 102, 114]⟩] w' fun r w2 => r = .returned (.bool true) ∧ w' = w2 := fun w' => by
    have := rin_s 114 ⟨#[116, 110, 118, 102, 114]⟩ w' (by decide)
    rw [show decide (114 ∈ ints ⟨#[116, 110, 118, 102, 114]⟩) = true by decide] at this
    exact this
  clear hP h hlen hmem
  go_enter Tryz.func75, Tryz.ntmps75
  go_wp2_with fail
  refine HPK.out.mono ?_; rintro r w1 ⟨rfl, hb1⟩
  have HR1 := hid_intro (HR0.out.below hb1)
  have HB1 : Hid (But (· = pb) w (w1.setCell ⟨pb, 1, none⟩ (.int .i64 ((a : Int) + 1)))) := hid_intro (But.setr (But.ofBelow hb1) _)
  have HR2 : Hid (RP (w1.setCell ⟨pb, 1, none⟩ (.int .i64 ((a : Int) + 1))) pb S (a + 1) g false) := hid_intro (HR1.out.at (a + 1) HAL.out _ (by omega))
  obtain ⟨ao, cap, c0, c1, c2, c3, fr, h1, h2, h3, h4, h5, h6⟩ := HR1.out
  have ff := fr 1
  clear h6 h4 h3 c2 c3 fr h5 h2 h1 c0 hb1
  go_wp2_with fail
  generalize w1.setCell ⟨pb, 1, none⟩ (.int .i64 ((a : Int) + 1)) = W2 at *
  clear HR1 c1 ff hw
  refine (i0 _).mono ?_; rintro r w3 ⟨rfl, rfl⟩
  go_wp2_with fail
  refine (i1 _).mono ?_; rintro r w3 ⟨rfl, rfl⟩
  go_wp2_with fail
  refine (i2 _).mono ?_; rintro r w3 ⟨rfl, rfl⟩
  clear i0 i1 i2
  go_wp2_with fail
  go_loopg [5, 8] 5 (fun m s5 s8 wr => ∃ i : Nat, i ≤ 5 ∧ m = 5 - i ∧ s8 = .int .i64 (i : Int) ∧ s5 = .int .i64 (if 4 < i then 13 else -1) ∧ wr = W2)
  case atStart => exact ⟨0, by omega, rfl, rfl, rfl, rfl⟩
  case round =>
    obtain ⟨i, hi, rfl, rfl, rfl, rfl⟩ := hrel
    have hcs : i = 0 ∨ i = 1 ∨ i = 2 ∨ i = 3 ∨ i = 4 ∨ i = 5 := by omega
    clear hi
    rcases hcs with rfl | rfl | rfl | rfl | rfl | rfl
    · have f0 : ∀ h, ((((⟨#[116, 110, 118, 102, 114]⟩ : ByteArray)[0]'h).toNat : Nat) : Int) = 116 := fun _ => rfl
      have f1 : wrap64 116 = 116 := w64 (by omega) (by omega)
      have t0 : ∀ h, ((((⟨#[9, 10, 11, 12, 13]⟩ : ByteArray)[0]'h).toNat : Nat) : Int) = 9 := fun _ => rfl
      have t1 : wrap64 9 = 9 := w64 (by omega) (by omega)
      go_wp2_with fail
      go_roundg 4
      case measure => omega
      case rel => exact ⟨1, by omega, rfl, rfl, rfl, rfl⟩
    · have f0 : ∀ h, ((((⟨#[116, 110, 118, 102, 114]⟩ : ByteArray)[1]'h).toNat : Nat) : Int) = 110 := fun _ => rfl
      have f1 : wrap64 110 = 110 := w64 (by omega) (by omega)
      have t0 : ∀ h, ((((⟨#[9, 10, 11, 12, 13]⟩ : ByteArray)[1]'h).toNat : Nat) : Int) = 10 := fun _ => rfl
      have t1 : wrap64 10 = 10 := w64 (by omega) (by omega)
      go_wp2_with fail
      go_roundg 3
      case measure => omega
      case rel => exact ⟨2, by omega, rfl, rfl, rfl, rfl⟩
    · have f0 : ∀ h, ((((⟨#[116, 110, 118, 102, 114]⟩ : ByteArray)[2]'h).toNat : Nat) : Int) = 118 := fun _ => rfl
      have f1 : wrap64 118 = 118 := w64 (by omega) (by omega)
      have t0 : ∀ h, ((((⟨#[9, 10, 11, 12, 13]⟩ : ByteArray)[2]'h).toNat : Nat) : Int) = 11 := fun _ => rfl
      have t1 : wrap64 11 = 11 := w64 (by omega) (by omega)
      go_wp2_with fail
      go_roundg 2
      case measure => omega
      case rel => exact ⟨3, by omega, rfl, rfl, rfl, rfl⟩
    · have f0 : ∀ h, ((((⟨#[116, 110, 118, 102, 114]⟩ : ByteArray)[3]'h).toNat : Nat) : Int) = 102 := fun _ => rfl
      have f1 : wrap64 102 = 102 := w64 (by omega) (by omega)
      have t0 : ∀ h, ((((⟨#[9, 10, 11, 12, 13]⟩ : ByteArray)[3]'h).toNat : Nat) : Int) = 12 := fun _ => rfl
      have t1 : wrap64 12 = 12 := w64 (by omega) (by omega)
      go_wp2_with fail
      go_roundg 1
      case measure => omega
      case rel => exact ⟨4, by omega, rfl, rfl, rfl, rfl⟩
    · have f0 : ∀ h, ((((⟨#[116, 110, 118, 102, 114]⟩ : ByteArray)[4]'h).toNat : Nat) : Int) = 114 := fun _ => rfl
      have f1 : wrap64 114 = 114 := w64 (by omega) (by omega)
      have t0 : ∀ h, ((((⟨#[9, 10, 11, 12, 13]⟩ : ByteArray)[4]'h).toNat : Nat) : Int) = 13 := fun _ => rfl
      have t1 : wrap64 13 = 13 := w64 (by omega) (by omega)
      go_wp2_with fail
      go_roundg 0
      case measure => omega
      case rel => exact ⟨5, by omega, rfl, rfl, rfl, rfl⟩
    · go_wp2_with fail
      refine (rone_any (13) _ ⟨by omega, by omega⟩).mono ?_; rintro r w9 ⟨v9, rfl, ho9, hb9⟩
      have HF := hid_intro (And.intro (HB1.out.below hb9) (And.intro (HR2.out.below hb9) (ho9.ri (· < w.heap.size) (fun b hb h => by have := HB1.out.size; have h2 : b < w.heap.size := h; omega))))
      clear hb9 ho9
      go_wp2_with fail
      rw [HP.out, HE.out]
      exact ⟨_, _, rfl, HF.out.1, a + 1, HF.out.2.1, HAK.out, rfl, rfl, HF.out.2.2⟩

set_option maxRecDepth 100000 in
set_option maxHeartbeats 1600000 in
theorem resc_48_dig (w : World) (pb a : Nat) (S : List Int) (g : Int) (hq : pk S a = 48) (hd : isDig (pk S (a + 1)) = true) (h : RP w pb S a g false) :
    Calls Tryz.prog 75 #[.pointer (some ⟨pb, 0, none⟩)] w (EscP (escapeL (S.drop a)) S pb g w) := by
  obtain ⟨P, hP⟩ : ∃ P, P = EscP (escapeL (S.drop a)) S pb g w := ⟨_, rfl⟩
  rw [← hP]
  have HP := hid_intro hP
  have HR0 := hid_intro h
  have HPK := hid_intro (rpeek_any w pb a S g false h)
  have hlen := h.len
  have hmem := h.mem
  have hw : wrap64 ((a : Int) + 1) = (a : Int) + 1 := w64 (by omega) (by omega)
  have HAL : Hid (a + 1 ≤ S.length + 1) := hid_intro (by have := pk_lt (S := S) (a := a) (by omega); omega)
  have HAK : Hid (a + 1 ≤ S.length) := hid_intro (pk_lt (S := S) (a := a) (by omega))
  have hE := esc_in (S := S) (a := a) (by omega)
  rw [hq] at hE HPK
  have hE2 : escapeL (S.drop a) = match escapedL 48 (S.drop (a + 1)) with | none => none | some (p, r') => some (.one p, r') := by rw [hE, show namedBy 48 = none by decide]
  have HE : Hid (escapeL (S.drop a) = none) := hid_intro (by
    rw [hE2]; unfold escapedL; simp only [Int.reduceEq, reduceIte]
    unfold noughtL; rw [pk_drop, Nat.add_zero, hd]; rfl)
  have hd1 := (isDig_iff _).1 hd
  have HP2 := hid_intro (fun w' (h : RP w' pb S (a + 1) g false) => rpeek_any w' pb (a + 1) S g false h)
  generalize pk S (a + 1) = q at *
  have hd2 : ¬ q < 48 := by omega
  have hd3 : ¬ 57 < q := by omega
  clear hE hq hE2 hd hd1
  have i0 : ∀ w', Calls Tryz.prog 59 #[.int .i64 48, .string ⟨#[100, 119, 115]⟩] w' fun r w2 => r = .returned (.bool false) ∧ w' = w2 := fun w' => by
    have := rin_s 48 ⟨#[100, 119, 115]⟩ w' (by decide)
    rw [show decide (48 ∈ ints ⟨#[100, 119, 115]⟩) = false by decide] at this
    exact this
  have i1 : ∀ w', Calls Tryz.prog 59 #[.int .i64 48, .string ⟨#[68, 87, 83]⟩] w' fun r w2 => r = .returned (.bool false) ∧ w' = w2 := fun w' => by
    have := rin_s 48 ⟨#[68, 87, 83]⟩ w' (by decide)
    rw [show decide (48 ∈ ints ⟨#[68, 87, 83]⟩) = false by decide] at this
    exact this
  have i2 : ∀ w', Calls Tryz.prog 59 #[.int .i64 48, .string ⟨#[116, 110, 118, 102, 114]⟩] w' fun r w2 => r = .returned (.bool false) ∧ w' = w2 := fun w' => by
    have := rin_s 48 ⟨#[116, 110, 118, 102, 114]⟩ w' (by decide)
    rw [show decide (48 ∈ ints ⟨#[116, 110, 118, 102, 114]⟩) = false by decide] at this
    exact this
  clear hP h hlen hmem
  go_enter Tryz.func75, Tryz.ntmps75
  go_wp2_with fail
  refine HPK.out.mono ?_; rintro r w1 ⟨rfl, hb1⟩
  have HR1 := hid_intro (HR0.out.below hb1)
  have HB1 : Hid (But (· = pb) w (w1.setCell ⟨pb, 1, none⟩ (.int .i64 ((a : Int) + 1)))) := hid_intro (But.setr (But.ofBelow hb1) _)
  have HR2 : Hid (RP (w1.setCell ⟨pb, 1, none⟩ (.int .i64 ((a : Int) + 1))) pb S (a + 1) g false) := hid_intro (HR1.out.at (a + 1) HAL.out _ (by omega))
  obtain ⟨ao, cap, c0, c1, c2, c3, fr, h1, h2, h3, h4, h5, h6⟩ := HR1.out
  have ff := fr 1
  clear h6 h4 h3 c2 c3 fr h5 h2 h1 c0 hb1
  go_wp2_with fail
  generalize w1.setCell ⟨pb, 1, none⟩ (.int .i64 ((a : Int) + 1)) = W2 at *
  clear HR1 c1 ff hw
  refine (i0 _).mono ?_; rintro r w3 ⟨rfl, rfl⟩
  go_wp2_with fail
  refine (i1 _).mono ?_; rintro r w3 ⟨rfl, rfl⟩
  go_wp2_with fail
  refine (i2 _).mono ?_; rintro r w3 ⟨rfl, rfl⟩
  clear i0 i1 i2
  go_wp2_with fail
  refine (HP2.out _ HR2.out).mono ?_; rintro r w4 ⟨rfl, hb4⟩
  have HR4 := hid_intro (HR2.out.below hb4)
  have HB4 := hid_intro (HB1.out.below hb4)
  clear hb4
  go_wp2_with fail
  refine (HP2.out _ HR4.out).mono ?_; rintro r w5 ⟨rfl, hb5⟩
  have HR5 := hid_intro (HR4.out.below hb5)
  have HB5 := hid_intro (HB4.out.below hb5)
  clear hb5
  go_wp2_with fail
  refine (rfail_any _ _ _ _ _ _ HR5.out).mono ?_; rintro r w9 ⟨rfl, hb9, hr9⟩
  have HF := hid_intro (And.intro (HB5.out.trans hb9) hr9)
  clear hb9 hr9
  go_wp2_with fail
  rw [HP.out, HE.out]
  exact ⟨_, _, rfl, HF.out.1, _, HF.out.2, Or.inl rfl⟩

set_option maxRecDepth 100000 in
set_option maxHeartbeats 1600000 in
theorem resc_48_lo (w : World) (pb a : Nat) (S : List Int) (g : Int) (hq : pk S a = 48) (hd : pk S (a + 1) < 48) (h : RP w pb S a g false) :
    Calls Tryz.prog 75 #[.pointer (some ⟨pb, 0, none⟩)] w (EscP (escapeL (S.drop a)) S pb g w) := by
  obtain ⟨P, hP⟩ : ∃ P, P = EscP (escapeL (S.drop a)) S pb g w := ⟨_, rfl⟩
  rw [← hP]
  have HP := hid_intro hP
  have HR0 := hid_intro h
  have HPK := hid_intro (rpeek_any w pb a S g false h)
  have hlen := h.len
  have hmem := h.mem
  have hw : wrap64 ((a : Int) + 1) = (a : Int) + 1 := w64 (by omega) (by omega)
  have HAL : Hid (a + 1 ≤ S.length + 1) := hid_intro (by have := pk_lt (S := S) (a := a) (by omega); omega)
  have HAK : Hid (a + 1 ≤ S.length) := hid_intro (pk_lt (S := S) (a := a) (by omega))
  have hE := esc_in (S := S) (a := a) (by omega)
  rw [hq] at hE HPK
  have hE2 : escapeL (S.drop a) = match escapedL 48 (S.drop (a + 1)) with | none => none | some (p, r') => some (.one p, r') := by rw [hE, show namedBy 48 = none by decide]
  have HE : Hid (escapeL (S.drop a) = some (.one 0, S.drop (a + 1))) := hid_intro (by
    rw [hE2]; unfold escapedL; simp only [Int.reduceEq, reduceIte]
    unfold noughtL; rw [pk_drop, Nat.add_zero, isDig_no (by omega)]; rfl)
  have HP2 := hid_intro (fun w' (h : RP w' pb S (a + 1) g false) => rpeek_any w' pb (a + 1) S g false h)
  generalize pk S (a + 1) = q at *
  clear hE hq hE2
  have i0 : ∀ w', Calls Tryz.prog 59 #[.int .i64 48, .string ⟨#[100, 119, 115]⟩] w' fun r w2 => r = .returned (.bool false) ∧ w' = w2 := fun w' => by
    have := rin_s 48 ⟨#[100, 119, 115]⟩ w' (by decide)
    rw [show decide (48 ∈ ints ⟨#[100, 119, 115]⟩) = false by decide] at this
    exact this
  have i1 : ∀ w', Calls Tryz.prog 59 #[.int .i64 48, .string ⟨#[68, 87, 83]⟩] w' fun r w2 => r = .returned (.bool false) ∧ w' = w2 := fun w' => by
    have := rin_s 48 ⟨#[68, 87, 83]⟩ w' (by decide)
    rw [show decide (48 ∈ ints ⟨#[68, 87, 83]⟩) = false by decide] at this
    exact this
  have i2 : ∀ w', Calls Tryz.prog 59 #[.int .i64 48, .string ⟨#[116, 110, 118, 102, 114]⟩] w' fun r w2 => r = .returned (.bool false) ∧ w' = w2 := fun w' => by
    have := rin_s 48 ⟨#[116, 110, 118, 102, 114]⟩ w' (by decide)
    rw [show decide (48 ∈ ints ⟨#[116, 110, 118, 102, 114]⟩) = false by decide] at this
    exact this
  clear hP h hlen hmem
  go_enter Tryz.func75, Tryz.ntmps75
  go_wp2_with fail
  refine HPK.out.mono ?_; rintro r w1 ⟨rfl, hb1⟩
  have HR1 := hid_intro (HR0.out.below hb1)
  have HB1 : Hid (But (· = pb) w (w1.setCell ⟨pb, 1, none⟩ (.int .i64 ((a : Int) + 1)))) := hid_intro (But.setr (But.ofBelow hb1) _)
  have HR2 : Hid (RP (w1.setCell ⟨pb, 1, none⟩ (.int .i64 ((a : Int) + 1))) pb S (a + 1) g false) := hid_intro (HR1.out.at (a + 1) HAL.out _ (by omega))
  obtain ⟨ao, cap, c0, c1, c2, c3, fr, h1, h2, h3, h4, h5, h6⟩ := HR1.out
  have ff := fr 1
  clear h6 h4 h3 c2 c3 fr h5 h2 h1 c0 hb1
  go_wp2_with fail
  generalize w1.setCell ⟨pb, 1, none⟩ (.int .i64 ((a : Int) + 1)) = W2 at *
  clear HR1 c1 ff hw
  refine (i0 _).mono ?_; rintro r w3 ⟨rfl, rfl⟩
  go_wp2_with fail
  refine (i1 _).mono ?_; rintro r w3 ⟨rfl, rfl⟩
  go_wp2_with fail
  refine (i2 _).mono ?_; rintro r w3 ⟨rfl, rfl⟩
  clear i0 i1 i2
  go_wp2_with fail
  refine (HP2.out _ HR2.out).mono ?_; rintro r w4 ⟨rfl, hb4⟩
  have HR4 := hid_intro (HR2.out.below hb4)
  have HB4 := hid_intro (HB1.out.below hb4)
  clear hb4
  go_wp2_with fail
  refine (rone_any (0) _ ⟨by omega, by omega⟩).mono ?_; rintro r w9 ⟨v9, rfl, ho9, hb9⟩
  have HF := hid_intro (And.intro (HB4.out.below hb9) (And.intro (HR4.out.below hb9) (ho9.ri (· < w.heap.size) (fun b hb h => by have := HB4.out.size; have h2 : b < w.heap.size := h; omega))))
  clear hb9 ho9
  go_wp2_with fail
  rw [HP.out, HE.out]
  exact ⟨_, _, rfl, HF.out.1, a + 1, HF.out.2.1, HAK.out, rfl, rfl, HF.out.2.2⟩

set_option maxRecDepth 100000 in
set_option maxHeartbeats 1600000 in
theorem resc_48_hi (w : World) (pb a : Nat) (S : List Int) (g : Int) (hq : pk S a = 48) (hd : 57 < pk S (a + 1)) (h : RP w pb S a g false) :
    Calls Tryz.prog 75 #[.pointer (some ⟨pb, 0, none⟩)] w (EscP (escapeL (S.drop a)) S pb g w) := by
  obtain ⟨P, hP⟩ : ∃ P, P = EscP (escapeL (S.drop a)) S pb g w := ⟨_, rfl⟩
  rw [← hP]
  have HP := hid_intro hP
  have HR0 := hid_intro h
  have HPK := hid_intro (rpeek_any w pb a S g false h)
  have hlen := h.len
  have hmem := h.mem
  have hw : wrap64 ((a : Int) + 1) = (a : Int) + 1 := w64 (by omega) (by omega)
  have HAL : Hid (a + 1 ≤ S.length + 1) := hid_intro (by have := pk_lt (S := S) (a := a) (by omega); omega)
  have HAK : Hid (a + 1 ≤ S.length) := hid_intro (pk_lt (S := S) (a := a) (by omega))
  have hE := esc_in (S := S) (a := a) (by omega)
  rw [hq] at hE HPK
  have hE2 : escapeL (S.drop a) = match escapedL 48 (S.drop (a + 1)) with | none => none | some (p, r') => some (.one p, r') := by rw [hE, show namedBy 48 = none by decide]
  have HE : Hid (escapeL (S.drop a) = some (.one 0, S.drop (a + 1))) := hid_intro (by
    rw [hE2]; unfold escapedL; simp only [Int.reduceEq, reduceIte]
    unfold noughtL; rw [pk_drop, Nat.add_zero, isDig_no (by omega)]; rfl)
  have HP2 := hid_intro (fun w' (h : RP w' pb S (a + 1) g false) => rpeek_any w' pb (a + 1) S g false h)
  generalize pk S (a + 1) = q at *
  have hd2 : ¬ q < 48 := by omega
  clear hE hq hE2
  have i0 : ∀ w', Calls Tryz.prog 59 #[.int .i64 48, .string ⟨#[100, 119, 115]⟩] w' fun r w2 => r = .returned (.bool false) ∧ w' = w2 := fun w' => by
    have := rin_s 48 ⟨#[100, 119, 115]⟩ w' (by decide)
    rw [show decide (48 ∈ ints ⟨#[100, 119, 115]⟩) = false by decide] at this
    exact this
  have i1 : ∀ w', Calls Tryz.prog 59 #[.int .i64 48, .string ⟨#[68, 87, 83]⟩] w' fun r w2 => r = .returned (.bool false) ∧ w' = w2 := fun w' => by
    have := rin_s 48 ⟨#[68, 87, 83]⟩ w' (by decide)
    rw [show decide (48 ∈ ints ⟨#[68, 87, 83]⟩) = false by decide] at this
    exact this
  have i2 : ∀ w', Calls Tryz.prog 59 #[.int .i64 48, .string ⟨#[116, 110, 118, 102, 114]⟩] w' fun r w2 => r = .returned (.bool false) ∧ w' = w2 := fun w' => by
    have := rin_s 48 ⟨#[116, 110, 118, 102, 114]⟩ w' (by decide)
    rw [show decide (48 ∈ ints ⟨#[116, 110, 118, 102, 114]⟩) = false by decide] at this
    exact this
  clear hP h hlen hmem
  go_enter Tryz.func75, Tryz.ntmps75
  go_wp2_with fail
  refine HPK.out.mono ?_; rintro r w1 ⟨rfl, hb1⟩
  have HR1 := hid_intro (HR0.out.below hb1)
  have HB1 : Hid (But (· = pb) w (w1.setCell ⟨pb, 1, none⟩ (.int .i64 ((a : Int) + 1)))) := hid_intro (But.setr (But.ofBelow hb1) _)
  have HR2 : Hid (RP (w1.setCell ⟨pb, 1, none⟩ (.int .i64 ((a : Int) + 1))) pb S (a + 1) g false) := hid_intro (HR1.out.at (a + 1) HAL.out _ (by omega))
  obtain ⟨ao, cap, c0, c1, c2, c3, fr, h1, h2, h3, h4, h5, h6⟩ := HR1.out
  have ff := fr 1
  clear h6 h4 h3 c2 c3 fr h5 h2 h1 c0 hb1
  go_wp2_with fail
  generalize w1.setCell ⟨pb, 1, none⟩ (.int .i64 ((a : Int) + 1)) = W2 at *
  clear HR1 c1 ff hw
  refine (i0 _).mono ?_; rintro r w3 ⟨rfl, rfl⟩
  go_wp2_with fail
  refine (i1 _).mono ?_; rintro r w3 ⟨rfl, rfl⟩
  go_wp2_with fail
  refine (i2 _).mono ?_; rintro r w3 ⟨rfl, rfl⟩
  clear i0 i1 i2
  go_wp2_with fail
  refine (HP2.out _ HR2.out).mono ?_; rintro r w4 ⟨rfl, hb4⟩
  have HR4 := hid_intro (HR2.out.below hb4)
  have HB4 := hid_intro (HB1.out.below hb4)
  clear hb4
  go_wp2_with fail
  refine (HP2.out _ HR4.out).mono ?_; rintro r w5 ⟨rfl, hb5⟩
  have HR5 := hid_intro (HR4.out.below hb5)
  have HB5 := hid_intro (HB4.out.below hb5)
  clear hb5
  go_wp2_with fail
  refine (rone_any (0) _ ⟨by omega, by omega⟩).mono ?_; rintro r w9 ⟨v9, rfl, ho9, hb9⟩
  have HF := hid_intro (And.intro (HB5.out.below hb9) (And.intro (HR5.out.below hb9) (ho9.ri (· < w.heap.size) (fun b hb h => by have := HB5.out.size; have h2 : b < w.heap.size := h; omega))))
  clear hb9 ho9
  go_wp2_with fail
  rw [HP.out, HE.out]
  exact ⟨_, _, rfl, HF.out.1, a + 1, HF.out.2.1, HAK.out, rfl, rfl, HF.out.2.2⟩

set_option maxRecDepth 100000 in
set_option maxHeartbeats 1600000 in
theorem resc_99_no (w : World) (pb a : Nat) (S : List Int) (g : Int) (hq : pk S a = 99) (hd : isLet (pk S (a + 1)) = false) (h : RP w pb S a g false) :
    Calls Tryz.prog 75 #[.pointer (some ⟨pb, 0, none⟩)] w (EscP (escapeL (S.drop a)) S pb g w) := by
  obtain ⟨P, hP⟩ : ∃ P, P = EscP (escapeL (S.drop a)) S pb g w := ⟨_, rfl⟩
  rw [← hP]
  have HP := hid_intro hP
  have HR0 := hid_intro h
  have HPK := hid_intro (rpeek_any w pb a S g false h)
  have hlen := h.len
  have hmem := h.mem
  have hw : wrap64 ((a : Int) + 1) = (a : Int) + 1 := w64 (by omega) (by omega)
  have HAL : Hid (a + 1 ≤ S.length + 1) := hid_intro (by have := pk_lt (S := S) (a := a) (by omega); omega)
  have HAK : Hid (a + 1 ≤ S.length) := hid_intro (pk_lt (S := S) (a := a) (by omega))
  have hE := esc_in (S := S) (a := a) (by omega)
  rw [hq] at hE HPK
  have hE2 : escapeL (S.drop a) = match escapedL 99 (S.drop (a + 1)) with | none => none | some (p, r') => some (.one p, r') := by rw [hE, show namedBy 99 = none by decide]
  have HE : Hid (escapeL (S.drop a) = none) := hid_intro (by
    rw [hE2]; unfold escapedL; simp only [Int.reduceEq, reduceIte]
    by_cases hk : a + 1 < S.length
    · rw [drop_at hk]; unfold controlL; simp only [hd]; rfl
    · rw [drop_out (by omega)]; rfl)
  have HP2 := hid_intro (fun w' (h : RP w' pb S (a + 1) g false) => rpeek_any w' pb (a + 1) S g false h)
  generalize pk S (a + 1) = q at *
  have hcs : q < 65 ∨ (90 < q ∧ q < 97) ∨ 122 < q := by
    have : ¬ ((97 ≤ q ∧ q ≤ 122) ∨ (65 ≤ q ∧ q ≤ 90)) := fun h => by
      have : isLet q = true := by simpa [isLet] using h
      rw [this] at hd; simp at hd
    omega
  clear hE hq hE2 hd
  have i0 : ∀ w', Calls Tryz.prog 59 #[.int .i64 99, .string ⟨#[100, 119, 115]⟩] w' fun r w2 => r = .returned (.bool false) ∧ w' = w2 := fun w' => by
    have := rin_s 99 ⟨#[100, 119, 115]⟩ w' (by decide)
    rw [show decide (99 ∈ ints ⟨#[100, 119, 115]⟩) = false by decide] at this
    exact this
  have i1 : ∀ w', Calls Tryz.prog 59 #[.int .i64 99, .string ⟨#[68, 87, 83]⟩] w' fun r w2 => r = .returned (.bool false) ∧ w' = w2 := fun w' => by
    have := rin_s 99 ⟨#[68, 87, 83]⟩ w' (by decide)
    rw [show decide (99 ∈ ints ⟨#[68, 87, 83]⟩) = false by decide] at this
    exact this
  have i2 : ∀ w', Calls Tryz.prog 59 #[.int .i64 99, .string ⟨#[116, 110, 118, 102, 114]⟩] w' fun r w2 => r = .returned (.bool false) ∧ w' = w2 := fun w' => by
    have := rin_s 99 ⟨#[116, 110, 118, 102, 114]⟩ w' (by decide)
    rw [show decide (99 ∈ ints ⟨#[116, 110, 118, 102, 114]⟩) = false by decide] at this
    exact this
  clear hP h hlen hmem
  rcases hcs with hc | ⟨hc, hc2⟩ | hc
  · have k1 : ¬ 97 ≤ q := by omega
    have k2 : ¬ 65 ≤ q := by omega
    clear hc
    go_enter Tryz.func75, Tryz.ntmps75
    go_wp2_with fail
    refine HPK.out.mono ?_; rintro r w1 ⟨rfl, hb1⟩
    have HR1 := hid_intro (HR0.out.below hb1)
    have HB1 : Hid (But (· = pb) w (w1.setCell ⟨pb, 1, none⟩ (.int .i64 ((a : Int) + 1)))) := hid_intro (But.setr (But.ofBelow hb1) _)
    have HR2 : Hid (RP (w1.setCell ⟨pb, 1, none⟩ (.int .i64 ((a : Int) + 1))) pb S (a + 1) g false) := hid_intro (HR1.out.at (a + 1) HAL.out _ (by omega))
    obtain ⟨ao, cap, c0, c1, c2, c3, fr, h1, h2, h3, h4, h5, h6⟩ := HR1.out
    have ff := fr 1
    clear h6 h4 h3 c2 c3 fr h5 h2 h1 c0 hb1
    go_wp2_with fail
    generalize w1.setCell ⟨pb, 1, none⟩ (.int .i64 ((a : Int) + 1)) = W2 at *
    clear HR1 c1 ff hw
    refine (i0 _).mono ?_; rintro r w3 ⟨rfl, rfl⟩
    go_wp2_with fail
    refine (i1 _).mono ?_; rintro r w3 ⟨rfl, rfl⟩
    go_wp2_with fail
    refine (i2 _).mono ?_; rintro r w3 ⟨rfl, rfl⟩
    clear i0 i1 i2
    go_wp2_with fail
    refine (HP2.out _ HR2.out).mono ?_; rintro r w4 ⟨rfl, hb4⟩
    have HR4 := hid_intro (HR2.out.below hb4)
    have HB4 := hid_intro (HB1.out.below hb4)
    clear hb4
    go_wp2_with fail
    refine (rfail_any _ _ _ _ _ _ HR4.out).mono ?_; rintro r w9 ⟨rfl, hb9, hr9⟩
    have HF := hid_intro (And.intro (HB4.out.trans hb9) hr9)
    clear hb9 hr9
    go_wp2_with fail
    rw [HP.out, HE.out]
    exact ⟨_, _, rfl, HF.out.1, _, HF.out.2, Or.inl rfl⟩
  · have k1 : ¬ 97 ≤ q := by omega
    have k2 : 65 ≤ q := by omega
    have k3 : ¬ q ≤ 90 := by omega
    clear hc hc2
    go_enter Tryz.func75, Tryz.ntmps75
    go_wp2_with fail
    refine HPK.out.mono ?_; rintro r w1 ⟨rfl, hb1⟩
    have HR1 := hid_intro (HR0.out.below hb1)
    have HB1 : Hid (But (· = pb) w (w1.setCell ⟨pb, 1, none⟩ (.int .i64 ((a : Int) + 1)))) := hid_intro (But.setr (But.ofBelow hb1) _)
    have HR2 : Hid (RP (w1.setCell ⟨pb, 1, none⟩ (.int .i64 ((a : Int) + 1))) pb S (a + 1) g false) := hid_intro (HR1.out.at (a + 1) HAL.out _ (by omega))
    obtain ⟨ao, cap, c0, c1, c2, c3, fr, h1, h2, h3, h4, h5, h6⟩ := HR1.out
    have ff := fr 1
    clear h6 h4 h3 c2 c3 fr h5 h2 h1 c0 hb1
    go_wp2_with fail
    generalize w1.setCell ⟨pb, 1, none⟩ (.int .i64 ((a : Int) + 1)) = W2 at *
    clear HR1 c1 ff hw
    refine (i0 _).mono ?_; rintro r w3 ⟨rfl, rfl⟩
    go_wp2_with fail
    refine (i1 _).mono ?_; rintro r w3 ⟨rfl, rfl⟩
    go_wp2_with fail
    refine (i2 _).mono ?_; rintro r w3 ⟨rfl, rfl⟩
    clear i0 i1 i2
    go_wp2_with fail
    refine (HP2.out _ HR2.out).mono ?_; rintro r w4 ⟨rfl, hb4⟩
    have HR4 := hid_intro (HR2.out.below hb4)
    have HB4 := hid_intro (HB1.out.below hb4)
    clear hb4
    go_wp2_with fail
    refine (rfail_any _ _ _ _ _ _ HR4.out).mono ?_; rintro r w9 ⟨rfl, hb9, hr9⟩
    have HF := hid_intro (And.intro (HB4.out.trans hb9) hr9)
    clear hb9 hr9
    go_wp2_with fail
    rw [HP.out, HE.out]
    exact ⟨_, _, rfl, HF.out.1, _, HF.out.2, Or.inl rfl⟩
  · have k1 : 97 ≤ q := by omega
    have k2 : ¬ q ≤ 122 := by omega
    have k3 : 65 ≤ q := by omega
    have k4 : ¬ q ≤ 90 := by omega
    clear hc
    go_enter Tryz.func75, Tryz.ntmps75
    go_wp2_with fail
    refine HPK.out.mono ?_; rintro r w1 ⟨rfl, hb1⟩
    have HR1 := hid_intro (HR0.out.below hb1)
    have HB1 : Hid (But (· = pb) w (w1.setCell ⟨pb, 1, none⟩ (.int .i64 ((a : Int) + 1)))) := hid_intro (But.setr (But.ofBelow hb1) _)
    have HR2 : Hid (RP (w1.setCell ⟨pb, 1, none⟩ (.int .i64 ((a : Int) + 1))) pb S (a + 1) g false) := hid_intro (HR1.out.at (a + 1) HAL.out _ (by omega))
    obtain ⟨ao, cap, c0, c1, c2, c3, fr, h1, h2, h3, h4, h5, h6⟩ := HR1.out
    have ff := fr 1
    clear h6 h4 h3 c2 c3 fr h5 h2 h1 c0 hb1
    go_wp2_with fail
    generalize w1.setCell ⟨pb, 1, none⟩ (.int .i64 ((a : Int) + 1)) = W2 at *
    clear HR1 c1 ff hw
    refine (i0 _).mono ?_; rintro r w3 ⟨rfl, rfl⟩
    go_wp2_with fail
    refine (i1 _).mono ?_; rintro r w3 ⟨rfl, rfl⟩
    go_wp2_with fail
    refine (i2 _).mono ?_; rintro r w3 ⟨rfl, rfl⟩
    clear i0 i1 i2
    go_wp2_with fail
    refine (HP2.out _ HR2.out).mono ?_; rintro r w4 ⟨rfl, hb4⟩
    have HR4 := hid_intro (HR2.out.below hb4)
    have HB4 := hid_intro (HB1.out.below hb4)
    clear hb4
    go_wp2_with fail
    refine (rfail_any _ _ _ _ _ _ HR4.out).mono ?_; rintro r w9 ⟨rfl, hb9, hr9⟩
    have HF := hid_intro (And.intro (HB4.out.trans hb9) hr9)
    clear hb9 hr9
    go_wp2_with fail
    rw [HP.out, HE.out]
    exact ⟨_, _, rfl, HF.out.1, _, HF.out.2, Or.inl rfl⟩

set_option maxRecDepth 100000 in
set_option maxHeartbeats 1600000 in
theorem resc_99_yes (w : World) (pb a : Nat) (S : List Int) (g : Int) (hq : pk S a = 99) (hd : isLet (pk S (a + 1)) = true) (h : RP w pb S a g false) :
    Calls Tryz.prog 75 #[.pointer (some ⟨pb, 0, none⟩)] w (EscP (escapeL (S.drop a)) S pb g w) := by
  obtain ⟨P, hP⟩ : ∃ P, P = EscP (escapeL (S.drop a)) S pb g w := ⟨_, rfl⟩
  rw [← hP]
  have HP := hid_intro hP
  have HR0 := hid_intro h
  have HPK := hid_intro (rpeek_any w pb a S g false h)
  have hlen := h.len
  have hmem := h.mem
  have hw : wrap64 ((a : Int) + 1) = (a : Int) + 1 := w64 (by omega) (by omega)
  have HAL : Hid (a + 1 ≤ S.length + 1) := hid_intro (by have := pk_lt (S := S) (a := a) (by omega); omega)
  have HAK : Hid (a + 1 ≤ S.length) := hid_intro (pk_lt (S := S) (a := a) (by omega))
  have hE := esc_in (S := S) (a := a) (by omega)
  rw [hq] at hE HPK
  have hE2 : escapeL (S.drop a) = match escapedL 99 (S.drop (a + 1)) with | none => none | some (p, r') => some (.one p, r') := by rw [hE, show namedBy 99 = none by decide]
  have hk : a + 1 < S.length := by
    by_cases hk : a + 1 < S.length
    · exact hk
    · rw [pk_out (by omega)] at hd; simp [isLet] at hd
  have HE : Hid (escapeL (S.drop a) = some (.one (pk S (a + 1) % 32), S.drop (a + 1 + 1))) := hid_intro (by
    rw [hE2]; unfold escapedL; simp only [Int.reduceEq, reduceIte]
    rw [drop_at hk]; unfold controlL; simp only [hd, reduceIte])
  have HK2 := hid_intro hk
  have HP2 := hid_intro (fun w' (h : RP w' pb S (a + 1) g false) => rpeek_any w' pb (a + 1) S g false h)
  have hwb : wrap64 ((a : Int) + 1 + 1) = (a : Int) + 1 + 1 := w64 (by omega) (by omega)
  have HWB := hid_intro hwb
  generalize pk S (a + 1) = q at *
  have hcs : (97 ≤ q ∧ q ≤ 122) ∨ (65 ≤ q ∧ q ≤ 90) := by simpa [isLet] using hd
  clear hE hq hE2 hd hk hwb
  have i0 : ∀ w', Calls Tryz.prog 59 #[.int .i64 99, .string ⟨#[100, 119, 115]⟩] w' fun r w2 => r = .returned (.bool false) ∧ w' = w2 := fun w' => by
    have := rin_s 99 ⟨#[100, 119, 115]⟩ w' (by decide)
    rw [show decide (99 ∈ ints ⟨#[100, 119, 115]⟩) = false by decide] at this
    exact this
  have i1 : ∀ w', Calls Tryz.prog 59 #[.int .i64 99, .string ⟨#[68, 87, 83]⟩] w' fun r w2 => r = .returned (.bool false) ∧ w' = w2 := fun w' => by
    have := rin_s 99 ⟨#[68, 87, 83]⟩ w' (by decide)
    rw [show decide (99 ∈ ints ⟨#[68, 87, 83]⟩) = false by decide] at this
    exact this
  have i2 : ∀ w', Calls Tryz.prog 59 #[.int .i64 99, .string ⟨#[116, 110, 118, 102, 114]⟩] w' fun r w2 => r = .returned (.bool false) ∧ w' = w2 := fun w' => by
    have := rin_s 99 ⟨#[116, 110, 118, 102, 114]⟩ w' (by decide)
    rw [show decide (99 ∈ ints ⟨#[116, 110, 118, 102, 114]⟩) = false by decide] at this
    exact this
  clear hP h hlen hmem
  rcases hcs with ⟨k1, k2⟩ | ⟨k3, k4⟩
  · have kt : q.tmod 32 = q % 32 := Int.tmod_eq_emod_of_nonneg (by omega)
    go_enter Tryz.func75, Tryz.ntmps75
    go_wp2_with fail
    refine HPK.out.mono ?_; rintro r w1 ⟨rfl, hb1⟩
    have HR1 := hid_intro (HR0.out.below hb1)
    have HB1 : Hid (But (· = pb) w (w1.setCell ⟨pb, 1, none⟩ (.int .i64 ((a : Int) + 1)))) := hid_intro (But.setr (But.ofBelow hb1) _)
    have HR2 : Hid (RP (w1.setCell ⟨pb, 1, none⟩ (.int .i64 ((a : Int) + 1))) pb S (a + 1) g false) := hid_intro (HR1.out.at (a + 1) HAL.out _ (by omega))
    obtain ⟨ao, cap, c0, c1, c2, c3, fr, h1, h2, h3, h4, h5, h6⟩ := HR1.out
    have ff := fr 1
    clear h6 h4 h3 c2 c3 fr h5 h2 h1 c0 hb1
    go_wp2_with fail
    generalize w1.setCell ⟨pb, 1, none⟩ (.int .i64 ((a : Int) + 1)) = W2 at *
    clear HR1 c1 ff hw
    refine (i0 _).mono ?_; rintro r w3 ⟨rfl, rfl⟩
    go_wp2_with fail
    refine (i1 _).mono ?_; rintro r w3 ⟨rfl, rfl⟩
    go_wp2_with fail
    refine (i2 _).mono ?_; rintro r w3 ⟨rfl, rfl⟩
    clear i0 i1 i2
    go_wp2_with fail
    refine (HP2.out _ HR2.out).mono ?_; rintro r w4 ⟨rfl, hb4⟩
    have HR4 := hid_intro (HR2.out.below hb4)
    have HB4 := hid_intro (HB1.out.below hb4)
    clear hb4
    have HR6 : Hid (RP (w4.setCell ⟨pb, 1, none⟩ (.int .i64 ((a : Int) + 1 + 1))) pb S (a + 1 + 1) g false) := hid_intro (HR4.out.at (a + 1 + 1) (by have := HK2.out; omega) _ (by omega))
    have HB6 : Hid (But (· = pb) w (w4.setCell ⟨pb, 1, none⟩ (.int .i64 ((a : Int) + 1 + 1)))) := hid_intro (But.setr HB4.out _)
    obtain ⟨ao, cap, c0, c1, c2, c3, fr, h1, h2, h3, h4, h5, h6⟩ := HR4.out
    have ff := fr 1
    have hwb := HWB.out
    have hm0 : ¬ q % 32 < 0 := by omega
    have hmi : I64 (q % 32) := ⟨by omega, by omega⟩
    have HMI := hid_intro hmi
    have hc1' : w4.cell? ⟨pb, 1, none⟩ = some (.int .i64 ((a : Int) + 1)) := by rw [c1]; simp
    clear h6 h4 h3 c2 c3 fr h5 h2 h1 c0 c1 hmi
    go_wp2_with fail
    generalize w4.setCell ⟨pb, 1, none⟩ (.int .i64 ((a : Int) + 1 + 1)) = W6 at *
    refine (rone_any (q % 32) _ HMI.out).mono ?_; rintro r w9 ⟨v9, rfl, ho9, hb9⟩
    have HF := hid_intro (And.intro (HB6.out.below hb9) (And.intro (HR6.out.below hb9) (ho9.ri (· < w.heap.size) (fun b hb h => by have := HB6.out.size; have h2 : b < w.heap.size := h; omega))))
    clear hb9 ho9
    go_wp2_with fail
    rw [HP.out, HE.out]
    exact ⟨_, _, rfl, HF.out.1, a + 1 + 1, HF.out.2.1, HK2.out, rfl, rfl, HF.out.2.2⟩
  · have kt : q.tmod 32 = q % 32 := Int.tmod_eq_emod_of_nonneg (by omega)
    have k1 : ¬ 97 ≤ q := by omega
    go_enter Tryz.func75, Tryz.ntmps75
    go_wp2_with fail
    refine HPK.out.mono ?_; rintro r w1 ⟨rfl, hb1⟩
    have HR1 := hid_intro (HR0.out.below hb1)
    have HB1 : Hid (But (· = pb) w (w1.setCell ⟨pb, 1, none⟩ (.int .i64 ((a : Int) + 1)))) := hid_intro (But.setr (But.ofBelow hb1) _)
    have HR2 : Hid (RP (w1.setCell ⟨pb, 1, none⟩ (.int .i64 ((a : Int) + 1))) pb S (a + 1) g false) := hid_intro (HR1.out.at (a + 1) HAL.out _ (by omega))
    obtain ⟨ao, cap, c0, c1, c2, c3, fr, h1, h2, h3, h4, h5, h6⟩ := HR1.out
    have ff := fr 1
    clear h6 h4 h3 c2 c3 fr h5 h2 h1 c0 hb1
    go_wp2_with fail
    generalize w1.setCell ⟨pb, 1, none⟩ (.int .i64 ((a : Int) + 1)) = W2 at *
    clear HR1 c1 ff hw
    refine (i0 _).mono ?_; rintro r w3 ⟨rfl, rfl⟩
    go_wp2_with fail
    refine (i1 _).mono ?_; rintro r w3 ⟨rfl, rfl⟩
    go_wp2_with fail
    refine (i2 _).mono ?_; rintro r w3 ⟨rfl, rfl⟩
    clear i0 i1 i2
    go_wp2_with fail
    refine (HP2.out _ HR2.out).mono ?_; rintro r w4 ⟨rfl, hb4⟩
    have HR4 := hid_intro (HR2.out.below hb4)
    have HB4 := hid_intro (HB1.out.below hb4)
    clear hb4
    have HR6 : Hid (RP (w4.setCell ⟨pb, 1, none⟩ (.int .i64 ((a : Int) + 1 + 1))) pb S (a + 1 + 1) g false) := hid_intro (HR4.out.at (a + 1 + 1) (by have := HK2.out; omega) _ (by omega))
    have HB6 : Hid (But (· = pb) w (w4.setCell ⟨pb, 1, none⟩ (.int .i64 ((a : Int) + 1 + 1)))) := hid_intro (But.setr HB4.out _)
    obtain ⟨ao, cap, c0, c1, c2, c3, fr, h1, h2, h3, h4, h5, h6⟩ := HR4.out
    have ff := fr 1
    have hwb := HWB.out
    have hm0 : ¬ q % 32 < 0 := by omega
    have hmi : I64 (q % 32) := ⟨by omega, by omega⟩
    have HMI := hid_intro hmi
    have hc1' : w4.cell? ⟨pb, 1, none⟩ = some (.int .i64 ((a : Int) + 1)) := by rw [c1]; simp
    clear h6 h4 h3 c2 c3 fr h5 h2 h1 c0 c1 hmi
    go_wp2_with fail
    generalize w4.setCell ⟨pb, 1, none⟩ (.int .i64 ((a : Int) + 1 + 1)) = W6 at *
    refine (rone_any (q % 32) _ HMI.out).mono ?_; rintro r w9 ⟨v9, rfl, ho9, hb9⟩
    have HF := hid_intro (And.intro (HB6.out.below hb9) (And.intro (HR6.out.below hb9) (ho9.ri (· < w.heap.size) (fun b hb h => by have := HB6.out.size; have h2 : b < w.heap.size := h; omega))))
    clear hb9 ho9
    go_wp2_with fail
    rw [HP.out, HE.out]
    exact ⟨_, _, rfl, HF.out.1, a + 1 + 1, HF.out.2.1, HK2.out, rfl, rfl, HF.out.2.2⟩

set_option maxRecDepth 100000 in
set_option maxHeartbeats 1600000 in
theorem resc_120 (w : World) (pb a : Nat) (S : List Int) (g : Int) (hq : pk S a = 120) (h : RP w pb S a g false) :
    Calls Tryz.prog 75 #[.pointer (some ⟨pb, 0, none⟩)] w (EscP (escapeL (S.drop a)) S pb g w) := by
  obtain ⟨P, hP⟩ : ∃ P, P = EscP (escapeL (S.drop a)) S pb g w := ⟨_, rfl⟩
  rw [← hP]
  have HP := hid_intro hP
  have HR0 := hid_intro h
  have HPK := hid_intro (rpeek_any w pb a S g false h)
  have hlen := h.len
  have hmem := h.mem
  have hw : wrap64 ((a : Int) + 1) = (a : Int) + 1 := w64 (by omega) (by omega)
  have HAL : Hid (a + 1 ≤ S.length + 1) := hid_intro (by have := pk_lt (S := S) (a := a) (by omega); omega)
  have HAK : Hid (a + 1 ≤ S.length) := hid_intro (pk_lt (S := S) (a := a) (by omega))
  have hE := esc_in (S := S) (a := a) (by omega)
  rw [hq] at hE HPK
  have hE2 : escapeL (S.drop a) = match escapedL 120 (S.drop (a + 1)) with | none => none | some (p, r') => some (.one p, r') := by rw [hE, show namedBy 120 = none by decide]
  have HE : Hid (escapeL (S.drop a) = match hexG 2 0 (S.drop (a + 1)) with | none => none | some (p, r') => some (.one p, r')) := hid_intro (by
    rw [hE2]; unfold escapedL; simp only [Int.reduceEq, reduceIte])
  have HBD : Hid (∀ y, hexG 2 0 (S.drop (a + 1)) = some y → 0 ≤ y.1 ∧ y.1 ≤ 1114111) := hid_intro (fun y hy => by
    have := hexG_bd 2 0 _ y hy (by omega); omega)
  have HX2 := hid_intro (fun w' (h : RP w' pb S (a + 1) g false) => rhex_any w' pb (a + 1) S g false 2 (by omega) HAK.out h)
  obtain ⟨U, hU⟩ : ∃ U, hexG 2 0 (S.drop (a + 1)) = U := ⟨_, rfl⟩
  rw [hU] at HE HBD HX2
  clear hE hq hE2 hU
  have i0 : ∀ w', Calls Tryz.prog 59 #[.int .i64 120, .string ⟨#[100, 119, 115]⟩] w' fun r w2 => r = .returned (.bool false) ∧ w' = w2 := fun w' => by
    have := rin_s 120 ⟨#[100, 119, 115]⟩ w' (by decide)
    rw [show decide (120 ∈ ints ⟨#[100, 119, 115]⟩) = false by decide] at this
    exact this
  have i1 : ∀ w', Calls Tryz.prog 59 #[.int .i64 120, .string ⟨#[68, 87, 83]⟩] w' fun r w2 => r = .returned (.bool false) ∧ w' = w2 := fun w' => by
    have := rin_s 120 ⟨#[68, 87, 83]⟩ w' (by decide)
    rw [show decide (120 ∈ ints ⟨#[68, 87, 83]⟩) = false by decide] at this
    exact this
  have i2 : ∀ w', Calls Tryz.prog 59 #[.int .i64 120, .string ⟨#[116, 110, 118, 102, 114]⟩] w' fun r w2 => r = .returned (.bool false) ∧ w' = w2 := fun w' => by
    have := rin_s 120 ⟨#[116, 110, 118, 102, 114]⟩ w' (by decide)
    rw [show decide (120 ∈ ints ⟨#[116, 110, 118, 102, 114]⟩) = false by decide] at this
    exact this
  clear hP h hlen hmem
  go_enter Tryz.func75, Tryz.ntmps75
  go_wp2_with fail
  refine HPK.out.mono ?_; rintro r w1 ⟨rfl, hb1⟩
  have HR1 := hid_intro (HR0.out.below hb1)
  have HB1 : Hid (But (· = pb) w (w1.setCell ⟨pb, 1, none⟩ (.int .i64 ((a : Int) + 1)))) := hid_intro (But.setr (But.ofBelow hb1) _)
  have HR2 : Hid (RP (w1.setCell ⟨pb, 1, none⟩ (.int .i64 ((a : Int) + 1))) pb S (a + 1) g false) := hid_intro (HR1.out.at (a + 1) HAL.out _ (by omega))
  obtain ⟨ao, cap, c0, c1, c2, c3, fr, h1, h2, h3, h4, h5, h6⟩ := HR1.out
  have ff := fr 1
  clear h6 h4 h3 c2 c3 fr h5 h2 h1 c0 hb1
  go_wp2_with fail
  generalize w1.setCell ⟨pb, 1, none⟩ (.int .i64 ((a : Int) + 1)) = W2 at *
  clear HR1 c1 ff hw
  refine (i0 _).mono ?_; rintro r w3 ⟨rfl, rfl⟩
  go_wp2_with fail
  refine (i1 _).mono ?_; rintro r w3 ⟨rfl, rfl⟩
  go_wp2_with fail
  refine (i2 _).mono ?_; rintro r w3 ⟨rfl, rfl⟩
  clear i0 i1 i2
  go_wp2_with fail
  refine (HX2.out _ HR2.out).mono ?_; rintro r w4 ⟨x4, a4, rfl, hb4, hr4, hl4, hx4⟩
  have HR4 := hid_intro hr4
  have HB4 := hid_intro (HB1.out.trans hb4)
  have HL4 := hid_intro hl4
  clear hb4 hr4 hl4
  cases U with
  | none =>
    obtain rfl : x4 = -1 := hx4
    go_wp2_with fail
    refine (rfail_any _ _ _ _ _ _ HR4.out).mono ?_; rintro r w9 ⟨rfl, hb9, hr9⟩
    have HF := hid_intro (And.intro (HB4.out.trans hb9) hr9)
    clear hb9 hr9
    go_wp2_with fail
    rw [HP.out, HE.out]
    exact ⟨_, _, rfl, HF.out.1, _, HF.out.2, Or.inl rfl⟩
  | some y =>
    obtain ⟨p, l'⟩ := y
    obtain ⟨rfl, hd4, _⟩ := hx4
    have hbd := HBD.out _ rfl
    simp only at hbd
    have hi4 : I64 x4 := ⟨by omega, by omega⟩
    have hx0 : ¬ x4 < 0 := by omega
    have HD4 := hid_intro hd4
    have HI4 := hid_intro hi4
    clear hbd hi4 hd4
    go_wp2_with fail
    refine (rone_any (x4) _ HI4.out).mono ?_; rintro r w9 ⟨v9, rfl, ho9, hb9⟩
    have HF := hid_intro (And.intro (HB4.out.below hb9) (And.intro (HR4.out.below hb9) (ho9.ri (· < w.heap.size) (fun b hb h => by have := HB4.out.size; have h2 : b < w.heap.size := h; omega))))
    clear hb9 ho9
    go_wp2_with fail
    rw [HP.out, HE.out]
    exact ⟨_, _, rfl, HF.out.1, a4, HF.out.2.1, HL4.out, HD4.out, rfl, HF.out.2.2⟩

set_option maxRecDepth 100000 in
set_option maxHeartbeats 1600000 in
theorem resc_117 (w : World) (pb a : Nat) (S : List Int) (g : Int) (hq : pk S a = 117) (h : RP w pb S a g false) :
    Calls Tryz.prog 75 #[.pointer (some ⟨pb, 0, none⟩)] w (EscP (escapeL (S.drop a)) S pb g w) := by
  obtain ⟨P, hP⟩ : ∃ P, P = EscP (escapeL (S.drop a)) S pb g w := ⟨_, rfl⟩
  rw [← hP]
  have HP := hid_intro hP
  have HR0 := hid_intro h
  have HPK := hid_intro (rpeek_any w pb a S g false h)
  have hlen := h.len
  have hmem := h.mem
  have hw : wrap64 ((a : Int) + 1) = (a : Int) + 1 := w64 (by omega) (by omega)
  have HAL : Hid (a + 1 ≤ S.length + 1) := hid_intro (by have := pk_lt (S := S) (a := a) (by omega); omega)
  have HAK : Hid (a + 1 ≤ S.length) := hid_intro (pk_lt (S := S) (a := a) (by omega))
  have hE := esc_in (S := S) (a := a) (by omega)
  rw [hq] at hE HPK
  have hE2 : escapeL (S.drop a) = match escapedL 117 (S.drop (a + 1)) with | none => none | some (p, r') => some (.one p, r') := by rw [hE, show namedBy 117 = none by decide]
  have HE : Hid (escapeL (S.drop a) = match unicodeL (S.drop (a + 1)) with | none => none | some (p, r') => some (.one p, r')) := hid_intro (by
    rw [hE2]; unfold escapedL; simp only [Int.reduceEq, reduceIte])
  have HBD : Hid (∀ y, unicodeL (S.drop (a + 1)) = some y → 0 ≤ y.1 ∧ y.1 ≤ 1114111) := hid_intro (fun y hy => by
    exact unicodeL_bd _ y hy)
  have HX2 := hid_intro (fun w' (h : RP w' pb S (a + 1) g false) => runi_any w' pb (a + 1) S g false HAK.out h)
  obtain ⟨U, hU⟩ : ∃ U, unicodeL (S.drop (a + 1)) = U := ⟨_, rfl⟩
  rw [hU] at HE HBD HX2
  clear hE hq hE2 hU
  have i0 : ∀ w', Calls Tryz.prog 59 #[.int .i64 117, .string ⟨#[100, 119, 115]⟩] w' fun r w2 => r = .returned (.bool false) ∧ w' = w2 := fun w' => by
    have := rin_s 117 ⟨#[100, 119, 115]⟩ w' (by decide)
    rw [show decide (117 ∈ ints ⟨#[100, 119, 115]⟩) = false by decide] at this
    exact this
  have i1 : ∀ w', Calls Tryz.prog 59 #[.int .i64 117, .string ⟨#[68, 87, 83]⟩] w' fun r w2 => r = .returned (.bool false) ∧ w' = w2 := fun w' => by
    have := rin_s 117 ⟨#[68, 87, 83]⟩ w' (by decide)
    rw [show decide (117 ∈ ints ⟨#[68, 87, 83]⟩) = false by decide] at this
    exact this
  have i2 : ∀ w', Calls Tryz.prog 59 #[.int .i64 117, .string ⟨#[116, 110, 118, 102, 114]⟩] w' fun r w2 => r = .returned (.bool false) ∧ w' = w2 := fun w' => by
    have := rin_s 117 ⟨#[116, 110, 118, 102, 114]⟩ w' (by decide)
    rw [show decide (117 ∈ ints ⟨#[116, 110, 118, 102, 114]⟩) = false by decide] at this
    exact this
  clear hP h hlen hmem
  go_enter Tryz.func75, Tryz.ntmps75
  go_wp2_with fail
  refine HPK.out.mono ?_; rintro r w1 ⟨rfl, hb1⟩
  have HR1 := hid_intro (HR0.out.below hb1)
  have HB1 : Hid (But (· = pb) w (w1.setCell ⟨pb, 1, none⟩ (.int .i64 ((a : Int) + 1)))) := hid_intro (But.setr (But.ofBelow hb1) _)
  have HR2 : Hid (RP (w1.setCell ⟨pb, 1, none⟩ (.int .i64 ((a : Int) + 1))) pb S (a + 1) g false) := hid_intro (HR1.out.at (a + 1) HAL.out _ (by omega))
  obtain ⟨ao, cap, c0, c1, c2, c3, fr, h1, h2, h3, h4, h5, h6⟩ := HR1.out
  have ff := fr 1
  clear h6 h4 h3 c2 c3 fr h5 h2 h1 c0 hb1
  go_wp2_with fail
  generalize w1.setCell ⟨pb, 1, none⟩ (.int .i64 ((a : Int) + 1)) = W2 at *
  clear HR1 c1 ff hw
  refine (i0 _).mono ?_; rintro r w3 ⟨rfl, rfl⟩
  go_wp2_with fail
  refine (i1 _).mono ?_; rintro r w3 ⟨rfl, rfl⟩
  go_wp2_with fail
  refine (i2 _).mono ?_; rintro r w3 ⟨rfl, rfl⟩
  clear i0 i1 i2
  go_wp2_with fail
  refine (HX2.out _ HR2.out).mono ?_; rintro r w4 ⟨x4, a4, rfl, hb4, hr4, hl4, hx4⟩
  have HR4 := hid_intro hr4
  have HB4 := hid_intro (HB1.out.trans hb4)
  have HL4 := hid_intro hl4
  clear hb4 hr4 hl4
  cases U with
  | none =>
    obtain rfl : x4 = -1 := hx4
    go_wp2_with fail
    refine (rfail_any _ _ _ _ _ _ HR4.out).mono ?_; rintro r w9 ⟨rfl, hb9, hr9⟩
    have HF := hid_intro (And.intro (HB4.out.trans hb9) hr9)
    clear hb9 hr9
    go_wp2_with fail
    rw [HP.out, HE.out]
    exact ⟨_, _, rfl, HF.out.1, _, HF.out.2, Or.inl rfl⟩
  | some y =>
    obtain ⟨p, l'⟩ := y
    obtain ⟨rfl, hd4, _⟩ := hx4
    have hbd := HBD.out _ rfl
    simp only at hbd
    have hi4 : I64 x4 := ⟨by omega, by omega⟩
    have hx0 : ¬ x4 < 0 := by omega
    have HD4 := hid_intro hd4
    have HI4 := hid_intro hi4
    clear hbd hi4 hd4
    go_wp2_with fail
    refine (rone_any (x4) _ HI4.out).mono ?_; rintro r w9 ⟨v9, rfl, ho9, hb9⟩
    have HF := hid_intro (And.intro (HB4.out.below hb9) (And.intro (HR4.out.below hb9) (ho9.ri (· < w.heap.size) (fun b hb h => by have := HB4.out.size; have h2 : b < w.heap.size := h; omega))))
    clear hb9 ho9
    go_wp2_with fail
    rw [HP.out, HE.out]
    exact ⟨_, _, rfl, HF.out.1, a4, HF.out.2.1, HL4.out, HD4.out, rfl, HF.out.2.2⟩

set_option maxRecDepth 100000 in
set_option maxHeartbeats 1600000 in
theorem resc_syn (w : World) (pb a : Nat) (S : List Int) (g : Int) (ha : a ≤ S.length) (hn : pk S a ≠ 100 ∧ pk S a ≠ 119 ∧ pk S a ≠ 115 ∧ pk S a ≠ 68 ∧ pk S a ≠ 87 ∧ pk S a ≠ 83 ∧ pk S a ≠ 116 ∧ pk S a ≠ 110 ∧ pk S a ≠ 118 ∧ pk S a ≠ 102 ∧ pk S a ≠ 114 ∧ pk S a ≠ 48 ∧ pk S a ≠ 99 ∧ pk S a ≠ 120 ∧ pk S a ≠ 117) (hs : synS (pk S a) = true) (h : RP w pb S a g false) :
    Calls Tryz.prog 75 #[.pointer (some ⟨pb, 0, none⟩)] w (EscP (escapeL (S.drop a)) S pb g w) := by
  obtain ⟨P, hP⟩ : ∃ P, P = EscP (escapeL (S.drop a)) S pb g w := ⟨_, rfl⟩
  rw [← hP]
  have HP := hid_intro hP
  have HR0 := hid_intro h
  have HPK := hid_intro (rpeek_any w pb a S g false h)
  have hlen := h.len
  have hmem := h.mem
  have hw : wrap64 ((a : Int) + 1) = (a : Int) + 1 := w64 (by omega) (by omega)
  have HAL : Hid (a + 1 ≤ S.length + 1) := hid_intro (by omega)
  have hn1 : ¬ pk S a ∈ ints ⟨#[100, 119, 115]⟩ := fun h => by rw [show ints ⟨#[100, 119, 115]⟩ = [100, 119, 115] from rfl] at h; simp at h; omega
  have hn2 : ¬ pk S a ∈ ints ⟨#[68, 87, 83]⟩ := fun h => by rw [show ints ⟨#[68, 87, 83]⟩ = [68, 87, 83] from rfl] at h; simp at h; omega
  have hn3 : ¬ pk S a ∈ ints ⟨#[116, 110, 118, 102, 114]⟩ := fun h => by rw [show ints ⟨#[116, 110, 118, 102, 114]⟩ = [116, 110, 118, 102, 114] from rfl] at h; simp at h; omega
  have b1 : (pk S a == 48) = false := by simp; omega
  have b2 : (pk S a == 99) = false := by simp; omega
  have b3 : (pk S a == 120) = false := by simp; omega
  have b4 : (pk S a == 117) = false := by simp; omega
  have es : ints ⟨#[94, 36, 92, 46, 42, 43, 63, 40, 41, 91, 93, 123, 125, 124, 47]⟩ = [94, 36, 92, 46, 42, 43, 63, 40, 41, 91, 93, 123, 125, 124, 47] := rfl
  have i0 := fun w' => rin_s (pk S a) ⟨#[100, 119, 115]⟩ w' (by decide)
  have i1 := fun w' => rin_s (pk S a) ⟨#[68, 87, 83]⟩ w' (by decide)
  have i2 := fun w' => rin_s (pk S a) ⟨#[116, 110, 118, 102, 114]⟩ w' (by decide)
  have i3 := fun w' => rin_s (pk S a) ⟨#[94, 36, 92, 46, 42, 43, 63, 40, 41, 91, 93, 123, 125, 124, 47]⟩ w' (by decide)
  rw [decide_eq_false hn1] at i0
  rw [decide_eq_false hn2] at i1
  rw [decide_eq_false hn3] at i2
  have hmm : pk S a ∈ [94, 36, 92, 46, 42, 43, 63, 40, 41, 91, 93, 123, 125, 124, 47] := by unfold synS at hs; exact List.contains_iff_mem.1 hs
  rw [es, decide_eq_true hmm] at i3
  have h0 : 0 ≤ pk S a := by simp at hmm; omega
  have HAK : Hid (a + 1 ≤ S.length) := hid_intro (pk_lt h0)
  have HE : Hid (escapeL (S.drop a) = some (.one (pk S a), S.drop (a + 1))) := hid_intro (by
    rw [esc_in h0, show namedBy (pk S a) = none by unfold namedBy; simp only [hn.1, hn.2.1, hn.2.2.1, hn.2.2.2.1, hn.2.2.2.2.1, hn.2.2.2.2.2.1, reduceIte]]
    simp only
    have e2 : escapedL (pk S a) (S.drop (a + 1)) = if synS (pk S a) = true then some (pk S a, S.drop (a + 1)) else none := by
      unfold escapedL
      simp only [hn.2.2.2.2.2.2.1, hn.2.2.2.2.2.2.2.1, hn.2.2.2.2.2.2.2.2.1, hn.2.2.2.2.2.2.2.2.2.1, hn.2.2.2.2.2.2.2.2.2.2.1, hn.2.2.2.2.2.2.2.2.2.2.2.1, hn.2.2.2.2.2.2.2.2.2.2.2.2.1, hn.2.2.2.2.2.2.2.2.2.2.2.2.2.1, hn.2.2.2.2.2.2.2.2.2.2.2.2.2.2, reduceIte]
    rw [e2, if_pos hs])
  have HI4 : Hid (I64 (pk S a)) := hid_intro (by have := hmem _ (pk_mem (pk_lt h0)); exact ⟨by omega, by omega⟩)
  have hx0 : ¬ pk S a < 0 := by omega
  generalize pk S a = q at *
  clear hn1 hn2 hn3 es hmm h0 hn hs ha
  clear hP h hlen hmem
  go_enter Tryz.func75, Tryz.ntmps75
  go_wp2_with fail
  refine HPK.out.mono ?_; rintro r w1 ⟨rfl, hb1⟩
  have HR1 := hid_intro (HR0.out.below hb1)
  have HB1 : Hid (But (· = pb) w (w1.setCell ⟨pb, 1, none⟩ (.int .i64 ((a : Int) + 1)))) := hid_intro (But.setr (But.ofBelow hb1) _)
  have HR2 : Hid (RP (w1.setCell ⟨pb, 1, none⟩ (.int .i64 ((a : Int) + 1))) pb S (a + 1) g false) := hid_intro (HR1.out.at (a + 1) HAL.out _ (by omega))
  obtain ⟨ao, cap, c0, c1, c2, c3, fr, h1, h2, h3, h4, h5, h6⟩ := HR1.out
  have ff := fr 1
  clear h6 h4 h3 c2 c3 fr h5 h2 h1 c0 hb1
  go_wp2_with fail
  generalize w1.setCell ⟨pb, 1, none⟩ (.int .i64 ((a : Int) + 1)) = W2 at *
  clear HR1 c1 ff hw
  refine (i0 _).mono ?_; rintro r w3 ⟨rfl, rfl⟩
  go_wp2_with fail
  refine (i1 _).mono ?_; rintro r w3 ⟨rfl, rfl⟩
  go_wp2_with fail
  refine (i2 _).mono ?_; rintro r w3 ⟨rfl, rfl⟩
  go_wp2_with fail
  refine (i3 _).mono ?_; rintro r w3 ⟨rfl, rfl⟩
  clear i0 i1 i2 i3
  go_wp2_with fail
  refine (rone_any (q) _ HI4.out).mono ?_; rintro r w9 ⟨v9, rfl, ho9, hb9⟩
  have HF := hid_intro (And.intro (HB1.out.below hb9) (And.intro (HR2.out.below hb9) (ho9.ri (· < w.heap.size) (fun b hb h => by have := HB1.out.size; have h2 : b < w.heap.size := h; omega))))
  clear hb9 ho9
  go_wp2_with fail
  rw [HP.out, HE.out]
  exact ⟨_, _, rfl, HF.out.1, a + 1, HF.out.2.1, HAK.out, rfl, rfl, HF.out.2.2⟩

set_option maxRecDepth 100000 in
set_option maxHeartbeats 1600000 in
theorem resc_no (w : World) (pb a : Nat) (S : List Int) (g : Int) (ha : a ≤ S.length) (hn : pk S a ≠ 100 ∧ pk S a ≠ 119 ∧ pk S a ≠ 115 ∧ pk S a ≠ 68 ∧ pk S a ≠ 87 ∧ pk S a ≠ 83 ∧ pk S a ≠ 116 ∧ pk S a ≠ 110 ∧ pk S a ≠ 118 ∧ pk S a ≠ 102 ∧ pk S a ≠ 114 ∧ pk S a ≠ 48 ∧ pk S a ≠ 99 ∧ pk S a ≠ 120 ∧ pk S a ≠ 117) (hs : synS (pk S a) = false) (h : RP w pb S a g false) :
    Calls Tryz.prog 75 #[.pointer (some ⟨pb, 0, none⟩)] w (EscP (escapeL (S.drop a)) S pb g w) := by
  obtain ⟨P, hP⟩ : ∃ P, P = EscP (escapeL (S.drop a)) S pb g w := ⟨_, rfl⟩
  rw [← hP]
  have HP := hid_intro hP
  have HR0 := hid_intro h
  have HPK := hid_intro (rpeek_any w pb a S g false h)
  have hlen := h.len
  have hmem := h.mem
  have hw : wrap64 ((a : Int) + 1) = (a : Int) + 1 := w64 (by omega) (by omega)
  have HAL : Hid (a + 1 ≤ S.length + 1) := hid_intro (by omega)
  have hn1 : ¬ pk S a ∈ ints ⟨#[100, 119, 115]⟩ := fun h => by rw [show ints ⟨#[100, 119, 115]⟩ = [100, 119, 115] from rfl] at h; simp at h; omega
  have hn2 : ¬ pk S a ∈ ints ⟨#[68, 87, 83]⟩ := fun h => by rw [show ints ⟨#[68, 87, 83]⟩ = [68, 87, 83] from rfl] at h; simp at h; omega
  have hn3 : ¬ pk S a ∈ ints ⟨#[116, 110, 118, 102, 114]⟩ := fun h => by rw [show ints ⟨#[116, 110, 118, 102, 114]⟩ = [116, 110, 118, 102, 114] from rfl] at h; simp at h; omega
  have b1 : (pk S a == 48) = false := by simp; omega
  have b2 : (pk S a == 99) = false := by simp; omega
  have b3 : (pk S a == 120) = false := by simp; omega
  have b4 : (pk S a == 117) = false := by simp; omega
  have es : ints ⟨#[94, 36, 92, 46, 42, 43, 63, 40, 41, 91, 93, 123, 125, 124, 47]⟩ = [94, 36, 92, 46, 42, 43, 63, 40, 41, 91, 93, 123, 125, 124, 47] := rfl
  have i0 := fun w' => rin_s (pk S a) ⟨#[100, 119, 115]⟩ w' (by decide)
  have i1 := fun w' => rin_s (pk S a) ⟨#[68, 87, 83]⟩ w' (by decide)
  have i2 := fun w' => rin_s (pk S a) ⟨#[116, 110, 118, 102, 114]⟩ w' (by decide)
  have i3 := fun w' => rin_s (pk S a) ⟨#[94, 36, 92, 46, 42, 43, 63, 40, 41, 91, 93, 123, 125, 124, 47]⟩ w' (by decide)
  rw [decide_eq_false hn1] at i0
  rw [decide_eq_false hn2] at i1
  rw [decide_eq_false hn3] at i2
  have hmm : ¬ pk S a ∈ [94, 36, 92, 46, 42, 43, 63, 40, 41, 91, 93, 123, 125, 124, 47] := fun h => by unfold synS at hs; rw [List.contains_iff_mem.2 h] at hs; simp at hs
  rw [es, decide_eq_false hmm] at i3
  have HE : Hid (escapeL (S.drop a) = none) := hid_intro (by
    by_cases hq : pk S a = -1
    · exact esc_out hq hmem
    have h0 : 0 ≤ pk S a := by
      by_cases hk : a < S.length
      · exact (hmem _ (pk_mem hk)).1
      · exact absurd (pk_out (by omega)) hq
    rw [esc_in h0, show namedBy (pk S a) = none by unfold namedBy; simp only [hn.1, hn.2.1, hn.2.2.1, hn.2.2.2.1, hn.2.2.2.2.1, hn.2.2.2.2.2.1, reduceIte]]
    simp only
    have e2 : escapedL (pk S a) (S.drop (a + 1)) = if synS (pk S a) = true then some (pk S a, S.drop (a + 1)) else none := by
      unfold escapedL
      simp only [hn.2.2.2.2.2.2.1, hn.2.2.2.2.2.2.2.1, hn.2.2.2.2.2.2.2.2.1, hn.2.2.2.2.2.2.2.2.2.1, hn.2.2.2.2.2.2.2.2.2.2.1, hn.2.2.2.2.2.2.2.2.2.2.2.1, hn.2.2.2.2.2.2.2.2.2.2.2.2.1, hn.2.2.2.2.2.2.2.2.2.2.2.2.2.1, hn.2.2.2.2.2.2.2.2.2.2.2.2.2.2, reduceIte]
    rw [e2, hs]; rfl)
  generalize pk S a = q at *
  clear hn1 hn2 hn3 es hmm hn hs ha
  clear hP h hlen hmem
  go_enter Tryz.func75, Tryz.ntmps75
  go_wp2_with fail
  refine HPK.out.mono ?_; rintro r w1 ⟨rfl, hb1⟩
  have HR1 := hid_intro (HR0.out.below hb1)
  have HB1 : Hid (But (· = pb) w (w1.setCell ⟨pb, 1, none⟩ (.int .i64 ((a : Int) + 1)))) := hid_intro (But.setr (But.ofBelow hb1) _)
  have HR2 : Hid (RP (w1.setCell ⟨pb, 1, none⟩ (.int .i64 ((a : Int) + 1))) pb S (a + 1) g false) := hid_intro (HR1.out.at (a + 1) HAL.out _ (by omega))
  obtain ⟨ao, cap, c0, c1, c2, c3, fr, h1, h2, h3, h4, h5, h6⟩ := HR1.out
  have ff := fr 1
  clear h6 h4 h3 c2 c3 fr h5 h2 h1 c0 hb1
  go_wp2_with fail
  generalize w1.setCell ⟨pb, 1, none⟩ (.int .i64 ((a : Int) + 1)) = W2 at *
  clear HR1 c1 ff hw
  refine (i0 _).mono ?_; rintro r w3 ⟨rfl, rfl⟩
  go_wp2_with fail
  refine (i1 _).mono ?_; rintro r w3 ⟨rfl, rfl⟩
  go_wp2_with fail
  refine (i2 _).mono ?_; rintro r w3 ⟨rfl, rfl⟩
  go_wp2_with fail
  refine (i3 _).mono ?_; rintro r w3 ⟨rfl, rfl⟩
  clear i0 i1 i2 i3
  go_wp2_with fail
  refine (rfail_any _ _ _ _ _ _ HR2.out).mono ?_; rintro r w9 ⟨rfl, hb9, hr9⟩
  have HF := hid_intro (And.intro (HB1.out.trans hb9) hr9)
  clear hb9 hr9
  go_wp2_with fail
  rw [HP.out, HE.out]
  exact ⟨_, _, rfl, HF.out.1, _, HF.out.2, Or.inl rfl⟩

theorem rescape_any (w : World) (pb a : Nat) (S : List Int) (g : Int) (ha : a ≤ S.length) (h : RP w pb S a g false) :
    Calls Tryz.prog 75 #[.pointer (some ⟨pb, 0, none⟩)] w (EscP (escapeL (S.drop a)) S pb g w) := by
  by_cases c100 : pk S a = 100
  · exact resc_100 w pb a S g c100 h
  by_cases c119 : pk S a = 119
  · exact resc_119 w pb a S g c119 h
  by_cases c115 : pk S a = 115
  · exact resc_115 w pb a S g c115 h
  by_cases c68 : pk S a = 68
  · exact resc_68 w pb a S g c68 h
  by_cases c87 : pk S a = 87
  · exact resc_87 w pb a S g c87 h
  by_cases c83 : pk S a = 83
  · exact resc_83 w pb a S g c83 h
  by_cases c116 : pk S a = 116
  · exact resc_116 w pb a S g c116 h
  by_cases c110 : pk S a = 110
  · exact resc_110 w pb a S g c110 h
  by_cases c118 : pk S a = 118
  · exact resc_118 w pb a S g c118 h
  by_cases c102 : pk S a = 102
  · exact resc_102 w pb a S g c102 h
  by_cases c114 : pk S a = 114
  · exact resc_114 w pb a S g c114 h
  by_cases c48 : pk S a = 48
  · by_cases hd : isDig (pk S (a + 1)) = true
    · exact resc_48_dig w pb a S g c48 hd h
    · by_cases hl : pk S (a + 1) < 48
      · exact resc_48_lo w pb a S g c48 hl h
      · exact resc_48_hi w pb a S g c48 (by rw [isDig_iff] at hd; omega) h
  by_cases c99 : pk S a = 99
  · by_cases hd : isLet (pk S (a + 1)) = true
    · exact resc_99_yes w pb a S g c99 hd h
    · exact resc_99_no w pb a S g c99 (by simpa using hd) h
  by_cases c120 : pk S a = 120
  · exact resc_120 w pb a S g c120 h
  by_cases c117 : pk S a = 117
  · exact resc_117 w pb a S g c117 h
  have hn := And.intro c100 (And.intro c119 (And.intro c115 (And.intro c68 (And.intro c87 (And.intro c83 (And.intro c116 (And.intro c110 (And.intro c118 (And.intro c102 (And.intro c114 (And.intro c48 (And.intro c99 (And.intro c120 c117)))))))))))))
  by_cases hs : synS (pk S a) = true
  · exact resc_syn w pb a S g ha hn hs h
  · exact resc_no w pb a S g ha hn (by simpa using hs) h
end Go.Proofs.YthbbkcdlcpbepaaGreatDoor
