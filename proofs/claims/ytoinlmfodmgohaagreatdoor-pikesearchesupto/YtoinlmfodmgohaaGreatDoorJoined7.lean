/-
  Words, borders, what lets one through at a place. No condition.
  The follower's variables as they lie in memory. Conditions: there is room.
  The closure that follows a state. Conditions: there is room.
-/
import Derived.Test.YtoinlmfodmgohaaGreatDoorJoined6
namespace Go.Proofs.YtoinlmfodmgohaaGreatDoor
open Go.RowKit
attribute [local go_sem] setCell_drewN alloc_drewN

def wordB (p : Int) : Bool := decide (97 ≤ p ∧ p ≤ 122 ∨ 65 ≤ p ∧ p ≤ 90 ∨ 48 ≤ p ∧ p ≤ 57 ∨ p = 95)
def wat (t : List Int) (i : Int) : Bool := decide (0 ≤ i ∧ i < (t.length : Int)) && wordB (ia t i.toNat)
def bordB (t : List Int) (p : Nat) : Bool := wat t ((p : Int) - 1) != wat t (p : Int)
def letsB (t : List Int) (p : Nat) (k : Int) : Bool := if k = 2 then true else if k = 3 then decide (p = 0) else if k = 4 then decide (p = t.length) else if k = 5 then bordB t p else if k = 6 then !bordB t p else false
theorem letsB_gg (t : List Int) (p : Nat) : GG (letsB t p) := by
  refine ⟨rfl, fun k h => ?_⟩
  unfold letsB at h
  by_cases h2 : k = 2
  · omega
  by_cases h3 : k = 3
  · omega
  by_cases h4 : k = 4
  · omega
  by_cases h5 : k = 5
  · omega
  by_cases h6 : k = 6
  · omega
  rw [if_neg h2, if_neg h3, if_neg h4, if_neg h5, if_neg h6] at h
  exact absurd h Bool.false_ne_true
set_option maxRecDepth 100000 in
set_option maxHeartbeats 3200000 in
theorem word_any (p : Int) (w : World) : Calls Tryz.prog 18 #[.int .i64 p] w fun e w' => e = .returned (.bool (wordB p)) ∧ w' = w := by
  obtain ⟨P, hP⟩ : ∃ P : Ending → World → Prop, P = fun e w' => e = .returned (.bool (wordB p)) ∧ w' = w := ⟨_, rfl⟩
  rw [← hP]
  have HP := hid_intro hP
  clear hP
  have hc : (p < 48) ∨ (48 ≤ p ∧ p ≤ 57) ∨ (58 ≤ p ∧ p < 65) ∨ (65 ≤ p ∧ p ≤ 90) ∨ (91 ≤ p ∧ p < 95) ∨ (p = 95) ∨ (p = 96) ∨ (97 ≤ p ∧ p ≤ 122) ∨ (122 < p) := by omega
  rcases hc with hc | hc | hc | hc | hc | hc | hc | hc | hc
  · have HE : Hid (wordB p = false) := hid_intro (by unfold wordB; simp; omega)
    have q0 : ¬ p ≥ 97 := by omega
    have q1 : p ≤ 122 := by omega
    have q2 : ¬ p ≥ 65 := by omega
    have q3 : p ≤ 90 := by omega
    have q4 : ¬ p ≥ 48 := by omega
    have q5 : p ≤ 57 := by omega
    have q6 : ¬ p = 95 := by omega
    clear hc
    go_enter Tryz.func18, Tryz.ntmps18
    go_wp2_with fail
    rw [HP.out, HE.out]
    exact ⟨by simp [*], rfl⟩
  · have HE : Hid (wordB p = true) := hid_intro (by unfold wordB; simp; omega)
    have q0 : ¬ p ≥ 97 := by omega
    have q1 : p ≤ 122 := by omega
    have q2 : ¬ p ≥ 65 := by omega
    have q3 : p ≤ 90 := by omega
    have q4 : p ≥ 48 := by omega
    have q5 : p ≤ 57 := by omega
    have q6 : ¬ p = 95 := by omega
    clear hc
    go_enter Tryz.func18, Tryz.ntmps18
    go_wp2_with fail
    rw [HP.out, HE.out]
    exact ⟨by simp [*], rfl⟩
  · have HE : Hid (wordB p = false) := hid_intro (by unfold wordB; simp; omega)
    have q0 : ¬ p ≥ 97 := by omega
    have q1 : p ≤ 122 := by omega
    have q2 : ¬ p ≥ 65 := by omega
    have q3 : p ≤ 90 := by omega
    have q4 : p ≥ 48 := by omega
    have q5 : ¬ p ≤ 57 := by omega
    have q6 : ¬ p = 95 := by omega
    clear hc
    go_enter Tryz.func18, Tryz.ntmps18
    go_wp2_with fail
    rw [HP.out, HE.out]
    exact ⟨by simp [*], rfl⟩
  · have HE : Hid (wordB p = true) := hid_intro (by unfold wordB; simp; omega)
    have q0 : ¬ p ≥ 97 := by omega
    have q1 : p ≤ 122 := by omega
    have q2 : p ≥ 65 := by omega
    have q3 : p ≤ 90 := by omega
    have q4 : p ≥ 48 := by omega
    have q5 : ¬ p ≤ 57 := by omega
    have q6 : ¬ p = 95 := by omega
    clear hc
    go_enter Tryz.func18, Tryz.ntmps18
    go_wp2_with fail
    rw [HP.out, HE.out]
    exact ⟨by simp [*], rfl⟩
  · have HE : Hid (wordB p = false) := hid_intro (by unfold wordB; simp; omega)
    have q0 : ¬ p ≥ 97 := by omega
    have q1 : p ≤ 122 := by omega
    have q2 : p ≥ 65 := by omega
    have q3 : ¬ p ≤ 90 := by omega
    have q4 : p ≥ 48 := by omega
    have q5 : ¬ p ≤ 57 := by omega
    have q6 : ¬ p = 95 := by omega
    clear hc
    go_enter Tryz.func18, Tryz.ntmps18
    go_wp2_with fail
    rw [HP.out, HE.out]
    exact ⟨by simp [*], rfl⟩
  · have HE : Hid (wordB p = true) := hid_intro (by unfold wordB; simp; omega)
    have q0 : ¬ p ≥ 97 := by omega
    have q1 : p ≤ 122 := by omega
    have q2 : p ≥ 65 := by omega
    have q3 : ¬ p ≤ 90 := by omega
    have q4 : p ≥ 48 := by omega
    have q5 : ¬ p ≤ 57 := by omega
    have q6 : p = 95 := by omega
    clear hc
    go_enter Tryz.func18, Tryz.ntmps18
    go_wp2_with fail
    rw [HP.out, HE.out]
    exact ⟨by simp [*], rfl⟩
  · have HE : Hid (wordB p = false) := hid_intro (by unfold wordB; simp; omega)
    have q0 : ¬ p ≥ 97 := by omega
    have q1 : p ≤ 122 := by omega
    have q2 : p ≥ 65 := by omega
    have q3 : ¬ p ≤ 90 := by omega
    have q4 : p ≥ 48 := by omega
    have q5 : ¬ p ≤ 57 := by omega
    have q6 : ¬ p = 95 := by omega
    clear hc
    go_enter Tryz.func18, Tryz.ntmps18
    go_wp2_with fail
    rw [HP.out, HE.out]
    exact ⟨by simp [*], rfl⟩
  · have HE : Hid (wordB p = true) := hid_intro (by unfold wordB; simp; omega)
    have q0 : p ≥ 97 := by omega
    have q1 : p ≤ 122 := by omega
    have q2 : p ≥ 65 := by omega
    have q3 : ¬ p ≤ 90 := by omega
    have q4 : p ≥ 48 := by omega
    have q5 : ¬ p ≤ 57 := by omega
    have q6 : ¬ p = 95 := by omega
    clear hc
    go_enter Tryz.func18, Tryz.ntmps18
    go_wp2_with fail
    rw [HP.out, HE.out]
    exact ⟨by simp [*], rfl⟩
  · have HE : Hid (wordB p = false) := hid_intro (by unfold wordB; simp; omega)
    have q0 : p ≥ 97 := by omega
    have q1 : ¬ p ≤ 122 := by omega
    have q2 : p ≥ 65 := by omega
    have q3 : ¬ p ≤ 90 := by omega
    have q4 : p ≥ 48 := by omega
    have q5 : ¬ p ≤ 57 := by omega
    have q6 : ¬ p = 95 := by omega
    clear hc
    go_enter Tryz.func18, Tryz.ntmps18
    go_wp2_with fail
    rw [HP.out, HE.out]
    exact ⟨by simp [*], rfl⟩
set_option maxRecDepth 100000 in
set_option maxHeartbeats 1600000 in
theorem wat_any (t : List Int) (v : Value) (i : Int) (w : World) (X : Nat → Prop) (hI : II w X t v) : Calls Tryz.prog 120 #[v, .int .i64 i] w fun e w' => e = .returned (.bool (wat t i)) ∧ w' = w := by
  obtain ⟨ao, cap, rfl, hc, hcm, hok, hl⟩ := hI
  obtain ⟨P, hP⟩ : ∃ P : Ending → World → Prop, P = fun e w' => e = .returned (.bool (wat t i)) ∧ w' = w := ⟨_, rfl⟩
  rw [← hP]
  have HP := hid_intro hP
  clear hP
  by_cases h0 : i ≥ 0
  · by_cases h1 : i < (t.length : Int)
    · obtain ⟨j, rfl⟩ : ∃ j : Nat, i = (j : Int) := ⟨i.toNat, by omega⟩
      have hj : j < t.length := by omega
      rcases hl with rfl | ⟨b, off, rfl, _, hl⟩
      · simp at hj
      have c0 := hl j hj
      have hw := word_any (ia t j) w
      have HE : Hid (wat t (j : Int) = wordB (ia t j)) := hid_intro (by unfold wat; rw [decide_eq_true ⟨h0, h1⟩]; simp)
      clear hl hok hcm hc hj
      go_enter Tryz.func120, Tryz.ntmps120
      go_wp2_with fail
      refine hw.mono ?_; rintro e w1 ⟨rfl, rfl⟩
      go_wp2_with fail
      rw [HP.out, HE.out]
      exact ⟨rfl, rfl⟩
    · have HE : Hid (wat t i = false) := hid_intro (by unfold wat; rw [decide_eq_false (by omega)]; rfl)
      clear hl hok hcm hc
      go_enter Tryz.func120, Tryz.ntmps120
      go_wp2_with fail
      rw [HP.out, HE.out]
      exact ⟨rfl, rfl⟩
  · have HE : Hid (wat t i = false) := hid_intro (by unfold wat; rw [decide_eq_false (by omega)]; rfl)
    clear hl hok hcm hc
    go_enter Tryz.func120, Tryz.ntmps120
    go_wp2_with fail
    rw [HP.out, HE.out]
    exact ⟨rfl, rfl⟩
set_option maxRecDepth 100000 in
set_option maxHeartbeats 1600000 in
theorem bord_any (t : List Int) (v : Value) (p : Nat) (hp : p ≤ 1099511627776) (w : World) (X : Nat → Prop) (hI : II w X t v) : Calls Tryz.prog 88 #[v, .int .i64 (p : Int)] w fun e w' => e = .returned (.bool (bordB t p)) ∧ w' = w := by
  have h1 := wat_any t v ((p : Int) - 1) w X hI
  have h2 := wat_any t v (p : Int) w X hI
  obtain ⟨P, hP⟩ : ∃ P : Ending → World → Prop, P = fun e w' => e = .returned (.bool (bordB t p)) ∧ w' = w := ⟨_, rfl⟩
  rw [← hP]
  have HP := hid_intro hP
  clear hP hI
  have HE : Hid (bordB t p = (wat t ((p : Int) - 1) != wat t (p : Int))) := hid_intro rfl
  go_enter Tryz.func88, Tryz.ntmps88
  go_wp2_with fail
  refine h1.mono ?_; rintro e w1 ⟨rfl, rfl⟩
  go_wp2_with fail
  refine h2.mono ?_; rintro e w1 ⟨rfl, rfl⟩
  go_wp2_with fail
  rw [HP.out, HE.out]
  refine ⟨?_, rfl⟩
  cases wat t ((p : Int) - 1) <;> cases wat t (p : Int) <;> rfl
set_option maxRecDepth 100000 in
set_option maxHeartbeats 3200000 in
theorem lets_any (t : List Int) (v : Value) (k : Int) (p : Nat) (hp : p ≤ 1099511627776) (w : World) (X : Nat → Prop) (hI : II w X t v) : Calls Tryz.prog 58 #[v, .int .i64 k, .int .i64 (p : Int)] w fun e w' => e = .returned (.bool (letsB t p k)) ∧ w' = w := by
  have hB := bord_any t v p hp w X hI
  obtain ⟨ao, cap, rfl, hc, hcm, hok, hl⟩ := hI
  obtain ⟨P, hP⟩ : ∃ P : Ending → World → Prop, P = fun e w' => e = .returned (.bool (letsB t p k)) ∧ w' = w := ⟨_, rfl⟩
  rw [← hP]
  have HP := hid_intro hP
  clear hP hl hok hcm hc
  by_cases k2 : k = 2
  · have HE : Hid (letsB t p k = true) := hid_intro (by unfold letsB; rw [if_pos k2])
    clear hB
    go_enter Tryz.func58, Tryz.ntmps58
    go_wp2_with fail
    rw [HP.out, HE.out]
    exact ⟨rfl, rfl⟩
  by_cases k3 : k = 3
  · have HE : Hid (letsB t p k = decide (p = 0)) := hid_intro (by unfold letsB; rw [if_neg k2, if_pos k3])
    clear hB
    go_enter Tryz.func58, Tryz.ntmps58
    go_wp2_with fail
    rw [HP.out, HE.out]
    refine ⟨?_, rfl⟩
    by_cases h : p = 0 <;> simp [h]
  by_cases k4 : k = 4
  · have HE : Hid (letsB t p k = decide (p = t.length)) := hid_intro (by unfold letsB; rw [if_neg k2, if_neg k3, if_pos k4])
    clear hB
    go_enter Tryz.func58, Tryz.ntmps58
    go_wp2_with fail
    rw [HP.out, HE.out]
    refine ⟨?_, rfl⟩
    by_cases h : p = t.length
    · simp [h]
    · have : ¬ (p : Int) = (t.length : Int) := by omega
      simp [h, this]
  by_cases k5 : k = 5
  · have HE : Hid (letsB t p k = bordB t p) := hid_intro (by unfold letsB; rw [if_neg k2, if_neg k3, if_neg k4, if_pos k5])
    go_enter Tryz.func58, Tryz.ntmps58
    go_wp2_with fail
    refine hB.mono ?_; rintro e w1 ⟨rfl, rfl⟩
    go_wp2_with fail
    rw [HP.out, HE.out]
    exact ⟨rfl, rfl⟩
  by_cases k6 : k = 6
  · have HE : Hid (letsB t p k = !bordB t p) := hid_intro (by unfold letsB; rw [if_neg k2, if_neg k3, if_neg k4, if_neg k5, if_pos k6])
    go_enter Tryz.func58, Tryz.ntmps58
    go_wp2_with fail
    refine hB.mono ?_; rintro e w1 ⟨rfl, rfl⟩
    go_wp2_with fail
    rw [HP.out, HE.out]
    exact ⟨rfl, rfl⟩
  · have HE : Hid (letsB t p k = false) := hid_intro (by unfold letsB; rw [if_neg k2, if_neg k3, if_neg k4, if_neg k5, if_neg k6])
    clear hB
    go_enter Tryz.func58, Tryz.ntmps58
    go_wp2_with fail
    rw [HP.out, HE.out]
    exact ⟨rfl, rfl⟩
theorem places_any (t : List Int) (hlen : t.length ≤ 1099511627776) (v : Value) (w : World) (X : Nat → Prop) (hI : II w X t v) : Calls Tryz.prog 33 #[v] w fun e w' => e = .returned (.int .i64 ((t.length : Int) + 1)) ∧ w' = w := by
  obtain ⟨ao, cap, rfl, hc, hcm, hok, hl⟩ := hI
  have hI : (t.length : Int) + 1 ≤ 9223372036854775807 := by omega
  obtain ⟨P, hP⟩ : ∃ P : Ending → World → Prop, P = fun e w' => e = .returned (.int .i64 ((t.length : Int) + 1)) ∧ w' = w := ⟨_, rfl⟩
  rw [← hP]
  have HP := hid_intro hP
  clear hP hl hok hcm hc hlen
  go_enter Tryz.func33, Tryz.ntmps33
  go_wp2_with fail
  rw [HP.out]
  exact ⟨rfl, rfl⟩
end Go.Proofs.YtoinlmfodmgohaaGreatDoor

namespace Go.Proofs.YtoinlmfodmgohaaGreatDoor
open Go.RowKit Go.Maps
attribute [local go_sem] setCell_drewN alloc_drewN

/-- The blocks of the follower's variables, the map's, and from where on rows lie. -/
structure EV where
  cb : Nat
  pb : Nat
  wb : Nat
  hb : Nat
  lb : Nat
  tb : Nat
  fb : Nat
  mb : Nat
  B : Nat
def clo (e : EV) : Value := .func (.func 57) #[] #[.pointer (some ⟨e.cb, 0, none⟩), .pointer (some ⟨e.pb, 0, none⟩), .pointer (some ⟨e.wb, 0, none⟩), .pointer (some ⟨e.hb, 0, none⟩), .pointer (some ⟨e.lb, 0, none⟩), .pointer (some ⟨e.tb, 0, none⟩), .pointer (some ⟨e.fb, 0, none⟩)]
structure FX (w : World) (X : Nat → Prop) (e : EV) (L : List ST) (t : List Int) : Prop where
  xp : X e.pb ∧ X e.wb ∧ X e.hb ∧ X e.mb
  nx : ¬ X e.cb ∧ ¬ X e.lb ∧ ¬ X e.tb ∧ ¬ X e.fb
  ne : e.pb ≠ e.wb ∧ e.pb ≠ e.hb ∧ e.wb ≠ e.hb ∧ e.mb ≠ e.pb ∧ e.mb ≠ e.wb ∧ e.mb ≠ e.hb
  lo : e.pb < e.B ∧ e.wb < e.B ∧ e.hb < e.B ∧ e.mb < e.B
  sz : e.B ≤ w.heap.size
  xn : ∀ b, w.heap.size ≤ b → X b
  kc : Bk w e.cb #[.map (some e.mb)]
  kl : ∃ lv, Bk w e.lb #[lv] ∧ SI w X L lv
  kt : ∃ tv, Bk w e.tb #[tv] ∧ II w X t tv
  kf : Bk w e.fb #[clo e]
theorem FX.but {w w' : World} {X : Nat → Prop} {e : EV} {L : List ST} {t : List Int} (h : FX w X e L t) (hb : But X w w') : FX w' X e L t := by
  obtain ⟨xp, nx, ne, lo, sz, xn, kc, ⟨lv, kl, sl⟩, ⟨tv, kt, st⟩, kf⟩ := h
  exact ⟨xp, nx, ne, lo, Nat.le_trans sz hb.size, fun b h => xn b (Nat.le_trans hb.size h), kc.but hb nx.1, ⟨lv, kl.but hb nx.2.1, sl.but hb⟩, ⟨tv, kt.but hb nx.2.2.1, st.but hb⟩, kf.but hb nx.2.2.2⟩
/-- Fewer blocks may be written. -/
theorem FX.less {w : World} {X X' : Nat → Prop} {e : EV} {L : List ST} {t : List Int} (h : FX w X e L t) (hx : ∀ b, X' b → X b) (xp : X' e.pb ∧ X' e.wb ∧ X' e.hb ∧ X' e.mb) (xn : ∀ b, w.heap.size ≤ b → X' b) : FX w X' e L t := by
  obtain ⟨_, nx, ne, lo, sz, _, kc, ⟨lv, kl, sl⟩, ⟨tv, kt, st⟩, kf⟩ := h
  exact ⟨xp, ⟨fun h => nx.1 (hx _ h), fun h => nx.2.1 (hx _ h), fun h => nx.2.2.1 (hx _ h), fun h => nx.2.2.2 (hx _ h)⟩, ne, lo, sz, xn, kc, ⟨lv, kl, sl.carry fun b h _ => ⟨rfl, fun h' => h (hx _ h')⟩⟩, ⟨tv, kt, st.carry fun b h _ => ⟨rfl, fun h' => h (hx _ h')⟩⟩, kf⟩
theorem But.more {X X' : Nat → Prop} {w w' : World} (h : But X' w w') (hx : ∀ b, X' b → X b) : But X w w' := ⟨h.os, h.tape, h.output, h.size, fun b hb hX => h.block b hb (fun e => hX (hx b e))⟩
/-- All of it: at a place, the states that have come, and those that wait. -/
structure FS (w : World) (X : Nat → Prop) (e : EV) (L : List ST) (t : List Int) (p : Nat) (H W : List Int) : Prop where
  fx : FX w X e L t
  kp : Bk w e.pb #[.int .i64 (p : Int)]
  ro : ∃ vh vw, Bk w e.hb #[vh] ∧ Bk w e.wb #[vw] ∧ OwnI w e.B vh H ∧ OwnI w e.B vw W ∧ (∀ b, vh.ownBlock = some b → X b ∧ vw.ownBlock ≠ some b) ∧ (∀ b, vw.ownBlock = some b → X b)
  mp : ∃ cnt c, CM w e.mb cnt c ∧ cnt ≤ p * L.length + H.length ∧ ∀ x, InL L x → c x ≤ (p : Int) + 1 ∧ (c x = (p : Int) + 1 ↔ x ∈ H)
theorem FS.up {w w' : World} {X X' : Nat → Prop} {e : EV} {L : List ST} {t : List Int} {p : Nat} {H W : List Int} (hx : ∀ b, X' b → X b) (hf : FX w X e L t) (hb : But X' w w') (h : FS w' X' e L t p H W) : FS w' X e L t p H W := by
  obtain ⟨fx, kp, ⟨vh, vw, kh, kw, oh, ow, xh, xw⟩, mp⟩ := h
  exact ⟨hf.but (hb.more hx), kp, ⟨vh, vw, kh, kw, oh, ow, fun b h => ⟨hx b (xh b h).1, (xh b h).2⟩, fun b h => hx b (xw b h)⟩, mp⟩
theorem FS.down {w : World} {X : Nat → Prop} {e : EV} {L : List ST} {t : List Int} {p : Nat} {H W : List Int} (h : FS w X e L t p H W) (bs : Nat) (hB : e.B ≤ bs) (hlt : bs < w.heap.size) (hn : ∀ vh vw, Bk w e.hb #[vh] → Bk w e.wb #[vw] → vh.ownBlock ≠ some bs ∧ vw.ownBlock ≠ some bs) : FS w (fun b => X b ∧ b ≠ bs) e L t p H W := by
  obtain ⟨fx, kp, ⟨vh, vw, kh, kw, oh, ow, xh, xw⟩, mp⟩ := h
  have lo := fx.lo
  have xp := fx.xp
  have hq := hn vh vw kh kw
  exact ⟨fx.less (fun b h => h.1) ⟨⟨xp.1, by omega⟩, ⟨xp.2.1, by omega⟩, ⟨xp.2.2.1, by omega⟩, ⟨xp.2.2.2, by omega⟩⟩ (fun b h => ⟨fx.xn b h, by omega⟩), kp, ⟨vh, vw, kh, kw, oh, ow, fun b h => ⟨⟨(xh b h).1, fun e => hq.1 (e ▸ h)⟩, (xh b h).2⟩, fun b h => ⟨xw b h, fun e => hq.2 (e ▸ h)⟩⟩, mp⟩
theorem blk_lt {w : World} {B : Nat} {v : Value} {l : List Int} (h : OwnI w B v l) {b : Nat} (hb : b < B) : v.ownBlock ≠ some b := fun e => by have := (h.lt e).1; omega
/-- A state more is there, and its cells stand in a block. -/
theorem fs_mark {w w1 w2 : World} {X : Nat → Prop} {e : EV} {L : List ST} {t : List Int} {p : Nat} {H W : List Int} {s : Int} {vh vw : Value} {cnt : Nat} {c : Int → Int} (fx : FX w X e L t) (kp : Bk w e.pb #[.int .i64 (p : Int)])
    (kh : Bk w e.hb #[vh]) (kw : Bk w e.wb #[vw]) (oh : OwnI w e.B vh H) (ow : OwnI w e.B vw W) (xh : ∀ b, vh.ownBlock = some b → X b ∧ vw.ownBlock ≠ some b) (xw : ∀ b, vw.ownBlock = some b → X b)
    (hcn : cnt ≤ p * L.length + H.length) (hcx : ∀ x, InL L x → c x ≤ (p : Int) + 1 ∧ (c x = (p : Int) + 1 ↔ x ∈ H))
    (hcm1 : CM w1 e.mb (cnt + 1) (fun u => if u = s then (p : Int) + 1 else c u)) (hg1 : w.grownBy w1 (some e.mb)) {g cap : Nat} (ho2 : OwnI w2 e.B (.slice (some ⟨g, 0, none⟩) (H.length + 1) cap) (H ++ [s]))
    (hg2 : (w1.alloc (.cells #[.int .i64 s] 3)).grownBy w2 vh.ownBlock) (hloc : vh.ownBlock = some g ∨ w1.heap.size < g) (cs : Array Value) (T : TypeId) :
    FS ((w2.setCell ⟨e.hb, 0, none⟩ (.slice (some ⟨g, 0, none⟩) (H.length + 1) cap)).alloc (.cells cs T)) X e L t p (H ++ [s]) W ∧
    But X w ((w2.setCell ⟨e.hb, 0, none⟩ (.slice (some ⟨g, 0, none⟩) (H.length + 1) cap)).alloc (.cells cs T)) ∧
    FS (w2.setCell ⟨e.hb, 0, none⟩ (.slice (some ⟨g, 0, none⟩) (H.length + 1) cap)) X e L t p (H ++ [s]) W := by
  have lo := fx.lo
  have xp := fx.xp
  have ne := fx.ne
  have s1 := hg1.size
  have s2 := hg2.size
  have sz := fx.sz
  have e1 : (w1.alloc (.cells #[.int .i64 s] 3)).heap.size = w1.heap.size + 1 := by simp
  have hB : But X w (w2.setCell ⟨e.hb, 0, none⟩ (.slice (some ⟨g, 0, none⟩) (H.length + 1) cap)) :=
    ((((But.refl X w).grown hg1 (fun b h => by injection h with h; exact Or.inl (h ▸ xp.2.2.2))).alloc _).grown hg2 (fun b h => Or.inl (xh b h).1)).set (Or.inl xp.2.2.1) _
  have key : ∀ b cs, Bk w b cs → b < e.B → b ≠ e.mb → b ≠ e.hb → Bk (w2.setCell ⟨e.hb, 0, none⟩ (.slice (some ⟨g, 0, none⟩) (H.length + 1) cap)) b cs := fun b cs h hb hm hh =>
    (((h.gr hg1 (fun e => hm (by injection e with e; exact e.symm))).al _).gr hg2 (blk_lt oh hb)).away hh
  have hF : FS (w2.setCell ⟨e.hb, 0, none⟩ (.slice (some ⟨g, 0, none⟩) (H.length + 1) cap)) X e L t p (H ++ [s]) W := by
    refine ⟨fx.but hB, key _ _ kp lo.1 (fun e => ne.2.2.2.1 e.symm) ne.2.1, ⟨_, vw, ?_, key _ _ kw lo.2.1 (fun e => ne.2.2.2.2.1 e.symm) ne.2.2.1, ho2.set _ _ lo.2.2.1, ?_, ?_, xw⟩, ⟨cnt + 1, fun u => if u = s then (p : Int) + 1 else c u, ?_, ?_, ?_⟩⟩
    · exact Bk.set (((kh.gr hg1 (fun h => by injection h with h; exact ne.2.2.2.2.2 h)).al _).gr hg2 (blk_lt oh lo.2.2.1)) 0 _ rfl
    · refine OwnI.set ?_ _ _ lo.2.2.1
      refine ((ow.gr hg1 (fun g hg h => by injection h with h; have := (ow.lt hg).1; omega)).bel (vb_a (Below.refl _ _) _)).gr hg2 (fun g hg h => (xh g h).2 hg)
    · intro b hb
      simp only [Value.ownBlock, Option.some.injEq] at hb
      subst hb
      rcases hloc with h | h
      · exact xh _ h
      · refine ⟨fx.xn _ (by omega), fun h' => ?_⟩
        have := (ow.lt h').2
        omega
    · refine hcm1.blk ?_
      rw [Below.heap_setCell _ _ _ _ (show e.mb ≠ e.hb from ne.2.2.2.2.2)]
      have hlt := hcm1.lt
      rw [hg2.block e.mb (by rw [e1]; omega) (fun h => blk_lt oh lo.2.2.2 h.symm)]
      exact (vb_a (Below.refl _ w1) (.cells #[.int .i64 s] 3)).block e.mb hlt
    · simp only [List.length_append, List.length_cons, List.length_nil]; omega
    · intro x hx
      dsimp only
      have hh := hcx x hx
      by_cases ex : x = s
      · rw [if_pos ex]
        exact ⟨Int.le_refl _, fun _ => by simp [ex], fun _ => rfl⟩
      · rw [if_neg ex]
        refine ⟨hh.1, fun h => by simp [hh.2.1 h], fun h => hh.2.2 ?_⟩
        simpa [ex] using h
  refine ⟨?_, hB.alloc _, hF⟩
  obtain ⟨fx', kp', ⟨vh', vw', kh', kw', oh', ow', xh', xw'⟩, ⟨cnt', c', hcm', hcn', hcx'⟩⟩ := hF
  have hb := vb_a (Below.refl _ (w2.setCell ⟨e.hb, 0, none⟩ (.slice (some ⟨g, 0, none⟩) (H.length + 1) cap))) (.cells cs T)
  exact ⟨fx'.but (But.ofBelow hb), kp'.bel hb, ⟨vh', vw', kh'.bel hb, kw'.bel hb, oh'.bel hb, ow'.bel hb, xh', xw'⟩, ⟨cnt', c', hcm'.blk (hb.block _ hcm'.lt), hcn', hcx'⟩⟩
/-- A state more waits. -/
theorem fs_wait {w w2 : World} {X : Nat → Prop} {e : EV} {L : List ST} {t : List Int} {p : Nat} {H W : List Int} {s : Int} {vh vw : Value} {cnt : Nat} {c : Int → Int} (fx : FX w X e L t) (kp : Bk w e.pb #[.int .i64 (p : Int)])
    (kh : Bk w e.hb #[vh]) (kw : Bk w e.wb #[vw]) (oh : OwnI w e.B vh H) (ow : OwnI w e.B vw W) (xh : ∀ b, vh.ownBlock = some b → X b ∧ vw.ownBlock ≠ some b) (xw : ∀ b, vw.ownBlock = some b → X b)
    (hcm : CM w e.mb cnt c) (hcn : cnt ≤ p * L.length + H.length) (hcx : ∀ x, InL L x → c x ≤ (p : Int) + 1 ∧ (c x = (p : Int) + 1 ↔ x ∈ H))
    {g cap : Nat} (ho2 : OwnI w2 e.B (.slice (some ⟨g, 0, none⟩) (W.length + 1) cap) (W ++ [s]))
    (hg2 : (w.alloc (.cells #[.int .i64 s] 3)).grownBy w2 vw.ownBlock) (hloc : vw.ownBlock = some g ∨ w.heap.size < g) :
    FS (w2.setCell ⟨e.wb, 0, none⟩ (.slice (some ⟨g, 0, none⟩) (W.length + 1) cap)) X e L t p H (W ++ [s]) ∧ But X w (w2.setCell ⟨e.wb, 0, none⟩ (.slice (some ⟨g, 0, none⟩) (W.length + 1) cap)) := by
  have lo := fx.lo
  have xp := fx.xp
  have ne := fx.ne
  have sz := fx.sz
  have e1 : (w.alloc (.cells #[.int .i64 s] 3)).heap.size = w.heap.size + 1 := by simp
  have hB : But X w (w2.setCell ⟨e.wb, 0, none⟩ (.slice (some ⟨g, 0, none⟩) (W.length + 1) cap)) :=
    (((But.refl X w).alloc _).grown hg2 (fun b h => Or.inl (xw b h))).set (Or.inl xp.2.1) _
  have key : ∀ b cs, Bk w b cs → b < e.B → b ≠ e.wb → Bk (w2.setCell ⟨e.wb, 0, none⟩ (.slice (some ⟨g, 0, none⟩) (W.length + 1) cap)) b cs := fun b cs h hb hh => ((h.al _).gr hg2 (blk_lt ow hb)).away hh
  refine ⟨⟨fx.but hB, key _ _ kp lo.1 ne.1, ⟨vh, _, key _ _ kh lo.2.2.1 (fun e => ne.2.2.1 e.symm), ?_, ?_, ho2.set _ _ lo.2.1, ?_, ?_⟩, ⟨cnt, c, ?_, hcn, hcx⟩⟩, hB⟩
  · exact Bk.set ((kw.al _).gr hg2 (blk_lt ow lo.2.1)) 0 _ rfl
  · refine OwnI.set ?_ _ _ lo.2.1
    exact (oh.bel (vb_a (Below.refl _ _) _)).gr hg2 (fun g hg h => (xh g hg).2 h)
  · intro b hb
    refine ⟨(xh b hb).1, fun h => ?_⟩
    simp only [Value.ownBlock, Option.some.injEq] at h
    subst h
    rcases hloc with h | h
    · exact (xh _ hb).2 h
    · have := (oh.lt hb).2; omega
  · intro b hb
    simp only [Value.ownBlock, Option.some.injEq] at hb
    subst hb
    rcases hloc with h | h
    · exact xw _ h
    · exact fx.xn _ (by omega)
  · refine hcm.blk ?_
    rw [Below.heap_setCell _ _ _ _ (show e.mb ≠ e.wb from ne.2.2.2.2.1)]
    have hlt := hcm.lt
    rw [hg2.block e.mb (by rw [e1]; omega) (fun h => blk_lt ow lo.2.2.2 h.symm)]
    exact (vb_a (Below.refl _ w) (.cells #[.int .i64 s] 3)).block e.mb hlt
end Go.Proofs.YtoinlmfodmgohaaGreatDoor

namespace Go.Proofs.YtoinlmfodmgohaaGreatDoor
open Go.RowKit Go.Maps
attribute [local go_sem] setCell_drewN alloc_drewN

theorem SI.cells {w : World} {X : Nat → Prop} {L : List ST} {v : Value} (h : SI w X L v) {s : Int} (hs : InL L s) : ∃ b off cap g, v = .slice (some ⟨b, off, none⟩) L.length cap ∧ L.length ≤ cap ∧ cap ≤ maxLen ∧ ¬ X b ∧ b < w.heap.size ∧ (w.cell? ⟨b, off + s.toNat * 4, none⟩ = some (.int .i64 (sx L s).k) ∧ w.cell? ⟨b, off + s.toNat * 4 + 1, none⟩ = some g ∧ w.cell? ⟨b, off + s.toNat * 4 + 2, none⟩ = some (.int .i64 (sx L s).a) ∧ w.cell? ⟨b, off + s.toNat * 4 + 3, none⟩ = some (.int .i64 (sx L s).b)) ∧ RI w X (sx L s).r g := by
  unfold InL at hs
  obtain ⟨ao, cap, rfl, h1, h2, h3, h4⟩ := h
  rcases h4 with rfl | ⟨b, off, G, rfl, h6, h7⟩
  · simp at hs; omega
  · have hi : s.toNat < L.length := by omega
    have := h7 s.toNat hi
    exact ⟨b, off, cap, G s.toNat, rfl, h1, h2, h6, World.block_lt_of_cell? w _ this.1.1, this.1, this.2⟩
theorem inl_i64 {L : List ST} (hl : L.length ≤ 1048576) {s : Int} (h : InL L s) : I64 s := by unfold InL at h; exact ⟨by omega, by omega⟩

set_option maxRecDepth 100000 in
set_option maxHeartbeats 3200000 in
theorem follow_in {X : Nat → Prop} {cb pb wb hb lb tb fb mb B : Nat} {L : List ST} {t : List Int} {p : Nat} (hl : L.length ≤ 1048576) (hp : p ≤ 1048576) (s deep : Int) (H W : List Int) (w : World) (hs : InL L s) (hF : FS w X ⟨cb, pb, wb, hb, lb, tb, fb, mb, B⟩ L t p H W) (hin : s ∈ H) :
    Calls Tryz.prog 57 #[.int .i64 s, .int .i64 deep, .pointer (some ⟨cb, 0, none⟩), .pointer (some ⟨pb, 0, none⟩), .pointer (some ⟨wb, 0, none⟩), .pointer (some ⟨hb, 0, none⟩), .pointer (some ⟨lb, 0, none⟩), .pointer (some ⟨tb, 0, none⟩), .pointer (some ⟨fb, 0, none⟩)] w fun en w' => en = .returned (.tuple #[]) ∧ w' = w := by
  obtain ⟨fx, kp, ro, ⟨cnt, c, hcm, hcn, hcx⟩⟩ := hF
  have hcs : c s = (p : Int) + 1 := (hcx s hs).2.2 hin
  have HS := hid_intro (inl_i64 hl hs)
  have HCM := hid_intro hcm
  have HCS := hid_intro hcs
  obtain ⟨P, hP⟩ : ∃ P : Ending → World → Prop, P = fun en w' => en = .returned (.tuple #[]) ∧ w' = w := ⟨_, rfl⟩
  rw [← hP]
  have HP := hid_intro hP
  have c0 := fx.kc.q1
  have c1 := kp.q1
  have hpI : (p : Int) ≤ 1048576 := by omega
  dsimp only at c0 c1
  clear hP fx kp ro hcm hcn hcx hcs hl hp hs hin
  go_enter Tryz.func57, Tryz.ntmps57
  go_wp2_with (at_lookup; refine wpList_look_cm rfl _ _ rfl mb cnt c rfl HCM.out s rfl HS.out ?_; rw [HCS.out])
  go_end0
  rw [HP.out]
  exact ⟨rfl, rfl⟩
set_option maxRecDepth 100000 in
set_option maxHeartbeats 3200000 in
theorem follow_end {X : Nat → Prop} {cb pb wb hb lb tb fb mb B : Nat} {L : List ST} {t : List Int} {p : Nat} (hl : L.length ≤ 1048576) (hp : p ≤ 1048576) (s : Int) (H W : List Int) (w : World) (hs : InL L s) (hF : FS w X ⟨cb, pb, wb, hb, lb, tb, fb, mb, B⟩ L t p H W) (hin : s ∉ H) (hW : W.length ≤ 1073741824) :
    Calls Tryz.prog 57 #[.int .i64 s, .int .i64 1000, .pointer (some ⟨cb, 0, none⟩), .pointer (some ⟨pb, 0, none⟩), .pointer (some ⟨wb, 0, none⟩), .pointer (some ⟨hb, 0, none⟩), .pointer (some ⟨lb, 0, none⟩), .pointer (some ⟨tb, 0, none⟩), .pointer (some ⟨fb, 0, none⟩)] w fun en w' => en = .returned (.tuple #[]) ∧ FS w' X ⟨cb, pb, wb, hb, lb, tb, fb, mb, B⟩ L t p H (W ++ [s]) ∧ But X w w' := by
  obtain ⟨P, hP⟩ : ∃ P : Ending → World → Prop, P = fun en w' => en = .returned (.tuple #[]) ∧ FS w' X ⟨cb, pb, wb, hb, lb, tb, fb, mb, B⟩ L t p H (W ++ [s]) ∧ But X w w' := ⟨_, rfl⟩
  rw [← hP]
  have HP := hid_intro hP
  obtain ⟨fx, kp, ⟨vh, vw, kh, kw, oh, ow, xh, xw⟩, ⟨cnt, c, hcm, hcn, hcx⟩⟩ := hF
  have hcs : ¬ c s = (p : Int) + 1 := fun h => hin ((hcx s hs).2.1 h)
  have HWT := hid_intro (fun w2 g cap => fs_wait (w2 := w2) (g := g) (cap := cap) (s := s) fx kp kh kw oh ow xh xw hcm hcn hcx)
  have HS := hid_intro (inl_i64 hl hs)
  have HCM := hid_intro hcm
  have HOW := hid_intro ow
  have HSZ := hid_intro fx.sz
  have HLN := hid_intro (show W.length ≤ 1099511627776 by omega)
  have c0 := fx.kc.q1
  have c1 := kp.q1
  have c2 := kw.q1
  have c3 : (w.alloc (.cells #[.int .i64 s] 3)).cell? ⟨wb, 0, none⟩ = some vw := (kw.al _).q1
  have HKW := hid_intro (show vw.ownBlock ≠ some wb from blk_lt ow fx.lo.2.1)
  have HKB := hid_intro kw
  have hpI : (p : Int) ≤ 1048576 := by omega
  dsimp only at c0 c1 c2 HSZ HOW
  clear hP fx kp kh kw oh ow xh xw hcm hcn hcx hl hp hs hin hW
  go_enter Tryz.func57, Tryz.ntmps57
  go_wp2_with (first | (at_lookup; refine wpList_look_cm rfl _ _ rfl mb cnt c rfl HCM.out s rfl HS.out ?_) | (at_builtin; refine wpList_append_i rfl _ _ rfl B vw W rfl HOW.out HSZ.out HLN.out s HS.out _ rfl rfl ?_; intro g cap w2 ho2 hg2 hloc; have hk2 := (HKB.out.al _).gr hg2 HKW.out; obtain z0 := hk2.q1; obtain z1 := hk2.frz 0; have HO2 := hid_intro ho2; have HG2 := hid_intro hg2; have HL2 := hid_intro hloc; clear hk2 ho2 hg2 hloc))
  go_end0
  rw [HP.out]
  exact ⟨rfl, HWT.out _ _ _ HO2.out HG2.out HL2.out⟩
end Go.Proofs.YtoinlmfodmgohaaGreatDoor
