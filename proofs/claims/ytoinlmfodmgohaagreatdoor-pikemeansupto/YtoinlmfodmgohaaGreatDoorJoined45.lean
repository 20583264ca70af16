/-
  The document's words, borders and what lets one through. Conditions: at most 2^20 code points.
  The document's states at a place. Conditions: there is room.
-/
import Derived.Test.YtoinlmfodmgohaaGreatDoorJoined25
import Derived.Laws.AppendOwnNone
namespace Go.Proofs.YtoinlmfodmgohaaGreatDoor
open Go.RowKit
attribute [local go_sem] setCell_drewN alloc_drewN

set_option maxRecDepth 100000 in
set_option maxHeartbeats 3200000 in
theorem rword_any (p : Int) (w : World) : Calls Tryz.prog 19 #[.int .i64 p] w fun e w' => e = .returned (.bool (wordB p)) ∧ w' = w := by
  obtain ⟨P, hP⟩ : ∃ P : Ending → World → Prop, P = fun e w' => e = .returned (.bool (wordB p)) ∧ w' = w := ⟨_, rfl⟩
  rw [← hP]
  have HP := hid_intro hP
  clear hP
  have hc : (p < 48) ∨ (48 ≤ p ∧ p ≤ 57) ∨ (58 ≤ p ∧ p < 65) ∨ (65 ≤ p ∧ p ≤ 90) ∨ (91 ≤ p ∧ p < 95) ∨ (p = 95) ∨ (p = 96) ∨ (97 ≤ p ∧ p ≤ 122) ∨ (122 < p) := by omega
  rcases hc with hc | hc | hc | hc | hc | hc | hc | hc | hc
  · have HE : Hid (wordB p = false) := hid_intro (by unfold wordB; simp; omega)
    have q0 : ¬ p ≥ 97 := by omega
    have q1 : p ≤ 122 := by omega
    have q2 : ¬ p ≥ 65 := by omega
    have q3 : p ≤ 90 := by omega
    have q4 : ¬ p ≥ 48 := by omega
    have q5 : p ≤ 57 := by omega
    have q6 : ¬ p = 95 := by omega
    clear hc
    go_enter Tryz.func19, Tryz.ntmps19
    go_wp2_with fail
    rw [HP.out, HE.out]
    exact ⟨by simp [*], rfl⟩
  · have HE : Hid (wordB p = true) := hid_intro (by unfold wordB; simp; omega)
    have q0 : ¬ p ≥ 97 := by omega
    have q1 : p ≤ 122 := by omega
    have q2 : ¬ p ≥ 65 := by omega
    have q3 : p ≤ 90 := by omega
    have q4 : p ≥ 48 := by omega
    have q5 : p ≤ 57 := by omega
    have q6 : ¬ p = 95 := by omega
    clear hc
    go_enter Tryz.func19, Tryz.ntmps19
    go_wp2_with fail
    rw [HP.out, HE.out]
    exact ⟨by simp [*], rfl⟩
  · have HE : Hid (wordB p = false) := hid_intro (by unfold wordB; simp; omega)
    have q0 : ¬ p ≥ 97 := by omega
    have q1 : p ≤ 122 := by omega
    have q2 : ¬ p ≥ 65 := by omega
    have q3 : p ≤ 90 := by omega
    have q4 : p ≥ 48 := by omega
    have q5 : ¬ p ≤ 57 := by omega
    have q6 : ¬ p = 95 := by omega
    clear hc
    go_enter Tryz.func19, Tryz.ntmps19
    go_wp2_with fail
    rw [HP.out, HE.out]
    exact ⟨by simp [*], rfl⟩
  · have HE : Hid (wordB p = true) := hid_intro (by unfold wordB; simp; omega)
    have q0 : ¬ p ≥ 97 := by omega
    have q1 : p ≤ 122 := by omega
    have q2 : p ≥ 65 := by omega
    have q3 : p ≤ 90 := by omega
    have q4 : p ≥ 48 := by omega
    have q5 : ¬ p ≤ 57 := by omega
    have q6 : ¬ p = 95 := by omega
    clear hc
    go_enter Tryz.func19, Tryz.ntmps19
    go_wp2_with fail
    rw [HP.out, HE.out]
    exact ⟨by simp [*], rfl⟩
  · have HE : Hid (wordB p = false) := hid_intro (by unfold wordB; simp; omega)
    have q0 : ¬ p ≥ 97 := by omega
    have q1 : p ≤ 122 := by omega
    have q2 : p ≥ 65 := by omega
    have q3 : ¬ p ≤ 90 := by omega
    have q4 : p ≥ 48 := by omega
    have q5 : ¬ p ≤ 57 := by omega
    have q6 : ¬ p = 95 := by omega
    clear hc
    go_enter Tryz.func19, Tryz.ntmps19
    go_wp2_with fail
    rw [HP.out, HE.out]
    exact ⟨by simp [*], rfl⟩
  · have HE : Hid (wordB p = true) := hid_intro (by unfold wordB; simp; omega)
    have q0 : ¬ p ≥ 97 := by omega
    have q1 : p ≤ 122 := by omega
    have q2 : p ≥ 65 := by omega
    have q3 : ¬ p ≤ 90 := by omega
    have q4 : p ≥ 48 := by omega
    have q5 : ¬ p ≤ 57 := by omega
    have q6 : p = 95 := by omega
    clear hc
    go_enter Tryz.func19, Tryz.ntmps19
    go_wp2_with fail
    rw [HP.out, HE.out]
    exact ⟨by simp [*], rfl⟩
  · have HE : Hid (wordB p = false) := hid_intro (by unfold wordB; simp; omega)
    have q0 : ¬ p ≥ 97 := by omega
    have q1 : p ≤ 122 := by omega
    have q2 : p ≥ 65 := by omega
    have q3 : ¬ p ≤ 90 := by omega
    have q4 : p ≥ 48 := by omega
    have q5 : ¬ p ≤ 57 := by omega
    have q6 : ¬ p = 95 := by omega
    clear hc
    go_enter Tryz.func19, Tryz.ntmps19
    go_wp2_with fail
    rw [HP.out, HE.out]
    exact ⟨by simp [*], rfl⟩
  · have HE : Hid (wordB p = true) := hid_intro (by unfold wordB; simp; omega)
    have q0 : p ≥ 97 := by omega
    have q1 : p ≤ 122 := by omega
    have q2 : p ≥ 65 := by omega
    have q3 : ¬ p ≤ 90 := by omega
    have q4 : p ≥ 48 := by omega
    have q5 : ¬ p ≤ 57 := by omega
    have q6 : ¬ p = 95 := by omega
    clear hc
    go_enter Tryz.func19, Tryz.ntmps19
    go_wp2_with fail
    rw [HP.out, HE.out]
    exact ⟨by simp [*], rfl⟩
  · have HE : Hid (wordB p = false) := hid_intro (by unfold wordB; simp; omega)
    have q0 : p ≥ 97 := by omega
    have q1 : ¬ p ≤ 122 := by omega
    have q2 : p ≥ 65 := by omega
    have q3 : ¬ p ≤ 90 := by omega
    have q4 : p ≥ 48 := by omega
    have q5 : ¬ p ≤ 57 := by omega
    have q6 : ¬ p = 95 := by omega
    clear hc
    go_enter Tryz.func19, Tryz.ntmps19
    go_wp2_with fail
    rw [HP.out, HE.out]
    exact ⟨by simp [*], rfl⟩
set_option maxRecDepth 100000 in
set_option maxHeartbeats 1600000 in
theorem rbord_any (t : List Int) (v : Value) (p : Nat) (hp : p ≤ t.length) (hlen : t.length ≤ 1048576) (w : World) (X : Nat → Prop) (hI : II w X t v) : Calls Tryz.prog 98 #[v, .int .i64 (p : Int)] w fun e w' => e = .returned (.bool (bordB t p)) ∧ w' = w := by
  have hAT := fun i (hi : i < t.length) => hI.at hi
  obtain ⟨ao, cap, rfl, hc, hcm, hok, hl⟩ := hI
  obtain ⟨P, hP⟩ : ∃ P : Ending → World → Prop, P = fun e w' => e = .returned (.bool (bordB t p)) ∧ w' = w := ⟨_, rfl⟩
  rw [← hP]
  have HP := hid_intro hP
  have HE : Hid (bordB t p = (wat t ((p : Int) - 1) != wat t (p : Int))) := hid_intro rfl
  have HW := hid_intro (fun c => rword_any c w)
  have hpI : (p : Int) ≤ 1048576 := by omega
  clear hP hl hok hcm hc
  by_cases h0 : 0 < p
  · obtain ⟨q, rfl⟩ : ∃ q, p = q + 1 := ⟨p - 1, by omega⟩
    obtain ⟨b, off, c', e, c0⟩ := hAT q (by omega)
    injection e with e1 _ e3
    subst e1 e3
    have HA : Hid (wat t (((q + 1 : Nat) : Int) - 1) = wordB (ia t q)) := hid_intro (by
      have e : ((q + 1 : Nat) : Int) - 1 = (q : Int) := by omega
      rw [e]; unfold wat; rw [decide_eq_true ⟨by omega, by omega⟩]; simp)
    have j0 : (0 : Int) < (q : Int) + 1 := by omega
    have j1 : (q : Int) < (t.length : Int) := by omega
    have h1 := HW.out (ia t q)
    by_cases h2 : q + 1 < t.length
    · obtain ⟨b', off', c'', e, c1⟩ := hAT (q + 1) h2
      injection e with e1 _ e3
      injection e1 with e1
      injection e1 with e1 e2 _
      subst e1 e2 e3
      have HB : Hid (wat t ((q + 1 : Nat) : Int) = wordB (ia t (q + 1))) := hid_intro (by
        unfold wat; rw [decide_eq_true ⟨by omega, by omega⟩]; simp)
      have j2 : (q : Int) + 1 < (t.length : Int) := by omega
      have h3 := HW.out (ia t (q + 1))
      clear hAT h0 h2 hp hlen
      go_enter Tryz.func98, Tryz.ntmps98
      go_wp2_with fail
      refine h1.mono ?_; rintro e w1 ⟨rfl, hw1⟩
      rw [hw1]
      clear hw1
      go_wp2_with fail
      refine h3.mono ?_; rintro e w1 ⟨rfl, hw1⟩
      rw [hw1]
      clear hw1
      go_wp2_with fail
      rw [HP.out, HE.out, HA.out, HB.out]
      refine ⟨?_, rfl⟩
      cases wordB (ia t q) <;> cases wordB (ia t (q + 1)) <;> rfl
    · have HB : Hid (wat t ((q + 1 : Nat) : Int) = false) := hid_intro (by
        unfold wat; rw [decide_eq_false (by omega)]; rfl)
      have j2 : decide ((q : Int) + 1 < (t.length : Int)) = false := decide_eq_false (by omega)
      have jq : (q : Int) ≤ 1048576 := by omega
      clear hpI
      clear hAT h0 h2 hp hlen
      go_enter Tryz.func98, Tryz.ntmps98
      go_wp2_with fail
      refine h1.mono ?_; rintro e w1 ⟨rfl, hw1⟩
      rw [hw1]
      clear hw1
      go_wp2_with fail
      rw [HP.out, HE.out, HA.out, HB.out]
      refine ⟨?_, rfl⟩
      cases wordB (ia t q) <;> rfl
  · obtain rfl : p = 0 := by omega
    have HA : Hid (wat t (((0 : Nat) : Int) - 1) = false) := hid_intro (by unfold wat; rw [decide_eq_false (by omega)]; rfl)
    by_cases h2 : 0 < t.length
    · obtain ⟨b, off, c', e, c0⟩ := hAT 0 h2
      injection e with e1 _ e3
      subst e1 e3
      rw [Nat.add_zero] at c0
      have HB : Hid (wat t ((0 : Nat) : Int) = wordB (ia t 0)) := hid_intro (by
        unfold wat; rw [decide_eq_true ⟨by omega, by omega⟩]; simp)
      have j2 : (0 : Int) < (t.length : Int) := by omega
      have h3 := HW.out (ia t 0)
      clear hAT hp hlen
      go_enter Tryz.func98, Tryz.ntmps98
      go_wp2_with fail
      refine h3.mono ?_; rintro e w1 ⟨rfl, hw1⟩
      rw [hw1]
      clear hw1
      go_wp2_with fail
      rw [HP.out, HE.out, HA.out, HB.out]
      refine ⟨?_, rfl⟩
      cases wordB (ia t 0) <;> rfl
    · have HB : Hid (wat t ((0 : Nat) : Int) = false) := hid_intro (by
        unfold wat; rw [decide_eq_false (by omega)]; rfl)
      have j2 : ¬ (0 : Int) < (t.length : Int) := by omega
      have j3 : t.length = 0 := by omega
      clear hAT h2 hp hlen
      go_enter Tryz.func98, Tryz.ntmps98
      go_wp2_with fail
      rw [HP.out, HE.out, HA.out, HB.out]
      exact ⟨rfl, rfl⟩
set_option maxRecDepth 100000 in
set_option maxHeartbeats 3200000 in
theorem opens_any (t : List Int) (v : Value) (k : Int) (p : Nat) (hp : p ≤ t.length) (hlen : t.length ≤ 1048576) (w : World) (X : Nat → Prop) (hI : II w X t v) : Calls Tryz.prog 65 #[.int .i64 k, v, .int .i64 (p : Int)] w fun e w' => e = .returned (.bool (letsB t p k)) ∧ w' = w := by
  have hB := rbord_any t v p hp hlen w X hI
  obtain ⟨ao, cap, rfl, hc, hcm, hok, hl⟩ := hI
  obtain ⟨P, hP⟩ : ∃ P : Ending → World → Prop, P = fun e w' => e = .returned (.bool (letsB t p k)) ∧ w' = w := ⟨_, rfl⟩
  rw [← hP]
  have HP := hid_intro hP
  clear hP hl hok hcm hc hp hlen
  by_cases k2 : k = 2
  · have HE : Hid (letsB t p k = true) := hid_intro (by unfold letsB; rw [if_pos k2])
    clear hB
    go_enter Tryz.func65, Tryz.ntmps65
    go_wp2_with fail
    rw [HP.out, HE.out]
    exact ⟨rfl, rfl⟩
  by_cases k3 : k = 3
  · have HE : Hid (letsB t p k = decide (p = 0)) := hid_intro (by unfold letsB; rw [if_neg k2, if_pos k3])
    clear hB
    go_enter Tryz.func65, Tryz.ntmps65
    go_wp2_with fail
    rw [HP.out, HE.out]
    refine ⟨?_, rfl⟩
    by_cases h : p = 0 <;> simp [h]
  by_cases k4 : k = 4
  · have HE : Hid (letsB t p k = decide (p = t.length)) := hid_intro (by unfold letsB; rw [if_neg k2, if_neg k3, if_pos k4])
    clear hB
    go_enter Tryz.func65, Tryz.ntmps65
    go_wp2_with fail
    rw [HP.out, HE.out]
    refine ⟨?_, rfl⟩
    by_cases h : p = t.length
    · simp [h]
    · have : ¬ (p : Int) = (t.length : Int) := by omega
      simp [h, this]
  by_cases k5 : k = 5
  · have HE : Hid (letsB t p k = bordB t p) := hid_intro (by unfold letsB; rw [if_neg k2, if_neg k3, if_neg k4, if_pos k5])
    go_enter Tryz.func65, Tryz.ntmps65
    go_wp2_with fail
    refine hB.mono ?_; rintro e w1 ⟨rfl, rfl⟩
    go_wp2_with fail
    rw [HP.out, HE.out]
    exact ⟨rfl, rfl⟩
  by_cases k6 : k = 6
  · have HE : Hid (letsB t p k = !bordB t p) := hid_intro (by unfold letsB; rw [if_neg k2, if_neg k3, if_neg k4, if_neg k5, if_pos k6])
    go_enter Tryz.func65, Tryz.ntmps65
    go_wp2_with fail
    refine hB.mono ?_; rintro e w1 ⟨rfl, rfl⟩
    go_wp2_with fail
    rw [HP.out, HE.out]
    exact ⟨rfl, rfl⟩
  · have HE : Hid (letsB t p k = false) := hid_intro (by unfold letsB; rw [if_neg k2, if_neg k3, if_neg k4, if_neg k5, if_neg k6])
    clear hB
    go_enter Tryz.func65, Tryz.ntmps65
    go_wp2_with fail
    rw [HP.out, HE.out]
    exact ⟨rfl, rfl⟩
end Go.Proofs.YtoinlmfodmgohaaGreatDoor

namespace Go.Proofs.YtoinlmfodmgohaaGreatDoor
open Go.RowKit Go.Maps
attribute [local go_sem] setCell_drewN alloc_drewN

theorem Lp.in2 {L : List ST} {g : Int → Bool} {F : Int → Prop} {H W : List Int} {s : Int} (h : Lp L g F H (W ++ [s])) (hs : s ∈ H) : Lp L g F H W := by
  have up : ∀ y, y ∈ H ∨ y ∈ W ++ [s] → y ∈ H ∨ y ∈ W := by
    rintro y (hy | hy)
    · exact Or.inl hy
    · rcases List.mem_append.1 hy with hy | hy
      · exact Or.inr hy
      · simp at hy; exact Or.inl (hy ▸ hs)
  exact ⟨⟨h.grd.nd, h.grd.inH, fun x hx => h.grd.inW x (by simp [hx]), fun x hx => h.grd.so x (hx.imp id (fun e => by simp [e]))⟩, fun x hx => (h.cl x hx).mono up, fun x hx => up x (h.fr x hx)⟩
theorem Lp.out2 {L : List ST} {g : Int → Bool} {F : Int → Prop} (hL : VS L) (hg : GG g) {H W A : List Int} {s : Int} (h : Lp L g F H (W ++ [s])) (hs : s ∉ H) (hA : ∀ x ∈ A, (x = (sx L s).a ∧ g (sx L s).k = true) ∨ (x = (sx L s).b ∧ (sx L s).k = 2))
    (ha : g (sx L s).k = true → (sx L s).a ∈ A) (hb : (sx L s).k = 2 → (sx L s).b ∈ A) : Lp L g F (H ++ [s]) (W ++ A) := by
  have hi : InL L s := h.grd.inW s (by simp)
  have hr : Rch L g F s := h.grd.so s (Or.inr (by simp))
  have hG : Grd L g F H W := ⟨h.grd.nd, h.grd.inH, fun x hx => h.grd.inW x (by simp [hx]), fun x hx => h.grd.so x (hx.imp id (fun e => by simp [e]))⟩
  have hp := hG.push hs hi hr
  have hv := hL.at hi
  have up : ∀ y, y ∈ H ∨ y ∈ W ++ [s] → y ∈ H ++ [s] ∨ y ∈ W ++ A := by
    rintro y (hy | hy)
    · exact Or.inl (by simp [hy])
    · rcases List.mem_append.1 hy with hy | hy
      · exact Or.inr (by simp [hy])
      · simp at hy; exact Or.inl (by simp [hy])
  refine ⟨⟨hp.nd, hp.inH, fun x hx => ?_, fun x hx => ?_⟩, fun x hx => ?_, fun x hx => up x (h.fr x hx)⟩
  · rcases List.mem_append.1 hx with hx | hx
    · exact hG.inW x hx
    · rcases hA x hx with ⟨rfl, hk⟩ | ⟨rfl, hk⟩
      · exact hv.1 (by have := hg.2 _ hk; omega)
      · exact hv.2 hk
  · rcases hx with hx | hx
    · exact hp.so x (Or.inl hx)
    · rcases List.mem_append.1 hx with hx | hx
      · exact hG.so x (Or.inr hx)
      · rcases hA x hx with ⟨rfl, hk⟩ | ⟨rfl, hk⟩
        · exact .a hr hk
        · exact .b hr hk
  · rcases List.mem_append.1 hx with hx | hx
    · exact (h.cl x hx).mono up
    · simp at hx
      subst hx
      exact ⟨fun e => Or.inr (by simp [ha e]), fun e => Or.inr (by simp [hb e])⟩
/-- The marks. -/
def mkL (H : List Int) (n : Nat) : List Int := (List.range n).map fun x : Nat => if (x : Int) ∈ H then (1 : Int) else 0
theorem mkL_len (H : List Int) (n : Nat) : (mkL H n).length = n := by simp [mkL]
theorem mkL_at (H : List Int) (n x : Nat) (hx : x < n) : ia (mkL H n) x = if (x : Int) ∈ H then (1 : Int) else 0 := by
  unfold ia mkL
  rw [List.getD_eq_getElem?_getD, List.getElem?_map, List.getElem?_range hx]
  rfl
theorem mkL_set (H : List Int) (n x : Nat) : (mkL H n).set x 1 = mkL (H ++ [(x : Int)]) n := by
  apply List.ext_getElem
  · simp [mkL]
  · intro i h1 h2
    have hi : i < n := by simpa [mkL] using h2
    rw [List.getElem_set]
    simp only [mkL, List.getElem_map, List.getElem_range, List.mem_append, List.mem_cons, List.not_mem_nil, or_false]
    by_cases e : x = i
    · rw [if_pos e, if_pos (Or.inr (by omega))]
    · rw [if_neg e]
      have : ¬ ((i : Int) = (x : Int)) := by omega
      simp [this]
theorem mkL_nil (n : Nat) : ivs (mkL [] n) = List.replicate n (Value.int .i64 0) := by
  unfold ivs mkL
  apply List.ext_getElem
  · simp
  · intro i h1 h2
    simp
theorem OwnI.stored {w : World} {B g cap n : Nat} {l : List Int} (h : OwnI w B (.slice (some ⟨g, 0, none⟩) n cap) l) (hn : l.length = n) (x : Nat) (y : Int) (hy : I64 y) : OwnI (w.setCell ⟨g, x, none⟩ (.int .i64 y)) B (.slice (some ⟨g, 0, none⟩) n cap) (l.set x y) := by
  subst hn
  have h1 := h.1.stored x (.int .i64 y)
  refine ⟨?_, fun z hz => ?_⟩
  · rw [List.length_set]
    have e : ivs (l.set x y) = (ivs l).set x (.int .i64 y) := by unfold ivs; rw [List.map_set]
    rw [e]
    exact h1.1
  · rcases List.mem_or_eq_of_mem_set hz with hz | hz
    · exact h.2 z hz
    · exact hz ▸ hy
/-- A row behind a row. -/
theorem wpList_append_is {w : World} {ops : Array Oper} {rest : List Oper} {o : Oper} {a : Act} {Q : Exit → Act → World → Prop} (hgd : o.guard = none) (s x : Operand)
    (ho : o.op = .call { callee := .builtin .append, args := #[s, x], argTypes := #[32, 32] }) (B : Nat) (v : Value) (hs : a.eval s = v) (hown : OwnI w B v []) (hB : B ≤ w.heap.size) (B' : Nat) (vf : Value) (Fl : List Int) (hx : a.eval x = vf) (hf : OwnI w B' vf Fl) (hnil : Fl = [] → vf = .slice none 0 0) (hlen : Fl.length ≤ 1099511627776)
    (h : ∀ v' w', OwnI w' B v' Fl → Below B w w' → (∀ b, v'.ownBlock = some b → v.ownBlock = some b ∨ w.heap.size ≤ b) → (∀ b, b < w.heap.size → v.ownBlock ≠ some b → w'.heap[b]? = w.heap[b]?) → wpList Tryz.prog ops Q rest (a.put o.dst v') w') : wpList Tryz.prog ops Q (o :: rest) a w := by
  obtain ⟨i0, hi, hz0, hz1, hz2⟩ := info_parts infoInt
  by_cases h0 : Fl = []
  · subst h0
    rw [hnil rfl] at hx
    exact wpList_append_own_none hgd s x 32 ho B 3 i0 1 Tryz.underlying32 hi v 0 [] hs hown.1 hx (h v w hown (Below.refl _ _) (fun b hb => Or.inl hb) (fun _ _ _ => rfl))
  · have hpos : 0 < Fl.length := List.length_pos_iff.2 h0
    obtain ⟨fo, fc, rfl, hf1, hf2, hf3, hf4⟩ := hf.form
    obtain ⟨g, rfl⟩ := hf3 hpos
    refine wpList_append_lies _ hgd s x 32 ho B 3 i0 (.int .i64 0) 1 8 Tryz.underlying32 hi hz0 hz1 hz2 rfl (by decide) v 0 [] hs hown.1 ⟨g, 0, none⟩ Fl.length fc (ivs Fl) hx (by rw [ivs_len]; omega) (fun j u hj => ?_) (ints_oneCell .i64 Fl) hpos (by unfold maxLen; omega) (by omega) hB _ rfl ?_
    · have : j < Fl.length := by
        have := (List.getElem?_eq_some_iff.1 hj).1
        rw [ivs_len] at this; exact this
      rw [show (Addr.mk g 0 none).add j = ⟨g, 0 + j, none⟩ from add_at _ _ _, Nat.zero_add, hf.1.cellAt _ (by omega)]
      exact hj
    · intro g' cap w' h1 h2 h3 h4
      rw [Nat.zero_add, List.nil_append] at h1
      rw [Nat.zero_add]
      refine h _ w' ⟨h1, hf.2⟩ (Below.grown (Below.refl _ _) h2 hB (fun k hk => (hown.lt hk).1)) (fun b hb => ?_) (fun b hb hne => h2.block b hb (fun e => hne e.symm))
      simp only [Value.ownBlock, Option.some.injEq] at hb
      subst hb
      exact h3.imp id (fun e => by omega)
end Go.Proofs.YtoinlmfodmgohaaGreatDoor
