/-
  How many levels a tree has, by the document's answer; whether two rows of states are the same. Conditions: at most 1000 levels.
  Whether two rows of states are the same: of one row. No condition.
-/
import Derived.Test.YtcgohdfpmfpfiaaG42
import Derived.Test.YtcgohdfpmfpfiaaG34
import Derived.Test.YtcgohdfpmfpfiaaXS0
import Derived.Deep.RegionHeld3
namespace Go.Proofs.Ytcgohdfpmfpfiaa
open Go.RowKit
attribute [local go_sem] setCell_drewN alloc_drewN

set_option maxRecDepth 100000 in
set_option maxHeartbeats 3200000 in
theorem levels_any : ∀ (t : RX) (f : Nat → Value) (w : World) (Y : Nat → Prop), XI w Y t f → lvX t ≤ 1000 →
    Calls Try.prog 13 #[xa f] w fun e w' => e = .returned (.int .i64 (lvX t : Int)) ∧ Below w.heap.size w w' := by
  intro t
  induction t using RX.ind with
  | h k r lo hi z s ih =>
    intro f w Y hv hlv
    rw [lvX] at hlv
    cases hv with
    | mk ao cap G f0 f1 f2 f3 f4 f5 hc hw hl hr =>
    obtain ⟨a1, c1, e1, _⟩ := f1.shape
    have exa : xa f = .agg #[.int .i64 k, .slice a1 r.length c1, .int .i64 lo, .int .i64 hi, .bool z, .slice ao s.length cap] := by unfold xa; rw [f0, e1, f2, f3, f4, f5]
    rw [exa]
    have hlI : (s.length : Int) ≤ 9223372036854775807 := by have := hc.1; have := hc.2; unfold maxLen at this; omega
    obtain ⟨P, hP⟩ : ∃ P : Ending → World → Prop, P = fun e w' => e = .returned (.int .i64 (lvX (.mk k r lo hi z s) : Int)) ∧ Below w.heap.size w w' := ⟨_, rfl⟩
    rw [← hP]
    have HP := hid_intro hP
    obtain ⟨W, hW⟩ : ∃ W, w.alloc (.cells #[.int .i64 k, .slice a1 r.length c1, .int .i64 lo, .int .i64 hi, .bool z, .slice ao s.length cap] 32) = W := ⟨_, rfl⟩
    have hbW : Below w.heap.size w W := hW ▸ vb_a (Below.refl _ _) _
    have kX : Bk W w.heap.size #[.int .i64 k, .slice a1 r.length c1, .int .i64 lo, .int .i64 hi, .bool z, .slice ao s.length cap] := hW ▸ Bk.new _ _ _
    have HL : Hid (∀ w', Below W.heap.size W w' → (s = [] ∨ ∃ b off, ao = some ⟨b, off, none⟩ ∧ ∀ i, i < s.length → ∀ j, j < 6 → w'.cell? ⟨b, off + i * 6 + j, none⟩ = some (G i j))) := hid_intro (fun w' hb => by
      rcases hl with hl | ⟨b, off, h1, _, h3⟩
      · exact .inl hl
      · exact .inr ⟨b, off, h1, fun i hi j hj => by rw [(vb_t hbW hb).cell (p := ⟨b, off + i * 6 + j, none⟩) (World.block_lt_of_cell? w _ (h3 i hi j hj))]; exact h3 i hi j hj⟩)
    have HI : Hid (∀ w' i (h : i < s.length), Below W.heap.size W w' → Calls Try.prog 13 #[.agg #[G i 0, G i 1, G i 2, G i 3, G i 4, G i 5]] w' fun e w2 => e = .returned (.int .i64 (lvX s[i] : Int)) ∧ Below w'.heap.size w' w2) := hid_intro (fun w' i h hb =>
      ih s[i] (List.getElem_mem h) (G i) w' Y ((hr i h).kept (vb_t hbW hb)) (by have := lvL_mem s s[i] (List.getElem_mem h); omega))
    have HX := hid_intro hbW
    have HW := hid_intro hW
    have HK := hid_intro kX
    have HLV := hid_intro hlv
    obtain ⟨z0, z1, z2, z3, z4, z5⟩ := kX.c6
    clear hP hl hr ih hbW kX hW exa f1 hlv hw
    go_enter Try.func13, Try.ntmps13
    go_wp2_with fail
    rw [HW.out]
    clear z0 z1 z2 z3 z4 z5
    go_loopg [3, 4] s.length (fun m s3 s4 wr => ∃ j : Nat, j ≤ s.length ∧ m = s.length - j ∧ s3 = .int .i64 (lvL (s.take j) : Int) ∧ s4 = .int .i64 (j : Int) ∧ Hid (Below W.heap.size W wr))
    case atStart => exact ⟨0, Nat.zero_le _, rfl, by simp [lvL], rfl, Below.refl _ _⟩
    case round =>
      obtain ⟨j, hj, rfl, rfl, rfl, HZ⟩ := hrel
      have a5 := (HK.out.bel HZ.out).c6.2.2.2.2.2
      by_cases hlt : j < s.length
      · have hJ : (j : Int) < (s.length : Int) := by omega
        obtain ⟨b, off, rfl, h3⟩ := (HL.out wr HZ.out).resolve_left (fun e => by rw [e] at hlt; exact absurd hlt (by simp))
        have g0 : wr.cell? ⟨b, off + j * 6, none⟩ = some (G j 0) := h3 j hlt 0 (by omega)
        have g1 := h3 j hlt 1 (by omega)
        have g2 := h3 j hlt 2 (by omega)
        have g3 := h3 j hlt 3 (by omega)
        have g4 := h3 j hlt 4 (by omega)
        have g5 := h3 j hlt 5 (by omega)
        have hc2 := HI.out wr j hlt HZ.out
        have HMX : Hid (max (lvL (s.take j) : Int) (lvX s[j] : Int) = (lvL (s.take (j + 1)) : Int)) := hid_intro (by rw [lvL_take s j hlt]; omega)
        generalize (lvX s[j] : Int) = v1 at *
        generalize (lvL (s.take j) : Int) = v0 at *
        clear HL HI h3
        go_wp2_with fail
        refine hc2.mono ?_; rintro e w3 ⟨rfl, hb3⟩
        have HB := hid_intro (vb_t HZ.out hb3)
        clear hb3 hc2
        go_wp2_with fail
        go_roundg (s.length - (j + 1))
        case measure => omega
        case rel => exact ⟨j + 1, by omega, rfl, by rw [← HMX.out], by simp, HB⟩
      · have hJ : ¬ (j : Int) < (s.length : Int) := by omega
        have HE : Hid (s.take j = s) := hid_intro (List.take_of_length_le (by omega))
        rw [HE.out]
        have hlv := HLV.out
        have hI : (lvL s : Int) ≤ 1000 := by omega
        have hI0 : (0 : Int) ≤ (lvL s : Int) := by omega
        have HV : Hid ((lvX (.mk k r lo hi z s) : Int) = (lvL s : Int) + 1) := hid_intro (by rw [lvX]; rfl)
        clear hlv HL HI
        generalize (lvL s : Int) = v0 at *
        go_wp2_with fail
        rw [HP.out, HV.out]
        exact ⟨rfl, vb_t HX.out HZ.out⟩
end Go.Proofs.Ytcgohdfpmfpfiaa

namespace Go.Proofs.Ytcgohdfpmfpfiaa
open Go.RowKit
attribute [local go_sem] setCell_drewN alloc_drewN

set_option maxRecDepth 100000 in
set_option maxHeartbeats 6400000 in
theorem sameS_refl (l : List ST) (v v' : Value) (w : World) (X X' : Nat → Prop) (hR : SI w X l v) (hR' : SI w X' l v') :
    Calls Try.prog 14 #[v, v'] w fun e w' => e = .returned (.bool true) ∧ Below w.heap.size w w' := by
  have h0 := hR
  have h0' := hR'
  obtain ⟨ao, cap, rfl, hc, hcm, _, _⟩ := hR
  obtain ⟨ao', cap', rfl, hc', hcm', _, _⟩ := hR'
  have hlI : (l.length : Int) ≤ 9223372036854775807 := by unfold maxLen at hcm; omega
  obtain ⟨P, hP⟩ : ∃ P : Ending → World → Prop, P = fun e w' => e = .returned (.bool true) ∧ Below w.heap.size w w' := ⟨_, rfl⟩
  rw [← hP]
  have HP := hid_intro hP
  have HL : Hid (∀ w' i, Below w.heap.size w w' → i < l.length → ∃ b off g b' off' g', ao = some ⟨b, off, none⟩ ∧ ao' = some ⟨b', off', none⟩ ∧ ((w'.cell? ⟨b, off + i * 4, none⟩ = some (.int .i64 (sa l i).k) ∧ w'.cell? ⟨b, off + i * 4 + 1, none⟩ = some g ∧ w'.cell? ⟨b, off + i * 4 + 2, none⟩ = some (.int .i64 (sa l i).a) ∧ w'.cell? ⟨b, off + i * 4 + 3, none⟩ = some (.int .i64 (sa l i).b)) ∧ RI w' X (sa l i).r g) ∧ ((w'.cell? ⟨b', off' + i * 4, none⟩ = some (.int .i64 (sa l i).k) ∧ w'.cell? ⟨b', off' + i * 4 + 1, none⟩ = some g' ∧ w'.cell? ⟨b', off' + i * 4 + 2, none⟩ = some (.int .i64 (sa l i).a) ∧ w'.cell? ⟨b', off' + i * 4 + 3, none⟩ = some (.int .i64 (sa l i).b)) ∧ RI w' X' (sa l i).r g')) := hid_intro (fun w' i hb hi => by
    obtain ⟨p1, p2, e, _, _, _, q⟩ := h0.kept hb
    obtain ⟨p1', p2', e', _, _, _, q'⟩ := h0'.kept hb
    injection e with e _ _
    injection e' with e' _ _
    rcases q with q | ⟨b, off, G, h1, _, h3⟩
    · rw [q] at hi; simp at hi
    rcases q' with q' | ⟨b', off', G', h1', _, h3'⟩
    · rw [q'] at hi; simp at hi
    exact ⟨b, off, G i, b', off', G' i, e.trans h1, e'.trans h1', h3 i hi, h3' i hi⟩)
  clear hP h0 h0'
  go_enter Try.func14, Try.ntmps14
  go_wp2_with fail
  go_loopg [5] l.length (fun m s5 wr => ∃ i : Nat, i ≤ l.length ∧ m = l.length - i ∧ s5 = .int .i64 (i : Int) ∧ Hid (Below w.heap.size w wr))
  case atStart => exact ⟨0, Nat.zero_le _, rfl, rfl, Below.refl _ _⟩
  case round =>
    obtain ⟨i, hi, rfl, rfl, HZ⟩ := hrel
    by_cases hlt : i < l.length
    · have hJ : (i : Int) < (l.length : Int) := by omega
      obtain ⟨b, off, g1, b', off', g2, rfl, rfl, ⟨⟨u0, u1, u2, u3⟩, hr1⟩, ⟨⟨t0, t1, t2, t3⟩, hr2⟩⟩ := HL.out wr i HZ.out hlt
      have HC : Hid (∀ w', Below wr.heap.size wr w' → Calls Try.prog 16 #[g1, g2] w' fun e w2 => e = .returned (.bool true) ∧ Below w'.heap.size w' w2) := hid_intro (fun w' hb => by
        have := ranges_any _ _ _ _ w' _ _ (hr1.kept hb) (hr2.kept hb)
        rw [decide_eq_true rfl] at this
        exact this)
      have hb1 : b < wr.heap.size := World.block_lt_of_cell? wr _ u0
      have hb2 : b' < wr.heap.size := World.block_lt_of_cell? wr _ t0
      generalize (sa l i).k = K at *
      generalize (sa l i).a = A at *
      generalize (sa l i).b = B at *
      have HS : Hid (∀ w', Below wr.heap.size wr w' → w'.cell? ⟨b, off + i * 4, none⟩ = some (.int .i64 K) ∧ w'.cell? ⟨b, off + i * 4 + 1, none⟩ = some g1 ∧ w'.cell? ⟨b, off + i * 4 + 2, none⟩ = some (.int .i64 A) ∧ w'.cell? ⟨b, off + i * 4 + 3, none⟩ = some (.int .i64 B) ∧ w'.cell? ⟨b', off' + i * 4, none⟩ = some (.int .i64 K) ∧ w'.cell? ⟨b', off' + i * 4 + 1, none⟩ = some g2 ∧ w'.cell? ⟨b', off' + i * 4 + 2, none⟩ = some (.int .i64 A) ∧ w'.cell? ⟨b', off' + i * 4 + 3, none⟩ = some (.int .i64 B)) := hid_intro (fun w' hb => by
        have key : ∀ o v, wr.cell? ⟨b, o, none⟩ = some v → w'.cell? ⟨b, o, none⟩ = some v := fun o v hv => (hb.cell (p := ⟨b, o, none⟩) hb1).trans hv
        have key' : ∀ o v, wr.cell? ⟨b', o, none⟩ = some v → w'.cell? ⟨b', o, none⟩ = some v := fun o v hv => (hb.cell (p := ⟨b', o, none⟩) hb2).trans hv
        exact ⟨key _ _ u0, key _ _ u1, key _ _ u2, key _ _ u3, key' _ _ t0, key' _ _ t1, key' _ _ t2, key' _ _ t3⟩)
      clear HL hr1 hr2 u0 u1 u2 u3 t0 t1 t2 t3 hb1 hb2
      go_wp2_with fail
      go_region_held3 (fun w' => w'.cell? ⟨b, off + i * 4, none⟩ = some (.int .i64 K) ∧ w'.cell? ⟨b, off + i * 4 + 1, none⟩ = some g1 ∧ w'.cell? ⟨b, off + i * 4 + 2, none⟩ = some (.int .i64 A) ∧ w'.cell? ⟨b, off + i * 4 + 3, none⟩ = some (.int .i64 B) ∧ w'.cell? ⟨b', off' + i * 4, none⟩ = some (.int .i64 K) ∧ w'.cell? ⟨b', off' + i * 4 + 1, none⟩ = some g2 ∧ w'.cell? ⟨b', off' + i * 4 + 2, none⟩ = some (.int .i64 A) ∧ w'.cell? ⟨b', off' + i * 4 + 3, none⟩ = some (.int .i64 B)) (first | (refine HS.out _ ?_; with_reducible repeat (first | exact Below.refl _ _ | refine vb_d ?_ | refine vb_t ?_ hb3)) | fail) (first | (go_at_call 16; refine (HC.out _ ?_).mono ?_; (with_reducible repeat (first | exact Below.refl _ _ | refine vb_d ?_)); rintro e w3 ⟨rfl, hb3⟩) | fail)
      all_goals
        have HN := hid_intro (vb_t HZ.out (vb_t (by with_reducible repeat (first | exact Below.refl _ _ | refine vb_d ?_)) hb3))
        clear hb3 HS HC
        go_wp2_with fail
        go_roundg (l.length - (i + 1))
        case measure => omega
        case rel => exact ⟨i + 1, by omega, rfl, by simp, HN⟩
    · have hJ : ¬ (i : Int) < (l.length : Int) := by omega
      clear HL
      go_wp2_with fail
      rw [HP.out]
      exact ⟨rfl, HZ.out⟩
end Go.Proofs.Ytcgohdfpmfpfiaa
