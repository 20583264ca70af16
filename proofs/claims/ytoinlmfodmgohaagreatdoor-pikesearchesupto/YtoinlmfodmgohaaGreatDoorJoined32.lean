/-
  A fork and a jump, and what they answer, called. Conditions: there is room.
  The part of a set: what compiles it, and that called. Conditions: there is room; at most 2^40 ranges.
-/
import Derived.Test.YtoinlmfodmgohaaGreatDoorJoined31
namespace Go.Proofs.YtoinlmfodmgohaaGreatDoor
open Go.RowKit
attribute [local go_sem] setCell_drewN alloc_drewN

theorem But.setS {sb : Nat} {a w : World} (h : But (fun b => b = sb) a w) (o : Nat) (v : Value) : But (fun b => b = sb) a (w.setCell ⟨sb, o, none⟩ v) := h.set (Or.inl rfl) v
/-- The closure's two variables: the list, and the place of the state. -/
def Cap (w : World) (lb sb p q : Nat) (i : Nat) : Prop := w.cell? ⟨p, 0, none⟩ = some (.pointer (some ⟨lb, 0, none⟩)) ∧ w.cell? ⟨q, 0, none⟩ = some (.int .i64 (i : Int)) ∧ ¬ two lb sb p ∧ ¬ two lb sb q
theorem Cap.but {w w' : World} {lb sb p q i : Nat} (h : Cap w lb sb p q i) (hb : But (two lb sb) w w') : Cap w' lb sb p q i := by
  obtain ⟨h1, h2, h3, h4⟩ := h
  exact ⟨(World.cell?_of_block (w := w) (w' := w') (hb.block p (World.block_lt_of_cell? w _ h1) h3)).trans h1, (World.cell?_of_block (w := w) (w' := w') (hb.block q (World.block_lt_of_cell? w _ h2) h4)).trans h2, h3, h4⟩
theorem Cap.below {w w' : World} {lb sb p q i : Nat} (h : Cap w lb sb p q i) (hb : Below w.heap.size w w') : Cap w' lb sb p q i := h.but (But.ofBelow hb)
set_option maxRecDepth 100000 in
set_option maxHeartbeats 1600000 in
theorem fork_any (lb sb cap : Nat) (L : List ST) (w : World) (h : LS w lb sb cap L) (hroom : L.length + 1 ≤ cap) :
    Calls Tryz.prog 109 #[.pointer (some ⟨lb, 0, none⟩)] w fun e w' => ∃ p q, e = .returned (.func (.func 130) #[] #[.pointer (some ⟨p, 0, none⟩), .pointer (some ⟨q, 0, none⟩)]) ∧ Cap w' lb sb p q L.length ∧ LS w' lb sb cap (L ++ [⟨2, [], (L.length : Int) + 1, 0⟩]) ∧ But (two lb sb) w w' := by
  obtain ⟨W, hW⟩ : ∃ W, w.alloc (.cells #[.pointer (some ⟨lb, 0, none⟩)] 88) = W := ⟨_, rfl⟩
  have hbW : Below w.heap.size w W := hW ▸ vb_a (Below.refl _ _) _
  have kP : Bk W w.heap.size #[.pointer (some ⟨lb, 0, none⟩)] := hW ▸ Bk.new _ _ _
  have hn := next_any lb sb cap L W (h.below hbW)
  have c0 := kP.cell 0
  have hlt := h.lt
  obtain ⟨P, hP⟩ : ∃ P : Ending → World → Prop, P = fun e w' => ∃ p q, e = .returned (.func (.func 130) #[] #[.pointer (some ⟨p, 0, none⟩), .pointer (some ⟨q, 0, none⟩)]) ∧ Cap w' lb sb p q L.length ∧ LS w' lb sb cap (L ++ [⟨2, [], (L.length : Int) + 1, 0⟩]) ∧ But (two lb sb) w w' := ⟨_, rfl⟩
  rw [← hP]
  have HP := hid_intro hP
  have HW := hid_intro hW
  clear hP hW
  go_enter Tryz.func109, Tryz.ntmps109
  go_wp2_with fail
  rw [HW.out]
  refine hn.mono ?_; rintro e w1 ⟨rfl, hb1⟩
  obtain ⟨V, hV⟩ : ∃ V, w1.alloc (.cells #[.int .i64 (L.length : Int)] 3) = V := ⟨_, rfl⟩
  have hbV : Below w1.heap.size w1 V := hV ▸ vb_a (Below.refl _ _) _
  have kQ : Bk V w1.heap.size #[.int .i64 (L.length : Int)] := hV ▸ Bk.new _ _ _
  have kP2 : Bk V w.heap.size #[.pointer (some ⟨lb, 0, none⟩)] := (kP.bel hb1).bel hbV
  have hb0 : Below w.heap.size w V := vb_t (vb_t hbW hb1) hbV
  have hput := put_any lb sb cap L 2 [] (.slice none 0 0) V (h.below hb0) hroom (fun _ => False) (RI.nil _ _) (by simp)
  have hcap : Cap V lb sb w.heap.size w1.heap.size L.length := ⟨kP2.cell 0, kQ.cell 0, fun e => by rcases e with e | e <;> omega, fun e => by have := hb1.size; have := hbW.size; rcases e with e | e <;> omega⟩
  have c1 : (w1.alloc (.cells #[.int .i64 (L.length : Int)] 3)).cell? ⟨w.heap.size, 0, none⟩ = some (.pointer (some ⟨lb, 0, none⟩)) := hV ▸ kP2.cell 0
  have c2 := (kP.bel hb1).cell 0
  have HV := hid_intro hV
  have HC := hid_intro hcap
  have HB := hid_intro hb0
  clear hV hbV kQ kP kP2 hb0 hb1 hbW c0 hcap hlt hn hroom h
  go_wp2_with fail
  rw [HV.out]
  refine hput.mono ?_; rintro e w2 ⟨rfl, hls, hbt⟩
  clear c1 c2 hput
  go_wp2_with fail
  rw [HP.out]
  exact ⟨_, _, rfl, HC.out.but hbt, hls, (But.ofBelow HB.out).trans hbt⟩
set_option maxRecDepth 100000 in
set_option maxHeartbeats 1600000 in
theorem jump_any (lb sb cap : Nat) (L : List ST) (w : World) (h : LS w lb sb cap L) (hroom : L.length + 1 ≤ cap) :
    Calls Tryz.prog 110 #[.pointer (some ⟨lb, 0, none⟩)] w fun e w' => ∃ p q, e = .returned (.func (.func 131) #[] #[.pointer (some ⟨p, 0, none⟩), .pointer (some ⟨q, 0, none⟩)]) ∧ Cap w' lb sb p q L.length ∧ LS w' lb sb cap (L ++ [⟨2, [], (L.length : Int) + 1, 0⟩]) ∧ But (two lb sb) w w' := by
  obtain ⟨W, hW⟩ : ∃ W, w.alloc (.cells #[.pointer (some ⟨lb, 0, none⟩)] 88) = W := ⟨_, rfl⟩
  have hbW : Below w.heap.size w W := hW ▸ vb_a (Below.refl _ _) _
  have kP : Bk W w.heap.size #[.pointer (some ⟨lb, 0, none⟩)] := hW ▸ Bk.new _ _ _
  have hn := next_any lb sb cap L W (h.below hbW)
  have c0 := kP.cell 0
  have hlt := h.lt
  obtain ⟨P, hP⟩ : ∃ P : Ending → World → Prop, P = fun e w' => ∃ p q, e = .returned (.func (.func 131) #[] #[.pointer (some ⟨p, 0, none⟩), .pointer (some ⟨q, 0, none⟩)]) ∧ Cap w' lb sb p q L.length ∧ LS w' lb sb cap (L ++ [⟨2, [], (L.length : Int) + 1, 0⟩]) ∧ But (two lb sb) w w' := ⟨_, rfl⟩
  rw [← hP]
  have HP := hid_intro hP
  have HW := hid_intro hW
  clear hP hW
  go_enter Tryz.func110, Tryz.ntmps110
  go_wp2_with fail
  rw [HW.out]
  refine hn.mono ?_; rintro e w1 ⟨rfl, hb1⟩
  obtain ⟨V, hV⟩ : ∃ V, w1.alloc (.cells #[.int .i64 (L.length : Int)] 3) = V := ⟨_, rfl⟩
  have hbV : Below w1.heap.size w1 V := hV ▸ vb_a (Below.refl _ _) _
  have kQ : Bk V w1.heap.size #[.int .i64 (L.length : Int)] := hV ▸ Bk.new _ _ _
  have kP2 : Bk V w.heap.size #[.pointer (some ⟨lb, 0, none⟩)] := (kP.bel hb1).bel hbV
  have hb0 : Below w.heap.size w V := vb_t (vb_t hbW hb1) hbV
  have hput := put_any lb sb cap L 2 [] (.slice none 0 0) V (h.below hb0) hroom (fun _ => False) (RI.nil _ _) (by simp)
  have hcap : Cap V lb sb w.heap.size w1.heap.size L.length := ⟨kP2.cell 0, kQ.cell 0, fun e => by rcases e with e | e <;> omega, fun e => by have := hb1.size; have := hbW.size; rcases e with e | e <;> omega⟩
  have c1 : (w1.alloc (.cells #[.int .i64 (L.length : Int)] 3)).cell? ⟨w.heap.size, 0, none⟩ = some (.pointer (some ⟨lb, 0, none⟩)) := hV ▸ kP2.cell 0
  have c2 := (kP.bel hb1).cell 0
  have HV := hid_intro hV
  have HC := hid_intro hcap
  have HB := hid_intro hb0
  clear hV hbV kQ kP kP2 hb0 hb1 hbW c0 hcap hlt hn hroom h
  go_wp2_with fail
  rw [HV.out]
  refine hput.mono ?_; rintro e w2 ⟨rfl, hls, hbt⟩
  clear c1 c2 hput
  go_wp2_with fail
  rw [HP.out]
  exact ⟨_, _, rfl, HC.out.but hbt, hls, (But.ofBelow HB.out).trans hbt⟩
theorem setAB_set (L : List ST) (i : Nat) (hi : i < L.length) : (L.set i { sa L i with a := (L.length : Int) }).set i ((sa (L.set i { sa L i with a := (L.length : Int) }) i).goB (L.length : Int)) = setAB L i := by
  unfold setAB
  rw [List.set_set]
  congr 1
  rw [sa_get (by simpa using hi)]
  simp [ST.goAB, ST.goB]
set_option maxRecDepth 100000 in
set_option maxHeartbeats 1600000 in
theorem fork1_any (lb sb cap p q i : Nat) (L : List ST) (w : World) (h : LS w lb sb cap L) (hk : Cap w lb sb p q i) (hi : i < L.length) :
    Calls Tryz.prog 130 #[.pointer (some ⟨p, 0, none⟩), .pointer (some ⟨q, 0, none⟩)] w fun e w' => e = .returned (.tuple #[]) ∧ LS w' lb sb cap (setB L i) ∧ But (two lb sb) w w' := by
  obtain ⟨P, hP⟩ : ∃ P : Ending → World → Prop, P = fun e w' => e = .returned (.tuple #[]) ∧ LS w' lb sb cap (setB L i) ∧ But (two lb sb) w w' := ⟨_, rfl⟩
  rw [← hP]
  have HP := hid_intro hP
  clear hP
  have HNX : Hid (∀ w', Below w.heap.size w w' → Calls Tryz.prog 129 #[.pointer (some ⟨lb, 0, none⟩)] w' fun e w2 => e = .returned (.int .i64 (L.length : Int)) ∧ Below w'.heap.size w' w2) := hid_intro (fun w' hb => next_any lb sb cap L w' (h.below hb))
  have HS : Hid (∀ w', But (fun b => b = sb) w w' → w'.cell? ⟨p, 0, none⟩ = some (.pointer (some ⟨lb, 0, none⟩)) ∧ w'.cell? ⟨q, 0, none⟩ = some (.int .i64 (i : Int)) ∧ w'.cell? ⟨lb, 0, none⟩ = some (.slice (some ⟨sb, 0, none⟩) L.length cap)) := hid_intro (fun w' hb => by
    have hc := h.cell.1
    exact ⟨(World.cell?_of_block (w := w) (w' := w') (hb.block p (World.block_lt_of_cell? w _ hk.1) (fun e => hk.2.2.1 (Or.inr e)))).trans hk.1, (World.cell?_of_block (w := w) (w' := w') (hb.block q (World.block_lt_of_cell? w _ hk.2.1) (fun e => hk.2.2.2 (Or.inr e)))).trans hk.2.1, (World.cell?_of_block (w := w) (w' := w') (hb.block lb h.lt.1 h.ne)).trans hc⟩)
  have HAT : Hid (∀ w', Below w.heap.size w w' → w'.cell? ⟨sb, i * 4 + 2, none⟩ = some (.int .i64 (sa L i).a) ∧ w'.cell? ⟨sb, i * 4 + 3, none⟩ = some (.int .i64 (sa L i).b) ∧ ∀ o, w'.frozen? ⟨sb, o, none⟩ = false) := hid_intro (fun w' hb => by
    obtain ⟨⟨v, _, _, ha, hb', _⟩, hz⟩ := (h.below hb).at i hi
    exact ⟨ha, hb', hz⟩)
  have HH := hid_intro h
  have HI := hid_intro hi
  have hI : (i : Int) < (L.length : Int) := by omega
  clear h hk hi
  go_enter Tryz.func130, Tryz.ntmps130
  go_wp2_with fail
  go_region_held3 (fun w' => w'.cell? ⟨p, 0, none⟩ = some (.pointer (some ⟨lb, 0, none⟩)) ∧ w'.cell? ⟨q, 0, none⟩ = some (.int .i64 (i : Int)) ∧ w'.cell? ⟨lb, 0, none⟩ = some (.slice (some ⟨sb, 0, none⟩) L.length cap)) (first | (refine HS.out _ ?_; with_reducible repeat (first | exact But.refl _ _ | refine But.drew ?_ | refine But.below ?_ hb4 | refine But.setS ?_ _ _)) | fail) (first | (go_at_call 129; refine (HNX.out _ ?_).mono ?_; (with_reducible repeat (first | exact Below.refl _ _ | refine vb_d ?_)); rintro e w4 ⟨rfl, hb4⟩; obtain ⟨y2, y3, yz⟩ := HAT.out w4 (by with_reducible repeat (first | exact Below.refl _ _ | refine vb_d ?_ | refine vb_t ?_ hb4))) | fail)
  all_goals
    go_end0
    rw [HP.out]
    refine ⟨rfl, ?_⟩
    have h5 : Below w.heap.size w w4 := by with_reducible repeat (first | exact Below.refl _ _ | refine vb_d ?_ | refine vb_t ?_ hb4)
    have h6 := LS.store (HH.out.below h5) i HI.out (L.length : Int)
    exact ⟨h6.1, (But.ofBelow h5).trans h6.2⟩
set_option maxRecDepth 100000 in
set_option maxHeartbeats 3200000 in
theorem jump1_any (lb sb cap p q i : Nat) (L : List ST) (w : World) (h : LS w lb sb cap L) (hk : Cap w lb sb p q i) (hi : i < L.length) :
    Calls Tryz.prog 131 #[.pointer (some ⟨p, 0, none⟩), .pointer (some ⟨q, 0, none⟩)] w fun e w' => e = .returned (.tuple #[]) ∧ LS w' lb sb cap (setAB L i) ∧ But (two lb sb) w w' := by
  have hlen := h.len
  obtain ⟨P, hP⟩ : ∃ P : Ending → World → Prop, P = fun e w' => e = .returned (.tuple #[]) ∧ LS w' lb sb cap (setAB L i) ∧ But (two lb sb) w w' := ⟨_, rfl⟩
  rw [← hP]
  have HP := hid_intro hP
  clear hP
  have HNX : Hid (∀ w', Below w.heap.size w w' → Calls Tryz.prog 129 #[.pointer (some ⟨lb, 0, none⟩)] w' fun e w2 => e = .returned (.int .i64 (L.length : Int)) ∧ Below w'.heap.size w' w2) := hid_intro (fun w' hb => next_any lb sb cap L w' (h.below hb))
  have HS : Hid (∀ w', But (fun b => b = sb) w w' → w'.cell? ⟨p, 0, none⟩ = some (.pointer (some ⟨lb, 0, none⟩)) ∧ w'.cell? ⟨q, 0, none⟩ = some (.int .i64 (i : Int)) ∧ w'.cell? ⟨lb, 0, none⟩ = some (.slice (some ⟨sb, 0, none⟩) L.length cap)) := hid_intro (fun w' hb => by
    have hc := h.cell.1
    exact ⟨(World.cell?_of_block (w := w) (w' := w') (hb.block p (World.block_lt_of_cell? w _ hk.1) (fun e => hk.2.2.1 (Or.inr e)))).trans hk.1, (World.cell?_of_block (w := w) (w' := w') (hb.block q (World.block_lt_of_cell? w _ hk.2.1) (fun e => hk.2.2.2 (Or.inr e)))).trans hk.2.1, (World.cell?_of_block (w := w) (w' := w') (hb.block lb h.lt.1 h.ne)).trans hc⟩)
  have HAT : Hid (∀ w', Below w.heap.size w w' → w'.cell? ⟨sb, i * 4 + 2, none⟩ = some (.int .i64 (sa L i).a) ∧ w'.cell? ⟨sb, i * 4 + 3, none⟩ = some (.int .i64 (sa L i).b) ∧ ∀ o, w'.frozen? ⟨sb, o, none⟩ = false) := hid_intro (fun w' hb => by
    obtain ⟨⟨v, _, _, ha, hb', _⟩, hz⟩ := (h.below hb).at i hi
    exact ⟨ha, hb', hz⟩)
  have HH := hid_intro h
  have HI := hid_intro hi
  have hI : (i : Int) < (L.length : Int) := by omega
  clear h hk hi hlen
  go_enter Tryz.func131, Tryz.ntmps131
  go_wp2_with fail
  go_region_held3 (fun w' => w'.cell? ⟨p, 0, none⟩ = some (.pointer (some ⟨lb, 0, none⟩)) ∧ w'.cell? ⟨q, 0, none⟩ = some (.int .i64 (i : Int)) ∧ w'.cell? ⟨lb, 0, none⟩ = some (.slice (some ⟨sb, 0, none⟩) L.length cap)) (first | (refine HS.out _ ?_; with_reducible repeat (first | exact But.refl _ _ | refine But.drew ?_ | refine But.below ?_ hb5 | refine But.below ?_ hb4 | refine But.setS ?_ _ _)) | fail) (first | (go_at_call 129; refine (HNX.out _ ?_).mono ?_; (with_reducible repeat (first | exact Below.refl _ _ | refine vb_d ?_)); rintro e w4 ⟨rfl, hb4⟩) | (go_at_call 129; refine (HNX.out _ ?_).mono ?_; (with_reducible repeat (first | exact Below.refl _ _ | refine vb_d ?_ | refine vb_t ?_ hb4)); rintro e w5 ⟨rfl, hb5⟩; obtain ⟨y2, y3, yz⟩ := HAT.out w5 (by with_reducible repeat (first | exact Below.refl _ _ | refine vb_d ?_ | refine vb_t ?_ hb5 | refine vb_t ?_ hb4)); have x3 : ∀ v, (w5.setCell ⟨sb, i * 4 + 2, none⟩ v).cell? ⟨sb, i * 4 + 3, none⟩ = some (.int .i64 (sa L i).b) := (fun v => (World.cell?_setCell_other _ _ _ _ (by simp)).trans y3)) | fail)
  all_goals
    go_end0
    rw [HP.out]
    refine ⟨rfl, ?_⟩
    have h5 : Below w.heap.size w w5 := by with_reducible repeat (first | exact Below.refl _ _ | refine vb_d ?_ | refine vb_t ?_ hb5 | refine vb_t ?_ hb4)
    have h6 := LS.storeA (HH.out.below h5) i HI.out (L.length : Int)
    have h7 := LS.store h6.1 i (by simpa using HI.out) (L.length : Int)
    rw [setAB_set L i HI.out] at h7
    exact ⟨h7.1, (But.ofBelow h5).trans (h6.2.trans h7.2)⟩
end Go.Proofs.YtoinlmfodmgohaaGreatDoor

namespace Go.Proofs.YtoinlmfodmgohaaGreatDoor
open Go.RowKit
attribute [local go_sem] setCell_drewN alloc_drewN

/-- The three variables of a part of one state: the list, the state's kind, its ranges. -/
def Cap3 (w : World) (lb sb p q s : Nat) (k : Int) (r : List (Int × Int)) : Prop :=
  w.cell? ⟨p, 0, none⟩ = some (.pointer (some ⟨lb, 0, none⟩)) ∧ w.cell? ⟨q, 0, none⟩ = some (.int .i64 k) ∧ (∃ v, w.cell? ⟨s, 0, none⟩ = some v ∧ RI w (two lb sb) r v) ∧ ¬ two lb sb p ∧ ¬ two lb sb q ∧ ¬ two lb sb s
theorem Cap3.but {w w' : World} {lb sb p q s : Nat} {k : Int} {r : List (Int × Int)} (h : Cap3 w lb sb p q s k r) (hb : But (two lb sb) w w') : Cap3 w' lb sb p q s k r := by
  obtain ⟨h1, h2, ⟨v, h3, hR⟩, h4, h5, h6⟩ := h
  exact ⟨(World.cell?_of_block (w := w) (w' := w') (hb.block p (World.block_lt_of_cell? w _ h1) h4)).trans h1, (World.cell?_of_block (w := w) (w' := w') (hb.block q (World.block_lt_of_cell? w _ h2) h5)).trans h2,
    ⟨v, (World.cell?_of_block (w := w) (w' := w') (hb.block s (World.block_lt_of_cell? w _ h3) h6)).trans h3, hR.but hb (fun _ h => h)⟩, h4, h5, h6⟩
theorem Cap3.below {w w' : World} {lb sb p q s : Nat} {k : Int} {r : List (Int × Int)} (h : Cap3 w lb sb p q s k r) (hb : Below w.heap.size w w') : Cap3 w' lb sb p q s k r := h.but (But.ofBelow hb)
set_option maxRecDepth 100000 in
theorem single_any (lb sb : Nat) (k : Int) (r : List (Int × Int)) (v : Value) (w : World) (hlb : lb < w.heap.size ∧ sb < w.heap.size) (hR : RI w (two lb sb) r v) :
    Calls Tryz.prog 80 #[.pointer (some ⟨lb, 0, none⟩), .int .i64 k, v] w fun e w' => ∃ p q s, e = .returned (.func (.func 105) #[] #[.pointer (some ⟨p, 0, none⟩), .pointer (some ⟨q, 0, none⟩), .pointer (some ⟨s, 0, none⟩)]) ∧ Cap3 w' lb sb p q s k r ∧ Below w.heap.size w w' := by
  obtain ⟨ao, c, rfl, _⟩ := hR.shape
  obtain ⟨W, hW⟩ : ∃ W, ((w.alloc (.cells #[.pointer (some ⟨lb, 0, none⟩)] 88)).alloc (.cells #[.int .i64 k] 92)).alloc (.cells #[.slice ao r.length c] 22) = W := ⟨_, rfl⟩
  have hbW : Below w.heap.size w W := hW ▸ vb_a (vb_a (vb_a (Below.refl _ _) _) _) _
  have k1 : Bk W w.heap.size #[.pointer (some ⟨lb, 0, none⟩)] := hW ▸ ((Bk.new _ _ _).al _).al _
  have k2 : Bk W (w.heap.size + 1) #[.int .i64 k] := hW ▸ (Bk.new' _ _ _ _ (by simp)).al _
  have k3 : Bk W (w.heap.size + 2) #[.slice ao r.length c] := hW ▸ Bk.new' _ _ _ _ (by simp)
  have hc : Cap3 W lb sb w.heap.size (w.heap.size + 1) (w.heap.size + 2) k r := ⟨k1.cell 0, k2.cell 0, ⟨_, k3.cell 0, hR.kept hbW⟩, fun e => by rcases e with e | e <;> omega, fun e => by rcases e with e | e <;> omega, fun e => by rcases e with e | e <;> omega⟩
  have HC := hid_intro (And.intro hc hbW)
  have HW := hid_intro hW
  clear hc k1 k2 k3 hbW hW hR
  go_enter Tryz.func80, Tryz.ntmps80
  go_wp2_with fail
  go_ret
  rw [HW.out]
  exact ⟨_, _, _, rfl, HC.out.1, HC.out.2⟩
set_option maxRecDepth 100000 in
theorem single1_any (lb sb cap p q s : Nat) (k : Int) (r : List (Int × Int)) (L : List ST) (w : World) (h : LS w lb sb cap L) (hk : Cap3 w lb sb p q s k r) (hroom : L.length + 1 ≤ cap) (hl : r.length ≤ 1099511627776) :
    Calls Tryz.prog 105 #[.pointer (some ⟨p, 0, none⟩), .pointer (some ⟨q, 0, none⟩), .pointer (some ⟨s, 0, none⟩)] w fun e w' => e = .returned (.tuple #[]) ∧ LS w' lb sb cap (L ++ [⟨k, r, (L.length : Int) + 1, 0⟩]) ∧ But (two lb sb) w w' := by
  obtain ⟨h1, h2, ⟨v, h3, hR⟩, _⟩ := hk
  have hput := put_any lb sb cap L k r v w h hroom _ hR hl
  obtain ⟨ao, c, rfl, _⟩ := hR.shape
  clear hR h hroom hl
  go_enter Tryz.func105, Tryz.ntmps105
  go_wp2_with fail
  refine hput.mono ?_; rintro e w2 ⟨rfl, hls, hbt⟩
  go_wp2_with fail
  go_end0
  exact ⟨rfl, hls, hbt⟩
set_option maxRecDepth 100000 in
theorem partSet_any (lb sb : Nat) (r : List (Int × Int)) (v : Value) (d : Option Addr) (n c : Nat) (w : World) (hlb : lb < w.heap.size ∧ sb < w.heap.size) (hR : RI w (two lb sb) r v) :
    Calls Tryz.prog 51 #[.pointer (some ⟨lb, 0, none⟩), .agg #[.int .i64 2, v, .int .i64 0, .int .i64 0, .bool false, .slice d n c]] w fun e w' => ∃ p q s, e = .returned (.func (.func 105) #[] #[.pointer (some ⟨p, 0, none⟩), .pointer (some ⟨q, 0, none⟩), .pointer (some ⟨s, 0, none⟩)]) ∧ Cap3 w' lb sb p q s 1 r ∧ Below w.heap.size w w' := by
  obtain ⟨ao, c1, rfl, _⟩ := hR.shape
  obtain ⟨W, hW⟩ : ∃ W, w.alloc (.cells #[.int .i64 2, .slice ao r.length c1, .int .i64 0, .int .i64 0, .bool false, .slice d n c] 31) = W := ⟨_, rfl⟩
  have hbW : Below w.heap.size w W := hW ▸ vb_a (Below.refl _ _) _
  have hs := single_any lb sb 1 r (.slice ao r.length c1) W ⟨Nat.lt_of_lt_of_le hlb.1 hbW.size, Nat.lt_of_lt_of_le hlb.2 hbW.size⟩ (hR.kept hbW)
  have HW := hid_intro hW
  clear hW hR hlb
  go_enter Tryz.func51, Tryz.ntmps51
  go_wp2_with fail
  rw [HW.out]
  refine hs.mono ?_; rintro e w2 ⟨p, q, s, rfl, hc, hb2⟩
  go_wp2_with fail
  go_ret
  exact ⟨p, q, s, rfl, hc, vb_t hbW hb2⟩
set_option maxRecDepth 100000 in
set_option maxHeartbeats 1600000 in
theorem from_any (lb sb cap : Nat) (L : List ST) (w : World) (h : LS w lb sb cap L) :
    Calls Tryz.prog 52 #[.pointer (some ⟨lb, 0, none⟩), .int .i64 0] w fun e w' => e = .returned (.slice (some ⟨sb, 0, none⟩) L.length L.length) ∧ Below w.heap.size w w' := by
  have hc := h.cell.1
  have hlen := h.len
  have hLI : (L.length : Int) ≤ (cap : Int) := by omega
  clear h
  go_enter Tryz.func52, Tryz.ntmps52
  go_wp2_with fail
  go_quiet (fail)
  all_goals
    go_wp2_with fail
    go_ret
    exact ⟨rfl, by with_reducible repeat (first | exact Below.refl _ _ | refine vb_d ?_ | refine vb_n ?_ _)⟩
end Go.Proofs.YtoinlmfodmgohaaGreatDoor
