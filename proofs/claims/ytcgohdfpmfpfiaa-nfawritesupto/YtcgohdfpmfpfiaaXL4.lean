/-
  A fork and a jump, and what they answer, called. Conditions: there is room.
-/
import Derived.Test.YtcgohdfpmfpfiaaG9
namespace Go.Proofs.Ytcgohdfpmfpfiaa
open Go.RowKit
attribute [local go_sem] setCell_drewN alloc_drewN

theorem But.setS {sb : Nat} {a w : World} (h : But (fun b => b = sb) a w) (o : Nat) (v : Value) : But (fun b => b = sb) a (w.setCell ⟨sb, o, none⟩ v) := h.set (Or.inl rfl) v
/-- The closure's two variables: the list, and the place of the state. -/
def Cap (w : World) (lb sb p q : Nat) (i : Nat) : Prop := w.cell? ⟨p, 0, none⟩ = some (.pointer (some ⟨lb, 0, none⟩)) ∧ w.cell? ⟨q, 0, none⟩ = some (.int .i64 (i : Int)) ∧ ¬ two lb sb p ∧ ¬ two lb sb q
theorem Cap.but {w w' : World} {lb sb p q i : Nat} (h : Cap w lb sb p q i) (hb : But (two lb sb) w w') : Cap w' lb sb p q i := by
  obtain ⟨h1, h2, h3, h4⟩ := h
  exact ⟨(World.cell?_of_block (w := w) (w' := w') (hb.block p (World.block_lt_of_cell? w _ h1) h3)).trans h1, (World.cell?_of_block (w := w) (w' := w') (hb.block q (World.block_lt_of_cell? w _ h2) h4)).trans h2, h3, h4⟩
theorem Cap.below {w w' : World} {lb sb p q i : Nat} (h : Cap w lb sb p q i) (hb : Below w.heap.size w w') : Cap w' lb sb p q i := h.but (But.ofBelow hb)
set_option maxRecDepth 100000 in
set_option maxHeartbeats 1600000 in
theorem fork_any (lb sb cap : Nat) (L : List ST) (w : World) (h : LS w lb sb cap L) (hroom : L.length + 1 ≤ cap) :
    Calls Try.prog 44 #[.pointer (some ⟨lb, 0, none⟩)] w fun e w' => ∃ p q, e = .returned (.func (.func 56) #[] #[.pointer (some ⟨p, 0, none⟩), .pointer (some ⟨q, 0, none⟩)]) ∧ Cap w' lb sb p q L.length ∧ LS w' lb sb cap (L ++ [⟨2, [], (L.length : Int) + 1, 0⟩]) ∧ But (two lb sb) w w' := by
  obtain ⟨W, hW⟩ : ∃ W, w.alloc (.cells #[.pointer (some ⟨lb, 0, none⟩)] 58) = W := ⟨_, rfl⟩
  have hbW : Below w.heap.size w W := hW ▸ vb_a (Below.refl _ _) _
  have kP : Bk W w.heap.size #[.pointer (some ⟨lb, 0, none⟩)] := hW ▸ Bk.new _ _ _
  have hn := next_any lb sb cap L W (h.below hbW)
  have c0 := kP.cell 0
  have hlt := h.lt
  obtain ⟨P, hP⟩ : ∃ P : Ending → World → Prop, P = fun e w' => ∃ p q, e = .returned (.func (.func 56) #[] #[.pointer (some ⟨p, 0, none⟩), .pointer (some ⟨q, 0, none⟩)]) ∧ Cap w' lb sb p q L.length ∧ LS w' lb sb cap (L ++ [⟨2, [], (L.length : Int) + 1, 0⟩]) ∧ But (two lb sb) w w' := ⟨_, rfl⟩
  rw [← hP]
  have HP := hid_intro hP
  have HW := hid_intro hW
  clear hP hW
  go_enter Try.func44, Try.ntmps44
  go_wp2_with fail
  rw [HW.out]
  refine hn.mono ?_; rintro e w1 ⟨rfl, hb1⟩
  obtain ⟨V, hV⟩ : ∃ V, w1.alloc (.cells #[.int .i64 (L.length : Int)] 3) = V := ⟨_, rfl⟩
  have hbV : Below w1.heap.size w1 V := hV ▸ vb_a (Below.refl _ _) _
  have kQ : Bk V w1.heap.size #[.int .i64 (L.length : Int)] := hV ▸ Bk.new _ _ _
  have kP2 : Bk V w.heap.size #[.pointer (some ⟨lb, 0, none⟩)] := (kP.bel hb1).bel hbV
  have hb0 : Below w.heap.size w V := vb_t (vb_t hbW hb1) hbV
  have hput := put_any lb sb cap L 2 [] (.slice none 0 0) V (h.below hb0) hroom (fun _ => False) (RI.nil _ _) (by simp)
  have hcap : Cap V lb sb w.heap.size w1.heap.size L.length := ⟨kP2.cell 0, kQ.cell 0, fun e => by rcases e with e | e <;> omega, fun e => by have := hb1.size; have := hbW.size; rcases e with e | e <;> omega⟩
  have c1 : (w1.alloc (.cells #[.int .i64 (L.length : Int)] 3)).cell? ⟨w.heap.size, 0, none⟩ = some (.pointer (some ⟨lb, 0, none⟩)) := hV ▸ kP2.cell 0
  have c2 := (kP.bel hb1).cell 0
  have HV := hid_intro hV
  have HC := hid_intro hcap
  have HB := hid_intro hb0
  clear hV hbV kQ kP kP2 hb0 hb1 hbW c0 hcap hlt hn hroom h
  go_wp2_with fail
  rw [HV.out]
  refine hput.mono ?_; rintro e w2 ⟨rfl, hls, hbt⟩
  clear c1 c2 hput
  go_wp2_with fail
  rw [HP.out]
  exact ⟨_, _, rfl, HC.out.but hbt, hls, (But.ofBelow HB.out).trans hbt⟩
set_option maxRecDepth 100000 in
set_option maxHeartbeats 1600000 in
theorem jump_any (lb sb cap : Nat) (L : List ST) (w : World) (h : LS w lb sb cap L) (hroom : L.length + 1 ≤ cap) :
    Calls Try.prog 45 #[.pointer (some ⟨lb, 0, none⟩)] w fun e w' => ∃ p q, e = .returned (.func (.func 57) #[] #[.pointer (some ⟨p, 0, none⟩), .pointer (some ⟨q, 0, none⟩)]) ∧ Cap w' lb sb p q L.length ∧ LS w' lb sb cap (L ++ [⟨2, [], (L.length : Int) + 1, 0⟩]) ∧ But (two lb sb) w w' := by
  obtain ⟨W, hW⟩ : ∃ W, w.alloc (.cells #[.pointer (some ⟨lb, 0, none⟩)] 58) = W := ⟨_, rfl⟩
  have hbW : Below w.heap.size w W := hW ▸ vb_a (Below.refl _ _) _
  have kP : Bk W w.heap.size #[.pointer (some ⟨lb, 0, none⟩)] := hW ▸ Bk.new _ _ _
  have hn := next_any lb sb cap L W (h.below hbW)
  have c0 := kP.cell 0
  have hlt := h.lt
  obtain ⟨P, hP⟩ : ∃ P : Ending → World → Prop, P = fun e w' => ∃ p q, e = .returned (.func (.func 57) #[] #[.pointer (some ⟨p, 0, none⟩), .pointer (some ⟨q, 0, none⟩)]) ∧ Cap w' lb sb p q L.length ∧ LS w' lb sb cap (L ++ [⟨2, [], (L.length : Int) + 1, 0⟩]) ∧ But (two lb sb) w w' := ⟨_, rfl⟩
  rw [← hP]
  have HP := hid_intro hP
  have HW := hid_intro hW
  clear hP hW
  go_enter Try.func45, Try.ntmps45
  go_wp2_with fail
  rw [HW.out]
  refine hn.mono ?_; rintro e w1 ⟨rfl, hb1⟩
  obtain ⟨V, hV⟩ : ∃ V, w1.alloc (.cells #[.int .i64 (L.length : Int)] 3) = V := ⟨_, rfl⟩
  have hbV : Below w1.heap.size w1 V := hV ▸ vb_a (Below.refl _ _) _
  have kQ : Bk V w1.heap.size #[.int .i64 (L.length : Int)] := hV ▸ Bk.new _ _ _
  have kP2 : Bk V w.heap.size #[.pointer (some ⟨lb, 0, none⟩)] := (kP.bel hb1).bel hbV
  have hb0 : Below w.heap.size w V := vb_t (vb_t hbW hb1) hbV
  have hput := put_any lb sb cap L 2 [] (.slice none 0 0) V (h.below hb0) hroom (fun _ => False) (RI.nil _ _) (by simp)
  have hcap : Cap V lb sb w.heap.size w1.heap.size L.length := ⟨kP2.cell 0, kQ.cell 0, fun e => by rcases e with e | e <;> omega, fun e => by have := hb1.size; have := hbW.size; rcases e with e | e <;> omega⟩
  have c1 : (w1.alloc (.cells #[.int .i64 (L.length : Int)] 3)).cell? ⟨w.heap.size, 0, none⟩ = some (.pointer (some ⟨lb, 0, none⟩)) := hV ▸ kP2.cell 0
  have c2 := (kP.bel hb1).cell 0
  have HV := hid_intro hV
  have HC := hid_intro hcap
  have HB := hid_intro hb0
  clear hV hbV kQ kP kP2 hb0 hb1 hbW c0 hcap hlt hn hroom h
  go_wp2_with fail
  rw [HV.out]
  refine hput.mono ?_; rintro e w2 ⟨rfl, hls, hbt⟩
  clear c1 c2 hput
  go_wp2_with fail
  rw [HP.out]
  exact ⟨_, _, rfl, HC.out.but hbt, hls, (But.ofBelow HB.out).trans hbt⟩
theorem setAB_set (L : List ST) (i : Nat) (hi : i < L.length) : (L.set i { sa L i with a := (L.length : Int) }).set i ((sa (L.set i { sa L i with a := (L.length : Int) }) i).goB (L.length : Int)) = setAB L i := by
  unfold setAB
  rw [List.set_set]
  congr 1
  rw [sa_get (by simpa using hi)]
  simp [ST.goAB, ST.goB]
set_option maxRecDepth 100000 in
set_option maxHeartbeats 1600000 in
theorem fork1_any (lb sb cap p q i : Nat) (L : List ST) (w : World) (h : LS w lb sb cap L) (hk : Cap w lb sb p q i) (hi : i < L.length) :
    Calls Try.prog 56 #[.pointer (some ⟨p, 0, none⟩), .pointer (some ⟨q, 0, none⟩)] w fun e w' => e = .returned (.tuple #[]) ∧ LS w' lb sb cap (setB L i) ∧ But (two lb sb) w w' := by
  obtain ⟨P, hP⟩ : ∃ P : Ending → World → Prop, P = fun e w' => e = .returned (.tuple #[]) ∧ LS w' lb sb cap (setB L i) ∧ But (two lb sb) w w' := ⟨_, rfl⟩
  rw [← hP]
  have HP := hid_intro hP
  clear hP
  have HNX : Hid (∀ w', Below w.heap.size w w' → Calls Try.prog 55 #[.pointer (some ⟨lb, 0, none⟩)] w' fun e w2 => e = .returned (.int .i64 (L.length : Int)) ∧ Below w'.heap.size w' w2) := hid_intro (fun w' hb => next_any lb sb cap L w' (h.below hb))
  have HS : Hid (∀ w', But (fun b => b = sb) w w' → w'.cell? ⟨p, 0, none⟩ = some (.pointer (some ⟨lb, 0, none⟩)) ∧ w'.cell? ⟨q, 0, none⟩ = some (.int .i64 (i : Int)) ∧ w'.cell? ⟨lb, 0, none⟩ = some (.slice (some ⟨sb, 0, none⟩) L.length cap)) := hid_intro (fun w' hb => by
    have hc := h.cell.1
    exact ⟨(World.cell?_of_block (w := w) (w' := w') (hb.block p (World.block_lt_of_cell? w _ hk.1) (fun e => hk.2.2.1 (Or.inr e)))).trans hk.1, (World.cell?_of_block (w := w) (w' := w') (hb.block q (World.block_lt_of_cell? w _ hk.2.1) (fun e => hk.2.2.2 (Or.inr e)))).trans hk.2.1, (World.cell?_of_block (w := w) (w' := w') (hb.block lb h.lt.1 h.ne)).trans hc⟩)
  have HAT : Hid (∀ w', Below w.heap.size w w' → w'.cell? ⟨sb, i * 4 + 2, none⟩ = some (.int .i64 (sa L i).a) ∧ w'.cell? ⟨sb, i * 4 + 3, none⟩ = some (.int .i64 (sa L i).b) ∧ ∀ o, w'.frozen? ⟨sb, o, none⟩ = false) := hid_intro (fun w' hb => by
    obtain ⟨⟨v, _, _, ha, hb', _⟩, hz⟩ := (h.below hb).at i hi
    exact ⟨ha, hb', hz⟩)
  have HH := hid_intro h
  have HI := hid_intro hi
  have hI : (i : Int) < (L.length : Int) := by omega
  clear h hk hi
  go_enter Try.func56, Try.ntmps56
  go_wp2_with fail
  go_region_held3 (fun w' => w'.cell? ⟨p, 0, none⟩ = some (.pointer (some ⟨lb, 0, none⟩)) ∧ w'.cell? ⟨q, 0, none⟩ = some (.int .i64 (i : Int)) ∧ w'.cell? ⟨lb, 0, none⟩ = some (.slice (some ⟨sb, 0, none⟩) L.length cap)) (first | (refine HS.out _ ?_; with_reducible repeat (first | exact But.refl _ _ | refine But.drew ?_ | refine But.below ?_ hb4 | refine But.setS ?_ _ _)) | fail) (first | (go_at_call 55; refine (HNX.out _ ?_).mono ?_; (with_reducible repeat (first | exact Below.refl _ _ | refine vb_d ?_)); rintro e w4 ⟨rfl, hb4⟩; obtain ⟨y2, y3, yz⟩ := HAT.out w4 (by with_reducible repeat (first | exact Below.refl _ _ | refine vb_d ?_ | refine vb_t ?_ hb4))) | fail)
  all_goals
    go_end0
    rw [HP.out]
    refine ⟨rfl, ?_⟩
    have h5 : Below w.heap.size w w4 := by with_reducible repeat (first | exact Below.refl _ _ | refine vb_d ?_ | refine vb_t ?_ hb4)
    have h6 := LS.store (HH.out.below h5) i HI.out (L.length : Int)
    exact ⟨h6.1, (But.ofBelow h5).trans h6.2⟩
set_option maxRecDepth 100000 in
set_option maxHeartbeats 3200000 in
theorem jump1_any (lb sb cap p q i : Nat) (L : List ST) (w : World) (h : LS w lb sb cap L) (hk : Cap w lb sb p q i) (hi : i < L.length) :
    Calls Try.prog 57 #[.pointer (some ⟨p, 0, none⟩), .pointer (some ⟨q, 0, none⟩)] w fun e w' => e = .returned (.tuple #[]) ∧ LS w' lb sb cap (setAB L i) ∧ But (two lb sb) w w' := by
  have hlen := h.len
  obtain ⟨P, hP⟩ : ∃ P : Ending → World → Prop, P = fun e w' => e = .returned (.tuple #[]) ∧ LS w' lb sb cap (setAB L i) ∧ But (two lb sb) w w' := ⟨_, rfl⟩
  rw [← hP]
  have HP := hid_intro hP
  clear hP
  have HNX : Hid (∀ w', Below w.heap.size w w' → Calls Try.prog 55 #[.pointer (some ⟨lb, 0, none⟩)] w' fun e w2 => e = .returned (.int .i64 (L.length : Int)) ∧ Below w'.heap.size w' w2) := hid_intro (fun w' hb => next_any lb sb cap L w' (h.below hb))
  have HS : Hid (∀ w', But (fun b => b = sb) w w' → w'.cell? ⟨p, 0, none⟩ = some (.pointer (some ⟨lb, 0, none⟩)) ∧ w'.cell? ⟨q, 0, none⟩ = some (.int .i64 (i : Int)) ∧ w'.cell? ⟨lb, 0, none⟩ = some (.slice (some ⟨sb, 0, none⟩) L.length cap)) := hid_intro (fun w' hb => by
    have hc := h.cell.1
    exact ⟨(World.cell?_of_block (w := w) (w' := w') (hb.block p (World.block_lt_of_cell? w _ hk.1) (fun e => hk.2.2.1 (Or.inr e)))).trans hk.1, (World.cell?_of_block (w := w) (w' := w') (hb.block q (World.block_lt_of_cell? w _ hk.2.1) (fun e => hk.2.2.2 (Or.inr e)))).trans hk.2.1, (World.cell?_of_block (w := w) (w' := w') (hb.block lb h.lt.1 h.ne)).trans hc⟩)
  have HAT : Hid (∀ w', Below w.heap.size w w' → w'.cell? ⟨sb, i * 4 + 2, none⟩ = some (.int .i64 (sa L i).a) ∧ w'.cell? ⟨sb, i * 4 + 3, none⟩ = some (.int .i64 (sa L i).b) ∧ ∀ o, w'.frozen? ⟨sb, o, none⟩ = false) := hid_intro (fun w' hb => by
    obtain ⟨⟨v, _, _, ha, hb', _⟩, hz⟩ := (h.below hb).at i hi
    exact ⟨ha, hb', hz⟩)
  have HH := hid_intro h
  have HI := hid_intro hi
  have hI : (i : Int) < (L.length : Int) := by omega
  clear h hk hi hlen
  go_enter Try.func57, Try.ntmps57
  go_wp2_with fail
  go_region_held3 (fun w' => w'.cell? ⟨p, 0, none⟩ = some (.pointer (some ⟨lb, 0, none⟩)) ∧ w'.cell? ⟨q, 0, none⟩ = some (.int .i64 (i : Int)) ∧ w'.cell? ⟨lb, 0, none⟩ = some (.slice (some ⟨sb, 0, none⟩) L.length cap)) (first | (refine HS.out _ ?_; with_reducible repeat (first | exact But.refl _ _ | refine But.drew ?_ | refine But.below ?_ hb5 | refine But.below ?_ hb4 | refine But.setS ?_ _ _)) | fail) (first | (go_at_call 55; refine (HNX.out _ ?_).mono ?_; (with_reducible repeat (first | exact Below.refl _ _ | refine vb_d ?_)); rintro e w4 ⟨rfl, hb4⟩) | (go_at_call 55; refine (HNX.out _ ?_).mono ?_; (with_reducible repeat (first | exact Below.refl _ _ | refine vb_d ?_ | refine vb_t ?_ hb4)); rintro e w5 ⟨rfl, hb5⟩; obtain ⟨y2, y3, yz⟩ := HAT.out w5 (by with_reducible repeat (first | exact Below.refl _ _ | refine vb_d ?_ | refine vb_t ?_ hb5 | refine vb_t ?_ hb4)); have x3 : ∀ v, (w5.setCell ⟨sb, i * 4 + 2, none⟩ v).cell? ⟨sb, i * 4 + 3, none⟩ = some (.int .i64 (sa L i).b) := (fun v => (World.cell?_setCell_other _ _ _ _ (by simp)).trans y3)) | fail)
  all_goals
    go_end0
    rw [HP.out]
    refine ⟨rfl, ?_⟩
    have h5 : Below w.heap.size w w5 := by with_reducible repeat (first | exact Below.refl _ _ | refine vb_d ?_ | refine vb_t ?_ hb5 | refine vb_t ?_ hb4)
    have h6 := LS.storeA (HH.out.below h5) i HI.out (L.length : Int)
    have h7 := LS.store h6.1 i (by simpa using HI.out) (L.length : Int)
    rw [setAB_set L i HI.out] at h7
    exact ⟨h7.1, (But.ofBelow h5).trans (h6.2.trans h7.2)⟩
end Go.Proofs.Ytcgohdfpmfpfiaa
