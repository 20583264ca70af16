/-
  The list of states with blocks that are set apart: forks, jumps, a part of one state. Conditions: there is room.
  The states of a tree, as the document writes them. No condition.
  What compiles a part, called; parts one behind the other. Conditions: there is room.
-/
import Derived.Test.YtoinlmfodmgohaaGreatDoorJoined27
import Derived.Test.YtoinlmfodmgohaaGreatDoorJoined23
import Derived.Test.YtoinlmfodmgohaaGreatDoorJoined5
namespace Go.Proofs.YtoinlmfodmgohaaGreatDoor
open Go.RowKit
attribute [local go_sem] setCell_drewN alloc_drewN

/-- A store into the number B, or A, of a state. -/
theorem LZ.store {w : World} {lb sb cap : Nat} {Z : List Nat} {L : List ST} (h : LZ w lb sb cap Z L) (i : Nat) (hi : i < L.length) (x : Int) :
    LZ (w.setCell ⟨sb, i * 4 + 3, none⟩ (.int .i64 x)) lb sb cap Z (L.set i ((sa L i).goB x)) ∧ But (two lb sb) w (w.setCell ⟨sb, i * 4 + 3, none⟩ (.int .i64 x)) := by
  have hlt := h.lt
  refine ⟨?_, (But.refl _ _).set (Or.inl (Or.inr rfl)) _⟩
  obtain ⟨M, h0, h1, h2, h3, h4, h5, h6, h7⟩ := h
  subst h0
  have hiM : i < M.length := by simpa using hi
  rw [List.length_map] at h1 h4
  have hst := h4.stored (i * 4 + 3) (.int .i64 x)
  refine ⟨M.set i (M[i].1.goB x, M[i].2), ?_, ?_, ?_, h3, ?_, fun p hp => ?_, h6, fun z hz => ⟨by have := (h7 z hz).1; simpa [World.setCell] using this, (h7 z hz).2⟩⟩
  · rw [List.map_set, sa_get hi]; simp
  · rw [World.cell?_setCell_other _ _ _ _ (by intro e; injection e with e; exact h3 e.symm), h1]; simp
  · rw [World.frozen?_setCell]; exact h2
  · rw [List.length_set, List.length_map, ← flatS_set M i hiM]
    exact hst.1
  · have hR : RI w (thr lb sb Z) p.1.r p.2 := by
      rcases List.mem_or_eq_of_mem_set hp with hp | hp
      · exact h5 p hp
      · rw [hp]; exact h5 M[i] (List.getElem_mem hiM)
    exact hR.set (Or.inr (Or.inl rfl)) _
theorem LZ.storeA {w : World} {lb sb cap : Nat} {Z : List Nat} {L : List ST} (h : LZ w lb sb cap Z L) (i : Nat) (hi : i < L.length) (x : Int) :
    LZ (w.setCell ⟨sb, i * 4 + 2, none⟩ (.int .i64 x)) lb sb cap Z (L.set i { sa L i with a := x }) ∧ But (two lb sb) w (w.setCell ⟨sb, i * 4 + 2, none⟩ (.int .i64 x)) := by
  have hlt := h.lt
  refine ⟨?_, (But.refl _ _).set (Or.inl (Or.inr rfl)) _⟩
  obtain ⟨M, h0, h1, h2, h3, h4, h5, h6, h7⟩ := h
  subst h0
  have hiM : i < M.length := by simpa using hi
  rw [List.length_map] at h1 h4
  have hst := h4.stored (i * 4 + 2) (.int .i64 x)
  refine ⟨M.set i ({ M[i].1 with a := x }, M[i].2), ?_, ?_, ?_, h3, ?_, fun p hp => ?_, h6, fun z hz => ⟨by have := (h7 z hz).1; simpa [World.setCell] using this, (h7 z hz).2⟩⟩
  · rw [List.map_set, sa_get hi]; simp
  · rw [World.cell?_setCell_other _ _ _ _ (by intro e; injection e with e; exact h3 e.symm), h1]; simp
  · rw [World.frozen?_setCell]; exact h2
  · rw [List.length_set, List.length_map, ← flatS_setA M i hiM]
    exact hst.1
  · have hR : RI w (thr lb sb Z) p.1.r p.2 := by
      rcases List.mem_or_eq_of_mem_set hp with hp | hp
      · exact h5 p hp
      · rw [hp]; exact h5 M[i] (List.getElem_mem hiM)
    exact hR.set (Or.inr (Or.inl rfl)) _
/-- The cells of a state in the list. -/
theorem LZ.at {w : World} {lb sb cap : Nat} {Z : List Nat} {L : List ST} (h : LZ w lb sb cap Z L) (i : Nat) (hi : i < L.length) :
    (∃ v, w.cell? ⟨sb, i * 4, none⟩ = some (.int .i64 (sa L i).k) ∧ w.cell? ⟨sb, i * 4 + 1, none⟩ = some v ∧ w.cell? ⟨sb, i * 4 + 2, none⟩ = some (.int .i64 (sa L i).a) ∧ w.cell? ⟨sb, i * 4 + 3, none⟩ = some (.int .i64 (sa L i).b) ∧ RI w (thr lb sb Z) (sa L i).r v) ∧ ∀ o, w.frozen? ⟨sb, o, none⟩ = false := by
  obtain ⟨M, h0, h1, h2, h3, h4, h5, h6, h7⟩ := h
  subst h0
  have hiM : i < M.length := by simpa using hi
  rw [List.length_map] at h4
  have f := flatS_at M i hiM
  have e : sa (M.map Prod.fst) i = M[i].1 := by rw [sa_get hi]; simp
  rw [e]
  exact ⟨⟨M[i].2, (h4.cellAt _ (by omega)).trans f.1, (h4.cellAt _ (by omega)).trans f.2.1, (h4.cellAt _ (by omega)).trans f.2.2.1, (h4.cellAt _ (by omega)).trans f.2.2.2, h5 _ (List.getElem_mem hiM)⟩, fun o => h4.frozenAt o⟩
set_option maxRecDepth 100000 in
set_option maxHeartbeats 1600000 in
theorem forkZ_any (lb sb cap : Nat) (Z : List Nat) (L : List ST) (w : World) (h : LZ w lb sb cap Z L) (hroom : L.length + 1 ≤ cap) :
    Calls Tryz.prog 109 #[.pointer (some ⟨lb, 0, none⟩)] w fun e w' => ∃ p q, e = .returned (.func (.func 130) #[] #[.pointer (some ⟨p, 0, none⟩), .pointer (some ⟨q, 0, none⟩)]) ∧ w.heap.size ≤ p ∧ w.heap.size ≤ q ∧ Cap w' lb sb p q L.length ∧ LZ w' lb sb cap Z (L ++ [⟨2, [], (L.length : Int) + 1, 0⟩]) ∧ But (two lb sb) w w' := by
  obtain ⟨W, hW⟩ : ∃ W, w.alloc (.cells #[.pointer (some ⟨lb, 0, none⟩)] 88) = W := ⟨_, rfl⟩
  have hbW : Below w.heap.size w W := hW ▸ vb_a (Below.refl _ _) _
  have kP : Bk W w.heap.size #[.pointer (some ⟨lb, 0, none⟩)] := hW ▸ Bk.new _ _ _
  have hn := nextZ_any lb sb cap Z L W (h.below hbW)
  have c0 := kP.cell 0
  have hlt := h.lt
  obtain ⟨P, hP⟩ : ∃ P : Ending → World → Prop, P = fun e w' => ∃ p q, e = .returned (.func (.func 130) #[] #[.pointer (some ⟨p, 0, none⟩), .pointer (some ⟨q, 0, none⟩)]) ∧ w.heap.size ≤ p ∧ w.heap.size ≤ q ∧ Cap w' lb sb p q L.length ∧ LZ w' lb sb cap Z (L ++ [⟨2, [], (L.length : Int) + 1, 0⟩]) ∧ But (two lb sb) w w' := ⟨_, rfl⟩
  rw [← hP]
  have HP := hid_intro hP
  have HW := hid_intro hW
  clear hP hW
  go_enter Tryz.func109, Tryz.ntmps109
  go_wp2_with fail
  rw [HW.out]
  refine hn.mono ?_; rintro e w1 ⟨rfl, hb1⟩
  obtain ⟨V, hV⟩ : ∃ V, w1.alloc (.cells #[.int .i64 (L.length : Int)] 3) = V := ⟨_, rfl⟩
  have hbV : Below w1.heap.size w1 V := hV ▸ vb_a (Below.refl _ _) _
  have kQ : Bk V w1.heap.size #[.int .i64 (L.length : Int)] := hV ▸ Bk.new _ _ _
  have kP2 : Bk V w.heap.size #[.pointer (some ⟨lb, 0, none⟩)] := (kP.bel hb1).bel hbV
  have hb0 : Below w.heap.size w V := vb_t (vb_t hbW hb1) hbV
  have hput := putZ_any lb sb cap Z L 2 [] (.slice none 0 0) V (h.below hb0) hroom (fun _ => False) (RI.nil _ _) (by simp)
  have hcap : Cap V lb sb w.heap.size w1.heap.size L.length := ⟨kP2.cell 0, kQ.cell 0, fun e => by rcases e with e | e <;> omega, fun e => by have := hb1.size; have := hbW.size; rcases e with e | e <;> omega⟩
  have c1 : (w1.alloc (.cells #[.int .i64 (L.length : Int)] 3)).cell? ⟨w.heap.size, 0, none⟩ = some (.pointer (some ⟨lb, 0, none⟩)) := hV ▸ kP2.cell 0
  have c2 := (kP.bel hb1).cell 0
  have HV := hid_intro hV
  have HC := hid_intro hcap
  have HB := hid_intro hb0
  have HSZ : Hid (w.heap.size ≤ w1.heap.size) := hid_intro (Nat.le_trans hbW.size hb1.size)
  clear hV hbV kQ kP kP2 hb0 hb1 hbW c0 hcap hlt hn hroom h
  go_wp2_with fail
  rw [HV.out]
  refine hput.mono ?_; rintro e w2 ⟨rfl, hls, hbt⟩
  clear c1 c2 hput
  go_wp2_with fail
  rw [HP.out]
  exact ⟨_, _, rfl, Nat.le_refl _, HSZ.out, HC.out.but hbt, hls, (But.ofBelow HB.out).trans hbt⟩
set_option maxRecDepth 100000 in
set_option maxHeartbeats 1600000 in
theorem jumpZ_any (lb sb cap : Nat) (Z : List Nat) (L : List ST) (w : World) (h : LZ w lb sb cap Z L) (hroom : L.length + 1 ≤ cap) :
    Calls Tryz.prog 110 #[.pointer (some ⟨lb, 0, none⟩)] w fun e w' => ∃ p q, e = .returned (.func (.func 131) #[] #[.pointer (some ⟨p, 0, none⟩), .pointer (some ⟨q, 0, none⟩)]) ∧ w.heap.size ≤ p ∧ w.heap.size ≤ q ∧ Cap w' lb sb p q L.length ∧ LZ w' lb sb cap Z (L ++ [⟨2, [], (L.length : Int) + 1, 0⟩]) ∧ But (two lb sb) w w' := by
  obtain ⟨W, hW⟩ : ∃ W, w.alloc (.cells #[.pointer (some ⟨lb, 0, none⟩)] 88) = W := ⟨_, rfl⟩
  have hbW : Below w.heap.size w W := hW ▸ vb_a (Below.refl _ _) _
  have kP : Bk W w.heap.size #[.pointer (some ⟨lb, 0, none⟩)] := hW ▸ Bk.new _ _ _
  have hn := nextZ_any lb sb cap Z L W (h.below hbW)
  have c0 := kP.cell 0
  have hlt := h.lt
  obtain ⟨P, hP⟩ : ∃ P : Ending → World → Prop, P = fun e w' => ∃ p q, e = .returned (.func (.func 131) #[] #[.pointer (some ⟨p, 0, none⟩), .pointer (some ⟨q, 0, none⟩)]) ∧ w.heap.size ≤ p ∧ w.heap.size ≤ q ∧ Cap w' lb sb p q L.length ∧ LZ w' lb sb cap Z (L ++ [⟨2, [], (L.length : Int) + 1, 0⟩]) ∧ But (two lb sb) w w' := ⟨_, rfl⟩
  rw [← hP]
  have HP := hid_intro hP
  have HW := hid_intro hW
  clear hP hW
  go_enter Tryz.func110, Tryz.ntmps110
  go_wp2_with fail
  rw [HW.out]
  refine hn.mono ?_; rintro e w1 ⟨rfl, hb1⟩
  obtain ⟨V, hV⟩ : ∃ V, w1.alloc (.cells #[.int .i64 (L.length : Int)] 3) = V := ⟨_, rfl⟩
  have hbV : Below w1.heap.size w1 V := hV ▸ vb_a (Below.refl _ _) _
  have kQ : Bk V w1.heap.size #[.int .i64 (L.length : Int)] := hV ▸ Bk.new _ _ _
  have kP2 : Bk V w.heap.size #[.pointer (some ⟨lb, 0, none⟩)] := (kP.bel hb1).bel hbV
  have hb0 : Below w.heap.size w V := vb_t (vb_t hbW hb1) hbV
  have hput := putZ_any lb sb cap Z L 2 [] (.slice none 0 0) V (h.below hb0) hroom (fun _ => False) (RI.nil _ _) (by simp)
  have hcap : Cap V lb sb w.heap.size w1.heap.size L.length := ⟨kP2.cell 0, kQ.cell 0, fun e => by rcases e with e | e <;> omega, fun e => by have := hb1.size; have := hbW.size; rcases e with e | e <;> omega⟩
  have c1 : (w1.alloc (.cells #[.int .i64 (L.length : Int)] 3)).cell? ⟨w.heap.size, 0, none⟩ = some (.pointer (some ⟨lb, 0, none⟩)) := hV ▸ kP2.cell 0
  have c2 := (kP.bel hb1).cell 0
  have HV := hid_intro hV
  have HC := hid_intro hcap
  have HB := hid_intro hb0
  have HSZ : Hid (w.heap.size ≤ w1.heap.size) := hid_intro (Nat.le_trans hbW.size hb1.size)
  clear hV hbV kQ kP kP2 hb0 hb1 hbW c0 hcap hlt hn hroom h
  go_wp2_with fail
  rw [HV.out]
  refine hput.mono ?_; rintro e w2 ⟨rfl, hls, hbt⟩
  clear c1 c2 hput
  go_wp2_with fail
  rw [HP.out]
  exact ⟨_, _, rfl, Nat.le_refl _, HSZ.out, HC.out.but hbt, hls, (But.ofBelow HB.out).trans hbt⟩
set_option maxRecDepth 100000 in
set_option maxHeartbeats 1600000 in
theorem fork1Z_any (lb sb cap p q i : Nat) (Z : List Nat) (L : List ST) (w : World) (h : LZ w lb sb cap Z L) (hk : Cap w lb sb p q i) (hi : i < L.length) :
    Calls Tryz.prog 130 #[.pointer (some ⟨p, 0, none⟩), .pointer (some ⟨q, 0, none⟩)] w fun e w' => e = .returned (.tuple #[]) ∧ LZ w' lb sb cap Z (setB L i) ∧ But (two lb sb) w w' := by
  obtain ⟨P, hP⟩ : ∃ P : Ending → World → Prop, P = fun e w' => e = .returned (.tuple #[]) ∧ LZ w' lb sb cap Z (setB L i) ∧ But (two lb sb) w w' := ⟨_, rfl⟩
  rw [← hP]
  have HP := hid_intro hP
  clear hP
  have HNX : Hid (∀ w', Below w.heap.size w w' → Calls Tryz.prog 129 #[.pointer (some ⟨lb, 0, none⟩)] w' fun e w2 => e = .returned (.int .i64 (L.length : Int)) ∧ Below w'.heap.size w' w2) := hid_intro (fun w' hb => nextZ_any lb sb cap Z L w' (h.below hb))
  have HS : Hid (∀ w', But (fun b => b = sb) w w' → w'.cell? ⟨p, 0, none⟩ = some (.pointer (some ⟨lb, 0, none⟩)) ∧ w'.cell? ⟨q, 0, none⟩ = some (.int .i64 (i : Int)) ∧ w'.cell? ⟨lb, 0, none⟩ = some (.slice (some ⟨sb, 0, none⟩) L.length cap)) := hid_intro (fun w' hb => by
    have hc := h.cell.1
    exact ⟨(World.cell?_of_block (w := w) (w' := w') (hb.block p (World.block_lt_of_cell? w _ hk.1) (fun e => hk.2.2.1 (Or.inr e)))).trans hk.1, (World.cell?_of_block (w := w) (w' := w') (hb.block q (World.block_lt_of_cell? w _ hk.2.1) (fun e => hk.2.2.2 (Or.inr e)))).trans hk.2.1, (World.cell?_of_block (w := w) (w' := w') (hb.block lb h.lt.1 h.ne)).trans hc⟩)
  have HAT : Hid (∀ w', Below w.heap.size w w' → w'.cell? ⟨sb, i * 4 + 2, none⟩ = some (.int .i64 (sa L i).a) ∧ w'.cell? ⟨sb, i * 4 + 3, none⟩ = some (.int .i64 (sa L i).b) ∧ ∀ o, w'.frozen? ⟨sb, o, none⟩ = false) := hid_intro (fun w' hb => by
    obtain ⟨⟨v, _, _, ha, hb', _⟩, hz⟩ := (h.below hb).at i hi
    exact ⟨ha, hb', hz⟩)
  have HH := hid_intro h
  have HI := hid_intro hi
  have hI : (i : Int) < (L.length : Int) := by omega
  clear h hk hi
  go_enter Tryz.func130, Tryz.ntmps130
  go_wp2_with fail
  go_region_held3 (fun w' => w'.cell? ⟨p, 0, none⟩ = some (.pointer (some ⟨lb, 0, none⟩)) ∧ w'.cell? ⟨q, 0, none⟩ = some (.int .i64 (i : Int)) ∧ w'.cell? ⟨lb, 0, none⟩ = some (.slice (some ⟨sb, 0, none⟩) L.length cap)) (first | (refine HS.out _ ?_; with_reducible repeat (first | exact But.refl _ _ | refine But.drew ?_ | refine But.below ?_ hb4 | refine But.setS ?_ _ _)) | fail) (first | (go_at_call 129; refine (HNX.out _ ?_).mono ?_; (with_reducible repeat (first | exact Below.refl _ _ | refine vb_d ?_)); rintro e w4 ⟨rfl, hb4⟩; obtain ⟨y2, y3, yz⟩ := HAT.out w4 (by with_reducible repeat (first | exact Below.refl _ _ | refine vb_d ?_ | refine vb_t ?_ hb4))) | fail)
  all_goals
    go_end0
    rw [HP.out]
    refine ⟨rfl, ?_⟩
    have h5 : Below w.heap.size w w4 := by with_reducible repeat (first | exact Below.refl _ _ | refine vb_d ?_ | refine vb_t ?_ hb4)
    have h6 := LZ.store (HH.out.below h5) i HI.out (L.length : Int)
    exact ⟨h6.1, (But.ofBelow h5).trans h6.2⟩
set_option maxRecDepth 100000 in
set_option maxHeartbeats 3200000 in
theorem jump1Z_any (lb sb cap p q i : Nat) (Z : List Nat) (L : List ST) (w : World) (h : LZ w lb sb cap Z L) (hk : Cap w lb sb p q i) (hi : i < L.length) :
    Calls Tryz.prog 131 #[.pointer (some ⟨p, 0, none⟩), .pointer (some ⟨q, 0, none⟩)] w fun e w' => e = .returned (.tuple #[]) ∧ LZ w' lb sb cap Z (setAB L i) ∧ But (two lb sb) w w' := by
  have hlen := h.len
  obtain ⟨P, hP⟩ : ∃ P : Ending → World → Prop, P = fun e w' => e = .returned (.tuple #[]) ∧ LZ w' lb sb cap Z (setAB L i) ∧ But (two lb sb) w w' := ⟨_, rfl⟩
  rw [← hP]
  have HP := hid_intro hP
  clear hP
  have HNX : Hid (∀ w', Below w.heap.size w w' → Calls Tryz.prog 129 #[.pointer (some ⟨lb, 0, none⟩)] w' fun e w2 => e = .returned (.int .i64 (L.length : Int)) ∧ Below w'.heap.size w' w2) := hid_intro (fun w' hb => nextZ_any lb sb cap Z L w' (h.below hb))
  have HS : Hid (∀ w', But (fun b => b = sb) w w' → w'.cell? ⟨p, 0, none⟩ = some (.pointer (some ⟨lb, 0, none⟩)) ∧ w'.cell? ⟨q, 0, none⟩ = some (.int .i64 (i : Int)) ∧ w'.cell? ⟨lb, 0, none⟩ = some (.slice (some ⟨sb, 0, none⟩) L.length cap)) := hid_intro (fun w' hb => by
    have hc := h.cell.1
    exact ⟨(World.cell?_of_block (w := w) (w' := w') (hb.block p (World.block_lt_of_cell? w _ hk.1) (fun e => hk.2.2.1 (Or.inr e)))).trans hk.1, (World.cell?_of_block (w := w) (w' := w') (hb.block q (World.block_lt_of_cell? w _ hk.2.1) (fun e => hk.2.2.2 (Or.inr e)))).trans hk.2.1, (World.cell?_of_block (w := w) (w' := w') (hb.block lb h.lt.1 h.ne)).trans hc⟩)
  have HAT : Hid (∀ w', Below w.heap.size w w' → w'.cell? ⟨sb, i * 4 + 2, none⟩ = some (.int .i64 (sa L i).a) ∧ w'.cell? ⟨sb, i * 4 + 3, none⟩ = some (.int .i64 (sa L i).b) ∧ ∀ o, w'.frozen? ⟨sb, o, none⟩ = false) := hid_intro (fun w' hb => by
    obtain ⟨⟨v, _, _, ha, hb', _⟩, hz⟩ := (h.below hb).at i hi
    exact ⟨ha, hb', hz⟩)
  have HH := hid_intro h
  have HI := hid_intro hi
  have hI : (i : Int) < (L.length : Int) := by omega
  clear h hk hi hlen
  go_enter Tryz.func131, Tryz.ntmps131
  go_wp2_with fail
  go_region_held3 (fun w' => w'.cell? ⟨p, 0, none⟩ = some (.pointer (some ⟨lb, 0, none⟩)) ∧ w'.cell? ⟨q, 0, none⟩ = some (.int .i64 (i : Int)) ∧ w'.cell? ⟨lb, 0, none⟩ = some (.slice (some ⟨sb, 0, none⟩) L.length cap)) (first | (refine HS.out _ ?_; with_reducible repeat (first | exact But.refl _ _ | refine But.drew ?_ | refine But.below ?_ hb5 | refine But.below ?_ hb4 | refine But.setS ?_ _ _)) | fail) (first | (go_at_call 129; refine (HNX.out _ ?_).mono ?_; (with_reducible repeat (first | exact Below.refl _ _ | refine vb_d ?_)); rintro e w4 ⟨rfl, hb4⟩) | (go_at_call 129; refine (HNX.out _ ?_).mono ?_; (with_reducible repeat (first | exact Below.refl _ _ | refine vb_d ?_ | refine vb_t ?_ hb4)); rintro e w5 ⟨rfl, hb5⟩; obtain ⟨y2, y3, yz⟩ := HAT.out w5 (by with_reducible repeat (first | exact Below.refl _ _ | refine vb_d ?_ | refine vb_t ?_ hb5 | refine vb_t ?_ hb4)); have x3 : ∀ v, (w5.setCell ⟨sb, i * 4 + 2, none⟩ v).cell? ⟨sb, i * 4 + 3, none⟩ = some (.int .i64 (sa L i).b) := (fun v => (World.cell?_setCell_other _ _ _ _ (by simp)).trans y3)) | fail)
  all_goals
    go_end0
    rw [HP.out]
    refine ⟨rfl, ?_⟩
    have h5 : Below w.heap.size w w5 := by with_reducible repeat (first | exact Below.refl _ _ | refine vb_d ?_ | refine vb_t ?_ hb5 | refine vb_t ?_ hb4)
    have h6 := LZ.storeA (HH.out.below h5) i HI.out (L.length : Int)
    have h7 := LZ.store h6.1 i (by simpa using HI.out) (L.length : Int)
    rw [setAB_set L i HI.out] at h7
    exact ⟨h7.1, (But.ofBelow h5).trans (h6.2.trans h7.2)⟩
set_option maxRecDepth 100000 in
theorem single1Z_any (lb sb cap p q s : Nat) (k : Int) (r : List (Int × Int)) (Z : List Nat) (L : List ST) (w : World) (h : LZ w lb sb cap Z L) (hk : Cap3 w lb sb p q s k r) (hroom : L.length + 1 ≤ cap) (hl : r.length ≤ 1099511627776) :
    Calls Tryz.prog 105 #[.pointer (some ⟨p, 0, none⟩), .pointer (some ⟨q, 0, none⟩), .pointer (some ⟨s, 0, none⟩)] w fun e w' => e = .returned (.tuple #[]) ∧ LZ w' lb sb cap Z (L ++ [⟨k, r, (L.length : Int) + 1, 0⟩]) ∧ But (two lb sb) w w' := by
  obtain ⟨h1, h2, ⟨v, h3, hR⟩, _⟩ := hk
  have hput := putZ_any lb sb cap Z L k r v w h hroom _ hR hl
  obtain ⟨ao, c, rfl, _⟩ := hR.shape
  clear hR h hroom hl
  go_enter Tryz.func105, Tryz.ntmps105
  go_wp2_with fail
  refine hput.mono ?_; rintro e w2 ⟨rfl, hls, hbt⟩
  go_wp2_with fail
  go_end0
  exact ⟨rfl, hls, hbt⟩
end Go.Proofs.YtoinlmfodmgohaaGreatDoor

namespace Go.Proofs.YtoinlmfodmgohaaGreatDoor

/-- So many times, one behind the other; q: how long one is. -/
def rep (g : Nat → List ST) (q : Nat) : Nat → Nat → List ST
  | _, 0 => []
  | n, c + 1 => g n ++ rep g q (n + q) c
mutual
/-- The states of a tree that begin at a place. -/
def bld : RX → Nat → List ST
  | .mk k r lo hi _ s, n =>
    if k = 2 then [⟨1, r, (n : Int) + 1, 0⟩]
    else if k = 6 then [⟨3, [], (n : Int) + 1, 0⟩]
    else if k = 7 then [⟨4, [], (n : Int) + 1, 0⟩]
    else if k = 8 then [⟨5, [], (n : Int) + 1, 0⟩]
    else if k = 9 then [⟨6, [], (n : Int) + 1, 0⟩]
    else if k = 3 then bldL s n
    else if k = 4 then bldA s n (n + (szL s + (s.length - 1) * 2))
    else if k = 5 then
      (if hi = -1 then rep (bldL s) (szL s) n lo.toNat ++ (⟨2, [], ((n + lo.toNat * szL s : Nat) : Int) + 1, ((n + lo.toNat * szL s + (szL s + 2) : Nat) : Int)⟩ :: bldL s (n + lo.toNat * szL s + 1) ++ [⟨2, [], ((n + lo.toNat * szL s : Nat) : Int), ((n + lo.toNat * szL s : Nat) : Int)⟩])
      else rep (bldL s) (szL s) n lo.toNat ++ rep (fun p => ⟨2, [], (p : Int) + 1, ((n + lo.toNat * szL s + (hi - lo).toNat * (szL s + 1) : Nat) : Int)⟩ :: bldL s (p + 1)) (szL s + 1) (n + lo.toNat * szL s) (hi - lo).toNat)
    else []
def bldL : List RX → Nat → List ST
  | [], _ => []
  | x :: l, n => bld x n ++ bldL l (n + szX x)
/-- Alternatives; e: the place behind all. -/
def bldA : List RX → Nat → Nat → List ST
  | [], _, _ => []
  | x :: l, n, e => (if l.length = 0 then bld x n else ⟨2, [], (n : Int) + 1, ((n + szX x + 2 : Nat) : Int)⟩ :: (bld x (n + 1) ++ [⟨2, [], (e : Int), (e : Int)⟩])) ++ bldA l (n + szX x + 2) e
end
theorem rep_len (g : Nat → List ST) (q : Nat) (hg : ∀ n, (g n).length = q) : ∀ c n, (rep g q n c).length = c * q
  | 0, _ => by simp [rep]
  | c + 1, n => by
    rw [rep, List.length_append, hg, rep_len g q hg c, Nat.succ_mul]; omega
theorem rep_snoc (g : Nat → List ST) (q : Nat) : ∀ c n, rep g q n (c + 1) = rep g q n c ++ g (n + c * q)
  | 0, n => by simp [rep]
  | c + 1, n => by
    rw [rep, rep_snoc g q c (n + q), rep]
    have e : n + q + c * q = n + (c + 1) * q := by rw [Nat.succ_mul]; omega
    rw [e, List.append_assoc]
theorem bld_5 (r : List (Int × Int)) (lo hi : Int) (z : Bool) (s : List RX) (n : Nat) : bld (.mk 5 r lo hi z s) n =
      (if hi = -1 then rep (bldL s) (szL s) n lo.toNat ++ (⟨2, [], ((n + lo.toNat * szL s : Nat) : Int) + 1, ((n + lo.toNat * szL s + (szL s + 2) : Nat) : Int)⟩ :: bldL s (n + lo.toNat * szL s + 1) ++ [⟨2, [], ((n + lo.toNat * szL s : Nat) : Int), ((n + lo.toNat * szL s : Nat) : Int)⟩])
      else rep (bldL s) (szL s) n lo.toNat ++ rep (fun p => ⟨2, [], (p : Int) + 1, ((n + lo.toNat * szL s + (hi - lo).toNat * (szL s + 1) : Nat) : Int)⟩ :: bldL s (p + 1)) (szL s + 1) (n + lo.toNat * szL s) (hi - lo).toNat) := by rw [bld]; rfl
theorem szX_5 (r : List (Int × Int)) (lo hi : Int) (z : Bool) (s : List RX) : szX (.mk 5 r lo hi z s) = (if hi = -1 then lo.toNat * szL s + (szL s + 2) else lo.toNat * szL s + (hi - lo).toNat * (szL s + 1)) := by rw [szX]; rfl
theorem bldL_len_of {l : List RX} (h : ∀ x ∈ l, ∀ n, (bld x n).length = szX x) : ∀ n, (bldL l n).length = szL l := by
  induction l with
  | nil => intro n; rfl
  | cons x l ih =>
    intro n
    rw [bldL, List.length_append, h x (by simp), ih (fun y hy => h y (by simp [hy])), szL]
theorem bldA_len_of {l : List RX} (h : ∀ x ∈ l, ∀ n, (bld x n).length = szX x) (hl : l ≠ []) : ∀ n e, (bldA l n e).length = szL l + (l.length - 1) * 2 := by
  induction l with
  | nil => exact absurd rfl hl
  | cons x l ih =>
    intro n e
    have hx := h x (by simp)
    rw [bldA, List.length_append]
    by_cases h0 : l.length = 0
    · obtain rfl : l = [] := List.eq_nil_of_length_eq_zero h0
      rw [if_pos h0, hx]
      simp [bldA, szL]
    · rw [if_neg h0, ih (fun y hy => h y (by simp [hy])) (fun e => h0 (by rw [e]; rfl))]
      simp only [List.length_cons, List.length_append, List.length_nil, hx, szL]
      omega
/-- A right tree has as many states as were told. -/
theorem bld_len : ∀ (t : RX) (d : Nat), rightB d t = true → ∀ n, (bld t n).length = szX t := by
  intro t
  induction t using RX.ind with
  | h k r lo hi z s ih =>
    intro d hr n
    obtain ⟨⟨e, rfl, hre⟩, hk4, hk5⟩ := right_parts hr
    have hs : ∀ x ∈ s, ∀ n, (bld x n).length = szX x := fun x hx => ih x hx e (hre x hx)
    have hL := bldL_len_of hs
    have kk : k = 1 ∨ k = 2 ∨ k = 3 ∨ k = 4 ∨ k = 5 ∨ k = 6 ∨ k = 7 ∨ k = 8 ∨ k = 9 := by
      have h2 : rightB (e + 1) (.mk k r lo hi z s) = true := hr
      simp only [rightB, Bool.and_eq_true] at h2
      have h3 := h2.1.2
      unfold kindB at h3
      by_cases c : k = 1 ∨ k = 2 ∨ k = 3 ∨ k = 4 ∨ k = 5 ∨ k = 6 ∨ k = 7 ∨ k = 8 ∨ k = 9
      · exact c
      · rw [if_neg (by omega), if_neg (by omega), if_neg (by omega)] at h3; cases h3
    rcases kk with rfl | rfl | rfl | rfl | rfl | rfl | rfl | rfl | rfl
    · rw [bld, szX]; rfl
    · rw [bld, szX]; rfl
    · rw [bld, szX]; exact hL n
    · have := bldA_len_of hs (by intro e; have := hk4 rfl; rw [e] at this; simp at this) n (n + (szL s + (s.length - 1) * 2))
      rw [bld, szX]; exact this
    · have e1 := rep_len (bldL s) (szL s) hL lo.toNat n
      rw [bld_5, szX_5]
      by_cases hh : hi = -1
      · rw [if_pos hh, if_pos hh, List.length_append, e1]
        simp [hL]
      · have e2 := rep_len (fun p => ⟨2, [], (p : Int) + 1, ((n + lo.toNat * szL s + (hi - lo).toNat * (szL s + 1) : Nat) : Int)⟩ :: bldL s (p + 1)) (szL s + 1) (fun m => by simp [hL]) (hi - lo).toNat (n + lo.toNat * szL s)
        rw [if_neg hh, if_neg hh, List.length_append, e1, e2]
    · rw [bld, szX]; rfl
    · rw [bld, szX]; rfl
    · rw [bld, szX]; rfl
    · rw [bld, szX]; rfl
theorem bldL_append : ∀ (l m : List RX) (n : Nat), bldL (l ++ m) n = bldL l n ++ bldL m (n + szL l)
  | [], m, n => by simp [bldL, szL]
  | x :: l, m, n => by
    rw [List.cons_append, bldL, bldL, bldL_append l m, szL, List.append_assoc, Nat.add_assoc]
theorem bldL_take (l : List RX) (i : Nat) (h : i < l.length) (n : Nat) : bldL (l.take (i + 1)) n = bldL (l.take i) n ++ bld l[i] (n + szL (l.take i)) := by
  rw [List.take_add_one, List.getElem?_eq_getElem h, bldL_append]
  simp [bldL]
theorem szL_le : ∀ (l : List RX) (i : Nat), szL (l.take i) ≤ szL l
  | [], i => by simp
  | x :: l, 0 => by simp [szL]
  | x :: l, i + 1 => by have := szL_le l i; simp only [List.take_succ_cons, szL]; omega
end Go.Proofs.YtoinlmfodmgohaaGreatDoor

namespace Go.Proofs.YtoinlmfodmgohaaGreatDoor
open Go.RowKit
attribute [local go_sem] setCell_drewN alloc_drewN

/-- A function value that puts a tree's states behind those that stand. -/
def FnOK (w : World) (lb sb cap : Nat) (x : RX) (v : Value) : Prop :=
  ∃ n caps, v = .func (.func n) #[] caps ∧ (∀ args w, (callFunc n args).run Tryz.prog w = .ok (.enter n args) w) ∧
    ∀ w' Z L, But (two lb sb) w w' → LZ w' lb sb cap Z L → L.length + szX x ≤ cap → Calls Tryz.prog n caps w' fun e w2 => e = .returned (.tuple #[]) ∧ LZ w2 lb sb cap Z (L ++ bld x L.length) ∧ But (two lb sb) w' w2
theorem FnOK.but {w w' : World} {lb sb cap : Nat} {x : RX} {v : Value} (h : FnOK w lb sb cap x v) (hb : But (two lb sb) w w') : FnOK w' lb sb cap x v := by
  obtain ⟨n, caps, e, h1, h2⟩ := h
  exact ⟨n, caps, e, h1, fun w2 Z L hb2 => h2 w2 Z L (hb.trans hb2)⟩
/-- Trees in a row that can be compiled. -/
structure PartsOK (w : World) (lb sb cap : Nat) (s : List RX) (ao : Option Addr) (cp : Nat) (G : Nat → Nat → Value) : Prop where
  cells : s = [] ∨ ∃ b off, ao = some ⟨b, off, none⟩ ∧ ¬ two lb sb b ∧ ∀ i, i < s.length → ∀ j, j < 6 → w.cell? ⟨b, off + i * 6 + j, none⟩ = some (G i j)
  six : ∀ i, i < s.length → Six (G i)
  part : ∀ i (h : i < s.length) w', But (two lb sb) w w' → Calls Tryz.prog 51 #[.pointer (some ⟨lb, 0, none⟩), .agg #[G i 0, G i 1, G i 2, G i 3, G i 4, G i 5]] w' fun e w2 => ∃ v, e = .returned v ∧ FnOK w2 lb sb cap s[i] v ∧ Below w'.heap.size w' w2
  len : s.length ≤ cp ∧ cp ≤ maxLen
  sz : ∀ x ∈ s, ∀ n, (bld x n).length = szX x
theorem PartsOK.but {w w' : World} {lb sb cap : Nat} {s : List RX} {ao : Option Addr} {cp : Nat} {G : Nat → Nat → Value} (h : PartsOK w lb sb cap s ao cp G) (hb : But (two lb sb) w w') : PartsOK w' lb sb cap s ao cp G := by
  refine ⟨?_, h.six, fun i hi w2 hb2 => h.part i hi w2 (hb.trans hb2), h.len, h.sz⟩
  rcases h.cells with h | ⟨b, off, e, hn, hc⟩
  · exact .inl h
  · exact .inr ⟨b, off, e, hn, fun i hi j hj => cell_but (hc i hi j hj) hn hb⟩
set_option maxRecDepth 100000 in
set_option maxHeartbeats 3200000 in
theorem row1_any (lb sb cap : Nat) (s : List RX) (ao : Option Addr) (cp : Nat) (G : Nat → Nat → Value) (w : World) (hp : PartsOK w lb sb cap s ao cp G) (p q : Nat) (Z : List Nat) (L : List ST)
    (c1 : w.cell? ⟨p, 0, none⟩ = some (.slice ao s.length cp)) (c2 : w.cell? ⟨q, 0, none⟩ = some (.pointer (some ⟨lb, 0, none⟩))) (hnq : ¬ two lb sb q) (h : LZ w lb sb cap Z L) (hroom : L.length + szL s ≤ cap) :
    Calls Tryz.prog 107 #[.pointer (some ⟨p, 0, none⟩), .pointer (some ⟨q, 0, none⟩)] w fun e w' => e = .returned (.tuple #[]) ∧ LZ w' lb sb cap Z (L ++ bldL s L.length) ∧ But (two lb sb) w w' := by
  have hlI : (s.length : Int) ≤ 9223372036854775807 := by have := hp.len.1; have := hp.len.2; unfold maxLen at this; omega
  obtain ⟨P, hP⟩ : ∃ P : Ending → World → Prop, P = fun e w' => e = .returned (.tuple #[]) ∧ LZ w' lb sb cap Z (L ++ bldL s L.length) ∧ But (two lb sb) w w' := ⟨_, rfl⟩
  rw [← hP]
  have HP := hid_intro hP
  have HPO := hid_intro hp
  have HQ : Hid (∀ w', But (two lb sb) w w' → w'.cell? ⟨q, 0, none⟩ = some (.pointer (some ⟨lb, 0, none⟩))) := hid_intro (fun w' hb => cell_but c2 hnq hb)
  have HH := hid_intro h
  have HRO := hid_intro hroom
  have hlenL : ∀ j, (bldL (s.take j) L.length).length = szL (s.take j) := fun j => bldL_len_of (fun x hx => hp.sz x (List.mem_of_mem_take hx)) _
  have HLL := hid_intro hlenL
  clear hP hp c2 h hroom hnq hlenL
  go_enter Tryz.func107, Tryz.ntmps107
  go_wp2_with fail
  clear c1
  go_loopg [6] s.length (fun me s6 wr => ∃ j : Nat, j ≤ s.length ∧ me = s.length - j ∧ s6 = .int .i64 (j : Int) ∧ Hid (LZ wr lb sb cap Z (L ++ bldL (s.take j) L.length) ∧ But (two lb sb) w wr))
  case atStart => exact ⟨0, Nat.zero_le _, rfl, rfl, by simpa [bldL] using HH.out, But.refl _ _⟩
  case round =>
    obtain ⟨j, hj, rfl, rfl, HZ⟩ := hrel
    by_cases hlt : j < s.length
    · have hJ : (j : Int) < (s.length : Int) := by omega
      have HPR := hid_intro (HPO.out.but HZ.out.2)
      obtain ⟨b, off, rfl, _, h3⟩ := HPR.out.cells.resolve_left (fun e => by rw [e] at hlt; exact absurd hlt (by simp))
      have g0 : wr.cell? ⟨b, off + j * 6, none⟩ = some (G j 0) := h3 j hlt 0 (by omega)
      have g1 := h3 j hlt 1 (by omega)
      have g2 := h3 j hlt 2 (by omega)
      have g3 := h3 j hlt 3 (by omega)
      have g4 := h3 j hlt 4 (by omega)
      have g5 := h3 j hlt 5 (by omega)
      have hpart := fun w' hb => HPR.out.part j hlt w' hb
      obtain ⟨x0, x1, x2, x3, x4, x5, x6, x7, x8, x9, e0, e1, e2, e3, e4, e5⟩ := HPR.out.six j hlt
      rw [e0] at g0
      rw [e1] at g1
      rw [e2] at g2
      rw [e3] at g3
      rw [e4] at g4
      rw [e5] at g5
      rw [e0, e1, e2, e3, e4, e5] at hpart
      clear e0 e1 e2 e3 e4 e5 h3
      obtain ⟨V, hV⟩ : ∃ V, wr.alloc (.cells #[.int .i64 x0, .slice x1 x2 x3, .int .i64 x4, .int .i64 x5, .bool x6, .slice x7 x8 x9] 31) = V := ⟨_, rfl⟩
      have hbV : Below wr.heap.size wr V := hV ▸ vb_a (Below.refl _ _) _
      have hpV := hpart V (But.ofBelow hbV)
      have q1 : (wr.alloc (.cells #[.int .i64 x0, .slice x1 x2 x3, .int .i64 x4, .int .i64 x5, .bool x6, .slice x7 x8 x9] 31)).cell? ⟨q, 0, none⟩ = some (.pointer (some ⟨lb, 0, none⟩)) := hV ▸ HQ.out V (HZ.out.2.below hbV)
      have HV := hid_intro hV
      have HBV := hid_intro hbV
      clear hV hbV hpart HPR
      go_wp2_with fail
      rw [HV.out]
      refine hpV.mono ?_; rintro e w2 ⟨v2, rfl, hfn, hb2⟩
      obtain ⟨fnum, caps, rfl, hent, hcall⟩ := hfn
      have hb02 := vb_t HBV.out hb2
      have hc := hcall w2 Z _ (But.refl _ _) (HZ.out.1.below hb02) (by
        rw [List.length_append, HLL.out]
        have h1 := szL_take s j hlt
        have h2 := szL_le s (j + 1)
        have := HRO.out
        omega)
      have HB2 := hid_intro hb02
      clear hcall hb2 hb02 g0 g1 g2 g3 g4 g5 q1 hpV
      go_wp2_with fail
      refine hc.mono ?_; rintro e w3 ⟨rfl, hls3, hbt3⟩
      have HN : Hid (LZ w3 lb sb cap Z (L ++ bldL (s.take (j + 1)) L.length) ∧ But (two lb sb) w w3) := hid_intro ⟨by
        rw [bldL_take s j hlt, ← List.append_assoc]
        rw [List.length_append, HLL.out] at hls3
        exact hls3, (HZ.out.2.below HB2.out).trans hbt3⟩
      clear hc hls3 hbt3 hent
      go_wp2_with fail
      go_roundg (s.length - (j + 1))
      case measure => omega
      case rel => exact ⟨j + 1, by omega, rfl, by simp, HN⟩
    · have hJ : ¬ (j : Int) < (s.length : Int) := by omega
      have HE : Hid (s.take j = s) := hid_intro (List.take_of_length_le (by omega))
      go_wp2_with fail
      go_end0
      rw [HP.out]
      have := HZ.out
      rw [HE.out] at this
      exact ⟨rfl, this⟩
end Go.Proofs.YtoinlmfodmgohaaGreatDoor
