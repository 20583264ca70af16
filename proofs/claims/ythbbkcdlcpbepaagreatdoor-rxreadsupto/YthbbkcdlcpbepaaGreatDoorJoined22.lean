/-
  What the reference's Merge answers: the set of ranges. Conditions: at most 2^30 ranges.
-/
import Derived.Test.YthbbkcdlcpbepaaGreatDoorJoined19
namespace Go.Proofs.YthbbkcdlcpbepaaGreatDoor
open Go.RowKit
attribute [local go_sem] setCell_drewN alloc_drewN

theorem Bk.grownT {w w' : World} {b : Nat} {cs : Array Value} {o : Option Nat} (h : Bk w b cs) (g : w.grownBy w' o) (ho : o ≠ some b) : Bk w' b cs := by
  have hl := h.lt
  obtain ⟨T, h⟩ := h
  exact ⟨T, by rw [g.block b hl (fun e => ho e.symm)]; exact h⟩
theorem merge_take (l : List (Int × Int)) (i : Nat) (h : i < l.length) : mergeL (l.take (i + 1)) = mergeS (mergeL (l.take i)) (ra l i) := by
  unfold mergeL
  rw [List.take_succ_eq_append_getElem h, List.foldl_append, ra_get h]
  rfl
theorem merge_put (out : List (Int × Int)) {x y A C : Int} (hA : max x 0 = A) (hC : min y 1114111 = C) : mergeS out (x, y) = if C < A then out else putR out (A, C) := by subst hA hC; rfl
theorem step_first {nx : List (Int × Int)} {pb : Bool} {xa xb p q : Int} (h : q + 1 < xa) : stepM (nx, pb, (xa, xb)) (p, q) = (nx ++ [(p, q)], pb, (xa, xb)) := by unfold stepM; exact if_pos h
theorem step_false {nx : List (Int × Int)} {xa xb p q : Int} (h : ¬ q + 1 < xa) (h2 : xb + 1 < p) : stepM (nx, false, (xa, xb)) (p, q) = (nx ++ [(xa, xb)] ++ [(p, q)], true, (xa, xb)) := by
  unfold stepM; rw [if_neg h, if_pos h2, List.append_assoc]; rfl
theorem step_put {nx : List (Int × Int)} {xa xb p q : Int} (h : ¬ q + 1 < xa) (h2 : xb + 1 < p) : stepM (nx, true, (xa, xb)) (p, q) = (nx ++ [(p, q)], true, (xa, xb)) := by
  unfold stepM; rw [if_neg h, if_pos h2]; rfl
theorem step_join {nx : List (Int × Int)} {pb : Bool} {xa xb p q : Int} (h : ¬ q + 1 < xa) (h2 : ¬ xb + 1 < p) : stepM (nx, pb, (xa, xb)) (p, q) = (nx, pb, (min xa p, max xb q)) := by
  unfold stepM; rw [if_neg h, if_neg h2]
set_option maxRecDepth 100000 in
set_option maxHeartbeats 6400000 in
theorem refMergeN_any (l : List (Int × Int)) (v : Value) (w : World) (X : Nat → Prop) (hR : RI w X l v) (hl : l.length ≤ 1073741824) :
    Calls Tryz.prog 92 #[v] w fun r w' => ∃ v', r = .returned v' ∧ RI w' (· < w.heap.size) (mergeL l) v' ∧ Below w.heap.size w w' := by
  obtain ⟨ao, cap, rfl, hc, hcm, hwf, hlie⟩ := hR
  have hlI : (l.length : Int) ≤ 1073741824 := by omega
  go_enter Tryz.func92, Tryz.ntmps92
  go_wp2_with fail
  go_loopg [3, 4] l.length (fun m s3 s4 wr => ∃ i : Nat, i ≤ l.length ∧ m = l.length - i ∧ s4 = .int .i64 (i : Int) ∧ RI wr (· < w.heap.size) (mergeL (l.take i)) s3 ∧ Below w.heap.size w wr)
  case atStart => exact ⟨0, Nat.zero_le _, rfl, rfl, RI.nil _ _, Below.refl _ _⟩
  case round =>
    obtain ⟨i, hi, rfl, rfl, hri, hb⟩ := hrel
    obtain ⟨wo, rfl⟩ : ∃ wo, wo = wr := ⟨_, rfl⟩
    by_cases hlt : i < l.length
    · rcases hlie with hlie | ⟨b, off, rfl, _, hcell⟩
      · subst hlie; simp at hlt
      have q0 := (hb.cell (p := ⟨b, off + i * 2, none⟩) (World.block_lt_of_cell? w _ (hcell i hlt).1)).trans (hcell i hlt).1
      have q1 := (hb.cell (p := ⟨b, off + i * 2 + 1, none⟩) (World.block_lt_of_cell? w _ (hcell i hlt).2)).trans (hcell i hlt).2
      have hI : (i : Int) < (l.length : Int) := by omega
      have hmt := merge_take l i hlt
      have hml : (mergeL (l.take i)).length ≤ i := Nat.le_trans (merge_len _) (by rw [List.length_take]; omega)
      have hmo := (merge_can (l.take i)).ok
      generalize ra l i = rr at *
      obtain ⟨x, y⟩ := rr
      simp only at q0 q1
      generalize hout : mergeL (l.take i) = out at *
      obtain ⟨A, hA⟩ : ∃ A, max x 0 = A := ⟨_, rfl⟩
      obtain ⟨C, hC⟩ : ∃ C, min y 1114111 = C := ⟨_, rfl⟩
      rw [merge_put out hA hC] at hmt
      have hA0 : 0 ≤ A := by omega
      have hC0 : C ≤ 1114111 := by omega
      have HRI := hid_intro hri
      have HB := hid_intro hb
      have HMO := hid_intro hmo
      have HMT := hid_intro hmt
      have q0a := ((vb_a (Below.refl _ wo) (.cells #[.int .i64 0, .int .i64 0] 51)).cell (p := ⟨b, off + i * 2, none⟩) (World.block_lt_of_cell? wo _ q0)).trans q0
      have q1a := ((vb_a (Below.refl _ wo) (.cells #[.int .i64 0, .int .i64 0] 51)).cell (p := ⟨b, off + i * 2 + 1, none⟩) (World.block_lt_of_cell? wo _ q1)).trans q1
      obtain ⟨ao3, cap3, hs3, hlm⟩ := hri.shape
      clear hcell hwf hc hcm hri hb hmo hout hlm
      by_cases hAC : C < A
      · have HE : Hid (mergeL (l.take (i + 1)) = out) := hid_intro (by rw [HMT.out, if_pos hAC])
        clear HMT hmt hA0 hC0
        go_wp2_with fail
        go_region
        all_goals
          go_wp2_with fail
          go_roundg (l.length - (i + 1))
          case measure => omega
          case rel => exact ⟨i + 1, by omega, rfl, by simp, by rw [HE.out]; exact HRI.out.kept (by with_reducible repeat (first | exact Below.refl _ _ | refine vb_d ?_ | refine vb_n ?_ _ | refine vb_a ?_ _)), by with_reducible repeat (first | exact HB.out | refine vb_d ?_ | refine vb_n ?_ _ | refine vb_a ?_ _)⟩
      · have HE : Hid (mergeL (l.take (i + 1)) = putR out (A, C)) := hid_intro (by rw [HMT.out, if_neg hAC])
        have hok0 : okR (A, C) := ⟨hA0, by show A ≤ C; omega, hC0⟩
        have HK0 := hid_intro hok0
        have hlo : (out.length : Int) ≤ 1073741824 := by omega
        subst hs3
        clear HMT hmt hok0
        go_wp2_with fail
        go_region
        all_goals
          go_wp2_with fail
          go_loopg [6, 7, 8] out.length (fun m s6 s7 s8 w2 => ∃ (k : Nat) (nx : List (Int × Int)) (pb : Bool) (xa xb : Int), k ≤ out.length ∧ m = out.length - k ∧ s8 = .int .i64 (k : Int) ∧ s7 = .bool pb ∧ nx.length ≤ 2 * k ∧ Hid (okR (xa, xb)) ∧ OwnR w2 (wo.heap.size + 1) s6 nx ∧ Bk w2 wo.heap.size #[.int .i64 xa, .int .i64 xb] ∧ Hid (putLast ((out.drop k).foldl stepM (nx, pb, (xa, xb))) = putR out (A, C)) ∧ Below wo.heap.size wo w2)
          case atStart =>
            refine ⟨0, [], false, A, C, Nat.zero_le _, rfl, rfl, rfl, Nat.zero_le _, HK0, OwnR.nil _ _, ?_, hid_intro rfl, ?_⟩
            · with_reducible repeat (first | refine Bk.dw ?_ | refine Bk.dr ?_ _ | exact Bk.new _ _ _)
            · with_reducible repeat (first | exact Below.refl _ _ | refine vb_d ?_ | refine vb_n ?_ _ | refine vb_a ?_ _)
          case round =>
            clear HK0
            obtain ⟨k, nx, pb, xa, xb, hk, rfl, rfl, rfl, hnx, HX, hown, hbk, HG, hb2⟩ := hrel
            obtain ⟨x0, x1, x2⟩ := HX.out
            simp only at x0 x1 x2
            obtain ⟨c0, c1⟩ := hbk.c2
            obtain ⟨z0, z1⟩ := hbk.z2
            have HBK := hid_intro hbk
            have HOWN := hid_intro hown
            have HB2 := hid_intro hb2
            have hne : u6.ownBlock ≠ some wo.heap.size := fun e => by have := (hown.lt _ e).1; omega
            by_cases hkl : k < out.length
            · have hri2 := HRI.out.kept hb2
              obtain ⟨ao9, cap9, h91, h92, h93, h94, h95⟩ := hri2
              rcases h95 with h95 | ⟨bo, oo, h96, _, h97⟩
              · subst h95; simp at hkl
              obtain ⟨rfl, rfl⟩ : ao3 = ao9 ∧ cap3 = cap9 := by simpa using h91
              subst h96
              have r0 := (h97 k hkl).1
              have r1 := (h97 k hkl).2
              have hI2 : (k : Int) < (out.length : Int) := by omega
              have hokr := HMO.out _ (ra_mem hkl)
              have hdr := drop_ra out k hkl
              generalize ra out k = rr at *
              obtain ⟨p, q⟩ := rr
              simp only at r0 r1
              obtain ⟨p0, p1, p2⟩ := hokr
              simp only at p0 p1 p2
              rw [hdr, List.foldl_cons] at HG
              have hi : I64 p ∧ I64 q := ⟨I64_of (by omega) (by omega), I64_of (by omega) (by omega)⟩
              have hix : I64 xa ∧ I64 xb := ⟨I64_of (by omega) (by omega), I64_of (by omega) (by omega)⟩
              obtain ⟨W, hW⟩ : ∃ W, wr.alloc (.cells #[.int .i64 p, .int .i64 q] 51) = W := ⟨_, rfl⟩
              have hWb : Below wr.heap.size wr W := hW ▸ vb_a (Below.refl _ _) _
              have kW : Bk W wr.heap.size #[.int .i64 p, .int .i64 q] := hW ▸ Bk.new _ _ _
              have kX := hbk.bel hWb
              obtain ⟨b0, b1⟩ := kW.c2
              obtain ⟨e0, e1⟩ := kX.c2
              obtain ⟨y0, y1⟩ := kX.z2
              have HKW := hid_intro kW
              have HKX := hid_intro kX
              have HOW := hid_intro (hown.below hWb)
              have HBW := hid_intro (vb_t hb2 hWb)
              have hnr : u6.ownBlock ≠ some wr.heap.size := fun e => by have := (hown.lt _ e).2; omega
              have hsz : wo.heap.size + 1 ≤ W.heap.size := by have := kX.lt; omega
              clear h97 hdr hown hb2 hbk kW kX HOWN HB2 HBK hWb h91 h92 h93 h94 z0 z1 c0 c1
              by_cases g1 : q + 1 < xa
              · have HG2 : Hid (putLast ((out.drop (k + 1)).foldl stepM (nx ++ [(p, q)], pb, (xa, xb))) = putR out (A, C)) := hid_intro (by rw [← HG.out, step_first g1])
                clear HG
                go_wp2_with (at_builtin; refine wpList_append_rngW rfl _ _ rfl (wo.heap.size + 1) _ nx p q rfl ?cO ?cB ?cS hi _ rfl (by simp [go_sem]) (by simp [go_sem]) ?_)
                case cO => exact HOW.out.below (by with_reducible repeat (first | exact Below.refl _ _ | refine vb_d ?_ | refine vb_a ?_ _))
                case cB => omega
                case cS => omega
                intro v' w3 ho3 hg3
                have hb3 : Below wo.heap.size wo w3 := (show Below wo.heap.size wo _ by with_reducible repeat (first | exact HBW.out | refine vb_d ?_ | refine vb_a ?_ _)).grown hg3 (by simp; omega) (fun j hj => by have := (HOW.out.lt j hj).1; omega)
                have hk3 : Bk w3 wo.heap.size #[.int .i64 xa, .int .i64 xb] := Bk.grownT (HKX.out.al _) hg3 hne
                have HF := hid_intro (And.intro ho3 (And.intro hk3 hb3))
                clear ho3 hg3 hb3 hk3
                go_wp2_with fail
                go_roundg (out.length - (k + 1))
                case measure => omega
                case rel => exact ⟨k + 1, nx ++ [(p, q)], pb, xa, xb, by omega, rfl, by simp, rfl, by simp; omega, HX, HF.out.1, HF.out.2.1, HG2, HF.out.2.2⟩
              · by_cases g2 : xb + 1 < p
                · cases pb
                  · have HG2 : Hid (putLast ((out.drop (k + 1)).foldl stepM (nx ++ [(xa, xb)] ++ [(p, q)], true, (xa, xb))) = putR out (A, C)) := hid_intro (by rw [← HG.out, step_false g1 g2])
                    clear HG
                    go_wp2_with (at_builtin; refine wpList_append_rngW rfl _ _ rfl (wo.heap.size + 1) _ nx xa xb rfl ?cO ?cB ?cS hix _ rfl (by simp [go_sem]) (by simp [go_sem]) ?_)
                    case cO => exact HOW.out.below (by with_reducible repeat (first | exact Below.refl _ _ | refine vb_d ?_ | refine vb_a ?_ _))
                    case cB => omega
                    case cS => omega
                    intro v' w3 ho3 hg3
                    have hb3 : Below wo.heap.size wo w3 := (show Below wo.heap.size wo _ by with_reducible repeat (first | exact HBW.out | refine vb_d ?_ | refine vb_a ?_ _)).grown hg3 (by simp; omega) (fun j hj => by have := (HOW.out.lt j hj).1; omega)
                    have hk3 : Bk w3 wo.heap.size #[.int .i64 xa, .int .i64 xb] := Bk.grownT (HKX.out.al _) hg3 hne
                    have hr3 : Bk w3 wr.heap.size #[.int .i64 p, .int .i64 q] := Bk.grownT (HKW.out.al _) hg3 hnr
                    have hs3 : wo.heap.size + 1 ≤ w3.heap.size := by have := hk3.lt; omega
                    have hne3 : v'.ownBlock ≠ some wo.heap.size := fun e => by have := (ho3.lt _ e).1; omega
                    obtain ⟨t0, t1⟩ := hr3.c2
                    have HF := hid_intro (And.intro ho3 (And.intro hk3 hb3))
                    clear ho3 hg3 hb3 hk3 hr3 e0 e1 y0 y1 b0 b1 hW
                    go_wp2_with (at_builtin; refine wpList_append_rngW rfl _ _ rfl (wo.heap.size + 1) _ (nx ++ [(xa, xb)]) p q rfl ?cO ?cB ?cS hi _ rfl (by simp [go_sem]) (by simp [go_sem]) ?_)
                    case cO => exact HF.out.1.below (by with_reducible repeat (first | exact Below.refl _ _ | refine vb_d ?_ | refine vb_a ?_ _))
                    case cB => first | omega | (simp; omega)
                    case cS => first | omega | (simp; omega)
                    intro v4 w4 ho4 hg4
                    have hb4 : Below wo.heap.size wo w4 := (show Below wo.heap.size wo _ by with_reducible repeat (first | exact HF.out.2.2 | refine vb_d ?_ | refine vb_a ?_ _)).grown hg4 (by simp; omega) (fun j hj => by have := (HF.out.1.lt j hj).1; omega)
                    have hk4 : Bk w4 wo.heap.size #[.int .i64 xa, .int .i64 xb] := Bk.grownT (HF.out.2.1.al _) hg4 hne3
                    have HF4 := hid_intro (And.intro ho4 (And.intro hk4 hb4))
                    clear ho4 hg4 hb4 hk4
                    go_wp2_with fail
                    go_roundg (out.length - (k + 1))
                    case measure => omega
                    case rel => exact ⟨k + 1, nx ++ [(xa, xb)] ++ [(p, q)], true, xa, xb, by omega, rfl, by simp, rfl, by simp; omega, HX, by rw [List.append_assoc]; exact HF4.out.1, HF4.out.2.1, HG2, HF4.out.2.2⟩
                  · have HG2 : Hid (putLast ((out.drop (k + 1)).foldl stepM (nx ++ [(p, q)], true, (xa, xb))) = putR out (A, C)) := hid_intro (by rw [← HG.out, step_put g1 g2])
                    clear HG
                    go_wp2_with (at_builtin; refine wpList_append_rngW rfl _ _ rfl (wo.heap.size + 1) _ nx p q rfl ?cO ?cB ?cS hi _ rfl (by simp [go_sem]) (by simp [go_sem]) ?_)
                    case cO => exact HOW.out.below (by with_reducible repeat (first | exact Below.refl _ _ | refine vb_d ?_ | refine vb_a ?_ _))
                    case cB => omega
                    case cS => omega
                    intro v' w3 ho3 hg3
                    have hb3 : Below wo.heap.size wo w3 := (show Below wo.heap.size wo _ by with_reducible repeat (first | exact HBW.out | refine vb_d ?_ | refine vb_a ?_ _)).grown hg3 (by simp; omega) (fun j hj => by have := (HOW.out.lt j hj).1; omega)
                    have hk3 : Bk w3 wo.heap.size #[.int .i64 xa, .int .i64 xb] := Bk.grownT (HKX.out.al _) hg3 hne
                    have HF := hid_intro (And.intro ho3 (And.intro hk3 hb3))
                    clear ho3 hg3 hb3 hk3
                    go_wp2_with fail
                    go_roundg (out.length - (k + 1))
                    case measure => omega
                    case rel => exact ⟨k + 1, nx ++ [(p, q)], true, xa, xb, by omega, rfl, by simp, rfl, by simp; omega, HX, HF.out.1, HF.out.2.1, HG2, HF.out.2.2⟩
                · have HG2 : Hid (putLast ((out.drop (k + 1)).foldl stepM (nx, pb, (min xa p, max xb q))) = putR out (A, C)) := hid_intro (by rw [← HG.out, step_join g1 g2])
                  have HX2 : Hid (okR (min xa p, max xb q)) := hid_intro ⟨by show 0 ≤ min xa p; omega, by show min xa p ≤ max xb q; omega, by show max xb q ≤ 1114111; omega⟩
                  have HS : Hid (OwnR ((W.setCell ⟨wo.heap.size, 0, none⟩ (.int .i64 (min xa p))).setCell ⟨wo.heap.size, 1, none⟩ (.int .i64 (max xb q))) (wo.heap.size + 1) u6 nx ∧ Bk ((W.setCell ⟨wo.heap.size, 0, none⟩ (.int .i64 (min xa p))).setCell ⟨wo.heap.size, 1, none⟩ (.int .i64 (max xb q))) wo.heap.size #[.int .i64 (min xa p), .int .i64 (max xb q)] ∧ Below wo.heap.size wo ((W.setCell ⟨wo.heap.size, 0, none⟩ (.int .i64 (min xa p))).setCell ⟨wo.heap.size, 1, none⟩ (.int .i64 (max xb q)))) :=
                    hid_intro ⟨OwnR.away (OwnR.away HOW.out hne _) hne _, Bk.set (Bk.set HKX.out 0 _ rfl) 1 _ rfl, vb_s (vb_s HBW.out (Nat.le_refl _) _) (Nat.le_refl _) _⟩
                  clear HG
                  go_wp2_with fail
                  go_roundg (out.length - (k + 1))
                  case measure => omega
                  case rel => exact ⟨k + 1, nx, pb, min xa p, max xb q, by omega, rfl, by simp, rfl, by omega, HX2, HS.out.1, HS.out.2.1, HG2, HS.out.2.2⟩
            · obtain rfl : k = out.length := by omega
              have hI2 : ¬ ((out.length : Int) < (out.length : Int)) := by omega
              have HG2 : Hid (putLast (nx, pb, (xa, xb)) = putR out (A, C)) := hid_intro (by rw [← HG.out, List.drop_length]; rfl)
              clear HG hbk hown hb2
              cases pb
              · have hi : I64 xa ∧ I64 xb := ⟨I64_of (by omega) (by omega), I64_of (by omega) (by omega)⟩
                go_wp2_with (at_builtin; refine wpList_append_rngW rfl _ _ rfl (wo.heap.size + 1) _ nx xa xb rfl ?cO ?cB ?cS hi _ rfl (by simp [go_sem]) (by simp [go_sem]) ?_)
                case cO => exact HOWN.out.below (by with_reducible repeat (first | exact Below.refl _ _ | refine vb_d ?_ | refine vb_a ?_ _))
                case cB => have := HB2.out.size; have := HBK.out.lt; simp; omega
                case cS => omega
                intro v' w3 ho3 hg3
                have hb3 : Below wo.heap.size wo w3 := (show Below wo.heap.size wo _ by with_reducible repeat (first | exact HB2.out | refine vb_d ?_ | refine vb_a ?_ _)).grown hg3 (by have := HB2.out.size; simp; omega) (fun j hj => by have := (HOWN.out.lt j hj).1; omega)
                have HF : Hid (RI w3 (· < w.heap.size) (mergeL (l.take (i + 1))) v' ∧ Below w.heap.size w w3) := hid_intro ⟨by rw [HE.out, ← HG2.out]; exact ho3.ri _ (fun b hb h => by have := HB.out.size; have h2 : b < w.heap.size := h; omega), vb_t HB.out hb3⟩
                clear ho3 hg3 hb3
                go_wp2_with fail
                go_roundg (l.length - (i + 1))
                case measure => omega
                case rel => exact ⟨i + 1, by omega, rfl, by simp, HF.out.1, HF.out.2⟩
              · have HF : Hid (RI wr (· < w.heap.size) (mergeL (l.take (i + 1))) u6 ∧ Below w.heap.size w wr) := hid_intro ⟨by rw [HE.out, ← HG2.out]; exact HOWN.out.ri _ (fun b hb h => by have := HB.out.size; have h2 : b < w.heap.size := h; omega), vb_t HB.out HB2.out⟩
                go_wp2_with fail
                go_roundg (l.length - (i + 1))
                case measure => omega
                case rel => exact ⟨i + 1, by omega, rfl, by simp, HF.out.1, HF.out.2⟩
    · obtain rfl : i = l.length := by omega
      have hI : ¬ ((l.length : Int) < (l.length : Int)) := by omega
      rw [List.take_length] at hri
      go_wp2_with fail
      go_ret
      exact ⟨_, rfl, hri, hb⟩
end Go.Proofs.YthbbkcdlcpbepaaGreatDoor
