/-
  What lex.quoted and lex.Quote answer: the string as it is written. Conditions: the bytes lie in memory, at most 2^43 of them; the table of greatest code points holds its four numbers.
-/
import Derived.Test.YtpeoepcfiejpmaaDoorZ2
namespace Go.Proofs.YtpeoepcfiejpmaaDoor
open Go.RowKit
attribute [local go_sem] setCell_drewN alloc_drewN

set_option maxRecDepth 100000 in
set_option maxHeartbeats 6400000 in
theorem quoted_any (l : List UInt8) (bb off capv : Nat) (w : World) (hLb : Lies w bb off l.length (bx l)) (hcb : l.length ≤ capv) (hmb : capv ≤ maxLen) (hm : l.length ≤ 8796093022208) :
    Calls Tryd.prog 24 #[.slice (some ⟨bb, off, none⟩) l.length capv] w fun r w' => r = .returned (.string ⟨(quoteL l).toArray⟩) ∧ Below w.heap.size w w' := by
  have hB : Byt w (.slice (some ⟨bb, off, none⟩) l.length capv) l := .inr ⟨bb, off, capv, rfl, hcb, hmb, hLb⟩
  have hcI : (capv : Int) ≤ 9223372036854775807 := by unfold maxLen at hmb; omega
  have hcI2 : (l.length : Int) ≤ (capv : Int) := by omega
  have hlI : (l.length : Int) ≤ 8796093022208 := by omega
  have hmk := make_bytes w (l.length + 2) (by omega)
  have hok := make_own w (l.length + 2) (by unfold maxLen; omega)
  rw [show ((l.length + 2 : Nat) : Int) = (l.length : Int) + 2 by omega] at hmk
  obtain ⟨M, hM⟩ : ∃ M, w.alloc (.cells (madeCells #[.int .u8 0] (l.length + 2)) 5) = M := ⟨_, rfl⟩
  have hbM : Below w.heap.size w M := by rw [← hM]; exact bl_a (Below.refl _ _) _
  rw [hM] at hmk hok
  clear hM
  have hok1 := hok.alloc (.cells #[.int .u8 34] 5)
  have hR1 := row_ws M [34] 5 (by decide)
  obtain ⟨i0, hi0, hz0, hz1, hz2⟩ := info_parts info5
  go_enter Tryd.func24, Tryd.ntmps24
  go_wp2_with (at_builtin; refine wpList_append_row rfl (.tmp 10) (.tmp 11) rfl _ _ _ _ rfl hok1 _ 1 (bx [34]) rfl hR1 ?_ ?_ ?_)
  · omega
  · have := hbM.size; simp; omega
  · intro v1 w1 hown1 hgrow1
    have hb1 := (bl_a hbM (.cells #[.int .u8 34] 5)).grown hgrow1 (by have := hbM.size; simp; omega) (fun j hj => (hok1.lt j hj).1)
    have own1 := own_cat (a := []) (b := [34]) (n := 0) (m := 1) rfl rfl (by simpa [cellsL] using hown1)
    rw [List.nil_append] at own1
    clear hok hok1 hR1 hown1 hgrow1 hmk
    go_wp2_with fail
    go_loopw [3, 4] (fun u t wr => ∃ (at_ : Nat), t = .int .i64 (at_ : Int) ∧ at_ ≤ l.length ∧ wr.ownsRow w.heap.size 5 1 u (34 :: bodyL (l.take at_)).length (cellsL (34 :: bodyL (l.take at_))) ∧ Below w.heap.size w wr) (fun _ t _ => l.length - (intOf t).toNat)
    case atStart => exact ⟨0, rfl, Nat.zero_le _, own1, hb1⟩
    case round =>
      obtain ⟨at_, rfl, hal, hown, hbel⟩ := hrel
      have haI : (at_ : Int) ≤ (l.length : Int) := by omega
      have g1 := passed_plain l at_ _ wr (hB.below hbel) hal (by omega)
      have hae := pass_ge l plainB at_
      have hel := pass_le (l := l) (p := plainB) hal
      have hend := pass_end l plainB at_
      have hrun := body_run (l := l) hal
      have hsl := sub_length (l := l) hae hel
      have hbl := body_len (l.take at_)
      rw [List.length_take] at hbl
      have hol : (34 :: bodyL (l.take at_)).length ≤ 6 * l.length + 1 := by simp; omega
      generalize pass l plainB at_ = e at *
      have haeI : (at_ : Int) ≤ (e : Int) := by omega
      have heI : (e : Int) ≤ (capv : Int) := by omega
      have heI2 : (e : Int) ≤ 8796093022208 := by omega
      obtain ⟨sv, hsv, hsr⟩ : ∃ sv, (sv = if at_ < capv then Value.slice (some ⟨bb, off + at_, none⟩) (e - at_) (capv - at_) else .slice (some ⟨bb, off, none⟩) 0 0) ∧ (∀ w2, Below w.heap.size w w2 → Row w2 sv (e - at_) (bx (sub l at_ e))) := by
        by_cases hac : at_ < capv
        · exact ⟨_, rfl, fun w2 hb => by rw [if_pos hac]; exact byt_row (Byt.below (byt_sub hLb hcb hmb hae hel) hb) hsl⟩
        · refine ⟨_, rfl, fun w2 _ => ?_⟩
          rw [if_neg hac, show e - at_ = 0 by omega]
          exact .inl ⟨rfl, _, 0, rfl, fun h => by cases h⟩
      have hcat : 34 :: bodyL (l.take at_) ++ sub l at_ e = 34 :: bodyL (l.take e) := by rw [hrun]; rfl
      by_cases hac : at_ < capv
      · have hacI : (at_ : Int) < (capv : Int) := by omega
        rw [if_pos hac] at hsv
        subst hsv
        have HO : Hid ((34 :: bodyL (l.take at_)).length + (e - at_) ≤ 140737488355328) := by show _ ≤ _; omega
        by_cases hfin : e = l.length
        · have hfI : ((e : Int) == (l.length : Int)) = true := by rw [hfin]; simp
          have hq : 34 :: bodyL (l.take e) ++ [34] = quoteL l := by rw [hfin, List.take_length]; rfl
          have HF : Hid ((34 :: bodyL (l.take e)).length + 1 ≤ 140737488355328) := by
            show _ ≤ _
            have := body_len (l.take e)
            rw [List.length_take] at this
            simp; omega
          clear hend hrun hbl hol hfin hal hae hel
          go_wp2_with (first | (go_at_call 18; refine g1.mono ?_; rintro r w2 ⟨rfl, hb2⟩; have hown2 := own_below hown hb2; have hbb := bl_t hbel hb2; have hs2 := hsr _ hbb) | (at_builtin; refine wpList_append_row rfl (.tmp 16) (.tmp 20) rfl _ _ _ _ rfl hown2 _ (e - at_) (bx (sub l at_ e)) rfl hs2 ?_ ?_ ?_))
          · exact HO.out
          · exact hbb.size
          · intro v3 w3 hown3 hgrow3
            have hb3 := hbb.grown hgrow3 hbb.size (fun j hj => (hown2.lt j hj).1)
            have own3 := own_cat rfl hsl.symm hown3
            rw [hcat] at own3
            have own4 := own3.alloc (.cells #[.int .u8 34] 5)
            have hR4 := row_ws w3 [34] 5 (by decide)
            have hbb3 := bl_a hb3 (.cells #[.int .u8 34] 5)
            clear hown2 hs2 hgrow3 hown3 own3 hown
            go_wp2_with (at_builtin; refine wpList_append_row rfl (.tmp 26) (.tmp 27) rfl _ _ _ _ rfl own4 _ 1 (bx [34]) rfl hR4 ?_ ?_ ?_)
            · exact HF.out
            · exact hbb3.size
            · intro v5 w5 hown5 hgrow5
              have hb5 := hbb3.grown hgrow5 hbb3.size (fun j hj => (own4.lt j hj).1)
              have own5 := own_cat (b := [34]) (m := 1) rfl rfl hown5
              rw [hq] at own5
              have hconv := conv_list w5 v5 _ (own_byt own5)
              clear own4 hR4 hgrow5 hown5 own5
              go_wp2
              go_ret
              exact ⟨rfl, hb5⟩
        · have hlt : e < l.length := by omega
          have hltI : (e : Int) < (l.length : Int) := by omega
          have hnI : ((e : Int) == (l.length : Int)) = false := beq_eq_false_iff_ne.2 (by omega)
          rw [hasAt_in _ hlt] at hend
          have hst := body_step hlt hend
          have g2 := fun w => escaped_any l[e] (by rw [bx_at hlt]; exact hend) w
          rw [bx_at hlt] at g2
          have hcell := hLb.cell e hlt
          have hcb2 := cell_lt hcell
          have hcat2 : 34 :: bodyL (l.take e) ++ escOne l[e] = 34 :: bodyL (l.take (e + 1)) := by rw [hst]; rfl
          have hel6 := escOne_len l[e]
          generalize escOne l[e] = ec at *
          generalize bx l e = cc at *
          have HF : Hid ((34 :: bodyL (l.take e)).length + ec.length ≤ 140737488355328) := by
            show _ ≤ _
            have := body_len (l.take e)
            rw [List.length_take] at this
            simp; omega
          clear hend hrun hbl hol hst hal hae hel hel6
          go_wp2_with (first | (go_at_call 18; refine g1.mono ?_; rintro r w2 ⟨rfl, hb2⟩; have hown2 := own_below hown hb2; have hbb := bl_t hbel hb2; have hs2 := hsr _ hbb) | (at_builtin; refine wpList_append_row rfl (.tmp 16) (.tmp 20) rfl _ _ _ _ rfl hown2 _ (e - at_) (bx (sub l at_ e)) rfl hs2 ?_ ?_ ?_))
          · exact HO.out
          · exact hbb.size
          · intro v3 w3 hown3 hgrow3
            have hb3 := hbb.grown hgrow3 hbb.size (fun j hj => (hown2.lt j hj).1)
            have own3 := own_cat rfl hsl.symm hown3
            rw [hcat] at own3
            have hcell3 : w3.cell? ⟨bb, off + e, none⟩ = some (.int .u8 cc) := by rw [hb3.cell hcb2]; exact hcell
            clear hown2 hs2 hgrow3 hown3 hown hcell
            go_wp2_with (first | (go_at_call 39; refine (g2 _).mono ?_; rintro r w4 ⟨rfl, q, rfl⟩; have own4 := own_below own3 (bl_n (Below.refl _ _) q); have hbb4 := bl_n hb3 q) | (at_builtin; refine Lib.wpList_append_own_string _ rfl (.tmp 30) (.tmp 35) 22 9 rfl _ 5 i0 Tryd.underlying22 Tryd.underlying9 hi0 hz0 hz1 hz2 _ _ _ rfl own4 ⟨ec.toArray⟩ rfl ?_ ?_ ?_ ?_))
            · have := HF.out; unfold maxLen; simp [ByteArray.size]; simp at this; omega
            · have := HF.out; simpa [ByteArray.size] using this
            · exact hbb4.size
            · intro v5 w5 hown5 hgrow5 _
              have hb5 := hbb4.grown hgrow5 hbb4.size (fun j hj => (own4.lt j hj).1)
              have own5 := own_str rfl hown5
              rw [hcat2] at own5
              clear own4 hgrow5 hown5
              go_wp2
              go_roundw
              case rel => exact ⟨e + 1, by go_num, by omega, own5, hb5⟩
              case measure => simp [intOf]; omega
      · have he2 : e = at_ := by omega
        rw [if_neg hac] at hsv
        subst hsv
        have hac2 : capv = at_ := by omega
        subst he2
        subst hac2
        rw [Nat.sub_self] at hsr hsl
        have HO : Hid ((34 :: bodyL (l.take capv)).length + 0 ≤ 140737488355328) := by show _ ≤ _; omega
        have hfin : capv = l.length := by omega
        have hfI : ((capv : Int) == (l.length : Int)) = true := by rw [hfin]; simp
        have hq : 34 :: bodyL (l.take capv) ++ [34] = quoteL l := by rw [hfin, List.take_length]; rfl
        have HF : Hid ((34 :: bodyL (l.take capv)).length + 1 ≤ 140737488355328) := by
          show _ ≤ _
          have := body_len (l.take capv)
          rw [List.length_take] at this
          simp; omega
        clear hend hrun hbl hol hfin hal hae hel
        go_wp2_with (first | (go_at_call 18; refine g1.mono ?_; rintro r w2 ⟨rfl, hb2⟩; have hown2 := own_below hown hb2; have hbb := bl_t hbel hb2; have hs2 := hsr _ hbb) | (at_builtin; refine wpList_append_row rfl (.tmp 16) (.tmp 20) rfl _ _ _ _ rfl hown2 _ 0 (bx (sub l capv capv)) rfl hs2 ?_ ?_ ?_))
        · exact HO.out
        · exact hbb.size
        · intro v3 w3 hown3 hgrow3
          have hb3 := hbb.grown hgrow3 hbb.size (fun j hj => (hown2.lt j hj).1)
          have own3 := own_cat rfl hsl.symm hown3
          rw [hcat] at own3
          have own4 := own3.alloc (.cells #[.int .u8 34] 5)
          have hR4 := row_ws w3 [34] 5 (by decide)
          have hbb3 := bl_a hb3 (.cells #[.int .u8 34] 5)
          clear hown2 hs2 hgrow3 hown3 own3 hown
          go_wp2_with (at_builtin; refine wpList_append_row rfl (.tmp 26) (.tmp 27) rfl _ _ _ _ rfl own4 _ 1 (bx [34]) rfl hR4 ?_ ?_ ?_)
          · exact HF.out
          · exact hbb3.size
          · intro v5 w5 hown5 hgrow5
            have hb5 := hbb3.grown hgrow5 hbb3.size (fun j hj => (own4.lt j hj).1)
            have own5 := own_cat (b := [34]) (m := 1) rfl rfl hown5
            rw [hq] at own5
            have hconv := conv_list w5 v5 _ (own_byt own5)
            clear own4 hR4 hgrow5 hown5 own5
            go_wp2
            go_ret
            exact ⟨rfl, hb5⟩
end Go.Proofs.YtpeoepcfiejpmaaDoor
