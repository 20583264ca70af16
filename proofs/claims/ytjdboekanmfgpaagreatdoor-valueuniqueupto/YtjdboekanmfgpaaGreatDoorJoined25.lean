/-
  What lex.text answers: what a string stands for, or where it is bad. Conditions: the bytes lie in memory, at most 2^45 of them; the table of greatest code points holds its four numbers.
-/
import Derived.Test.YtjdboekanmfgpaaGreatDoorJoined13
namespace Go.Proofs.YtjdboekanmfgpaaGreatDoor.Lx
open Go.RowKit
attribute [local go_sem] setCell_drewN alloc_drewN

theorem own_cat {w : World} {base : Nat} {v : Value} {a b : List UInt8} {n m : Nat} (hn : n = a.length) (hm : m = b.length) (h : w.ownsRow base 5 1 v (n + m) (cellsL a ++ vals m (bx b))) : w.ownsRow base 5 1 v (a ++ b).length (cellsL (a ++ b)) := by
 subst hn hm
 rw [vals_bx, cells_cat] at h
 rw [List.length_append]
 exact h
theorem byt_row {w : World} {v : Value} {t : List UInt8} {m : Nat} (h : Byt w v t) (hm : t.length = m) : Row w v m (bx t) := by
 subst hm
 exact h

set_option maxRecDepth 100000 in
set_option maxHeartbeats 12800000 in
theorem text_any (l : List UInt8) (i : Nat) (v : Value) (w : World) (hT : Tab w) (hB : Byt w v l) (hi : i < l.length) (hm : l.length ≤ 140737488351232) :
  Calls Tryz.prog 179 #[v, .int .i64 i] w fun r w' => r = .returned (tkV (textL l i)) ∧ Below w.heap.size w w' := by
 have hiI : (i : Int) ≤ 140737488351232 := by omega
 have hw0 : Below w.heap.size w (w.alloc (.cells #[.int .i64 0, .string ⟨#[]⟩, .int .i64 0, .int .i64 0] 120)) := bl_a (Below.refl _ _) _
 have hB0 : Byt (w.alloc (.cells #[.int .i64 0, .string ⟨#[]⟩, .int .i64 0, .int .i64 0] 120)) v l := hB.below hw0
 have hT0 : Tab (w.alloc (.cells #[.int .i64 0, .string ⟨#[]⟩, .int .i64 0, .int .i64 0] 120)) := hT.below hw0
 obtain ⟨bb, off, capv, ev, hcb, hmb, hLb⟩ : ∃ bb off cap, v = .slice (some ⟨bb, off, none⟩) l.length cap ∧ l.length ≤ cap ∧ cap ≤ maxLen ∧ Lies (w.alloc (.cells #[.int .i64 0, .string ⟨#[]⟩, .int .i64 0, .int .i64 0] 120)) bb off l.length (bx l) := by
  rcases hB0 with ⟨h, _⟩ | h
  ·omega
  ·exact h
 subst ev
 have hcI : (capv : Int) ≤ 9223372036854775807 := by unfold maxLen at hmb; omega
 have hcI2 : (l.length : Int) ≤ (capv : Int) := by omega
 have hlI : (l.length : Int) ≤ 140737488351232 := by omega
 go_enter Tryz.func179, Tryz.ntmps179
 go_wp2_with fail
 go_loopw [6, 7] (fun u t wr => ∃ (f at_ : Nat) (out : List UInt8), t = .int .i64 (at_ : Int) ∧ at_ ≤ l.length ∧ l.length < at_ + f ∧ out.length ≤ at_ ∧ wr.ownsRow (w.heap.size + 1) 5 1 u out.length (cellsL out) ∧ Hid (textF l i f at_ out = textL l i) ∧ Below (w.alloc (.cells #[.int .i64 0, .string ⟨#[]⟩, .int .i64 0, .int .i64 0] 120)).heap.size (w.alloc (.cells #[.int .i64 0, .string ⟨#[]⟩, .int .i64 0, .int .i64 0] 120)) wr) (fun _ t _ => l.length - (intOf t).toNat)
 case atStart => exact ⟨l.length + 1, i + 1, [], by go_num, by omega, by omega, by simp, World.ownsRow_nil _ _ _ _, rfl, Below.refl _ _⟩
 case round =>
  obtain ⟨f, at_, out, rfl, hal, hf, ho, hown, HP, hbel⟩ := hrel
  obtain ⟨f, rfl⟩ : ∃ g, f = g + 1 := ⟨f - 1, by omega⟩
  have haI : (at_ : Int) ≤ (l.length : Int) := by omega
  have g1 := plain_any l at_ _ wr (hT0.below hbel) (hB0.below hbel) (by omega) hal hm
  cases hp : plainL l at_ with
  | error n =>
   rw [hp] at g1
   simp only [plV, errV] at g1
   have HR : Hid (textL l i = .error n) := by show _ = _; rw [← HP.out, textF, hp]
   clear hp HP hLb hmb
   go_wp2_with (go_at_call 197; refine g1.mono ?_; rintro r w2 ⟨rfl, hb2⟩; obtain ⟨kc, kf, kz⟩ := keepT (bl_t hbel hb2))
   refine bodyPost_ret (v := .tuple #[tokV ⟨0, [], 0, 0⟩, errV n]) ?_ rfl ?_
   all_goals first | (exact ⟨by rw [HR.out]; rfl, (by with_reducible repeat (first | exact Below.refl _ _ | refine bl_t ?_ (bl_t hbel hb2) | refine bl_a ?_ _ | refine bl_s ?_ (by omega) _))⟩) | (simp [results, Tryz.results179, go_sem, tokV, errV, kc])
  | ok e =>
   rw [hp] at g1
   simp only [plV] at g1
   have hae := (plainL_le hp).2.1
   have hel := (plainL_le hp).2.2 hal
   have haeI : (at_ : Int) ≤ (e : Int) := by omega
   have heI : (e : Int) ≤ (capv : Int) := by omega
   have heI2 : (e : Int) ≤ 140737488351232 := by omega
   by_cases hac : at_ < capv
   ·have hacI : (at_ : Int) < (capv : Int) := by omega
    have hs := Byt.below (byt_sub hLb hcb hmb hae hel) hbel
    have hsl := sub_length (l := l) hae hel
    cases hq : hasAt l e (· == 34)
    ·have s1 := fun (w' : World) (b' : Nat) (hk : w'.heap.size = b') (hb : Byt w' (.slice (some ⟨bb, off, none⟩) l.length capv) l) => (show Calls Tryz.prog 194 #[(.slice (some ⟨bb, off, none⟩) l.length capv), .int .i64 (e : Int), .slice (some ⟨b', 0, none⟩) 1 1] (w'.alloc (.cells #[.int .u8 34] 5)) fun r w2 => r = .returned (.bool false) ∧ w2 = w'.alloc (.cells #[.int .u8 34] 5) from stands_ws l e (.slice (some ⟨bb, off, none⟩) l.length capv) [34] #[.int .u8 34] 1 (· == 34) false w' rfl rfl (by decide) b' hk hb (by omega) (by omega) (fun c => by simp) (by assumption))
     cases hx : escapeL l e with
     | error n =>
      have HR : Hid (textL l i = .error n) := by show _ = _; rw [← HP.out, textF, hp]; simp only [hq, hx, Bool.false_eq_true, if_false]
      have g2 := fun w' (hb : Below (w.alloc (.cells #[.int .i64 0, .string ⟨#[]⟩, .int .i64 0, .int .i64 0] 120)).heap.size (w.alloc (.cells #[.int .i64 0, .string ⟨#[]⟩, .int .i64 0, .int .i64 0] 120)) w') => escape_any l e _ w' (hT0.below hb) (hB0.below hb) hel (by omega)
      rw [hx] at g2
      simp only [bpPost, errV] at g2
      clear hp HP hx hq
      go_wp2_with (first | (go_at_call 197; refine g1.mono ?_; rintro r w2 ⟨rfl, hb2⟩; have hown2 := own_below hown hb2; have hs2 := byt_row (Byt.below hs hb2) hsl; have hbb := bl_t hbel hb2) | (at_builtin; refine wpList_append_row rfl (.tmp 23) (.tmp 27) rfl _ _ _ _ rfl hown2 _ (e - at_) (bx (sub l at_ e)) rfl hs2 ?_ ?_ ?_))
      ·omega
      ·have := hbb.size; simpa using this
      ·intro v' w3 hown3 hgrow3
       have hb3 := hbb.grown hgrow3 hbb.size (fun j hj => by have := (hown2.lt j hj).1; simpa using this)
       have hB3 := hB0.below hb3
       clear hown2 hs2 hgrow3 hown3
       go_wp2_with (first | (go_at_call 194; with_reducible refine (s1 _ _ rfl hB3).mono ?_; rintro r w4 ⟨rfl, rfl⟩) | (go_at_call 198; refine (g2 _ (bl_a hb3 _)).mono ?_; rintro r w5 ⟨rfl, hb5⟩; obtain ⟨kc, kf, kz⟩ := keepT (bl_t (bl_a hb3 _) hb5)))
       refine bodyPost_ret (v := .tuple #[tokV ⟨0, [], 0, 0⟩, errV n]) ?_ rfl ?_
       all_goals first | (exact ⟨by rw [HR.out]; rfl, (by with_reducible repeat (first | exact Below.refl _ _ | refine bl_t ?_ (bl_t (bl_a hb3 _) hb5) | refine bl_a ?_ _ | refine bl_s ?_ (by omega) _))⟩) | (simp [results, Tryz.results179, go_sem, tokV, errV, kc])
     | ok r =>
      obtain ⟨m, k⟩ := r
      obtain ⟨xk, xl, xt⟩ := escapeL_le hx
      have HR : Hid (textF l i f k (out ++ sub l at_ e ++ m) = textL l i) := by show _ = _; rw [← HP.out, textF, hp]; simp only [hq, hx, Bool.false_eq_true, if_false]
      have g2 := fun w' (hb : Below (w.alloc (.cells #[.int .i64 0, .string ⟨#[]⟩, .int .i64 0, .int .i64 0] 120)).heap.size (w.alloc (.cells #[.int .i64 0, .string ⟨#[]⟩, .int .i64 0, .int .i64 0] 120)) w') => escape_any l e _ w' (hT0.below hb) (hB0.below hb) hel (by omega)
      rw [hx] at g2
      simp only [bpPost] at g2
      clear hp HP hx hq
      go_wp2_with (first | (go_at_call 197; refine g1.mono ?_; rintro r w2 ⟨rfl, hb2⟩; have hown2 := own_below hown hb2; have hs2 := byt_row (Byt.below hs hb2) hsl; have hbb := bl_t hbel hb2) | (at_builtin; refine wpList_append_row rfl (.tmp 23) (.tmp 27) rfl _ _ _ _ rfl hown2 _ (e - at_) (bx (sub l at_ e)) rfl hs2 ?_ ?_ ?_))
      ·omega
      ·have := hbb.size; simpa using this
      ·intro v' w3 hown3 hgrow3
       have hb3 := hbb.grown hgrow3 hbb.size (fun j hj => by have := (hown2.lt j hj).1; simpa using this)
       have hB3 := hB0.below hb3
       have own3 := own_cat rfl hsl.symm hown3
       have ol : (out ++ sub l at_ e).length = out.length + (e - at_) := by rw [List.length_append, hsl]
       generalize out ++ sub l at_ e = out2 at *
       clear hown2 hs2 hgrow3 hown3
       go_wp2_with (first | (go_at_call 194; with_reducible refine (s1 _ _ rfl hB3).mono ?_; rintro r w4 ⟨rfl, rfl⟩) | (go_at_call 198; refine (g2 _ (bl_a hb3 _)).mono ?_; rintro r w5 ⟨⟨v5, rfl, hv5⟩, hb5⟩; have own5 := own_below (own3.alloc _) hb5; have hb55 := bl_t (bl_a hb3 _) hb5) | (at_builtin; refine wpList_append_row rfl (.tmp 50) (.tmp 51) rfl _ _ _ _ rfl own5 _ m.length (bx m) rfl hv5 ?_ ?_ ?_))
       ·omega
       ·have := hb55.size; simpa using this
       ·intro v6 w6 hown6 hgrow6
        have hb6 := hb55.grown hgrow6 hb55.size (fun j hj => by have := (own5.lt j hj).1; simpa using this)
        have own6 := own_cat ol.symm rfl hown6
        clear own5 hgrow6 hown6 hv5
        go_wp2
        go_roundw
        case rel => exact ⟨f, k, out2 ++ m, rfl, xl, by omega, by rw [List.length_append]; omega, own6, HR, hb6⟩
        case measure => simp [intOf]; omega
    ·have s1 := fun (w' : World) (b' : Nat) (hk : w'.heap.size = b') (hb : Byt w' (.slice (some ⟨bb, off, none⟩) l.length capv) l) => (show Calls Tryz.prog 194 #[(.slice (some ⟨bb, off, none⟩) l.length capv), .int .i64 (e : Int), .slice (some ⟨b', 0, none⟩) 1 1] (w'.alloc (.cells #[.int .u8 34] 5)) fun r w2 => r = .returned (.bool true) ∧ w2 = w'.alloc (.cells #[.int .u8 34] 5) from stands_ws l e (.slice (some ⟨bb, off, none⟩) l.length capv) [34] #[.int .u8 34] 1 (· == 34) true w' rfl rfl (by decide) b' hk hb (by omega) (by omega) (fun c => by simp) (by assumption))
     have HR : Hid (textL l i = .ok ⟨1, out ++ sub l at_ e, i, e + 1⟩) := by show _ = _; rw [← HP.out, textF, hp]; simp only [hq, if_true]
     clear hp HP hq
     go_wp2_with (first | (go_at_call 197; refine g1.mono ?_; rintro r w2 ⟨rfl, hb2⟩; have hown2 := own_below hown hb2; have hs2 := byt_row (Byt.below hs hb2) hsl; have hbb := bl_t hbel hb2) | (at_builtin; refine wpList_append_row rfl (.tmp 23) (.tmp 27) rfl _ _ _ _ rfl hown2 _ (e - at_) (bx (sub l at_ e)) rfl hs2 ?_ ?_ ?_))
     ·omega
     ·have := hbb.size; simpa using this
     ·intro v' w3 hown3 hgrow3
      have hb3 := hbb.grown hgrow3 hbb.size (fun j hj => by have := (hown2.lt j hj).1; simpa using this)
      have hB3 := hB0.below hb3
      have own3 := own_cat rfl hsl.symm hown3
      have hconv := conv_list (w3.alloc (.cells #[.int .u8 34] 5)) v' _ (own_byt (own3.alloc _))
      obtain ⟨kc, kf, kz⟩ := keepT (bl_a hb3 (.cells #[.int .u8 34] 5))
      generalize out ++ sub l at_ e = out2 at *
      clear hown2 hs2 hgrow3 hown3
      go_wp2_with (go_at_call 194; with_reducible refine (s1 _ _ rfl hB3).mono ?_; rintro r w4 ⟨rfl, rfl⟩)
      refine bodyPost_ret (v := .tuple #[tokV ⟨1, out2, i, e + 1⟩, .nilIface]) ?_ rfl ?_
      all_goals first | (exact ⟨by rw [HR.out]; rfl, (by with_reducible repeat (first | exact Below.refl _ _ | refine bl_t ?_ hb3 | refine bl_a ?_ _ | refine bl_s ?_ (by omega) _))⟩) | (simp [results, Tryz.results179, go_sem, tokV, kc])
   ·have hac2 : at_ = capv := by omega
    have he2 : at_ = e := by omega
    subst he2
    subst hac2
    have hout : ¬ at_ < l.length := by omega
    have hq : hasAt l at_ (· == 34) = false := hasAt_out _ hout
    have hx : escapeL l at_ = .error (at_ + 1) := by simp [escapeL, hasAt_out _ hout]
    have s1 := fun (w' : World) (b' : Nat) (hk : w'.heap.size = b') (hb : Byt w' (.slice (some ⟨bb, off, none⟩) l.length at_) l) => (show Calls Tryz.prog 194 #[(.slice (some ⟨bb, off, none⟩) l.length at_), .int .i64 (at_ : Int), .slice (some ⟨b', 0, none⟩) 1 1] (w'.alloc (.cells #[.int .u8 34] 5)) fun r w2 => r = .returned (.bool false) ∧ w2 = w'.alloc (.cells #[.int .u8 34] 5) from stands_ws l at_ (.slice (some ⟨bb, off, none⟩) l.length at_) [34] #[.int .u8 34] 1 (· == 34) false w' rfl rfl (by decide) b' hk hb (by omega) (by omega) (fun c => by simp) (by assumption))
    have HR : Hid (textL l i = .error (at_ + 1)) := by show _ = _; rw [← HP.out, textF, hp]; simp only [hq, hx, Bool.false_eq_true, if_false]
    have g2 := fun w' (hb : Below (w.alloc (.cells #[.int .i64 0, .string ⟨#[]⟩, .int .i64 0, .int .i64 0] 120)).heap.size (w.alloc (.cells #[.int .i64 0, .string ⟨#[]⟩, .int .i64 0, .int .i64 0] 120)) w') => escape_any l at_ _ w' (hT0.below hb) (hB0.below hb) hel (by omega)
    rw [hx] at g2
    simp only [bpPost, errV] at g2
    have hs : ∀ w2 : World, Row w2 (.slice (some ⟨bb, off, none⟩) 0 0) 0 (fun _ => 0) := fun _ => .inl ⟨rfl, _, 0, rfl, fun h => by cases h⟩
    have ho2 : out.length ≤ 140737488351232 := by omega
    clear hp HP hx hq hout hac hal hf hel hae hcb
    go_wp2_with (first | (go_at_call 197; refine g1.mono ?_; rintro r w2 ⟨rfl, hb2⟩; have hown2 := own_below hown hb2; have hs2 := hs w2; have hbb := bl_t hbel hb2) | (at_builtin; refine wpList_append_row rfl (.tmp 23) (.tmp 27) rfl _ _ _ _ rfl hown2 _ 0 (fun _ => 0) rfl hs2 ?_ ?_ ?_))
    ·omega
    ·have := hbb.size; simpa using this
    ·intro v' w3 hown3 hgrow3
     have hb3 := hbb.grown hgrow3 hbb.size (fun j hj => by have := (hown2.lt j hj).1; simpa using this)
     have hB3 := hB0.below hb3
     clear hown2 hs2 hgrow3 hown3
     go_wp2_with (first | (go_at_call 194; with_reducible refine (s1 _ _ rfl hB3).mono ?_; rintro r w4 ⟨rfl, rfl⟩) | (go_at_call 198; refine (g2 _ (bl_a hb3 _)).mono ?_; rintro r w5 ⟨rfl, hb5⟩; obtain ⟨kc, kf, kz⟩ := keepT (bl_t (bl_a hb3 _) hb5)))
     refine bodyPost_ret (v := .tuple #[tokV ⟨0, [], 0, 0⟩, errV (at_ + 1)]) ?_ rfl ?_
     all_goals first | (exact ⟨by rw [HR.out]; rfl, (by with_reducible repeat (first | exact Below.refl _ _ | refine bl_t ?_ (bl_t (bl_a hb3 _) hb5) | refine bl_a ?_ _ | refine bl_s ?_ (by omega) _))⟩) | (simp [results, Tryz.results179, go_sem, tokV, errV, kc])
end Go.Proofs.YtjdboekanmfgpaaGreatDoor.Lx
