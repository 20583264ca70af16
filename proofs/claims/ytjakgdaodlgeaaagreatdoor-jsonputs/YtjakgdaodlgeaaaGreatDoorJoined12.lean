/-
  What lex.plain answers, and what is held against lex.text. Conditions: the bytes lie in memory, at most 2^45 of them; the table of greatest code points holds its four numbers.
  What lex.text answers: what a string stands for, or where it is bad. Conditions: the bytes lie in memory, at most 2^45 of them; the table of greatest code points holds its four numbers.
-/
import Derived.Test.YtjakgdaodlgeaaaGreatDoorJoined11
namespace Go.Proofs.YtjakgdaodlgeaaaGreatDoor.Lx
open Go.RowKit
attribute [local go_sem] setCell_drewN alloc_drewN

def goodL (t : List UInt8) : Nat × Bool := good t.length (bx t)
theorem goodF_le (len : Nat) (f : Nat → Int) (k : Nat) : ∀ p, p ≤ len → (goodF len f k p).1 ≤ len := by
 induction k with
 | zero => exact fun p h => h
 | succ k ih =>
  intro p h
  unfold goodF
  split
  ·exact h
  ·have s := stepF_le (len - p) (fun i => f (p + i)) (by omega)
   split
   ·exact ih _ (by omega)
   ·show p + _ ≤ len; omega
theorem goodL_le (t : List UInt8) : (goodL t).1 ≤ t.length := goodF_le _ _ _ 0 (Nat.zero_le _)
def plainL (l : List UInt8) (i : Nat) : Pl := if (goodL (sub l i (pass l plainB i))).2 = true then .ok (pass l plainB i) else .error (i + (goodL (sub l i (pass l plainB i))).1 + 1)
set_option maxRecDepth 100000 in
set_option maxHeartbeats 800000 in
theorem plain_any (l : List UInt8) (i : Nat) (v : Value) (w : World) (hT : Tab w) (hB : Byt w v l) (h0 : 0 < l.length) (hi : i ≤ l.length) (hm : l.length ≤ 140737488351232) :
  Calls Tryz.prog 72 #[v, .int .i64 i] w fun r w' => r = .returned (plV (plainL l i)) ∧ Below w.heap.size w w' := by
 have g1 := passed_plain l i v w hB hi (by omega)
 have p1 := pass_ge l plainB i
 have p2 := pass_le (l := l) (p := plainB) hi
 rcases hB with ⟨h, _⟩ | ⟨b, off, cap, rfl, hc, hm', hL⟩
 ·omega
 ·by_cases hic : i < cap
  ·have g2 := fun w' (hb : Below w.heap.size w w') => good_any _ _ _ w' (hT.below hb) (Byt.below (byt_sub hL hc hm' p1 p2) hb)
   rw [sub_length p1 p2] at g2
   have ql := goodL_le (sub l i (pass l plainB i))
   rw [sub_length p1 p2] at ql
   have eg : good (pass l plainB i - i) (bx (sub l i (pass l plainB i))) = goodL (sub l i (pass l plainB i)) := by unfold goodL; rw [sub_length p1 p2]
   rw [eg] at g2
   unfold plainL
   generalize goodL (sub l i (pass l plainB i)) = q at *
   obtain ⟨n, ok⟩ := q
   simp only at g2 ql ⊢
   have g3 := fun w => badAt_any (i + n) w (by omega)
   rw [show ((i + n : Nat) : Int) = (i : Int) + (n : Int) by omega] at g3
   generalize pass l plainB i = e at *
   have haI : (i : Int) ≤ (e : Int) := by omega
   have hicI : (i : Int) < (cap : Int) := by omega
   have heI : (e : Int) ≤ (cap : Int) := by omega
   have hnI : (n : Int) ≤ 140737488351232 := by omega
   have hiI : (i : Int) ≤ 140737488351232 := by omega
   unfold maxLen at hm'
   have hcI : (cap : Int) ≤ 9223372036854775807 := by omega
   clear hL eg hm hm' hc p1 p2 ql hi h0
   cases ok
   ·go_enter Tryz.func72, Tryz.ntmps72
    go_wp2_with (first | (go_at_call 28; refine g1.mono ?_; rintro r w2 ⟨rfl, hb2⟩) | (go_at_call 96; with_reducible refine (g2 _ hb2).mono ?_; rintro r w3 ⟨rfl, q, rfl⟩) | (go_at_call 48; refine (g3 _).mono ?_; rintro r w4 ⟨rfl, rfl⟩))
    go_ret2
    exact ⟨rfl, bl_n hb2 _⟩
   ·clear g3
    go_enter Tryz.func72, Tryz.ntmps72
    go_wp2_with (first | (go_at_call 28; refine g1.mono ?_; rintro r w2 ⟨rfl, hb2⟩) | (go_at_call 96; with_reducible refine (g2 _ hb2).mono ?_; rintro r w3 ⟨rfl, q, rfl⟩))
    go_ret2
    exact ⟨rfl, bl_n hb2 _⟩
  ·have ep : pass l plainB i = i := by omega
   have ei : i = cap := by omega
   have HR : Hid (plainL l i = .ok i) := by show _ = _; simp [plainL, ep, sub, goodL, good, goodF]
   rw [ep] at g1
   have g2 := fun w' (hb : Below w.heap.size w w') => good_any (.slice (some ⟨b, off, none⟩) 0 0) 0 (fun _ => 0) w' (hT.below hb) (.inl ⟨rfl, _, 0, rfl, fun h => by cases h⟩)
   simp only [good, goodF] at g2
   subst ei
   unfold maxLen at hm'
   have hcI : (i : Int) ≤ 9223372036854775807 := by omega
   clear hL hm hm' hc p1 p2 hi h0 ep hic
   go_enter Tryz.func72, Tryz.ntmps72
   go_wp2_with (first | (go_at_call 28; refine g1.mono ?_; rintro r w2 ⟨rfl, hb2⟩) | (go_at_call 96; with_reducible refine (g2 _ hb2).mono ?_; rintro r w3 ⟨rfl, q, rfl⟩))
   go_ret2
   exact ⟨r_pl (by rw [HR.out]; rfl), bl_n hb2 _⟩
theorem pointL_le {l : List UInt8} {i : Nat} {t : List UInt8} {k : Nat} (h : pointL l i = .ok (t, k)) : i + 4 ≤ k ∧ (i ≤ l.length → k ≤ l.length) ∧ t.length ≤ 4 := by
 unfold pointL at h
 cases hu : unitL l false i with
 | error n => rw [hu] at h; cases h
 | ok r =>
  rw [hu] at h
  simp only at h
  have a := unitL_le hu
  split at h
  ·rename_i g
   cases hp : pairL l r.2 r.1 with
   | error n => rw [hp] at h; cases h
   | ok q =>
    rw [hp] at h
    have b := pairL_le hp g.1 g.2
    obtain ⟨rfl, rfl⟩ := Prod.mk.inj (Except.ok.inj h)
    have c := encN_le (q.1 : Int)
    rw [encL_length]
    exact ⟨by omega, fun hi => b.2.2.2 (a.2 hi), c.2⟩
  ·obtain ⟨rfl, rfl⟩ := Prod.mk.inj (Except.ok.inj h)
   have c := encN_le (r.1 : Int)
   rw [encL_length]
   exact ⟨by omega, a.2, c.2⟩
theorem escapeL_le {l : List UInt8} {i : Nat} {t : List UInt8} {k : Nat} (h : escapeL l i = .ok (t, k)) : i + 2 ≤ k ∧ k ≤ l.length ∧ i + t.length ≤ k := by
 unfold escapeL at h
 split at h
 ·rename_i g
  have g1 := hasAt_lt g
  split at h
  ·rename_i g2
   have g3 := hasAt_lt g2
   have a := pointL_le h
   exact ⟨by omega, a.2.1 (by omega), by omega⟩
  ·split at h
   ·rename_i g2
    have g3 := hasAt_lt g2
    cases h
    exact ⟨by omega, by omega, by simp⟩
   ·cases h
 ·cases h
def textF (l : List UInt8) (fr : Nat) : Nat → Nat → List UInt8 → Tk
 | 0, i, _ => .error (i + 1)
 | f + 1, i, out =>
  match plainL l i with
  | .error n => .error n
  | .ok e => if hasAt l e (· == 34) = true then .ok ⟨1, out ++ sub l i e, fr, e + 1⟩ else
   match escapeL l e with
   | .error n => .error n
   | .ok r => textF l fr f r.2 (out ++ sub l i e ++ r.1)
def textL (l : List UInt8) (i : Nat) : Tk := textF l i (l.length + 1) (i + 1) []
theorem plainL_le {l : List UInt8} {i e : Nat} (h : plainL l i = .ok e) : e = pass l plainB i ∧ i ≤ e ∧ (i ≤ l.length → e ≤ l.length) := by
 unfold plainL at h
 split at h
 ·cases h; exact ⟨rfl, pass_ge _ _ _, pass_le⟩
 ·cases h
def cellsL (t : List UInt8) : List Value := t.map fun c => .int .u8 (c.toNat : Nat)
theorem cells_cat (a b : List UInt8) : cellsL a ++ cellsL b = cellsL (a ++ b) := by simp [cellsL]
theorem vals_bx (t : List UInt8) : vals t.length (bx t) = cellsL t := by
 apply List.ext_getElem?
 intro i
 by_cases h : i < t.length
 ·rw [vals_at _ _ _ h]; simp [cellsL, bx, h]
 ·rw [List.getElem?_eq_none (by rw [vals_length]; omega), List.getElem?_eq_none (by simp [cellsL]; omega)]
theorem own_below {w w' : World} {base : Nat} {e : TypeId} {size : Nat} {v : Value} {n : Nat} {xs : List Value} (h : w.ownsRow base e size v n xs) (hb : Below w.heap.size w w') : w'.ownsRow base e size v n xs := by
 refine ⟨h.1, ?_⟩
 rcases h.2 with h2 | ⟨g, cap, cur, rfl, h3, h4, h5⟩
 ·exact .inl h2
 ·refine .inr ⟨g, cap, cur, rfl, h3, ?_, h5⟩
  have hlt : g < w.heap.size := by
   by_cases z : g < w.heap.size
   ·exact z
   ·rw [Array.getElem?_eq_none (by omega)] at h4; cases h4
  rw [hb.block g hlt]; exact h4
theorem own_byt {w : World} {base : Nat} {v : Value} {t : List UInt8} (h : w.ownsRow base 5 1 v t.length (cellsL t)) : Byt w v t := by
 rw [← vals_bx] at h
 exact Row.of_own (bx_lo t) (bx_hi t) h
end Go.Proofs.YtjakgdaodlgeaaaGreatDoor.Lx

namespace Go.Proofs.YtjakgdaodlgeaaaGreatDoor.Lx
open Go.RowKit
attribute [local go_sem] setCell_drewN alloc_drewN

theorem own_cat {w : World} {base : Nat} {v : Value} {a b : List UInt8} {n m : Nat} (hn : n = a.length) (hm : m = b.length) (h : w.ownsRow base 5 1 v (n + m) (cellsL a ++ vals m (bx b))) : w.ownsRow base 5 1 v (a ++ b).length (cellsL (a ++ b)) := by
 subst hn hm
 rw [vals_bx, cells_cat] at h
 rw [List.length_append]
 exact h
theorem byt_row {w : World} {v : Value} {t : List UInt8} {m : Nat} (h : Byt w v t) (hm : t.length = m) : Row w v m (bx t) := by
 subst hm
 exact h
set_option maxRecDepth 100000 in
set_option maxHeartbeats 12800000 in
theorem text_any (l : List UInt8) (i : Nat) (v : Value) (w : World) (hT : Tab w) (hB : Byt w v l) (hi : i < l.length) (hm : l.length ≤ 140737488351232) :
  Calls Tryz.prog 47 #[v, .int .i64 i] w fun r w' => r = .returned (tkV (textL l i)) ∧ Below w.heap.size w w' := by
 have hiI : (i : Int) ≤ 140737488351232 := by omega
 have hw0 : Below w.heap.size w (w.alloc (.cells #[.int .i64 0, .string ⟨#[]⟩, .int .i64 0, .int .i64 0] 50)) := bl_a (Below.refl _ _) _
 have hB0 : Byt (w.alloc (.cells #[.int .i64 0, .string ⟨#[]⟩, .int .i64 0, .int .i64 0] 50)) v l := hB.below hw0
 have hT0 : Tab (w.alloc (.cells #[.int .i64 0, .string ⟨#[]⟩, .int .i64 0, .int .i64 0] 50)) := hT.below hw0
 obtain ⟨bb, off, capv, ev, hcb, hmb, hLb⟩ : ∃ bb off cap, v = .slice (some ⟨bb, off, none⟩) l.length cap ∧ l.length ≤ cap ∧ cap ≤ maxLen ∧ Lies (w.alloc (.cells #[.int .i64 0, .string ⟨#[]⟩, .int .i64 0, .int .i64 0] 50)) bb off l.length (bx l) := by
  rcases hB0 with ⟨h, _⟩ | h
  ·omega
  ·exact h
 subst ev
 have hcI : (capv : Int) ≤ 9223372036854775807 := by unfold maxLen at hmb; omega
 have hcI2 : (l.length : Int) ≤ (capv : Int) := by omega
 have hlI : (l.length : Int) ≤ 140737488351232 := by omega
 go_enter Tryz.func47, Tryz.ntmps47
 go_wp2_with fail
 go_loopw [6, 7] (fun u t wr => ∃ (f at_ : Nat) (out : List UInt8), t = .int .i64 (at_ : Int) ∧ at_ ≤ l.length ∧ l.length < at_ + f ∧ out.length ≤ at_ ∧ wr.ownsRow (w.heap.size + 1) 5 1 u out.length (cellsL out) ∧ Hid (textF l i f at_ out = textL l i) ∧ Below (w.alloc (.cells #[.int .i64 0, .string ⟨#[]⟩, .int .i64 0, .int .i64 0] 50)).heap.size (w.alloc (.cells #[.int .i64 0, .string ⟨#[]⟩, .int .i64 0, .int .i64 0] 50)) wr) (fun _ t _ => l.length - (intOf t).toNat)
 case atStart => exact ⟨l.length + 1, i + 1, [], by go_num, by omega, by omega, by simp, World.ownsRow_nil _ _ _ _, rfl, Below.refl _ _⟩
 case round =>
  obtain ⟨f, at_, out, rfl, hal, hf, ho, hown, HP, hbel⟩ := hrel
  obtain ⟨f, rfl⟩ : ∃ g, f = g + 1 := ⟨f - 1, by omega⟩
  have haI : (at_ : Int) ≤ (l.length : Int) := by omega
  have g1 := plain_any l at_ _ wr (hT0.below hbel) (hB0.below hbel) (by omega) hal hm
  cases hp : plainL l at_ with
  | error n =>
   rw [hp] at g1
   simp only [plV, errV] at g1
   have HR : Hid (textL l i = .error n) := by show _ = _; rw [← HP.out, textF, hp]
   clear hp HP hLb hmb
   go_wp2_with (go_at_call 72; refine g1.mono ?_; rintro r w2 ⟨rfl, hb2⟩; obtain ⟨kc, kf, kz⟩ := keepT (bl_t hbel hb2))
   refine bodyPost_ret (v := .tuple #[tokV ⟨0, [], 0, 0⟩, errV n]) ?_ rfl ?_
   all_goals first | (exact ⟨by rw [HR.out]; rfl, (by with_reducible repeat (first | exact Below.refl _ _ | refine bl_t ?_ (bl_t hbel hb2) | refine bl_a ?_ _ | refine bl_s ?_ (by omega) _))⟩) | (simp [results, Tryz.results47, go_sem, tokV, errV, kc])
  | ok e =>
   rw [hp] at g1
   simp only [plV] at g1
   have hae := (plainL_le hp).2.1
   have hel := (plainL_le hp).2.2 hal
   have haeI : (at_ : Int) ≤ (e : Int) := by omega
   have heI : (e : Int) ≤ (capv : Int) := by omega
   have heI2 : (e : Int) ≤ 140737488351232 := by omega
   by_cases hac : at_ < capv
   ·have hacI : (at_ : Int) < (capv : Int) := by omega
    have hs := Byt.below (byt_sub hLb hcb hmb hae hel) hbel
    have hsl := sub_length (l := l) hae hel
    cases hq : hasAt l e (· == 34)
    ·have s1 := fun (w' : World) (b' : Nat) (hk : w'.heap.size = b') (hb : Byt w' (.slice (some ⟨bb, off, none⟩) l.length capv) l) => (show Calls Tryz.prog 69 #[(.slice (some ⟨bb, off, none⟩) l.length capv), .int .i64 (e : Int), .slice (some ⟨b', 0, none⟩) 1 1] (w'.alloc (.cells #[.int .u8 34] 5)) fun r w2 => r = .returned (.bool false) ∧ w2 = w'.alloc (.cells #[.int .u8 34] 5) from stands_ws l e (.slice (some ⟨bb, off, none⟩) l.length capv) [34] #[.int .u8 34] 1 (· == 34) false w' rfl rfl (by decide) b' hk hb (by omega) (by omega) (fun c => by simp) (by assumption))
     cases hx : escapeL l e with
     | error n =>
      have HR : Hid (textL l i = .error n) := by show _ = _; rw [← HP.out, textF, hp]; simp only [hq, hx, Bool.false_eq_true, if_false]
      have g2 := fun w' (hb : Below (w.alloc (.cells #[.int .i64 0, .string ⟨#[]⟩, .int .i64 0, .int .i64 0] 50)).heap.size (w.alloc (.cells #[.int .i64 0, .string ⟨#[]⟩, .int .i64 0, .int .i64 0] 50)) w') => escape_any l e _ w' (hT0.below hb) (hB0.below hb) hel (by omega)
      rw [hx] at g2
      simp only [bpPost, errV] at g2
      clear hp HP hx hq
      go_wp2_with (first | (go_at_call 72; refine g1.mono ?_; rintro r w2 ⟨rfl, hb2⟩; have hown2 := own_below hown hb2; have hs2 := byt_row (Byt.below hs hb2) hsl; have hbb := bl_t hbel hb2) | (at_builtin; refine wpList_append_row rfl (.tmp 23) (.tmp 27) rfl _ _ _ _ rfl hown2 _ (e - at_) (bx (sub l at_ e)) rfl hs2 ?_ ?_ ?_))
      ·omega
      ·have := hbb.size; simpa using this
      ·intro v' w3 hown3 hgrow3
       have hb3 := hbb.grown hgrow3 hbb.size (fun j hj => by have := (hown2.lt j hj).1; simpa using this)
       have hB3 := hB0.below hb3
       clear hown2 hs2 hgrow3 hown3
       go_wp2_with (first | (go_at_call 69; with_reducible refine (s1 _ _ rfl hB3).mono ?_; rintro r w4 ⟨rfl, rfl⟩) | (go_at_call 73; refine (g2 _ (bl_a hb3 _)).mono ?_; rintro r w5 ⟨rfl, hb5⟩; obtain ⟨kc, kf, kz⟩ := keepT (bl_t (bl_a hb3 _) hb5)))
       refine bodyPost_ret (v := .tuple #[tokV ⟨0, [], 0, 0⟩, errV n]) ?_ rfl ?_
       all_goals first | (exact ⟨by rw [HR.out]; rfl, (by with_reducible repeat (first | exact Below.refl _ _ | refine bl_t ?_ (bl_t (bl_a hb3 _) hb5) | refine bl_a ?_ _ | refine bl_s ?_ (by omega) _))⟩) | (simp [results, Tryz.results47, go_sem, tokV, errV, kc])
     | ok r =>
      obtain ⟨m, k⟩ := r
      obtain ⟨xk, xl, xt⟩ := escapeL_le hx
      have HR : Hid (textF l i f k (out ++ sub l at_ e ++ m) = textL l i) := by show _ = _; rw [← HP.out, textF, hp]; simp only [hq, hx, Bool.false_eq_true, if_false]
      have g2 := fun w' (hb : Below (w.alloc (.cells #[.int .i64 0, .string ⟨#[]⟩, .int .i64 0, .int .i64 0] 50)).heap.size (w.alloc (.cells #[.int .i64 0, .string ⟨#[]⟩, .int .i64 0, .int .i64 0] 50)) w') => escape_any l e _ w' (hT0.below hb) (hB0.below hb) hel (by omega)
      rw [hx] at g2
      simp only [bpPost] at g2
      clear hp HP hx hq
      go_wp2_with (first | (go_at_call 72; refine g1.mono ?_; rintro r w2 ⟨rfl, hb2⟩; have hown2 := own_below hown hb2; have hs2 := byt_row (Byt.below hs hb2) hsl; have hbb := bl_t hbel hb2) | (at_builtin; refine wpList_append_row rfl (.tmp 23) (.tmp 27) rfl _ _ _ _ rfl hown2 _ (e - at_) (bx (sub l at_ e)) rfl hs2 ?_ ?_ ?_))
      ·omega
      ·have := hbb.size; simpa using this
      ·intro v' w3 hown3 hgrow3
       have hb3 := hbb.grown hgrow3 hbb.size (fun j hj => by have := (hown2.lt j hj).1; simpa using this)
       have hB3 := hB0.below hb3
       have own3 := own_cat rfl hsl.symm hown3
       have ol : (out ++ sub l at_ e).length = out.length + (e - at_) := by rw [List.length_append, hsl]
       generalize out ++ sub l at_ e = out2 at *
       clear hown2 hs2 hgrow3 hown3
       go_wp2_with (first | (go_at_call 69; with_reducible refine (s1 _ _ rfl hB3).mono ?_; rintro r w4 ⟨rfl, rfl⟩) | (go_at_call 73; refine (g2 _ (bl_a hb3 _)).mono ?_; rintro r w5 ⟨⟨v5, rfl, hv5⟩, hb5⟩; have own5 := own_below (own3.alloc _) hb5; have hb55 := bl_t (bl_a hb3 _) hb5) | (at_builtin; refine wpList_append_row rfl (.tmp 50) (.tmp 51) rfl _ _ _ _ rfl own5 _ m.length (bx m) rfl hv5 ?_ ?_ ?_))
       ·omega
       ·have := hb55.size; simpa using this
       ·intro v6 w6 hown6 hgrow6
        have hb6 := hb55.grown hgrow6 hb55.size (fun j hj => by have := (own5.lt j hj).1; simpa using this)
        have own6 := own_cat ol.symm rfl hown6
        clear own5 hgrow6 hown6 hv5
        go_wp2
        go_roundw
        case rel => exact ⟨f, k, out2 ++ m, rfl, xl, by omega, by rw [List.length_append]; omega, own6, HR, hb6⟩
        case measure => simp [intOf]; omega
    ·have s1 := fun (w' : World) (b' : Nat) (hk : w'.heap.size = b') (hb : Byt w' (.slice (some ⟨bb, off, none⟩) l.length capv) l) => (show Calls Tryz.prog 69 #[(.slice (some ⟨bb, off, none⟩) l.length capv), .int .i64 (e : Int), .slice (some ⟨b', 0, none⟩) 1 1] (w'.alloc (.cells #[.int .u8 34] 5)) fun r w2 => r = .returned (.bool true) ∧ w2 = w'.alloc (.cells #[.int .u8 34] 5) from stands_ws l e (.slice (some ⟨bb, off, none⟩) l.length capv) [34] #[.int .u8 34] 1 (· == 34) true w' rfl rfl (by decide) b' hk hb (by omega) (by omega) (fun c => by simp) (by assumption))
     have HR : Hid (textL l i = .ok ⟨1, out ++ sub l at_ e, i, e + 1⟩) := by show _ = _; rw [← HP.out, textF, hp]; simp only [hq, if_true]
     clear hp HP hq
     go_wp2_with (first | (go_at_call 72; refine g1.mono ?_; rintro r w2 ⟨rfl, hb2⟩; have hown2 := own_below hown hb2; have hs2 := byt_row (Byt.below hs hb2) hsl; have hbb := bl_t hbel hb2) | (at_builtin; refine wpList_append_row rfl (.tmp 23) (.tmp 27) rfl _ _ _ _ rfl hown2 _ (e - at_) (bx (sub l at_ e)) rfl hs2 ?_ ?_ ?_))
     ·omega
     ·have := hbb.size; simpa using this
     ·intro v' w3 hown3 hgrow3
      have hb3 := hbb.grown hgrow3 hbb.size (fun j hj => by have := (hown2.lt j hj).1; simpa using this)
      have hB3 := hB0.below hb3
      have own3 := own_cat rfl hsl.symm hown3
      have hconv := conv_list (w3.alloc (.cells #[.int .u8 34] 5)) v' _ (own_byt (own3.alloc _))
      obtain ⟨kc, kf, kz⟩ := keepT (bl_a hb3 (.cells #[.int .u8 34] 5))
      generalize out ++ sub l at_ e = out2 at *
      clear hown2 hs2 hgrow3 hown3
      go_wp2_with (go_at_call 69; with_reducible refine (s1 _ _ rfl hB3).mono ?_; rintro r w4 ⟨rfl, rfl⟩)
      refine bodyPost_ret (v := .tuple #[tokV ⟨1, out2, i, e + 1⟩, .nilIface]) ?_ rfl ?_
      all_goals first | (exact ⟨by rw [HR.out]; rfl, (by with_reducible repeat (first | exact Below.refl _ _ | refine bl_t ?_ hb3 | refine bl_a ?_ _ | refine bl_s ?_ (by omega) _))⟩) | (simp [results, Tryz.results47, go_sem, tokV, kc])
   ·have hac2 : at_ = capv := by omega
    have he2 : at_ = e := by omega
    subst he2
    subst hac2
    have hout : ¬ at_ < l.length := by omega
    have hq : hasAt l at_ (· == 34) = false := hasAt_out _ hout
    have hx : escapeL l at_ = .error (at_ + 1) := by simp [escapeL, hasAt_out _ hout]
    have s1 := fun (w' : World) (b' : Nat) (hk : w'.heap.size = b') (hb : Byt w' (.slice (some ⟨bb, off, none⟩) l.length at_) l) => (show Calls Tryz.prog 69 #[(.slice (some ⟨bb, off, none⟩) l.length at_), .int .i64 (at_ : Int), .slice (some ⟨b', 0, none⟩) 1 1] (w'.alloc (.cells #[.int .u8 34] 5)) fun r w2 => r = .returned (.bool false) ∧ w2 = w'.alloc (.cells #[.int .u8 34] 5) from stands_ws l at_ (.slice (some ⟨bb, off, none⟩) l.length at_) [34] #[.int .u8 34] 1 (· == 34) false w' rfl rfl (by decide) b' hk hb (by omega) (by omega) (fun c => by simp) (by assumption))
    have HR : Hid (textL l i = .error (at_ + 1)) := by show _ = _; rw [← HP.out, textF, hp]; simp only [hq, hx, Bool.false_eq_true, if_false]
    have g2 := fun w' (hb : Below (w.alloc (.cells #[.int .i64 0, .string ⟨#[]⟩, .int .i64 0, .int .i64 0] 50)).heap.size (w.alloc (.cells #[.int .i64 0, .string ⟨#[]⟩, .int .i64 0, .int .i64 0] 50)) w') => escape_any l at_ _ w' (hT0.below hb) (hB0.below hb) hel (by omega)
    rw [hx] at g2
    simp only [bpPost, errV] at g2
    have hs : ∀ w2 : World, Row w2 (.slice (some ⟨bb, off, none⟩) 0 0) 0 (fun _ => 0) := fun _ => .inl ⟨rfl, _, 0, rfl, fun h => by cases h⟩
    have ho2 : out.length ≤ 140737488351232 := by omega
    clear hp HP hx hq hout hac hal hf hel hae hcb
    go_wp2_with (first | (go_at_call 72; refine g1.mono ?_; rintro r w2 ⟨rfl, hb2⟩; have hown2 := own_below hown hb2; have hs2 := hs w2; have hbb := bl_t hbel hb2) | (at_builtin; refine wpList_append_row rfl (.tmp 23) (.tmp 27) rfl _ _ _ _ rfl hown2 _ 0 (fun _ => 0) rfl hs2 ?_ ?_ ?_))
    ·omega
    ·have := hbb.size; simpa using this
    ·intro v' w3 hown3 hgrow3
     have hb3 := hbb.grown hgrow3 hbb.size (fun j hj => by have := (hown2.lt j hj).1; simpa using this)
     have hB3 := hB0.below hb3
     clear hown2 hs2 hgrow3 hown3
     go_wp2_with (first | (go_at_call 69; with_reducible refine (s1 _ _ rfl hB3).mono ?_; rintro r w4 ⟨rfl, rfl⟩) | (go_at_call 73; refine (g2 _ (bl_a hb3 _)).mono ?_; rintro r w5 ⟨rfl, hb5⟩; obtain ⟨kc, kf, kz⟩ := keepT (bl_t (bl_a hb3 _) hb5)))
     refine bodyPost_ret (v := .tuple #[tokV ⟨0, [], 0, 0⟩, errV (at_ + 1)]) ?_ rfl ?_
     all_goals first | (exact ⟨by rw [HR.out]; rfl, (by with_reducible repeat (first | exact Below.refl _ _ | refine bl_t ?_ (bl_t (bl_a hb3 _) hb5) | refine bl_a ?_ _ | refine bl_s ?_ (by omega) _))⟩) | (simp [results, Tryz.results47, go_sem, tokV, errV, kc])
end Go.Proofs.YtjakgdaodlgeaaaGreatDoor.Lx
