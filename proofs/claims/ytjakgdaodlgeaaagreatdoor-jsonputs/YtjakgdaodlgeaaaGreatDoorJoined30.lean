/-
  What json's reader reads first. Conditions: at most 2^20 bytes; the tables as they are laid.
-/
import Derived.Test.YtjakgdaodlgeaaaGreatDoorJoined29
namespace Go.Proofs.YtjakgdaodlgeaaaGreatDoor
open Go.RowKit Go.Maps

set_option maxRecDepth 100000 in
set_option maxHeartbeats 3200000 in
theorem first_run [Ex] (W : World) (l : List UInt8) (v : Value) (lm : Nat → Int) (rb : Nat) (s : SS) (ov : Value) (hs : List HC) (w : World) (t : Lx.Tok) (N : Nat) (a : Addr) (hE : Lx.Env W) (hD : Env W a) (hB : Lx.Byt W v l) (hJ0 : ∀ A, Below w.heap.size w A → w.heap.size + 1 < A.heap.size → JR W l v lm rb s ov hs A) (hcl : rb < w.heap.size) (hE0 : Ex.E w.heap.size) (hE1 : Ex.E (w.heap.size + 1)) (hl : l.length ≤ 1048576) (ht : t.text.length ≤ l.length) (hn : hs.length < s.i) (hne : hs ≠ [] ∨ ¬ (sgnB t sgE = true ∨ sgnB t sgF = true)) (h3 : 0 ≤ lm 2 ∧ lm 2 ≤ 1000000) (hVS : ∀ (t : Lx.Tok) (p : Nat) w X, t.text.length ≤ 1048576 → VI w X (simpleS (LMof lm) t p).1 (simF (LMof lm) t p)) (hN : l.length < N + s.i) :
  Calls Tryz.prog 50 #[.pointer (some ⟨rb, 0, none⟩), Lx.tokV t] w (StepR (firstS l (LMof lm) N t s) (fun x r w' => ∃ f ov' hs', r = .returned (va f) ∧ JR W l v lm rb x.2 ov' hs' w' ∧ VI w' (mX rb ov' hs') x.1 f ∧ Mv rb ov hs w ov' hs' w') rb w) := by
 obtain ⟨Z, hZ⟩ : ∃ Z, Z = firstS l (LMof lm) N t s := ⟨_, rfl⟩
 rw [← hZ]
 obtain ⟨P, hP⟩ : ∃ P : Ending → World → Prop, P = StepR Z (fun x r w' => ∃ f ov' hs', r = .returned (va f) ∧ JR W l v lm rb x.2 ov' hs' w' ∧ VI w' (mX rb ov' hs') x.1 f ∧ Mv rb ov hs w ov' hs' w') rb w := ⟨_, rfl⟩
 rw [← hP]
 have HP := hid_intro hP
 obtain ⟨A, hA⟩ : ∃ A, (w.alloc (.cells #[.int .i64 (t.kind : Int), .string ⟨t.text.toArray⟩, .int .i64 (t.fr : Int), .int .i64 (t.to : Int)] 50)).alloc (.cells #[.int .i64 0, .bool false, .string ⟨#[]⟩, .int .i64 0, .string ⟨#[]⟩, .slice none 0 0, .slice none 0 0] 31) = A := ⟨_, rfl⟩
 have HBA : Below w.heap.size w A := hA ▸ vb_a (vb_a (Below.refl _ _) _) _
 have HTA : Bj A w.heap.size (tokC t) := hA ▸ (Bj.new _ _ _).al _
 have HVA : Bj A (w.heap.size + 1) zV7 := hA ▸ Bj.new' _ _ _ _ (by simp)
 have HIA : Hid (FI W l v lm rb ov hs w Z N t s ov hs A) := hid_intro ⟨hJ0 A HBA HVA.lt, HTA, HVA, (Mv.refl _ _ _ _).bel HBA, HBA.mono (Nat.le_of_lt hcl), hZ, hN, ht, hn, hne⟩
 clear hJ0 HBA HTA HVA hZ hN ht hn hne hP
 unfold Lx.tokV
 go_enter Tryz.func50, Tryz.ntmps50
 go_wp2_with fail
 go_loopg [] (l.length - s.i) (fun g wr => ∃ (k : Nat) (t' : Lx.Tok) (s' : SS) (ov' : Value) (hs' : List HC), g = l.length - s'.i ∧ Hid (FI W l v lm rb ov hs w Z k t' s' ov' hs' wr))
 case atStart => exact ⟨N, t, s, ov, hs, rfl, HIA⟩
 case round =>
  obtain ⟨k, t', s', ov', hs', rfl, HI⟩ := hrel
  have hrl : rb < wr.heap.size := HI.out.jr.rd.lt
  obtain ⟨k, rfl⟩ : ∃ k', k = k' + 1 := ⟨k - 1, by have := HI.out.kn; have := HI.out.jr.le; omega⟩
  have HEQ := hid_intro HI.out.eq
  have hc := Below.refl wr.heap.size wr
  have HTB : Hid (∀ w', Below wr.heap.size wr w' → w'.cell? ⟨w.heap.size, 0, none⟩ = some (.int .i64 (t'.kind : Int)) ∧ w'.cell? ⟨w.heap.size, 1, none⟩ = some (.string ⟨t'.text.toArray⟩) ∧ w'.cell? ⟨w.heap.size, 2, none⟩ = some (.int .i64 (t'.fr : Int)) ∧ w'.cell? ⟨w.heap.size, 3, none⟩ = some (.int .i64 (t'.to : Int))) := hid_intro (fun w' hb => (HI.out.tb.bel hb).c4)
  have HZT : Hid (∀ ov1 hs1 w1, Mv rb ov' hs' wr ov1 hs1 w1 → Bj w1 w.heap.size #[.int .i64 (t'.kind : Int), .string ⟨t'.text.toArray⟩, .int .i64 (t'.fr : Int), .int .i64 (t'.to : Int)]) := hid_intro (fun ov1 hs1 w1 hm => HI.out.tb.but hm.but (HI.out.jr.off hE0 hcl))
  have HZV : Hid (∀ ov1 hs1 w1, Mv rb ov' hs' wr ov1 hs1 w1 → Bj w1 (w.heap.size + 1) #[.int .i64 0, .bool false, .string ⟨#[]⟩, .int .i64 0, .string ⟨#[]⟩, .slice none 0 0, .slice none 0 0]) := hid_intro (fun ov1 hs1 w1 hm => HI.out.vb.but hm.but (HI.out.jr.off hE1 (by omega)))
  obtain ⟨y0, y1, y2, y3⟩ := HTB.out _ hc
  cases HHA : sgnB t' sgA
  ·cases HHO : sgnB t' sgO
   ·cases HHE : sgnB t' sgE
    ·cases HHF : sgnB t' sgF
     ·have HF : Hid (Z = .ok ((simpleS (LMof lm) t' s'.ps).1, { s' with ps := (simpleS (LMof lm) t' s'.ps).2 })) := hid_intro (by rw [HEQ.out, firstS, HHA, HHO, HHE, HHF]; rfl)
      have HgA : Hid (∀ tv fs w', tv = .agg #[.int .i64 (t'.kind : Int), .string ⟨t'.text.toArray⟩, .int .i64 (t'.fr : Int), .int .i64 (t'.to : Int)] → fs = sgA → Below wr.heap.size wr w' → Calls Tryz.prog 53 #[tv, .string fs] w' (fun r w2 => r = .returned (.bool false) ∧ Below wr.heap.size wr w2)) := hid_intro (fun tv fs w' htv hfs hb => by
       subst htv hfs
       refine (isSign_any (t'.kind : Int) (txtB t') (t'.fr : Int) (t'.to : Int) sgA w').mono fun r w2 hr => ⟨hr.1.trans ?_, vb_t hb hr.2⟩
       have e : isL (t'.kind : Int) (txtB t') (t'.fr : Int) (t'.to : Int) 4 sgA = false := HHA
       rw [e])
      have HgO : Hid (∀ tv fs w', tv = .agg #[.int .i64 (t'.kind : Int), .string ⟨t'.text.toArray⟩, .int .i64 (t'.fr : Int), .int .i64 (t'.to : Int)] → fs = sgO → Below wr.heap.size wr w' → Calls Tryz.prog 53 #[tv, .string fs] w' (fun r w2 => r = .returned (.bool false) ∧ Below wr.heap.size wr w2)) := hid_intro (fun tv fs w' htv hfs hb => by
       subst htv hfs
       refine (isSign_any (t'.kind : Int) (txtB t') (t'.fr : Int) (t'.to : Int) sgO w').mono fun r w2 hr => ⟨hr.1.trans ?_, vb_t hb hr.2⟩
       have e : isL (t'.kind : Int) (txtB t') (t'.fr : Int) (t'.to : Int) 4 sgO = false := HHO
       rw [e])
      have HgE : Hid (∀ tv fs w', tv = .agg #[.int .i64 (t'.kind : Int), .string ⟨t'.text.toArray⟩, .int .i64 (t'.fr : Int), .int .i64 (t'.to : Int)] → fs = sgE → Below wr.heap.size wr w' → Calls Tryz.prog 53 #[tv, .string fs] w' (fun r w2 => r = .returned (.bool false) ∧ Below wr.heap.size wr w2)) := hid_intro (fun tv fs w' htv hfs hb => by
       subst htv hfs
       refine (isSign_any (t'.kind : Int) (txtB t') (t'.fr : Int) (t'.to : Int) sgE w').mono fun r w2 hr => ⟨hr.1.trans ?_, vb_t hb hr.2⟩
       have e : isL (t'.kind : Int) (txtB t') (t'.fr : Int) (t'.to : Int) 4 sgE = false := HHE
       rw [e])
      have HgF : Hid (∀ tv fs w', tv = .agg #[.int .i64 (t'.kind : Int), .string ⟨t'.text.toArray⟩, .int .i64 (t'.fr : Int), .int .i64 (t'.to : Int)] → fs = sgF → Below wr.heap.size wr w' → Calls Tryz.prog 53 #[tv, .string fs] w' (fun r w2 => r = .returned (.bool false) ∧ Below wr.heap.size wr w2)) := hid_intro (fun tv fs w' htv hfs hb => by
       subst htv hfs
       refine (isSign_any (t'.kind : Int) (txtB t') (t'.fr : Int) (t'.to : Int) sgF w').mono fun r w2 hr => ⟨hr.1.trans ?_, vb_t hb hr.2⟩
       have e : isL (t'.kind : Int) (txtB t') (t'.fr : Int) (t'.to : Int) 4 sgF = false := HHF
       rw [e])
      obtain ⟨k9, n9, g9, e9, x9, hsim⟩ : ∃ k n g e x, simF (LMof lm) t' s'.ps = fS k n g e x := by
       unfold simF
       split
       exact ⟨_, _, _, _, _, rfl⟩
      have HSI : Hid (∀ w', Below wr.heap.size wr w' → Calls Tryz.prog 80 #[.pointer (some ⟨rb, 0, none⟩), .agg #[.int .i64 (t'.kind : Int), .string ⟨t'.text.toArray⟩, .int .i64 (t'.fr : Int), .int .i64 (t'.to : Int)]] w' (fun r w2 => r = .returned (.agg #[.int .i64 k9, .bool n9, .string g9, .int .i64 e9, .string x9, .slice none 0 0, .slice none 0 0]) ∧ JR W l v lm rb { s' with ps := (simpleS (LMof lm) t' s'.ps).2 } ov' hs' w2 ∧ Mv rb ov' hs' wr ov' hs' w2)) := hid_intro (fun w' hb => (simple_any t' a rb s'.i v ov' lm s'.dp s'.ps w' (hD.below (HI.out.jr.bl hb).bel) (HI.out.jr.bl hb).rd (by have := HI.out.tl; omega) h3).mono fun r w2 hr => ⟨hr.1.trans (by rw [hsim]; rfl), (HI.out.jr.bl hb).psx hr.2.1 _ hr.2.2, ((Mv.refl _ _ _ _).bel hb).trans (Mv.rb hr.2.1)⟩)
      have HVI : Hid (∀ w' X, VI w' X (simpleS (LMof lm) t' s'.ps).1 (fS k9 n9 g9 e9 x9)) := hid_intro (fun w' X => hsim ▸ hVS t' s'.ps w' X (by have := HI.out.tl; omega))
      go_wp2_with (first | (go_at_call 53; refine (HgA.out _ _ _ ?_ ?_ ?_).mono ?_; exact rfl; exact rfl; (with_reducible repeat (first | exact hc | refine vb_d ?_)); rintro r w1 ⟨rfl, hc⟩; obtain ⟨y0, y1, y2, y3⟩ := HTB.out _ hc) | (go_at_call 53; refine (HgO.out _ _ _ ?_ ?_ ?_).mono ?_; exact rfl; exact rfl; (with_reducible repeat (first | exact hc | refine vb_d ?_)); rintro r w1 ⟨rfl, hc⟩; obtain ⟨y0, y1, y2, y3⟩ := HTB.out _ hc) | (go_at_call 53; refine (HgE.out _ _ _ ?_ ?_ ?_).mono ?_; exact rfl; exact rfl; (with_reducible repeat (first | exact hc | refine vb_d ?_)); rintro r w1 ⟨rfl, hc⟩; obtain ⟨y0, y1, y2, y3⟩ := HTB.out _ hc) | (go_at_call 53; refine (HgF.out _ _ _ ?_ ?_ ?_).mono ?_; exact rfl; exact rfl; (with_reducible repeat (first | exact hc | refine vb_d ?_)); rintro r w1 ⟨rfl, hc⟩; obtain ⟨y0, y1, y2, y3⟩ := HTB.out _ hc) | (go_at_call 80; refine (HSI.out _ ?_).mono ?_; (with_reducible repeat (first | exact hc | refine vb_d ?_)); rintro r w2 ⟨rfl, hj2, hm2⟩; obtain ⟨z0, z1, z2, z3, z4, z5, z6⟩ := (HZV.out _ _ _ hm2).z7; obtain ⟨x0, x1, x2, x3, x4, x5, x6⟩ := (HZV.out _ _ _ hm2).c7))
      refine bodyPost_ret (v := (.agg #[.int .i64 k9, .bool n9, .string g9, .int .i64 e9, .string x9, .slice none 0 0, .slice none 0 0])) (by simp [results, Tryz.results50, go_sem, x0, x1, x2, x3, x4, x5, x6]) rfl ?_
      rw [HP.out, HF.out]
      have hb7 : But (· = w.heap.size + 1) w2 (set7 w2 (w.heap.size + 1) (.int .i64 k9) (.bool n9) (.string g9) (.int .i64 e9) (.string x9) (.slice none 0 0) (.slice none 0 0)) := set7_but (X := (· = w.heap.size + 1)) (But.refl _ w2) (Or.inl rfl) _ _ _ _ _ _ _
      exact ⟨fS k9 n9 g9 e9 x9, ov', hs', rfl, hj2.side1 hE1 (by omega) hb7, HVI.out _ _, Mv.new (HI.out.mv.trans hm2) hb7 (by omega)⟩
     ·have HX : sgnB t' sgE = true ∨ sgnB t' sgF = true := Or.inr HHF
      have HgA : Hid (∀ tv fs w', tv = .agg #[.int .i64 (t'.kind : Int), .string ⟨t'.text.toArray⟩, .int .i64 (t'.fr : Int), .int .i64 (t'.to : Int)] → fs = sgA → Below wr.heap.size wr w' → Calls Tryz.prog 53 #[tv, .string fs] w' (fun r w2 => r = .returned (.bool false) ∧ Below wr.heap.size wr w2)) := hid_intro (fun tv fs w' htv hfs hb => by
       subst htv hfs
       refine (isSign_any (t'.kind : Int) (txtB t') (t'.fr : Int) (t'.to : Int) sgA w').mono fun r w2 hr => ⟨hr.1.trans ?_, vb_t hb hr.2⟩
       have e : isL (t'.kind : Int) (txtB t') (t'.fr : Int) (t'.to : Int) 4 sgA = false := HHA
       rw [e])
      have HgO : Hid (∀ tv fs w', tv = .agg #[.int .i64 (t'.kind : Int), .string ⟨t'.text.toArray⟩, .int .i64 (t'.fr : Int), .int .i64 (t'.to : Int)] → fs = sgO → Below wr.heap.size wr w' → Calls Tryz.prog 53 #[tv, .string fs] w' (fun r w2 => r = .returned (.bool false) ∧ Below wr.heap.size wr w2)) := hid_intro (fun tv fs w' htv hfs hb => by
       subst htv hfs
       refine (isSign_any (t'.kind : Int) (txtB t') (t'.fr : Int) (t'.to : Int) sgO w').mono fun r w2 hr => ⟨hr.1.trans ?_, vb_t hb hr.2⟩
       have e : isL (t'.kind : Int) (txtB t') (t'.fr : Int) (t'.to : Int) 4 sgO = false := HHO
       rw [e])
      have HgE : Hid (∀ tv fs w', tv = .agg #[.int .i64 (t'.kind : Int), .string ⟨t'.text.toArray⟩, .int .i64 (t'.fr : Int), .int .i64 (t'.to : Int)] → fs = sgE → Below wr.heap.size wr w' → Calls Tryz.prog 53 #[tv, .string fs] w' (fun r w2 => r = .returned (.bool false) ∧ Below wr.heap.size wr w2)) := hid_intro (fun tv fs w' htv hfs hb => by
       subst htv hfs
       refine (isSign_any (t'.kind : Int) (txtB t') (t'.fr : Int) (t'.to : Int) sgE w').mono fun r w2 hr => ⟨hr.1.trans ?_, vb_t hb hr.2⟩
       have e : isL (t'.kind : Int) (txtB t') (t'.fr : Int) (t'.to : Int) 4 sgE = false := HHE
       rw [e])
      have HgF : Hid (∀ tv fs w', tv = .agg #[.int .i64 (t'.kind : Int), .string ⟨t'.text.toArray⟩, .int .i64 (t'.fr : Int), .int .i64 (t'.to : Int)] → fs = sgF → Below wr.heap.size wr w' → Calls Tryz.prog 53 #[tv, .string fs] w' (fun r w2 => r = .returned (.bool true) ∧ Below wr.heap.size wr w2)) := hid_intro (fun tv fs w' htv hfs hb => by
       subst htv hfs
       refine (isSign_any (t'.kind : Int) (txtB t') (t'.fr : Int) (t'.to : Int) sgF w').mono fun r w2 hr => ⟨hr.1.trans ?_, vb_t hb hr.2⟩
       have e : isL (t'.kind : Int) (txtB t') (t'.fr : Int) (t'.to : Int) 4 sgF = true := HHF
       rw [e])
      obtain ⟨hs0, h, rfl⟩ : ∃ hs0 h, hs' = hs0 ++ [h] := by
       rcases HI.out.ne with e | e
       ·exact ⟨hs'.dropLast, hs'.getLast e, (List.dropLast_concat_getLast e).symm⟩
       ·exact absurd HX e
      obtain ⟨ob, cap, rfl⟩ := own_some HI.out.jr.st.row (by simp)
      obtain ⟨la, lc, el, _⟩ := own_shape (HI.out.jr.st.ho h (by simp)).row
      obtain ⟨ka, kc, ek, _⟩ := own_shape (HI.out.jr.st.ho h (by simp)).krow
      have HF : Hid (Z = .ok (closeS s')) := hid_intro (by rw [HEQ.out, firstS, HHA, HHO, if_pos HX]; rfl)
      have HCO : Hid (∀ w', Below wr.heap.size wr w' → Calls Tryz.prog 56 #[.pointer (some ⟨rb, 0, none⟩)] w' (fun r w2 => r = .returned (.agg #[.int .i64 h.k, .bool false, .string ⟨#[]⟩, .int .i64 0, .string ⟨#[]⟩, .slice la h.vs.length lc, .slice ka h.ks.length kc]) ∧ JR W l v lm rb (closeS s').2 (.slice (some ⟨ob, 0, none⟩) hs0.length cap) hs0 w2 ∧ VI w2 (mX rb (.slice (some ⟨ob, 0, none⟩) hs0.length cap) hs0) (closeS s').1 (hcel h) ∧ Mv rb (.slice (some ⟨ob, 0, none⟩) (hs0 ++ [h]).length cap) (hs0 ++ [h]) wr (.slice (some ⟨ob, 0, none⟩) hs0.length cap) hs0 w2)) := hid_intro (fun w' hb => (close_any W l v lm rb s' ob _ cap hs0 h w' (HI.out.jr.bl hb) hl).mono fun r w2 hr => ⟨hr.1.trans (by unfold va hcel; rw [← el, ← ek]; rfl), hr.2.1, by rw [hr.2.2.2.2]; exact hr.2.2.1, ((Mv.refl _ _ _ _).bel hb).trans hr.2.2.2.1⟩)
      go_wp2_with (first | (go_at_call 53; refine (HgA.out _ _ _ ?_ ?_ ?_).mono ?_; exact rfl; exact rfl; (with_reducible repeat (first | exact hc | refine vb_d ?_)); rintro r w1 ⟨rfl, hc⟩; obtain ⟨y0, y1, y2, y3⟩ := HTB.out _ hc) | (go_at_call 53; refine (HgO.out _ _ _ ?_ ?_ ?_).mono ?_; exact rfl; exact rfl; (with_reducible repeat (first | exact hc | refine vb_d ?_)); rintro r w1 ⟨rfl, hc⟩; obtain ⟨y0, y1, y2, y3⟩ := HTB.out _ hc) | (go_at_call 53; refine (HgE.out _ _ _ ?_ ?_ ?_).mono ?_; exact rfl; exact rfl; (with_reducible repeat (first | exact hc | refine vb_d ?_)); rintro r w1 ⟨rfl, hc⟩; obtain ⟨y0, y1, y2, y3⟩ := HTB.out _ hc) | (go_at_call 53; refine (HgF.out _ _ _ ?_ ?_ ?_).mono ?_; exact rfl; exact rfl; (with_reducible repeat (first | exact hc | refine vb_d ?_)); rintro r w1 ⟨rfl, hc⟩; obtain ⟨y0, y1, y2, y3⟩ := HTB.out _ hc) | (go_at_call 56; refine (HCO.out _ ?_).mono ?_; (with_reducible repeat (first | exact hc | refine vb_d ?_)); rintro r w2 ⟨rfl, hj2, hv2, hm2⟩; obtain ⟨z0, z1, z2, z3, z4, z5, z6⟩ := (HZV.out _ _ _ hm2).z7; obtain ⟨x0, x1, x2, x3, x4, x5, x6⟩ := (HZV.out _ _ _ hm2).c7))
      refine bodyPost_ret (v := (.agg #[.int .i64 h.k, .bool false, .string ⟨#[]⟩, .int .i64 0, .string ⟨#[]⟩, .slice la h.vs.length lc, .slice ka h.ks.length kc])) (by simp [results, Tryz.results50, go_sem, x0, x1, x2, x3, x4, x5, x6]) rfl ?_
      rw [HP.out, HF.out]
      have hb7 : But (· = w.heap.size + 1) w2 (set7 w2 (w.heap.size + 1) (.int .i64 h.k) (.bool false) (.string ⟨#[]⟩) (.int .i64 0) (.string ⟨#[]⟩) (.slice la h.vs.length lc) (.slice ka h.ks.length kc)) := set7_but (X := (· = w.heap.size + 1)) (But.refl _ w2) (Or.inl rfl) _ _ _ _ _ _ _
      exact ⟨hcel h, _, hs0, by unfold va hcel; rw [← el, ← ek]; rfl, hj2.side1 hE1 (by omega) hb7, vi_side hv2 (Or.inl hE1) hb7, Mv.new (HI.out.mv.trans hm2) hb7 (by omega)⟩
    ·have HX : sgnB t' sgE = true ∨ sgnB t' sgF = true := Or.inl HHE
     have HgA : Hid (∀ tv fs w', tv = .agg #[.int .i64 (t'.kind : Int), .string ⟨t'.text.toArray⟩, .int .i64 (t'.fr : Int), .int .i64 (t'.to : Int)] → fs = sgA → Below wr.heap.size wr w' → Calls Tryz.prog 53 #[tv, .string fs] w' (fun r w2 => r = .returned (.bool false) ∧ Below wr.heap.size wr w2)) := hid_intro (fun tv fs w' htv hfs hb => by
      subst htv hfs
      refine (isSign_any (t'.kind : Int) (txtB t') (t'.fr : Int) (t'.to : Int) sgA w').mono fun r w2 hr => ⟨hr.1.trans ?_, vb_t hb hr.2⟩
      have e : isL (t'.kind : Int) (txtB t') (t'.fr : Int) (t'.to : Int) 4 sgA = false := HHA
      rw [e])
     have HgO : Hid (∀ tv fs w', tv = .agg #[.int .i64 (t'.kind : Int), .string ⟨t'.text.toArray⟩, .int .i64 (t'.fr : Int), .int .i64 (t'.to : Int)] → fs = sgO → Below wr.heap.size wr w' → Calls Tryz.prog 53 #[tv, .string fs] w' (fun r w2 => r = .returned (.bool false) ∧ Below wr.heap.size wr w2)) := hid_intro (fun tv fs w' htv hfs hb => by
      subst htv hfs
      refine (isSign_any (t'.kind : Int) (txtB t') (t'.fr : Int) (t'.to : Int) sgO w').mono fun r w2 hr => ⟨hr.1.trans ?_, vb_t hb hr.2⟩
      have e : isL (t'.kind : Int) (txtB t') (t'.fr : Int) (t'.to : Int) 4 sgO = false := HHO
      rw [e])
     have HgE : Hid (∀ tv fs w', tv = .agg #[.int .i64 (t'.kind : Int), .string ⟨t'.text.toArray⟩, .int .i64 (t'.fr : Int), .int .i64 (t'.to : Int)] → fs = sgE → Below wr.heap.size wr w' → Calls Tryz.prog 53 #[tv, .string fs] w' (fun r w2 => r = .returned (.bool true) ∧ Below wr.heap.size wr w2)) := hid_intro (fun tv fs w' htv hfs hb => by
      subst htv hfs
      refine (isSign_any (t'.kind : Int) (txtB t') (t'.fr : Int) (t'.to : Int) sgE w').mono fun r w2 hr => ⟨hr.1.trans ?_, vb_t hb hr.2⟩
      have e : isL (t'.kind : Int) (txtB t') (t'.fr : Int) (t'.to : Int) 4 sgE = true := HHE
      rw [e])
     obtain ⟨hs0, h, rfl⟩ : ∃ hs0 h, hs' = hs0 ++ [h] := by
      rcases HI.out.ne with e | e
      ·exact ⟨hs'.dropLast, hs'.getLast e, (List.dropLast_concat_getLast e).symm⟩
      ·exact absurd HX e
     obtain ⟨ob, cap, rfl⟩ := own_some HI.out.jr.st.row (by simp)
     obtain ⟨la, lc, el, _⟩ := own_shape (HI.out.jr.st.ho h (by simp)).row
     obtain ⟨ka, kc, ek, _⟩ := own_shape (HI.out.jr.st.ho h (by simp)).krow
     have HF : Hid (Z = .ok (closeS s')) := hid_intro (by rw [HEQ.out, firstS, HHA, HHO, if_pos HX]; rfl)
     have HCO : Hid (∀ w', Below wr.heap.size wr w' → Calls Tryz.prog 56 #[.pointer (some ⟨rb, 0, none⟩)] w' (fun r w2 => r = .returned (.agg #[.int .i64 h.k, .bool false, .string ⟨#[]⟩, .int .i64 0, .string ⟨#[]⟩, .slice la h.vs.length lc, .slice ka h.ks.length kc]) ∧ JR W l v lm rb (closeS s').2 (.slice (some ⟨ob, 0, none⟩) hs0.length cap) hs0 w2 ∧ VI w2 (mX rb (.slice (some ⟨ob, 0, none⟩) hs0.length cap) hs0) (closeS s').1 (hcel h) ∧ Mv rb (.slice (some ⟨ob, 0, none⟩) (hs0 ++ [h]).length cap) (hs0 ++ [h]) wr (.slice (some ⟨ob, 0, none⟩) hs0.length cap) hs0 w2)) := hid_intro (fun w' hb => (close_any W l v lm rb s' ob _ cap hs0 h w' (HI.out.jr.bl hb) hl).mono fun r w2 hr => ⟨hr.1.trans (by unfold va hcel; rw [← el, ← ek]; rfl), hr.2.1, by rw [hr.2.2.2.2]; exact hr.2.2.1, ((Mv.refl _ _ _ _).bel hb).trans hr.2.2.2.1⟩)
     go_wp2_with (first | (go_at_call 53; refine (HgA.out _ _ _ ?_ ?_ ?_).mono ?_; exact rfl; exact rfl; (with_reducible repeat (first | exact hc | refine vb_d ?_)); rintro r w1 ⟨rfl, hc⟩; obtain ⟨y0, y1, y2, y3⟩ := HTB.out _ hc) | (go_at_call 53; refine (HgO.out _ _ _ ?_ ?_ ?_).mono ?_; exact rfl; exact rfl; (with_reducible repeat (first | exact hc | refine vb_d ?_)); rintro r w1 ⟨rfl, hc⟩; obtain ⟨y0, y1, y2, y3⟩ := HTB.out _ hc) | (go_at_call 53; refine (HgE.out _ _ _ ?_ ?_ ?_).mono ?_; exact rfl; exact rfl; (with_reducible repeat (first | exact hc | refine vb_d ?_)); rintro r w1 ⟨rfl, hc⟩; obtain ⟨y0, y1, y2, y3⟩ := HTB.out _ hc) | (go_at_call 56; refine (HCO.out _ ?_).mono ?_; (with_reducible repeat (first | exact hc | refine vb_d ?_)); rintro r w2 ⟨rfl, hj2, hv2, hm2⟩; obtain ⟨z0, z1, z2, z3, z4, z5, z6⟩ := (HZV.out _ _ _ hm2).z7; obtain ⟨x0, x1, x2, x3, x4, x5, x6⟩ := (HZV.out _ _ _ hm2).c7))
     refine bodyPost_ret (v := (.agg #[.int .i64 h.k, .bool false, .string ⟨#[]⟩, .int .i64 0, .string ⟨#[]⟩, .slice la h.vs.length lc, .slice ka h.ks.length kc])) (by simp [results, Tryz.results50, go_sem, x0, x1, x2, x3, x4, x5, x6]) rfl ?_
     rw [HP.out, HF.out]
     have hb7 : But (· = w.heap.size + 1) w2 (set7 w2 (w.heap.size + 1) (.int .i64 h.k) (.bool false) (.string ⟨#[]⟩) (.int .i64 0) (.string ⟨#[]⟩) (.slice la h.vs.length lc) (.slice ka h.ks.length kc)) := set7_but (X := (· = w.heap.size + 1)) (But.refl _ w2) (Or.inl rfl) _ _ _ _ _ _ _
     exact ⟨hcel h, _, hs0, by unfold va hcel; rw [← el, ← ek]; rfl, hj2.side1 hE1 (by omega) hb7, vi_side hv2 (Or.inl hE1) hb7, Mv.new (HI.out.mv.trans hm2) hb7 (by omega)⟩
   ·have HF : Hid (Z = match takeS fosC l s'.i with
     | .error e => .error e
     | .ok t1 => if sgnB t1 sgF = true then firstS l (LMof lm) k t1 { openS 6 s' with i := t1.to } else
      match valueOfS l t1 { openS 6 s' with i := t1.to } with
      | .error e => .error e
      | .ok (t2, s2) => firstS l (LMof lm) k t2 s2) := hid_intro (by rw [HEQ.out, firstS, HHA, HHO]; rfl)
    have HgA : Hid (∀ tv fs w', tv = .agg #[.int .i64 (t'.kind : Int), .string ⟨t'.text.toArray⟩, .int .i64 (t'.fr : Int), .int .i64 (t'.to : Int)] → fs = sgA → Below wr.heap.size wr w' → Calls Tryz.prog 53 #[tv, .string fs] w' (fun r w2 => r = .returned (.bool false) ∧ Below wr.heap.size wr w2)) := hid_intro (fun tv fs w' htv hfs hb => by
     subst htv hfs
     refine (isSign_any (t'.kind : Int) (txtB t') (t'.fr : Int) (t'.to : Int) sgA w').mono fun r w2 hr => ⟨hr.1.trans ?_, vb_t hb hr.2⟩
     have e : isL (t'.kind : Int) (txtB t') (t'.fr : Int) (t'.to : Int) 4 sgA = false := HHA
     rw [e])
    have HgO : Hid (∀ tv fs w', tv = .agg #[.int .i64 (t'.kind : Int), .string ⟨t'.text.toArray⟩, .int .i64 (t'.fr : Int), .int .i64 (t'.to : Int)] → fs = sgO → Below wr.heap.size wr w' → Calls Tryz.prog 53 #[tv, .string fs] w' (fun r w2 => r = .returned (.bool true) ∧ Below wr.heap.size wr w2)) := hid_intro (fun tv fs w' htv hfs hb => by
     subst htv hfs
     refine (isSign_any (t'.kind : Int) (txtB t') (t'.fr : Int) (t'.to : Int) sgO w').mono fun r w2 hr => ⟨hr.1.trans ?_, vb_t hb hr.2⟩
     have e : isL (t'.kind : Int) (txtB t') (t'.fr : Int) (t'.to : Int) 4 sgO = true := HHO
     rw [e])
    have HOP : Hid (∀ w', Below wr.heap.size wr w' → Calls Tryz.prog 78 #[.pointer (some ⟨rb, 0, none⟩), .int .i64 6] w' (fun r w2 => r = .returned (.tuple #[]) ∧ ∃ ov1, JR W l v lm rb (openS 6 s') ov1 (hs' ++ [h0 6]) w2 ∧ Mv rb ov' hs' wr ov1 (hs' ++ [h0 6]) w2 ∧ Below rb wr w2)) := hid_intro (fun w' hb => (open_any 6 (by omega) W l v lm rb s' ov' hs' w' (HI.out.jr.bl hb) hl HI.out.hn).mono fun r w2 hr => by
     obtain ⟨e1, ov1, e2, e3⟩ := hr
     have e4 := ((Mv.refl _ _ _ _).bel hb).trans e3
     exact ⟨e1, ov1, e2, e4, e4.below HI.out.jr.st HI.out.jr.rd.lt⟩)
    cases h1 : takeS fosC l s'.i with
    | error e =>
     have HT : Hid (∀ fs ov1 w2 w', fs = fosC → JR W l v lm rb (openS 6 s') ov1 (hs' ++ [h0 6]) w2 → Below w2.heap.size w2 w' → Calls Tryz.prog 51 #[.pointer (some ⟨rb, 0, none⟩), .string fs] w' (fun r w3 => r = stopE 3 (e : Nat) ∧ Below rb w2 w3)) := hid_intro (fun fs ov1 w2 w' hfs hj hb => by
      subst hfs
      refine (take_jr hE hB hl (hj.bl hb) fosC).mono fun r w3 hr => ?_
      have e1 : takeS fosC l (openS 6 s').i = .error e := h1
      rw [e1] at hr
      exact ⟨hr.1, (hb.mono (Nat.le_of_lt hj.rd.lt)).trans hr.2⟩)
     simp only [h1] at HF
     go_wp2_with (first | (go_at_call 53; refine (HgA.out _ _ _ ?_ ?_ ?_).mono ?_; exact rfl; exact rfl; (with_reducible repeat (first | exact hc | refine vb_d ?_)); rintro r w1 ⟨rfl, hc⟩; obtain ⟨y0, y1, y2, y3⟩ := HTB.out _ hc) | (go_at_call 53; refine (HgO.out _ _ _ ?_ ?_ ?_).mono ?_; exact rfl; exact rfl; (with_reducible repeat (first | exact hc | refine vb_d ?_)); rintro r w1 ⟨rfl, hc⟩; obtain ⟨y0, y1, y2, y3⟩ := HTB.out _ hc) | (go_at_call 78; refine (HOP.out _ ?_).mono ?_; (with_reducible repeat (first | exact hc | refine vb_d ?_)); rintro r w2 ⟨rfl, ov1, hj2, hm2, hb2⟩; have hc2 := Below.refl w2.heap.size w2) | (go_at_call 51; refine (HT.out _ _ _ _ ?_ hj2 ?_).mono ?_; exact rfl; (with_reducible repeat (first | exact hc2 | refine vb_d ?_)); rintro r w3 ⟨rfl, hb3⟩; unfold stopE))
     all_goals
      rw [HP.out, HF.out]
      exact ⟨rfl, rfl, (HI.out.bw.trans hb2).trans hb3⟩
    | ok t1 =>
     have HT : Hid (∀ fs ov1 w2 w', fs = fosC → JR W l v lm rb (openS 6 s') ov1 (hs' ++ [h0 6]) w2 → Below w2.heap.size w2 w' → Calls Tryz.prog 51 #[.pointer (some ⟨rb, 0, none⟩), .string fs] w' (fun r w3 => r = .returned (Lx.tokV t1) ∧ JR W l v lm rb { openS 6 s' with i := t1.to } ov1 (hs' ++ [h0 6]) w3 ∧ Mv rb ov1 (hs' ++ [h0 6]) w2 ov1 (hs' ++ [h0 6]) w3 ∧ Below rb w2 w3)) := hid_intro (fun fs ov1 w2 w' hfs hj hb => by
      subst hfs
      refine (take_jr hE hB hl (hj.bl hb) fosC).mono fun r w3 hr => ?_
      have e1 : takeS fosC l (openS 6 s').i = .ok t1 := h1
      rw [e1] at hr
      have e2 : But (· = rb) w2 w3 := (But.ofBelow hb).trans hr.2.2.1
      exact ⟨hr.1, hr.2.1, Mv.rb e2, but_rb e2 hj.rd.lt⟩)
     simp only [h1] at HF
     have ho := takeL_ok h1
     have HNX : Hid (∀ ov1 w3, JR W l v lm rb { openS 6 s' with i := t1.to } ov1 (hs' ++ [h0 6]) w3 → Mv rb ov' hs' wr ov1 (hs' ++ [h0 6]) w3 → Below rb wr w3 → FI W l v lm rb ov hs w (firstS l (LMof lm) k t1 { openS 6 s' with i := t1.to }) k t1 { openS 6 s' with i := t1.to } ov1 (hs' ++ [h0 6]) (set4 w3 w.heap.size t1)) := hid_intro (fun ov1 w3 hj hm hb => HI.out.next hE0 hE1 hcl hj hm hb rfl (by have := HI.out.kn; show _ < k + t1.to; omega) ho.2.2 (by have := HI.out.hn; show _ < t1.to; simp; omega) (Or.inl (by simp)))
     cases hF1 : sgnB t1 sgF
     ·have HS1 : Hid (∀ tv fs w4 w', tv = .agg #[.int .i64 (t1.kind : Int), .string ⟨t1.text.toArray⟩, .int .i64 (t1.fr : Int), .int .i64 (t1.to : Int)] → fs = sgF → Below w4.heap.size w4 w' → Calls Tryz.prog 53 #[tv, .string fs] w' (fun r w2 => r = .returned (.bool false) ∧ Below w4.heap.size w4 w2)) := hid_intro (fun tv fs w4 w' htv hfs hb => by
       subst htv hfs
       refine (isSign_any (t1.kind : Int) (txtB t1) (t1.fr : Int) (t1.to : Int) sgF w').mono fun r w2 hr => ⟨hr.1.trans ?_, vb_t hb hr.2⟩
       have e : isL (t1.kind : Int) (txtB t1) (t1.fr : Int) (t1.to : Int) 4 sgF = false := hF1
       rw [e])
      simp only [hF1, Bool.false_eq_true, ↓reduceIte] at HF
      have HVR : Hid (∀ ov1 w4 w', JR W l v lm rb { openS 6 s' with i := t1.to } ov1 (hs' ++ [h0 6]) w4 → Below w4.heap.size w4 w' → Calls Tryz.prog 79 #[.pointer (some ⟨rb, 0, none⟩), Lx.tokV t1] w' (StepR (valueOfS l t1 { openS 6 s' with i := t1.to }) (fun x r w6 => r = .returned (Lx.tokV x.1) ∧ ∃ hs2, JR W l v lm rb x.2 ov1 hs2 w6 ∧ Mv rb ov1 (hs' ++ [h0 6]) w4 ov1 hs2 w6 ∧ hs2.length = hs'.length + 1) rb w')) := hid_intro (fun ov1 w4 w' hj hb => by
       obtain ⟨ob, cap, rfl⟩ := own_some hj.st.row (by simp)
       refine (valueOf_any W l v lm rb { openS 6 s' with i := t1.to } ob _ cap hs' (h0 6) w' t1 hE hB (hj.bl hb) hl ho.2.2 (by show 0 < t1.to; omega)).mono fun r w6 hr => ?_
       cases hv : valueOfS l t1 { openS 6 s' with i := t1.to } with
       | error e => rw [hv] at hr; exact hr
       | ok x =>
        rw [hv] at hr
        obtain ⟨e1, kv, mv, e2, e3⟩ := hr
        exact ⟨e1, _, e2, ((Mv.refl _ _ _ _).bel hb).trans e3, by simp⟩)
      cases h2 : valueOfS l t1 { openS 6 s' with i := t1.to } with
      | error e =>
       have HVO : Hid (∀ tv ov1 w4 w', tv = .agg #[.int .i64 (t1.kind : Int), .string ⟨t1.text.toArray⟩, .int .i64 (t1.fr : Int), .int .i64 (t1.to : Int)] → JR W l v lm rb { openS 6 s' with i := t1.to } ov1 (hs' ++ [h0 6]) w4 → Below w4.heap.size w4 w' → Calls Tryz.prog 79 #[.pointer (some ⟨rb, 0, none⟩), tv] w' (fun r w6 => r = stopE 3 (e : Nat) ∧ Below rb w4 w6)) := hid_intro (fun tv ov1 w4 w' htv hj hb => by
        subst htv
        refine (HVR.out ov1 w4 w' hj hb).mono fun r w6 hr => ?_
        rw [h2] at hr
        exact ⟨hr.1, (hb.mono (Nat.le_of_lt hj.rd.lt)).trans hr.2⟩)
       simp only [h2] at HF
       clear HVR
       go_wp2_with (first | (go_at_call 53; refine (HgA.out _ _ _ ?_ ?_ ?_).mono ?_; exact rfl; exact rfl; (with_reducible repeat (first | exact hc | refine vb_d ?_)); rintro r w1 ⟨rfl, hc⟩; obtain ⟨y0, y1, y2, y3⟩ := HTB.out _ hc) | (go_at_call 53; refine (HgO.out _ _ _ ?_ ?_ ?_).mono ?_; exact rfl; exact rfl; (with_reducible repeat (first | exact hc | refine vb_d ?_)); rintro r w1 ⟨rfl, hc⟩; obtain ⟨y0, y1, y2, y3⟩ := HTB.out _ hc) | (go_at_call 78; refine (HOP.out _ ?_).mono ?_; (with_reducible repeat (first | exact hc | refine vb_d ?_)); rintro r w2 ⟨rfl, ov1, hj2, hm2, hb2⟩; have hc2 := Below.refl w2.heap.size w2) | (go_at_call 51; refine (HT.out _ _ _ _ ?_ hj2 ?_).mono ?_; exact rfl; (with_reducible repeat (first | exact hc2 | refine vb_d ?_)); rintro r w3 ⟨rfl, hj3, hm3, hb3⟩; unfold Lx.tokV; have hm4 := Mv.trans hm2 hm3; have hb4 := Below.trans hb2 hb3; obtain ⟨z0, z1, z2, z3⟩ := (HZT.out _ _ _ hm4).z4; obtain ⟨x0, x1, x2, x3⟩ := (HZT.out _ _ _ hm4).c4; obtain ⟨w4, hw4⟩ : ∃ w4, (((w3.setCell ⟨w.heap.size, 0, none⟩ (.int .i64 (t1.kind : Int))).setCell ⟨w.heap.size, 1, none⟩ (.string ⟨t1.text.toArray⟩)).setCell ⟨w.heap.size, 2, none⟩ (.int .i64 (t1.fr : Int))).setCell ⟨w.heap.size, 3, none⟩ (.int .i64 (t1.to : Int)) = w4 := ⟨_, rfl⟩; have HI4 := hid_intro (HNX.out _ _ hj3 hm4 hb4); unfold set4 at HI4; rw [hw4] at HI4; have hc4 := Below.refl w4.heap.size w4; obtain ⟨u0, u1, u2, u3⟩ := HI4.out.tb.c4) | (go_at_call 53; refine (HS1.out _ _ w4 _ ?_ ?_ ?_).mono ?_; exact rfl; exact rfl; (with_reducible repeat (first | exact hc4 | refine vb_d ?_)); rintro r w5 ⟨rfl, hc5⟩; obtain ⟨u0, u1, u2, u3⟩ := (HI4.out.tb.bel hc5).c4) | (go_at_call 79; refine (HVO.out _ _ w4 _ ?_ HI4.out.jr ?_).mono ?_; exact rfl; (with_reducible repeat (first | exact hc5 | refine vb_d ?_)); rintro r w6 ⟨rfl, hb6⟩; unfold stopE))
       all_goals
        rw [HP.out, HF.out]
        exact ⟨rfl, rfl, HI4.out.bw.trans hb6⟩
      | ok x =>
       obtain ⟨t2, s2⟩ := x
       have HVO : Hid (∀ tv ov1 w4 w', tv = .agg #[.int .i64 (t1.kind : Int), .string ⟨t1.text.toArray⟩, .int .i64 (t1.fr : Int), .int .i64 (t1.to : Int)] → JR W l v lm rb { openS 6 s' with i := t1.to } ov1 (hs' ++ [h0 6]) w4 → Below w4.heap.size w4 w' → Calls Tryz.prog 79 #[.pointer (some ⟨rb, 0, none⟩), tv] w' (fun r w6 => r = .returned (Lx.tokV t2) ∧ ∃ hs2, JR W l v lm rb s2 ov1 hs2 w6 ∧ Mv rb ov1 (hs' ++ [h0 6]) w4 ov1 hs2 w6 ∧ hs2.length = hs'.length + 1 ∧ Below rb w4 w6)) := hid_intro (fun tv ov1 w4 w' htv hj hb => by
        subst htv
        refine (HVR.out ov1 w4 w' hj hb).mono fun r w6 hr => ?_
        rw [h2] at hr
        obtain ⟨e1, hs2, e2, e3, e4⟩ := hr
        exact ⟨e1, hs2, e2, e3, e4, e3.below hj.st hj.rd.lt⟩)
       have hv2 := valueOfS_ok h2
       simp only [h2] at HF
       have hi2 : t1.to < s2.i := hv2.1
       have HN2 : Hid (∀ ov1 hs2 w4 w6, FI W l v lm rb ov hs w (firstS l (LMof lm) k t1 { openS 6 s' with i := t1.to }) k t1 { openS 6 s' with i := t1.to } ov1 (hs' ++ [h0 6]) w4 → JR W l v lm rb s2 ov1 hs2 w6 → Mv rb ov1 (hs' ++ [h0 6]) w4 ov1 hs2 w6 → hs2.length = hs'.length + 1 → Below rb w4 w6 → FI W l v lm rb ov hs w Z k t2 s2 ov1 hs2 (set4 w6 w.heap.size t2)) := hid_intro (fun ov1 hs2 w4 w6 hI hj hm hlen hb => hI.next hE0 hE1 hcl hj hm hb HF.out (by have := HI.out.kn; omega) hv2.2 (by have := HI.out.hn; omega) (Or.inl (by intro e; rw [e] at hlen; simp at hlen)))
       clear HVR
       go_wp2_with (first | (go_at_call 53; refine (HgA.out _ _ _ ?_ ?_ ?_).mono ?_; exact rfl; exact rfl; (with_reducible repeat (first | exact hc | refine vb_d ?_)); rintro r w1 ⟨rfl, hc⟩; obtain ⟨y0, y1, y2, y3⟩ := HTB.out _ hc) | (go_at_call 53; refine (HgO.out _ _ _ ?_ ?_ ?_).mono ?_; exact rfl; exact rfl; (with_reducible repeat (first | exact hc | refine vb_d ?_)); rintro r w1 ⟨rfl, hc⟩; obtain ⟨y0, y1, y2, y3⟩ := HTB.out _ hc) | (go_at_call 78; refine (HOP.out _ ?_).mono ?_; (with_reducible repeat (first | exact hc | refine vb_d ?_)); rintro r w2 ⟨rfl, ov1, hj2, hm2, hb2⟩; have hc2 := Below.refl w2.heap.size w2) | (go_at_call 51; refine (HT.out _ _ _ _ ?_ hj2 ?_).mono ?_; exact rfl; (with_reducible repeat (first | exact hc2 | refine vb_d ?_)); rintro r w3 ⟨rfl, hj3, hm3, hb3⟩; unfold Lx.tokV; have hm4 := Mv.trans hm2 hm3; have hb4 := Below.trans hb2 hb3; obtain ⟨z0, z1, z2, z3⟩ := (HZT.out _ _ _ hm4).z4; obtain ⟨x0, x1, x2, x3⟩ := (HZT.out _ _ _ hm4).c4; obtain ⟨w4, hw4⟩ : ∃ w4, (((w3.setCell ⟨w.heap.size, 0, none⟩ (.int .i64 (t1.kind : Int))).setCell ⟨w.heap.size, 1, none⟩ (.string ⟨t1.text.toArray⟩)).setCell ⟨w.heap.size, 2, none⟩ (.int .i64 (t1.fr : Int))).setCell ⟨w.heap.size, 3, none⟩ (.int .i64 (t1.to : Int)) = w4 := ⟨_, rfl⟩; have HI4 := hid_intro (HNX.out _ _ hj3 hm4 hb4); unfold set4 at HI4; rw [hw4] at HI4; have hc4 := Below.refl w4.heap.size w4; obtain ⟨u0, u1, u2, u3⟩ := HI4.out.tb.c4) | (go_at_call 53; refine (HS1.out _ _ w4 _ ?_ ?_ ?_).mono ?_; exact rfl; exact rfl; (with_reducible repeat (first | exact hc4 | refine vb_d ?_)); rintro r w5 ⟨rfl, hc5⟩; obtain ⟨u0, u1, u2, u3⟩ := (HI4.out.tb.bel hc5).c4) | (go_at_call 79; refine (HVO.out _ _ w4 _ ?_ HI4.out.jr ?_).mono ?_; exact rfl; (with_reducible repeat (first | exact hc5 | refine vb_d ?_)); rintro r w6 ⟨rfl, hs2, hj6, hm6, hn6, hb6⟩; unfold Lx.tokV; obtain ⟨a0, a1, a2, a3⟩ := (HI4.out.tb.but hm6.but (HI4.out.jr.off hE0 hcl)).z4; obtain ⟨c0, c1, c2, c3⟩ := Bj.c4 (HI4.out.tb.but hm6.but (HI4.out.jr.off hE0 hcl))))
       go_roundg (l.length - s2.i)
       case measure => have := ho.2.1; omega
       case rel => exact ⟨k, t2, s2, _, hs2, rfl, hid_intro (HN2.out _ _ _ _ HI4.out hj6 hm6 hn6 hb6)⟩
     ·have HS1 : Hid (∀ tv fs w4 w', tv = .agg #[.int .i64 (t1.kind : Int), .string ⟨t1.text.toArray⟩, .int .i64 (t1.fr : Int), .int .i64 (t1.to : Int)] → fs = sgF → Below w4.heap.size w4 w' → Calls Tryz.prog 53 #[tv, .string fs] w' (fun r w2 => r = .returned (.bool true) ∧ Below w4.heap.size w4 w2)) := hid_intro (fun tv fs w4 w' htv hfs hb => by
       subst htv hfs
       refine (isSign_any (t1.kind : Int) (txtB t1) (t1.fr : Int) (t1.to : Int) sgF w').mono fun r w2 hr => ⟨hr.1.trans ?_, vb_t hb hr.2⟩
       have e : isL (t1.kind : Int) (txtB t1) (t1.fr : Int) (t1.to : Int) 4 sgF = true := hF1
       rw [e])
      simp only [hF1, ↓reduceIte] at HF
      go_wp2_with (first | (go_at_call 53; refine (HgA.out _ _ _ ?_ ?_ ?_).mono ?_; exact rfl; exact rfl; (with_reducible repeat (first | exact hc | refine vb_d ?_)); rintro r w1 ⟨rfl, hc⟩; obtain ⟨y0, y1, y2, y3⟩ := HTB.out _ hc) | (go_at_call 53; refine (HgO.out _ _ _ ?_ ?_ ?_).mono ?_; exact rfl; exact rfl; (with_reducible repeat (first | exact hc | refine vb_d ?_)); rintro r w1 ⟨rfl, hc⟩; obtain ⟨y0, y1, y2, y3⟩ := HTB.out _ hc) | (go_at_call 78; refine (HOP.out _ ?_).mono ?_; (with_reducible repeat (first | exact hc | refine vb_d ?_)); rintro r w2 ⟨rfl, ov1, hj2, hm2, hb2⟩; have hc2 := Below.refl w2.heap.size w2) | (go_at_call 51; refine (HT.out _ _ _ _ ?_ hj2 ?_).mono ?_; exact rfl; (with_reducible repeat (first | exact hc2 | refine vb_d ?_)); rintro r w3 ⟨rfl, hj3, hm3, hb3⟩; unfold Lx.tokV; have hm4 := Mv.trans hm2 hm3; have hb4 := Below.trans hb2 hb3; obtain ⟨z0, z1, z2, z3⟩ := (HZT.out _ _ _ hm4).z4; obtain ⟨x0, x1, x2, x3⟩ := (HZT.out _ _ _ hm4).c4; obtain ⟨w4, hw4⟩ : ∃ w4, (((w3.setCell ⟨w.heap.size, 0, none⟩ (.int .i64 (t1.kind : Int))).setCell ⟨w.heap.size, 1, none⟩ (.string ⟨t1.text.toArray⟩)).setCell ⟨w.heap.size, 2, none⟩ (.int .i64 (t1.fr : Int))).setCell ⟨w.heap.size, 3, none⟩ (.int .i64 (t1.to : Int)) = w4 := ⟨_, rfl⟩; have HI4 := hid_intro (HNX.out _ _ hj3 hm4 hb4); unfold set4 at HI4; rw [hw4] at HI4; have hc4 := Below.refl w4.heap.size w4; obtain ⟨u0, u1, u2, u3⟩ := HI4.out.tb.c4) | (go_at_call 53; refine (HS1.out _ _ w4 _ ?_ ?_ ?_).mono ?_; exact rfl; exact rfl; (with_reducible repeat (first | exact hc4 | refine vb_d ?_)); rintro r w5 ⟨rfl, hc5⟩))
      go_roundg (l.length - t1.to)
      case measure => omega
      case rel => exact ⟨k, t1, _, _, _, rfl, hid_intro (by have := HI4.out.bl hc5; rw [HF.out]; exact this)⟩
  ·have HF : Hid (Z = match takeS fovC l s'.i with
    | .error e => .error e
    | .ok t1 => firstS l (LMof lm) k t1 { openS 5 s' with i := t1.to }) := hid_intro (by rw [HEQ.out, firstS, if_pos HHA]; rfl)
   have HgA : Hid (∀ tv fs w', tv = .agg #[.int .i64 (t'.kind : Int), .string ⟨t'.text.toArray⟩, .int .i64 (t'.fr : Int), .int .i64 (t'.to : Int)] → fs = sgA → Below wr.heap.size wr w' → Calls Tryz.prog 53 #[tv, .string fs] w' (fun r w2 => r = .returned (.bool true) ∧ Below wr.heap.size wr w2)) := hid_intro (fun tv fs w' htv hfs hb => by
    subst htv hfs
    refine (isSign_any (t'.kind : Int) (txtB t') (t'.fr : Int) (t'.to : Int) sgA w').mono fun r w2 hr => ⟨hr.1.trans ?_, vb_t hb hr.2⟩
    have e : isL (t'.kind : Int) (txtB t') (t'.fr : Int) (t'.to : Int) 4 sgA = true := HHA
    rw [e])
   have HOP : Hid (∀ w', Below wr.heap.size wr w' → Calls Tryz.prog 78 #[.pointer (some ⟨rb, 0, none⟩), .int .i64 5] w' (fun r w2 => r = .returned (.tuple #[]) ∧ ∃ ov1, JR W l v lm rb (openS 5 s') ov1 (hs' ++ [h0 5]) w2 ∧ Mv rb ov' hs' wr ov1 (hs' ++ [h0 5]) w2 ∧ Below rb wr w2)) := hid_intro (fun w' hb => (open_any 5 (by omega) W l v lm rb s' ov' hs' w' (HI.out.jr.bl hb) hl HI.out.hn).mono fun r w2 hr => by
    obtain ⟨e1, ov1, e2, e3⟩ := hr
    have e4 := ((Mv.refl _ _ _ _).bel hb).trans e3
    exact ⟨e1, ov1, e2, e4, e4.below HI.out.jr.st HI.out.jr.rd.lt⟩)
   cases h1 : takeS fovC l s'.i with
   | error e =>
    have HT : Hid (∀ fs ov1 w2 w', fs = fovC → JR W l v lm rb (openS 5 s') ov1 (hs' ++ [h0 5]) w2 → Below w2.heap.size w2 w' → Calls Tryz.prog 51 #[.pointer (some ⟨rb, 0, none⟩), .string fs] w' (fun r w3 => r = stopE 3 (e : Nat) ∧ Below rb w2 w3)) := hid_intro (fun fs ov1 w2 w' hfs hj hb => by
     subst hfs
     refine (take_jr hE hB hl (hj.bl hb) fovC).mono fun r w3 hr => ?_
     have e1 : takeS fovC l (openS 5 s').i = .error e := h1
     rw [e1] at hr
     exact ⟨hr.1, (hb.mono (Nat.le_of_lt hj.rd.lt)).trans hr.2⟩)
    simp only [h1] at HF
    go_wp2_with (first | (go_at_call 53; refine (HgA.out _ _ _ ?_ ?_ ?_).mono ?_; exact rfl; exact rfl; (with_reducible repeat (first | exact hc | refine vb_d ?_)); rintro r w1 ⟨rfl, hc⟩; obtain ⟨y0, y1, y2, y3⟩ := HTB.out _ hc) | (go_at_call 78; refine (HOP.out _ ?_).mono ?_; (with_reducible repeat (first | exact hc | refine vb_d ?_)); rintro r w2 ⟨rfl, ov1, hj2, hm2, hb2⟩; have hc2 := Below.refl w2.heap.size w2) | (go_at_call 51; refine (HT.out _ _ _ _ ?_ hj2 ?_).mono ?_; exact rfl; (with_reducible repeat (first | exact hc2 | refine vb_d ?_)); rintro r w3 ⟨rfl, hb3⟩; unfold stopE))
    all_goals
     rw [HP.out, HF.out]
     exact ⟨rfl, rfl, (HI.out.bw.trans hb2).trans hb3⟩
   | ok t1 =>
    have HT : Hid (∀ fs ov1 w2 w', fs = fovC → JR W l v lm rb (openS 5 s') ov1 (hs' ++ [h0 5]) w2 → Below w2.heap.size w2 w' → Calls Tryz.prog 51 #[.pointer (some ⟨rb, 0, none⟩), .string fs] w' (fun r w3 => r = .returned (Lx.tokV t1) ∧ JR W l v lm rb { openS 5 s' with i := t1.to } ov1 (hs' ++ [h0 5]) w3 ∧ Mv rb ov1 (hs' ++ [h0 5]) w2 ov1 (hs' ++ [h0 5]) w3 ∧ Below rb w2 w3)) := hid_intro (fun fs ov1 w2 w' hfs hj hb => by
     subst hfs
     refine (take_jr hE hB hl (hj.bl hb) fovC).mono fun r w3 hr => ?_
     have e1 : takeS fovC l (openS 5 s').i = .ok t1 := h1
     rw [e1] at hr
     have e2 : But (· = rb) w2 w3 := (But.ofBelow hb).trans hr.2.2.1
     exact ⟨hr.1, hr.2.1, Mv.rb e2, but_rb e2 hj.rd.lt⟩)
    simp only [h1] at HF
    have ho := takeL_ok h1
    have HNX : Hid (∀ ov1 w3, JR W l v lm rb { openS 5 s' with i := t1.to } ov1 (hs' ++ [h0 5]) w3 → Mv rb ov' hs' wr ov1 (hs' ++ [h0 5]) w3 → Below rb wr w3 → FI W l v lm rb ov hs w Z k t1 { openS 5 s' with i := t1.to } ov1 (hs' ++ [h0 5]) (set4 w3 w.heap.size t1)) := hid_intro (fun ov1 w3 hj hm hb => HI.out.next hE0 hE1 hcl hj hm hb HF.out (by have := HI.out.kn; show _ < k + t1.to; omega) ho.2.2 (by have := HI.out.hn; show _ < t1.to; simp; omega) (Or.inl (by simp)))
    go_wp2_with (first | (go_at_call 53; refine (HgA.out _ _ _ ?_ ?_ ?_).mono ?_; exact rfl; exact rfl; (with_reducible repeat (first | exact hc | refine vb_d ?_)); rintro r w1 ⟨rfl, hc⟩; obtain ⟨y0, y1, y2, y3⟩ := HTB.out _ hc) | (go_at_call 78; refine (HOP.out _ ?_).mono ?_; (with_reducible repeat (first | exact hc | refine vb_d ?_)); rintro r w2 ⟨rfl, ov1, hj2, hm2, hb2⟩; have hc2 := Below.refl w2.heap.size w2) | (go_at_call 51; refine (HT.out _ _ _ _ ?_ hj2 ?_).mono ?_; exact rfl; (with_reducible repeat (first | exact hc2 | refine vb_d ?_)); rintro r w3 ⟨rfl, hj3, hm3, hb3⟩; unfold Lx.tokV; have hm4 := Mv.trans hm2 hm3; have hb4 := Below.trans hb2 hb3; obtain ⟨z0, z1, z2, z3⟩ := (HZT.out _ _ _ hm4).z4; obtain ⟨x0, x1, x2, x3⟩ := (HZT.out _ _ _ hm4).c4))
    go_roundg (l.length - t1.to)
    case measure => omega
    case rel => exact ⟨k, t1, _, _, _, rfl, hid_intro (HNX.out _ _ hj3 hm4 hb4)⟩
theorem first_any [X : Ex] (W : World) (l : List UInt8) (v : Value) (lm : Nat → Int) (rb : Nat) (s : SS) (ov : Value) (hs : List HC) (w : World) (t : Lx.Tok) (N : Nat) (a : Addr) (hE : Lx.Env W) (hD : Env W a) (hB : Lx.Byt W v l) (hJ : JR W l v lm rb s ov hs w) (hl : l.length ≤ 1048576) (ht : t.text.length ≤ l.length) (hn : hs.length < s.i) (hne : hs ≠ [] ∨ ¬ (sgnB t sgE = true ∨ sgnB t sgF = true)) (h3 : 0 ≤ lm 2 ∧ lm 2 ≤ 1000000) (hVS : ∀ (t : Lx.Tok) (p : Nat) w X, t.text.length ≤ 1048576 → VI w X (simpleS (LMof lm) t p).1 (simF (LMof lm) t p)) (hN : l.length < N + s.i) :
  Calls Tryz.prog 50 #[.pointer (some ⟨rb, 0, none⟩), Lx.tokV t] w (StepR (firstS l (LMof lm) N t s) (fun x r w' => ∃ f ov' hs', r = .returned (va f) ∧ JR W l v lm rb x.2 ov' hs' w' ∧ VI w' (mX rb ov' hs') x.1 f ∧ Mv rb ov hs w ov' hs' w') rb w) := by
 refine (@first_run (exAdd X (fun b => b = w.heap.size ∨ b = w.heap.size + 1)) W l v lm rb s ov hs w t N a hE hD hB (fun A hA hlt => hJ.add hA _ (fun b e => by omega)) hJ.rd.lt (Or.inr (Or.inl rfl)) (Or.inr (Or.inr rfl)) hl ht hn hne h3 hVS hN).mono fun r w' hr => ?_
 cases hv : firstS l (LMof lm) N t s with
 | error e => rw [hv] at hr; exact hr
 | ok x =>
  rw [hv] at hr
  obtain ⟨f, ov', hs', h1, h2, h3, h4⟩ := hr
  exact ⟨f, ov', hs', h1, JR.less h2, vi_less h3, h4⟩
end Go.Proofs.YtjakgdaodlgeaaaGreatDoor
