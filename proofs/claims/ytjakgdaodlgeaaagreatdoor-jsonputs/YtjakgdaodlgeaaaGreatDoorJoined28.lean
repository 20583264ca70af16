/-
  What json's reader reads of the value behind a key. Conditions: at most 2^20 bytes; the tables as they are laid.
-/
import Derived.Test.YtjakgdaodlgeaaaGreatDoorJoined27
namespace Go.Proofs.YtjakgdaodlgeaaaGreatDoor
open Go.RowKit Go.Maps

theorem JR.side1 [Ex] {W : World} {l : List UInt8} {v : Value} {lm : Nat → Int} {rb : Nat} {s : SS} {ov : Value} {hs : List HC} {w w' : World} (h : JR W l v lm rb s ov hs w) {c : Nat} (hc : Ex.E c) (hlt : rb < c) (hb : But (· = c) w w') : JR W l v lm rb s ov hs w' := by
 have he : w'.heap[rb]? = w.heap[rb]? := hb.block rb h.rd.lt (by omega)
 refine ⟨fun j hj => ⟨(World.cell?_of_block (w := w) (w' := w') he).trans (h.rd j hj).1, by have := (h.rd j hj).2; unfold World.frozen? at this ⊢; rw [he]; exact this⟩, h.st.side (hb.mono fun b e => by cases e; exact hc), h.eq, h.sn, ?_, h.lo, h.le, h.n1, h.n2, h.n3⟩
 exact h.bel.trans ⟨hb.os, hb.tape, hb.output, hb.size, fun k hk => hb.block k (by have := h.rd.lt; have := h.lo; omega) (by have := h.lo; omega)⟩
theorem JR.bl [Ex] {W : World} {l : List UInt8} {v : Value} {lm : Nat → Int} {rb : Nat} {s : SS} {ov : Value} {hs : List HC} {w w' : World} (h : JR W l v lm rb s ov hs w) (hb : Below w.heap.size w w') : JR W l v lm rb s ov hs w' := ⟨h.rd.below hb, h.st.bel hb, h.eq, h.sn, vb_t h.bel hb, h.lo, h.le, h.n1, h.n2, h.n3⟩
theorem Mv.new {rb : Nat} {ov ov1 : Value} {hs hs1 : List HC} {w w1 w2 : World} (h : Mv rb ov hs w ov1 hs1 w1) {c : Nat} (hb : But (· = c) w1 w2) (hc : w.heap.size ≤ c) : Mv rb ov hs w ov1 hs1 w2 :=
 ⟨⟨hb.os.trans h.but.os, hb.tape.trans h.but.tape, hb.output.trans h.but.output, Nat.le_trans h.but.size hb.size, fun k hk hx => (hb.block k (Nat.lt_of_lt_of_le hk h.but.size) (by omega)).trans (h.but.block k hk hx)⟩, h.sub⟩
theorem set4_but (w : World) (c : Nat) (a0 a1 a2 a3 : Value) : But (· = c) w ((((w.setCell ⟨c, 0, none⟩ a0).setCell ⟨c, 1, none⟩ a1).setCell ⟨c, 2, none⟩ a2).setCell ⟨c, 3, none⟩ a3) :=
 ((((But.refl _ w).setr a0).setr a1).setr a2).setr a3
set_option maxRecDepth 100000 in
set_option maxHeartbeats 3200000 in
theorem valueOf_run [Ex] (W : World) (l : List UInt8) (v : Value) (lm : Nat → Int) (rb : Nat) (s : SS) (ob n cap : Nat) (hs0 : List HC) (h : HC) (w : World) (t : Lx.Tok) (hE : Lx.Env W) (hB : Lx.Byt W v l) (hJ0 : ∀ A, Below w.heap.size w A → w.heap.size + 1 < A.heap.size → JR W l v lm rb s (.slice (some ⟨ob, 0, none⟩) n cap) (hs0 ++ [h]) A) (hst0 : ∀ b ∈ muts (.slice (some ⟨ob, 0, none⟩) n cap) (hs0 ++ [h]), b < w.heap.size) (hcl : rb < w.heap.size) (hEx : Ex.E (w.heap.size + 1)) (hl : l.length ≤ 1048576) (ht : t.text.length ≤ l.length) (hn : h.ks.length < s.i) :
  Calls Tryz.prog 79 #[.pointer (some ⟨rb, 0, none⟩), Lx.tokV t] w (StepR (valueOfS l t s) (fun x r w' => r = .returned (Lx.tokV x.1) ∧ ∃ kv mv, JR W l v lm rb x.2 (.slice (some ⟨ob, 0, none⟩) n cap) (hs0 ++ [hkey h kv mv (txtB t)]) w' ∧ Mv rb (.slice (some ⟨ob, 0, none⟩) n cap) (hs0 ++ [h]) w (.slice (some ⟨ob, 0, none⟩) n cap) (hs0 ++ [hkey h kv mv (txtB t)]) w') rb w) := by
 obtain ⟨P, hP⟩ : ∃ P : Ending → World → Prop, P = StepR (valueOfS l t s) (fun x r w' => r = .returned (Lx.tokV x.1) ∧ ∃ kv mv, JR W l v lm rb x.2 (.slice (some ⟨ob, 0, none⟩) n cap) (hs0 ++ [hkey h kv mv (txtB t)]) w' ∧ Mv rb (.slice (some ⟨ob, 0, none⟩) n cap) (hs0 ++ [h]) w (.slice (some ⟨ob, 0, none⟩) n cap) (hs0 ++ [hkey h kv mv (txtB t)]) w') rb w := ⟨_, rfl⟩
 rw [← hP]
 have HP := hid_intro hP
 obtain ⟨A, hA⟩ : ∃ A, (w.alloc (.cells #[.int .i64 (t.kind : Int), .string ⟨t.text.toArray⟩, .int .i64 (t.fr : Int), .int .i64 (t.to : Int)] 50)).alloc (.cells #[.int .i64 0, .string ⟨#[]⟩, .int .i64 0, .int .i64 0] 50) = A := ⟨_, rfl⟩
 have HBA : Hid (Below w.heap.size w A) := hid_intro (hA ▸ vb_a (vb_a (Below.refl _ _) _) _)
 have HVA : Hid (Bj A (w.heap.size + 1) #[.int .i64 0, .string ⟨#[]⟩, .int .i64 0, .int .i64 0]) := hid_intro (hA ▸ Bj.new' _ _ _ _ (by simp))
 have hJ := hJ0 A HBA.out (HVA.out.lt)
 have hlast := lastS_of hJ
 have hnn : n = hs0.length + 1 := by
  obtain ⟨_, _, e, _⟩ := own_shape hJ.st.row
  injection e with _ e _
  simpa using e
 subst hnn
 have hN0 : hs0.length ≤ 1048576 := by have h1 := hJ.n1; have := hJ.le; simp at h1; omega
 have HTA : Hid (Bj A w.heap.size #[.int .i64 (t.kind : Int), .string ⟨t.text.toArray⟩, .int .i64 (t.fr : Int), .int .i64 (t.to : Int)]) := hid_intro (hA ▸ (Bj.new _ _ _).al _)
 have hsz : (txtB t).size ≤ 1048576 := by show t.text.toArray.size ≤ _; simp; omega
 have HIN : Hid (∀ w', Below A.heap.size A w' → Calls Tryz.prog 52 #[.pointer (some ⟨rb, 0, none⟩)] w' fun r w2 => r = .returned (.pointer (some ⟨ob, hs0.length * 4, none⟩)) ∧ Below A.heap.size A w2) := hid_intro (fun w' hb => (innermost_any rb ob hs0.length cap _ w' (hJ.rd.below hb) rfl hN0).mono fun r w2 hr => ⟨hr.1, vb_t hb hr.2⟩)
 have HKP : Hid (∀ w', Below A.heap.size A w' → Calls Tryz.prog 104 #[.pointer (some ⟨ob, hs0.length * 4, none⟩), .string (txtB t)] w' fun r w2 => (inK (txtB t) h.ks = true ∧ r = .returned (.bool false) ∧ Below A.heap.size A w2) ∨ (inK (txtB t) h.ks = false ∧ r = .returned (.bool true) ∧ ∃ kv mv, ST w2 rb (.slice (some ⟨ob, 0, none⟩) (hs0.length + 1) cap) (hs0 ++ [hkey h kv mv (txtB t)]) ∧ Mr rb (.slice (some ⟨ob, 0, none⟩) (hs0.length + 1) cap) (hs0 ++ [h]) A (.slice (some ⟨ob, 0, none⟩) (hs0.length + 1) cap) (hs0 ++ [hkey h kv mv (txtB t)]) w2)) := hid_intro (fun w' hb => by
  have hst := hJ.st.bel hb
  refine (keep_any rb ob _ cap hs0 h (txtB t) w' hst hsz (by have := (hJ.n2 h (by simp)).2; have := hJ.le; omega) (hJ.sn h (by simp)) (Nat.lt_of_lt_of_le hJ.rd.lt hb.size)).mono fun r w2 hr => ?_
  rcases hr with ⟨h1, h2, h3⟩ | ⟨h1, h2, kv, mv, h3, h4⟩
  ·exact Or.inl ⟨h1, h2, vb_t hb h3⟩
  ·exact Or.inr ⟨h1, h2, kv, mv, h3, (Mr.bel (Mr.refl _ _ _ _) hb).trans h4⟩)
 have HS : Hid (∀ w', Below A.heap.size A w' → w'.cell? ⟨w.heap.size, 1, none⟩ = some (.string (txtB t))) := hid_intro (fun w' hb => (HTA.out.bel hb).cell 1)
 cases hin : inK (txtB t) h.ks
 ·have HK1 : Hid (∀ w', Below A.heap.size A w' → Calls Tryz.prog 104 #[.pointer (some ⟨ob, hs0.length * 4, none⟩), .string (txtB t)] w' fun r w2 => r = .returned (.bool true) ∧ ∃ kv mv, ST w2 rb (.slice (some ⟨ob, 0, none⟩) (hs0.length + 1) cap) (hs0 ++ [hkey h kv mv (txtB t)]) ∧ Mr rb (.slice (some ⟨ob, 0, none⟩) (hs0.length + 1) cap) (hs0 ++ [h]) A (.slice (some ⟨ob, 0, none⟩) (hs0.length + 1) cap) (hs0 ++ [hkey h kv mv (txtB t)]) w2) := hid_intro (fun w' hb => (HKP.out w' hb).mono fun r w2 hr => by
   rcases hr with ⟨h1, _⟩ | ⟨_, h2, h3⟩
   ·rw [hin] at h1; cases h1
   ·exact ⟨h2, h3⟩)
  have HV : Hid (valueOfS l t s = match takeS sgD l s.i with
   | .error e => .error e
   | .ok t1 => match takeS fov l t1.to with
    | .error e => .error e
    | .ok t2 => .ok (t2, { addK (txtB t) s with i := t2.to })) := hid_intro (by unfold valueOfS; rw [hlast, hin]; rfl)
  have HTK := hid_intro (fun (s' : SS) (hs' : List HC) (w' : World) (hj : JR W l v lm rb s' (.slice (some ⟨ob, 0, none⟩) (hs0.length + 1) cap) hs' w') fs => take_jr hE hB hl hj fs)
  have HMX : Hid (∀ b, w.heap.size ≤ b → ¬ wX rb (.slice (some ⟨ob, 0, none⟩) (hs0.length + 1) cap) (hs0 ++ [h]) b) := hid_intro (fun b hb e => by
   rcases e with e | e
   ·omega
   ·have := hst0 b e; omega)
  have HS4 : Hid (∀ w' kv mv, Mr rb (.slice (some ⟨ob, 0, none⟩) (hs0.length + 1) cap) (hs0 ++ [h]) A (.slice (some ⟨ob, 0, none⟩) (hs0.length + 1) cap) (hs0 ++ [hkey h kv mv (txtB t)]) w' → w'.cell? ⟨w.heap.size, 1, none⟩ = some (.string (txtB t)) ∧ Bj w' (w.heap.size + 1) #[.int .i64 0, .string ⟨#[]⟩, .int .i64 0, .int .i64 0]) := hid_intro (fun w' kv mv hm => ⟨(HTA.out.but hm.mv.but (HMX.out _ (Nat.le_refl _))).cell 1, HVA.out.but hm.mv.but (HMX.out _ (Nat.le_succ _))⟩)
  have HKJ : Hid (∀ w' kv mv, ST w' rb (.slice (some ⟨ob, 0, none⟩) (hs0.length + 1) cap) (hs0 ++ [hkey h kv mv (txtB t)]) → Mr rb (.slice (some ⟨ob, 0, none⟩) (hs0.length + 1) cap) (hs0 ++ [h]) A (.slice (some ⟨ob, 0, none⟩) (hs0.length + 1) cap) (hs0 ++ [hkey h kv mv (txtB t)]) w' → JR W l v lm rb (addK (txtB t) s) (.slice (some ⟨ob, 0, none⟩) (hs0.length + 1) cap) (hs0 ++ [hkey h kv mv (txtB t)]) w' ∧ Mr rb (.slice (some ⟨ob, 0, none⟩) (hs0.length + 1) cap) (hs0 ++ [h]) w (.slice (some ⟨ob, 0, none⟩) (hs0.length + 1) cap) (hs0 ++ [hkey h kv mv (txtB t)]) w') := hid_intro (fun w' kv mv h1 h2 => by
   exact ⟨hJ.keep h1 h2 hn, (Mr.bel (Mr.refl _ _ _ _) HBA.out).trans h2⟩)
  have hc := Below.refl A.heap.size A
  have hne : w.heap.size + 1 ≠ rb := by omega
  have HST0 := hid_intro hJ.st
  unfold Lx.tokV
  clear hP hJ hJ0 hst0 hE hB hl ht hn hlast hin HKP hsz
  go_enter Tryz.func79, Tryz.ntmps79
  go_wp2_with fail
  go_region_held3 (fun w' => w'.cell? ⟨w.heap.size, 1, none⟩ = some (.string (txtB t))) (first | (refine (HS4.out _ kv mv ?_).1; with_reducible repeat (first | exact hmv4)) | (refine HS.out _ ?_; with_reducible repeat (first | exact hc | refine vb_d ?_)) | fail) (first | (go_at_call 52; refine (HIN.out _ ?_).mono ?_; (with_reducible repeat (first | exact hc | refine vb_d ?_)); rintro r w3 ⟨rfl, hc⟩) | (go_at_call 104; refine (HK1.out _ ?_).mono ?_; (with_reducible repeat (first | exact hc | refine vb_d ?_)); rintro r w4 ⟨rfl, kv, mv, hst4, hmv4⟩) | fail)
  all_goals
   obtain ⟨hj4, hm4⟩ := HKJ.out _ _ _ hst4 hmv4
   have HB4 := hid_intro (HS4.out _ _ _ hmv4).2
   have hl4 : rb < w4.heap.size := hj4.rd.lt
   have hbw4 : Below rb w w4 := (HBA.out.mono (Nat.le_of_lt hcl)).trans (hmv4.mv.below HST0.out (Nat.lt_of_lt_of_le hcl HBA.out.size))
   have hc4 := Below.refl w4.heap.size w4
   have HJ4 := hid_intro hj4
   have HM4 := hid_intro hm4
   clear HKJ HS4 HK1 HIN HS HST0 hst4 hmv4 hj4 hm4 HTA HVA hA
   cases h1 : takeS sgD l s.i with
   | error e =>
    have HT : Hid (∀ fs w', fs = sgD → Below w4.heap.size w4 w' → Calls Tryz.prog 51 #[.pointer (some ⟨rb, 0, none⟩), .string fs] w' (fun r w2 => r = stopE 3 (e : Nat) ∧ Below rb w4 w2)) := hid_intro (fun fs w' hfs hb => by
     subst hfs
     refine (HTK.out _ _ w' (HJ4.out.bl hb) sgD).mono fun r w2 hr => ?_
     have e1 : takeS sgD l (addK (txtB t) s).i = .error e := h1
     rw [e1] at hr
     exact ⟨hr.1, (hb.mono (Nat.le_of_lt hl4)).trans hr.2⟩)
    rw [h1] at HV
    clear HTK
    go_wp2_with (go_at_call 51; refine (HT.out _ _ ?_ ?_).mono ?_; exact rfl; (with_reducible repeat (first | exact hc4 | refine vb_d ?_)); rintro r w5 ⟨rfl, hb5⟩; unfold stopE)
    rw [HP.out, HV.out]
    exact ⟨rfl, rfl, hbw4.trans hb5⟩
   | ok t1 =>
    have HT : Hid (∀ fs w', fs = sgD → Below w4.heap.size w4 w' → Calls Tryz.prog 51 #[.pointer (some ⟨rb, 0, none⟩), .string fs] w' (fun r w2 => r = .returned (Lx.tokV t1) ∧ JR W l v lm rb { addK (txtB t) s with i := t1.to } (.slice (some ⟨ob, 0, none⟩) (hs0.length + 1) cap) (hs0 ++ [hkey h kv mv (txtB t)]) w2 ∧ But (· = rb) w4 w2)) := hid_intro (fun fs w' hfs hb => by
     subst hfs
     refine (HTK.out _ _ w' (HJ4.out.bl hb) sgD).mono fun r w2 hr => ?_
     have e1 : takeS sgD l (addK (txtB t) s).i = .ok t1 := h1
     rw [e1] at hr
     exact ⟨hr.1, hr.2.1, (But.ofBelow hb).trans hr.2.2.1⟩)
    rw [h1] at HV
    cases h2 : takeS fov l t1.to with
    | error e =>
     have HT2 : Hid (∀ fs w5 w', fs = fov → JR W l v lm rb { addK (txtB t) s with i := t1.to } (.slice (some ⟨ob, 0, none⟩) (hs0.length + 1) cap) (hs0 ++ [hkey h kv mv (txtB t)]) w5 → Below w5.heap.size w5 w' → Calls Tryz.prog 51 #[.pointer (some ⟨rb, 0, none⟩), .string fs] w' (fun r w2 => r = stopE 3 (e : Nat) ∧ Below rb w5 w2)) := hid_intro (fun fs w5 w' hfs hj hb => by
      subst hfs
      refine (HTK.out _ _ w' (hj.bl hb) fov).mono fun r w2 hr => ?_
      rw [h2] at hr
      exact ⟨hr.1, (hb.mono (Nat.le_of_lt hj.rd.lt)).trans hr.2⟩)
     simp only [h2] at HV
     clear HTK
     go_wp2_with (first | (go_at_call 51; refine (HT.out _ _ ?_ ?_).mono ?_; exact rfl; (with_reducible repeat (first | exact hc4 | refine vb_d ?_)); rintro r w5 ⟨rfl, hj5, hb5⟩; have hc5 := Below.refl w5.heap.size w5) | (go_at_call 51; refine (HT2.out _ w5 _ ?_ hj5 ?_).mono ?_; exact rfl; (with_reducible repeat (first | exact hc5 | refine vb_d ?_)); rintro r w6 ⟨rfl, hb6⟩; unfold stopE))
     rw [HP.out, HV.out]
     exact ⟨rfl, rfl, (hbw4.trans (but_rb hb5 hl4)).trans hb6⟩
    | ok t2 =>
     have HT2 : Hid (∀ fs w5 w', fs = fov → JR W l v lm rb { addK (txtB t) s with i := t1.to } (.slice (some ⟨ob, 0, none⟩) (hs0.length + 1) cap) (hs0 ++ [hkey h kv mv (txtB t)]) w5 → Below w5.heap.size w5 w' → Calls Tryz.prog 51 #[.pointer (some ⟨rb, 0, none⟩), .string fs] w' (fun r w2 => r = .returned (Lx.tokV t2) ∧ JR W l v lm rb { addK (txtB t) s with i := t2.to } (.slice (some ⟨ob, 0, none⟩) (hs0.length + 1) cap) (hs0 ++ [hkey h kv mv (txtB t)]) w2 ∧ But (· = rb) w5 w2)) := hid_intro (fun fs w5 w' hfs hj hb => by
      subst hfs
      refine (HTK.out _ _ w' (hj.bl hb) fov).mono fun r w2 hr => ?_
      rw [h2] at hr
      exact ⟨hr.1, hr.2.1, (But.ofBelow hb).trans hr.2.2.1⟩)
     simp only [h2] at HV
     have HZ : Hid (∀ w5 w6, But (· = rb) w4 w5 → But (· = rb) w5 w6 → Bj w6 (w.heap.size + 1) #[.int .i64 0, .string ⟨#[]⟩, .int .i64 0, .int .i64 0]) := hid_intro (fun w5 w6 h5 h6 => (HB4.out.but h5 hne).but h6 hne)
     clear HTK
     go_wp2_with (first | (go_at_call 51; refine (HT.out _ _ ?_ ?_).mono ?_; exact rfl; (with_reducible repeat (first | exact hc4 | refine vb_d ?_)); rintro r w5 ⟨rfl, hj5, hb5⟩; have hc5 := Below.refl w5.heap.size w5) | (go_at_call 51; refine (HT2.out _ w5 _ ?_ hj5 ?_).mono ?_; exact rfl; (with_reducible repeat (first | exact hc5 | refine vb_d ?_)); rintro r w6 ⟨rfl, hj6, hb6⟩; unfold Lx.tokV; obtain ⟨z0, z1, z2, z3⟩ := (HZ.out _ _ hb5 hb6).z4; obtain ⟨y0, y1, y2, y3⟩ := (HZ.out _ _ hb5 hb6).c4))
     all_goals
      refine bodyPost_ret (v := Lx.tokV t2) (by simp [results, Tryz.results79, go_sem, Lx.tokV, y0, y1, y2, y3]) rfl ?_
      rw [HP.out, HV.out]
      have hb7 := set4_but w6 (w.heap.size + 1) (.int .i64 (t2.kind : Int)) (.string ⟨t2.text.toArray⟩) (.int .i64 (t2.fr : Int)) (.int .i64 (t2.to : Int))
      exact ⟨rfl, kv, mv, hj6.side1 hEx (by omega) hb7, Mv.new ((HM4.out.mv.trans (Mv.rb hb5)).trans (Mv.rb hb6)) hb7 (by omega)⟩
 ·have HV : Hid (valueOfS l t s = .error t.to) := hid_intro (by unfold valueOfS; rw [hlast, if_pos hin])
  have HK1 : Hid (∀ w', Below A.heap.size A w' → Calls Tryz.prog 104 #[.pointer (some ⟨ob, hs0.length * 4, none⟩), .string (txtB t)] w' fun r w2 => r = .returned (.bool false) ∧ Below A.heap.size A w2) := hid_intro (fun w' hb => (HKP.out w' hb).mono fun r w2 hr => by
   rcases hr with ⟨_, h2, h3⟩ | ⟨h1, _⟩
   ·exact ⟨h2, h3⟩
   ·rw [hin] at h1; cases h1)
  have cm := fun w => malformed_any (t.to : Int) w
  have hc := Below.refl A.heap.size A
  unfold Lx.tokV
  clear hP hJ hJ0 hst0 hE hB hl ht hn hlast hin HKP hsz
  go_enter Tryz.func79, Tryz.ntmps79
  go_wp2_with fail
  go_region_held3 (fun w' => w'.cell? ⟨w.heap.size, 1, none⟩ = some (.string (txtB t))) (first | (refine HS.out _ ?_; with_reducible repeat (first | exact hc | refine vb_d ?_)) | fail) (first | (go_at_call 52; refine (HIN.out _ ?_).mono ?_; (with_reducible repeat (first | exact hc | refine vb_d ?_)); rintro r w3 ⟨rfl, hc⟩) | (go_at_call 104; refine (HK1.out _ ?_).mono ?_; (with_reducible repeat (first | exact hc | refine vb_d ?_)); rintro r w3 ⟨rfl, hc⟩) | fail)
  all_goals
   obtain ⟨t0, t1, t2, t3⟩ := (HTA.out.bel hc).c4
   go_wp2_with (go_at_call 83; refine (cm _).mono ?_; rintro r w5 ⟨rfl, hb5⟩)
   rw [HP.out, HV.out]
   exact ⟨rfl, rfl, (vb_t (vb_t HBA.out hc) hb5).mono (Nat.le_of_lt hcl)⟩
theorem valueOf_any [X : Ex] (W : World) (l : List UInt8) (v : Value) (lm : Nat → Int) (rb : Nat) (s : SS) (ob n cap : Nat) (hs0 : List HC) (h : HC) (w : World) (t : Lx.Tok) (hE : Lx.Env W) (hB : Lx.Byt W v l) (hJ : JR W l v lm rb s (.slice (some ⟨ob, 0, none⟩) n cap) (hs0 ++ [h]) w) (hl : l.length ≤ 1048576) (ht : t.text.length ≤ l.length) (hn : h.ks.length < s.i) :
  Calls Tryz.prog 79 #[.pointer (some ⟨rb, 0, none⟩), Lx.tokV t] w (StepR (valueOfS l t s) (fun x r w' => r = .returned (Lx.tokV x.1) ∧ ∃ kv mv, JR W l v lm rb x.2 (.slice (some ⟨ob, 0, none⟩) n cap) (hs0 ++ [hkey h kv mv (txtB t)]) w' ∧ Mv rb (.slice (some ⟨ob, 0, none⟩) n cap) (hs0 ++ [h]) w (.slice (some ⟨ob, 0, none⟩) n cap) (hs0 ++ [hkey h kv mv (txtB t)]) w') rb w) := by
 refine (@valueOf_run (exAdd X (fun b => b = w.heap.size + 1)) W l v lm rb s ob n cap hs0 h w t hE hB (fun A hA hlt => hJ.add hA _ (fun b e => by omega)) (fun b hb => (hJ.st.lt b hb).2) hJ.rd.lt (Or.inr rfl) hl ht hn).mono fun r w' hr => ?_
 cases hv : valueOfS l t s with
 | error e => rw [hv] at hr; exact hr
 | ok x =>
  rw [hv] at hr
  obtain ⟨h1, kv, mv, h2, h3⟩ := hr
  exact ⟨h1, kv, mv, JR.less h2, h3⟩
end Go.Proofs.YtjakgdaodlgeaaaGreatDoor
