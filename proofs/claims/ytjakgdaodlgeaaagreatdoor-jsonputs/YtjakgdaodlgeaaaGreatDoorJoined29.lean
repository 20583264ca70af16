/-
  What json's reader reads of a further value. Conditions: at most 2^20 bytes; the tables as they are laid.
  What stands behind a text, and the limits of it. Conditions: at most 2^20 bytes; the tables as they are laid.
  Where the loop of json's first stands. Conditions: as J15's.
-/
import Derived.Test.YtjakgdaodlgeaaaGreatDoorJoined28
namespace Go.Proofs.YtjakgdaodlgeaaaGreatDoor
open Go.RowKit Go.Maps

theorem valueOfS_ok {l : List UInt8} {t : Lx.Tok} {s : SS} {x : Lx.Tok × SS} (h : valueOfS l t s = .ok x) : s.i < x.2.i ∧ x.1.text.length ≤ l.length := by
 unfold valueOfS at h
 split at h
 ·cases h
 ·split at h
  ·cases h
  ·rename_i t1 h1
   split at h
   ·cases h
   ·rename_i t2 h2
    cases h
    have a := takeL_ok h1
    have c := takeL_ok h2
    exact ⟨Nat.lt_trans a.1 c.1, c.2.2⟩
set_option maxRecDepth 100000 in
set_option maxHeartbeats 3200000 in
theorem nextOf_run [Ex] (W : World) (l : List UInt8) (v : Value) (lm : Nat → Int) (rb : Nat) (s : SS) (ob n cap : Nat) (hs0 : List HC) (h : HC) (w : World) (hE : Lx.Env W) (hB : Lx.Byt W v l) (hJ0 : ∀ A, Below w.heap.size w A → w.heap.size < A.heap.size → JR W l v lm rb s (.slice (some ⟨ob, 0, none⟩) n cap) (hs0 ++ [h]) A) (hst0 : ∀ b ∈ muts (.slice (some ⟨ob, 0, none⟩) n cap) (hs0 ++ [h]), b < w.heap.size) (hcl : rb < w.heap.size) (hEx : Ex.E w.heap.size) (hl : l.length ≤ 1048576) :
  Calls Tryz.prog 55 #[.pointer (some ⟨rb, 0, none⟩), .pointer (some ⟨ob, hs0.length * 4, none⟩)] w (StepR (nextOfS l s) (fun x r w' => r = .returned (Lx.tokV x.1) ∧ ∃ hs', JR W l v lm rb x.2 (.slice (some ⟨ob, 0, none⟩) n cap) hs' w' ∧ Mv rb (.slice (some ⟨ob, 0, none⟩) n cap) (hs0 ++ [h]) w (.slice (some ⟨ob, 0, none⟩) n cap) hs' w') rb w) := by
 obtain ⟨P, hP⟩ : ∃ P : Ending → World → Prop, P = StepR (nextOfS l s) (fun x r w' => r = .returned (Lx.tokV x.1) ∧ ∃ hs', JR W l v lm rb x.2 (.slice (some ⟨ob, 0, none⟩) n cap) hs' w' ∧ Mv rb (.slice (some ⟨ob, 0, none⟩) n cap) (hs0 ++ [h]) w (.slice (some ⟨ob, 0, none⟩) n cap) hs' w') rb w := ⟨_, rfl⟩
 rw [← hP]
 have HP := hid_intro hP
 obtain ⟨A, hA⟩ : ∃ A, w.alloc (.cells #[.int .i64 0, .string ⟨#[]⟩, .int .i64 0, .int .i64 0] 50) = A := ⟨_, rfl⟩
 have HBA : Hid (Below w.heap.size w A) := hid_intro (hA ▸ vb_a (Below.refl _ _) _)
 have HVA : Hid (Bj A w.heap.size #[.int .i64 0, .string ⟨#[]⟩, .int .i64 0, .int .i64 0]) := hid_intro (hA ▸ Bj.new _ _ _)
 have hJ := hJ0 A HBA.out HVA.out.lt
 have HJ := hid_intro hJ
 have hlast := lastS_of hJ
 have hbA : Below rb w A := HBA.out.mono (Nat.le_of_lt hcl)
 have hlA : rb < A.heap.size := hJ.rd.lt
 have hcA := Below.refl A.heap.size A
 have hne : w.heap.size ≠ rb := by omega
 have HTK := hid_intro (fun (s' : SS) (hs' : List HC) (w' : World) (hj : JR W l v lm rb s' (.slice (some ⟨ob, 0, none⟩) n cap) hs' w') fs => take_jr hE hB hl hj fs)
 have HX : Hid (¬ wX rb (.slice (some ⟨ob, 0, none⟩) n cap) (hs0 ++ [h]) w.heap.size) := hid_intro (by
  rintro (e | e)
  ·omega
  ·have := hst0 _ e; omega)
 have HF : Hid (∀ (t2 : Lx.Tok) (s' : SS) (hs' : List HC) (w6 : World), JR W l v lm rb s' (.slice (some ⟨ob, 0, none⟩) n cap) hs' w6 → Mv rb (.slice (some ⟨ob, 0, none⟩) n cap) (hs0 ++ [h]) A (.slice (some ⟨ob, 0, none⟩) n cap) hs' w6 → JR W l v lm rb s' (.slice (some ⟨ob, 0, none⟩) n cap) hs' ((((w6.setCell ⟨w.heap.size, 0, none⟩ (.int .i64 (t2.kind : Int))).setCell ⟨w.heap.size, 1, none⟩ (.string ⟨t2.text.toArray⟩)).setCell ⟨w.heap.size, 2, none⟩ (.int .i64 (t2.fr : Int))).setCell ⟨w.heap.size, 3, none⟩ (.int .i64 (t2.to : Int))) ∧ Mv rb (.slice (some ⟨ob, 0, none⟩) n cap) (hs0 ++ [h]) w (.slice (some ⟨ob, 0, none⟩) n cap) hs' ((((w6.setCell ⟨w.heap.size, 0, none⟩ (.int .i64 (t2.kind : Int))).setCell ⟨w.heap.size, 1, none⟩ (.string ⟨t2.text.toArray⟩)).setCell ⟨w.heap.size, 2, none⟩ (.int .i64 (t2.fr : Int))).setCell ⟨w.heap.size, 3, none⟩ (.int .i64 (t2.to : Int)))) := hid_intro (fun t2 s' hs' w6 hj hm => by
  have hb7 := set4_but w6 w.heap.size (.int .i64 (t2.kind : Int)) (.string ⟨t2.text.toArray⟩) (.int .i64 (t2.fr : Int)) (.int .i64 (t2.to : Int))
  exact ⟨hj.side1 hEx hcl hb7, Mv.new (((Mv.refl _ _ _ _).bel HBA.out).trans hm) hb7 (Nat.le_refl _)⟩)
 have HKS : Hid (h.ks.length ≤ s.i) := hid_intro (hJ.n2 h (by simp)).2
 have HVO := hid_intro (fun (s' : SS) (w5 w' : World) (t : Lx.Tok) (hj : JR W l v lm rb s' (.slice (some ⟨ob, 0, none⟩) n cap) (hs0 ++ [h]) w5) (hb : Below w5.heap.size w5 w') (ht : t.text.length ≤ l.length) (hn : h.ks.length < s'.i) => valueOf_any W l v lm rb s' ob n cap hs0 h w' t hE hB (hj.bl hb) hl ht hn)
 obtain ⟨k, hk⟩ : ∃ k, h.k = k := ⟨_, rfl⟩
 have k0 : A.cell? ⟨ob, hs0.length * 4, none⟩ = some (.int .i64 k) := hk ▸ hcell_at hJ.st 0 _ rfl
 by_cases hk6 : k = 6
 ·have hk2 : (k == 6) = true := by simpa using hk6
  have HV : Hid (nextOfS l s = match takeS fos l s.i with
   | .error e => .error e
   | .ok t => valueOfS l t { s with i := t.to }) := hid_intro (by unfold nextOfS; rw [hlast, if_pos (hk.trans hk6)]; rfl)
  clear hP hJ hJ0 hst0 hE hB hlast hk hk6
  cases h1 : takeS fos l s.i with
  | error e =>
   have HT : Hid (∀ fs w', fs = fos → Below A.heap.size A w' → Calls Tryz.prog 51 #[.pointer (some ⟨rb, 0, none⟩), .string fs] w' (fun r w2 => r = stopE 3 (e : Nat) ∧ Below rb A w2)) := hid_intro (fun fs w' hfs hb => by
    subst hfs
    refine (HTK.out _ _ w' (HJ.out.bl hb) fos).mono fun r w2 hr => ?_
    rw [h1] at hr
    exact ⟨hr.1, (hb.mono (Nat.le_of_lt hlA)).trans hr.2⟩)
   simp only [h1] at HV
   clear HTK HVO HF
   go_enter Tryz.func55, Tryz.ntmps55
   go_wp2_with (go_at_call 51; refine (HT.out _ _ ?_ ?_).mono ?_; exact rfl; (with_reducible repeat (first | exact hcA | refine vb_d ?_)); rintro r w5 ⟨rfl, hb5⟩; unfold stopE)
   rw [HP.out, HV.out]
   exact ⟨rfl, rfl, hbA.trans hb5⟩
  | ok t =>
   have HT : Hid (∀ fs w', fs = fos → Below A.heap.size A w' → Calls Tryz.prog 51 #[.pointer (some ⟨rb, 0, none⟩), .string fs] w' (fun r w2 => r = .returned (Lx.tokV t) ∧ JR W l v lm rb { s with i := t.to } (.slice (some ⟨ob, 0, none⟩) n cap) (hs0 ++ [h]) w2 ∧ But (· = rb) A w2)) := hid_intro (fun fs w' hfs hb => by
    subst hfs
    refine (HTK.out _ _ w' (HJ.out.bl hb) fos).mono fun r w2 hr => ?_
    rw [h1] at hr
    exact ⟨hr.1, hr.2.1, (But.ofBelow hb).trans hr.2.2.1⟩)
   simp only [h1] at HV
   have ho := takeL_ok h1
   have hko : h.ks.length < t.to := by have := HKS.out; omega
   cases h2 : valueOfS l t { s with i := t.to } with
   | error e =>
    have HV2 : Hid (∀ w5 w', JR W l v lm rb { s with i := t.to } (.slice (some ⟨ob, 0, none⟩) n cap) (hs0 ++ [h]) w5 → Below w5.heap.size w5 w' → Calls Tryz.prog 79 #[.pointer (some ⟨rb, 0, none⟩), Lx.tokV t] w' (fun r w2 => r = stopE 3 (e : Nat) ∧ Below rb w5 w2)) := hid_intro (fun w5 w' hj hb => (HVO.out _ w5 w' t hj hb ho.2.2 hko).mono fun r w2 hr => by
     rw [h2] at hr
     exact ⟨hr.1, (hb.mono (Nat.le_of_lt hj.rd.lt)).trans hr.2⟩)
    rw [h2] at HV
    clear HTK HVO HF
    go_enter Tryz.func55, Tryz.ntmps55
    go_wp2_with (first | (go_at_call 51; refine (HT.out _ _ ?_ ?_).mono ?_; exact rfl; (with_reducible repeat (first | exact hcA | refine vb_d ?_)); rintro r w5 ⟨rfl, hj5, hb5⟩; have hc5 := Below.refl w5.heap.size w5) | (go_at_call 79; refine (HV2.out w5 _ hj5 ?_).mono ?_; (with_reducible repeat (first | exact hc5 | refine vb_d ?_)); rintro r w6 ⟨rfl, hb6⟩; unfold stopE))
    rw [HP.out, HV.out]
    exact ⟨rfl, rfl, (hbA.trans (but_rb hb5 hlA)).trans hb6⟩
   | ok x =>
    have HV2 : Hid (∀ w5 w', JR W l v lm rb { s with i := t.to } (.slice (some ⟨ob, 0, none⟩) n cap) (hs0 ++ [h]) w5 → Below w5.heap.size w5 w' → Calls Tryz.prog 79 #[.pointer (some ⟨rb, 0, none⟩), Lx.tokV t] w' (fun r w2 => r = .returned (Lx.tokV x.1) ∧ ∃ hs', JR W l v lm rb x.2 (.slice (some ⟨ob, 0, none⟩) n cap) hs' w2 ∧ Mv rb (.slice (some ⟨ob, 0, none⟩) n cap) (hs0 ++ [h]) w5 (.slice (some ⟨ob, 0, none⟩) n cap) hs' w2)) := hid_intro (fun w5 w' hj hb => (HVO.out _ w5 w' t hj hb ho.2.2 hko).mono fun r w2 hr => by
     rw [h2] at hr
     obtain ⟨e1, kv, mv, e2, e3⟩ := hr
     exact ⟨e1, _, e2, ((Mv.refl _ _ _ _).bel hb).trans e3⟩)
    rw [h2] at HV
    have HZ : Hid (∀ w5 w6 hs', But (· = rb) A w5 → Mv rb (.slice (some ⟨ob, 0, none⟩) n cap) (hs0 ++ [h]) w5 (.slice (some ⟨ob, 0, none⟩) n cap) hs' w6 → Bj w6 w.heap.size #[.int .i64 0, .string ⟨#[]⟩, .int .i64 0, .int .i64 0]) := hid_intro (fun w5 w6 hs' h5 h6 => (HVA.out.but h5 hne).but h6.but HX.out)
    obtain ⟨x, s2⟩ := x
    clear HTK HVO
    go_enter Tryz.func55, Tryz.ntmps55
    go_wp2_with (first | (go_at_call 51; refine (HT.out _ _ ?_ ?_).mono ?_; exact rfl; (with_reducible repeat (first | exact hcA | refine vb_d ?_)); rintro r w5 ⟨rfl, hj5, hb5⟩; have hc5 := Below.refl w5.heap.size w5) | (go_at_call 79; refine (HV2.out w5 _ hj5 ?_).mono ?_; (with_reducible repeat (first | exact hc5 | refine vb_d ?_)); rintro r w6 ⟨rfl, hs', hj6, hm6⟩; unfold Lx.tokV; obtain ⟨z0, z1, z2, z3⟩ := (HZ.out _ _ _ hb5 hm6).z4; obtain ⟨y0, y1, y2, y3⟩ := (HZ.out _ _ _ hb5 hm6).c4))
    refine bodyPost_ret (v := Lx.tokV x) (by simp [results, Tryz.results55, go_sem, Lx.tokV, y0, y1, y2, y3]) rfl ?_
    rw [HP.out, HV.out]
    exact ⟨rfl, hs', HF.out _ _ _ _ hj6 ((Mv.rb hb5).trans hm6)⟩
 ·have hk2 : (k == 6) = false := by simpa using hk6
  have HV : Hid (nextOfS l s = match takeS fov l s.i with
   | .error e => .error e
   | .ok t => .ok (t, { s with i := t.to })) := hid_intro (by unfold nextOfS; rw [hlast, if_neg (hk ▸ hk6)]; rfl)
  clear hP hJ hJ0 hst0 hE hB hlast hk hk6 HVO
  cases h1 : takeS fov l s.i with
  | error e =>
   have HT : Hid (∀ fs w', fs = fov → Below A.heap.size A w' → Calls Tryz.prog 51 #[.pointer (some ⟨rb, 0, none⟩), .string fs] w' (fun r w2 => r = stopE 3 (e : Nat) ∧ Below rb A w2)) := hid_intro (fun fs w' hfs hb => by
    subst hfs
    refine (HTK.out _ _ w' (HJ.out.bl hb) fov).mono fun r w2 hr => ?_
    rw [h1] at hr
    exact ⟨hr.1, (hb.mono (Nat.le_of_lt hlA)).trans hr.2⟩)
   simp only [h1] at HV
   clear HTK HF
   go_enter Tryz.func55, Tryz.ntmps55
   go_wp2_with (go_at_call 51; refine (HT.out _ _ ?_ ?_).mono ?_; exact rfl; (with_reducible repeat (first | exact hcA | refine vb_d ?_)); rintro r w5 ⟨rfl, hb5⟩; unfold stopE)
   rw [HP.out, HV.out]
   exact ⟨rfl, rfl, hbA.trans hb5⟩
  | ok t =>
   have HT : Hid (∀ fs w', fs = fov → Below A.heap.size A w' → Calls Tryz.prog 51 #[.pointer (some ⟨rb, 0, none⟩), .string fs] w' (fun r w2 => r = .returned (Lx.tokV t) ∧ JR W l v lm rb { s with i := t.to } (.slice (some ⟨ob, 0, none⟩) n cap) (hs0 ++ [h]) w2 ∧ But (· = rb) A w2)) := hid_intro (fun fs w' hfs hb => by
    subst hfs
    refine (HTK.out _ _ w' (HJ.out.bl hb) fov).mono fun r w2 hr => ?_
    rw [h1] at hr
    exact ⟨hr.1, hr.2.1, (But.ofBelow hb).trans hr.2.2.1⟩)
   simp only [h1] at HV
   have HZ : Hid (∀ w5, But (· = rb) A w5 → Bj w5 w.heap.size #[.int .i64 0, .string ⟨#[]⟩, .int .i64 0, .int .i64 0]) := hid_intro (fun w5 h5 => HVA.out.but h5 hne)
   clear HTK
   go_enter Tryz.func55, Tryz.ntmps55
   go_wp2_with (go_at_call 51; refine (HT.out _ _ ?_ ?_).mono ?_; exact rfl; (with_reducible repeat (first | exact hcA | refine vb_d ?_)); rintro r w5 ⟨rfl, hj5, hb5⟩; have hc5 := Below.refl w5.heap.size w5; unfold Lx.tokV; obtain ⟨z0, z1, z2, z3⟩ := (HZ.out _ hb5).z4; obtain ⟨y0, y1, y2, y3⟩ := (HZ.out _ hb5).c4)
   refine bodyPost_ret (v := Lx.tokV t) (by simp [results, Tryz.results55, go_sem, Lx.tokV, y0, y1, y2, y3]) rfl ?_
   rw [HP.out, HV.out]
   exact ⟨rfl, _, HF.out _ _ _ _ hj5 (Mv.rb hb5)⟩
theorem nextOf_any [X : Ex] (W : World) (l : List UInt8) (v : Value) (lm : Nat → Int) (rb : Nat) (s : SS) (ob n cap : Nat) (hs0 : List HC) (h : HC) (w : World) (hE : Lx.Env W) (hB : Lx.Byt W v l) (hJ : JR W l v lm rb s (.slice (some ⟨ob, 0, none⟩) n cap) (hs0 ++ [h]) w) (hl : l.length ≤ 1048576) :
  Calls Tryz.prog 55 #[.pointer (some ⟨rb, 0, none⟩), .pointer (some ⟨ob, hs0.length * 4, none⟩)] w (StepR (nextOfS l s) (fun x r w' => r = .returned (Lx.tokV x.1) ∧ ∃ hs', JR W l v lm rb x.2 (.slice (some ⟨ob, 0, none⟩) n cap) hs' w' ∧ Mv rb (.slice (some ⟨ob, 0, none⟩) n cap) (hs0 ++ [h]) w (.slice (some ⟨ob, 0, none⟩) n cap) hs' w') rb w) := by
 refine (@nextOf_run (exAdd X (fun b => b = w.heap.size)) W l v lm rb s ob n cap hs0 h w hE hB (fun A hA hlt => hJ.add hA _ (fun b e => by omega)) (fun b hb => (hJ.st.lt b hb).2) hJ.rd.lt (Or.inr rfl) hl).mono fun r w' hr => ?_
 cases hv : nextOfS l s with
 | error e => rw [hv] at hr; exact hr
 | ok x =>
  rw [hv] at hr
  obtain ⟨h1, hs', h2, h3⟩ := hr
  exact ⟨h1, hs', JR.less h2, h3⟩
end Go.Proofs.YtjakgdaodlgeaaaGreatDoor

namespace Go.Proofs.YtjakgdaodlgeaaaGreatDoor
open Go.RowKit Go.Maps

theorem byt_shape {W : World} {v : Value} {l : List UInt8} (hB : Lx.Byt W v l) : ∃ ao cap, v = .slice ao l.length cap := by
 obtain ⟨aa, cap, e, _⟩ := hB.shape
 exact ⟨aa, cap, e⟩
theorem end_any [Ex] (W : World) (l : List UInt8) (v : Value) (lm : Nat → Int) (rb : Nat) (s : SS) (ov : Value) (hs : List HC) (w : World) (hB : Lx.Byt W v l) (hJ : JR W l v lm rb s ov hs w) (hl : l.length ≤ 1048576) :
  Calls Tryz.prog 57 #[.pointer (some ⟨rb, 0, none⟩)] w fun r w' => if Lx.pass l Lx.blankB s.i < l.length then r = stopE 3 ((Lx.pass l Lx.blankB s.i + 1 : Nat) : Int) ∧ Below rb w w' else r = .returned (.tuple #[]) ∧ JR W l v lm rb { s with i := Lx.pass l Lx.blankB s.i } ov hs w' ∧ But (· = rb) w w' := by
 obtain ⟨P, hP⟩ : ∃ P : Ending → World → Prop, P = fun r w' => if Lx.pass l Lx.blankB s.i < l.length then r = stopE 3 ((Lx.pass l Lx.blankB s.i + 1 : Nat) : Int) ∧ Below rb w w' else r = .returned (.tuple #[]) ∧ JR W l v lm rb { s with i := Lx.pass l Lx.blankB s.i } ov hs w' ∧ But (· = rb) w w' := ⟨_, rfl⟩
 rw [← hP]
 have HP := hid_intro hP
 have hcl : rb < w.heap.size := hJ.rd.lt
 obtain ⟨p, hp⟩ : ∃ p, Lx.pass l Lx.blankB s.i = p := ⟨_, rfl⟩
 have hpl : p ≤ l.length := hp ▸ Lx.pass_le hJ.le
 have hge : s.i ≤ p := hp ▸ Lx.pass_ge l Lx.blankB s.i
 have cb : Hid (Calls Tryz.prog 81 #[.pointer (some ⟨rb, 0, none⟩)] w fun r w' => r = .returned (.tuple #[]) ∧ JR W l v lm rb { s with i := p } ov hs w' ∧ But (· = rb) w w') := hid_intro ((blanks_any l v W w rb s.i _ hB (by omega) hJ.bel hJ.lo hJ.rd rfl rfl hJ.le).mono fun r w' hr => ⟨hr.1, hJ.take hr.2.1 p (hp ▸ hr.2.2) hge hpl, hr.2.1⟩)
 obtain ⟨ao, cap, hv⟩ := byt_shape hB
 rw [hp] at HP
 have cm := fun w => malformed_any (((p : Int)) + 1) w
 have hpI : (p : Int) ≤ 1048576 := by omega
 clear hP hB hJ
 by_cases hlt : p < l.length
 ·have hI : (p : Int) < (l.length : Int) := by omega
  have hmI : (p : Int) + 1 ≤ 9223372036854775807 := by omega
  go_enter Tryz.func57, Tryz.ntmps57
  go_wp2_with (go_at_call 81; refine cb.out.mono ?_; rintro r w1 ⟨rfl, hj, hb⟩; have q0 := hj.rd.c 0 (by omega) (u := .slice ao l.length cap) hv; have q1 := hj.rd.c 1 (by omega) (u := .int .i64 (p : Int)) rfl)
  go_region
  all_goals
   go_wp2_with (go_at_call 83; refine (cm _).mono ?_; rintro r w5 ⟨rfl, hb5⟩)
   rw [HP.out]
   simp only [hlt, ↓reduceIte]
   refine ⟨rfl, ?_⟩
   exact ⟨rfl, (but_rb hb hcl).trans ((vb_t (vb_d (Below.refl _ _)) hb5).mono (Nat.le_of_lt (Nat.lt_of_lt_of_le hcl hb.size)))⟩
 ·have hI : ((p : Int) < (l.length : Int)) = False := by simp; omega
  go_enter Tryz.func57, Tryz.ntmps57
  go_wp2_with (go_at_call 81; refine cb.out.mono ?_; rintro r w1 ⟨rfl, hj, hb⟩; have q0 := hj.rd.c 0 (by omega) (u := .slice ao l.length cap) hv; have q1 := hj.rd.c 1 (by omega) (u := .int .i64 (p : Int)) rfl)
  go_region
  all_goals
   go_wp2_with fail
   refine bodyPost_end (v := .tuple #[]) (by simp [results, Tryz.results57, go_sem]) rfl ?_
   rw [HP.out]
   simp only [hlt, ↓reduceIte]
   exact ⟨trivial, hj.bl (vb_d (Below.refl _ _)), hb.drew⟩
set_option maxRecDepth 100000 in
set_option maxHeartbeats 1600000 in
theorem keepLimits_any [Ex] (W : World) (l : List UInt8) (v : Value) (lm : Nat → Int) (rb : Nat) (s : SS) (ov : Value) (hs : List HC) (w : World) (hJ : JR W l v lm rb s ov hs w) :
  Calls Tryz.prog 33 #[.pointer (some ⟨rb, 0, none⟩)] w fun r w' => (if lm 0 < (s.dp : Int) then r = stopE 4 2 else if s.ps ≠ 0 then r = stopE 4 (s.ps : Int) else r = .returned (.tuple #[])) ∧ Below w.heap.size w w' := by
 obtain ⟨P, hP⟩ : ∃ P : Ending → World → Prop, P = fun r w' => (if lm 0 < (s.dp : Int) then r = stopE 4 2 else if s.ps ≠ 0 then r = stopE 4 (s.ps : Int) else r = .returned (.tuple #[])) ∧ Below w.heap.size w w' := ⟨_, rfl⟩
 rw [← hP]
 have HP := hid_intro hP
 have HC : Hid (∀ w', Below w.heap.size w w' → w'.cell? ⟨rb, 2, none⟩ = some (.int .i64 (lm 0)) ∧ w'.cell? ⟨rb, 8, none⟩ = some (.int .i64 (s.dp : Int)) ∧ w'.cell? ⟨rb, 9, none⟩ = some (.int .i64 (s.ps : Int))) := hid_intro (fun w' hb => ⟨(hJ.rd.below hb).c 2 (by omega) rfl, (hJ.rd.below hb).c 8 (by omega) rfl, (hJ.rd.below hb).c 9 (by omega) rfl⟩)
 have hc := Below.refl w.heap.size w
 obtain ⟨q2, q8, q9⟩ := HC.out w hc
 have c2 := fun w => exceeded_any 2 w
 have cp := fun w => exceeded_any (s.ps : Int) w
 generalize lm 0 = d0 at *
 clear hP hJ
 by_cases hd : d0 < (s.dp : Int)
 ·simp only [hd, ↓reduceIte] at HP
  go_enter Tryz.func33, Tryz.ntmps33
  go_wp2_with fail
  go_region
  all_goals
   go_wp2_with (go_at_call 26; refine (c2 _).mono ?_; rintro r w5 ⟨rfl, hb5⟩)
   rw [HP.out]
   exact ⟨rfl, rfl, vb_t (vb_d hc) hb5⟩
 ·simp only [hd, ↓reduceIte] at HP
  have hd2 : (d0 < (s.dp : Int)) = False := by simpa using hd
  by_cases h0 : s.ps = 0
  ·have hp : ((s.ps : Int) == 0) = true := by simp; omega
   simp only [h0, ne_eq, not_true_eq_false, ↓reduceIte] at HP
   clear hd
   go_enter Tryz.func33, Tryz.ntmps33
   go_wp2_with fail
   go_region
   all_goals
    go_wp2_with fail
    refine bodyPost_end (v := .tuple #[]) (by simp [results, Tryz.results33, go_sem]) rfl ?_
    rw [HP.out]
    exact ⟨rfl, vb_d hc⟩
  ·have hp : ((s.ps : Int) == 0) = false := by simp; omega
   simp only [h0, ne_eq, not_false_eq_true, ↓reduceIte] at HP
   clear hd
   go_enter Tryz.func33, Tryz.ntmps33
   go_wp2_with fail
   go_region
   all_goals
    go_wp2_with (go_at_call 26; refine (cp _).mono ?_; rintro r w5 ⟨rfl, hb5⟩)
    rw [HP.out]
    exact ⟨rfl, rfl, vb_t (vb_d hc) hb5⟩
end Go.Proofs.YtjakgdaodlgeaaaGreatDoor

namespace Go.Proofs.YtjakgdaodlgeaaaGreatDoor
open Go.RowKit Go.Maps

def tokC (t : Lx.Tok) : Array Value := #[.int .i64 (t.kind : Int), .string ⟨t.text.toArray⟩, .int .i64 (t.fr : Int), .int .i64 (t.to : Int)]
def set4 (w : World) (c : Nat) (t : Lx.Tok) : World := (((w.setCell ⟨c, 0, none⟩ (.int .i64 (t.kind : Int))).setCell ⟨c, 1, none⟩ (.string ⟨t.text.toArray⟩)).setCell ⟨c, 2, none⟩ (.int .i64 (t.fr : Int))).setCell ⟨c, 3, none⟩ (.int .i64 (t.to : Int))
structure FI [Ex] (W : World) (l : List UInt8) (v : Value) (lm : Nat → Int) (rb : Nat) (ov : Value) (hs : List HC) (w : World) (Z : Except Nat (JV × SS)) (k : Nat) (t' : Lx.Tok) (s' : SS) (ov' : Value) (hs' : List HC) (wr : World) : Prop where
 jr : JR W l v lm rb s' ov' hs' wr
 tb : Bj wr w.heap.size (tokC t')
 vb : Bj wr (w.heap.size + 1) zV7
 mv : Mv rb ov hs w ov' hs' wr
 bw : Below rb w wr
 eq : Z = firstS l (LMof lm) k t' s'
 kn : l.length < k + s'.i
 tl : t'.text.length ≤ l.length
 hn : hs'.length < s'.i
 ne : hs' ≠ [] ∨ ¬ (sgnB t' sgE = true ∨ sgnB t' sgF = true)
theorem JR.off [Ex] {W : World} {l : List UInt8} {v : Value} {lm : Nat → Int} {rb : Nat} {s : SS} {ov : Value} {hs : List HC} {w : World} (h : JR W l v lm rb s ov hs w) {b : Nat} (hE : Ex.E b) (hlt : rb < b) : ¬ wX rb ov hs b := by
 rintro (e | e)
 ·omega
 ·exact h.st.ex b e hE
theorem tokC_set {w : World} {c : Nat} {t : Lx.Tok} (h : Bj w c (tokC t)) (t1 : Lx.Tok) : Bj (set4 w c t1) c (tokC t1) :=
 (((h.set 0 _).set 1 _).set 2 _).set 3 _
theorem FI.next [Ex] {W : World} {l : List UInt8} {v : Value} {lm : Nat → Int} {rb : Nat} {ov : Value} {hs : List HC} {w : World} {Z : Except Nat (JV × SS)} {k : Nat} {t' : Lx.Tok} {s' : SS} {ov' : Value} {hs' : List HC} {wr : World} (h : FI W l v lm rb ov hs w Z k t' s' ov' hs' wr) (hE0 : Ex.E w.heap.size) (hE1 : Ex.E (w.heap.size + 1)) (hcl : rb < w.heap.size)
  {Z1 : Except Nat (JV × SS)} {k1 : Nat} {t1 : Lx.Tok} {s1 : SS} {ov1 : Value} {hs1 : List HC} {w1 : World} (j1 : JR W l v lm rb s1 ov1 hs1 w1) (m1 : Mv rb ov' hs' wr ov1 hs1 w1) (b1 : Below rb wr w1) (e1 : Z1 = firstS l (LMof lm) k1 t1 s1) (n1 : l.length < k1 + s1.i) (l1 : t1.text.length ≤ l.length) (g1 : hs1.length < s1.i) (x1 : hs1 ≠ [] ∨ ¬ (sgnB t1 sgE = true ∨ sgnB t1 sgF = true)) :
  FI W l v lm rb ov hs w Z1 k1 t1 s1 ov1 hs1 (set4 w1 w.heap.size t1) := by
 have hb := set4_but w1 w.heap.size (.int .i64 (t1.kind : Int)) (.string ⟨t1.text.toArray⟩) (.int .i64 (t1.fr : Int)) (.int .i64 (t1.to : Int))
 refine ⟨j1.side1 hE0 hcl hb, tokC_set (h.tb.but m1.but (h.jr.off hE0 hcl)) t1, (h.vb.but m1.but (h.jr.off hE1 (by omega))).but hb (by omega), Mv.new (h.mv.trans m1) hb (Nat.le_refl _), (h.bw.trans b1).trans ⟨hb.os, hb.tape, hb.output, hb.size, fun i hi => hb.block i (by have := j1.rd.lt; omega) (by omega)⟩, e1, n1, l1, g1, x1⟩
theorem FI.bl [Ex] {W : World} {l : List UInt8} {v : Value} {lm : Nat → Int} {rb : Nat} {ov : Value} {hs : List HC} {w : World} {Z : Except Nat (JV × SS)} {k : Nat} {t' : Lx.Tok} {s' : SS} {ov' : Value} {hs' : List HC} {wr w1 : World} (h : FI W l v lm rb ov hs w Z k t' s' ov' hs' wr) (hb : Below wr.heap.size wr w1) : FI W l v lm rb ov hs w Z k t' s' ov' hs' w1 :=
 ⟨h.jr.bl hb, h.tb.bel hb, h.vb.bel hb, h.mv.bel hb, h.bw.trans (hb.mono (Nat.le_of_lt h.jr.rd.lt)), h.eq, h.kn, h.tl, h.hn, h.ne⟩
theorem JR.psx [Ex] {W : World} {l : List UInt8} {v : Value} {lm : Nat → Int} {rb : Nat} {s : SS} {ov : Value} {hs : List HC} {w w' : World} (hJ : JR W l v lm rb s ov hs w) (hb : But (· = rb) w w') (p : Nat) (hr : Rd w' rb (RF v lm s.i ov s.dp p)) : JR W l v lm rb { s with ps := p } ov hs w' :=
 ⟨hr, hJ.st.rb hb, hJ.eq, hJ.sn, hJ.bel.trans ((but_rb hb hJ.rd.lt).mono hJ.lo), hJ.lo, hJ.le, hJ.n1, hJ.n2, hJ.n3⟩
theorem own_some {w : World} {B : Nat} {e : TypeId} {size : Nat} {v : Value} {n : Nat} {xs : List Value} (h : w.ownsRow B e size v n xs) (hn : 0 < n) : ∃ g cap, v = .slice (some ⟨g, 0, none⟩) n cap := by
 rcases h.2 with ⟨rfl, rfl⟩ | ⟨g, cap, cur, rfl, _⟩
 ·omega
 ·exact ⟨g, cap, rfl⟩
theorem vi_side {w w' : World} {X : Nat → Prop} {c : Nat} {x : JV} {f : Nat → Value} (h : VI w X x f) (hc : X c) (hb : But (· = c) w w') : VI w' X x f := h.carry fun b hb1 hlt => ⟨hb.block b hlt (fun e => hb1 (e ▸ hc)), hb1⟩
theorem vi_less {X : Ex} {w : World} {rb : Nat} {ov : Value} {hs : List HC} {B : Nat → Prop} {x : JV} {f : Nat → Value} (h : VI w (@mX (exAdd X B) rb ov hs) x f) : VI w (@mX X rb ov hs) x f := h.carry fun b hb1 _ => ⟨rfl, fun e => hb1 (by
 rcases e with e | e
 ·exact Or.inl (Or.inl e)
 ·exact Or.inr e)⟩
end Go.Proofs.YtjakgdaodlgeaaaGreatDoor
