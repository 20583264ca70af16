/-
  (*ref5.P).begin. Conditions: at most 2^20 are open.
  (*ref5.P).limits. Conditions: a number's text of at most 2^20 bytes; the limits are those that hold.
  (*ref5.P).value. Conditions: a token's text of at most 2^20 bytes; a number's text is one.
-/
import Derived.Test.YtfoehebnmommfaaGreatDoorJoined36
import Derived.Deep.DeepCutAuto
import Derived.Test.YtfoehebnmommfaaGreatDoorJoined35
import Derived.Test.YtfoehebnmommfaaGreatDoorJoined20
import Derived.Test.YtfoehebnmommfaaGreatDoorJoined34
import Derived.BigQuiet
import Derived.Test.YtfoehebnmommfaaGreatDoorJoined37
import Derived.Test.YtfoehebnmommfaaGreatDoorJoined24
namespace Go.Proofs.YtfoehebnmommfaaGreatDoor.R5
open Go.RowKit Go.Maps
attribute [local go_sem] setCell_drewN alloc_drewN

theorem step_addz {w : World} {ops : Array Oper} {o : Oper} {a : Act} {K : Act → World → Prop} {Q : Exit → Act → World → Prop} {E : Prop} (hgd : o.guard = none) (s x : Operand)
  (ho : o.op = .call { callee := .builtin .append, args := #[s, x], argTypes := #[28, 28] }) (B : Nat) (lv : Value) (n : Nat) (xs : List Value) (hs : a.eval s = lv) (b0 : Nat) (hx : a.eval x = .slice (some ⟨b0, 0, none⟩) 1 1)
  (hn : n ≤ 1048576) (hown : w.ownsRow B 31 7 lv n xs) (hT : Bj w b0 zV7) (hB : B ≤ w.heap.size)
  (h : ∀ g cap w', w'.ownsRow B 31 7 (.slice (some ⟨g, 0, none⟩) (n + 1) cap) (n + 1) (xs ++ zV7.toList) → w.grownBy w' lv.ownBlock → (lv.ownBlock = some g ∨ g = w.heap.size) → K (a.put o.dst (.slice (some ⟨g, 0, none⟩) (n + 1) cap)) w') :
  if Region.wanted o (yielded ops a.tmps) = true then Oper.wp Tryz.prog o a w K Q else E := by
 obtain ⟨i0, hi, hz0, hz1, hz2⟩ := info_parts infoV
 refine step_append_lies (P := Tryz.prog) w hgd s x 28 ho B 31 i0 _ 7 104 Tryz.underlying28 hi hz0 hz1 hz2 rfl (by decide) lv n xs hs hown ⟨b0, 0, none⟩ 1 1 zV7.toList hx rfl (fun j u hj => ?_) (fun u hu => ?_) (by decide) (by unfold maxLen; omega) (by omega) hB w.heap.size rfl (fun g cap w' h1 h2 h3 _ => h g cap w' h1 h2 h3)
 ·rw [addZ, hT.cell j]
  simpa using hj
 ·simp only [zV7, List.mem_cons, List.not_mem_nil, or_false] at hu
  rcases hu with rfl | rfl | rfl | rfl | rfl | rfl | rfl <;> rfl
theorem beg_facts [Ex] {w A w9 : World} {rb : Nat} {ov : Value} {hs : List HC} {g c : Nat} {F : Nat → Value} (hst : ST w rb ov hs) (hrd : Rd w rb F) (hb : Below w.heap.size w A) (ho : w9.ownsRow (rb + 1) 31 7 (.slice (some ⟨g, 0, none⟩) (hs.length + 1) c) (hs.length + 1) (flatH hs ++ zV7.toList)) (hg : A.grownBy w9 ov.ownBlock) (h4 : ov.ownBlock = some g ∨ g = A.heap.size) :
  (g ≠ rb ∧ Rd w9 rb F) ∧ (w9.frozen? ⟨g, hs.length * 7, none⟩ = false ∧ w9.frozen? ⟨g, hs.length * 7 + 1, none⟩ = false ∧ w9.frozen? ⟨g, hs.length * 7 + 2, none⟩ = false ∧ w9.frozen? ⟨g, hs.length * 7 + 3, none⟩ = false ∧ w9.frozen? ⟨g, hs.length * 7 + 4, none⟩ = false ∧ w9.frozen? ⟨g, hs.length * 7 + 5, none⟩ = false ∧ w9.frozen? ⟨g, hs.length * 7 + 6, none⟩ = false) ∧
  (w9.cell? ⟨g, hs.length * 7, none⟩ = some (.int .i64 0) ∧ w9.cell? ⟨g, hs.length * 7 + 1, none⟩ = some (.bool false) ∧ w9.cell? ⟨g, hs.length * 7 + 2, none⟩ = some (.string ⟨#[]⟩) ∧ w9.cell? ⟨g, hs.length * 7 + 3, none⟩ = some (.int .i64 0) ∧ w9.cell? ⟨g, hs.length * 7 + 4, none⟩ = some (.string ⟨#[]⟩) ∧ w9.cell? ⟨g, hs.length * 7 + 5, none⟩ = some (.slice none 0 0) ∧ w9.cell? ⟨g, hs.length * 7 + 6, none⟩ = some (.slice none 0 0)) := by
 have hr : ov.ownBlock ≠ some rb := fun e => by have := (hst.lt rb (mem_mutsO (by rw [e]; simp))).1; omega
 have hl := hrd.lt
 have hA := hb.size
 have hcell : ∀ j u, zV7.toList[j]? = some u → w9.cell? ⟨g, hs.length * 7 + j, none⟩ = some u := fun j u hu => by
  refine own_cell ho (hs.length * 7 + j) u ?_
  rw [List.getElem?_append_right (by rw [flatH_len]; omega), flatH_len]
  rw [← hu]; congr 1; omega
 refine ⟨⟨fun e => ?_, hrd.keep ((hg.block rb (by omega) (fun e => hr e.symm)).trans (hb.block rb hl))⟩, ⟨ho.frozenAt _, ho.frozenAt _, ho.frozenAt _, ho.frozenAt _, ho.frozenAt _, ho.frozenAt _, ho.frozenAt _⟩, ⟨hcell 0 _ rfl, hcell 1 _ rfl, hcell 2 _ rfl, hcell 3 _ rfl, hcell 4 _ rfl, hcell 5 _ rfl, hcell 6 _ rfl⟩⟩
 rcases h4 with h4 | h4
 ·exact hr (by rw [h4, e])
 ·omega
theorem beg_done [Ex] {W : World} {lm : Nat → Int} {rb N : Nat} {p : PR} {ov : Value} {hs : List HC} {f : Nat → Value} {w A w9 : World} (hJ : JR W lm rb N p ov hs f w) {k : Int} (hk : k = 5 ∨ k = 6) (hb : Below w.heap.size w A) {g c : Nat} (ho : w9.ownsRow (rb + 1) 31 7 (.slice (some ⟨g, 0, none⟩) (hs.length + 1) c) (hs.length + 1) (flatH hs ++ zV7.toList)) (hg : A.grownBy w9 ov.ownBlock) (h4 : ov.ownBlock = some g ∨ g = A.heap.size) :
  JR W lm rb (N + 1) { p with hs := p.hs ++ [(k, [], [])] } (.slice (some ⟨g, 0, none⟩) (hs.length + 1) c) (hs ++ [h0 k]) f ((set7r w9 g (hs.length * 7) (.int .i64 k) (.bool false) (.string ⟨#[]⟩) (.int .i64 0) (.string ⟨#[]⟩) (.slice none 0 0) (.slice none 0 0)).setCell ⟨rb, 5, none⟩ (.slice (some ⟨g, 0, none⟩) (hs.length + 1) c)) ∧
  Mv rb ov hs w (.slice (some ⟨g, 0, none⟩) (hs.length + 1) c) (hs ++ [h0 k]) ((set7r w9 g (hs.length * 7) (.int .i64 k) (.bool false) (.string ⟨#[]⟩) (.int .i64 0) (.string ⟨#[]⟩) (.slice none 0 0) (.slice none 0 0)).setCell ⟨rb, 5, none⟩ (.slice (some ⟨g, 0, none⟩) (hs.length + 1) c)) := by
 obtain ⟨r1, r2⟩ := row_put ho (flatH_len hs) (.int .i64 k) (.bool false) (.string ⟨#[]⟩) (.int .i64 0) (.string ⟨#[]⟩) (.slice none 0 0) (.slice none 0 0)
 have hgg : A.grownBy (set7r w9 g (hs.length * 7) (.int .i64 k) (.bool false) (.string ⟨#[]⟩) (.int .i64 0) (.string ⟨#[]⟩) (.slice none 0 0) (.slice none 0 0)) ov.ownBlock := by
  rcases h4 with h4 | h4
  ·rw [← h4] at r2; exact hg.trans r2
  ·refine ⟨r2.os.trans hg.os, r2.tape.trans hg.tape, r2.output.trans hg.output, Nat.le_trans hg.size r2.size, fun i hi hne => (r2.block i (Nat.lt_of_lt_of_le hi hg.size) (fun e => ?_)).trans (hg.block i hi hne)⟩
   injection e with e
   omega
 have hh4 : (Value.slice (some ⟨g, 0, none⟩) (hs.length + 1) c).ownBlock = ov.ownBlock ∨ (Value.slice (some ⟨g, 0, none⟩) (hs.length + 1) c).ownBlock = some A.heap.size := by
  rcases h4 with h4 | h4
  ·exact Or.inl h4.symm
  ·exact Or.inr (by rw [h4]; rfl)
 have hJA := hJ.belw hb
 obtain ⟨s1, s2⟩ := hJA.st.opened hk r1 hgg hh4
 have hr : ov.ownBlock ≠ some rb := fun e => by have := (hJ.st.lt rb (mem_mutsO (by rw [e]; simp))).1; omega
 have hrd := hJA.rd.keep (hgg.block rb hJA.rd.lt (fun e => hr e.symm))
 have hm := (Mv.bel (Mv.refl rb ov hs w) hb).trans (s2.trans (Mv.rb ((But.refl _ _).setr (o := 5) (.slice (some ⟨g, 0, none⟩) (hs.length + 1) c))))
 refine ⟨⟨?_, s1.rb ((But.refl _ _).setr _), ?_, hm.vi hJ.vi, hJ.bel.trans ((hm.below hJ.st hJ.rd.lt).mono hJ.lo), hJ.lo, ?_, fun y hy => ?_, Nat.le_trans hJ.n3 (Nat.le_succ N)⟩, hm⟩
 ·have := hrd.set 5 (.slice (some ⟨g, 0, none⟩) (hs.length + 1) c)
  rw [RF_o] at this
  exact this
 ·show p.hs ++ [(k, [], [])] = _
  rw [hJ.eq]; simp [h0]
 ·have := hJ.n1; simp; omega
 ·rcases List.mem_append.1 hy with hy | hy
  ·have := hJ.n2 y hy; omega
  ·obtain rfl : y = h0 k := by simpa using hy
   exact ⟨Nat.zero_le _, Nat.zero_le _⟩
def BG [Ex] (W : World) (lm : Nat → Int) (rb N : Nat) (p : PR) (ov : Value) (hs : List HC) (f : Nat → Value) (k : Int) (w wx : World) : Prop :=
 ∃ g c, JR W lm rb (N + 1) { p with hs := p.hs ++ [(k, [], [])] } (.slice (some ⟨g, 0, none⟩) (hs.length + 1) c) (hs ++ [h0 k]) f wx ∧ Mv rb ov hs w (.slice (some ⟨g, 0, none⟩) (hs.length + 1) c) (hs ++ [h0 k]) wx
theorem BG.drew [Ex] {W : World} {lm : Nat → Int} {rb N : Nat} {p : PR} {ov : Value} {hs : List HC} {f : Nat → Value} {k : Int} {w wx : World} (h : BG W lm rb N p ov hs f k w wx) : BG W lm rb N p ov hs f k w wx.drew := by
 obtain ⟨g, c, h1, h2⟩ := h
 exact ⟨g, c, h1.belw (vb_d (Below.refl _ _)), h2.bel (vb_d (Below.refl _ _))⟩
set_option maxRecDepth 100000 in
set_option maxHeartbeats 3200000 in
theorem begin_any [X : Ex] {W : World} {lm : Nat → Int} {rb N : Nat} {p : PR} {ov : Value} {hs : List HC} {f : Nat → Value} {w : World} (k : Int) (hk : k = 5 ∨ k = 6) (hJ : JR W lm rb N p ov hs f w) (hN : N ≤ 1048576) :
  Calls Tryz.prog 65 #[.pointer (some ⟨rb, 0, none⟩), .int .i64 k] w fun r w' => r = .returned (.tuple #[]) ∧ ∃ ov', JR W lm rb (N + 1) (beginR k p) ov' (hs ++ [h0 k]) f w' ∧ Mv rb ov hs w ov' (hs ++ [h0 k]) w' := by
 obtain ⟨P, hP⟩ : ∃ P : Ending → World → Prop, P = fun r w' => r = .returned (.tuple #[]) ∧ ∃ ov', JR W lm rb (N + 1) (beginR k p) ov' (hs ++ [h0 k]) f w' ∧ Mv rb ov hs w ov' (hs ++ [h0 k]) w' := ⟨_, rfl⟩
 rw [← hP]
 have HP := hid_intro hP
 have HJ := hid_intro hJ
 obtain ⟨ao, cap, e, _, _⟩ := own_shape hJ.st.row
 subst e
 have HN2 : Hid (hs.length ≤ 1048576) := hid_intro (Nat.le_trans hJ.n1 hN)
 have hnI : (hs.length : Int) ≤ 1048576 := by have := HN2.out; omega
 have hix : (hs.length : Int) < (hs.length : Int) + 1 := by omega
 have q5 := hJ.rd.c 5 (by omega) (u := .slice ao hs.length cap) rfl
 have Q5 : ∀ o, (w.alloc o).cell? ⟨rb, 5, none⟩ = some (.slice ao hs.length cap) := fun o => (hJ.rd.below (vb_a (Below.refl _ _) o)).c 5 (by omega) rfl
 have HRB : Hid (rb + 1 ≤ w.heap.size) := hid_intro hJ.rd.lt
 have HOW : Hid (∀ w', Below w.heap.size w w' → w'.ownsRow (rb + 1) 31 7 (.slice ao hs.length cap) hs.length (flatH hs)) := hid_intro (fun w' hb => (hJ.st.bel hb).row)
 have hb1 := Below.refl w.heap.size w
 have HDP : Hid (p.dp ≤ N) := hid_intro hJ.n3
 clear hP hJ hN
 go_enter Tryz.func65, Tryz.ntmps65
 go_upto_region 0 with fail
 go_cut [] (fun wx => Hid (@BG X W lm rb N p (.slice ao hs.length cap) hs f k w wx))
 case first =>
  have HAF := hid_intro (fun (A9 w9 : World) (g9 c9 : Nat) (hb9 : Below w.heap.size w A9) ho9 hg9 h49 => @beg_facts X w A9 w9 rb (.slice ao hs.length cap) hs g9 c9 _ HJ.out.st HJ.out.rd hb9 ho9 hg9 h49)
  have HFN := hid_intro (fun (A9 w9 : World) (g9 c9 : Nat) (hb9 : Below w.heap.size w A9) ho9 hg9 h49 => @beg_done X W lm rb N p (.slice ao hs.length cap) hs f w A9 w9 HJ.out k hk hb9 g9 c9 ho9 hg9 h49)
  go_region_law (first | (refine step_addz (by rfl) _ _ (by rfl) (rb + 1) (.slice ao hs.length cap) hs.length (flatH hs) (by rfl) w.heap.size (by rfl) HN2.out ?_ ?_ ?_ ?_; (focus (refine HOW.out _ ?_; (with_reducible (repeat (first | exact hb1 | refine vb_d ?_ | refine vb_a ?_ _))))); (focus (with_reducible (repeat (first | exact Bj.newz _ _ | refine Bj.bel ?_ (vb_d (Below.refl _ _)))))); (focus (have := HRB.out; simp; omega)); (intro g9 c9 w9 ho9 hg9 h49; have hb9 : Below w.heap.size w (w.alloc (.cells #[.int .i64 0, .bool false, .string ⟨#[]⟩, .int .i64 0, .string ⟨#[]⟩, .slice none 0 0, .slice none 0 0] 31)).drew := vb_d (vb_a hb1 _); obtain ⟨⟨i1, rd9⟩, ⟨z0, z1, z2, z3, z4, z5, z6⟩, ⟨y0, y1, y2, y3, y4, y5, y6⟩⟩ := HAF.out _ w9 g9 c9 hb9 ho9 hg9 h49; obtain ⟨j1, j2⟩ := HFN.out _ w9 g9 c9 hb9 ho9 hg9 h49; have HJ1 := hid_intro j1; have HJ2 := hid_intro j2; have i4 := i1.symm; have r5 := rd9.c 5 (by omega) (u := .slice ao hs.length cap) rfl; have rz5 := (rd9 5 (by omega)).2; clear ho9 hg9 h49 hb9 j1 j2 rd9)) | fail)
  all_goals
   have HA1 : Hid (@BG X W lm rb N p (.slice ao hs.length cap) hs f k w ((set7r w9 g9 (hs.length * 7) (.int .i64 k) (.bool false) (.string ⟨#[]⟩) (.int .i64 0) (.string ⟨#[]⟩) (.slice none 0 0) (.slice none 0 0)).setCell ⟨rb, 5, none⟩ (.slice (some ⟨g9, 0, none⟩) (hs.length + 1) c9))) := hid_intro ⟨_, _, HJ1.out, HJ2.out⟩
   have HA2 : Hid (@BG X W lm rb N p (.slice ao hs.length cap) hs f k w (set7r (w9.setCell ⟨rb, 5, none⟩ (.slice (some ⟨g9, 0, none⟩) (hs.length + 1) c9)) g9 (hs.length * 7) (.int .i64 k) (.bool false) (.string ⟨#[]⟩) (.int .i64 0) (.string ⟨#[]⟩) (.slice none 0 0) (.slice none 0 0))) := hid_intro (by rw [set7r_comm _ _ _ _ _ _ _ _ _ _ ⟨rb, 5, none⟩ _ i4]; exact HA1.out)
   clear HJ1 HJ2 HAF HFN HOW
   go_wp2_with fail
   go_meet
   case rel => first | with_reducible exact HA1 | with_reducible exact HA2
 case rest =>
  obtain ⟨g4, c4, hj4, hm4⟩ := hcut.out
  have c5 := hj4.rd.c 5 (by omega) (u := .slice (some ⟨g4, 0, none⟩) (hs.length + 1) c4) rfl
  have c14 := hj4.rd.c 14 (by omega) (u := .int .i64 (p.dp : Int)) rfl
  have z14 := (hj4.rd 14 (by omega)).2
  have c6 := hj4.rd.c 6 (by omega) (u := .int .i64 (p.nx : Int)) rfl
  have z6 := (hj4.rd 6 (by omega)).2
  have HF : Hid (∀ dm nx nx0 : Nat, dm = max p.dp (hs.length + 1) → nx = (if k = 6 then 3 else 1) → (P (.returned (.tuple #[])) ((wc.setCell ⟨rb, 14, none⟩ (.int .i64 (dm : Int))).setCell ⟨rb, 6, none⟩ (.int .i64 (nx : Int))).drew ∧ P (.returned (.tuple #[])) (((wc.setCell ⟨rb, 14, none⟩ (.int .i64 (dm : Int))).setCell ⟨rb, 6, none⟩ (.int .i64 (nx0 : Int))).setCell ⟨rb, 6, none⟩ (.int .i64 (nx : Int))).drew)) := hid_intro (fun dm nx nx0 hd hn => by
   rw [HP.out]
   have hle : dm ≤ N + 1 := by have h1 := HJ.out.n1; have := HDP.out; omega
   have j1 := (hj4.dp dm hle).nx nx
   have j2 := ((hj4.dp dm hle).nx nx0).nx nx
   have e : beginR k p = { p with hs := p.hs ++ [(k, [], [])], dp := dm, nx := nx } := by
    unfold beginR
    rw [hd, hn, HJ.out.eq]; simp
   rw [e]
   exact ⟨⟨rfl, _, done_drew ⟨j1, hm4.trans (Mv.rb (((But.refl _ _).setr _).setr _))⟩⟩, ⟨rfl, _, done_drew ⟨j2, hm4.trans (Mv.rb ((((But.refl _ _).setr _).setr _).setr _))⟩⟩⟩)
  have hdI : (0 : Int) ≤ (p.dp : Int) := by omega
  have HC := hid_intro hcut
  clear hcut hj4 hm4
  by_cases hd : p.dp ≤ hs.length + 1
  ·have hm : max (p.dp : Int) ((hs.length : Int) + 1) = (hs.length : Int) + 1 := by omega
   have HF1 := hid_intro (fun nx => HF.out (hs.length + 1) nx 1 (by omega))
   clear hd
   rcases hk with rfl | rfl
   ·go_wp2_with fail
    go_region
    all_goals
     go_wp2_with fail
     refine bodyPost_ret (v := .tuple #[]) (by simp [results, Tryz.results65, go_sem]) rfl ?_
     exact (HF1.out 1 rfl).1
   ·go_wp2_with fail
    go_region
    all_goals
     go_wp2_with fail
     refine bodyPost_ret (v := .tuple #[]) (by simp [results, Tryz.results65, go_sem]) rfl ?_
     exact (HF1.out 3 rfl).2
  ·have hm : max (p.dp : Int) ((hs.length : Int) + 1) = (p.dp : Int) := by omega
   have hd2 : (hs.length : Int) + 1 < (p.dp : Int) := by omega
   have HF1 := hid_intro (fun nx => HF.out p.dp nx 1 (by omega))
   clear hd
   rcases hk with rfl | rfl
   ·go_wp2_with fail
    go_region
    all_goals
     go_wp2_with fail
     refine bodyPost_ret (v := .tuple #[]) (by simp [results, Tryz.results65, go_sem]) rfl ?_
     exact (HF1.out 1 rfl).1
   ·go_wp2_with fail
    go_region
    all_goals
     go_wp2_with fail
     refine bodyPost_ret (v := .tuple #[]) (by simp [results, Tryz.results65, go_sem]) rfl ?_
     exact (HF1.out 3 rfl).2
end Go.Proofs.YtfoehebnmommfaaGreatDoor.R5

namespace Go.Proofs.YtfoehebnmommfaaGreatDoor.R5
open Go.RowKit Go.Maps
attribute [local go_sem] setCell_drewN alloc_drewN

set_option maxRecDepth 100000 in
set_option maxHeartbeats 3200000 in
theorem limits_any [Ex] {W : World} {lm : Nat → Int} {rb N : Nat} {p : PR} {ov : Value} {hs : List HC} {f : Nat → Value} {w : World} (hJ : JR W lm rb N p ov hs f w) (s : ByteArray) (q : P3) (hz : s.size ≤ 1048576) (hq : cutL s.data.toList = some q) (h2 : 0 ≤ lm 2 ∧ lm 2 ≤ 1000000) :
  Calls Tryz.prog 63 #[.pointer (some ⟨rb, 0, none⟩), .string s] w fun r w' => r = .returned (.tuple #[]) ∧ JR W lm rb N { p with ps := if p.ps ≠ 0 then p.ps else rlR (LMof lm) s.data.toList } ov hs f w' ∧ Mv rb ov hs w ov hs w' := by
 obtain ⟨P, hP⟩ : ∃ P : Ending → World → Prop, P = fun r w' => r = .returned (.tuple #[]) ∧ JR W lm rb N { p with ps := if p.ps ≠ 0 then p.ps else rlR (LMof lm) s.data.toList } ov hs f w' ∧ Mv rb ov hs w ov hs w' := ⟨_, rfl⟩
 rw [← hP]
 have HP := hid_intro hP
 have HJ := hid_intro hJ
 have HC := hid_intro (rcut_any s w (by omega))
 have hl := cut_len hq
 rw [len_of] at hl
 have hpd := cutL_pd hq
 have hall : (allOf q).length = (bs q.int).size + (bs q.frac).size := by unfold allOf; rw [List.length_append, bs_size, bs_size]
 have hall2 : (allOf q).length ≤ 140737488355328 := by rw [hall, bs_size, bs_size]; omega
 have hV := fun w => rvalue_any q w hall2 hpd.2.2 (by unfold maxLen; omega)
 have HR : Hid (rlR (LMof lm) s.data.toList = if lm 1 < ((bs q.int).size : Int) + ((bs q.frac).size : Int) then 3 else if (vD q).ex < -lm 2 ∨ lm 2 < (vD q).ex then 4 else 0) := hid_intro (by
  unfold rlR
  rw [hq]
  simp only
  rw [hall]
  simp only [LMof, Int.natCast_add]
  rfl)
 have sI : ((bs q.int).size : Int) + ((bs q.frac).size : Int) ≤ 140737488355328 := by rw [hall] at hall2; omega
 have HQ := hid_intro hq
 unfold pv d3 at hV
 have hng : wrap64 (-lm 2) = -lm 2 := by unfold wrap64; omega
 have sW : wrap64 (((bs q.int).size : Int) + ((bs q.frac).size : Int)) = ((bs q.int).size : Int) + ((bs q.frac).size : Int) := by unfold wrap64; omega
 clear hP hJ hl hpd hall hall2 hq hz
 go_enter Tryz.func63, Tryz.ntmps63
 go_wp2_with fail
 refine HC.out.mono ?_
 rintro r w1 ⟨n, a, b, m, x, ok, rfl, hOK, hb1⟩
 rcases hOK with ⟨hn, _⟩ | ⟨q', hq', rfl, rfl, rfl, rfl, rfl, rfl⟩
 ·have := HQ.out; rw [hn] at this; cases this
 have e : q' = q := by have := HQ.out; rw [hq'] at this; injection this
 subst e
 obtain ⟨B1, hB1⟩ : ∃ B1, w1.alloc (.cells #[.bool q'.neg, .string (bs q'.int), .string (bs q'.frac), .bool q'.minus, .string (bs q'.exp)] 144) = B1 := ⟨_, rfl⟩
 have k1 : Bj B1 w1.heap.size #[.bool q'.neg, .string (bs q'.int), .string (bs q'.frac), .bool q'.minus, .string (bs q'.exp)] := hB1 ▸ Bj.new _ _ _
 have hbB1 : Below w.heap.size w B1 := vb_t hb1 (hB1 ▸ vb_a (Below.refl _ _) _)
 have c0 := k1.cell 0
 have c1 := k1.cell 1
 have c2 := k1.cell 2
 have c3 := k1.cell 3
 have c4 := k1.cell 4
 simp only [List.getElem?_toArray, List.getElem?_cons_zero, List.getElem?_cons_succ] at c0 c1 c2 c3 c4
 have HK1 := hid_intro k1
 have HBB1 := hid_intro hbB1
 clear hq' k1 hbB1 hb1
 go_wp2_with fail
 refine (hV _).mono ?_
 rintro r w2 ⟨rfl, hb2⟩
 obtain ⟨B2, hB2⟩ : ∃ B2, w2.alloc (.cells #[.bool (vD q').neg, .string (bs (vD q').dg), .int .i64 (vD q').ex] 27) = B2 := ⟨_, rfl⟩
 have k2 : Bj B2 w2.heap.size #[.bool (vD q').neg, .string (bs (vD q').dg), .int .i64 (vD q').ex] := hB2 ▸ Bj.new _ _ _
 have hbb : Below B1.heap.size B1 B2 := vb_t hb2 (hB2 ▸ vb_a (Below.refl _ _) _)
 have hbB2 : Below w.heap.size w B2 := vb_t HBB1.out hbb
 have p1 := (HK1.out.bel hbb).cell 1
 have p2 := (HK1.out.bel hbb).cell 2
 have e2 := k2.cell 2
 simp only [List.getElem?_toArray, List.getElem?_cons_zero, List.getElem?_cons_succ] at p1 p2 e2
 have hJ2 := HJ.out.belw hbB2
 have r1 := hJ2.rd.c 1 (by omega) (u := .int .i64 (lm 1)) rfl
 have r2 := hJ2.rd.c 2 (by omega) (u := .int .i64 (lm 2)) rfl
 have r15 := hJ2.rd.c 15 (by omega) (u := .int .i64 (p.ps : Int)) rfl
 have z15 := (hJ2.rd 15 (by omega)).2
 have HF : Hid (∀ n m : Nat, n = (if p.ps ≠ 0 then p.ps else rlR (LMof lm) s.data.toList) → P (.returned (.tuple #[])) ((B2.setCell ⟨rb, 15, none⟩ (.int .i64 (n : Int))).drewN m)) := hid_intro (fun n m hn => by
  rw [HP.out, ← hn]
  exact ⟨rfl, (hJ2.ps n).belw (bl_n (Below.refl _ _) m), ((Mv.bel (Mv.refl _ _ _ _) hbB2).trans (Mv.rb ((But.refl _ _).setr _))).bel (bl_n (Below.refl _ _) m)⟩)
 have HF0 : Hid (p.ps = (if p.ps ≠ 0 then p.ps else rlR (LMof lm) s.data.toList) → P (.returned (.tuple #[])) B2 ∧ ∀ m k, P (.returned (.tuple #[])) ((B2.drewN m).drewN k)) := hid_intro (fun hn => by
  rw [HP.out, ← hn]
  exact ⟨⟨rfl, hJ2, Mv.bel (Mv.refl _ _ _ _) hbB2⟩, fun m k => ⟨rfl, hJ2.belw (bl_n (bl_n (Below.refl _ _) m) k), Mv.bel (Mv.refl _ _ _ _) (bl_n (bl_n hbB2 m) k)⟩⟩)
 clear hJ2 hbB2 hbb k2 c0 c1 c2 c3 c4
 generalize bs q'.int = ia at *
 generalize bs q'.frac = fa at *
 generalize (vD q').ex = ex at *
 by_cases hps : p.ps = 0
 ·have hpI : ¬ ((0 : Int) < (p.ps : Int)) := by omega
  have HE : Hid ((if p.ps ≠ 0 then p.ps else rlR (LMof lm) s.data.toList) = rlR (LMof lm) s.data.toList) := hid_intro (by rw [if_neg (by simp [hps])])
  have HPS := hid_intro hps
  clear hps
  by_cases d1 : lm 1 < (ia.size : Int) + (fa.size : Int)
  ·have HF1 := hid_intro (fun m => HF.out 3 m (by rw [HE.out, HR.out, if_pos d1]))
   go_wp2_with fail
   go_quiet (fail)
   go_wp2_with fail
   refine bodyPost_ret (v := .tuple #[]) (by simp [results, Tryz.results63, go_sem]) rfl ?_
   exact HF1.out _
  ·have HD1 := hid_intro d1
   by_cases d2 : ex < -lm 2
   ·have HF1 := hid_intro (fun m => HF.out 4 m (by rw [HE.out, HR.out, if_neg HD1.out, if_pos (Or.inl d2)]))
    have d2b : decide (ex < -lm 2) = true := by simp [d2]
    go_wp2_with fail
    go_quiet (fail)
    go_wp2_with fail
    go_quiet (fail)
    go_wp2_with fail
    refine bodyPost_ret (v := .tuple #[]) (by simp [results, Tryz.results63, go_sem]) rfl ?_
    exact HF1.out _
   ·have d2b : decide (ex < -lm 2) = false := by simp [d2]
    by_cases d3 : lm 2 < ex
    ·have HF1 := hid_intro (fun m => HF.out 4 m (by rw [HE.out, HR.out, if_neg HD1.out, if_pos (Or.inr d3)]))
     have d3b : decide (lm 2 < ex) = true := by simp [d3]
     go_wp2_with fail
     go_quiet (fail)
     go_wp2_with fail
     go_quiet (fail)
     go_wp2_with fail
     refine bodyPost_ret (v := .tuple #[]) (by simp [results, Tryz.results63, go_sem]) rfl ?_
     exact HF1.out _
    ·have d3b : decide (lm 2 < ex) = false := by simp [d3]
     have HF1 := hid_intro (HF0.out (by rw [HE.out, HR.out, if_neg HD1.out, if_neg (by omega)]; exact HPS.out))
     go_wp2_with fail
     go_quiet (fail)
     go_wp2_with fail
     go_quiet (fail)
     go_wp2_with fail
     refine bodyPost_ret (v := .tuple #[]) (by simp [results, Tryz.results63, go_sem]) rfl ?_
     exact HF1.out.2 _ _
 ·have hpI : (0 : Int) < (p.ps : Int) := by omega
  have HF1 := hid_intro (HF0.out (by rw [if_pos (by simpa using hps)]))
  clear hps
  go_wp2_with fail
  refine bodyPost_ret (v := .tuple #[]) (by simp [results, Tryz.results63, go_sem]) rfl ?_
  exact HF1.out.1
end Go.Proofs.YtfoehebnmommfaaGreatDoor.R5

namespace Go.Proofs.YtfoehebnmommfaaGreatDoor.R5
open Go.RowKit Go.Maps
attribute [local go_sem] setCell_drewN alloc_drewN

theorem tx_eq (tx c : List UInt8) : (tx == c) = decide (tx = c) := by
 by_cases h : tx = c <;> simp [h]
def VaR [Ex] (W : World) (lm : Nat → Int) (rb N : Nat) (ov : Value) (hs : List HC) (x : Option PR) (w : World) (r : Ending) (w' : World) : Prop := match x with
 | none => r = .returned (.bool false) ∧ Below w.heap.size w w'
 | some q => r = .returned (.bool true) ∧ ∃ ov' hs' f', JR W lm rb (N + 1) q ov' hs' f' w' ∧ Mv rb ov hs w ov' hs' w'
set_option maxRecDepth 100000 in
set_option maxHeartbeats 3200000 in
theorem value_any [Ex] {W : World} {lm : Nat → Int} {rb N : Nat} {p : PR} {ov : Value} {hs : List HC} {f : Nat → Value} {w : World} (hJ : JR W lm rb N p ov hs f w) (hN : N ≤ 1048576) (t : Lx.Tok) (ht : t.text.length ≤ 1048576) (hnum : t.kind = 2 → ∃ q, cutL t.text = some q) (h2 : 0 ≤ lm 2 ∧ lm 2 ≤ 1000000) :
  Calls Tryz.prog 41 #[.pointer (some ⟨rb, 0, none⟩), Lx.tokV t] w (VaR W lm rb N ov hs (valueR (rlR (LMof lm)) rdR t p) w) := by
 obtain ⟨P, hP⟩ : ∃ P, P = VaR W lm rb N ov hs (valueR (rlR (LMof lm)) rdR t p) w := ⟨_, rfl⟩
 rw [← hP]
 have HP := hid_intro hP
 obtain ⟨kd, tx, fr, te⟩ := t
 have ht : tx.length ≤ 1048576 := ht
 have hnum : kd = 2 → ∃ q, cutL tx = some q := hnum
 obtain ⟨A, hA⟩ : ∃ A, w.alloc (.cells #[.int .i64 (kd : Int), .string ⟨tx.toArray⟩, .int .i64 (fr : Int), .int .i64 (te : Int)] 50) = A := ⟨_, rfl⟩
 have hBA : Below w.heap.size w A := hA ▸ vb_a (Below.refl _ _) _
 have hTA : Bj A w.heap.size #[.int .i64 (kd : Int), .string ⟨tx.toArray⟩, .int .i64 (fr : Int), .int .i64 (te : Int)] := hA ▸ Bj.new _ _ _
 have HBA := hid_intro hBA
 have HTA := hid_intro hTA
 have HJA := hid_intro (hJ.belw hBA)
 have HMA : Hid (Mv rb ov hs w ov hs A) := hid_intro (Mv.bel (Mv.refl _ _ _ _) hBA)
 have HN := hid_intro hN
 have H2 := hid_intro h2
 obtain ⟨t0, t1, t2, t3⟩ := hTA.c4
 have hSz : (⟨tx.toArray⟩ : ByteArray).size ≤ 1048576 := by simpa [ByteArray.size] using ht
 have HSz := hid_intro hSz
 have HNM := hid_intro hnum
 have HPUT : Hid (∀ (k : Int) (t : ByteArray), 0 ≤ k → k ≤ 6 → t.size ≤ 1048576 → Calls Tryz.prog 62 #[.pointer (some ⟨rb, 0, none⟩), .agg #[.int .i64 k, .bool false, .string ⟨#[]⟩, .int .i64 0, .string t, .slice none 0 0, .slice none 0 0]] A (fun r w' => r = .returned (.tuple #[]) ∧ ∃ ov' hs' f', JR W lm rb (N + 1) (putR (.mk k false ⟨#[]⟩ 0 t [] []) p) ov' hs' f' w' ∧ Mv rb ov hs w ov' hs' w')) := hid_intro (fun k t h0 h6 hz => (put_any HJA.out hN (vi_fS A _ k false ⟨#[]⟩ 0 t (wf_of (by omega) (by omega)) (wf_of (by omega) (by omega)) (by unfold maxLen; decide) (by unfold maxLen; omega)) k 0 false ⟨#[]⟩ t none none 0 0 0 0 rfl).mono fun r w' hr => ⟨hr.1, by
  obtain ⟨ov', hs', f', p1, p2⟩ := hr.2
  exact ⟨ov', hs', f', p1, HMA.out.trans p2⟩⟩)
 have HBEG : Hid (∀ (k : Int), k = 5 ∨ k = 6 → Calls Tryz.prog 65 #[.pointer (some ⟨rb, 0, none⟩), .int .i64 k] A (fun r w' => r = .returned (.tuple #[]) ∧ ∃ ov' hs' f', JR W lm rb (N + 1) (beginR k p) ov' hs' f' w' ∧ Mv rb ov hs w ov' hs' w')) := hid_intro (fun k hk => (begin_any k hk HJA.out hN).mono fun r w' hr => ⟨hr.1, by
  obtain ⟨ov', p1, p2⟩ := hr.2
  exact ⟨ov', _, _, p1, HMA.out.trans p2⟩⟩)
 have HRL : Hid (rb < w.heap.size) := hid_intro hJ.rd.lt
 have HLT : Hid (∀ b, b ∈ muts ov hs → b < w.heap.size) := hid_intro (fun b hb => (hJ.st.lt b hb).2)
 unfold Lx.tokV
 have x1 := tx_eq tx [110, 117, 108, 108]
 have x2 := tx_eq tx [102, 97, 108, 115, 101]
 have x3 := tx_eq tx [91]
 have x4 := tx_eq tx [123]
 clear hP hJ ht hnum hBA hTA hN h2 hSz
 by_cases k1 : kd = 1
 ·have hk1 : ((kd : Int) == 1) = true := by simp; omega
  have HV : Hid (valueR (rlR (LMof lm)) rdR ⟨kd, tx, fr, te⟩ p = some (putR (.mk 4 false ⟨#[]⟩ 0 ⟨tx.toArray⟩ [] []) p)) := hid_intro (by unfold valueR; simp only [k1, if_true])
  have HC := hid_intro (HPUT.out 4 ⟨tx.toArray⟩ (by decide) (by decide) HSz.out)
  clear k1 x1 x2 x3 x4
  go_enter Tryz.func41, Tryz.ntmps41
  go_wp2_with (go_at_call 62; refine HC.out.mono ?_; rintro r w1 ⟨rfl, hw1⟩)
  rw [HP.out, HV.out]
  exact ⟨rfl, hw1⟩
 have hk1 : ((kd : Int) == 1) = false := by simp; omega
 by_cases k2 : kd = 2
 ·have hk2 : ((kd : Int) == 2) = true := by simp; omega
  obtain ⟨q, hq⟩ := HNM.out k2
  have HV : Hid (valueR (rlR (LMof lm)) rdR ⟨kd, tx, fr, te⟩ p = some (putR (rdR tx) { p with ps := if p.ps ≠ 0 then p.ps else rlR (LMof lm) tx })) := hid_intro (by unfold valueR; simp only [k2]; rfl)
  have HLM := hid_intro (limits_any HJA.out ⟨tx.toArray⟩ q HSz.out (by simpa using hq) H2.out)
  have HPA : Hid (∀ w', Calls Tryz.prog 64 #[.string ⟨tx.toArray⟩] w' fun r w'' => r = .returned (.tuple #[.agg #[.bool (parseL tx).2.neg, .string (bs (parseL tx).2.dg), .int .i64 (parseL tx).2.ex], .int .i64 (parseL tx).1]) ∧ Below w'.heap.size w' w'') := hid_intro (fun w' => by
   have := rparse_any ⟨tx.toArray⟩ w' (by have := HSz.out; omega)
   simpa [d3] using this)
  have HEX := hid_intro (ex_lo tx)
  have HDL : Hid ((bs (parseL tx).2.dg).size ≤ maxLen) := hid_intro (by have := dg_lo tx; rw [bs_size]; unfold maxLen; omega)
  clear k1 k2 x1 x2 x3 x4 hq
  go_enter Tryz.func41, Tryz.ntmps41
  go_wp2_with fail
  refine HLM.out.mono ?_
  rintro r w1 ⟨rfl, hj1, hm1⟩
  have hT1 : Bj w1 w.heap.size #[.int .i64 (kd : Int), .string ⟨tx.toArray⟩, .int .i64 (fr : Int), .int .i64 (te : Int)] := HTA.out.but hm1.but (by rintro (e | e); (have := HRL.out; omega); (have := HLT.out _ e; omega))
  obtain ⟨s0, s1, s2, s3⟩ := hT1.c4
  have HJ1 := hid_intro hj1
  have HM1 := hid_intro hm1
  clear hj1 hm1 hT1 t0 t1 t2 t3
  go_wp2_with fail
  refine (HPA.out w1).mono ?_
  rintro r w2 ⟨rfl, hb2⟩
  obtain ⟨B2, hB2⟩ : ∃ B2, w2.alloc (.cells #[.bool (parseL tx).2.neg, .string (bs (parseL tx).2.dg), .int .i64 (parseL tx).2.ex] 27) = B2 := ⟨_, rfl⟩
  have k2 : Bj B2 w2.heap.size #[.bool (parseL tx).2.neg, .string (bs (parseL tx).2.dg), .int .i64 (parseL tx).2.ex] := hB2 ▸ Bj.new _ _ _
  have hbB : Below w1.heap.size w1 B2 := vb_t hb2 (hB2 ▸ vb_a (Below.refl _ _) _)
  have e0 := k2.cell 0
  have e1 := k2.cell 1
  have e2 := k2.cell 2
  simp only [List.getElem?_toArray, List.getElem?_cons_zero, List.getElem?_cons_succ] at e0 e1 e2
  have HC := hid_intro ((put_any (HJ1.out.belw hbB) HN.out (vi_fS B2 _ 3 (parseL tx).2.neg (bs (parseL tx).2.dg) (parseL tx).2.ex ⟨#[]⟩ (wf_of (by omega) (by omega)) (wf_of (by have := HEX.out; omega) (by have := HEX.out; omega)) HDL.out (by unfold maxLen; decide)) 3 (parseL tx).2.ex (parseL tx).2.neg (bs (parseL tx).2.dg) ⟨#[]⟩ none none 0 0 0 0 rfl).mono fun r w' hr => (⟨hr.1, by
   obtain ⟨ov', hs', f', p1, p2⟩ := hr.2
   exact ⟨ov', hs', f', p1, (HMA.out.trans HM1.out).trans ((Mv.bel (Mv.refl _ _ _ _) hbB).trans p2)⟩⟩ : r = .returned (.tuple #[]) ∧ ∃ ov' hs' f', JR W lm rb (N + 1) (putR (rdR tx) { p with ps := if p.ps ≠ 0 then p.ps else rlR (LMof lm) tx }) ov' hs' f' w' ∧ Mv rb ov hs w ov' hs' w'))
  clear k2 hbB hb2
  go_wp2_with (go_at_call 62; refine HC.out.mono ?_; rintro r w3 ⟨rfl, hw3⟩)
  rw [HP.out, HV.out]
  exact ⟨rfl, hw3⟩
 have hk2 : ((kd : Int) == 2) = false := by simp; omega
 by_cases k3 : kd = 3
 ·have hk3 : ((kd : Int) == 3) = true := by simp; omega
  by_cases n1 : tx = [110, 117, 108, 108]
  ·rw [decide_eq_true n1] at x1
   have HV : Hid (valueR (rlR (LMof lm)) rdR ⟨kd, tx, fr, te⟩ p = some (putR (.mk 0 false ⟨#[]⟩ 0 ⟨#[]⟩ [] []) p)) := hid_intro (by unfold valueR; rw [if_neg k1, if_neg k2, if_pos k3, if_pos n1]; rfl)
   have HC := hid_intro (HPUT.out 0 ⟨#[]⟩ (by decide) (by decide) (by decide))
   clear k1 k2 k3 x2 x3 x4 n1
   go_enter Tryz.func41, Tryz.ntmps41
   go_wp2_with (go_at_call 62; refine HC.out.mono ?_; rintro r w1 ⟨rfl, hw1⟩)
   rw [HP.out, HV.out]
   exact ⟨rfl, hw1⟩
  ·rw [decide_eq_false n1] at x1
   by_cases n2 : tx = [102, 97, 108, 115, 101]
   ·rw [decide_eq_true n2] at x2
    have HV : Hid (valueR (rlR (LMof lm)) rdR ⟨kd, tx, fr, te⟩ p = some (putR (.mk 1 false ⟨#[]⟩ 0 ⟨#[]⟩ [] []) p)) := hid_intro (by unfold valueR; rw [if_neg k1, if_neg k2, if_pos k3, if_neg n1, if_pos n2]; rfl)
    have HC := hid_intro (HPUT.out 1 ⟨#[]⟩ (by decide) (by decide) (by decide))
    clear k1 k2 k3 x3 x4 n1 n2
    go_enter Tryz.func41, Tryz.ntmps41
    go_wp2_with (go_at_call 62; refine HC.out.mono ?_; rintro r w1 ⟨rfl, hw1⟩)
    rw [HP.out, HV.out]
    exact ⟨rfl, hw1⟩
   ·rw [decide_eq_false n2] at x2
    have HV : Hid (valueR (rlR (LMof lm)) rdR ⟨kd, tx, fr, te⟩ p = some (putR (.mk 2 false ⟨#[]⟩ 0 ⟨#[]⟩ [] []) p)) := hid_intro (by unfold valueR; rw [if_neg k1, if_neg k2, if_pos k3, if_neg n1, if_neg n2]; rfl)
    have HC := hid_intro (HPUT.out 2 ⟨#[]⟩ (by decide) (by decide) (by decide))
    clear k1 k2 k3 x3 x4 n1 n2
    go_enter Tryz.func41, Tryz.ntmps41
    go_wp2_with (go_at_call 62; refine HC.out.mono ?_; rintro r w1 ⟨rfl, hw1⟩)
    rw [HP.out, HV.out]
    exact ⟨rfl, hw1⟩
 have hk3 : ((kd : Int) == 3) = false := by simp; omega
 by_cases n3 : tx = [91]
 ·rw [decide_eq_true n3] at x3
  by_cases k4 : kd = 4
  ·have hk4 : ((kd : Int) == 4) = true := by simp; omega
   have HV : Hid (valueR (rlR (LMof lm)) rdR ⟨kd, tx, fr, te⟩ p = some (beginR 5 p)) := hid_intro (by unfold valueR; rw [if_neg k1, if_neg k2, if_neg k3, if_pos ⟨k4, n3⟩])
   have HC := hid_intro (HBEG.out 5 (by decide))
   clear k1 k2 k3 k4 n3 x1 x2 x4
   go_enter Tryz.func41, Tryz.ntmps41
   go_wp2_with (go_at_call 65; refine HC.out.mono ?_; rintro r w1 ⟨rfl, hw1⟩)
   rw [HP.out, HV.out]
   exact ⟨rfl, hw1⟩
  ·have hk4 : ((kd : Int) == 4) = false := by simp; omega
   have n4 : ¬ tx = [123] := fun e => by rw [e] at n3; cases n3
   rw [decide_eq_false n4] at x4
   have HV : Hid (valueR (rlR (LMof lm)) rdR ⟨kd, tx, fr, te⟩ p = none) := hid_intro (by unfold valueR; rw [if_neg k1, if_neg k2, if_neg k3, if_neg (fun h => k4 h.1), if_neg (fun h => k4 h.1)])
   clear k1 k2 k3 k4 n3 n4 x1 x2
   go_enter Tryz.func41, Tryz.ntmps41
   go_wp2_with fail
   rw [HP.out, HV.out]
   exact ⟨rfl, HBA.out⟩
 rw [decide_eq_false n3] at x3
 by_cases n4 : tx = [123]
 ·rw [decide_eq_true n4] at x4
  by_cases k4 : kd = 4
  ·have hk4 : ((kd : Int) == 4) = true := by simp; omega
   have HV : Hid (valueR (rlR (LMof lm)) rdR ⟨kd, tx, fr, te⟩ p = some (beginR 6 p)) := hid_intro (by unfold valueR; rw [if_neg k1, if_neg k2, if_neg k3, if_neg (fun h => n3 h.2), if_pos ⟨k4, n4⟩])
   have HC := hid_intro (HBEG.out 6 (by decide))
   clear k1 k2 k3 k4 n3 n4 x1 x2
   go_enter Tryz.func41, Tryz.ntmps41
   go_wp2_with (go_at_call 65; refine HC.out.mono ?_; rintro r w1 ⟨rfl, hw1⟩)
   rw [HP.out, HV.out]
   exact ⟨rfl, hw1⟩
  ·have hk4 : ((kd : Int) == 4) = false := by simp; omega
   have HV : Hid (valueR (rlR (LMof lm)) rdR ⟨kd, tx, fr, te⟩ p = none) := hid_intro (by unfold valueR; rw [if_neg k1, if_neg k2, if_neg k3, if_neg (fun h => k4 h.1), if_neg (fun h => k4 h.1)])
   clear k1 k2 k3 k4 n3 n4 x1 x2
   go_enter Tryz.func41, Tryz.ntmps41
   go_wp2_with fail
   rw [HP.out, HV.out]
   exact ⟨rfl, HBA.out⟩
 rw [decide_eq_false n4] at x4
 have HV : Hid (valueR (rlR (LMof lm)) rdR ⟨kd, tx, fr, te⟩ p = none) := hid_intro (by unfold valueR; rw [if_neg k1, if_neg k2, if_neg k3, if_neg (fun h => n3 h.2), if_neg (fun h => n4 h.2)])
 clear k1 k2 k3 n3 n4 x1 x2
 go_enter Tryz.func41, Tryz.ntmps41
 go_wp2_with fail
 rw [HP.out, HV.out]
 exact ⟨rfl, HBA.out⟩
end Go.Proofs.YtfoehebnmommfaaGreatDoor.R5
