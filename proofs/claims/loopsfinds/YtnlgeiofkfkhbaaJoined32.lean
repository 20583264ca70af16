/-
  Ranks. Conditions: n at most 1000, at most 2^20 edges.
-/
import Derived.Test.YtnlgeiofkfkhbaaJoined31
namespace Go.Proofs.Ytnlgeiofkfkhbaa
open Go.RowKit Go.Maps Lg
attribute [local go_sem] setCell_drewN alloc_drewN

theorem mx_snoc (L : Nat → Nat) : ∀ (l : List Nat) (y r : Nat), mx L (l ++ [y]) r = max (mx L l r) (L y + 1)
 | [], _, _ => rfl
 | _ :: l, y, _ => mx_snoc L l y _
/-- Ranks of places, told by numbers. -/
def MN (nums : List Nat) (L : Nat → Nat) : Nat → Nat := fun a => if a ∈ nums then L (nums.idxOf a) else 0
theorem mn_at {nums : List Nat} (hn : nums.Nodup) (L : Nat → Nat) {p : Nat} (hp : p < nums.length) : MN nums L nums[p] = L p := by
 unfold MN
 rw [if_pos (List.getElem_mem hp), idx_self hn hp]
theorem mn_upd {nums : List Nat} (hn : nums.Nodup) (L : Nat → Nat) {p : Nat} (hp : p < nums.length) (r : Nat) : upd1 (MN nums L) nums[p] r = MN nums (upd1 L p r) := by
 funext a
 unfold upd1 MN
 by_cases e : a = nums[p]
 ·subst e
  rw [if_pos rfl, if_pos (List.getElem_mem hp)]
  dsimp only
  rw [if_pos (idx_self hn hp)]
 ·rw [if_neg e]
  by_cases k : a ∈ nums
  ·rw [if_pos k, if_pos k]
   dsimp only
   rw [if_neg]
   intro h
   have := List.getElem_idxOf (List.idxOf_lt_length_of_mem k)
   exact e (by rw [← this]; congr 1)
  ·rw [if_neg k, if_neg k]
theorem upd_upd (L : Nat → Nat) (p r s : Nat) : upd1 (upd1 L p r) p s = upd1 L p s := by
 funext x; unfold upd1; split <;> rfl
theorem upd_self (L : Nat → Nat) (p : Nat) : upd1 L p (L p) = L := by
 funext x; unfold upd1; split
 ·rename_i h; rw [h]
 ·rfl
/-- What Ranks answers. -/
def RnP (n : Int) (E : List Ed) (w : World) (r : Ending) (w' : World) : Prop := Below w.heap.size w w' ∧
 ((Cy (prs n E) ∧ r = .returned (.tuple #[.slice none 0 0, .bool false])) ∨ (¬ Cy (prs n E) ∧ ∃ M v, Rank (rowOf (prs n E)) M ∧ r = .returned (.tuple #[v, .bool true]) ∧ OwnI w' w.heap.size v (outL M n.toNat)))
/-- Where its loop stands. -/
structure RkS (N : Nat) (nums : List Nat) (R : Nat → List Nat) (fin : List Nat) (rb i : Nat) (L : Nat → Nat) (w5 wr : World) : Prop where
 bel : Below w5.heap.size w5 wr
 ow : OwnI wr w5.heap.size (.slice (some ⟨rb, 0, none⟩) N N) (outL (MN nums L) N)
 ra : L = ranked R (fin.take i) (fun _ => 0)
 le : i ≤ fin.length
 b : ∀ x, L x ≤ i
/-- .. and a row's. -/
structure RkT (N : Nat) (nums : List Nat) (R : Nat → List Nat) (rb p j i : Nat) (L : Nat → Nat) (w5 wr : World) : Prop where
 bel : Below w5.heap.size w5 wr
 ow : OwnI wr w5.heap.size (.slice (some ⟨rb, 0, none⟩) N N) (outL (MN nums (upd1 L p (mx L ((R p).take j) (L p)))) N)
 le : j ≤ (R p).length
 b : mx L ((R p).take j) (L p) ≤ i + 1
theorem rank_of {n : Int} {E : List Ed} {nums fin : List Nat} (h : Net (prs n E) nums) (hf : Fin (rowOf (pl nums (prs n E))) nums.length true fin) (hall : ∀ v, v < nums.length → v ∈ fin) : Rank (rowOf (prs n E)) (MN nums (ranked (rowOf (pl nums (prs n E))) fin (fun _ => 0))) :=
 pl_rank h (fun p hp => ranked_topo hf.fnd (fun A u B e => hf.s rfl A u B e) p (hall p hp))
theorem no_self {R : Nat → List Nat} {m : Nat} {fin : List Nat} (hf : Fin R m true fin) {i : Nat} (hi : i < fin.length) : ∀ y ∈ R fin[i], y ≠ fin[i] := by
 intro y hy e
 have hs := hf.s rfl (fin.take i) fin[i] (fin.drop (i + 1)) (by rw [List.getElem_cons_drop, List.take_append_drop]) y hy
 rw [e] at hs
 obtain ⟨j, hj, e2⟩ := List.mem_iff_getElem.1 hs
 rw [List.getElem_take] at e2
 have hj2 : j < i := by rw [List.length_take] at hj; omega
 have := (List.getElem_inj hf.fnd).1 e2
 omega
theorem outL_cell {w : World} {B rb N : Nat} {L : Nat → Nat} (h : OwnI w B (.slice (some ⟨rb, 0, none⟩) N N) (outL L N)) {a : Nat} (ha : a < N) : w.cell? ⟨rb, a, none⟩ = some (.int .i64 ((L a : Nat) : Int)) ∧ w.frozen? ⟨rb, a, none⟩ = false := by
 obtain ⟨c, z⟩ := h.at (outL_len L N).symm (j := a) (by rw [outL_len]; exact ha)
 rw [outL_at L ha] at c
 exact ⟨c, z⟩

set_option maxRecDepth 100000 in
set_option maxHeartbeats 6400000 in
theorem ranks_any (n : Int) (hn : n ≤ 1000) (hn2 : I64 n) (E : List Ed) (hEl : E.length ≤ 1048576) (v : Value) (w : World) (hE : EdI w v E) : Calls Try.prog 14 #[.int .i64 n, v] w (RnP n E w) := by
 obtain ⟨Q0, hQ0⟩ : ∃ P' : Ending → World → Prop, P' = RnP n E w := ⟨_, rfl⟩
 rw [← hQ0]
 have HQ := hid_intro hQ0
 have HNT := hid_intro (netOf_any n (by omega) hn2 E hEl v w hE)
 obtain ⟨N, hN⟩ : ∃ N, n.toNat = N := ⟨_, rfl⟩
 have hN1 : N ≤ 1000 := by omega
 have HNN := hid_intro (And.intro hN1 (And.intro hEl hN))
 have hnI : (N : Int) ≤ 1000 := by omega
 have hmax : max n 0 = (N : Int) := by omega
 have hmost : ¬ (2147483647 : Int) < n := by omega
 have hge : (0 : Int) ≤ (N : Int) := by omega
 obtain ⟨eo, ec, rfl, -⟩ := hE
 clear hQ0 hn hn2 hEl hN hN1
 go_enter Try.func14, Try.ntmps14
 go_wp2_with fail
 refine HNT.out.mono ?_
 rintro r w1 ⟨hb1, nums, nv, g, rfl, hnt⟩
 obtain ⟨no, nc, rfl, -⟩ := id hnt.nv
 rw [il_len] at hnt ⊢
 have hlen : nums.length ≤ 1000 := by
  have := nodup_len n.toNat nums (rise_nodup hnt.ri) hnt.lt
  have := HNN.out.1
  have := HNN.out.2.2
  omega
 have hR : ∀ v, ∀ t ∈ rowOf (pl nums (prs n E)) v, t < nums.length := fun v t ht => (pl_lt hnt.net (v, t) (mem_rowOf.1 ht)).2
 have hrl : ∀ v, (rowOf (pl nums (prs n E)) v).length ≤ 1048576 := fun v => by
  refine Nat.le_trans (rowOf_len _ _) ?_
  unfold pl
  rw [List.length_map]
  have h1 := prs_len n E
  have h3 := HNN.out.2.1
  omega
 have hb2 : Below w1.heap.size w1 (w1.alloc (.cells #[.slice no nums.length nc, .slice (some ⟨g, 0, none⟩) nums.length nums.length] 36)) := vb_a (Below.refl _ _) _
 have kB := Bk.new w1 #[.slice no nums.length nc, .slice (some ⟨g, 0, none⟩) nums.length nums.length] 36
 obtain ⟨W2, hW2⟩ : ∃ W2, w1.alloc (.cells #[.slice no nums.length nc, .slice (some ⟨g, 0, none⟩) nums.length nums.length] 36) = W2 := ⟨_, rfl⟩
 rw [hW2] at hb2 kB
 have HUT := hid_intro (untangle_any g nums.length (rowOf (pl nums (prs n E))) hlen hR hrl W2 (hnt.mx.but (But.ofBelow hb2)))
 have HCS := hid_intro (cy_says hnt.net)
 have HB := hid_intro (And.intro hb1 (And.intro hb2 kB))
 have HT := hid_intro hnt
 have HRR := hid_intro (And.intro hR hrl)
 obtain ⟨c0, c1⟩ := kB.c2b
 have HLE := hid_intro hlen
 clear hb1 hnt hlen hR hrl hb2 kB HNT
 go_wp2_with fail
 refine HUT.out.mono ?_
 rintro r w3 ⟨hb3, hm⟩
 have hcs := HCS.out
 have hBW : Below w.heap.size w w3 := HB.out.1.trans ((HB.out.2.1.trans (hb3.mono HB.out.2.1.size)).mono HB.out.1.size)
 have HBW := hid_intro hBW
 have HN3 : Hid (II w3 (fun _ => False) (il nums) (.slice no nums.length nc)) := hid_intro (HT.out.nv.carry (fun b _ hl => ⟨(hb3.block b (Nat.lt_of_lt_of_le hl HB.out.2.1.size)).trans (HB.out.2.1.block b hl), fun h => h⟩))
 have HM3 : Hid (MX w3 (fun _ => False) g nums.length (rowOf (pl nums (prs n E)))) := hid_intro ((HT.out.mx.but (But.ofBelow HB.out.2.1)).but (But.ofBelow hb3))
 have HK3 := hid_intro (HB.out.2.2.bel hb3)
 cases hrn : runs (rowOf (pl nums (prs n E))) true nums.length (List.range nums.length) [] with
 | error c =>
  rw [hrn] at hm hcs
  obtain ⟨cv, rfl, hcv⟩ := hm
  obtain ⟨co, cc, rfl, -⟩ := id hcv
  have hne := cyc_ne hcs.2.1
  have hpos : (0 : Int) < ((il c).length : Int) := by rw [il_len]; have := List.length_pos_iff.2 hne; omega
  have hpos2 : 0 < (il c).length := by omega
  have HC := hid_intro hcs.1
  clear hcs hcv hBW hb3 hrn hW2 c0 c1 hne
  go_wp2_with fail
  rw [HQ.out]
  exact ⟨HBW.out, Or.inl ⟨HC.out, rfl⟩⟩
 | ok fin =>
  rw [hrn] at hm hcs
  obtain ⟨ov, rfl, how⟩ := hm
  obtain ⟨oo, oc, rfl, -⟩ := how.form
  have HC := hid_intro hcs
  have HOW := hid_intro (how.ii (fun _ => False) (fun b _ h => h))
  clear hcs how hBW hb3 hrn hW2 c0 c1
  rw [il_len] at HOW ⊢
  go_wp2_with (at_make; refine wpList_make_i rfl _ _ rfl w3.heap.size N rfl rfl (by have := HNN.out; omega) (Nat.le_refl _) ?_; intro w4 ho4 hg4 _; have HO4 := hid_intro ho4; have HB4 : Hid (Below w3.heap.size w3 w4) := hid_intro ((Below.refl _ _).grown hg4 (Nat.le_refl _) (fun b e => by cases e)); clear ho4 hg4)
  generalize hRdef : rowOf (pl nums (prs n E)) = R at *
  obtain ⟨rb, hrb⟩ : ∃ rb, w3.heap.size = rb := ⟨_, rfl⟩
  rw [hrb] at HO4 ⊢
  have HI0 : Hid (RkS N nums R fin rb 0 (fun _ => 0) w3 w4) := hid_intro ⟨HB4.out, by
   have h := HO4.out
   rw [hrb]
   have e : outL (MN nums fun _ => 0) N = List.replicate N 0 := by
    rw [← outL_0]; congr 1; funext a; unfold MN; split <;> rfl
   rw [e]; exact h, by rw [List.take_zero]; rfl, Nat.zero_le _, fun x => Nat.le_refl _⟩
  have hflI : (fin.length : Int) ≤ 1000 := by
   have := nodup_len nums.length fin HC.out.2.1.fnd HC.out.2.1.flt
   have := HLE.out
   omega
  go_loopg [11, 12, 14, 36, 53] (fin.length) (fun g s11 s12 s14 s36 s53 wr => ∃ (i : Nat) (L : Nat → Nat), g = fin.length - i ∧ s36 = .int .i64 (i : Int) ∧ Hid (RkS N nums R fin rb i L w3 wr))
  case atStart => exact ⟨0, _, rfl, rfl, HI0⟩
  case round =>
   obtain ⟨i, L, rfl, rfl, HI⟩ := hrel
   by_cases hi : i < fin.length
   ·have hiI : (i : Int) < (fin.length : Int) := by omega
    have hpm : fin[i] < nums.length := HC.out.2.1.flt _ (List.getElem_mem hi)
    have HNS := hid_intro (no_self HC.out.2.1 hi)
    obtain ⟨ao2, ac2, he2, -, ho2⟩ := HOW.out.shape
    injection he2 with he21 he22 he23
    subst he21 he23
    clear he22
    obtain ⟨ob, ooff, rfl, hoc⟩ := ho2.resolve_left (fun e => by have := congrArg List.length e; rw [il_len] at this; rw [this] at hi; simp at hi)
    have q1 := hoc wr HI.out.bel i (by rw [il_len]; exact hi)
    rw [il_at hi] at q1
    obtain ⟨an2, nc2, hn2, -, hno2⟩ := HN3.out.shape
    injection hn2 with hn21 hn22 hn23
    subst hn21 hn23
    clear hn22
    obtain ⟨nb, noff, rfl, hnc⟩ := hno2.resolve_left (fun e => by have := congrArg List.length e; rw [il_len] at this; rw [this] at hpm; simp at hpm)
    have q2 := hnc wr HI.out.bel fin[i] (by rw [il_len]; exact hpm)
    rw [il_at hpm] at q2
    have HNC := hid_intro hnc
    obtain ⟨k0, k1⟩ := (HK3.out.bel HI.out.bel).c2b
    obtain ⟨rv, q3, hrv⟩ := HM3.out.at hpm
    obtain ⟨rao, rrc, rfl, -, hrc⟩ := hrv.shape
    rw [il_len] at q3
    replace q3 := (HI.out.bel.cell (p := ⟨g, fin[i], none⟩) (World.block_lt_of_cell? w3 _ q3)).trans q3
    have HRC := hid_intro hrc
    have hnp : nums[fin[i]] < N := by have := HT.out.lt _ (List.getElem_mem hpm); have := HNN.out.2.2; omega
    obtain ⟨q4, q5⟩ := outL_cell HI.out.ow hnp
    have hrlI : (((R fin[i]).length : Nat) : Int) ≤ 1048576 := by have := HRR.out.2 fin[i]; omega
    have HTK : Hid (fin.take (i + 1) = fin.take i ++ [fin[i]]) := hid_intro (List.take_succ_eq_append_getElem hi)
    rw [mn_at (rise_nodup HT.out.ri) L hpm] at q4
    have HMU := hid_intro (fun r => mn_upd (rise_nodup HT.out.ri) L hpm r)
    have HT0 : Hid (RkT N nums R rb fin[i] 0 i L w3 wr) := hid_intro ⟨HI.out.bel, by rw [List.take_zero]; show OwnI wr w3.heap.size _ (outL (MN nums (upd1 L fin[i] (L fin[i]))) N); rw [upd_self]; exact HI.out.ow, Nat.zero_le _, by rw [List.take_zero]; have := HI.out.b fin[i]; show L fin[i] ≤ i + 1; omega⟩
    clear hoc ho2 hno2 hnc hrc
    have hnpI : ((nums[fin[i]] : Nat) : Int) < (N : Int) := by omega
    have HPM := hid_intro (And.intro hpm hnp)
    have hpmI : ((fin[i] : Nat) : Int) < (nums.length : Int) := by omega
    generalize hyd : nums[fin[i]] = y at *
    have HYD := hid_intro hyd
    clear hyd
    generalize fin[i] = p at *
    have HLT := hid_intro hi
    clear hi
    go_wp2_with fail
    go_loopg [14, 53] ((R p).length) (fun g s14 s53 wq => ∃ j : Nat, g = (R p).length - j ∧ s53 = .int .i64 (j : Int) ∧ Hid (RkT N nums R rb p j i L w3 wq))
    case atStart => exact ⟨0, rfl, rfl, HT0⟩
    case round =>
     obtain ⟨j, rfl, rfl, HJ⟩ := hrel
     by_cases hj : j < (R p).length
     ·have hjI : (j : Int) < (((R p).length : Nat) : Int) := by omega
      obtain ⟨rob, roff, rfl, hrx⟩ := HRC.out.resolve_left (fun e => by have := congrArg List.length e; rw [il_len] at this; rw [this] at hj; simp at hj)
      have c1 := hrx wr HJ.out.bel j (by rw [il_len]; exact hj)
      rw [il_at hj] at c1
      obtain ⟨tt, htt⟩ : ∃ tt, (R p)[j] = tt := ⟨_, rfl⟩
      rw [htt] at c1
      have htm : tt ∈ R p := htt ▸ List.getElem_mem hj
      have htl : tt < nums.length := HRR.out.1 _ _ htm
      have hne := HNS.out _ htm
      have c2 := HNC.out wr HJ.out.bel tt (by rw [il_len]; exact htl)
      rw [il_at htl] at c2
      obtain ⟨z, hz⟩ : ∃ z, nums[tt] = z := ⟨_, rfl⟩
      have hzN : z < N := by have := HT.out.lt _ (List.getElem_mem htl); rw [hz] at this; have := HNN.out.2.2; omega
      obtain ⟨cur, hcu⟩ : ∃ cur, mx L ((R p).take j) (L p) = cur := ⟨_, rfl⟩
      have hjo := HJ.out.ow
      rw [hcu] at hjo
      obtain ⟨c3, -⟩ := outL_cell hjo hzN
      have hmz := mn_at (rise_nodup HT.out.ri) (upd1 L p cur) htl
      rw [hz] at hmz c2
      obtain ⟨lv, hlv⟩ : ∃ lv, L tt = lv := ⟨_, rfl⟩
      have hup : upd1 L p cur tt = lv := by unfold upd1; rw [if_neg hne]; exact hlv
      rw [hmz, hup] at c3
      obtain ⟨c4, c5⟩ := outL_cell hjo HPM.out.2
      have hcur : MN nums (upd1 L p cur) y = cur := by
       have := mn_at (rise_nodup HT.out.ri) (upd1 L p cur) HPM.out.1
       rw [HYD.out] at this
       rw [this]; unfold upd1; rw [if_pos rfl]
      rw [hcur] at c4
      obtain ⟨d0, d1⟩ := (HK3.out.bel HJ.out.bel).c2b
      have hb1 := HI.out.b tt
      rw [hlv] at hb1
      have hb2 := HJ.out.b
      rw [hcu] at hb2
      have hfin1 : i < 1000 := by omega
      obtain ⟨nx, hnx⟩ : ∃ nx, max cur (lv + 1) = nx := ⟨_, rfl⟩
      have HMX : Hid (mx L ((R p).take (j + 1)) (L p) = nx) := hid_intro (by rw [List.take_succ_eq_append_getElem hj, mx_snoc, hcu, htt, hlv]; exact hnx)
      have hmxI : max (cur : Int) ((lv : Int) + 1) = (nx : Int) := by omega
      have hnb : nx ≤ i + 1 := by omega
      have hlbI : (lv : Int) ≤ 1000 := by omega
      have hlv0 : (-9223372036854775808 : Int) ≤ (lv : Int) + 1 := by omega
      have HPU := hid_intro (hjo.put (outL_len _ N).symm y (nx : Int) (by unfold I64; omega))
      rw [outL_set] at HPU
      have HPV : Hid (upd1 (MN nums (upd1 L p cur)) y nx = MN nums (upd1 L p nx)) := hid_intro (by
       have := mn_upd (rise_nodup HT.out.ri) (upd1 L p cur) HPM.out.1 nx
       rw [HYD.out, upd_upd] at this
       exact this)
      have HNX := hid_intro hnb
      have htlI : (tt : Int) < (nums.length : Int) := by omega
      have hzNI : (z : Int) < (N : Int) := by omega
      have HBB := hid_intro (HJ.out.bel.grown HPU.out.2 HJ.out.bel.size (fun b e => by injection e with e; omega))
      have HLJ := hid_intro hj
      clear hrx htm hne hcur hb1 hb2 hfin1 hnx hnb htt hz hcu hjo hmz hlv hup htl hzN hj
      go_wp2_with fail
      go_region_law (fail)
      all_goals
       go_wp2_with fail
       go_roundg ((R p).length - (j + 1))
       case measure => have := HLJ.out; omega
       case rel =>
        refine ⟨j + 1, rfl, by go_num, ?_⟩
        rw [hmxI]
        exact (hid_intro ⟨vb_d HBB.out, by rw [HMX.out, ← HPV.out]; exact HPU.out.1.bel (vb_d (Below.refl _ _)), HLJ.out, by rw [HMX.out]; exact HNX.out⟩)
     ·have hjI : ¬ (j : Int) < (((R p).length : Nat) : Int) := by omega
      have hje : j = (R p).length := by have := HJ.out.le; omega
      have HJE := hid_intro hje
      clear hje
      go_wp2_with fail
      go_roundg (fin.length - (i + 1))
      case measure => have := HLT.out; omega
      case rel =>
       have ho := HJ.out.ow
       have hb := HJ.out.b
       rw [HJE.out, List.take_length] at ho hb
       refine ⟨i + 1, upd1 L p (mx L (R p) (L p)), rfl, by go_num, hid_intro ⟨HJ.out.bel, ho, ?_, HLT.out, fun x => ?_⟩⟩
       ·rw [HTK.out, ranked_snoc, ← HI.out.ra]
       ·unfold upd1
        split
        ·exact hb
        ·have := HI.out.b x; omega
   ·have hiI : ¬ (i : Int) < (fin.length : Int) := by omega
    have hie : i = fin.length := by have := HI.out.le; omega
    go_wp2_with fail
    rw [HQ.out]
    have hra := HI.out.ra
    rw [hie, List.take_length] at hra
    refine ⟨HBW.out.trans (HI.out.bel.mono HBW.out.size), Or.inr ⟨HC.out.1, _, _, rank_of HT.out.net (hRdef ▸ HC.out.2.1) HC.out.2.2, rfl, ?_⟩⟩
    have h := HI.out.ow
    rw [hra] at h
    rw [hRdef, HNN.out.2.2]
    exact h.low HBW.out.size
end Go.Proofs.Ytnlgeiofkfkhbaa
