/-
  Parts: each number's part. Conditions: n is at most 1000, the edges at most 2^20.
-/
import Derived.Test.YtnlgeiofkfkhbaaJoined45
import Derived.Test.YtnlgeiofkfkhbaaJoined46
import Derived.Test.YtnlgeiofkfkhbaaJoined34
namespace Go.Proofs.Ytnlgeiofkfkhbaa
open Go.RowKit Go.Maps Lg
attribute [local go_sem] setCell_drewN alloc_drewN

/-- All edges turned round. -/
theorem trn_tot (es : List (Nat × Nat)) : ∀ i, (trn (rowOf es) i).length ≤ es.length := by
 intro i
 have h : (trn (rowOf es) i).length = (es.filter fun e => decide (e.1 < i)).length := by
  induction i with
  | zero => rw [List.filter_eq_nil_iff.2 (by simp)]; rfl
  | succ i ih =>
   rw [trn_succ, List.length_append, ih, List.length_map]
   unfold rowOf
   rw [List.length_map]
   clear ih
   induction es with
   | nil => rfl
   | cons e es ih2 =>
    simp only [List.filter_cons]
    by_cases h1 : e.1 < i
    ·have h2 : ¬ e.1 = i := by omega
     have h3 : e.1 < i + 1 := by omega
     simp only [h1, h2, h3, decide_true, decide_false, if_true, List.length_cons] at ih2 ⊢
     simp
     omega
    ·by_cases h2 : e.1 = i
     ·have h3 : e.1 < i + 1 := by omega
      simp only [h2, decide_true, if_true, List.length_cons] at ih2 ⊢
      simp
      omega
     ·have h3 : ¬ e.1 < i + 1 := by omega
      simp only [h1, h2, h3, decide_false] at ih2 ⊢
      simp
      omega
 rw [h]
 exact List.length_filter_le _ _
/-- What Parts answers. -/
def PaP (n : Int) (E : List Ed) (w : World) (r : Ending) (w' : World) : Prop := Below w.heap.size w w' ∧ ∃ P pv, IsPart (rowOf (prs n E)) P ∧ r = .returned pv ∧ OwnI w' w.heap.size pv (outL P n.toNat)
/-- What a visit keeps. -/
structure PaJ (nums : List Nat) (nv : Value) (wb vb pb N B lo : Nat) (rv : Value) (w : World) (Ls : List (List Nat)) (W : World) : Prop where
 bel : Below w.heap.size w W
 kw : Bk W wb #[nv, rv]
 kv : Bk W vb #[.slice (some ⟨pb, 0, none⟩) N N]
 nv : II W (fun b => b = pb ∨ lo ≤ b) (il nums) nv
 p : ∃ P, Pset nums Ls P ∧ OwnI W B (.slice (some ⟨pb, 0, none⟩) N N) (outL P N)
theorem upL_out (N : Nat) : upL N = outL (fun x => x) N := rfl
theorem paj_vis {nums : List Nat} {nv : Value} {wb vb pb N B lo : Nat} {rv : Value} {w : World} (hw : wb < lo ∧ vb < lo ∧ pb < lo) (hne : wb ≠ pb ∧ vb ≠ pb) (hB : w.heap.size ≤ B) (hN : N ≤ 1000) (hnb : ∀ x ∈ nums, x < N) (hlo : w.heap.size ≤ lo) (hm : nums.length ≤ 1000) :
  VisOK 28 #[pt wb, pt vb] lo nums.length (PaJ nums nv wb vb pb N B lo rv w) where
 ent := ent_parts1
 st := fun Ls w1 w2 h hb => by
  obtain ⟨h1, h2, h3, h4, P, h5, h6⟩ := h
  refine ⟨h1.trans (hb.toBelow (fun b hb => by omega) h1.size), h2.but hb (by omega), h3.but hb (by omega), ?_, P, h5, h6.but hb (fun g hg hl => by
   have : pb = g := Option.some.inj hg
   omega)⟩
  exact h4.carry fun b hb2 hl => ⟨hb.block b hl (fun e => hb2 (.inr e)), hb2⟩
 run := fun Ls D cv W h hD hp hl hc hlo2 => by
  obtain ⟨h1, h2, h3, h4, P, h5, h6⟩ := h
  have hc2 : II W (fun b => b = pb) (il D) cv := hc.carry fun b hb hl => ⟨rfl, fun e => hb (by omega)⟩
  refine (parts1_any nums D hD hp (by omega) N hnb hN nv rv cv wb vb pb B P W hne (h4.carry fun b hb hl => ⟨rfl, fun e => hb (.inl e)⟩) hc2 h2 h3 h6).mono ?_
  rintro r w' ⟨rfl, hb, q, hq, hqm, ho⟩
  refine ⟨rfl, ⟨h1.trans (hb.toBelow (fun b e => by have := (h6.lt (g := pb) rfl).1; omega) h1.size), h2.but hb (by omega), h3.but hb (by omega), h4.carry (fun b hb2 hl => ⟨hb.block b hl (fun e => hb2 (.inl e)), hb2⟩), _, Pset.snoc h5 hq hqm, ?_⟩, hb.more (fun b e => by omega)⟩
  exact ho

set_option maxRecDepth 100000 in
set_option maxHeartbeats 3200000 in
theorem parts_any (n : Int) (hn : n ≤ 1000) (hn2 : I64 n) (E : List Ed) (hEl : E.length ≤ 1048576) (v : Value) (w : World) (hE : EdI w v E) : Calls Try.prog 17 #[.int .i64 n, v] w (PaP n E w) := by
 obtain ⟨Q0, hQ0⟩ : ∃ P' : Ending → World → Prop, P' = PaP n E w := ⟨_, rfl⟩
 rw [← hQ0]
 have HQ := hid_intro hQ0
 have HNT := hid_intro (netOf_any n (by omega) hn2 E hEl v w hE)
 have HNN := hid_intro (And.intro hn hEl)
 have HUP := hid_intro (fun w => upTo_row n (by omega) w)
 have hmost : ¬ (2147483647 : Int) < n := by omega
 obtain ⟨N, hN⟩ : ∃ N, n.toNat = N := ⟨_, rfl⟩
 rw [hN] at HUP
 have HN := hid_intro (show N ≤ 1000 by omega)
 obtain ⟨eo, ec, rfl, -⟩ := hE
 clear hQ0 hn hn2 hEl
 go_enter Try.func17, Try.ntmps17
 go_wp2_with fail
 refine HNT.out.mono ?_
 rintro r w1 ⟨hb1, nums, nv, g, rfl, hnt⟩
 obtain ⟨no, nc, rfl, -⟩ := id hnt.nv
 rw [il_len] at hnt ⊢
 obtain ⟨W2, hW2⟩ : ∃ W2, w1.alloc (.cells #[.slice no nums.length nc, .slice (some ⟨g, 0, none⟩) nums.length nums.length] 36) = W2 := ⟨_, rfl⟩
 have hb2 : Below w1.heap.size w1 W2 := by rw [← hW2]; exact vb_a (Below.refl _ _) _
 have kB : Bk W2 w1.heap.size #[.slice no nums.length nc, .slice (some ⟨g, 0, none⟩) nums.length nums.length] := by rw [← hW2]; exact Bk.new w1 _ _
 have hs2 : W2.heap.size = w1.heap.size + 1 := by rw [← hW2]; simp
 have HUP2 := hid_intro (HUP.out W2)
 have HT := hid_intro hnt
 have HB2 := hid_intro (And.intro hb1 (And.intro hb2 (And.intro kB hs2)))
 clear hb1 hb2 kB hs2 hnt HNT HUP
 go_wp2_with fail
 refine HUP2.out.mono ?_
 rintro r w3 ⟨rfl, ho3, hb3⟩
 obtain ⟨W4, hW4⟩ : ∃ W4, w3.alloc (.cells #[.slice (some ⟨W2.heap.size, 0, none⟩) N N] 23) = W4 := ⟨_, rfl⟩
 have hb4 : Below w3.heap.size w3 W4 := by rw [← hW4]; exact vb_a (Below.refl _ _) _
 have kv : Bk W4 w3.heap.size #[.slice (some ⟨W2.heap.size, 0, none⟩) N N] := by rw [← hW4]; exact Bk.new w3 _ _
 have hs4 : W4.heap.size = w3.heap.size + 1 := by rw [← hW4]; simp
 have h1 := HB2.out.1.size
 have h2 := HB2.out.2.2.2
 have h3 := hb3.size
 have hpl := (ho3.lt (g := W2.heap.size) rfl).2
 have hlen : nums.length ≤ 1000 := by
  have := nodup_len n.toNat nums (rise_nodup HT.out.ri) HT.out.lt
  have := HN.out
  omega
 have hR : ∀ v, ∀ t ∈ rowOf (pl nums (prs n E)) v, t < nums.length := fun v t ht => (pl_lt HT.out.net (v, t) (mem_rowOf.1 ht)).2
 have hpl2 : (pl nums (prs n E)).length ≤ 1048576 := by
  unfold pl
  rw [List.length_map]
  exact Nat.le_trans (prs_len n E) HNN.out.2
 have hrl : ∀ v, (rowOf (pl nums (prs n E)) v).length ≤ 1048576 := fun v => Nat.le_trans (rowOf_len _ _) hpl2
 have hTl : ∀ v, (rowOf (trn (rowOf (pl nums (prs n E))) nums.length) v).length ≤ 1048576 := fun v => Nat.le_trans (rowOf_len _ _) (Nat.le_trans (trn_tot _ _) hpl2)
 have hb24 : Below W2.heap.size W2 W4 := hb3.trans (hb4.mono hb3.size)
 have hb14 : Below w1.heap.size w1 W4 := HB2.out.2.1.trans (hb24.mono HB2.out.2.1.size)
 have hb04 : Below w.heap.size w W4 := HB2.out.1.trans (hb14.mono HB2.out.1.size)
 have hV := paj_vis (nums := nums) (nv := .slice no nums.length nc) (wb := w1.heap.size) (vb := w3.heap.size) (pb := W2.heap.size) (N := N) (B := W2.heap.size) (lo := W4.heap.size) (rv := .slice (some ⟨g, 0, none⟩) nums.length nums.length) (w := w) ⟨by omega, by omega, by omega⟩ ⟨by omega, by omega⟩ (by omega) HN.out (hN ▸ HT.out.lt) (by omega) hlen
 have hJ : PaJ nums (.slice no nums.length nc) w1.heap.size w3.heap.size W2.heap.size N W2.heap.size W4.heap.size (.slice (some ⟨g, 0, none⟩) nums.length nums.length) w [] W4 :=
  ⟨hb04, HB2.out.2.2.1.bel hb24, kv, HT.out.nv.carry (fun b _ hl => ⟨hb14.block b hl, fun e => by have := hb14.size; omega⟩), fun x => x, Pset.nil, by rw [← upL_out]; exact ho3.bel hb4⟩
 have HEP := hid_intro (eachPart_any g nums.length (rowOf (pl nums (prs n E))) hlen hR hrl hTl (.slice no nums.length nc) ⟨_, _, _, rfl⟩ 28 #[pt w1.heap.size, pt w3.heap.size] _ W4 hV hJ ((HT.out.mx.but (But.ofBelow HB2.out.2.1)).but (But.ofBelow hb24)))
 have hRT : ∀ a b, b ∈ rowOf (trn (rowOf (pl nums (prs n E))) nums.length) a ↔ a ∈ rowOf (pl nums (prs n E)) b := fun a b => by
  rw [mem_trn]
  exact ⟨fun h => h.2, fun h => ⟨(pl_lt HT.out.net (b, a) (mem_rowOf.1 h)).1, h⟩⟩
 have HRT := hid_intro (And.intro hR hRT)
 have HK := hid_intro (And.intro h1 h2)
 obtain ⟨c0, c1⟩ := (HB2.out.2.2.1.bel hb24).c2b
 dsimp only [pt] at HEP
 clear h1 h2 h3 hpl hlen hR hpl2 hrl hTl hb24 hb14 hb04 hV hJ hRT hs4 kv hb4 ho3 hb3 HUP2
 have hmf : ∀ (fn : Fn) (first cap : Array Value) (w : World), (Instr.makeFunc fn first cap).run Try.prog w = .ok (.func fn first cap) w := fun _ _ _ _ => rfl
 go_wp2_with fail
 refine HEP.out.mono ?_
 rintro r w5 ⟨rfl, fin, don, Ls, hf, hall, hrun, hb5, -, kv5, -, P, hP, how⟩
 have c2 := kv5.q1
 have HFI : Hid (PaP n E w (.returned (.slice (some ⟨W2.heap.size, 0, none⟩) N N)) w5) := hid_intro (by
  obtain ⟨q1, q2⟩ := Prun.done (nums := nums) (rise_nodup HT.out.ri) rfl HRT.out.1 (fun v t ht => (mem_trn.1 ht).1) HRT.out.2 hf hall hrun hP
  refine ⟨hb5, P, _, PtOK.done HT.out.net HT.out.ri q1 q2, rfl, ?_⟩
  rw [hN]
  exact how.low (by have := HK.out; omega))
 clear hf hall hrun hb5 kv5 hP how
 go_wp2_with fail
 rw [HQ.out]
 exact HFI.out
end Go.Proofs.Ytnlgeiofkfkhbaa
