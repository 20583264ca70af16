/-
  What the writer writes of a tree that may be. Conditions: as FI's; no row of ranges is longer than 2^30.
  What rx.namedSets answers: the sets that have a text of their own. No condition.
-/
import Derived.Test.YtppilokmgdpnnaaGreatDoorJoined29
import Derived.Test.YtppilokmgdpnnaaGreatDoorJoined39
import Derived.Test.YtppilokmgdpnnaaGreatDoorJoined17
import Derived.Lib.OthersKept
import Derived.Maps.AppendAt
namespace Go.Proofs.YtppilokmgdpnnaaGreatDoor
open Go.RowKit Go.Sort
attribute [local go_sem] setCell_drewN alloc_drewN

/-- Where the writer works: the tables, the named sets, the tree lie below it. -/
structure WEnv (w0 : World) (wb : Nat) (nv : Value) : Prop where
  sz : w0.heap.size ≤ wb
  tx : TX w0
  ns : NS w0 namedL nv
/-- What the four methods write of a tree. -/
structure WAll (w0 : World) (wb : Nat) (nv : Value) (d : Nat) (t : RX) (f : Nat → Value) : Prop where
  p : WrOK 14 w0 wb nv f (tx WB d 0 t)
  r : WrOK 21 w0 wb nv f (tx WB d 1 t)
  tt : WrOK 35 w0 wb nv f (tx WB d 2 t)
  a : WrOK 44 w0 wb nv f (tx WB d 3 t)
theorem write_all (w0 : World) (wb : Nat) (nv : Value) (X : Nat → Prop) (hE : WEnv w0 wb nv) : ∀ (d : Nat) (t : RX) (f : Nat → Value), rightB d t = true → BdX 1073741823 t → XI w0 X t f → WAll w0 wb nv d t f
  | 0, t, f, h, _, _ => by simp [rightB] at h
  | d + 1, .mk k r lo hi z s, f, h, hbd, hx => by
    obtain ⟨ho, hs⟩ := right_own d k r lo hi z s h
    have ih : ∀ x ∈ s, ∀ g, XI w0 X x g → WAll w0 wb nv d x g := fun x hxs g hg => write_all w0 wb nv X hE d x g (hs x hxs) (hbd.s x hxs) hg
    obtain ⟨B, hB⟩ : ∃ B, B = bodyX WB (tx WB d) k r lo hi z s := ⟨_, rfl⟩
    have htx : ∀ lv, tx WB (d + 1) lv (.mk k r lo hi z s) = if lv ≤ topN k then B else 40 :: (B ++ [41]) := fun lv => by
      rw [tx, ← hB]; rfl
    have hsz := hE.sz
    -- by parentheses
    have up : k ≠ 2 → WrOK 14 w0 wb nv f B → WrOK 44 w0 wb nv f (40 :: (B ++ [41])) := fun hk hp => atom_pat w0 wb nv _ f X B hsz hx hk hp
    unfold ownB at ho
    by_cases k2 : k = 2
    · subst k2
      have hT : ∀ lv, lv ≤ 3 → tx WB (d + 1) lv (.mk 2 r lo hi z s) = setL namedL r := fun lv hlv => by
        rw [htx, if_pos (by simpa [topN] using hlv), hB]; rfl
      simp at ho
      have hcan : Can r := ho.1.2 ▸ merge_can r
      have hA : WrOK 44 w0 wb nv f (setL namedL r) := atom_set w0 wb nv namedL _ f X r s lo hi z hsz rfl hx hE.tx hE.ns (fun x hx => hcan.ok x hx) hbd.r
      have hT2 := term_atom w0 wb nv _ f X _ hsz hx (by simp [RX.kind]) hA
      have hR := row_term w0 wb nv _ f X _ hsz hx (by simp [RX.kind]) hT2
      have hP := pattern_row w0 wb nv _ f X _ hsz hx (by simp [RX.kind]) hR
      refine ⟨?_, ?_, ?_, ?_⟩
      · rw [hT 0 (by omega)]; exact hP
      · rw [hT 1 (by omega)]; exact hR
      · rw [hT 2 (by omega)]; exact hT2
      · rw [hT 3 (by omega)]; exact hA
    · by_cases k4 : k = 4
      · subst k4
        have eB : B = altB s (tx WB d 1) := by
          rw [hB]
          cases s with
          | nil => rfl
          | cons x xs => simp only [bodyX, barred, altB, List.map_cons, List.map_map]; rfl
        have hP : WrOK 14 w0 wb nv f B := by
          rw [eB]
          exact pattern_alt w0 wb nv f X r s lo hi z hsz hx (tx WB d 1) (fun x hxs g hg => (ih x hxs g hg).r)
        have hA := up (by decide) hP
        have hT2 := term_atom w0 wb nv _ f X _ hsz hx (by simp [RX.kind]) hA
        have hR := row_term w0 wb nv _ f X _ hsz hx (by simp [RX.kind]) hT2
        refine ⟨?_, ?_, ?_, ?_⟩ <;> rw [htx]
        · exact hP
        · exact hR
        · exact hT2
        · exact hA
      · by_cases k3 : k = 3 ∨ k = 1
        · have hR : WrOK 21 w0 wb nv f B := by
            rcases k3 with rfl | rfl
            · have eB : B = (s.map (tx WB d 2)).flatten := by rw [hB]; rfl
              rw [eB]
              exact row_seq w0 wb nv f X r s lo hi z hsz hx (tx WB d 2) (fun x hxs g hg => (ih x hxs g hg).tt)
            · have eB : B = [] := by rw [hB]; rfl
              rw [eB]
              exact row_empty w0 wb nv f X r s lo hi z hx
          have hk4 : (RX.mk k r lo hi z s).kind ≠ 4 := k4
          have hP := pattern_row w0 wb nv _ f X _ hsz hx hk4 hR
          have hA := up k2 hP
          have hT2 := term_atom w0 wb nv _ f X _ hsz hx (by simp only [RX.kind]; omega) hA
          have ht : topN k = 1 := by rcases k3 with rfl | rfl <;> rfl
          refine ⟨?_, ?_, ?_, ?_⟩ <;> rw [htx, ht]
          · exact hP
          · exact hR
          · exact hT2
          · exact hA
        · have hT2 : WrOK 35 w0 wb nv f B := by
            by_cases k5 : k = 5
            · subst k5
              simp at ho
              obtain ⟨⟨h1, h2⟩, h3⟩ := ho
              obtain ⟨x, rfl⟩ : ∃ x, s = [x] := by
                match s, h1 with
                | [x], _ => exact ⟨x, rfl⟩
              have eB : B = tx WB d 3 x ++ countT lo hi z := by rw [hB]; simp [bodyX]; rfl
              simp [hasCnt] at h3
              rw [eB]
              exact term_repeat w0 wb nv f X r x lo hi z hsz hx hE.tx h3.1 h3.2 (tx WB d 3 x) (fun g hg => (ih x (by simp) g hg).a)
            · have k6 : k = 6 ∨ k = 7 ∨ k = 8 ∨ k = 9 := by
                apply Classical.byContradiction
                intro hn
                rw [if_neg (by omega), if_neg k2, if_neg (by omega), if_neg k5] at ho
                simp at ho
              have eB : B = sgn WB k := by rw [hB]; unfold bodyX; rw [if_neg k2, if_neg k4, if_neg (fun h => k3 (Or.inl h)), if_neg (fun h => k3 (Or.inr h)), if_neg k5]
              rw [eB]
              rcases k6 with rfl | rfl | rfl | rfl
              · exact term_6 w0 wb nv f X r s lo hi z hx
              · exact term_7 w0 wb nv f X r s lo hi z hx
              · exact term_8 w0 wb nv f X r s lo hi z hx
              · exact term_9 w0 wb nv f X r s lo hi z hx
          have hk1 : (RX.mk k r lo hi z s).kind ≠ 1 ∧ (RX.mk k r lo hi z s).kind ≠ 3 := by simp only [RX.kind]; omega
          have hR := row_term w0 wb nv _ f X _ hsz hx hk1 hT2
          have hk4 : (RX.mk k r lo hi z s).kind ≠ 4 := k4
          have hP := pattern_row w0 wb nv _ f X _ hsz hx hk4 hR
          have hA := up k2 hP
          have ht : topN k = 2 := by unfold topN; rw [if_neg k2, if_neg k4, if_neg k3]
          refine ⟨?_, ?_, ?_, ?_⟩ <;> rw [htx, ht]
          · exact hP
          · exact hR
          · exact hT2
          · exact hA
end Go.Proofs.YtppilokmgdpnnaaGreatDoor

namespace Go.Proofs.YtppilokmgdpnnaaGreatDoor
open Go.RowKit Go.Sort
attribute [local go_sem] setCell_drewN alloc_drewN

/-- A named set: its text, its ranges, and the value that names them. -/
abbrev PN := (List UInt8 × List (Int × Int)) × Value
def flatN (ps : List PN) : List Value := ps.flatMap fun p => [.string (bsx p.1.1), p.2]
theorem flatN_at (ps : List PN) (i : Nat) (h : i < ps.length) : (flatN ps)[i * 2]? = some (.string (bsx (ps[i]).1.1)) ∧ (flatN ps)[i * 2 + 1]? = some (ps[i]).2 := by
  induction ps generalizing i with
  | nil => simp at h
  | cons p ps ih =>
    cases i with
    | zero => exact ⟨rfl, rfl⟩
    | succ i =>
      have := ih i (by simpa using h)
      rw [show (i + 1) * 2 = (i * 2) + 2 by omega]
      exact this
/-- A row of named sets of the call's own. -/
def OwnN (w : World) (B : Nat) (v : Value) (ps : List PN) : Prop := w.ownsRow B 51 2 v ps.length (flatN ps) ∧ ∀ p ∈ ps, RI w (fun b => v.ownBlock = some b) p.1.2 p.2
theorem OwnN.lt {w : World} {B : Nat} {v : Value} {ps : List PN} (h : OwnN w B v ps) : ∀ k, v.ownBlock = some k → B ≤ k ∧ k < w.heap.size := h.1.lt
theorem OwnN.keep {w w' : World} {B : Nat} {v : Value} {ps : List PN} (h : OwnN w B v ps) (hb : ∀ k, k < w.heap.size → (∃ c t fz, w.heap[k]? = some (.cells c t fz)) → w'.heap[k]? = w.heap[k]?) : OwnN w' B v ps := by
  obtain ⟨⟨h1, h2⟩, h3⟩ := h
  refine ⟨⟨h1, ?_⟩, fun p hp => ?_⟩
  · rcases h2 with h2 | ⟨g, cap, cur, rfl, hB, hg, rest⟩
    · exact Or.inl h2
    · exact Or.inr ⟨g, cap, cur, rfl, hB, by rw [hb g (Array.getElem?_eq_some_iff.1 hg).1 ⟨_, _, _, hg⟩]; exact hg, rest⟩
  · obtain ⟨ao, cap, e, q1, q2, q3, q4⟩ := h3 p hp
    refine ⟨ao, cap, e, q1, q2, q3, ?_⟩
    rcases q4 with q4 | ⟨b, off, q5, q6, q7⟩
    · exact Or.inl q4
    · by_cases hk : p.1.2 = []
      · exact Or.inl hk
      have h0 : 0 < p.1.2.length := List.length_pos_iff.2 hk
      have hc := (q7 0 h0).1
      have hlt : b < w.heap.size := World.block_lt_of_cell? w _ hc
      have hcl : ∃ c t fz, w.heap[b]? = some (.cells c t fz) := by
        cases ho : w.heap[b]? with
        | none => simp [World.cell?, ho] at hc
        | some o =>
          cases o with
          | cells c t fz => exact ⟨c, t, fz, rfl⟩
          | _ => simp [World.cell?, ho] at hc
      have he := hb b hlt hcl
      exact Or.inr ⟨b, off, q5, q6, fun i hi => ⟨(World.cell?_of_block (w := w) (w' := w') he).trans (q7 i hi).1, (World.cell?_of_block (w := w) (w' := w') he).trans (q7 i hi).2⟩⟩
theorem OwnN.below {w w' : World} {B : Nat} {v : Value} {ps : List PN} (h : OwnN w B v ps) (hb : Below w.heap.size w w') : OwnN w' B v ps := h.keep fun k hk _ => hb.block k hk
theorem OwnN.iterAt {w : World} {B : Nat} {v : Value} {ps : List PN} (h : OwnN w B v ps) {k : Nat} {s : ByteArray} {p : Nat} (hk : w.heap[k]? = some (.stringIter s p)) (p' : Nat) : OwnN (w.iterAt k s p') B v ps :=
  h.keep fun j _ ⟨c, t, fz, hc⟩ => Lib.iterAt_other w k j s p' (fun e => by subst e; rw [hk] at hc; cases hc)
theorem infoNS : (Tryz.prog.info? 51).map (fun i => (i.zero, i.size, i.bytes)) = some (some (.agg #[.string ⟨#[]⟩, .slice none 0 0]), 2, 40) := by kernel_rfl
/-- One named set more. -/
theorem wpList_append_named {W : World} {ops : Array Oper} {rest : List Oper} {o : Oper} {a : Act} {Q : Exit → Act → World → Prop} (hgd : o.guard = none) (s x : Operand)
    (ho : o.op = .call { callee := .builtin .append, args := #[s, x], argTypes := #[38, 38] })
    (B : Nat) (v : Value) (ps : List PN) (p : PN) (hs : a.eval s = v) (hown : OwnN W B v ps) (hB : B ≤ W.heap.size) (hsz : ps.length + 1 ≤ 1000) (hx : RI W (fun b => v.ownBlock = some b) p.1.2 p.2)
    (tb : Nat) (hxv : a.eval x = .slice (some ⟨tb, 0, none⟩) 1 1) (hc : Bk W tb #[.string (bsx p.1.1), p.2])
    (h : ∀ v' w', OwnN w' B v' (ps ++ [p]) → W.grownBy w' v.ownBlock → wpList Tryz.prog ops Q rest (a.put o.dst v') w') :
    wpList Tryz.prog ops Q (o :: rest) a W := by
  obtain ⟨i0, hi, hz0, hz1, hz2⟩ := info_parts infoNS
  have hlt := hown.lt
  obtain ⟨ao, cap, e1, _⟩ := hx.shape
  have o1 : (p.2).oneCell' = true := by rw [e1]; rfl
  refine wpList_append_own_at _ hgd s x 38 ho B 51 i0 _ 2 40 Tryz.underlying38 hi hz0 hz1 hz2 rfl (by decide) v ps.length (flatN ps) hs hown.1 ⟨tb, 0, none⟩ 1 1 [.string (bsx p.1.1), p.2] hxv rfl ?_ ?_ ?_ ?_ hB ?_
  · intro j u hj
    rw [add_at, Nat.zero_add, hc.cell j]
    match j, hj with
    | 0, hj => exact hj
    | 1, hj => exact hj
  · intro u hu
    simp only [List.mem_cons, List.not_mem_nil, or_false] at hu
    rcases hu with rfl | rfl
    · rfl
    · exact o1
  · unfold maxLen; omega
  · omega
  · intro v' w' h1 h2 _ h4
    refine h v' w' ⟨?_, fun q hq => ?_⟩ h2
    · have : flatN (ps ++ [p]) = flatN ps ++ [.string (bsx p.1.1), p.2] := by simp [flatN]
      rw [this, List.length_append]
      exact h1
    · have key : ∀ b, ¬ (v.ownBlock = some b) → b < W.heap.size → w'.heap[b]? = W.heap[b]? ∧ ¬ (v'.ownBlock = some b) := fun b hb hl => by
        refine ⟨h2.block b hl (fun e => hb e.symm), fun hb2 => ?_⟩
        rcases h4 with h4 | h4
        · exact hb (h4 ▸ hb2)
        · rw [h4] at hb2; simp at hb2; omega
      rcases List.mem_append.1 hq with hq | hq
      · exact (hown.2 q hq).carry key
      · obtain rfl : q = p := by simpa using hq
        exact hx.carry key
theorem OwnN.ns {w : World} {B : Nat} {v : Value} {ps : List PN} (h : OwnN w B v ps) (h0 : ps ≠ []) (hl : ps.length ≤ 1000) : NS w (ps.map (·.1)) v := by
  obtain ⟨⟨h1, h2⟩, h3⟩ := h
  rcases h2 with ⟨rfl, hn⟩ | ⟨g, cap, cur, rfl, hB, hg, hc1, hc2, hc3, hc4⟩
  · exact absurd (List.eq_nil_of_length_eq_zero hn) h0
  · refine ⟨g, 0, cap, by rw [List.length_map], by rw [List.length_map]; exact hc1, hc2, by rw [List.length_map]; exact hl, fun i hi => ?_⟩
    have hi' : i < ps.length := by simpa using hi
    obtain ⟨q0, q1⟩ := flatN_at ps i hi'
    have hlen : (flatN ps).length = ps.length * 2 := h1
    have cellq : ∀ j, j < (flatN ps).length → w.cell? ⟨g, 0 + j, none⟩ = (flatN ps)[j]? := fun j hj => by
      rw [Nat.zero_add, ← hc4]
      rw [List.getElem?_take, if_pos (by omega)]
      simp [World.cell?, hg]
    refine ⟨?_, (ps[i]).2, ?_, ?_⟩
    · rw [cellq _ (by omega), q0]; simp
    · rw [Nat.add_assoc, cellq _ (by omega), q1]
    · have := h3 ps[i] (List.getElem_mem hi')
      rw [List.getElem_map]
      exact this.weak fun _ h => h.elim
def dwsS : ByteArray := ⟨#[100, 119, 115, 68, 87, 83]⟩
theorem dws_at (j : Nat) (h : j < 6) : ∃ c : UInt8, c.toNat < 128 ∧ (∀ h', dwsS[j]'h' = c) ∧ ∃ r, namedBy (c.toNat : Int) = some r ∧ namedL[j + 1]? = some ([92, c], r) := by
  match j, h with
  | 0, _ => exact ⟨100, by decide, fun _ => rfl, _, rfl, rfl⟩
  | 1, _ => exact ⟨119, by decide, fun _ => rfl, _, rfl, rfl⟩
  | 2, _ => exact ⟨115, by decide, fun _ => rfl, _, rfl, rfl⟩
  | 3, _ => exact ⟨68, by decide, fun _ => rfl, _, rfl, rfl⟩
  | 4, _ => exact ⟨87, by decide, fun _ => rfl, _, rfl, rfl⟩
  | 5, _ => exact ⟨83, by decide, fun _ => rfl, _, rfl, rfl⟩
theorem OwnN.lit {w : World} {B : Nat} {p : PN} {tb : Nat} (hc : w.heap[tb]? = some (.cells #[.string (bsx p.1.1), p.2] 51 (0, 0))) (hB : B ≤ tb) (hx : RI w (fun b => tb = b) p.1.2 p.2) : OwnN w B (.slice (some ⟨tb, 0, none⟩) 1 1) [p] := by
  refine ⟨⟨rfl, Or.inr ⟨tb, 1, _, rfl, hB, hc, Nat.le_refl _, by unfold maxLen; omega, rfl, rfl⟩⟩, fun q hq => ?_⟩
  obtain rfl : q = p := by simpa using hq
  exact hx.weak fun b hb => by simpa [Value.ownBlock] using hb
theorem ri_new {w w' : World} {n tb : Nat} {l : List (Int × Int)} {v : Value} (h : RI w (· < n) l v) (hb : Below w.heap.size w w') (ht : w.heap.size ≤ tb ∨ tb < n) : RI w' (fun b => tb = b) l v :=
  h.carry fun b hb1 hlt => ⟨hb.block b hlt, fun e => by omega⟩
def LpN (w : World) (ib : Nat) (t : Value) (wr : World) (j : Nat) : Prop := ∃ ps : List PN, OwnN wr w.heap.size t ps ∧ ps.map (·.1) = namedL.take (j + 1) ∧ wr.heap[ib]? = some (.stringIter dwsS j) ∧ Below w.heap.size w wr
theorem LpN.start (w w1 : World) (v : Value) (hri : RI w1 (· < w.heap.size) inLines v) (hb : Below w.heap.size w w1) :
    LpN w (w1.heap.size + 1) (.slice (some ⟨w1.heap.size, 0, none⟩) 1 1) ((w1.alloc (.cells #[.string ⟨#[46]⟩, v] 51)).iter ⟨#[100, 119, 115, 68, 87, 83]⟩ 0) 0 := by
  have hA : Below w1.heap.size w1 (w1.alloc (.cells #[.string ⟨#[46]⟩, v] 51)) := vb_a (Below.refl _ _) _
  have hI : Below (w1.alloc (.cells #[.string ⟨#[46]⟩, v] 51)).heap.size (w1.alloc (.cells #[.string ⟨#[46]⟩, v] 51)) ((w1.alloc (.cells #[.string ⟨#[46]⟩, v] 51)).iter ⟨#[100, 119, 115, 68, 87, 83]⟩ 0) := vb_a (Below.refl _ _) _
  refine ⟨[(([46], inLines), v)], OwnN.lit ?_ hb.size ?_, rfl, ?_, vb_t (vb_t hb hA) hI⟩
  · rw [hI.block _ (by simp)]
    show (w1.heap.push _)[w1.heap.size]? = _
    simp [bsx]
  · exact ri_new hri (vb_t hA hI) (Or.inl (Nat.le_refl _))
  · have := World.iter_heap (w1.alloc (.cells #[.string ⟨#[46]⟩, v] 51)) ⟨#[100, 119, 115, 68, 87, 83]⟩ 0
    unfold dwsS
    simpa using this
theorem LpN.ne {w wr : World} {ib j : Nat} {t : Value} (h : LpN w ib t wr j) : some ib ≠ t.ownBlock := by
  obtain ⟨ps, ho, _, hit, _⟩ := h
  exact own_ne_iter ho.1 hit
set_option maxRecDepth 100000 in
set_option maxHeartbeats 6400000 in
theorem named_any (w : World) : Calls Tryz.prog 13 #[] w fun r w' => ∃ v, r = .returned v ∧ NS w' namedL v ∧ Below w.heap.size w w' := by
  obtain ⟨P, hP⟩ : ∃ P : Ending → World → Prop, P = fun r w' => ∃ v, r = .returned v ∧ NS w' namedL v ∧ Below w.heap.size w w' := ⟨_, rfl⟩
  rw [← hP]
  have HP := hid_intro hP
  have h0 := inLines_any w
  clear hP
  go_enter Tryz.func13, Tryz.ntmps13
  go_wp2_with fail
  refine h0.mono ?_; rintro r w1 ⟨v1, rfl, hri1, hb1⟩
  obtain ⟨ao1, cap1, rfl, _⟩ := hri1.shape
  have HR1 := hid_intro hri1
  have HB1 := hid_intro hb1
  have HBI : Hid (w.heap.size ≤ w1.heap.size + 1) := hid_intro (by have := hb1.size; omega)
  clear hri1 hb1 h0
  go_wp2_with fail
  go_loopw [1] (fun t wr => ∃ j : Nat, j ≤ 6 ∧ Hid (LpN w (w1.heap.size + 1) t wr j)) (fun _ wr => 6 - wr.iterPos (w1.heap.size + 1))
  case atStart => exact ⟨0, by omega, hid_intro (LpN.start w w1 _ HR1.out HB1.out)⟩
  case round =>
    obtain ⟨j, hj, HL⟩ := hrel
    clear HR1 HB1
    generalize w1.heap.size + 1 = ib at *
    by_cases hlt : j < 6
    · obtain ⟨c, hc, hcj, r, hnb, hnl⟩ := dws_at j hlt
      obtain ⟨ps, hown, hps, hit, hbl⟩ := HL.out
      have hsz : j < dwsS.size := hlt
      have hnx : ∀ ty, (Instr.next (.pointer (some ⟨ib, 0, none⟩)) true ty).run Tryz.prog wr = .ok (.tuple #[.bool true, .int .i64 j, .int .i32 (c.toNat : Int)]) (wr.iterAt ib dwsS (j + 1)) := fun ty => by
        have := Lib.run_next_ascii_at (P := Tryz.prog) wr ib dwsS j ty hit hsz (by rw [hcj hsz]; exact hc)
        rw [hcj hsz] at this
        exact this
      obtain ⟨w2, hw2⟩ : ∃ w2, w2 = wr.iterAt ib dwsS (j + 1) := ⟨_, rfl⟩
      rw [← hw2] at hnx
      have HIT : Hid (w2.heap[ib]? = some (.stringIter dwsS (j + 1))) := hid_intro (by rw [hw2]; exact Lib.iterAt_heap _ _ _ _ _ hit)
      have HOW : Hid (OwnN w2 w.heap.size u1 ps) := hid_intro (by rw [hw2]; exact hown.iterAt hit _)
      have HBL : Hid (Below w.heap.size w w2) := hid_intro (by rw [hw2]; exact Lib.below_iterAt hbl HBI.out _ _)
      have HIP := hid_intro (iterPos_of hit)
      have HPS : Hid (ps.map (·.1) ++ [([92, c], r)] = namedL.take (j + 1 + 1)) := hid_intro (by rw [hps, List.take_add_one (i := j + 1), hnl]; rfl)
      have HLEN : Hid (ps.length ≤ 7) := hid_intro (by have := congrArg List.length hps; rw [List.length_map, List.length_take] at this; omega)
      have hN := namedBy_any (c.toNat : Int) w2
      rw [hnb] at hN
      obtain ⟨C, hC⟩ : ∃ C : Int, C = (c.toNat : Int) := ⟨_, rfl⟩
      have hC0 : 0 ≤ C ∧ C < 128 := by omega
      have hcs : Utf8.encode C = bsx [c] := by
        unfold Utf8.encode Utf8.valid
        have e1 : C.toNat = c.toNat := by omega
        simp [e1, show (0 : Int) ≤ C from hC0.1, show C < 55296 by omega, show c.toNat < 128 by omega, bsx]
      rw [← hC] at hN hnx
      have HC := hid_intro hC
      clear hw2 hps hown hit hbl hcj hnl hnb hC HL hc
      go_wp2_with fail
      refine hN.mono ?_; rintro r' w3 ⟨hb3, v3, rfl, hri3⟩
      have HRI := hid_intro hri3
      have HB3 := hid_intro hb3
      obtain ⟨ao3, cap3, rfl, _⟩ := hri3.shape
      have HOW3 := hid_intro (HOW.out.below hb3)
      have HKB := hid_intro (fun b (hb : u1.ownBlock = some b) => (HOW.out.lt b hb).2)
      obtain ⟨W, hW⟩ : ∃ W, w3.alloc (.cells #[.string (bsx [92, c]), .slice ao3 r.length cap3] 51) = W := ⟨_, rfl⟩
      have HWb : Hid (Below w3.heap.size w3 W) := hid_intro (hW ▸ vb_a (Below.refl _ _) _)
      have HWk : Hid (Bk W w3.heap.size #[.string (bsx [92, c]), .slice ao3 r.length cap3]) := hid_intro (hW ▸ Bk.new _ _ _)
      have HOWW : Hid (OwnN W w.heap.size u1 ps) := hid_intro (HOW3.out.below HWb.out)
      have HRIW : Hid (RI W (fun b => u1.ownBlock = some b) r (.slice ao3 r.length cap3)) := hid_intro (HRI.out.carry fun b hb1 hlt => ⟨HWb.out.block b hlt, fun e => by have := HKB.out b e; omega⟩)
      have HSZW : Hid (w.heap.size ≤ W.heap.size) := hid_intro (by have := HBL.out.size; have := HB3.out.size; have := HWb.out.size; omega)
      have hcat : (⟨#[92]⟩ : ByteArray) ++ bsx [c] = bsx [92, c] := by rw [show (⟨#[92]⟩ : ByteArray) = bsx [92] from rfl, bsx_app]; rfl
      have hszc : (bsx [c]).size ≤ 1 := by rw [bsx_size]; simp
      clear hri3 hb3 hN hnx HRI
      go_wp2_with (at_builtin; refine wpList_append_named rfl _ _ rfl w.heap.size u1 ps (([92, c], r), .slice ao3 r.length cap3) rfl HOWW.out HSZW.out (by have := HLEN.out; omega) HRIW.out w3.heap.size rfl HWk.out ?_)
      intro v' w' ho' hg'
      have HIT3 : Hid (w'.heap[ib]? = some (.stringIter dwsS (j + 1))) := hid_intro (by
        have h2 := HIT.out
        have hlt2 : ib < w2.heap.size := (Array.getElem?_eq_some_iff.1 h2).1
        have h3 : W.heap[ib]? = some (.stringIter dwsS (j + 1)) := by
          rw [HWb.out.block ib (Nat.lt_of_lt_of_le hlt2 HB3.out.size), HB3.out.block ib hlt2]; exact h2
        rw [hg'.block ib (Array.getElem?_eq_some_iff.1 h3).1 (own_ne_iter HOWW.out.1 h3)]
        exact h3)
      have HL2 : Hid (LpN w ib v' w' (j + 1)) := hid_intro ⟨_, ho', by rw [List.map_append]; exact HPS.out, HIT3.out, ((HBL.out.trans (HB3.out.mono HBL.out.size)).trans (HWb.out.mono (Nat.le_trans HBL.out.size HB3.out.size))).grown hg' HSZW.out (fun k hk => (HOWW.out.lt k hk).1)⟩
      have HM : Hid (6 - w'.iterPos ib < 6 - j) := hid_intro (by rw [iterPos_of HIT3.out]; omega)
      clear ho' hg'
      go_wp2_with fail
      go_roundw
      case rel => exact ⟨j + 1, by omega, HL2⟩
      case measure => rw [HIP.out]; exact HM.out
    · obtain rfl : j = 6 := by omega
      obtain ⟨ps, hown, hps, hit, hbl⟩ := HL.out
      have hnx := fun ty => Lib.run_next_end_at (P := Tryz.prog) wr ib dwsS 6 ty hit (by decide)
      have HN : Hid (NS wr namedL u1) := hid_intro (by
        have h7 : namedL.take (6 + 1) = namedL := rfl
        have := hown.ns (fun e => by subst e; rw [h7] at hps; cases hps) (by have := congrArg List.length hps; rw [List.length_map, h7] at this; rw [this]; decide)
        rw [hps, h7] at this
        exact this)
      have HBL := hid_intro hbl
      clear hit hown hps hbl HL
      go_wp2_with fail
      rw [HP.out]
      exact ⟨_, rfl, HN.out, HBL.out⟩
end Go.Proofs.YtppilokmgdpnnaaGreatDoor
