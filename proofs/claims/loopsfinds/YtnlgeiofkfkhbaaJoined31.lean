/-
  Cycle. Conditions: n at most 1000, at most 2^20 edges.
-/
import Derived.Test.YtnlgeiofkfkhbaaJoined29
import Derived.Test.YtnlgeiofkfkhbaaJoined30
namespace Go.Proofs.Ytnlgeiofkfkhbaa
open Go.RowKit Go.Maps Lg
attribute [local go_sem] setCell_drewN alloc_drewN

theorem ch_mem {R : Nat → List Nat} {m : Nat} (hR : ∀ v, ∀ t ∈ R v, t < m) : ∀ {c : List Nat}, Ch R c → (∀ h, c.head? = some h → h < m) → ∀ x ∈ c, x < m
 | [], _, _, x, hx => by simp at hx
 | [a], _, h, x, hx => by
  have : x = a := by simpa using hx
  subst this; exact h x rfl
 | a :: b :: l, hc, h, x, hx => by
  rcases List.mem_cons.1 hx with rfl | hx
  ·exact h x rfl
  ·exact ch_mem hR (c := b :: l) hc.2 (fun y hy => by injection hy with hy; subst hy; exact hR a b hc.1) x hx
theorem cyc_lt {R : Nat → List Nat} {m : Nat} (hR : ∀ v, ∀ t ∈ R v, t < m) {c : List Nat} (h : Cyc R c) : ∀ x ∈ c, x < m := by
 obtain ⟨l, v, t, rfl, hc, hh, ht⟩ := h
 exact ch_mem hR hc (fun y hy => by rw [hh] at hy; injection hy with hy; subst hy; exact hR v t ht)
theorem cyc_ne {R : Nat → List Nat} {c : List Nat} (h : Cyc R c) : c ≠ [] := by
 obtain ⟨l, v, t, rfl, _⟩ := h; simp
theorem pl_names {nums : List Nat} {es : List (Nat × Nat)} (h : Net es nums) {p y : Nat} (hp : p < nums.length) (hy : y ∈ rowOf (pl nums es) p) : nums.getD y 0 ∈ rowOf es (nums.getD p 0) := by
 have e : nums.idxOf nums[p] = p := idx_self h.nd hp
 rw [← e] at hy
 obtain ⟨b, hb, hbr, rfl⟩ := (pl_row h (List.getElem_mem hp)).1 hy
 have hlt := List.idxOf_lt_length_of_mem hb
 have e1 : nums.getD (nums.idxOf b) 0 = b := by rw [List.getD_eq_getElem?_getD, List.getElem?_eq_getElem hlt]; exact List.getElem_idxOf hlt
 have e2 : nums.getD p 0 = nums[p] := by rw [List.getD_eq_getElem?_getD, List.getElem?_eq_getElem hp]; rfl
 rw [e1, e2]; exact hbr
theorem ch_names {nums : List Nat} {es : List (Nat × Nat)} (h : Net es nums) : ∀ {c : List Nat}, (∀ x ∈ c, x < nums.length) → Ch (rowOf (pl nums es)) c → Ch (rowOf es) (nms nums c)
 | [], _, _ => trivial
 | [_], _, _ => trivial
 | a :: b :: l, hl, hc => ⟨pl_names h (hl a (by simp)) hc.1, ch_names h (c := b :: l) (fun x hx => hl x (by simp [hx])) hc.2⟩
theorem cyc_names {nums : List Nat} {es : List (Nat × Nat)} (h : Net es nums) {c : List Nat} (hl : ∀ x ∈ c, x < nums.length) (hc : Cyc (rowOf (pl nums es)) c) : Cyc (rowOf es) (nms nums c) := by
 have h1 := fun hc => ch_names h hl hc
 obtain ⟨l, v, t, rfl, h2, h3, h4⟩ := hc
 refine ⟨nms nums l, nums.getD v 0, nums.getD t 0, by simp [nms], h1 h2, ?_, pl_names h (hl v (by simp)) h4⟩
 unfold nms
 rw [List.head?_map, h3]; rfl
theorem go_err {R : Nat → List Nat} {m : Nat} {stop : Bool} (hR : ∀ v, ∀ t ∈ R v, t < m) {rec : List Nat → List Nat → Nat → Except (List Nat) (List Nat)} {path : List Nat} {v : Nat} {fin0 c : List Nat}
  (hs : ∀ fin t, Pre R m fin (path ++ [v]) t → Says R m stop fin (path ++ [v]) t (rec fin (path ++ [v]) t)) (he : ∀ fin t, Pre R m fin (path ++ [v]) t → rec fin (path ++ [v]) t = .error c → c.length ≤ m) :
  ∀ (ts fin : List Nat), (∀ t ∈ ts, t ∈ R v) → Mid R m stop fin0 fin path v ts → go stop rec path v ts fin = .error c → c.length ≤ m
 | [], fin, _, _, h => by rw [go_nil] at h; cases h
 | t :: ts, fin, ht, hM, h => by
  have ht' : ∀ t ∈ ts, t ∈ R v := fun x hx => ht x (by simp [hx])
  have hlen := hM.pre.len
  by_cases h1 : t ∈ path ++ [v]
  ·rw [go_path h1] at h
   cases stop with
   | true =>
    rw [if_pos rfl] at h
    injection h with h
    rw [← h, List.length_drop]
    omega
   | false =>
    rw [if_neg (by simp)] at h
    exact go_err hR hs he ts fin ht' (Mid.onPath hM h1) h
  ·by_cases h2 : t ∈ fin
   ·rw [go_left h1 h2] at h
    exact go_err hR hs he ts fin ht' (Mid.isLeft hM h2) h
   ·rw [go_new h1 h2] at h
    have hpre := Mid.enter hR hM (ht t (by simp)) h1 h2
    have hsy := hs fin t hpre
    have hey := he fin t hpre
    generalize rec fin (path ++ [v]) t = r at h hsy hey
    cases r with
    | error c' => exact hey (by injection h with h; rw [h])
    | ok fin' => exact go_err hR hs he ts fin' ht' (Mid.back hM (ht t (by simp)) hsy) h
theorem visit_err {R : Nat → List Nat} {m : Nat} {stop : Bool} (hR : ∀ v, ∀ t ∈ R v, t < m) {c : List Nat} : ∀ (f : Nat) (fin path : List Nat) (v : Nat), Pre R m fin path v → m + 1 ≤ f + (path ++ [v]).length → visit R stop f fin path v = .error c → c.length ≤ m
 | 0, fin, path, v, hp, hf, _ => by have := hp.len; omega
 | f + 1, fin, path, v, hp, hf, h => by
  refine go_err hR (fun fin2 t h2 => visit_says (stop := stop) hR f fin2 _ t h2 (by simp at hf ⊢; omega)) (fun fin2 t h2 h3 => visit_err hR f fin2 _ t h2 (by simp at hf ⊢; omega) h3) (R v) fin (fun _ h => h) (Mid.start hp) h
theorem runs_err {R : Nat → List Nat} {m : Nat} {stop : Bool} (hR : ∀ v, ∀ t ∈ R v, t < m) {f : Nat} (hf : m ≤ f) {c : List Nat} : ∀ (vs fin : List Nat), (∀ v ∈ vs, v < m) → Fin R m stop fin → runs R stop f vs fin = .error c → c.length ≤ m
 | [], fin, _, _, h => by unfold runs at h; cases h
 | v :: vs, fin, hv, hF, h => by
  have hv' : ∀ x ∈ vs, x < m := fun x hx => hv x (by simp [hx])
  rw [runs_top] at h
  cases ht : top R stop f v fin with
  | ok fin' =>
   rw [ht] at h
   exact runs_err hR hf vs fin' hv' (top_fin hR hf hF (hv v (by simp)) ht) h
  | error c' =>
   rw [ht] at h
   unfold top at ht
   by_cases k : v ∈ fin
   ·rw [if_pos k] at ht; cases ht
   ·rw [if_neg k] at ht
    injection h with h
    subst h
    exact visit_err hR f fin [] v (pre_top hF (hv v (by simp)) k) (by simp; omega) ht
/-- What Cycle answers. -/
def CyP (n : Int) (E : List Ed) (w : World) (r : Ending) (w' : World) : Prop := Below w.heap.size w w' ∧ ∃ v c, r = .returned (.tuple #[v, .bool (!c.isEmpty)]) ∧ OwnI w' w.heap.size v (il c) ∧ (c ≠ [] ↔ Cy (prs n E)) ∧ (c ≠ [] → Cyc (rowOf (prs n E)) c)
theorem cy_says {nums : List Nat} {es : List (Nat × Nat)} (h : Net es nums) : match runs (rowOf (pl nums es)) true nums.length (List.range nums.length) [] with
  | .ok fin => ¬ Cy es ∧ Fin (rowOf (pl nums es)) nums.length true fin ∧ ∀ v, v < nums.length → v ∈ fin
  | .error c => Cy es ∧ Cyc (rowOf (pl nums es)) c ∧ (∀ x ∈ c, x < nums.length) ∧ c.length ≤ nums.length := by
 have hR : ∀ v, ∀ t ∈ rowOf (pl nums es) v, t < nums.length := fun v t ht => (pl_lt h (v, t) (mem_rowOf.1 ht)).2
 have hs := runs_says (stop := true) hR (Nat.le_refl nums.length) (List.range nums.length) [] (fun v hv => List.mem_range.1 hv) (Fin.nil _ _ _)
 cases hr : runs (rowOf (pl nums es)) true nums.length (List.range nums.length) [] with
 | ok fin =>
  rw [hr] at hs
  obtain ⟨hf, _, hall⟩ := hs
  refine ⟨fun hc => ?_, hf, fun v hv => hall v (List.mem_range.2 hv)⟩
  obtain ⟨v, y, hy, hr2⟩ := (pl_cy h).2 hc
  exact topo_free hf (hall v (List.mem_range.2 (pl_lt h (v, y) (mem_rowOf.1 hy)).1)) hy hr2
 | error c =>
  rw [hr] at hs
  obtain ⟨_, hc⟩ := hs
  obtain ⟨v, y, _, hy, hr2⟩ := cyc_reach hc
  exact ⟨(pl_cy h).1 ⟨v, y, hy, hr2⟩, hc, cyc_lt hR hc, runs_err hR (Nat.le_refl _) _ _ (fun v hv => List.mem_range.1 hv) (Fin.nil _ _ _) hr⟩

set_option maxRecDepth 100000 in
set_option maxHeartbeats 3200000 in
theorem cycle_any (n : Int) (hn : n ≤ 1000) (hn2 : I64 n) (E : List Ed) (hEl : E.length ≤ 1048576) (v : Value) (w : World) (hE : EdI w v E) : Calls Try.prog 10 #[.int .i64 n, v] w (CyP n E w) := by
 obtain ⟨Q0, hQ0⟩ : ∃ P' : Ending → World → Prop, P' = CyP n E w := ⟨_, rfl⟩
 rw [← hQ0]
 have HQ := hid_intro hQ0
 have HNT := hid_intro (netOf_any n (by omega) hn2 E hEl v w hE)
 have HNN := hid_intro (And.intro hn hEl)
 obtain ⟨eo, ec, rfl, -⟩ := hE
 clear hQ0 hn hn2 hEl
 go_enter Try.func10, Try.ntmps10
 go_wp2_with fail
 refine HNT.out.mono ?_
 rintro r w1 ⟨hb1, nums, nv, g, rfl, hnt⟩
 obtain ⟨no, nc, rfl, -⟩ := id hnt.nv
 rw [il_len] at hnt ⊢
 have hlen : nums.length ≤ 1000 := by
  have := nodup_len n.toNat nums (rise_nodup hnt.ri) hnt.lt
  have := HNN.out.1
  omega
 have hR : ∀ v, ∀ t ∈ rowOf (pl nums (prs n E)) v, t < nums.length := fun v t ht => (pl_lt hnt.net (v, t) (mem_rowOf.1 ht)).2
 have hrl : ∀ v, (rowOf (pl nums (prs n E)) v).length ≤ 1048576 := fun v => by
  refine Nat.le_trans (rowOf_len _ _) ?_
  unfold pl
  rw [List.length_map]
  have h1 := prs_len n E
  have h3 := HNN.out.2
  omega
 have hb2 : Below w1.heap.size w1 (w1.alloc (.cells #[.slice no nums.length nc, .slice (some ⟨g, 0, none⟩) nums.length nums.length] 36)) := vb_a (Below.refl _ _) _
 have kB := Bk.new w1 #[.slice no nums.length nc, .slice (some ⟨g, 0, none⟩) nums.length nums.length] 36
 obtain ⟨W2, hW2⟩ : ∃ W2, w1.alloc (.cells #[.slice no nums.length nc, .slice (some ⟨g, 0, none⟩) nums.length nums.length] 36) = W2 := ⟨_, rfl⟩
 rw [hW2] at hb2 kB
 have HUT := hid_intro (untangle_any g nums.length (rowOf (pl nums (prs n E))) hlen hR hrl W2 (hnt.mx.but (But.ofBelow hb2)))
 have HCS := hid_intro (cy_says hnt.net)
 have HB := hid_intro (And.intro hb1 (And.intro hb2 kB))
 have HT := hid_intro hnt
 obtain ⟨c0, c1⟩ := kB.c2b
 have HLE := hid_intro hlen
 clear hb1 hnt hlen hR hrl hb2 kB HNT
 go_wp2_with fail
 refine HUT.out.mono ?_
 rintro r w3 ⟨hb3, hm⟩
 have hcs := HCS.out
 have hBW : Below w.heap.size w w3 := HB.out.1.trans ((HB.out.2.1.trans (hb3.mono HB.out.2.1.size)).mono HB.out.1.size)
 have hN3 : II w3 (fun _ => False) (il nums) (.slice no nums.length nc) := HT.out.nv.carry (fun b _ hl => ⟨(hb3.block b (Nat.lt_of_lt_of_le hl HB.out.2.1.size)).trans (HB.out.2.1.block b hl), fun h => h⟩)
 have HN3 := hid_intro hN3
 have HBW := hid_intro hBW
 obtain ⟨d0, d1⟩ := (HB.out.2.2.bel hb3).c2b
 have hnb : ∀ x ∈ nums, x ≤ 1048576 := fun x hx => by have := HT.out.lt x hx; have := HNN.out.1; omega
 cases hrn : runs (rowOf (pl nums (prs n E))) true nums.length (List.range nums.length) [] with
 | ok fin =>
  rw [hrn] at hm hcs
  obtain ⟨ov, rfl, how⟩ := hm
  obtain ⟨oo, oc, rfl, -⟩ := how.form
  have HNM := hid_intro (namesOf_any nums [] (fun p hp => by simp at hp) hnb (by simp) (.slice no nums.length nc) (.slice (some ⟨g, 0, none⟩) nums.length nums.length) (.slice none 0 0) w3 HN3.out ⟨_, _, _, rfl⟩ ⟨none, 0, rfl, Nat.le_refl _, by unfold maxLen; omega, fun x hx => by simp [il] at hx, Or.inl rfl⟩)
  have HC := hid_intro hcs.1
  clear hcs how hBW hN3 hnb hb3 hrn hW2 c0 c1
  go_wp2_with fail
  refine HNM.out.mono ?_
  rintro r w4 ⟨v4, rfl, ho4, hb4⟩
  obtain ⟨vo, vc, rfl, -⟩ := ho4.form
  have HF := hid_intro (And.intro ho4 hb4)
  clear ho4 hb4 HNM
  go_wp2_with fail
  rw [HQ.out]
  exact ⟨HBW.out.trans (HF.out.2.mono HBW.out.size), _, [], rfl, HF.out.1.low HBW.out.size, ⟨fun h => absurd rfl h, fun h => absurd h HC.out⟩, fun h => absurd rfl h⟩
 | error c =>
  rw [hrn] at hm hcs
  obtain ⟨cv, rfl, hcv⟩ := hm
  obtain ⟨co, cc, rfl, -⟩ := id hcv
  have hcl : c.length ≤ 1048576 := by have := hcs.2.2.2; have := HLE.out; omega
  have HNM := hid_intro (namesOf_any nums c hcs.2.2.1 hnb hcl (.slice no nums.length nc) (.slice (some ⟨g, 0, none⟩) nums.length nums.length) (.slice co (il c).length cc) w3 HN3.out ⟨_, _, _, rfl⟩ hcv)
  have HC := hid_intro hcs
  have hne := cyc_ne hcs.2.1
  have hpos : (0 : Int) < ((il c).length : Int) := by rw [il_len]; have := List.length_pos_iff.2 hne; omega
  have hpos2 : 0 < (il c).length := by omega
  clear hcs hcv hBW hN3 hnb hb3 hrn hW2 c0 c1 hcl
  go_wp2_with fail
  refine HNM.out.mono ?_
  rintro r w4 ⟨v4, rfl, ho4, hb4⟩
  obtain ⟨vo, vc, rfl, -⟩ := ho4.form
  have HF := hid_intro (And.intro ho4 hb4)
  clear ho4 hb4 HNM
  go_wp2_with fail
  rw [HQ.out]
  have hn2 : nms nums c ≠ [] := fun e => hne (by unfold nms at e; simpa using e)
  have hb : (nms nums c).isEmpty = false := by
   cases h : nms nums c with
   | nil => exact absurd h hn2
   | cons a l => rfl
  exact ⟨HBW.out.trans (HF.out.2.mono HBW.out.size), _, nms nums c, by rw [hb]; rfl, HF.out.1.low HBW.out.size, ⟨fun _ => HC.out.1, fun _ => hn2⟩, fun _ => cyc_names HT.out.net HC.out.2.2.1 HC.out.2.1⟩
end Go.Proofs.Ytnlgeiofkfkhbaa
