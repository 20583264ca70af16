/-
  A choice of parts, compiled. Conditions: there is room; at most 2^20 parts.
-/
import Derived.Test.YtoinlmfodmgohaaGreatDoorJoined29
namespace Go.Proofs.YtoinlmfodmgohaaGreatDoor
open Go.RowKit
attribute [local go_sem] setCell_drewN alloc_drewN

theorem zb_none : zb (.slice none 0 0) = [] := rfl
theorem zb_mem {v : Value} {z : Nat} (h : z ∈ zb v) : v.ownBlock = some z := by
  unfold zb at h
  cases hv : v.ownBlock with
  | none => rw [hv] at h; simp at h
  | some k => rw [hv] at h; simp at h; rw [h]
theorem zb_some {v : Value} {z : Nat} (h : v.ownBlock = some z) : zb v = [z] := by unfold zb; rw [h]
/-- The list behind an append to a row that is set apart. -/
theorem LZ.appended {w w' : World} {lb sb cap : Nat} {Z : List Nat} {L : List ST} {v v' : Value} {o : Obj} (h : LZ w lb sb cap (zb v ++ Z) L) (hg : (w.alloc o).grownBy w' v.ownBlock) (hv : ∀ g, v'.ownBlock = some g → v.ownBlock = some g ∨ w.heap.size ≤ g) (hlt : ∀ g, v'.ownBlock = some g → g < w'.heap.size) :
    LZ w' lb sb cap (zb v' ++ Z) L := by
  have hb : But (fun b => v.ownBlock = some b) w w' := ((But.refl _ w).alloc o).grown hg (fun b e => Or.inl e)
  have hY : ∀ b, (fun b => v.ownBlock = some b) b → b ∈ zb v ++ Z ∨ w.heap.size ≤ b := fun b e => Or.inl (by rw [zb_some e]; simp)
  cases hv' : v'.ownBlock with
  | none => exact (h.carry hb hY).sub (fun z hz => by
      unfold zb at hz; rw [hv'] at hz; simp at hz; exact List.mem_append_right _ hz)
  | some g =>
    rcases hv g hv' with h1 | h1
    · rw [zb_some hv', ← zb_some h1]; exact h.carry hb hY
    · exact (h.apart2 hb hY g h1 (hlt g hv')).sub (fun z hz => by
        rw [zb_some hv'] at hz
        simp only [List.mem_append, List.mem_cons, List.not_mem_nil, or_false] at hz ⊢
        rcases hz with hz | hz
        · exact Or.inl hz
        · exact Or.inr (Or.inr hz))
/-- The jumps that wait. -/
def Wait (w : World) (lb sb : Nat) (v : Value) (F : List Value) (n : Nat) (l : List RX) (j : Nat) : Prop :=
  ∀ i, i < j → ∃ p1 q1, F[i]? = some (.func (.func 131) #[] #[.pointer (some ⟨p1, 0, none⟩), .pointer (some ⟨q1, 0, none⟩)]) ∧ Cap w lb sb p1 q1 (n + jat l i) ∧ p1 ∉ zb v ∧ q1 ∉ zb v
theorem Wait.but {w w' : World} {lb sb : Nat} {v : Value} {F : List Value} {n : Nat} {l : List RX} {j : Nat} (h : Wait w lb sb v F n l j) (hb : But (two lb sb) w w') : Wait w' lb sb v F n l j := fun i hi => by
  obtain ⟨p1, q1, h1, h2, h3⟩ := h i hi
  exact ⟨p1, q1, h1, h2.but hb, h3⟩
/-- A variable of a closure that an append does not touch. -/
theorem Cap.app {w w' : World} {lb sb p q i : Nat} {v : Value} {o : Obj} (h : Cap w lb sb p q i) (hg : (w.alloc o).grownBy w' v.ownBlock) (h1 : p ∉ zb v) (h2 : q ∉ zb v) : Cap w' lb sb p q i := by
  obtain ⟨c1, c2, c3, c4⟩ := h
  have l1 := World.block_lt_of_cell? w _ c1
  have l2 := World.block_lt_of_cell? w _ c2
  have ha : Below w.heap.size w (w.alloc o) := vb_a (Below.refl _ _) _
  have b1 : w'.heap[p]? = w.heap[p]? := (hg.block p (Nat.lt_of_lt_of_le l1 ha.size) (fun e => h1 (by rw [zb_some e.symm]; simp))).trans (ha.block p l1)
  have b2 : w'.heap[q]? = w.heap[q]? := (hg.block q (Nat.lt_of_lt_of_le l2 ha.size) (fun e => h2 (by rw [zb_some e.symm]; simp))).trans (ha.block q l2)
  exact ⟨(World.cell?_of_block (w := w) (w' := w') b1).trans c1, (World.cell?_of_block (w := w) (w' := w') b2).trans c2, c3, c4⟩
theorem Cap.lt {w : World} {lb sb p q i : Nat} (h : Cap w lb sb p q i) : p < w.heap.size ∧ q < w.heap.size := ⟨World.block_lt_of_cell? w _ h.1, World.block_lt_of_cell? w _ h.2.1⟩
/-- A part more. -/
theorem alt_step (L : List ST) (l : List RX) (x : RX) (EE : Nat) (hs : ∀ y ∈ l, ∀ n, (bld y n).length = szX y) (hx : ∀ n, (bld x n).length = szX x) :
    setB (((L ++ altM l L.length EE 0 ++ [⟨2, [], ((L ++ altM l L.length EE 0).length : Int) + 1, 0⟩]) ++ bld x (L ++ altM l L.length EE 0 ++ [⟨2, [], ((L ++ altM l L.length EE 0).length : Int) + 1, 0⟩] : List ST).length) ++ [⟨2, [], (((L ++ altM l L.length EE 0 ++ [⟨2, [], ((L ++ altM l L.length EE 0).length : Int) + 1, 0⟩]) ++ bld x (L ++ altM l L.length EE 0 ++ [⟨2, [], ((L ++ altM l L.length EE 0).length : Int) + 1, 0⟩] : List ST).length : List ST).length : Int) + 1, 0⟩]) (L ++ altM l L.length EE 0).length
      = L ++ altM (l ++ [x]) L.length EE 0 := by
  have hA : (L ++ altM l L.length EE 0).length = L.length + szL l + 2 * l.length := by rw [List.length_append, altM_len l hs]; omega
  have e2 : ((L ++ altM l L.length EE 0) ++ [⟨2, [], ((L ++ altM l L.length EE 0).length : Int) + 1, 0⟩] : List ST).length = L.length + szL l + 2 * l.length + 1 := by rw [List.length_append, hA]; rfl
  rw [altM_snoc, ← List.append_assoc]
  generalize L ++ altM l L.length EE 0 = A at *
  rw [e2]
  have e3 : ((A ++ [⟨2, [], (A.length : Int) + 1, 0⟩]) ++ bld x (L.length + szL l + 2 * l.length + 1) : List ST).length = L.length + szL l + 2 * l.length + szX x + 1 := by rw [List.length_append, e2, hx]; omega
  rw [e3, List.append_assoc, List.append_assoc]
  have e4 : (A ++ ([⟨2, [], (A.length : Int) + 1, 0⟩] ++ (bld x (L.length + szL l + 2 * l.length + 1) ++ [⟨2, [], ((L.length + szL l + 2 * l.length + szX x + 1 : Nat) : Int) + 1, 0⟩])) : List ST) = A ++ ⟨2, [], (A.length : Int) + 1, 0⟩ :: (bld x (L.length + szL l + 2 * l.length + 1) ++ [⟨2, [], ((L.length + szL l + 2 * l.length + szX x + 1 : Nat) : Int) + 1, 0⟩]) := rfl
  rw [e4, setB_at]
  have e5 : ((A ++ ⟨2, [], (A.length : Int) + 1, 0⟩ :: (bld x (L.length + szL l + 2 * l.length + 1) ++ [⟨2, [], ((L.length + szL l + 2 * l.length + szX x + 1 : Nat) : Int) + 1, 0⟩]) : List ST).length : Int) = ((L.length + szL l + 2 * l.length + szX x + 2 : Nat) : Int) := by
    simp only [List.length_append, List.length_cons, List.length_nil, hx, hA]; omega
  rw [e5, hA]
  have e6 : (((L.length + szL l + 2 * l.length + szX x + 1 : Nat) : Int) + 1) = ((L.length + szL l + 2 * l.length + szX x + 2 : Nat) : Int) := by omega
  rw [e6]; rfl
/-- The jumps that wait, behind an append. -/
theorem Wait.app {w w' : World} {lb sb : Nat} {v v' : Value} {F : List Value} {n : Nat} {l : List RX} {j : Nat} {o : Obj} (h : Wait w lb sb v F n l j) (hg : (w.alloc o).grownBy w' v.ownBlock) (hv : ∀ g, v'.ownBlock = some g → v.ownBlock = some g ∨ w.heap.size ≤ g) (hF : F.length = j)
    (p q : Nat) (hc : Cap w lb sb p q (n + jat l j)) (h1 : p ∉ zb v) (h2 : q ∉ zb v) : Wait w' lb sb v' (F ++ [.func (.func 131) #[] #[.pointer (some ⟨p, 0, none⟩), .pointer (some ⟨q, 0, none⟩)]]) n l (j + 1) := fun i hi => by
  have out : ∀ x, x ∉ zb v → x < w.heap.size → x ∉ zb v' := fun x hx hl hm => by
    rcases hv x (zb_mem hm) with e | e
    · exact hx (by rw [zb_some e]; simp)
    · omega
  by_cases e : i = j
  · subst e
    exact ⟨p, q, by rw [List.getElem?_append_right (by omega), hF, Nat.sub_self]; rfl, hc.app hg h1 h2, out p h1 hc.lt.1, out q h2 hc.lt.2⟩
  · obtain ⟨p1, q1, f1, f2, f3, f4⟩ := h i (by omega)
    exact ⟨p1, q1, by rw [List.getElem?_append_left (by omega)]; exact f1, f2.app hg f3 f4, out p1 f3 f2.lt.1, out q1 f4 f2.lt.2⟩
set_option maxRecDepth 100000 in
set_option maxHeartbeats 6400000 in
theorem choice1_any (lb sb cap : Nat) (s : List RX) (ao : Option Addr) (cp : Nat) (G : Nat → Nat → Value) (w : World) (hp : PartsOK w lb sb cap s ao cp G) (h2 : 2 ≤ s.length) (hsm : s.length ≤ 1048576) (p q r0 : Nat) (Z : List Nat) (L : List ST)
    (c1 : w.cell? ⟨p, 0, none⟩ = some (.slice ao s.length cp)) (c2 : w.cell? ⟨q, 0, none⟩ = some (.int .i64 ((s.length : Int) - 1))) (c3 : w.cell? ⟨r0, 0, none⟩ = some (.pointer (some ⟨lb, 0, none⟩)))
    (np : ¬ two lb sb p) (nq : ¬ two lb sb q) (nr : ¬ two lb sb r0) (h : LZ w lb sb cap Z L) (hroom : L.length + (szL s + (s.length - 1) * 2) ≤ cap) :
    Calls Tryz.prog 108 #[.pointer (some ⟨p, 0, none⟩), .pointer (some ⟨q, 0, none⟩), .pointer (some ⟨r0, 0, none⟩)] w fun e w' => e = .returned (.tuple #[]) ∧ LZ w' lb sb cap Z (L ++ bldA s L.length (L.length + (szL s + (s.length - 1) * 2))) ∧ But (two lb sb) w w' := by
  obtain ⟨b, off, rfl, hnb, hcells⟩ := hp.cells.resolve_left (fun e => by rw [e] at h2; simp at h2)
  have hlI : (s.length : Int) ≤ 9223372036854775807 := by omega
  have hcp := hp.len
  obtain ⟨l, hl⟩ : ∃ l, s.take (s.length - 1) = l := ⟨_, rfl⟩
  have hlen : l.length = s.length - 1 := by rw [← hl, List.length_take]; omega
  have hlast : s.length - 1 < s.length := by omega
  have hsl : s = l ++ [s[s.length - 1]] := by
    rw [← hl]
    have := List.take_append_getElem hlast
    rw [this, List.take_of_length_le (by omega)]
  have hszs : szL s = szL l + szX s[s.length - 1] := by
    have := szL_take s (s.length - 1) hlast
    rw [hl, List.take_of_length_le (by omega)] at this
    exact this
  have hlsz : ∀ x ∈ l, ∀ n, (bld x n).length = szX x := fun x hx => hp.sz x (by rw [← hl] at hx; exact List.mem_of_mem_take hx)
  have hlj : ∀ j, j < l.length → ∃ hj : j < s.length, l[j]? = some s[j] := fun j hj => (fun hjs => ⟨hjs, (by have := List.getElem?_take (l := s) (i := s.length - 1) (j := j); rw [hl, if_pos (by omega), List.getElem?_eq_getElem hjs] at this; exact this)⟩) (by omega)
  obtain ⟨EE, hEE⟩ : ∃ EE, (L.length + (szL s + (s.length - 1) * 2)) = EE := ⟨_, rfl⟩
  obtain ⟨P, hP⟩ : ∃ P : Ending → World → Prop, P = fun e w' => e = .returned (.tuple #[]) ∧ LZ w' lb sb cap Z (L ++ bldA s L.length (L.length + (szL s + (s.length - 1) * 2))) ∧ But (two lb sb) w w' := ⟨_, rfl⟩
  rw [← hP]
  have HP := hid_intro hP
  clear hP
  have HS : Hid (∀ w', But (two lb sb) w w' → w'.cell? ⟨p, 0, none⟩ = some (.slice (some ⟨b, off, none⟩) s.length cp) ∧ w'.cell? ⟨q, 0, none⟩ = some (.int .i64 ((s.length : Int) - 1)) ∧ w'.cell? ⟨r0, 0, none⟩ = some (.pointer (some ⟨lb, 0, none⟩))) := hid_intro (fun w' hb => ⟨cell_but c1 np hb, cell_but c2 nq hb, cell_but c3 nr hb⟩)
  have HPO := hid_intro hp
  have HH := hid_intro h
  have HM := hid_intro (And.intro hroom (And.intro hsm (And.intro h2 (And.intro hlen (And.intro hszs (And.intro hlsz (And.intro hlj (And.intro hsl hEE))))))))
  have hI2 : (1 : Int) ≤ (s.length : Int) - 1 := by omega
  have hI3 : (s.length : Int) - 1 ≤ (cp : Int) := by omega
  have hI5 : (0 : Int) ≤ (s.length : Int) - 1 := by omega
  have hlc : (l.length : Int) = (s.length : Int) - 1 := by omega
  clear hp c1 c2 c3 np nq nr h hroom hcells hl hsl hszs hlsz hlj hEE hcp hsm
  obtain ⟨y1, y2, y3⟩ := HS.out w (But.refl _ _)
  go_enter Tryz.func108, Tryz.ntmps108
  go_wp2_with fail
  clear y1 y2 y3
  go_loopg [3, 13] (s.length - 1) (fun m v3 s13 wr => ∃ (j : Nat) (F : List Value), j ≤ s.length - 1 ∧ m = s.length - 1 - j ∧ s13 = .int .i64 (j : Int) ∧ Hid (wr.ownsRow w.heap.size 1 1 v3 j F ∧ Wait wr lb sb v3 F L.length l j ∧ LZ wr lb sb cap (zb v3 ++ Z) (L ++ altM (l.take j) L.length EE 0) ∧ But (two lb sb) w wr))
  case atStart => exact ⟨0, [], Nat.zero_le _, rfl, rfl, World.ownsRow_nil _ _ _ _, fun i hi => absurd hi (by omega), by rw [zb_none]; simpa [altM] using HH.out, But.refl _ _⟩
  case round =>
    obtain ⟨j, F, hj, rfl, rfl, HI⟩ := hrel
    by_cases hlt : j < s.length - 1
    · have hjs : j < s.length := by omega
      have hJ : (j : Int) < ((s.length - 1 : Nat) : Int) := by omega
      have hJ2 : (j : Int) < (s.length : Int) - 1 := by omega
      obtain ⟨c_p, c_q, c_s⟩ := HS.out wr HI.out.2.2.2
      have HPR := hid_intro (HPO.out.but HI.out.2.2.2)
      obtain ⟨b', off', eb, _, h3⟩ := HPR.out.cells.resolve_left (fun e => by rw [e] at hjs; exact absurd hjs (by simp))
      injection eb with eb
      injection eb with eb1 eb2 _
      subst eb1 eb2
      have g0 : wr.cell? ⟨b, off + j * 6, none⟩ = some (G j 0) := h3 j hjs 0 (by omega)
      have g1 := h3 j hjs 1 (by omega)
      have g2 := h3 j hjs 2 (by omega)
      have g3 := h3 j hjs 3 (by omega)
      have g4 := h3 j hjs 4 (by omega)
      have g5 := h3 j hjs 5 (by omega)
      have hpart := fun w' hb => HPR.out.part j hjs w' hb
      obtain ⟨x0, x1, x2, x3, x4, x5, x6, x7, x8, x9, e0, e1, e2, e3, e4, e5⟩ := HPR.out.six j hjs
      rw [e0] at g0
      rw [e1] at g1
      rw [e2] at g2
      rw [e3] at g3
      rw [e4] at g4
      rw [e5] at g5
      rw [e0, e1, e2, e3, e4, e5] at hpart
      clear e0 e1 e2 e3 e4 e5 h3
      have hlt2 : (L ++ altM (l.take j) L.length EE 0).length = L.length + szL (l.take j) + 2 * j := by
        rw [List.length_append, altM_len _ (fun x hx => HM.out.2.2.2.2.2.1 x (List.mem_of_mem_take hx)), List.length_take]
        have := HM.out.2.2.2.1
        omega
      have hszj : szL (l.take (j + 1)) = szL (l.take j) + szX s[j] := by
        have hjl : j < l.length := by have := HM.out.2.2.2.1; omega
        have := szL_take l j hjl
        have e := (HM.out.2.2.2.2.2.2.1 j hjl)
        obtain ⟨_, e⟩ := e
        rw [List.getElem?_eq_getElem hjl] at e
        injection e with e
        rw [e] at this
        exact this
      have hrm : L.length + szL (l.take j) + 2 * j + szX s[j] + 2 ≤ cap := by
        have h1 := szL_le l (j + 1)
        have := HM.out.1
        have := HM.out.2.2.2.2.1
        have := HM.out.2.2.2.1
        omega
      have HLN := hid_intro (And.intro hlt2 (And.intro hszj hrm))
      obtain ⟨V, hV⟩ : ∃ V, wr.alloc (.cells #[.int .i64 x0, .slice x1 x2 x3, .int .i64 x4, .int .i64 x5, .bool x6, .slice x7 x8 x9] 31) = V := ⟨_, rfl⟩
      have hbV : Below wr.heap.size wr V := hV ▸ vb_a (Below.refl _ _) _
      have kV : Bk V wr.heap.size #[.int .i64 x0, .slice x1 x2 x3, .int .i64 x4, .int .i64 x5, .bool x6, .slice x7 x8 x9] := hV ▸ Bk.new _ _ _
      have hwV : But (two lb sb) w V := HI.out.2.2.2.below hbV
      have hltV := HI.out.2.2.1.lt
      have hnX : ¬ two lb sb wr.heap.size := fun e => by rcases e with e | e <;> omega
      have HX : Hid (∀ w', But (two lb sb) V w' → w'.cell? ⟨r0, 0, none⟩ = some (.pointer (some ⟨lb, 0, none⟩)) ∧ w'.cell? ⟨wr.heap.size, 0, none⟩ = some (.int .i64 x0) ∧ w'.cell? ⟨wr.heap.size, 1, none⟩ = some (.slice x1 x2 x3) ∧ w'.cell? ⟨wr.heap.size, 2, none⟩ = some (.int .i64 x4) ∧ w'.cell? ⟨wr.heap.size, 3, none⟩ = some (.int .i64 x5) ∧ w'.cell? ⟨wr.heap.size, 4, none⟩ = some (.bool x6) ∧ w'.cell? ⟨wr.heap.size, 5, none⟩ = some (.slice x7 x8 x9)) := hid_intro (fun w' hb => by
        obtain ⟨a0, a1, a2, a3, a4, a5⟩ := kV.c6
        exact ⟨(HS.out w' (hwV.trans hb)).2.2, cell_but a0 hnX hb, cell_but a1 hnX hb, cell_but a2 hnX hb, cell_but a3 hnX hb, cell_but a4 hnX hb, cell_but a5 hnX hb⟩)
      have hfork := forkZ_any lb sb cap _ _ V (HI.out.2.2.1.below hbV) (by rw [hlt2]; omega)
      have HPA := hid_intro (fun w' (hb : But (two lb sb) V w') => hpart w' ((But.ofBelow hbV).trans hb))
      obtain ⟨s0, _⟩ := HX.out V (But.refl _ _)
      have s1 : (wr.alloc (.cells #[.int .i64 x0, .slice x1 x2 x3, .int .i64 x4, .int .i64 x5, .bool x6, .slice x7 x8 x9] 31)).cell? ⟨r0, 0, none⟩ = some (.pointer (some ⟨lb, 0, none⟩)) := hV ▸ s0
      have HB0 : Hid (∀ k, u3.ownBlock = some k → w.heap.size ≤ k ∧ k < wr.heap.size) := hid_intro (fun k hk => HI.out.1.lt k hk)
      have HLT0 : Hid (lb < w.heap.size ∧ sb < w.heap.size) := hid_intro HH.out.lt
      have HBV := hid_intro hbV
      have HV := hid_intro hV
      have HWV := hid_intro hwV
      clear hV hbV kV hwV hnX s0 hpart HPR hltV hlt2 hszj hrm
      go_wp2_with fail
      rw [HV.out]
      refine hfork.mono ?_; rintro e w1 ⟨p0, q0, rfl, hp0, hq0, hcap0, hls1, hbt1⟩
      clear g0 g1 g2 g3 g4 g5 c_p c_q c_s s1 hfork
      obtain ⟨s1, y0, y1, y2, y3, y4, y5⟩ := HX.out w1 hbt1
      have hpart1 := HPA.out w1 hbt1
      have HC0 := hid_intro hcap0
      have HPQ := hid_intro (And.intro hp0 hq0)
      have HL1 := hid_intro hls1
      have HB1 := hid_intro hbt1
      clear hcap0 hls1 hbt1 hp0 hq0
      go_wp2_with fail
      refine hpart1.mono ?_; rintro e w2 ⟨v2, rfl, hfn, hb2⟩
      obtain ⟨fnum, caps, rfl, hent, hcall0⟩ := hfn
      have hcall := hcall0 w2 _ _ (But.refl _ _) (HL1.out.below hb2) (by have := HLN.out; rw [List.length_append, this.1]; simp; omega)
      have HB2 := hid_intro (HB1.out.trans (But.ofBelow hb2))
      have HC2 := hid_intro (HC0.out.below hb2)
      clear hpart1 hcall0 hb2 s1 y0 y1 y2 y3 y4 y5 HB1 HL1 HC0
      go_wp2_with fail
      refine hcall.mono ?_; rintro e w3 ⟨rfl, hls3, hbt3⟩
      have hsz3 : (bld s[j] ((L ++ altM (l.take j) L.length EE 0 ++ [⟨2, [], ((L ++ altM (l.take j) L.length EE 0).length : Int) + 1, 0⟩] : List ST).length)).length = szX s[j] := HPO.out.sz _ (List.getElem_mem hjs) _
      have hjump := jumpZ_any lb sb cap _ _ w3 hls3 (by have := HLN.out; rw [List.length_append, hsz3, List.length_append, this.1]; simp; omega)
      have HSZ3 := hid_intro hsz3
      have HB3 := hid_intro (HB2.out.trans hbt3)
      have HC3 := hid_intro (HC2.out.but hbt3)
      have HSI3 : Hid (V.heap.size ≤ w3.heap.size) := hid_intro HB3.out.size
      obtain ⟨s1, _⟩ := HX.out w3 HB3.out
      clear hcall hls3 hbt3 HB2 HC2 hent hsz3
      go_wp2_with fail
      refine hjump.mono ?_; rintro e w4 ⟨p4, q4, rfl, hp4, hq4, hcap4, hls4, hbt4⟩
      have HC4 := hid_intro (HC3.out.but hbt4)
      have HB4 := hid_intro (HB3.out.trans hbt4)
      have HL4 := hid_intro hls4
      have HK4 := hid_intro (And.intro hcap4 (And.intro hp4 hq4))
      have HNT : Hid (∀ k, u3.ownBlock = some k → ¬ two lb sb k) := hid_intro (fun k hk e => by have := HB0.out k hk; have := HLT0.out; rcases e with e | e <;> omega)
      have HOW4 : Hid (w4.ownsRow w.heap.size 1 1 u3 j F) := hid_intro (own_but (own_but HI.out.1 (But.ofBelow (X := two lb sb) HBV.out) HNT.out) HB4.out HNT.out)
      have HSI4 : Hid (w.heap.size ≤ w4.heap.size) := hid_intro (HWV.out.trans HB4.out).size
      have HJM : Hid (j ≤ 1048576) := hid_intro (by have := HM.out.2.1; omega)
      clear hjump hcap4 hp4 hq4 hls4 hbt4 HC3 HB3 s1
      go_wp2_with (at_builtin; refine wpList_append_fnJ rfl _ _ rfl w.heap.size u3 j F rfl HOW4.out HSI4.out HJM.out _ rfl _ rfl rfl ?_; intro v5 w5 ho5 hg5 hv5)
      have hnz : ∀ x, V.heap.size ≤ x → x ∉ zb u3 := fun x hx hm => by have := (HB0.out x (zb_mem hm)).2; have := HBV.out.size; omega
      have hwt := (HI.out.2.1.but ((But.ofBelow HBV.out).trans HB4.out)).app hg5 hv5 (by have := HOW4.out.1; omega) p4 q4 (by
        have h := HK4.out.1
        have e : ((L ++ altM (l.take j) L.length EE 0 ++ [⟨2, [], ((L ++ altM (l.take j) L.length EE 0).length : Int) + 1, 0⟩]) ++ bld s[j] ((L ++ altM (l.take j) L.length EE 0 ++ [⟨2, [], ((L ++ altM (l.take j) L.length EE 0).length : Int) + 1, 0⟩] : List ST).length) : List ST).length = L.length + jat l j := by
          rw [List.length_append, HSZ3.out, List.length_append, HLN.out.1]
          unfold jat
          have := HLN.out.2.1
          simp
          omega
        rw [e] at h
        exact h) (hnz _ (Nat.le_trans HSI3.out HK4.out.2.1)) (hnz _ (Nat.le_trans HSI3.out HK4.out.2.2))
      have hcap5 := HC4.out.app hg5 (hnz _ HPQ.out.1) (hnz _ HPQ.out.2)
      have hls5 := HL4.out.appended hg5 hv5 (fun g hg => (ho5.lt g hg).2)
      have hb5 : But (two lb sb) w w5 := ((HWV.out.trans HB4.out).alloc _).grown hg5 (fun b e => Or.inr (HB0.out b e).1)
      have hcall := fork1Z_any lb sb cap p0 q0 _ (zb v5 ++ Z) _ w5 hls5 hcap5 (by simp)
      have HO5 := hid_intro ho5
      have HWT := hid_intro hwt
      have HB5 := hid_intro hb5
      clear hwt hcap5 hls5 hb5 ho5 hg5 hv5 hnz HB4 HC4 HL4 HK4 HOW4 HSI4 HJM HNT
      go_wp2_with fail
      refine hcall.mono ?_; rintro e w6 ⟨rfl, hls6, hbt6⟩
      have HJ : Hid (w6.ownsRow w.heap.size 1 1 v5 (j + 1) (F ++ [.func (.func 131) #[] #[.pointer (some ⟨p4, 0, none⟩), .pointer (some ⟨q4, 0, none⟩)]]) ∧ Wait w6 lb sb v5 (F ++ [.func (.func 131) #[] #[.pointer (some ⟨p4, 0, none⟩), .pointer (some ⟨q4, 0, none⟩)]]) L.length l (j + 1) ∧ LZ w6 lb sb cap (zb v5 ++ Z) (L ++ altM (l.take (j + 1)) L.length EE 0) ∧ But (two lb sb) w w6) := hid_intro
        ⟨own_but HO5.out hbt6 (fun k hk e => by have := (HO5.out.lt k hk).1; have := HLT0.out; rcases e with e | e <;> omega), HWT.out.but hbt6, by
          rw [alt_step L (l.take j) s[j] EE (fun x hx => HM.out.2.2.2.2.2.1 x (List.mem_of_mem_take hx)) (fun n => HPO.out.sz _ (List.getElem_mem hjs) n)] at hls6
          have hjl : j < l.length := by have := HM.out.2.2.2.1; omega
          obtain ⟨_, e⟩ := HM.out.2.2.2.2.2.2.1 j hjl
          have et : l.take (j + 1) = l.take j ++ [s[j]] := by rw [List.take_add_one, e]; rfl
          rw [et]; exact hls6, HB5.out.trans hbt6⟩
      clear hcall hls6 hbt6 HB5 HX HWV HV HI HPQ HPA HO5 HWT HLN HSZ3 HB0 HLT0 HBV HSI3
      go_wp2_with fail
      go_roundg (s.length - 1 - (j + 1))
      case measure => omega
      case rel => exact ⟨j + 1, _, by omega, rfl, by simp, HJ⟩
    · have hjl : j = s.length - 1 := by omega
      subst hjl
      have hJ : ¬ ((s.length - 1 : Nat) : Int) < ((s.length - 1 : Nat) : Int) := by omega
      obtain ⟨hrow, hwait, hls, hbt⟩ := HI.out
      obtain ⟨fb, fc, efb, hfl⟩ : ∃ fb fc, u3 = .slice (some ⟨fb, 0, none⟩) (s.length - 1) fc ∧ s.length - 1 ≤ fc := by
        rcases hrow.2 with ⟨_, e⟩ | ⟨g, c, cur, e, _, _, hc, _⟩
        · omega
        · exact ⟨g, c, e, hc⟩
      subst efb
      have hlast : s.length - 1 < s.length := by omega
      have HPR := hid_intro (HPO.out.but hbt)
      obtain ⟨b', off', eb, hnb', h3⟩ := HPR.out.cells.resolve_left (fun e => by rw [e] at hlast; exact absurd hlast (by simp))
      injection eb with eb
      injection eb with eb1 eb2 _
      subst eb1 eb2
      obtain ⟨x0, x1, x2, x3, x4, x5, x6, x7, x8, x9, e0, e1, e2, e3, e4, e5⟩ := HPR.out.six (s.length - 1) hlast
      have hpart := fun w' hb => HPR.out.part (s.length - 1) hlast w' hb
      rw [e0, e1, e2, e3, e4, e5] at hpart
      have hI6 : ((s.length : Int) - 1) < (s.length : Int) := by omega
      have hI7 : ((s.length : Int) - 1).toNat = s.length - 1 := by omega
      have hI8 : (1 : Int) ≤ (s.length : Int) := by omega
      have HS2 : Hid (∀ w', But (two lb sb) wr w' → (w'.cell? ⟨p, 0, none⟩ = some (.slice (some ⟨b, off, none⟩) s.length cp) ∧ w'.cell? ⟨q, 0, none⟩ = some (.int .i64 ((s.length : Int) - 1)) ∧ w'.cell? ⟨r0, 0, none⟩ = some (.pointer (some ⟨lb, 0, none⟩))) ∧ w'.cell? ⟨b, off + (s.length - 1) * 6, none⟩ = some (.int .i64 x0) ∧ w'.cell? ⟨b, off + (s.length - 1) * 6 + 1, none⟩ = some (.slice x1 x2 x3) ∧ w'.cell? ⟨b, off + (s.length - 1) * 6 + 2, none⟩ = some (.int .i64 x4) ∧ w'.cell? ⟨b, off + (s.length - 1) * 6 + 3, none⟩ = some (.int .i64 x5) ∧ w'.cell? ⟨b, off + (s.length - 1) * 6 + 4, none⟩ = some (.bool x6) ∧ w'.cell? ⟨b, off + (s.length - 1) * 6 + 5, none⟩ = some (.slice x7 x8 x9)) := hid_intro (fun w' hb => by
        obtain ⟨k1, k2, k3⟩ := HS.out w' (hbt.trans hb)
        have g : ∀ j, j < 6 → w'.cell? ⟨b, off + (s.length - 1) * 6 + j, none⟩ = some (G (s.length - 1) j) := fun j hj => cell_but (h3 (s.length - 1) hlast j hj) hnb' hb
        exact ⟨⟨k1, k2, k3⟩, (g 0 (by omega)).trans (by rw [e0]), (g 1 (by omega)).trans (by rw [e1]), (g 2 (by omega)).trans (by rw [e2]), (g 3 (by omega)).trans (by rw [e3]), (g 4 (by omega)).trans (by rw [e4]), (g 5 (by omega)).trans (by rw [e5])⟩)
      have hlA : (L ++ altM l L.length EE 0).length = L.length + szL l + 2 * (s.length - 1) := by
        rw [List.length_append, altM_len l HM.out.2.2.2.2.2.1, HM.out.2.2.2.1]; omega
      have htk : l.take (s.length - 1) = l := List.take_of_length_le (by have := HM.out.2.2.2.1; omega)
      rw [htk] at hls
      have HCL : Hid (∀ w' n caps, Below wr.heap.size wr w' → (∀ w2 Z L, But (two lb sb) w' w2 → LZ w2 lb sb cap Z L → L.length + szX s[s.length - 1] ≤ cap → Calls Tryz.prog n caps w2 fun e w3 => e = .returned (.tuple #[]) ∧ LZ w3 lb sb cap Z (L ++ bld s[s.length - 1] L.length) ∧ But (two lb sb) w2 w3) → Calls Tryz.prog n caps w' fun e w3 => e = .returned (.tuple #[]) ∧ LZ w3 lb sb cap (zb (.slice (some ⟨fb, 0, none⟩) (s.length - 1) fc) ++ Z) (L ++ altM l L.length EE 0 ++ bld s[s.length - 1] (L.length + szL l + 2 * (s.length - 1))) ∧ But (two lb sb) w' w3) := hid_intro (fun w' n caps hb hc => by
        have := hc w' _ _ (But.refl _ _) (hls.below hb) (by
          rw [hlA]
          have := HM.out.1
          have := HM.out.2.2.2.2.1
          omega)
        rw [hlA] at this
        exact this)
      have HPA := hid_intro (fun w' (hb : Below wr.heap.size wr w') => hpart w' (But.ofBelow hb))
      have HR := hid_intro (And.intro hrow (And.intro hwait hbt))
      have HLA := hid_intro hlA
      have HYL : Hid (∀ n, (bld s[s.length - 1] n).length = szX s[s.length - 1]) := hid_intro (fun n => HPO.out.sz _ (List.getElem_mem hlast) n)
      clear hrow hwait hls hbt hpart HI HPR h3 hnb' e0 e1 e2 e3 e4 e5 hlA htk hfl
      go_wp2_with fail
      go_region_held3 (fun w' => (w'.cell? ⟨p, 0, none⟩ = some (.slice (some ⟨b, off, none⟩) s.length cp) ∧ w'.cell? ⟨q, 0, none⟩ = some (.int .i64 ((s.length : Int) - 1)) ∧ w'.cell? ⟨r0, 0, none⟩ = some (.pointer (some ⟨lb, 0, none⟩))) ∧ w'.cell? ⟨b, off + (s.length - 1) * 6, none⟩ = some (.int .i64 x0) ∧ w'.cell? ⟨b, off + (s.length - 1) * 6 + 1, none⟩ = some (.slice x1 x2 x3) ∧ w'.cell? ⟨b, off + (s.length - 1) * 6 + 2, none⟩ = some (.int .i64 x4) ∧ w'.cell? ⟨b, off + (s.length - 1) * 6 + 3, none⟩ = some (.int .i64 x5) ∧ w'.cell? ⟨b, off + (s.length - 1) * 6 + 4, none⟩ = some (.bool x6) ∧ w'.cell? ⟨b, off + (s.length - 1) * 6 + 5, none⟩ = some (.slice x7 x8 x9)) (first | (refine HS2.out _ ?_; with_reducible repeat (first | exact But.refl _ _ | refine But.drew ?_ | refine But.trans ?_ hbt5 | refine But.below ?_ hb4)) | fail) (first | (go_at_call 51; refine (HPA.out _ ?_).mono ?_; (with_reducible repeat (first | exact Below.refl _ _ | refine vb_d ?_)); rintro e w4 ⟨v4, rfl, hfn, hb4⟩; obtain ⟨fnum, caps, rfl, hent, hcall0⟩ := hfn) | (refine (HCL.out _ _ _ ?_ hcall0).mono ?_; (with_reducible repeat (first | exact Below.refl _ _ | refine vb_d ?_ | refine vb_t ?_ hb4)); rintro e w5 ⟨rfl, hls5, hbt5⟩) | fail)
      all_goals
        have hb5 : But (two lb sb) wr w5 := by with_reducible repeat (first | exact But.refl _ _ | refine But.drew ?_ | refine But.trans ?_ hbt5 | refine But.below ?_ hb4)
        have hnt : ∀ k, (Value.slice (some ⟨fb, 0, none⟩) (s.length - 1) fc).ownBlock = some k → ¬ two lb sb k := fun k hk e => by
          have := (HR.out.1.lt k hk).1
          have := HH.out.lt
          rcases e with e | e <;> omega
        have HRW : Hid (∀ wx, But (two lb sb) w5 wx → ∀ i, i < s.length - 1 → ∃ p1 q1, wx.cell? ⟨fb, i, none⟩ = some (.func (.func 131) #[] #[.pointer (some ⟨p1, 0, none⟩), .pointer (some ⟨q1, 0, none⟩)]) ∧ Cap wx lb sb p1 q1 (L.length + jat l i)) := hid_intro (fun wx hb i hi => by
          have ho := own_but HR.out.1 (hb5.trans hb) hnt
          obtain ⟨p1, q1, f1, f2, _⟩ := (HR.out.2.1.but (hb5.trans hb)) i hi
          exact ⟨p1, q1, (ho.cellAt i (by omega)).trans f1, f2⟩)
        have HB5 := hid_intro (HR.out.2.2.trans hb5)
        have HL5 := hid_intro hls5
        have hlt1 : (0 : Int) ≤ ((s.length - 1 : Nat) : Int) := by omega
        clear hb5 hls5 hbt5 hcall0 hent hb4 HPA HCL HS2 HR HS HPO hnt
        go_wp2_with fail
        go_loopg [40] (s.length - 1) (fun m s40 wx => ∃ i : Nat, i ≤ s.length - 1 ∧ m = s.length - 1 - i ∧ s40 = .int .i64 (i : Int) ∧ Hid (LZ wx lb sb cap (zb (.slice (some ⟨fb, 0, none⟩) (s.length - 1) fc) ++ Z) (L ++ altM l L.length EE i ++ bld s[s.length - 1] (L.length + szL l + 2 * (s.length - 1))) ∧ But (two lb sb) w5 wx))
        case atStart => exact ⟨0, Nat.zero_le _, rfl, rfl, HL5.out, But.refl _ _⟩
        case round =>
          obtain ⟨i, hi, rfl, rfl, HE⟩ := hrel
          by_cases hlt : i < s.length - 1
          · have hJ3 : (i : Int) < ((s.length - 1 : Nat) : Int) := by omega
            obtain ⟨p1, q1, cf, hcap⟩ := HRW.out _ HE.out.2 i hlt
            have hll := HM.out.2.2.2.1
            have hlsz := HM.out.2.2.2.2.2.1
            have hal := altM_len l hlsz L.length EE i
            have hyl := HYL.out (L.length + szL l + 2 * (s.length - 1))
            have htot : (L ++ altM l L.length EE i ++ bld s[s.length - 1] (L.length + szL l + 2 * (s.length - 1))).length = EE := by
              rw [List.length_append, List.length_append, hal, hyl, ← HM.out.2.2.2.2.2.2.2.2, HM.out.2.2.2.2.1, hll]; omega
            have hjt : L.length + jat l i < (L ++ altM l L.length EE i ++ bld s[s.length - 1] (L.length + szL l + 2 * (s.length - 1))).length := by
              obtain ⟨⟨a, h1⟩, _⟩ := altM_turn l hlsz L.length EE i (by omega)
              have := (List.getElem?_eq_some_iff.1 h1).1
              rw [List.length_append, List.length_append]; omega
            have hcall := jump1Z_any lb sb cap p1 q1 _ _ _ _ HE.out.1 hcap hjt
            rw [setAB_alt L l _ hlsz EE i (by omega) htot] at hcall
            clear hcap hll hlsz hal hyl htot hjt
            go_wp2_with fail
            refine hcall.mono ?_; rintro e w6 ⟨rfl, hls6, hbt6⟩
            have HE2 := hid_intro (And.intro hls6 (HE.out.2.trans hbt6))
            clear hcall hls6 hbt6 cf
            go_wp2_with fail
            go_roundg (s.length - 1 - (i + 1))
            case measure => omega
            case rel => exact ⟨i + 1, by omega, rfl, by simp, HE2⟩
          · have hjl : i = s.length - 1 := by omega
            subst hjl
            go_wp2_with fail
            go_end0
            rw [HP.out]
            refine ⟨rfl, ?_, HB5.out.trans HE.out.2⟩
            have h := HE.out.1.sub (Z' := Z) (fun z hz => List.mem_append_right _ hz)
            have e1 : bldA s L.length EE = altM l L.length EE (s.length - 1) ++ bld s[s.length - 1] (L.length + szL l + 2 * (s.length - 1)) := by
              have e0 := bldA_snoc l s[s.length - 1] L.length EE
              rw [← HM.out.2.2.2.2.2.2.2.1, HM.out.2.2.2.1] at e0
              exact e0
            rw [HM.out.2.2.2.2.2.2.2.2, e1, ← List.append_assoc]
            exact h
end Go.Proofs.YtoinlmfodmgohaaGreatDoor
