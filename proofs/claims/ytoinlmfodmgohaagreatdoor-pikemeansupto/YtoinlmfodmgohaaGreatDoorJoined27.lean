/-
  A choice of two sets: what compiles it, and that called. Conditions: there is room; at most 2^40 ranges each.
  The list of states with blocks that are set apart: in none of them a state's ranges lie. Conditions: there is room.
-/
import Derived.Test.YtoinlmfodmgohaaGreatDoorJoined26
namespace Go.Proofs.YtoinlmfodmgohaaGreatDoor
open Go.RowKit
attribute [local go_sem] setCell_drewN alloc_drewN

theorem infoFn : (Tryz.prog.info? 1).map (fun i => (i.zero, i.size, i.bytes)) = some (some .nilFunc, 1, 8) := by kernel_rfl
/-- The first function of a row of functions. -/
theorem wpList_append_fn {w : World} {ops : Array Oper} {rest : List Oper} {o : Oper} {a : Act} {Q : Exit → Act → World → Prop} (hgd : o.guard = none) (s x : Operand)
    (ho : o.op = .call { callee := .builtin .append, args := #[s, x], argTypes := #[140, 140] }) (hs : a.eval s = .slice none 0 0) (f : Value) (hf : f.oneCell' = true)
    (t : Nat) (ht : w.heap.size = t) (hx : a.eval x = .slice (some ⟨t, 0, none⟩) 1 1)
    (h : ∀ g c w', w'.cell? ⟨g, 0, none⟩ = some f → w.heap.size ≤ g → Below w.heap.size w w' → wpList Tryz.prog ops Q rest (a.put o.dst (.slice (some ⟨g, 0, none⟩) 1 c)) w') :
    wpList Tryz.prog ops Q (o :: rest) a (w.alloc (.cells #[f] 1)) := by
  subst ht
  obtain ⟨i0, hi, hz0, hz1, hz2⟩ := info_parts infoFn
  refine wpList_append_own _ hgd s x 140 ho w.heap.size 1 i0 .nilFunc 1 8 Tryz.underlying140 hi hz0 hz1 hz2 rfl (by decide) (.slice none 0 0) 0 [] hs (World.ownsRow_nil _ _ _ _) ⟨w.heap.size, 0, none⟩ 1 1 [f] hx rfl ?_ ?_ (by unfold maxLen; omega) (by omega) (by simp) ?_
  · intro j u hj
    match j, hj with
    | 0, hj => simp at hj; subst hj; simp [Addr.add, go_sem]
  · intro u hu
    simp at hu
    subst hu
    exact hf
  · intro v' w' h1 h2 _
    rcases h1.2 with ⟨_, e⟩ | ⟨g, c, cur, rfl, hb, hg, _, _, hcs, htk⟩
    · simp at e
    · refine h g c w' ?_ hb ((vb_a (Below.refl _ _) _).grown h2 (by simp) (fun j hj => by cases hj))
      exact h1.cellAt 0 (by omega)
/-- The three variables of a choice: its parts, the last one's place, the list. -/
structure Cap4 (w : World) (lb sb p q s b off cp : Nat) : Prop where
  h1 : w.cell? ⟨p, 0, none⟩ = some (.slice (some ⟨b, off, none⟩) 2 cp)
  h2 : w.cell? ⟨q, 0, none⟩ = some (.int .i64 1)
  h3 : w.cell? ⟨s, 0, none⟩ = some (.pointer (some ⟨lb, 0, none⟩))
  n1 : ¬ two lb sb p
  n2 : ¬ two lb sb q
  n3 : ¬ two lb sb s
theorem cell_but {w w' : World} {X : Nat → Prop} {b o : Nat} {v : Value} (h : w.cell? ⟨b, o, none⟩ = some v) (hn : ¬ X b) (hb : But X w w') : w'.cell? ⟨b, o, none⟩ = some v :=
  (World.cell?_of_block (w := w) (w' := w') (hb.block b (World.block_lt_of_cell? w _ h) hn)).trans h
theorem Cap4.but {w w' : World} {lb sb p q s b off cp : Nat} (h : Cap4 w lb sb p q s b off cp) (hb : But (two lb sb) w w') : Cap4 w' lb sb p q s b off cp :=
  ⟨cell_but h.h1 h.n1 hb, cell_but h.h2 h.n2 hb, cell_but h.h3 h.n3 hb, h.n1, h.n2, h.n3⟩
set_option maxRecDepth 100000 in
theorem partAlt_any (lb sb : Nat) (a : Option Addr) (n c b off cp : Nat) (w : World) (hlb : lb < w.heap.size ∧ sb < w.heap.size) :
    Calls Tryz.prog 51 #[.pointer (some ⟨lb, 0, none⟩), .agg #[.int .i64 4, .slice a n c, .int .i64 0, .int .i64 0, .bool false, .slice (some ⟨b, off, none⟩) 2 cp]] w fun e w' => ∃ p q s, e = .returned (.func (.func 108) #[] #[.pointer (some ⟨p, 0, none⟩), .pointer (some ⟨q, 0, none⟩), .pointer (some ⟨s, 0, none⟩)]) ∧ Cap4 w' lb sb p q s b off cp ∧ Below w.heap.size w w' := by
  have hch : ∀ w', Below w.heap.size w w' → Calls Tryz.prog 82 #[.pointer (some ⟨lb, 0, none⟩), .slice (some ⟨b, off, none⟩) 2 cp] w' fun e w2 => ∃ p q s, e = .returned (.func (.func 108) #[] #[.pointer (some ⟨p, 0, none⟩), .pointer (some ⟨q, 0, none⟩), .pointer (some ⟨s, 0, none⟩)]) ∧ Cap4 w2 lb sb p q s b off cp ∧ Below w'.heap.size w' w2 := fun w' hb => by
    have hlb' : lb < w'.heap.size ∧ sb < w'.heap.size := ⟨Nat.lt_of_lt_of_le hlb.1 hb.size, Nat.lt_of_lt_of_le hlb.2 hb.size⟩
    obtain ⟨W, hW⟩ : ∃ W, ((w'.alloc (.cells #[.pointer (some ⟨lb, 0, none⟩)] 88)).alloc (.cells #[.slice (some ⟨b, off, none⟩) 2 cp] 29)).alloc (.cells #[.int .i64 1] 3) = W := ⟨_, rfl⟩
    have hbW : Below w'.heap.size w' W := hW ▸ vb_a (vb_a (vb_a (Below.refl _ _) _) _) _
    have k1 : Bk W w'.heap.size #[.pointer (some ⟨lb, 0, none⟩)] := hW ▸ ((Bk.new _ _ _).al _).al _
    have k2 : Bk W (w'.heap.size + 1) #[.slice (some ⟨b, off, none⟩) 2 cp] := hW ▸ (Bk.new' _ _ _ _ (by simp)).al _
    have k3 : Bk W (w'.heap.size + 2) #[.int .i64 1] := hW ▸ Bk.new' _ _ _ _ (by simp)
    have hc : Cap4 W lb sb (w'.heap.size + 1) (w'.heap.size + 2) w'.heap.size b off cp := ⟨k2.cell 0, k3.cell 0, k1.cell 0, fun e => by rcases e with e | e <;> omega, fun e => by rcases e with e | e <;> omega, fun e => by rcases e with e | e <;> omega⟩
    have HC := hid_intro (And.intro hc hbW)
    have HW := hid_intro hW
    clear hc k1 k2 k3 hbW hW hlb'
    go_enter Tryz.func82, Tryz.ntmps82
    go_wp2_with fail
    go_ret
    rw [HW.out]
    exact ⟨_, _, _, rfl, HC.out.1, HC.out.2⟩
  obtain ⟨W, hW⟩ : ∃ W, w.alloc (.cells #[.int .i64 4, .slice a n c, .int .i64 0, .int .i64 0, .bool false, .slice (some ⟨b, off, none⟩) 2 cp] 31) = W := ⟨_, rfl⟩
  have hbW : Below w.heap.size w W := hW ▸ vb_a (Below.refl _ _) _
  have hs := hch W hbW
  have HW := hid_intro hW
  clear hW hch hlb
  go_enter Tryz.func51, Tryz.ntmps51
  go_wp2_with fail
  rw [HW.out]
  refine hs.mono ?_; rintro e w2 ⟨p, q, s, rfl, hc, hb2⟩
  go_wp2_with fail
  go_ret
  exact ⟨p, q, s, rfl, hc, vb_t hbW hb2⟩
/-- The list behind the first part, and at the end. -/
def alt4 (L : List ST) (r1 : List (Int × Int)) : List ST :=
  setB (((L ++ [⟨2, [], (L.length : Int) + 1, 0⟩]) ++ [⟨1, r1, ((L ++ [⟨2, [], (L.length : Int) + 1, 0⟩] : List ST).length : Int) + 1, 0⟩]) ++ [⟨2, [], (((L ++ [⟨2, [], (L.length : Int) + 1, 0⟩]) ++ [⟨1, r1, ((L ++ [⟨2, [], (L.length : Int) + 1, 0⟩] : List ST).length : Int) + 1, 0⟩] : List ST).length : Int) + 1, 0⟩]) L.length
theorem alt4_len (L : List ST) (r1 : List (Int × Int)) : (alt4 L r1).length = L.length + 3 := by simp [alt4, setB]
def alt6 (L : List ST) (r1 r2 : List (Int × Int)) : List ST := setAB (alt4 L r1 ++ [⟨1, r2, ((alt4 L r1).length : Int) + 1, 0⟩]) (L.length + 2)
set_option maxRecDepth 100000 in
set_option maxHeartbeats 6400000 in
theorem choice2_any (lb sb cap : Nat) (L : List ST) (p q s b off cp : Nat) (a1 a2 d1 d2 : Option Addr) (r1 r2 : List (Int × Int)) (c1 c2 n1 m1 n2 m2 : Nat) (w : World) (h : LS w lb sb cap L) (hroom : L.length + 4 ≤ cap) (hk : Cap4 w lb sb p q s b off cp) (hcp : 2 ≤ cp)
    (hnb : ¬ two lb sb b) (g1 : w.cell? ⟨b, off, none⟩ = some (.int .i64 2) ∧ w.cell? ⟨b, off + 1, none⟩ = some (.slice a1 r1.length c1) ∧ w.cell? ⟨b, off + 2, none⟩ = some (.int .i64 0) ∧ w.cell? ⟨b, off + 3, none⟩ = some (.int .i64 0) ∧ w.cell? ⟨b, off + 4, none⟩ = some (.bool false) ∧ w.cell? ⟨b, off + 5, none⟩ = some (.slice d1 n1 m1)) (g2 : w.cell? ⟨b, off + 6, none⟩ = some (.int .i64 2) ∧ w.cell? ⟨b, off + 6 + 1, none⟩ = some (.slice a2 r2.length c2) ∧ w.cell? ⟨b, off + 6 + 2, none⟩ = some (.int .i64 0) ∧ w.cell? ⟨b, off + 6 + 3, none⟩ = some (.int .i64 0) ∧ w.cell? ⟨b, off + 6 + 4, none⟩ = some (.bool false) ∧ w.cell? ⟨b, off + 6 + 5, none⟩ = some (.slice d2 n2 m2))
    (hR1 : RI w (two lb sb) r1 (.slice a1 r1.length c1)) (hR2 : RI w (two lb sb) r2 (.slice a2 r2.length c2)) (hl1 : r1.length ≤ 1099511627776) (hl2 : r2.length ≤ 1099511627776) :
    Calls Tryz.prog 108 #[.pointer (some ⟨p, 0, none⟩), .pointer (some ⟨q, 0, none⟩), .pointer (some ⟨s, 0, none⟩)] w fun e w' => e = .returned (.tuple #[]) ∧ LS w' lb sb cap (alt6 L r1 r2) ∧ But (two lb sb) w w' := by
  obtain ⟨P, hP⟩ : ∃ P : Ending → World → Prop, P = fun e w' => e = .returned (.tuple #[]) ∧ LS w' lb sb cap (alt6 L r1 r2) ∧ But (two lb sb) w w' := ⟨_, rfl⟩
  rw [← hP]
  have HP := hid_intro hP
  clear hP
  have HS : Hid (∀ w', But (two lb sb) w w' → w'.cell? ⟨p, 0, none⟩ = some (.slice (some ⟨b, off, none⟩) 2 cp) ∧ w'.cell? ⟨q, 0, none⟩ = some (.int .i64 1) ∧ w'.cell? ⟨s, 0, none⟩ = some (.pointer (some ⟨lb, 0, none⟩)) ∧ w'.cell? ⟨b, off, none⟩ = some (.int .i64 2) ∧ w'.cell? ⟨b, off + 1, none⟩ = some (.slice a1 r1.length c1) ∧ w'.cell? ⟨b, off + 2, none⟩ = some (.int .i64 0) ∧ w'.cell? ⟨b, off + 3, none⟩ = some (.int .i64 0) ∧ w'.cell? ⟨b, off + 4, none⟩ = some (.bool false) ∧ w'.cell? ⟨b, off + 5, none⟩ = some (.slice d1 n1 m1) ∧ w'.cell? ⟨b, off + 6, none⟩ = some (.int .i64 2) ∧ w'.cell? ⟨b, off + 6 + 1, none⟩ = some (.slice a2 r2.length c2) ∧ w'.cell? ⟨b, off + 6 + 2, none⟩ = some (.int .i64 0) ∧ w'.cell? ⟨b, off + 6 + 3, none⟩ = some (.int .i64 0) ∧ w'.cell? ⟨b, off + 6 + 4, none⟩ = some (.bool false) ∧ w'.cell? ⟨b, off + 6 + 5, none⟩ = some (.slice d2 n2 m2)) := hid_intro (fun w' hb => by
    have k := hk.but hb
    obtain ⟨x0, x1, x2, x3, x4, x5⟩ := g1
    obtain ⟨y0, y1, y2, y3, y4, y5⟩ := g2
    exact ⟨k.h1, k.h2, k.h3, cell_but x0 hnb hb, cell_but x1 hnb hb, cell_but x2 hnb hb, cell_but x3 hnb hb, cell_but x4 hnb hb, cell_but x5 hnb hb, cell_but y0 hnb hb, cell_but y1 hnb hb, cell_but y2 hnb hb, cell_but y3 hnb hb, cell_but y4 hnb hb, cell_but y5 hnb hb⟩)
  have HR1 : Hid (∀ w', But (two lb sb) w w' → RI w' (two lb sb) r1 (.slice a1 r1.length c1)) := hid_intro (fun w' hb => hR1.but hb (fun _ h => h))
  have HR2 : Hid (∀ w', But (two lb sb) w w' → RI w' (two lb sb) r2 (.slice a2 r2.length c2)) := hid_intro (fun w' hb => hR2.but hb (fun _ h => h))
  have HH := hid_intro h
  have HRO := hid_intro (And.intro hroom (And.intro hl1 hl2))
  have HLT := hid_intro h.lt
  have hcI : (2 : Int) ≤ (cp : Int) := by omega
  obtain ⟨c_p, c_q, c_s, _⟩ := HS.out w (But.refl _ _)
  clear h hk g1 g2 hR1 hR2 hroom hl1 hl2
  go_enter Tryz.func108, Tryz.ntmps108
  go_wp2_with fail
  clear c_p c_q c_s
  go_loopg [3, 13] 1 (fun m s3 s13 wr => (m = 1 ∧ s3 = .slice none 0 0 ∧ s13 = .int .i64 0 ∧ Hid (LS wr lb sb cap L ∧ But (two lb sb) w wr)) ∨ (m = 0 ∧ s13 = .int .i64 1 ∧ ∃ fb fc p1 q1, s3 = .slice (some ⟨fb, 0, none⟩) 1 fc ∧ Hid (wr.cell? ⟨fb, 0, none⟩ = some (.func (.func 131) #[] #[.pointer (some ⟨p1, 0, none⟩), .pointer (some ⟨q1, 0, none⟩)]) ∧ ¬ two lb sb fb ∧ Cap wr lb sb p1 q1 (L.length + 2) ∧ LS wr lb sb cap (alt4 L r1) ∧ But (two lb sb) w wr)))
  case atStart => exact Or.inl ⟨rfl, rfl, rfl, HH.out, But.refl _ _⟩
  case round =>
    rcases hrel with ⟨rfl, rfl, rfl, HI⟩ | ⟨rfl, rfl, fb, fc, p1, q1, rfl, HI⟩
    · obtain ⟨c_p, c_q, c_s, x0, x1, x2, x3, x4, x5, _⟩ := HS.out wr HI.out.2
      obtain ⟨V, hV⟩ : ∃ V, wr.alloc (.cells #[.int .i64 2, .slice a1 r1.length c1, .int .i64 0, .int .i64 0, .bool false, .slice d1 n1 m1] 31) = V := ⟨_, rfl⟩
      have hbV : Below wr.heap.size wr V := hV ▸ vb_a (Below.refl _ _) _
      have kV : Bk V wr.heap.size #[.int .i64 2, .slice a1 r1.length c1, .int .i64 0, .int .i64 0, .bool false, .slice d1 n1 m1] := hV ▸ Bk.new _ _ _
      have hwV : But (two lb sb) w V := HI.out.2.below hbV
      have hnX : ¬ two lb sb wr.heap.size := fun e => by have := HI.out.1.lt; rcases e with e | e <;> omega
      have HX : Hid (∀ w', But (two lb sb) V w' → w'.cell? ⟨s, 0, none⟩ = some (.pointer (some ⟨lb, 0, none⟩)) ∧ w'.cell? ⟨wr.heap.size, 0, none⟩ = some (.int .i64 2) ∧ w'.cell? ⟨wr.heap.size, 1, none⟩ = some (.slice a1 r1.length c1) ∧ w'.cell? ⟨wr.heap.size, 2, none⟩ = some (.int .i64 0) ∧ w'.cell? ⟨wr.heap.size, 3, none⟩ = some (.int .i64 0) ∧ w'.cell? ⟨wr.heap.size, 4, none⟩ = some (.bool false) ∧ w'.cell? ⟨wr.heap.size, 5, none⟩ = some (.slice d1 n1 m1)) := hid_intro (fun w' hb => by
        obtain ⟨a0, a1, a2, a3, a4, a5⟩ := kV.c6
        exact ⟨(HS.out w' (hwV.trans hb)).2.2.1, cell_but a0 hnX hb, cell_but a1 hnX hb, cell_but a2 hnX hb, cell_but a3 hnX hb, cell_but a4 hnX hb, cell_but a5 hnX hb⟩)
      have hfork := fork_any lb sb cap L V (HI.out.1.below hbV) (by have := HRO.out.1; omega)
      obtain ⟨s0, _⟩ := HX.out V (But.refl _ _)
      have s1 : (wr.alloc (.cells #[.int .i64 2, .slice a1 r1.length c1, .int .i64 0, .int .i64 0, .bool false, .slice d1 n1 m1] 31)).cell? ⟨s, 0, none⟩ = some (.pointer (some ⟨lb, 0, none⟩)) := hV ▸ s0
      have HV := hid_intro hV
      have HWV := hid_intro hwV
      clear hV hbV kV hwV hnX s0
      go_wp2_with fail
      rw [HV.out]
      refine hfork.mono ?_; rintro e w1 ⟨p0, q0, rfl, hcap0, hls1, hbt1⟩
      clear x0 x1 x2 x3 x4 x5 c_p c_q c_s s1 hfork
      obtain ⟨s1, x0, x1, x2, x3, x4, x5⟩ := HX.out w1 hbt1
      have hw1 := HWV.out.trans hbt1
      have hpart := partSet_any lb sb r1 (.slice a1 r1.length c1) d1 n1 m1 w1 hls1.lt (HR1.out w1 hw1)
      have HC0 := hid_intro hcap0
      have HL1 := hid_intro hls1
      have HB1 := hid_intro hbt1
      clear hcap0 hls1 hbt1 hw1
      go_wp2_with fail
      refine hpart.mono ?_; rintro e w2 ⟨p2, q2, s2, rfl, hcap2, hb2⟩
      have hcall := single1_any lb sb cap p2 q2 s2 1 r1 _ w2 (HL1.out.below hb2) hcap2 (by have := HRO.out.1; simp; omega) HRO.out.2.1
      have HB2 := hid_intro (HB1.out.trans (But.ofBelow hb2))
      have HC2 := hid_intro (HC0.out.below hb2)
      clear hpart hcap2 hb2 s1 x0 x1 x2 x3 x4 x5 HB1 HL1 HC0
      go_wp2_with fail
      refine hcall.mono ?_; rintro e w3 ⟨rfl, hls3, hbt3⟩
      have hjump := jump_any lb sb cap _ w3 hls3 (by have := HRO.out.1; simp; omega)
      have HB3 := hid_intro (HB2.out.trans hbt3)
      have HC3 := hid_intro (HC2.out.but hbt3)
      obtain ⟨s1, _⟩ := HX.out w3 HB3.out
      clear hcall hls3 hbt3 HB2 HC2
      go_wp2_with fail
      refine hjump.mono ?_; rintro e w4 ⟨p4, q4, rfl, hcap4, hls4, hbt4⟩
      have HC4 := hid_intro (HC3.out.but hbt4)
      have HB4 := hid_intro (HB3.out.trans hbt4)
      have HL4 := hid_intro hls4
      have HK4 := hid_intro hcap4
      clear hjump hcap4 hls4 hbt4 HC3 HB3 s1
      go_wp2_with (at_builtin; refine wpList_append_fn rfl _ _ rfl rfl _ rfl _ rfl rfl ?_; intro g c w5 hg5 hgn hb5)
      have hnf : ¬ two lb sb g := fun e => by have := HL4.out.lt; rcases e with e | e <;> omega
      have hcall := fork1_any lb sb cap p0 q0 L.length _ w5 (HL4.out.below hb5) (HC4.out.below hb5) (by simp)
      have HB5 := hid_intro (HB4.out.trans (But.ofBelow hb5))
      have HK5 := hid_intro (HK4.out.below hb5)
      have HG := hid_intro (And.intro hg5 hnf)
      clear hg5 hgn hb5 hnf HB4 HK4 HL4 HC4
      go_wp2_with fail
      refine hcall.mono ?_; rintro e w6 ⟨rfl, hls6, hbt6⟩
      have HJ : Hid (w6.cell? ⟨g, 0, none⟩ = some (.func (.func 131) #[] #[.pointer (some ⟨p4, 0, none⟩), .pointer (some ⟨q4, 0, none⟩)]) ∧ ¬ two lb sb g ∧ Cap w6 lb sb p4 q4 (L.length + 2) ∧ LS w6 lb sb cap (alt4 L r1) ∧ But (two lb sb) w w6) := hid_intro
        ⟨cell_but HG.out.1 HG.out.2 hbt6, HG.out.2, by have := HK5.out.but hbt6; simpa using this, hls6, HWV.out.trans (HB5.out.trans hbt6)⟩
      clear hcall hls6 hbt6 HB5 HK5 HG HX HWV HV HI
      go_wp2_with fail
      go_roundg 0
      case measure => omega
      case rel => exact Or.inr ⟨rfl, rfl, g, c, p4, q4, rfl, HJ⟩
    · obtain ⟨hfb, hnfb, hcap, hls, hbt⟩ := HI.out
      have hpart : ∀ w', Below wr.heap.size wr w' → Calls Tryz.prog 51 #[.pointer (some ⟨lb, 0, none⟩), .agg #[.int .i64 2, .slice a2 r2.length c2, .int .i64 0, .int .i64 0, .bool false, .slice d2 n2 m2]] w' fun e w2 => ∃ p q s, e = .returned (.func (.func 105) #[] #[.pointer (some ⟨p, 0, none⟩), .pointer (some ⟨q, 0, none⟩), .pointer (some ⟨s, 0, none⟩)]) ∧ Cap3 w2 lb sb p q s 1 r2 ∧ Below w'.heap.size w' w2 := fun w' hb =>
        partSet_any lb sb r2 (.slice a2 r2.length c2) d2 n2 m2 w' (hls.below hb).lt (HR2.out w' (hbt.below hb))
      have HPA := hid_intro hpart
      have HS2 : Hid (∀ w', But (two lb sb) wr w' → w'.cell? ⟨p, 0, none⟩ = some (.slice (some ⟨b, off, none⟩) 2 cp) ∧ w'.cell? ⟨q, 0, none⟩ = some (.int .i64 1) ∧ w'.cell? ⟨s, 0, none⟩ = some (.pointer (some ⟨lb, 0, none⟩)) ∧ w'.cell? ⟨b, off, none⟩ = some (.int .i64 2) ∧ w'.cell? ⟨b, off + 1, none⟩ = some (.slice a1 r1.length c1) ∧ w'.cell? ⟨b, off + 2, none⟩ = some (.int .i64 0) ∧ w'.cell? ⟨b, off + 3, none⟩ = some (.int .i64 0) ∧ w'.cell? ⟨b, off + 4, none⟩ = some (.bool false) ∧ w'.cell? ⟨b, off + 5, none⟩ = some (.slice d1 n1 m1) ∧ w'.cell? ⟨b, off + 6, none⟩ = some (.int .i64 2) ∧ w'.cell? ⟨b, off + 6 + 1, none⟩ = some (.slice a2 r2.length c2) ∧ w'.cell? ⟨b, off + 6 + 2, none⟩ = some (.int .i64 0) ∧ w'.cell? ⟨b, off + 6 + 3, none⟩ = some (.int .i64 0) ∧ w'.cell? ⟨b, off + 6 + 4, none⟩ = some (.bool false) ∧ w'.cell? ⟨b, off + 6 + 5, none⟩ = some (.slice d2 n2 m2)) := hid_intro (fun w' hb => HS.out w' (hbt.trans hb))
      have HCL : Hid (∀ w' p q s, Below wr.heap.size wr w' → Cap3 w' lb sb p q s 1 r2 → Calls Tryz.prog 105 #[.pointer (some ⟨p, 0, none⟩), .pointer (some ⟨q, 0, none⟩), .pointer (some ⟨s, 0, none⟩)] w' fun e w2 => e = .returned (.tuple #[]) ∧ LS w2 lb sb cap (alt4 L r1 ++ [⟨1, r2, ((alt4 L r1).length : Int) + 1, 0⟩]) ∧ But (two lb sb) w' w2) := hid_intro (fun w' p q s hb hc =>
        single1_any lb sb cap p q s 1 r2 _ w' (hls.below hb) hc (by rw [alt4_len]; have := HRO.out.1; omega) HRO.out.2.2)
      have HF := hid_intro (And.intro hfb (And.intro hnfb hcap))
      have HBT := hid_intro hbt
      clear hfb hnfb hcap hls hbt hpart HI HS HR1 HR2
      go_wp2_with fail
      go_region_held3 (fun w' => w'.cell? ⟨p, 0, none⟩ = some (.slice (some ⟨b, off, none⟩) 2 cp) ∧ w'.cell? ⟨q, 0, none⟩ = some (.int .i64 1) ∧ w'.cell? ⟨s, 0, none⟩ = some (.pointer (some ⟨lb, 0, none⟩)) ∧ w'.cell? ⟨b, off, none⟩ = some (.int .i64 2) ∧ w'.cell? ⟨b, off + 1, none⟩ = some (.slice a1 r1.length c1) ∧ w'.cell? ⟨b, off + 2, none⟩ = some (.int .i64 0) ∧ w'.cell? ⟨b, off + 3, none⟩ = some (.int .i64 0) ∧ w'.cell? ⟨b, off + 4, none⟩ = some (.bool false) ∧ w'.cell? ⟨b, off + 5, none⟩ = some (.slice d1 n1 m1) ∧ w'.cell? ⟨b, off + 6, none⟩ = some (.int .i64 2) ∧ w'.cell? ⟨b, off + 6 + 1, none⟩ = some (.slice a2 r2.length c2) ∧ w'.cell? ⟨b, off + 6 + 2, none⟩ = some (.int .i64 0) ∧ w'.cell? ⟨b, off + 6 + 3, none⟩ = some (.int .i64 0) ∧ w'.cell? ⟨b, off + 6 + 4, none⟩ = some (.bool false) ∧ w'.cell? ⟨b, off + 6 + 5, none⟩ = some (.slice d2 n2 m2)) (first | (refine HS2.out _ ?_; with_reducible repeat (first | exact But.refl _ _ | refine But.drew ?_ | refine But.trans ?_ hbt5 | refine But.below ?_ hb4)) | fail) (first | (go_at_call 51; refine (HPA.out _ ?_).mono ?_; (with_reducible repeat (first | exact Below.refl _ _ | refine vb_d ?_)); rintro e w4 ⟨p4, q4, s4, rfl, hc4, hb4⟩) | (go_at_call 105; refine (HCL.out _ _ _ _ ?_ hc4).mono ?_; (with_reducible repeat (first | exact Below.refl _ _ | refine vb_d ?_ | refine vb_t ?_ hb4)); rintro e w5 ⟨rfl, hls5, hbt5⟩) | fail)
      all_goals
        have hb5 : But (two lb sb) wr w5 := by with_reducible repeat (first | exact But.refl _ _ | refine But.drew ?_ | refine But.trans ?_ hbt5 | refine But.below ?_ hb4)
        have HB5 := hid_intro hb5
        have HL5 := hid_intro hls5
        have hfc := cell_but HF.out.1 HF.out.2.1 hb5
        clear hb5 hls5 hbt5 hc4 hb4 HPA HCL HS2
        go_wp2_with fail
        go_loopg [40] 1 (fun m s40 wx => (m = 1 ∧ s40 = .int .i64 0 ∧ wx = w5) ∨ (m = 0 ∧ s40 = .int .i64 1 ∧ Hid (LS wx lb sb cap (alt6 L r1 r2) ∧ But (two lb sb) w5 wx)))
        case atStart => exact Or.inl ⟨rfl, rfl, rfl⟩
        case round =>
          rcases hrel with ⟨rfl, rfl, rfl⟩ | ⟨rfl, rfl, HE⟩
          · have hcall := jump1_any lb sb cap p1 q1 (L.length + 2) _ _ HL5.out (HF.out.2.2.but HB5.out) (by rw [List.length_append, alt4_len]; simp)
            go_wp2_with fail
            refine hcall.mono ?_; rintro e w6 ⟨rfl, hls6, hbt6⟩
            have HE := hid_intro (And.intro hls6 hbt6)
            clear hcall hls6 hbt6
            go_wp2_with fail
            go_roundg 0
            case measure => omega
            case rel => exact Or.inr ⟨rfl, rfl, HE⟩
          · go_wp2_with fail
            go_end0
            rw [HP.out]
            exact ⟨rfl, HE.out.1, HBT.out.trans (HB5.out.trans HE.out.2)⟩
end Go.Proofs.YtoinlmfodmgohaaGreatDoor

namespace Go.Proofs.YtoinlmfodmgohaaGreatDoor
open Go.RowKit
attribute [local go_sem] setCell_drewN alloc_drewN

/-- The two blocks of a list, and those that are set apart. -/
def thr (lb sb : Nat) (Z : List Nat) : Nat → Prop := fun b => b = lb ∨ b = sb ∨ b ∈ Z
/-- The list at lb, its states in the block sb. -/
def LZ (w : World) (lb sb cap : Nat) (Z : List Nat) (L : List ST) : Prop :=
  ∃ M : List (ST × Value), M.map Prod.fst = L ∧ w.cell? ⟨lb, 0, none⟩ = some (.slice (some ⟨sb, 0, none⟩) L.length cap) ∧ w.frozen? ⟨lb, 0, none⟩ = false ∧ lb ≠ sb ∧
    w.ownsRow 0 94 4 (.slice (some ⟨sb, 0, none⟩) L.length cap) L.length (flatS M) ∧ (∀ p ∈ M, RI w (thr lb sb Z) p.1.r p.2) ∧ cap ≤ 65536 ∧ ∀ z ∈ Z, z < w.heap.size ∧ z ≠ lb ∧ z ≠ sb
theorem LZ.lt {w : World} {lb sb cap : Nat} {Z : List Nat} {L : List ST} (h : LZ w lb sb cap Z L) : lb < w.heap.size ∧ sb < w.heap.size := by
  obtain ⟨M, _, h1, _, _, h4, _⟩ := h
  exact ⟨World.block_lt_of_cell? w _ h1, (h4.lt sb rfl).2⟩
theorem LZ.ne {w : World} {lb sb cap : Nat} {Z : List Nat} {L : List ST} (h : LZ w lb sb cap Z L) : lb ≠ sb := by
  obtain ⟨M, _, h1, _, h3, h4, _⟩ := h
  exact h3
theorem LZ.len {w : World} {lb sb cap : Nat} {Z : List Nat} {L : List ST} (h : LZ w lb sb cap Z L) : L.length ≤ cap ∧ cap ≤ 65536 := by
  obtain ⟨M, _, h1, _, h3, h4, h5, h6, _⟩ := h
  refine ⟨?_, h6⟩
  rcases h4.2 with ⟨e, _⟩ | ⟨g, c, cur, e, _, _, hc, _⟩
  · cases e
  · injection e with _ _ e; omega
theorem LZ.cell {w : World} {lb sb cap : Nat} {Z : List Nat} {L : List ST} (h : LZ w lb sb cap Z L) : w.cell? ⟨lb, 0, none⟩ = some (.slice (some ⟨sb, 0, none⟩) L.length cap) ∧ w.frozen? ⟨lb, 0, none⟩ = false := by
  obtain ⟨M, _, h1, h2, _⟩ := h
  exact ⟨h1, h2⟩
/-- Nothing but other blocks, or what is set apart, has changed. -/
theorem LZ.carry {w w' : World} {lb sb cap : Nat} {Z : List Nat} {L : List ST} (h : LZ w lb sb cap Z L) {Y : Nat → Prop} (hb : But Y w w') (hY : ∀ b, Y b → b ∈ Z ∨ w.heap.size ≤ b) : LZ w' lb sb cap Z L := by
  have hlt := h.lt
  obtain ⟨M, h0, h1, h2, h3, h4, h5, h6, h7⟩ := h
  have e1 : w'.heap[lb]? = w.heap[lb]? := hb.block lb hlt.1 (fun hy => by rcases hY _ hy with h | h; exact (h7 _ h).2.1 rfl; omega)
  have e2 : w'.heap[sb]? = w.heap[sb]? := hb.block sb hlt.2 (fun hy => by rcases hY _ hy with h | h; exact (h7 _ h).2.2 rfl; omega)
  refine ⟨M, h0, (World.cell?_of_block (w := w) (w' := w') e1).trans h1, ?_, h3, ?_, fun p hp => (h5 p hp).carry (fun b hx hl => ⟨hb.block b hl (fun hy => by rcases hY _ hy with h | h; exact hx (Or.inr (Or.inr h)); omega), hx⟩), h6, fun z hz => ⟨Nat.lt_of_lt_of_le (h7 z hz).1 hb.size, (h7 z hz).2⟩⟩
  · rw [← h2]; simp only [World.frozen?, e1]
  · refine ⟨h4.1, ?_⟩
    rcases h4.2 with h | ⟨g, c, cur, e, hb', hg, hrest⟩
    · exact Or.inl h
    · refine Or.inr ⟨g, c, cur, e, hb', ?_, hrest⟩
      obtain rfl : sb = g := by injection e with e _ _; injection e with e; injection e
      rw [e2]; exact hg
theorem LZ.below {w w' : World} {lb sb cap : Nat} {Z : List Nat} {L : List ST} (h : LZ w lb sb cap Z L) (hb : Below w.heap.size w w') : LZ w' lb sb cap Z L :=
  h.carry (Y := fun _ => False) (But.ofBelow hb) (fun _ hf => hf.elim)
/-- A block more is set apart, if no range lies in it. -/
theorem LZ.apart {w w' : World} {lb sb cap : Nat} {Z : List Nat} {L : List ST} (h : LZ w lb sb cap Z L) (hb : Below w.heap.size w w') (z : Nat) (h1 : w.heap.size ≤ z) (h2 : z < w'.heap.size) : LZ w' lb sb cap (z :: Z) L := by
  have hlt := h.lt
  obtain ⟨M, e0, e1, e2, e3, e4, e5, e6, e7⟩ := h.below hb
  obtain ⟨M', f0, f1, f2, f3, f4, f5, f6, f7⟩ := h
  have hM : ∀ p ∈ M', RI w' (thr lb sb (z :: Z)) p.1.r p.2 := fun p hp => (f5 p hp).carry (fun b hx hl => ⟨hb.block b hl, fun hy => by
    rcases hy with hy | hy | hy
    · exact hx (Or.inl hy)
    · exact hx (Or.inr (Or.inl hy))
    · rcases List.mem_cons.1 hy with hy | hy
      · omega
      · exact hx (Or.inr (Or.inr hy))⟩)
  have ho : w'.ownsRow 0 94 4 (.slice (some ⟨sb, 0, none⟩) L.length cap) L.length (flatS M') := f4.kept (row := none) ⟨hb.os, hb.tape, hb.output, hb.size, fun b hl _ => hb.block b hl⟩ (Or.inr (fun e => by cases e))
  exact ⟨M', f0, e1, e2, e3, ho, hM, e6, fun y hy => by
    rcases List.mem_cons.1 hy with hy | hy
    · subst hy; exact ⟨h2, by omega, by omega⟩
    · exact e7 y hy⟩
theorem LZ.weak {w : World} {lb sb cap : Nat} {Z : List Nat} {z : Nat} {L : List ST} (h : LZ w lb sb cap (z :: Z) L) : LZ w lb sb cap Z L := by
  obtain ⟨M, f0, f1, f2, f3, f4, f5, f6, f7⟩ := h
  exact ⟨M, f0, f1, f2, f3, f4, fun p hp => (f5 p hp).weak (fun b hb => by
    rcases hb with h | h | h
    · exact Or.inl h
    · exact Or.inr (Or.inl h)
    · exact Or.inr (Or.inr (List.mem_cons_of_mem _ h))), f6, fun y hy => f7 y (List.mem_cons_of_mem _ hy)⟩
set_option maxRecDepth 100000 in
theorem nextZ_any (lb sb cap : Nat) (Z : List Nat) (L : List ST) (w : World) (h : LZ w lb sb cap Z L) :
    Calls Tryz.prog 129 #[.pointer (some ⟨lb, 0, none⟩)] w fun r w' => r = .returned (.int .i64 (L.length : Int)) ∧ Below w.heap.size w w' := by
  have hc := h.cell.1
  go_enter Tryz.func129, Tryz.ntmps129
  go_wp2_with fail
  go_ret
  exact ⟨rfl, Below.refl _ _⟩
/-- What the list is once its slice was stored. -/
theorem LZ.put {w w5 w6 : World} {lb sb cap : Nat} {Z : List Nat} {L : List ST} (s : ST) (v : Value) (M : List (ST × Value)) (hM : M.map Prod.fst = L) (h : LZ w lb sb cap Z L) (hR : ∀ p ∈ M, RI w (thr lb sb Z) p.1.r p.2)
    (h5 : Below w.heap.size w w5) (hg : w5.grownBy w6 (some sb)) (ho : w6.ownsRow 0 94 4 (.slice (some ⟨sb, 0, none⟩) (L.length + 1) cap) (L.length + 1) (flatS M ++ [.int .i64 s.k, v, .int .i64 s.a, .int .i64 s.b]))
    (hv : OwnR w5 w.heap.size v s.r ∨ (v = .slice none 0 0 ∧ s.r = [])) :
    LZ (w6.setCell ⟨lb, 0, none⟩ (.slice (some ⟨sb, 0, none⟩) (L.length + 1) cap)) lb sb cap Z (L ++ [s]) ∧ But (two lb sb) w (w6.setCell ⟨lb, 0, none⟩ (.slice (some ⟨sb, 0, none⟩) (L.length + 1) cap)) := by
  have hlt := h.lt
  have hne := h.ne
  have hlen := h.len
  have hc := h.cell
  have hZ : ∀ z ∈ Z, z < w.heap.size ∧ z ≠ lb ∧ z ≠ sb := by obtain ⟨_, _, _, _, _, _, _, _, h7⟩ := h; exact h7
  have hB6 : But (two lb sb) w w6 := (But.ofBelow h5).grown hg (fun b e => by injection e with e; exact Or.inl (Or.inr e.symm))
  have hB : But (two lb sb) w (w6.setCell ⟨lb, 0, none⟩ (.slice (some ⟨sb, 0, none⟩) (L.length + 1) cap)) := hB6.set (Or.inl (Or.inl rfl)) _
  refine ⟨?_, hB⟩
  have e6 : w6.heap[lb]? = w.heap[lb]? := (hg.block lb (Nat.lt_of_lt_of_le hlt.1 h5.size) (fun e => hne (by injection e))).trans (h5.block lb hlt.1)
  have hc6 : w6.cell? ⟨lb, 0, none⟩ = some (.slice (some ⟨sb, 0, none⟩) L.length cap) := (World.cell?_of_block (w := w) (w' := w6) e6).trans hc.1
  have hkeep : ∀ b, ¬ thr lb sb Z b → b < w5.heap.size → (w6.setCell ⟨lb, 0, none⟩ (.slice (some ⟨sb, 0, none⟩) (L.length + 1) cap)).heap[b]? = w5.heap[b]? := fun b hx hl =>
    (Below.heap_setCell w6 ⟨lb, 0, none⟩ _ b (fun e => hx (Or.inl e))).trans (hg.block b hl (fun e => hx (Or.inr (Or.inl (by injection e)))))
  refine ⟨M ++ [(s, v)], by rw [List.map_append, hM]; rfl, ?_, ?_, hne, ?_, fun p hp => ?_, hlen.2, fun z hz => ⟨Nat.lt_of_lt_of_le (hZ z hz).1 hB.size, (hZ z hz).2⟩⟩
  · rw [World.cell?_setCell_same _ _ _ hc6, List.length_append]; rfl
  · rw [World.frozen?_setCell]
    rw [← hc.2]; simp only [World.frozen?, e6]
  · rw [List.length_append, flatS_append, flatS_one]
    refine ⟨ho.1, ?_⟩
    rcases ho.2 with ⟨h, _⟩ | ⟨g, c, cur, e, hb', hg', hrest⟩
    · exact Or.inl ⟨h, by injection h⟩
    · refine Or.inr ⟨g, c, cur, e, hb', ?_, hrest⟩
      obtain rfl : sb = g := by injection e with e _ _; injection e with e; injection e
      rw [Below.heap_setCell w6 ⟨lb, 0, none⟩ _ sb (fun e => hne e.symm)]
      exact hg'
  · rcases List.mem_append.1 hp with hp | hp
    · exact (hR p hp).carry (fun b hx hl => ⟨(hkeep b hx (Nat.lt_of_lt_of_le hl h5.size)).trans (h5.block b hl), hx⟩)
    · obtain rfl : p = (s, v) := by simpa using hp
      rcases hv with hv | ⟨hv, hr⟩
      · have : RI w5 (thr lb sb Z) s.r v := hv.ri _ (fun b hb h => by rcases h with h | h | h; omega; omega; have := (hZ b h).1; omega)
        exact this.carry (fun b hx hl => ⟨hkeep b hx hl, hx⟩)
      · show RI _ _ s.r v
        rw [hv, hr]; exact RI.nil _ _
set_option maxRecDepth 100000 in
set_option maxHeartbeats 3200000 in
theorem putZ_any (lb sb cap : Nat) (Z : List Nat) (L : List ST) (k : Int) (r : List (Int × Int)) (rv : Value) (w : World) (h : LZ w lb sb cap Z L) (hroom : L.length + 1 ≤ cap) (X : Nat → Prop) (hR : RI w X r rv) (hl : r.length ≤ 1099511627776) :
    Calls Tryz.prog 106 #[.pointer (some ⟨lb, 0, none⟩), .int .i64 k, rv] w fun e w' => e = .returned (.tuple #[]) ∧ LZ w' lb sb cap Z (L ++ [⟨k, r, (L.length : Int) + 1, 0⟩]) ∧ But (two lb sb) w w' := by
  have hlen := h.len
  have hc := h.cell
  have hlt := h.lt
  have hne := h.ne
  have hLI : (L.length : Int) + 1 ≤ 65536 := by omega
  obtain ⟨M, hM, hx1, hx2, hx3, hown, hRs, hx4, hx5⟩ := h
  have h : LZ w lb sb cap Z L := ⟨M, hM, hc.1, hc.2, hne, hown, hRs, hlen.2, hx5⟩
  clear hx1 hx2 hx3 hx4 hx5
  obtain ⟨P, hP⟩ : ∃ P : Ending → World → Prop, P = fun e w' => e = .returned (.tuple #[]) ∧ LZ w' lb sb cap Z (L ++ [⟨k, r, (L.length : Int) + 1, 0⟩]) ∧ But (two lb sb) w w' := ⟨_, rfl⟩
  rw [← hP]
  have HP := hid_intro hP
  clear hP
  have HCL : Hid (∀ w', Below w.heap.size w w' → Calls Tryz.prog 128 #[rv] w' fun e w2 => ∃ v', e = .returned v' ∧ OwnR w2 w'.heap.size v' r ∧ Below w'.heap.size w' w2) := hid_intro (fun w' hb => clone_any r rv X w' (hR.kept hb) hl)
  have HNX : Hid (∀ w', Below w.heap.size w w' → Calls Tryz.prog 129 #[.pointer (some ⟨lb, 0, none⟩)] w' fun e w2 => e = .returned (.int .i64 (L.length : Int)) ∧ Below w'.heap.size w' w2) := hid_intro (fun w' hb => nextZ_any lb sb cap Z L w' (h.below hb))
  have HS : Hid (∀ w', But (fun b => b = sb) w w' → w'.cell? ⟨lb, 0, none⟩ = some (.slice (some ⟨sb, 0, none⟩) L.length cap) ∧ w'.frozen? ⟨lb, 0, none⟩ = false) := hid_intro (fun w' hb => by
    have e := hb.block lb hlt.1 hne
    exact ⟨(World.cell?_of_block (w := w) (w' := w') e).trans hc.1, by rw [← hc.2]; simp only [World.frozen?, e]⟩)
  have HO : Hid (∀ w', Below w.heap.size w w' → w'.ownsRow 0 94 4 (.slice (some ⟨sb, 0, none⟩) L.length cap) L.length (flatS M)) := hid_intro (fun w' hb => hown.kept (row := none) ⟨hb.os, hb.tape, hb.output, hb.size, fun b hl _ => hb.block b hl⟩ (Or.inr (fun e => by cases e)))
  have HH := hid_intro h
  have HRM := hid_intro (And.intro hM hRs)
  have hone : Value.oneCell' (.int .i64 k) = true := rfl
  have hwr : IntKind.i64.wrap ((L.length : Int) + 1) = (L.length : Int) + 1 := by simp [IntKind.wrap, IntKind.bits, IntKind.signed]; omega
  have HRO := hid_intro hroom
  clear h hown hRs hR hM hc hl hlen hlt hne hroom hLI hone
  go_enter Tryz.func106, Tryz.ntmps106
  go_wp2_with fail
  obtain ⟨l0, z0⟩ := HS.out w (But.refl _ _)
  go_region_law (first | (go_simp; go_at_call 128; refine (HCL.out _ ?_).mono ?_; (with_reducible repeat (first | exact Below.refl _ _ | refine vb_d ?_ | refine vb_a ?_ _ | refine vb_t ?_ hb4 | refine vb_t ?_ hb3)); rintro e w3 ⟨v3, rfl, ho3, hb3⟩; obtain ⟨ao3, c3, rfl⟩ := ho3.shape; obtain ⟨l3, z3⟩ := HS.out w3 (But.ofBelow (by with_reducible repeat (first | exact Below.refl _ _ | refine vb_d ?_ | refine vb_a ?_ _ | refine vb_t ?_ hb4 | refine vb_t ?_ hb3)))) | (go_simp; go_at_call 129; refine (HNX.out _ ?_).mono ?_; (with_reducible repeat (first | exact Below.refl _ _ | refine vb_d ?_ | refine vb_a ?_ _ | refine vb_t ?_ hb4 | refine vb_t ?_ hb3)); rintro e w4 ⟨rfl, hb4⟩; obtain ⟨l4, z4⟩ := HS.out w4 (But.ofBelow (by with_reducible repeat (first | exact Below.refl _ _ | refine vb_d ?_ | refine vb_a ?_ _ | refine vb_t ?_ hb4 | refine vb_t ?_ hb3))); have l5 : ∀ o, (w4.alloc o).cell? ⟨lb, 0, none⟩ = some (.slice (some ⟨sb, 0, none⟩) L.length cap) := fun o => (HS.out _ (But.alloc (But.ofBelow (by with_reducible repeat (first | exact Below.refl _ _ | refine vb_d ?_ | refine vb_a ?_ _ | refine vb_t ?_ hb4 | refine vb_t ?_ hb3))) o)).1) | (refine step_append_st (by rfl) _ _ (by rfl) sb L.length cap (flatS M) (by rfl) w4.heap.size (.int .i64 k) (.slice ao3 r.length c3) (.int .i64 ((L.length : Int) + 1)) (.int .i64 0) (by rfl) HRO.out ⟨rfl, rfl, rfl, rfl⟩ ?_ ?_ ?_; (with_reducible repeat (first | exact Bk.new _ _ _ | refine Bk.dw ?_)); (refine HO.out _ ?_; with_reducible repeat (first | exact Below.refl _ _ | refine vb_d ?_ | refine vb_a ?_ _ | refine vb_t ?_ hb4 | refine vb_t ?_ hb3)); intro w6 ho6 hg6; have hB6 : But (fun b => b = sb) w w6 := But.grown (But.ofBelow (by with_reducible repeat (first | exact Below.refl _ _ | refine vb_d ?_ | refine vb_a ?_ _ | refine vb_t ?_ hb4 | refine vb_t ?_ hb3))) hg6 (fun b e => by injection e with e; exact Or.inl e.symm); obtain ⟨l6, z6⟩ := HS.out w6 hB6) | fail)
  all_goals
    go_end0
    rw [HP.out]
    exact ⟨rfl, LZ.put ⟨k, r, (L.length : Int) + 1, 0⟩ _ M HRM.out.1 HH.out HRM.out.2 (by with_reducible repeat (first | exact Below.refl _ _ | refine vb_d ?_ | refine vb_a ?_ _ | refine vb_t ?_ hb4 | refine vb_t ?_ hb3)) hg6 ho6 (Or.inl (OwnR.below (w := w3) ho3 (by with_reducible repeat (first | exact Below.refl _ _ | refine vb_d ?_ | refine vb_a ?_ _ | refine vb_t ?_ hb4))))⟩
end Go.Proofs.YtoinlmfodmgohaaGreatDoor
