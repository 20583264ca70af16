/-
  pointsOf; rx.parsed with its deferred closure; rx.Parse. Conditions: the table of greatest code points holds its four numbers.
-/
import Derived.Test.YthbbkcdlcpbepaaGreatDoorJoined39
import Derived.Lib.ConvBytes
import Derived.Defers
import Derived.Recover
namespace Go.Proofs.YthbbkcdlcpbepaaGreatDoor
open Go.RowKit
attribute [local go_sem] setCell_drewN alloc_drewN

theorem bl_bytes (w : World) (s : ByteArray) : Below w.heap.size w (Lib.bytesWorld w 5 s) :=
  ⟨rfl, rfl, rfl, by rw [Lib.bytesWorld_size]; omega, fun k hk => Lib.bytesWorld_at_old w _ s k hk⟩
theorem byt_str (w : World) (s : ByteArray) (hs : s.size ≤ maxLen) : Byt (Lib.bytesWorld w 5 s) (.slice (some ⟨w.heap.size, 0, none⟩) s.size (grownCap w s.size 0 5)) s.data.toList := by
  unfold Byt
  have e : s.data.toList.length = s.size := Array.length_toList
  rw [e]
  refine .inr ⟨w.heap.size, 0, _, rfl, grownCap_ge _ _ _ _, grownCap_le_maxLen w s.size 0 _ hs, ⟨fun i hi => ?_, bx_lo _, bx_hi _⟩⟩
  rw [Nat.zero_add, Lib.bytesWorld_cell w _ s i hi]
  simp [bx, List.getD_eq_getElem?_getD]
theorem conv_str (w : World) (s : ByteArray) : (convert 9 44 (.string s)).run Tryz.prog w = .ok (.slice (some ⟨w.heap.size, 0, none⟩) s.size (grownCap w s.size 0 5)) (Lib.bytesWorld w 5 s) :=
  Lib.run_convert_string_bytes w _ _ _ s Tryz.underlying9 Tryz.underlying44 Tryz.underlying5
theorem pointsF_len (len : Nat) (f : Nat → Int) : ∀ k p, (pointsF len f k p).length ≤ k
  | 0, _ => by simp [pointsF]
  | k + 1, p => by
    unfold pointsF
    split
    · simp
    · have := pointsF_len len f k (p + (stepF (len - p) fun i => f (p + i)).1)
      simp only [List.length_cons]; omega
theorem pointsF_bd (len : Nat) (f : Nat → Int) (lo : ∀ i, 0 ≤ f i) : ∀ k p, (goodF len f k p).2 = true → ∀ c ∈ pointsF len f k p, 0 ≤ c ∧ c ≤ 1114111
  | 0, _, _ => by simp [pointsF]
  | k + 1, p, hg => by
    unfold pointsF
    unfold goodF at hg
    split
    · intro c hc; simp at hc
    · rename_i hlt
      rw [if_neg hlt] at hg
      by_cases e2 : (stepF (len - p) fun i => f (p + i)).2 = true
      · rw [if_pos e2] at hg
        intro c hc
        rcases List.mem_cons.1 hc with rfl | hc
        · exact ptF_bd (len - p) (fun i => f (p + i)) _ (fun i => lo _) (Prod.ext rfl e2)
        · exact pointsF_bd len f lo k _ hg c hc
      · rw [if_neg e2] at hg; simp at hg
/-- A text's code points. -/
def ptsS (s : ByteArray) : List Int := points s.data.toList.length (bx s.data.toList)
def goodS (s : ByteArray) : Bool := (good s.data.toList.length (bx s.data.toList)).2
def okS (s : ByteArray) : Bool := decide (s.size ≤ 4096) && goodS s
theorem ptsS_len (s : ByteArray) : (ptsS s).length ≤ s.size := by
  have := pointsF_len s.data.toList.length (bx s.data.toList) s.data.toList.length 0
  have e : s.data.toList.length = s.size := Array.length_toList
  unfold ptsS points; omega
theorem ptsS_bd (s : ByteArray) (h : goodS s = true) : ∀ c ∈ ptsS s, 0 ≤ c ∧ c ≤ 1114111 := pointsF_bd _ _ (bx_lo _) _ _ h
/-- What a text is read as. -/
def parseS (s : ByteArray) : Option RX := if okS s = true then parseL (ptsS s) else none

set_option maxRecDepth 100000 in
set_option maxHeartbeats 1600000 in
theorem pointsOf_ok (s : ByteArray) (w : World) (hT : Tab w) (h : okS s = true) :
    Calls Tryz.prog 24 #[.string s] w fun r w' => ∃ v, r = .returned v ∧ w'.ownsRow w.heap.size 3 1 v (ptsS s).length ((ptsS s).map (Value.int .i64)) ∧ Below w.heap.size w w' := by
  simp only [okS, Bool.and_eq_true, decide_eq_true_eq] at h
  obtain ⟨h1, h2⟩ := h
  have hz : ¬ (4096 : Int) < (s.size : Int) := by omega
  have hcv : ∀ w', (convert 9 44 (.string s)).run Tryz.prog w' = _ := fun w' => conv_str w' s
  have hsl : s.data.toList.length ≤ 17592186044416 := by have e : s.data.toList.length = s.size := Array.length_toList
                                                         omega
  have hp := points_some _ _ _ (Lib.bytesWorld w 5 s) (hT.below (bl_bytes w s)) (byt_str w s (by unfold maxLen; omega)) (bx_lo _) (bx_hi _) hsl h2
  have hbb := bl_bytes w s
  have HB := hid_intro hbb
  clear h1 h2 hT hsl hbb
  go_enter Tryz.func24, Tryz.ntmps24
  go_wp2_with fail
  refine hp.mono ?_; rintro r w1 ⟨v, rfl, ho, hb1⟩
  go_wp2_with fail
  go_ret
  exact ⟨v, rfl, own_mono ho HB.out.size, vb_t HB.out hb1⟩

set_option maxRecDepth 100000 in
set_option maxHeartbeats 1600000 in
theorem pointsOf_no (s : ByteArray) (w : World) (hT : Tab w) (hs : s.size ≤ 1099511627776) (h : okS s = false) :
    Calls Tryz.prog 24 #[.string s] w fun r w' => r = stopX ∧ Below w.heap.size w w' := by
  by_cases h1 : s.size ≤ 4096
  · have h2 : goodS s = false := by simpa [okS, h1] using h
    have hz : ¬ (4096 : Int) < (s.size : Int) := by omega
    have hcv : ∀ w', (convert 9 44 (.string s)).run Tryz.prog w' = _ := fun w' => conv_str w' s
    have hp := points_none _ _ _ (Lib.bytesWorld w 5 s) (hT.below (bl_bytes w s)) (byt_str w s (by unfold maxLen; omega)) h2
    have HB := hid_intro (bl_bytes w s)
    clear h1 h2 hT h hs
    go_enter Tryz.func24, Tryz.ntmps24
    go_wp2_with fail
    refine hp.mono ?_; rintro r w1 ⟨rfl, q, rfl⟩
    go_wp2_with fail
    exact ⟨rfl, rfl, vb_n HB.out q⟩
  · have hz : (4096 : Int) < (s.size : Int) := by omega
    clear h hT
    go_enter Tryz.func24, Tryz.ntmps24
    go_wp2_with fail
    exact ⟨rfl, rfl, Below.refl _ _⟩

/-- A reader of its own. -/
theorem RD.new {w w1 : World} {v : Value} {l : List Int} (ho : w1.ownsRow w.heap.size 3 1 v l.length (l.map (Value.int .i64))) (hl : l.length ≤ 4096) (hb : ∀ c ∈ l, 0 ≤ c ∧ c ≤ 1114111) :
    RD (w1.alloc (.cells #[v, .int .i64 0, .int .i64 0] 61)) w1.heap.size l 0 := by
  have k := Bk.new w1 #[v, .int .i64 0, .int .i64 0] 61
  rcases ho.2 with ⟨rfl, hn⟩ | ⟨g, cap, cur, rfl, hB, hg, hc, hm, hs, ht⟩
  · have : l = [] := List.eq_nil_of_length_eq_zero hn
    subst this
    exact ⟨none, 0, 0, 0, k.cell 0, k.cell 1, k.cell 2, fun o => k.frz o, rfl, Nat.le_refl _, by omega, hb, ⟨by omega, by omega⟩, Or.inl rfl⟩
  · refine ⟨some ⟨g, 0, none⟩, l.length, cap, 0, k.cell 0, k.cell 1, k.cell 2, fun o => k.frz o, by omega, hc, hl, hb, ⟨by omega, by omega⟩, Or.inr ⟨g, 0, rfl, (ho.lt g rfl).2, fun i hi => ?_⟩⟩
    have hgl := (ho.lt g rfl).2
    rw [(vb_a (Below.refl _ _) _ : Below w1.heap.size w1 (w1.alloc _)).cell (p := ⟨g, 0 + (0 + i), none⟩) hgl]
    rw [Nat.zero_add, Nat.zero_add, ho.cellAt i (by omega)]
    simp only [List.getElem?_map, List.getElem?_eq_getElem hi, Option.map_some, pk, List.getD_eq_getElem?_getD, Option.getD_some]

theorem assert_errno (n : Int) (w : World) : (Instr.typeAssert (.iface 27 (.int .i64 n)) 20 27 false).run Tryz.prog w = .ok (.int .i64 n) w := by
  simp [Instr.typeAssert, run_underlying Tryz.underlying27, go_sem, Result.andThen]
set_option maxRecDepth 100000 in
set_option maxHeartbeats 1600000 in
theorem catch_panicking (pb eb : Nat) (hpe : pb ≠ eb) (n : Int) (older : List PanicEntry) (w : World) (x0 x1 x2 x3 x4 x5 : Value) (hk : Bk w pb #[x0, x1, x2, x3, x4, x5]) (y : Value) (he : Bk w eb #[y]) :
    CallsD Tryz.prog 23 #[.pointer (some ⟨pb, 0, none⟩), .pointer (some ⟨eb, 0, none⟩)] (.panicking ({ v := .iface 27 (.int .i64 n), recovered := false } :: older)) w fun e u' w' =>
      e = .returned (.tuple #[]) ∧ u' = .panicking ({ v := .iface 27 (.int .i64 n), recovered := true } :: older) ∧ Bk w' pb zX ∧ Bk w' eb #[.int .i64 n] ∧ But (fun b => b = pb ∨ b = eb) w w' := by
  refine callsD_of_wpS Tryz.func23 rfl fun c₀ cs hu => ?_
  obtain ⟨c0, c1, c2, c3, c4, c5⟩ := hk.c6
  have d0 : w.cell? ⟨eb, 0, none⟩ = some y := he.cell 0
  obtain ⟨z0, z1, z2, z3, z4, z5⟩ := hk.z6
  have y0 := he.frz 0
  apply wpS_seq
  apply wpS_region
  simp [wpOpsS, go_sem, recoverD, hu, Tryz.ntmps23, Exit.thenS]
  apply wpS_seq
  apply wpS_region
  simp [wpOpsS, go_sem, Exit.thenS]
  refine wpS_cond (t := true) (by simp [Act.eval, Array.replicate]) ?_
  simp only [if_true]
  refine wpS_of_wp ?_
  have e : (#[Value.pointer (some ⟨pb, 0, none⟩), .pointer (some ⟨eb, 0, none⟩)] ++ ((((Array.replicate 7 undef).setIfInBounds 1 (.iface 27 (.int .i64 n))).setIfInBounds 0 (.iface 27 (.int .i64 n))).setIfInBounds 2 (.iface 27 (.int .i64 n))).setIfInBounds 3 (.bool true)) = #[Value.pointer (some ⟨pb, 0, none⟩), .pointer (some ⟨eb, 0, none⟩), .iface 27 (.int .i64 n), .iface 27 (.int .i64 n), .iface 27 (.int .i64 n), .bool true, undef, undef, undef] := rfl
  rw [e]
  clear e
  have hpe2 := hpe.symm
  have hta := fun w => assert_errno n w
  go_region
  all_goals
    have k1 : Bk (w.setCell ⟨pb, 0, none⟩ (.int .i64 0)) pb _ := hk.set 0 _ rfl
    have k2 := k1.set 1 (.slice none 0 0) rfl
    have k3 := k2.set 2 (.int .i64 0) rfl
    have k4 := k3.set 3 (.int .i64 0) rfl
    have k5 := k4.set 4 (.bool false) rfl
    have k6 := k5.set 5 (.slice none 0 0) rfl
    have k7 := (k6.away (a := ⟨eb, 0, none⟩) (v := .int .i64 n) hpe).dw
    have m1 := (((((((he.away (a := ⟨pb, 0, none⟩) (v := .int .i64 0) hpe2).away (a := ⟨pb, 1, none⟩) (v := .slice none 0 0) hpe2).away (a := ⟨pb, 2, none⟩) (v := .int .i64 0) hpe2).away (a := ⟨pb, 3, none⟩) (v := .int .i64 0) hpe2).away (a := ⟨pb, 4, none⟩) (v := .bool false) hpe2).away (a := ⟨pb, 5, none⟩) (v := .slice none 0 0) hpe2).set 0 (.int .i64 n) rfl).dw
    have hbt : But (fun b => b = pb ∨ b = eb) w _ := ((((((((But.refl _ w).set (p := ⟨pb, 0, none⟩) (Or.inl (Or.inl rfl)) (.int .i64 0)).set (p := ⟨pb, 1, none⟩) (Or.inl (Or.inl rfl)) (.slice none 0 0)).set (p := ⟨pb, 2, none⟩) (Or.inl (Or.inl rfl)) (.int .i64 0)).set (p := ⟨pb, 3, none⟩) (Or.inl (Or.inl rfl)) (.int .i64 0)).set (p := ⟨pb, 4, none⟩) (Or.inl (Or.inl rfl)) (.bool false)).set (p := ⟨pb, 5, none⟩) (Or.inl (Or.inl rfl)) (.slice none 0 0)).set (p := ⟨eb, 0, none⟩) (Or.inl (Or.inr rfl)) (.int .i64 n)).drew
    clear c0 c1 c2 c3 c4 c5 d0 z0 z1 z2 z3 z4 z5 y0 hta k1 k2 k3 k4 k5 k6 hk he
    refine ⟨rfl, _, rfl, .tuple #[], ?_, rfl, rfl, k7, m1, hbt⟩
    simp [results, Tryz.results23, go_sem]
theorem catch_idle (pb eb : Nat) (w : World) :
    CallsD Tryz.prog 23 #[.pointer (some ⟨pb, 0, none⟩), .pointer (some ⟨eb, 0, none⟩)] .returning w fun e u' w' => e = .returned (.tuple #[]) ∧ u' = .returning ∧ w' = w := by
  refine callsD_of_wpS Tryz.func23 rfl fun c₀ cs hu => ?_
  apply wpS_seq
  apply wpS_region
  simp [wpOpsS, go_sem, recoverD, hu, Tryz.ntmps23, Exit.thenS]
  apply wpS_seq
  apply wpS_region
  simp [wpOpsS, go_sem, Exit.thenS]
  refine wpS_cond (t := false) (by simp [Act.eval, Array.replicate]) ?_
  simp only [Bool.false_eq_true, if_false]
  refine wpS_of_wp (wp_skip ?_)
  cases c₀
  simp_all [bodyPostS, results, Tryz.results23]
end Go.Proofs.YthbbkcdlcpbepaaGreatDoor
