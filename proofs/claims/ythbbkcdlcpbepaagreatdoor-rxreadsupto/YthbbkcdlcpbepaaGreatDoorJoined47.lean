/-
  The reference's Parse, and RxReads' walk. Conditions: at most 2^40 bytes; the table of greatest code points holds its four numbers.
-/
import Derived.Test.YthbbkcdlcpbepaaGreatDoorJoined40
import Derived.Test.YthbbkcdlcpbepaaGreatDoorJoined42
import Derived.Test.YthbbkcdlcpbepaaGreatDoorJoined46
namespace Go.Proofs.YthbbkcdlcpbepaaGreatDoor
open Go.RowKit
attribute [local go_sem] setCell_drewN alloc_drewN

theorem rpoints_any (v : Value) (len : Nat) (f : Nat → Int) (w : World) (hR : Row w v len f) (hs : len ≤ 17592186044416) (hg : (good len f).2 = true) :
    Calls Tryz.prog 16 #[v] w fun e w' => ∃ r, e = .returned (.tuple #[r, .int .i64 0]) ∧ w'.ownsRow w.heap.size 3 1 r (points len f).length ((points len f).map (Value.int .i64)) ∧ Below w.heap.size w w' := by
  have hR0 := hR
  rcases hR with ⟨rfl, ad, cap, rfl, _⟩ | ⟨b, off, cap, rfl, hc, hm, hL⟩
  · refine (rpoints_empty ad cap f w hR0).mono ?_
    rintro e w' ⟨rfl, rfl⟩
    exact ⟨_, rfl, World.ownsRow_nil _ _ _ _, Below.refl _ _⟩
  · exact rpoints_some b off len cap f w hL hc hm hs hg
/-- A reader of its own. -/
theorem RP.new {w w1 : World} {v : Value} {l : List Int} (ho : w1.ownsRow w.heap.size 3 1 v l.length (l.map (Value.int .i64))) (hl : l.length ≤ 4096) (hb : ∀ c ∈ l, 0 ≤ c ∧ c ≤ 1114111) :
    RP (w1.alloc (.cells #[v, .int .i64 0, .int .i64 0, .bool false] 47)) w1.heap.size l 0 0 false := by
  have k := Bk.new w1 #[v, .int .i64 0, .int .i64 0, .bool false] 47
  rcases ho.2 with ⟨rfl, hn⟩ | ⟨g, cap, cur, rfl, hB, hg, hc, hm, hs, ht⟩
  · have : l = [] := List.eq_nil_of_length_eq_zero hn
    subst this
    exact ⟨none, 0, k.cell 0, k.cell 1, k.cell 2, k.cell 3, fun o => k.frz o, Nat.le_refl _, by simp, by simp, hb, ⟨by omega, by omega⟩, Or.inl rfl⟩
  · refine ⟨some ⟨g, 0, none⟩, cap, k.cell 0, k.cell 1, k.cell 2, k.cell 3, fun o => k.frz o, hc, hl, Nat.zero_le _, hb, ⟨by omega, by omega⟩, Or.inr ⟨g, 0, rfl, (ho.lt g rfl).2, fun i hi => ?_⟩⟩
    have hgl := (ho.lt g rfl).2
    rw [(vb_a (Below.refl _ _) _ : Below w1.heap.size w1 (w1.alloc _)).cell (p := ⟨g, 0 + i, none⟩) hgl]
    rw [Nat.zero_add, ho.cellAt i (by omega)]
    simp only [List.getElem?_map, List.getElem?_eq_getElem hi, Option.map_some, pk, List.getD_eq_getElem?_getD, Option.getD_some]

set_option maxRecDepth 100000 in
set_option maxHeartbeats 3200000 in
theorem rparse_bad (s : ByteArray) (w : World) (hs : s.size ≤ 1099511627776) (hg : goodS s = false) :
    Calls Tryz.prog 7 #[.string s] w (ParsR (parseS s) w) := by
  obtain ⟨P, hP⟩ : ∃ P, P = ParsR (parseS s) w := ⟨_, rfl⟩
  rw [← hP]
  have HP := hid_intro hP
  have hcv : ∀ w', (convert 9 44 (.string s)).run Tryz.prog w' = _ := fun w' => conv_str w' s
  obtain ⟨W, hW⟩ : ∃ W, w.alloc (.cells #[.int .i64 0, .slice none 0 0, .int .i64 0, .int .i64 0, .bool false, .slice none 0 0] 26) = W := ⟨_, rfl⟩
  have HK0 : Hid (Bk (Lib.bytesWorld W 5 s) w.heap.size #[.int .i64 0, .slice none 0 0, .int .i64 0, .int .i64 0, .bool false, .slice none 0 0]) := hid_intro ((hW ▸ Bk.new _ _ _ : Bk W w.heap.size _).bel (bl_bytes W s))
  have HBW : Hid (Below w.heap.size w (Lib.bytesWorld W 5 s)) := hid_intro (vb_t (hW ▸ vb_a (Below.refl _ _) _) (bl_bytes W s))
  have hbt := byt_str W s (by unfold maxLen; omega)
  have hsl : s.data.toList.length ≤ 17592186044416 := by
    have e : s.data.toList.length = s.size := Array.length_toList
    omega
  have HM0 : Hid (w.heap.size + 1 ≤ (Lib.bytesWorld W 5 s).heap.size) := hid_intro (Nat.le_trans (show w.heap.size + 1 ≤ W.heap.size by rw [← hW]; simp) (bl_bytes W s).size)
  have hp := rpoints_none _ _ _ (Lib.bytesWorld W 5 s) hbt hg
  have HE : Hid (parseS s = none) := hid_intro (by unfold parseS okS; rw [hg]; simp)
  clear hg
  clear hP hbt hsl
  go_enter Tryz.func7, Tryz.ntmps7
  go_wp2_with fail
  refine hp.mono ?_; rintro r w1 ⟨rfl, rfl⟩
  generalize Lib.bytesWorld W 5 s = w1 at *
  obtain ⟨c0, c1, c2, c3, c4, c5⟩ := HK0.out.c6
  obtain ⟨z0, z1, z2, z3, z4, z5⟩ := HK0.out.z6
  go_wp2_with fail
  refine bodyPost_ret (v := .tuple #[.agg zX, .int .i64 90]) (by simp [results, Tryz.results7, go_sem, c0, c1, c2, c3, c4, c5]) rfl ?_
  rw [HP.out, HE.out]
  refine ⟨?_, rfl⟩
  with_reducible repeat (first | exact HBW.out | refine vb_s ?_ (Nat.le_refl _) _)

set_option maxRecDepth 100000 in
set_option maxHeartbeats 3200000 in
theorem rparse_long (s : ByteArray) (w : World) (hs : s.size ≤ 1099511627776) (hg : goodS s = true) (hl : ¬ s.size ≤ 4096) :
    Calls Tryz.prog 7 #[.string s] w (ParsR (parseS s) w) := by
  obtain ⟨P, hP⟩ : ∃ P, P = ParsR (parseS s) w := ⟨_, rfl⟩
  rw [← hP]
  have HP := hid_intro hP
  have hcv : ∀ w', (convert 9 44 (.string s)).run Tryz.prog w' = _ := fun w' => conv_str w' s
  obtain ⟨W, hW⟩ : ∃ W, w.alloc (.cells #[.int .i64 0, .slice none 0 0, .int .i64 0, .int .i64 0, .bool false, .slice none 0 0] 26) = W := ⟨_, rfl⟩
  have HK0 : Hid (Bk (Lib.bytesWorld W 5 s) w.heap.size #[.int .i64 0, .slice none 0 0, .int .i64 0, .int .i64 0, .bool false, .slice none 0 0]) := hid_intro ((hW ▸ Bk.new _ _ _ : Bk W w.heap.size _).bel (bl_bytes W s))
  have HBW : Hid (Below w.heap.size w (Lib.bytesWorld W 5 s)) := hid_intro (vb_t (hW ▸ vb_a (Below.refl _ _) _) (bl_bytes W s))
  have hbt := byt_str W s (by unfold maxLen; omega)
  have hsl : s.data.toList.length ≤ 17592186044416 := by
    have e : s.data.toList.length = s.size := Array.length_toList
    omega
  have HM0 : Hid (w.heap.size + 1 ≤ (Lib.bytesWorld W 5 s).heap.size) := hid_intro (Nat.le_trans (show w.heap.size + 1 ≤ W.heap.size by rw [← hW]; simp) (bl_bytes W s).size)
  have hp := rpoints_any _ _ _ (Lib.bytesWorld W 5 s) hbt hsl hg
  have HE : Hid (parseS s = none) := hid_intro (by unfold parseS okS; rw [decide_eq_false hl]; simp)
  have hz : (4096 : Int) < (s.size : Int) := by omega
  clear hg hl
  clear hP hbt hsl
  go_enter Tryz.func7, Tryz.ntmps7
  go_wp2_with fail
  refine hp.mono ?_; rintro r w1 ⟨v1, rfl, _, hb1⟩
  have HK1 := hid_intro (HK0.out.bel hb1)
  have HB1 := hid_intro (vb_t HBW.out hb1)
  clear hb1
  obtain ⟨c0, c1, c2, c3, c4, c5⟩ := HK1.out.c6
  obtain ⟨z0, z1, z2, z3, z4, z5⟩ := HK1.out.z6
  go_wp2_with fail
  refine bodyPost_ret (v := .tuple #[.agg zX, .int .i64 90]) (by simp [results, Tryz.results7, go_sem, c0, c1, c2, c3, c4, c5]) rfl ?_
  rw [HP.out, HE.out]
  refine ⟨?_, rfl⟩
  with_reducible repeat (first | exact HB1.out | refine vb_s ?_ (Nat.le_refl _) _)

set_option maxRecDepth 100000 in
set_option maxHeartbeats 3200000 in
theorem rparse_ok (s : ByteArray) (w : World) (hs : s.size ≤ 1099511627776) (hg : goodS s = true) (hl : s.size ≤ 4096) :
    Calls Tryz.prog 7 #[.string s] w (ParsR (parseS s) w) := by
  obtain ⟨P, hP⟩ : ∃ P, P = ParsR (parseS s) w := ⟨_, rfl⟩
  rw [← hP]
  have HP := hid_intro hP
  have hcv : ∀ w', (convert 9 44 (.string s)).run Tryz.prog w' = _ := fun w' => conv_str w' s
  obtain ⟨W, hW⟩ : ∃ W, w.alloc (.cells #[.int .i64 0, .slice none 0 0, .int .i64 0, .int .i64 0, .bool false, .slice none 0 0] 26) = W := ⟨_, rfl⟩
  have HK0 : Hid (Bk (Lib.bytesWorld W 5 s) w.heap.size #[.int .i64 0, .slice none 0 0, .int .i64 0, .int .i64 0, .bool false, .slice none 0 0]) := hid_intro ((hW ▸ Bk.new _ _ _ : Bk W w.heap.size _).bel (bl_bytes W s))
  have HBW : Hid (Below w.heap.size w (Lib.bytesWorld W 5 s)) := hid_intro (vb_t (hW ▸ vb_a (Below.refl _ _) _) (bl_bytes W s))
  have hbt := byt_str W s (by unfold maxLen; omega)
  have hsl : s.data.toList.length ≤ 17592186044416 := by
    have e : s.data.toList.length = s.size := Array.length_toList
    omega
  have HM0 : Hid (w.heap.size + 1 ≤ (Lib.bytesWorld W 5 s).heap.size) := hid_intro (Nat.le_trans (show w.heap.size + 1 ≤ W.heap.size by rw [← hW]; simp) (bl_bytes W s).size)
  have hp := rpoints_any _ _ _ (Lib.bytesWorld W 5 s) hbt hsl hg
  have hz : ¬ (4096 : Int) < (s.size : Int) := by omega
  obtain ⟨S, hS⟩ : ∃ S, ptsS s = S := ⟨_, rfl⟩
  have HE0 : Hid (parseS s = match patL 200 S with | some (x, []) => some x | _ => none) := hid_intro (by unfold parseS okS; rw [decide_eq_true hl, hg, hS]; rfl)
  have HSL : Hid (S.length ≤ 4096) := hid_intro (by have := ptsS_len s; rw [hS] at this; omega)
  have HSB : Hid (∀ c ∈ S, 0 ≤ c ∧ c ≤ 1114111) := hid_intro (by have := ptsS_bd s hg; rw [hS] at this; exact this)
  have hpe : points s.data.toList.length (bx s.data.toList) = S := hS
  rw [hpe] at hp
  obtain ⟨U, hU⟩ : ∃ U, patL 200 S = U := ⟨_, rfl⟩
  rw [hU] at HE0
  clear hg hl hS hpe
  clear hP hbt hsl
  go_enter Tryz.func7, Tryz.ntmps7
  go_wp2_with fail
  refine hp.mono ?_; rintro r w1 ⟨v1, rfl, ho1, hb1⟩
  have hrp := RP.new ho1 HSL.out HSB.out
  have hal : Below w1.heap.size w1 (w1.alloc (.cells #[v1, .int .i64 0, .int .i64 0, .bool false] 47)) := vb_a (Below.refl _ _) _
  have hpt := ralt_any S w1.heap.size 200 0 (by omega) (by omega) _ 0 (Nat.zero_le _) hrp
  rw [List.drop_zero, hU] at hpt
  have HK1 := hid_intro ((HK0.out.bel hb1).bel hal)
  have HB1 := hid_intro (vb_t (vb_t HBW.out hb1) hal)
  have HM1 := hid_intro (Nat.le_trans HM0.out hb1.size)
  obtain ⟨ao, cap, hsh⟩ : ∃ ao cap, v1 = .slice ao S.length cap := by
    rcases ho1.2 with ⟨rfl, hn⟩ | ⟨g, cap, cur, rfl, _⟩
    · exact ⟨none, 0, by rw [hn]⟩
    · exact ⟨_, cap, rfl⟩
  subst hsh
  have HPT := hid_intro hpt
  have hnp : ¬ w.heap.size = w1.heap.size := by have := HM1.out; omega
  clear hp ho1 hb1 hrp hal hpt hU
  go_wp2_with fail
  refine HPT.out.mono ?_; rintro r w2 ⟨hb2, hcs⟩
  have HB2 : Hid (Below w.heap.size w w2) := hid_intro (But.ahead HB1.out hb2 (fun j hj => by have h1 : j = w1.heap.size := hj; have := HM1.out; omega))
  have HK2 := hid_intro (HK1.out.but hb2 hnp)
  have HM2 : Hid (w.heap.size + 1 ≤ w2.heap.size) := hid_intro (by have h1 := hb2.size; have h2 := HM1.out; simp at h1; omega)
  have hszl : w1.heap.size < (w1.alloc (.cells #[.slice ao S.length cap, .int .i64 0, .int .i64 0, .bool false] 47)).heap.size := by simp
  have HW1 := hid_intro hszl
  clear hb2 HPT hszl
  cases U with
  | none =>
    obtain ⟨t, f, a2, g2, rfl, hx2, hr2, _⟩ := hcs
    have HE : Hid (parseS s = none) := HE0
    obtain ⟨k_, i1, n1, q1, lo, hi, z, i2, n2, q2, ef⟩ := hx2.lit
    rw [ef]
    obtain ⟨w3, hw3⟩ : ∃ w3, w2.alloc (.cells #[.int .i64 k_, .slice i1 n1 q1, .int .i64 lo, .int .i64 hi, .bool z, .slice i2 n2 q2] 26) = w3 := ⟨_, rfl⟩
    have hb3 : Below w2.heap.size w2 w3 := hw3 ▸ vb_a (Below.refl _ _) _
    have HB3 := hid_intro (vb_t HB2.out hb3)
    have HK3 := hid_intro (HK2.out.bel hb3)
    obtain ⟨ao3, cap3, _, _, _, d3, _, _, _, _, _, _, _⟩ := hr2.below hb3
    clear ef hx2 hr2 hb3
    obtain ⟨c0, c1, c2, c3, c4, c5⟩ := HK3.out.c6
    obtain ⟨z0, z1, z2, z3, z4, z5⟩ := HK3.out.z6
    go_wp2_with fail
    refine bodyPost_ret (v := .tuple #[.agg zX, .int .i64 90]) (by simp [results, Tryz.results7, go_sem, c0, c1, c2, c3, c4, c5]) rfl ?_
    rw [HP.out, HE.out]
    refine ⟨?_, rfl⟩
    with_reducible repeat (first | exact HB3.out | refine vb_s ?_ (Nat.le_refl _) _)
  | some y =>
    obtain ⟨t, l2⟩ := y
    obtain ⟨f, a2, rfl, hx2, hr2, hle2, hl2⟩ := hcs
    obtain ⟨k_, i1, n1, q1, lo, hi, z, i2, n2, q2, ef⟩ := hx2.lit
    have HEF := hid_intro ef
    rw [ef]
    obtain ⟨w3, hw3⟩ : ∃ w3, w2.alloc (.cells #[.int .i64 k_, .slice i1 n1 q1, .int .i64 lo, .int .i64 hi, .bool z, .slice i2 n2 q2] 26) = w3 := ⟨_, rfl⟩
    have hb3 : Below w2.heap.size w2 w3 := hw3 ▸ vb_a (Below.refl _ _) _
    have HB3 := hid_intro (vb_t HB2.out hb3)
    have HK3 := hid_intro (HK2.out.bel hb3)
    have HKB : Hid (Bk w3 w2.heap.size #[.int .i64 k_, .slice i1 n1 q1, .int .i64 lo, .int .i64 hi, .bool z, .slice i2 n2 q2]) := hid_intro (hw3 ▸ Bk.new _ _ _)
    have HX3 : Hid (XI w3 (fun j => j < w.heap.size + 1) t f) := hid_intro ((hx2.kept hb3).weak (fun j hj => by have h1 : j < w.heap.size + 1 := hj; have := HM1.out; show j < _; simp; omega))
    obtain ⟨ao3, cap3, _, d1, _, d3, _, _, _, _, _, _, _⟩ := hr2.below hb3
    by_cases hend : a2 < S.length
    · have HE : Hid (parseS s = none) := hid_intro (by
        rw [HE0.out, hl2, drop_at hend])
      have hI : (a2 : Int) < (S.length : Int) := by omega
      clear ef hx2 hr2 hb3 hle2 hl2 hend
      obtain ⟨c0, c1, c2, c3, c4, c5⟩ := HK3.out.c6
      obtain ⟨z0, z1, z2, z3, z4, z5⟩ := HK3.out.z6
      go_wp2_with fail
      refine bodyPost_ret (v := .tuple #[.agg zX, .int .i64 90]) (by simp [results, Tryz.results7, go_sem, c0, c1, c2, c3, c4, c5]) rfl ?_
      rw [HP.out, HE.out]
      refine ⟨?_, rfl⟩
      with_reducible repeat (first | exact HB3.out | refine vb_s ?_ (Nat.le_refl _) _)
    · have HE : Hid (parseS s = some t) := hid_intro (by
        rw [HE0.out, hl2, drop_out (by omega)])
      have hI : ¬ (a2 : Int) < (S.length : Int) := by omega
      obtain ⟨p0, p1, p2, p3, p4, p5⟩ := HKB.out.c6
      obtain ⟨c0, c1, c2, c3, c4, c5⟩ := HK3.out.c6
      obtain ⟨z0, z1, z2, z3, z4, z5⟩ := HK3.out.z6
      clear ef hx2 hr2 hb3 hle2 hl2 hend
      go_wp2_with fail
      refine bodyPost_ret (v := .tuple #[.agg #[.int .i64 k_, .slice i1 n1 q1, .int .i64 lo, .int .i64 hi, .bool z, .slice i2 n2 q2], .int .i64 0]) (by simp [results, Tryz.results7, go_sem, c0, c1, c2, c3, c4, c5]) rfl ?_
      rw [HP.out, HE.out]
      refine ⟨?_, f, by rw [HEF.out], XI.weak (X := fun j => j < w.heap.size + 1) ?_ (fun j hj => Nat.lt_succ_of_lt hj)⟩
      · with_reducible repeat (first | exact HB3.out | refine vb_s ?_ (Nat.le_refl _) _)
      · with_reducible repeat (first | exact HX3.out | refine XI.set ?_ (Nat.lt_succ_self _) _)

theorem rparse_any (s : ByteArray) (w : World) (hs : s.size ≤ 1099511627776) : Calls Tryz.prog 7 #[.string s] w (ParsR (parseS s) w) := by
  cases hg : goodS s
  · exact rparse_bad s w hs hg
  · by_cases hl : s.size ≤ 4096
    · exact rparse_ok s w hs hg hl
    · exact rparse_long s w hs hg hl

set_option maxRecDepth 100000 in
set_option maxHeartbeats 3200000 in
theorem rxreads_walk (s : ByteArray) (w : World) (hs : s.size ≤ 1099511627776) (hT : Tab w) (hg0 : 0 < w.heap.size) :
    Calls Tryz.prog 3 #[.string s] w fun r w' => r = .returned (.bool true) ∧ Below w.heap.size w w' := by
  have HP1 := hid_intro (parse_any s w hT hg0 hs)
  have HP2 := hid_intro (fun w' => rparse_any s w' hs)
  have HHD := hid_intro (fun w' (hb : Below w.heap.size w w') => heads_any w' (hT.below hb) (Nat.lt_of_lt_of_le hg0 hb.size))
  clear hT hg0 hs
  cases e1 : parseS s with
  | none =>
    rw [e1] at HP1 HP2
    clear e1
    go_enter Tryz.func3, Tryz.ntmps3
    go_wp2_with fail
    refine HP1.out.mono ?_; rintro r w1 ⟨hb1, rfl⟩
    obtain ⟨w2, hw2⟩ : ∃ w2, w1.alloc (.cells #[.int .i64 0, .slice none 0 0, .int .i64 0, .int .i64 0, .bool false, .slice none 0 0] 26) = w2 := ⟨_, rfl⟩
    have hb2 : Below w1.heap.size w1 w2 := hw2 ▸ vb_a (Below.refl _ _) _
    have HK2 : Hid (Bk w2 w1.heap.size #[.int .i64 0, .slice none 0 0, .int .i64 0, .int .i64 0, .bool false, .slice none 0 0]) := hid_intro (hw2 ▸ Bk.new _ _ _)
    have HB2 := hid_intro (vb_t hb1 hb2)
    have HW2 := hid_intro hw2
    clear hb1 hb2 hw2
    go_wp2_with fail
    rw [HW2.out]
    refine (HP2.out w2).mono ?_; rintro r w3 ⟨hb3, rfl⟩
    obtain ⟨w4, hw4⟩ : ∃ w4, w3.alloc (.cells #[.int .i64 0, .slice none 0 0, .int .i64 0, .int .i64 0, .bool false, .slice none 0 0] 26) = w4 := ⟨_, rfl⟩
    have hb4 : Below w3.heap.size w3 w4 := hw4 ▸ vb_a (Below.refl _ _) _
    have HK4 : Hid (Bk w4 w3.heap.size #[.int .i64 0, .slice none 0 0, .int .i64 0, .int .i64 0, .bool false, .slice none 0 0]) := hid_intro (hw4 ▸ Bk.new _ _ _)
    have HK3 := hid_intro ((HK2.out.bel hb3).bel hb4)
    have HB4 := hid_intro (vb_t (vb_t HB2.out hb3) hb4)
    have HSA := hid_intro (same_refl (.mk 0 [] 0 0 false []) (fun i => [Value.int .i64 0, .slice none 0 0, .int .i64 0, .int .i64 0, .bool false, .slice none 0 0].getD i .nilIface) (fun i => [Value.int .i64 0, .slice none 0 0, .int .i64 0, .int .i64 0, .bool false, .slice none 0 0].getD i .nilIface) w4 (fun _ => False) (fun _ => False) (xi_zero _ _) (xi_zero _ _))
    obtain ⟨c0, c1, c2, c3, c4, c5⟩ := HK3.out.c6
    obtain ⟨d0, d1, d2, d3, d4, d5⟩ := HK4.out.c6
    have HW4 := hid_intro hw4
    clear hb3 hb4 hw4 c0 c1 c2 c3 c4 c5 d0 d1 d2 d3 d4 d5
    go_upto_region 3 with fail
    rw [HW4.out]
    obtain ⟨c0, c1, c2, c3, c4, c5⟩ := HK3.out.c6
    obtain ⟨d0, d1, d2, d3, d4, d5⟩ := HK4.out.c6
    go_wp2_with fail
    refine HSA.out.mono ?_; rintro r w5 ⟨rfl, hb5⟩
    go_wp2_with fail
    refine (HHD.out w5 (vb_t HB4.out hb5)).mono ?_; rintro r w6 ⟨rfl, hb6⟩
    go_wp2_with fail
    go_ret
    exact ⟨rfl, vb_t (vb_t HB4.out hb5) hb6⟩
  | some t =>
    rw [e1] at HP1 HP2
    clear e1
    go_enter Tryz.func3, Tryz.ntmps3
    go_wp2_with fail
    refine HP1.out.mono ?_; rintro r w1 ⟨hb1, f, rfl, hx1⟩
    obtain ⟨k_, i1, n1, q1, lo, hi, z, i2, n2, q2, ef⟩ := hx1.lit
    have HEF := hid_intro ef
    rw [ef]
    obtain ⟨w2, hw2⟩ : ∃ w2, w1.alloc (.cells #[.int .i64 k_, .slice i1 n1 q1, .int .i64 lo, .int .i64 hi, .bool z, .slice i2 n2 q2] 26) = w2 := ⟨_, rfl⟩
    have hb2 : Below w1.heap.size w1 w2 := hw2 ▸ vb_a (Below.refl _ _) _
    have HK2 : Hid (Bk w2 w1.heap.size #[.int .i64 k_, .slice i1 n1 q1, .int .i64 lo, .int .i64 hi, .bool z, .slice i2 n2 q2]) := hid_intro (hw2 ▸ Bk.new _ _ _)
    have HB2 := hid_intro (vb_t hb1 hb2)
    have HX2 := hid_intro (hx1.kept hb2)
    clear hb1 hb2 hx1 ef
    go_wp2_with fail
    refine (HP2.out w2).mono ?_; rintro r w3 ⟨hb3, f3, rfl, hx3⟩
    obtain ⟨k2_, j1, m1, r1, lo2, hi2, zz, j2, m2, r2, ef3⟩ := hx3.lit
    have HEF3 := hid_intro ef3
    rw [ef3]
    obtain ⟨w4, hw4⟩ : ∃ w4, w3.alloc (.cells #[.int .i64 k2_, .slice j1 m1 r1, .int .i64 lo2, .int .i64 hi2, .bool zz, .slice j2 m2 r2] 26) = w4 := ⟨_, rfl⟩
    have hb4 : Below w3.heap.size w3 w4 := hw4 ▸ vb_a (Below.refl _ _) _
    have HK4 : Hid (Bk w4 w3.heap.size #[.int .i64 k2_, .slice j1 m1 r1, .int .i64 lo2, .int .i64 hi2, .bool zz, .slice j2 m2 r2]) := hid_intro (hw4 ▸ Bk.new _ _ _)
    have HK3 := hid_intro ((HK2.out.bel hb3).bel hb4)
    have HB4 := hid_intro (vb_t (vb_t HB2.out hb3) hb4)
    have HSA := hid_intro (same_refl t f f3 w4 _ _ ((HX2.out.kept hb3).kept hb4) (hx3.kept hb4))
    rw [HEF.out, HEF3.out] at HSA
    obtain ⟨c0, c1, c2, c3, c4, c5⟩ := HK3.out.c6
    obtain ⟨d0, d1, d2, d3, d4, d5⟩ := HK4.out.c6
    clear hb3 hb4 ef3 hx3
    go_wp2_with fail
    refine HSA.out.mono ?_; rintro r w5 ⟨rfl, hb5⟩
    go_wp2_with fail
    refine (HHD.out w5 (vb_t HB4.out hb5)).mono ?_; rintro r w6 ⟨rfl, hb6⟩
    go_wp2_with fail
    go_ret
    exact ⟨rfl, vb_t (vb_t HB4.out hb5) hb6⟩
end Go.Proofs.YthbbkcdlcpbepaaGreatDoor
