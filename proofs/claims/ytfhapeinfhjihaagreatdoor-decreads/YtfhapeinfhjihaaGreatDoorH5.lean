/-
  What dec.Whole, ref3.Whole and ref3.Text answer. Conditions: the library's table of powers of ten as the program lays it.
-/
import Derived.Test.YtfhapeinfhjihaaGreatDoorS13
import Derived.Test.YtfhapeinfhjihaaGreatDoorS3
namespace Go.Proofs.YtfhapeinfhjihaaGreatDoor
open Go.RowKit
attribute [local go_sem] setCell_drewN alloc_drewN

theorem keep1w {w w' : World} {c : Array Value} {t : TypeId} (h : Below (w.alloc (.cells c t)).heap.size (w.alloc (.cells c t)) w') : (∀ o, w'.cell? ⟨w.heap.size, o, none⟩ = c[o]?) ∧ w.heap.size < w'.heap.size := by
  refine ⟨fun o => ?_, ?_⟩
  · rw [h.cell (p := ⟨w.heap.size, o, none⟩) (by simp)]
    rw [World.cell?_alloc_at _ _ _ _ rfl]
  · have := h.size
    simp at this
    omega
def wholeB (n : Bool) (s : ByteArray) (e : Int) : Bool := goodB n s e && decide (0 ≤ e)

set_option maxRecDepth 100000 in
set_option maxHeartbeats 800000 in
theorem whole_any (n : Bool) (s : ByteArray) (e : Int) (w : World) (hs : s.size ≤ maxLen) :
    Calls Tryz.prog 14 #[.agg #[.bool n, .string s, .int .i64 e]] w fun r w' => r = .returned (.bool (wholeB n s e)) ∧ Below w.heap.size w w' := by
  have h1 := fun w => check_any n s e w hs
  cases hg : goodB n s e
  · have HW : Hid (wholeB n s e = false) := by show _ = _; unfold wholeB; rw [hg]; rfl
    rw [hg] at h1
    simp only [errB, Bool.false_eq_true, if_false] at h1
    clear hg hs
    go_enter Tryz.func14, Tryz.ntmps14
    go_wp2_with (go_at_call 12; refine (h1 _).mono ?_; rintro r w1 ⟨rfl, hb1⟩; obtain ⟨kc, kz⟩ := keep1w hb1)
    go_ret
    exact ⟨r3_bool HW.out.symm, bl_t (bl_a (Below.refl _ _) _) hb1⟩
  · rw [hg] at h1
    simp only [errB, if_true] at h1
    have HW : Hid (wholeB n s e = decide (0 ≤ e)) := by show _ = _; unfold wholeB; rw [hg]; rfl
    clear hg hs
    go_enter Tryz.func14, Tryz.ntmps14
    go_wp2_with (go_at_call 12; refine (h1 _).mono ?_; rintro r w1 ⟨rfl, hb1⟩; obtain ⟨kc, kz⟩ := keep1w hb1)
    go_ret
    exact ⟨r3_bool HW.out.symm, bl_t (bl_a (Below.refl _ _) _) hb1⟩

set_option maxRecDepth 100000 in
set_option maxHeartbeats 800000 in
theorem rwhole_any (n : Bool) (s : ByteArray) (e : Int) (w : World) (hs : s.size ≤ maxLen) :
    Calls Tryz.prog 15 #[.agg #[.bool n, .string s, .int .i64 e]] w fun r w' => r = .returned (.bool (wholeB n s e)) ∧ Below w.heap.size w w' := by
  have h1 := fun w => rcheck_any n s e w hs
  cases hg : goodB n s e
  · have HW : Hid (wholeB n s e = false) := by show _ = _; unfold wholeB; rw [hg]; rfl
    rw [hg] at h1
    simp only [errB, Bool.false_eq_true, if_false] at h1
    clear hg hs
    go_enter Tryz.func15, Tryz.ntmps15
    go_wp2_with (go_at_call 13; refine (h1 _).mono ?_; rintro r w1 ⟨rfl, hb1⟩; obtain ⟨kc, kz⟩ := keep1w hb1)
    go_ret
    exact ⟨r3_bool HW.out.symm, bl_t (bl_a (Below.refl _ _) _) hb1⟩
  · rw [hg] at h1
    simp only [errB, if_true] at h1
    have HW : Hid (wholeB n s e = decide (0 ≤ e)) := by show _ = _; unfold wholeB; rw [hg]; rfl
    clear hg hs
    go_enter Tryz.func15, Tryz.ntmps15
    go_wp2_with (go_at_call 13; refine (h1 _).mono ?_; rintro r w1 ⟨rfl, hb1⟩; obtain ⟨kc, kz⟩ := keep1w hb1)
    go_ret
    exact ⟨r3_bool HW.out.symm, bl_t (bl_a (Below.refl _ _) _) hb1⟩

theorem tup_str {a b : ByteArray} {x : Int} (h : a = b) : Ending.returned (.tuple #[.string a, .int .i64 x]) = .returned (.tuple #[.string b, .int .i64 x]) := by rw [h]

set_option maxRecDepth 100000 in
set_option maxHeartbeats 1600000 in
theorem rtext3_any (n : Bool) (s : ByteArray) (e : Int) (w : World) (hs : s.size ≤ maxLen) (ht : Lib.TabIs Tryz.prog w "internal/strconv.uint64pow10" .u64 Lib.pow10Tab) :
    Calls Tryz.prog 9 #[.agg #[.bool n, .string s, .int .i64 e]] w fun r w' => r = .returned (.tuple #[.string (bs (if goodB n s e = true then textL ⟨n, s.data.toList, e⟩ else [])), .int .i64 (errB (goodB n s e))]) ∧ Below w.heap.size w w' := by
  have h1 := fun w => rcheck_any n s e w hs
  cases hg : goodB n s e
  · rw [hg] at h1
    simp only [errB, Bool.false_eq_true, if_false] at h1 ⊢
    have hb0 : bs [] = ⟨#[]⟩ := rfl
    rw [hb0]
    clear hg hs ht hb0
    go_enter Tryz.func9, Tryz.ntmps9
    go_wp2_with (first | (go_at_call 13; refine (h1 _).mono ?_; rintro r w1 ⟨rfl, hb1⟩; obtain ⟨kc, kz⟩ := keep1w hb1))
    go_ret2
    exact ⟨rfl, (by with_reducible repeat (first | exact Below.refl _ _ | refine bl_t ?_ hb9 | refine bl_t ?_ hb2 | refine bl_t ?_ hb1 | refine bl_d ?_ | refine bl_n ?_ _ | refine bl_a ?_ _))⟩
  · rw [hg] at h1
    simp only [errB, if_true] at h1 ⊢
    by_cases h0 : s.size = 0
    · have hn : s.toList = [] := by rw [ByteArray.toList_eq]; exact (nil_size s).2 h0
      have hT : bs (textL ⟨n, s.data.toList, e⟩) = ⟨#[48]⟩ := by unfold textL; rw [if_pos ((nil_size s).2 h0)]; rfl
      rw [hT]
      clear hg hs ht h0 hT
      go_enter Tryz.func9, Tryz.ntmps9
      go_wp2_with (first | (go_at_call 13; refine (h1 _).mono ?_; rintro r w1 ⟨rfl, hb1⟩; obtain ⟨kc, kz⟩ := keep1w hb1))
      go_ret2
      exact ⟨rfl, (by with_reducible repeat (first | exact Below.refl _ _ | refine bl_t ?_ hb9 | refine bl_t ?_ hb2 | refine bl_t ?_ hb1 | refine bl_d ?_ | refine bl_n ?_ _ | refine bl_a ?_ _))⟩
    · have hn := toList_ne (s := s) (by omega)
      have hgs := good_some (n := n) (e := e) h0
      rw [hg] at hgs
      obtain ⟨hd, hx⟩ : digB s = true ∧ decide (-1000000 ≤ e ∧ e ≤ 1000000) = true := by simpa using hgs.symm
      have hx := of_decide_eq_true hx
      have hsz := ((digB_iff s h0).1 hd).1
      have h3 := fun w ht => itoa_any e w (by omega) (by omega) ht
      have hne : ¬ s.data.toList = [] := fun h => h0 ((nil_size s).1 h)
      have hil : (Lib.itoa e).length ≤ 100 := itoa_len e hx.1 hx.2
      have hiz : (bs (Lib.itoa e)).size ≤ 100 := by rw [bs_size]; exact hil
      have hT : textL ⟨n, s.data.toList, e⟩ = (if n = true then 45 :: s.data.toList else s.data.toList) ++ sufL e := by unfold textL; rw [if_neg hne]
      have hi : (s.size : Int) ≤ 65536 := by omega
      cases n
      · by_cases z : e = 0
        · have HT : Hid (s = bs (textL ⟨false, s.data.toList, e⟩)) := by
            show _ = _
            rw [hT, sufL, if_pos z, if_neg (by simp), List.append_nil, bs_self]
          subst z
          clear hg hs h0 hgs hd hx hne hil hT
          generalize bs (textL ⟨false, s.data.toList, 0⟩) = TT at *
          go_enter Tryz.func9, Tryz.ntmps9
          go_wp2_with (first | (go_at_call 13; refine (h1 _).mono ?_; rintro r w1 ⟨rfl, hb1⟩; obtain ⟨kc, kz⟩ := keep1w hb1))
          go_ret2
          exact ⟨tup_str HT.out, (by with_reducible repeat (first | exact Below.refl _ _ | refine bl_t ?_ hb9 | refine bl_t ?_ hb2 | refine bl_t ?_ hb1 | refine bl_d ?_ | refine bl_n ?_ _ | refine bl_a ?_ _))⟩
        · have HT : Hid (s ++ ⟨#[101]⟩ ++ bs (Lib.itoa e) = bs (textL ⟨false, s.data.toList, e⟩)) := by
            show _ = _
            rw [hT, sufL, if_neg z, if_neg (by simp), ← bs_append, bs_self, show bs (101 :: Lib.itoa e) = bs [101] ++ bs (Lib.itoa e) by rw [bs_append]; rfl, ← ByteArray.append_assoc]
            rfl
          have z2 : (e == 0) = false := beq_eq_false_iff_ne.2 z
          have z3 : (e != 0) = true := by simp only [bne, z2]; rfl
          clear hg hs h0 hgs hd hne hil hT z
          generalize bs (textL ⟨false, s.data.toList, e⟩) = TT at *
          generalize bs (Lib.itoa e) = II at *
          go_enter Tryz.func9, Tryz.ntmps9
          go_wp2_with (first | (go_at_call 13; refine (h1 _).mono ?_; rintro r w1 ⟨rfl, hb1⟩; obtain ⟨kc, kz⟩ := keep1w hb1) | (go_at_call 29; refine (h3 _ (tab_below ht (bl_t (bl_a (Below.refl _ _) _) hb1))).mono ?_; rintro r w2 ⟨rfl, hb2⟩))
          go_ret2
          exact ⟨tup_str HT.out, (by with_reducible repeat (first | exact Below.refl _ _ | refine bl_t ?_ hb9 | refine bl_t ?_ hb2 | refine bl_t ?_ hb1 | refine bl_d ?_ | refine bl_n ?_ _ | refine bl_a ?_ _))⟩
      · by_cases z : e = 0
        · have HT : Hid (⟨#[45]⟩ ++ s = bs (textL ⟨true, s.data.toList, e⟩)) := by
            show _ = _
            rw [hT, sufL, if_pos z, if_pos rfl, List.append_nil, show bs (45 :: s.data.toList) = bs [45] ++ bs s.data.toList by rw [bs_append]; rfl, bs_self]
            rfl
          subst z
          clear hg hs h0 hgs hd hx hne hil hT
          generalize bs (textL ⟨true, s.data.toList, 0⟩) = TT at *
          go_enter Tryz.func9, Tryz.ntmps9
          go_wp2_with (first | (go_at_call 13; refine (h1 _).mono ?_; rintro r w1 ⟨rfl, hb1⟩; obtain ⟨kc, kz⟩ := keep1w hb1))
          go_ret2
          exact ⟨tup_str HT.out, (by with_reducible repeat (first | exact Below.refl _ _ | refine bl_t ?_ hb9 | refine bl_t ?_ hb2 | refine bl_t ?_ hb1 | refine bl_d ?_ | refine bl_n ?_ _ | refine bl_a ?_ _))⟩
        · have HT : Hid (⟨#[45]⟩ ++ s ++ ⟨#[101]⟩ ++ bs (Lib.itoa e) = bs (textL ⟨true, s.data.toList, e⟩)) := by
            show _ = _
            rw [hT, sufL, if_neg z, if_pos rfl, ← bs_append, show bs (45 :: s.data.toList) = bs [45] ++ bs s.data.toList by rw [bs_append]; rfl, bs_self, show bs (101 :: Lib.itoa e) = bs [101] ++ bs (Lib.itoa e) by rw [bs_append]; rfl, ← ByteArray.append_assoc]
            rfl
          have z2 : (e == 0) = false := beq_eq_false_iff_ne.2 z
          have z3 : (e != 0) = true := by simp only [bne, z2]; rfl
          clear hg hs h0 hgs hd hne hil hT z
          generalize bs (textL ⟨true, s.data.toList, e⟩) = TT at *
          generalize bs (Lib.itoa e) = II at *
          go_enter Tryz.func9, Tryz.ntmps9
          go_wp2_with (first | (go_at_call 13; refine (h1 _).mono ?_; rintro r w1 ⟨rfl, hb1⟩; obtain ⟨kc, kz⟩ := keep1w hb1) | (go_at_call 29; refine (h3 _ (tab_below ht (bl_t (bl_a (Below.refl _ _) _) hb1))).mono ?_; rintro r w2 ⟨rfl, hb2⟩))
          go_ret2
          exact ⟨tup_str HT.out, (by with_reducible repeat (first | exact Below.refl _ _ | refine bl_t ?_ hb9 | refine bl_t ?_ hb2 | refine bl_t ?_ hb1 | refine bl_d ?_ | refine bl_n ?_ _ | refine bl_a ?_ _))⟩
end Go.Proofs.YtfhapeinfhjihaaGreatDoor
