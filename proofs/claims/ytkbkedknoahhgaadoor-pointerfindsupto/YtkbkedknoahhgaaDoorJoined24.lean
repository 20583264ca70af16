/-
  What pointer.elements, slices.Index at texts, pointer.keyPlace, pointer.numberBelow and pointer.placeOf answer: the place to which a part leads. Conditions: lists of at most 2^30.
-/
import Derived.Test.YtkbkedknoahhgaaDoorJoined23
namespace Go.Proofs.YtkbkedknoahhgaaDoor
open Go.RowKit
attribute [local go_sem] setCell_drewN alloc_drewN

/-- How many elements a part leads to. -/
def elN : JV → Nat
  | .mk k _ _ _ _ l ks => if k = 5 then l.length else if k = 6 then min ks.length l.length else 0
set_option maxHeartbeats 800000 in
theorem elements_any (k : Int) (n : Bool) (g : ByteArray) (e : Int) (t : ByteArray) (l : List JV) (ks : List ByteArray) (ao ko : Option Addr) (cap kc : Nat) (w : World) :
    Calls Tryd.prog 40 #[.agg #[.int .i64 k, .bool n, .string g, .int .i64 e, .string t, .slice ao l.length cap, .slice ko ks.length kc]] w fun r w' => r = .returned (.int .i64 (elN (.mk k n g e t l ks) : Nat)) ∧ Below w.heap.size w w' := by
  by_cases h5 : k = 5
  · subst h5
    have HE : Hid (elN (.mk 5 n g e t l ks) = l.length) := by show _ = _; simp [elN]
    go_enter Tryd.func40, Tryd.ntmps40
    go_wp2
    go_ret
    exact ⟨by rw [HE.out]; rfl, bl_a (Below.refl _ _) _⟩
  · have h5' : (k == 5) = false := beq_eq_false_iff_ne.2 h5
    by_cases h6 : k = 6
    · subst h6
      by_cases hm : ks.length ≤ l.length
      · have HE : Hid (elN (.mk 6 n g e t l ks) = ks.length) := by show _ = _; simp [elN, Nat.min_eq_left hm]
        have hmI : (ks.length : Int) ≤ (l.length : Int) := by omega
        clear h5 h5'
        go_enter Tryd.func40, Tryd.ntmps40
        go_wp2
        go_ret
        refine ⟨?_, bl_a (Below.refl _ _) _⟩
        rw [HE.out]
        first | rfl | (simp only [Int.min_def, if_pos hmI]; rfl) | simp [Int.min_eq_left hmI]
      · have HE : Hid (elN (.mk 6 n g e t l ks) = l.length) := by show _ = _; simp [elN, Nat.min_eq_right (Nat.le_of_lt (Nat.lt_of_not_le hm))]
        have hmI : (l.length : Int) ≤ (ks.length : Int) := by omega
        have hmI2 : ¬ (ks.length : Int) ≤ (l.length : Int) := by omega
        clear h5 h5'
        go_enter Tryd.func40, Tryd.ntmps40
        go_wp2
        go_ret
        refine ⟨?_, bl_a (Below.refl _ _) _⟩
        rw [HE.out]
        first | rfl | (simp only [Int.min_def, if_neg hmI2]; rfl) | simp [Int.min_eq_right hmI]
    · have h6' : (k == 6) = false := beq_eq_false_iff_ne.2 h6
      have HE : Hid (elN (.mk k n g e t l ks) = 0) := by show _ = _; simp [elN, h5, h6]
      clear h5 h6
      go_enter Tryd.func40, Tryd.ntmps40
      go_wp2
      go_ret
      exact ⟨by rw [HE.out]; rfl, bl_a (Below.refl _ _) _⟩

/-- The first place of a text. -/
def kix (key : ByteArray) : List ByteArray → Nat → Option Nat
  | [], _ => none
  | y :: t, i => if key = y then some i else kix key t (i + 1)
def kixI (o : Option Nat) : Int := match o with | some i => (i : Int) | none => -1

set_option maxRecDepth 100000 in
set_option maxHeartbeats 800000 in
theorem index_any (ys : List ByteArray) (key : ByteArray) (a : Option Addr) (c : Nat) (w : World) (hl : ys.length ≤ 1073741824)
    (hc : ys = [] ∨ ∃ b off, a = some ⟨b, off, none⟩ ∧ ∀ i (h : i < ys.length), w.cell? ⟨b, off + i, none⟩ = some (.string ys[i])) :
    Calls Tryd.prog 56 #[.slice a ys.length c, .string key] w fun r w' => r = .returned (.int .i64 (kixI (kix key ys 0))) ∧ w' = w := by
  have hlI : (ys.length : Int) ≤ 1073741824 := by omega
  have HC : Hid (ys = [] ∨ ∃ b off, a = some ⟨b, off, none⟩ ∧ ∀ i (h : i < ys.length), w.cell? ⟨b, off + i, none⟩ = some (.string ys[i])) := hc
  clear hc
  go_enter Tryd.func56, Tryd.ntmps56
  go_wp2_with fail
  go_loopw [8] (fun t wr => ∃ i : Nat, i ≤ ys.length ∧ t = .int .i64 i ∧ Hid (kix key ys 0 = kix key (ys.drop i) i) ∧ wr = w) (fun t _ => ys.length - (intOf t).toNat)
  case atStart => exact ⟨0, Nat.zero_le _, rfl, rfl, rfl⟩
  case round =>
    obtain ⟨i, hi, rfl, HK, rfl⟩ := hrel
    by_cases hlt : i < ys.length
    · have hI : (i : Int) < (ys.length : Int) := by omega
      obtain ⟨b, off, rfl, hcc⟩ := HC.out.resolve_left (fun e => by rw [e] at hlt; exact absurd hlt (by simp))
      have hcell := hcc i hlt
      have hk := HK.out
      rw [List.drop_eq_getElem_cons hlt, kix] at hk
      have heq := eq_bytes key ys[i]
      clear hcc HC HK
      by_cases e : key = ys[i]
      · rw [decide_eq_true e] at heq
        rw [if_pos e] at hk
        have HE : Hid (kix key ys 0 = some i) := hk
        clear hk e
        generalize ys[i] = y at *
        go_wp2
        go_ret
        exact ⟨by rw [HE.out]; rfl, rfl⟩
      · rw [decide_eq_false e] at heq
        rw [if_neg e] at hk
        have HE : Hid (kix key ys 0 = kix key (ys.drop (i + 1)) (i + 1)) := hk
        clear hk e
        generalize ys[i] = y at *
        go_wp2
        go_roundw
        case rel => exact ⟨i + 1, by omega, by go_num, HE, trivial⟩
        case measure => simp [intOf]; omega
    · have hI : ¬ (i : Int) < (ys.length : Int) := by omega
      have HE : Hid (kix key ys 0 = none) := by
        show _ = _
        rw [HK.out, List.drop_eq_nil_of_le (by omega)]; rfl
      clear HK HC
      go_wp2
      go_ret
      exact ⟨by rw [HE.out]; rfl, rfl⟩

/-- A number below another. -/
def nbF (end_ : Int) : List UInt8 → Int → Option Int
  | [], n => some n
  | c :: t, n => if wi (c.toNat : Int) 48 57 = true then (if end_ ≤ 10 * n + ((c.toNat : Int) - 48) then none else nbF end_ t (10 * n + ((c.toNat : Int) - 48))) else none
def nbL (l : List UInt8) (end_ : Int) : Option Int := if l = [] ∨ (l.head? = some 48 ∧ l ≠ [48]) then none else nbF end_ l 0
def nbV : Option Int → Value
  | some n => .tuple #[.int .i64 n, .bool true]
  | none => .tuple #[.int .i64 0, .bool false]
set_option maxRecDepth 100000 in
set_option maxHeartbeats 1600000 in
theorem below_any (s : ByteArray) (m : Nat) (w : World) (hs : s.size ≤ 1099511627776) (hm : m ≤ 1073741824) :
    Calls Tryd.prog 35 #[.string s, .int .i64 (m : Int)] w fun r w' => r = .returned (nbV (nbL s.data.toList m)) ∧ w' = w := by
  have hsI : (s.size : Int) ≤ 1099511627776 := by omega
  have hmI : (m : Int) ≤ 1073741824 := by omega
  have hl := len_of s
  have hE : (s.toList == []) = decide (s.size = 0) := by
    have := eq_bytes s ⟨#[]⟩
    rw [show (ByteArray.mk #[]).toList = [] by decide +kernel] at this
    rw [this, decide_eq_decide]
    obtain ⟨⟨x⟩⟩ := s
    simp [ByteArray.size]
  by_cases hz : s.size = 0
  · have HE : Hid (nbL s.data.toList m = none) := by
      have : s.data.toList = [] := List.length_eq_zero_iff.1 (by omega)
      show _ = _
      rw [nbL, if_pos (.inl this)]
    rw [decide_eq_true hz] at hE
    go_enter Tryd.func35, Tryd.ntmps35
    go_wp2
    go_ret2
    exact ⟨by rw [HE.out]; rfl, rfl⟩
  · rw [decide_eq_false hz] at hE
    have hx := bx_at s 0 (by omega)
    have h0S : (0 : Int) < (s.size : Int) := by omega
    have hhd : s.data.toList.head? = some (s.data.toList[0]'(by omega)) := by rw [List.head?_eq_getElem?, List.getElem?_eq_getElem (by omega)]
    have hne : s.data.toList ≠ [] := fun e => by rw [e] at hl; simp at hl; omega
    have hq : (s.toList == [48]) = decide (s.data.toList = [48]) := by
      have := eq_bytes s ⟨#[48]⟩
      rw [show (ByteArray.mk #[48]).toList = [48] by decide +kernel] at this
      rw [this, decide_eq_decide]
      exact ⟨fun e => by rw [e], fun e => by rw [← bs_self s, e]; rfl⟩
    by_cases hb : bx s.data.toList 0 = 48 ∧ s.data.toList ≠ [48]
    · have HE : Hid (nbL s.data.toList m = none) := by
        show _ = _
        rw [nbL, if_pos]
        refine .inr ⟨?_, hb.2⟩
        rw [hhd]
        congr 1
        have := hb.1
        rw [bx_get _ _ (by omega)] at this
        exact UInt8.toNat_inj.1 (by show _ = 48; omega)
      rw [decide_eq_false hb.2] at hq
      rw [hb.1] at hx
      clear hb hhd
      go_enter Tryd.func35, Tryd.ntmps35
      go_wp2
      go_ret2
      exact ⟨by rw [HE.out]; rfl, rfl⟩
    · have hN : nbL s.data.toList m = nbF m s.data.toList 0 := by
        rw [nbL, if_neg]
        rintro (e | ⟨e1, e2⟩)
        · exact hne e
        · refine hb ⟨?_, e2⟩
          rw [hhd] at e1
          injection e1 with e1
          rw [bx_get _ _ (by omega), e1]; rfl
      have HN : Hid (nbL s.data.toList m = nbF m s.data.toList 0) := hN
      have hbr : (bx s.data.toList 0 == 48) = false ∨ ((bx s.data.toList 0 == 48) = true ∧ (s.toList == [48]) = true) := by
        by_cases e : bx s.data.toList 0 = 48
        · right
          refine ⟨beq_iff_eq.2 e, ?_⟩
          rw [hq]
          exact decide_eq_true (Classical.byContradiction fun h => hb ⟨e, h⟩)
        · exact .inl (beq_eq_false_iff_ne.2 e)
      clear hb hhd hne hN hq
      generalize bx s.data.toList 0 = c0 at *
      rcases hbr with r1 | ⟨r1, r2⟩
      all_goals
        go_enter Tryd.func35, Tryd.ntmps35
        go_wp2_with fail
        go_loopw [6, 21] (fun nv t wr => ∃ (i : Nat) (n : Int), i ≤ s.size ∧ t = .int .i64 i ∧ nv = .int .i64 n ∧ 0 ≤ n ∧ n ≤ m ∧ Hid (nbL s.data.toList m = nbF m (s.data.toList.drop i) n) ∧ wr = w) (fun _ t _ => s.size - (intOf t).toNat)
        case atStart => exact ⟨0, 0, Nat.zero_le _, rfl, rfl, by omega, by omega, HN, rfl⟩
        case round =>
          obtain ⟨i, nn, hi, rfl, rfl, n0, n1, HK, rfl⟩ := hrel
          clear HN
          by_cases hlt : i < s.size
          · have hI : (i : Int) < (s.size : Int) := by omega
            have hil : i < s.data.toList.length := by omega
            have hxx := bx_at s i hlt
            have hk := HK.out
            rw [List.drop_eq_getElem_cons hil, nbF, ← bx_get _ i hil] at hk
            have c0b := bx_lo s.data.toList i
            have c1b := bx_hi s.data.toList i
            have hd := fun w' => isDigit_any (bx s.data.toList i) w'
            clear HK
            generalize bx s.data.toList i = c at *
            cases hw : wi c 48 57
            · rw [hw] at hd hk
              have HE : Hid (nbL s.data.toList m = none) := hk
              clear hk hw
              go_wp2_with (go_at_call 55; refine (hd _).mono ?_; rintro e w' ⟨rfl, rfl⟩)
              go_ret2
              exact ⟨by rw [HE.out]; rfl, rfl⟩
            · obtain ⟨g1, g2⟩ := (wi_iff c 48 57).1 hw
              rw [hw] at hd hk
              simp only [if_true] at hk
              by_cases hge : (m : Int) ≤ 10 * nn + (c - 48)
              · rw [if_pos hge] at hk
                have HE : Hid (nbL s.data.toList m = none) := hk
                clear hk hw
                go_wp2_with (go_at_call 55; refine (hd _).mono ?_; rintro e w' ⟨rfl, rfl⟩)
                go_ret2
                exact ⟨by rw [HE.out]; rfl, rfl⟩
              · rw [if_neg hge] at hk
                have HE : Hid (nbL s.data.toList m = nbF m (s.data.toList.drop (i + 1)) (10 * nn + (c - 48))) := hk
                clear hk hw
                go_wp2_with (go_at_call 55; refine (hd _).mono ?_; rintro e w' ⟨rfl, rfl⟩)
                go_roundw
                case rel => exact ⟨i + 1, 10 * nn + (c - 48), by omega, by go_num, by go_num, by omega, by omega, HE, trivial⟩
                case measure => simp [intOf]; omega
          · have hI : ¬ (i : Int) < (s.size : Int) := by omega
            have HE : Hid (nbL s.data.toList m = some nn) := by
              show _ = _
              rw [HK.out, List.drop_eq_nil_of_le (by omega)]; rfl
            clear HK
            go_wp2
            go_ret2
            exact ⟨by rw [HE.out]; rfl, rfl⟩
end Go.Proofs.YtkbkedknoahhgaaDoor
