/-
  What pointer.decoded answers at its two marks: one byte in the place of each mark and the bytes behind it, or that they mean none. Conditions: at most 2^40 bytes.
-/
import Derived.Test.YtkbkedknoahhgaaDoorJoined8
import Derived.Test.YtkbkedknoahhgaaDoorJoined10
namespace Go.Proofs.YtkbkedknoahhgaaDoor
open Go.RowKit
attribute [local go_sem] setCell_drewN alloc_drewN

/-- One byte in the place of each mark and the bytes behind it. -/
def decL (m : UInt8) (wd : Nat) (mean : List UInt8 → Option UInt8) : List UInt8 → Option (List UInt8)
  | [] => some []
  | c :: t => if c = m then (if t.length < wd then none else (mean (t.take wd)).bind fun d => (decL m wd mean (t.drop wd)).map (d :: ·)) else (decL m wd mean t).map (c :: ·)
termination_by l => l.length
decreasing_by all_goals (simp only [List.length_drop, List.length_cons]; omega)
theorem decL_nil (m : UInt8) (wd : Nat) (mean : List UInt8 → Option UInt8) : decL m wd mean [] = some [] := by rw [decL]
theorem decL_ne {m c : UInt8} (wd : Nat) (mean : List UInt8 → Option UInt8) (t : List UInt8) (h : c ≠ m) : decL m wd mean (c :: t) = (decL m wd mean t).map (c :: ·) := by rw [decL, if_neg h]
theorem decL_short {m : UInt8} {wd : Nat} (mean : List UInt8 → Option UInt8) (t : List UInt8) (h : t.length < wd) : decL m wd mean (m :: t) = none := by rw [decL, if_pos rfl, if_pos h]
theorem decL_mark {m : UInt8} {wd : Nat} (mean : List UInt8 → Option UInt8) (t : List UInt8) (h : ¬ t.length < wd) : decL m wd mean (m :: t) = (mean (t.take wd)).bind fun d => (decL m wd mean (t.drop wd)).map (d :: ·) := by rw [decL, if_pos rfl, if_neg h]
theorem omap_map (f g : List UInt8 → List UInt8) (o : Option (List UInt8)) : (o.map f).map g = o.map (fun x => g (f x)) := by cases o <;> rfl
theorem dec_run {m : UInt8} {wd : Nat} {mean : List UInt8 → Option UInt8} {l : List UInt8} {k : Nat} (n : Nat) : ∀ i, k - i = n → i ≤ k → k ≤ l.length → (∀ j, i ≤ j → j < k → bx l j ≠ (m.toNat : Int)) → decL m wd mean (l.drop i) = (decL m wd mean (l.drop k)).map ((l.drop i).take (k - i) ++ ·) := by
  induction n with
  | zero =>
    intro i h1 h2 h3 h4
    have : i = k := by omega
    subst this
    rw [Nat.sub_self, List.take_zero]
    cases decL m wd mean (l.drop i) <;> rfl
  | succ n ih =>
    intro i h1 h2 h3 h4
    have hi : i < l.length := by omega
    have hne := h4 i (Nat.le_refl _) (by omega)
    rw [bx_get l i hi] at hne
    have e : k - i = (k - (i + 1)) + 1 := by omega
    rw [List.drop_eq_getElem_cons hi, decL_ne _ _ _ (fun e => hne (by rw [e])), ih (i + 1) (by omega) (by omega) h3 (fun j a b => h4 j (by omega) b), omap_map, e, List.take_succ_cons]
    rfl
def dV : Option (List UInt8) → Value
  | some o => .tuple #[.string (bs o), .bool true]
  | none => .tuple #[.string ⟨#[]⟩, .bool false]
theorem extract_len (s : ByteArray) (a b : Nat) (h : a ≤ b) (hb : b ≤ s.size) : ((s.data.toList.drop a).take (b - a)).length = b - a := by rw [List.length_take, List.length_drop, len_of]; omega
theorem two_of {l : List UInt8} (h : l.length = 2) : ∃ a b, l = [a, b] := by
  match l, h with
  | [a, b], _ => exact ⟨a, b, rfl⟩
theorem one_of {l : List UInt8} (h : l.length = 1) : ∃ a, l = [a] := by
  match l, h with
  | [a], _ => exact ⟨a, rfl⟩
theorem ret_v {a b : Value} (h : a = b) : Ending.returned a = .returned b := by rw [h]

set_option maxRecDepth 100000 in
set_option maxHeartbeats 1600000 in
theorem decoded_tilde (s : ByteArray) (w : World) (hs : s.size ≤ 1099511627776) :
    Calls Tryd.prog 31 #[.string s, .int .u8 126, .int .i64 1, .func (.func 32) #[] #[]] w fun r w' => r = .returned (dV (decL 126 1 mT s.data.toList)) ∧ Below w.heap.size w w' := by
  have hmI : (s.size : Int) ≤ 1099511627776 := by omega
  have hl := len_of s
  go_enter Tryd.func31, Tryd.ntmps31
  go_wp2_with fail
  go_loopw [11] (fun t wr => ∃ (i : Nat) (o : List UInt8), i ≤ s.size ∧ t = .int .i64 i ∧ BB w.heap.size o wr ∧ o.length ≤ i ∧ Hid (decL 126 1 mT s.data.toList = (decL 126 1 mT (s.data.toList.drop i)).map (o ++ ·)) ∧ Below w.heap.size w wr) (fun t _ => s.size + 1 - (intOf t).toNat)
  case atStart => exact ⟨0, [], Nat.zero_le _, rfl, bb_fresh w, Nat.zero_le _, by show _ = _; rw [List.drop_zero]; cases decL 126 1 mT s.data.toList <;> rfl, bl_a (Below.refl _ _) _⟩
  case round =>
    obtain ⟨i, o, hi, rfl, hB, ho, HD, hbel⟩ := hrel
    have h0 := is_any 126 wr
    have h1 := sought_is s i 126 wr.heap.size (wr.alloc (.cells #[.int .u8 126] 5)) hi (by omega) (by rw [World.cell?_alloc_at _ _ _ _ rfl]; rfl)
    have k1 := pass_ge s.data.toList (fun c => !(c == 126)) i
    have k2 := pass_le (p := fun c => !(c == 126)) (show i ≤ s.data.toList.length by omega)
    have k3 := pass_in (l := s.data.toList) (p := fun c => !(c == 126)) _ i (Nat.le_refl _)
    have k4 := pass_end (l := s.data.toList) (p := fun c => !(c == 126)) _ i (Nat.le_refl _)
    generalize pass s.data.toList (fun c => !(c == 126)) i = k at *
    rw [hl] at k2 k4
    have er := dec_run (m := 126) (wd := 1) (mean := mT) (l := s.data.toList) (k := k) _ i rfl k1 (by omega) (fun j a b => by have := k3 j a b; simpa using this)
    have hd := HD.out
    rw [er, omap_map] at hd
    have hpl := extract_len s i k k1 k2
    have hw := wstr w.heap.size o (s.extract i k) (wr.alloc (.cells #[.int .u8 126] 5)) (hB.below (bl_a (Below.refl _ _) _)) (by rw [← len_of, piece, hpl]; omega)
    rw [piece] at hw
    have hol : (o ++ (s.data.toList.drop i).take (k - i)).length ≤ k := by rw [List.length_append, hpl]; omega
    have hd' : decL 126 1 mT s.data.toList = (decL 126 1 mT (s.data.toList.drop k)).map ((o ++ (s.data.toList.drop i).take (k - i)) ++ ·) := by rw [hd]; congr 1; funext x; exact (List.append_assoc _ _ _).symm
    clear hd k3 er HD hpl
    generalize o ++ (s.data.toList.drop i).take (k - i) = o2 at *
    have kI : (i : Int) ≤ (k : Int) := by omega
    have hbel1 : Below w.heap.size w (wr.alloc (.cells #[.int .u8 126] 5)) := bl_a hbel _
    by_cases e : k = s.size
    · subst e
      have HD : Hid (decL 126 1 mT s.data.toList = some o2) := by
        show _ = _
        rw [hd', ← hl, List.drop_length, decL_nil]; simp
      clear k4 hB k1 k2 hd' hol
      go_wp2_with first | (go_at_call 30; refine h0.mono ?_; rintro r w0 ⟨rfl, rfl⟩) | (go_at_call 29; refine h1.mono ?_; rintro r w1 ⟨rfl, rfl⟩)
      refine hw.mono ?_
      rintro r w2 ⟨rfl, hB2, hb2⟩
      have h3 := bstr w.heap.size _ w2 hB2
      go_wp2_with (go_at_call 51; refine h3.mono ?_; rintro r w3 ⟨rfl, hb3⟩)
      go_ret2
      exact ⟨by rw [HD.out]; rfl, (hbel1.trans hb2).trans hb3⟩
    · have eI : ((k : Int) == (s.size : Int)) = false := beq_eq_false_iff_ne.2 (by omega)
      have kS : (k : Int) ≤ (s.size : Int) := by omega
      have hk : k < s.data.toList.length := by omega
      have hy := k4 (by omega)
      rw [bx_get _ k hk] at hy
      have hc : s.data.toList[k] = 126 := by
        have h5 : ((s.data.toList[k].toNat : Int) == 126) = true := by simpa using hy
        have h6 := beq_iff_eq.1 h5
        exact UInt8.toNat_inj.1 (by show _ = 126; omega)
      have htl : (s.data.toList.drop (k + 1)).length = s.size - (k + 1) := by rw [List.length_drop, hl]
      rw [List.drop_eq_getElem_cons hk, hc] at hd'
      by_cases e2 : s.size < k + 1 + 1
      · have eJ : (s.size : Int) < (k : Int) + 1 + 1 := by omega
        have HD : Hid (decL 126 1 mT s.data.toList = none) := by
          show _ = _
          rw [hd', decL_short _ _ (by omega)]; rfl
        clear k4 hB hd' hy hc htl hol
        go_wp2_with first | (go_at_call 30; refine h0.mono ?_; rintro r w0 ⟨rfl, rfl⟩) | (go_at_call 29; refine h1.mono ?_; rintro r w1 ⟨rfl, rfl⟩)
        refine hw.mono ?_
        rintro r w2 ⟨rfl, hB2, hb2⟩
        go_wp2
        go_ret2
        exact ⟨by rw [HD.out]; rfl, hbel1.trans hb2⟩
      · have eJ : ¬ (s.size : Int) < (k : Int) + 1 + 1 := by omega
        have eK : (k : Int) + 1 ≤ (k : Int) + 1 + 1 := by omega
        have eL : (k : Int) + 1 + 1 ≤ (s.size : Int) := by omega
        rw [decL_mark _ _ (by omega), List.drop_drop] at hd'
        have hpc : s.extract (k + 1) (k + 1 + 1) = bs ((s.data.toList.drop (k + 1)).take 1) := by rw [piece_bs, Nat.add_sub_cancel_left]
        have hml : ((s.data.toList.drop (k + 1)).take 1).length = 1 := by rw [List.length_take, htl]; omega
        obtain ⟨a, hsp⟩ := one_of hml
        rw [hsp] at hpc hd'
        have hmn := fun w' => tildeMeaning_any a w'
        cases hM : mT [a] with
        | none =>
          have HD : Hid (decL 126 1 mT s.data.toList = none) := by
            show _ = _
            rw [hd', hM]; rfl
          rw [hM, ← hpc] at hmn
          simp only [mV] at hmn
          clear k4 hB hd' hy hc htl hpc hml hsp hol hM
          go_wp2_with first | (go_at_call 30; refine h0.mono ?_; rintro r w0 ⟨rfl, rfl⟩) | (go_at_call 29; refine h1.mono ?_; rintro r w1 ⟨rfl, rfl⟩)
          refine hw.mono ?_
          rintro r w2 ⟨rfl, hB2, hb2⟩
          go_wp2_with (go_at_call 32; refine (hmn _).mono ?_; rintro r w3 ⟨rfl, rfl⟩)
          go_ret2
          exact ⟨by rw [HD.out]; rfl, hbel1.trans hb2⟩
        | some d =>
          have HD : Hid (decL 126 1 mT s.data.toList = (decL 126 1 mT (s.data.toList.drop (k + 1 + 1))).map ((o2 ++ [d]) ++ ·)) := by
            show _ = _
            rw [hd', hM]
            simp only [Option.bind_some]
            rw [omap_map]
            congr 1
            funext x
            simp
          rw [hM, ← hpc] at hmn
          simp only [mV] at hmn
          clear k4 hB hd' hy hc htl hpc hml hsp hM
          go_wp2_with first | (go_at_call 30; refine h0.mono ?_; rintro r w0 ⟨rfl, rfl⟩) | (go_at_call 29; refine h1.mono ?_; rintro r w1 ⟨rfl, rfl⟩)
          refine hw.mono ?_
          rintro r w2 ⟨rfl, hB2, hb2⟩
          go_wp2_with (go_at_call 32; refine (hmn _).mono ?_; rintro r w3 ⟨rfl, rfl⟩)
          refine (wbyte w.heap.size o2 d _ _ rfl hB2 (by omega)).mono ?_
          rintro r w4 ⟨rfl, hB4, hb4⟩
          have hbel4 : Below w.heap.size w w4 := (hbel1.trans hb2).trans hb4
          clear hw hmn h1 h0
          go_wp2
          go_roundw
          case rel => exact ⟨k + 1 + 1, o2 ++ [d], by omega, by go_num, hB4, by rw [List.length_append]; simp only [List.length_cons, List.length_nil]; omega, HD, hbel4⟩
          case measure => simp [intOf]; omega

set_option maxRecDepth 100000 in
set_option maxHeartbeats 1600000 in
theorem decoded_percent (s : ByteArray) (w : World) (hs : s.size ≤ 1099511627776) :
    Calls Tryd.prog 31 #[.string s, .int .u8 37, .int .i64 2, .func (.func 33) #[] #[]] w fun r w' => r = .returned (dV (decL 37 2 mP s.data.toList)) ∧ Below w.heap.size w w' := by
  have hmI : (s.size : Int) ≤ 1099511627776 := by omega
  have hl := len_of s
  go_enter Tryd.func31, Tryd.ntmps31
  go_wp2_with fail
  go_loopw [11] (fun t wr => ∃ (i : Nat) (o : List UInt8), i ≤ s.size ∧ t = .int .i64 i ∧ BB w.heap.size o wr ∧ o.length ≤ i ∧ Hid (decL 37 2 mP s.data.toList = (decL 37 2 mP (s.data.toList.drop i)).map (o ++ ·)) ∧ Below w.heap.size w wr) (fun t _ => s.size + 1 - (intOf t).toNat)
  case atStart => exact ⟨0, [], Nat.zero_le _, rfl, bb_fresh w, Nat.zero_le _, by show _ = _; rw [List.drop_zero]; cases decL 37 2 mP s.data.toList <;> rfl, bl_a (Below.refl _ _) _⟩
  case round =>
    obtain ⟨i, o, hi, rfl, hB, ho, HD, hbel⟩ := hrel
    have h0 := is_any 37 wr
    have h1 := sought_is s i 37 wr.heap.size (wr.alloc (.cells #[.int .u8 37] 5)) hi (by omega) (by rw [World.cell?_alloc_at _ _ _ _ rfl]; rfl)
    have k1 := pass_ge s.data.toList (fun c => !(c == 37)) i
    have k2 := pass_le (p := fun c => !(c == 37)) (show i ≤ s.data.toList.length by omega)
    have k3 := pass_in (l := s.data.toList) (p := fun c => !(c == 37)) _ i (Nat.le_refl _)
    have k4 := pass_end (l := s.data.toList) (p := fun c => !(c == 37)) _ i (Nat.le_refl _)
    generalize pass s.data.toList (fun c => !(c == 37)) i = k at *
    rw [hl] at k2 k4
    have er := dec_run (m := 37) (wd := 2) (mean := mP) (l := s.data.toList) (k := k) _ i rfl k1 (by omega) (fun j a b => by have := k3 j a b; simpa using this)
    have hd := HD.out
    rw [er, omap_map] at hd
    have hpl := extract_len s i k k1 k2
    have hw := wstr w.heap.size o (s.extract i k) (wr.alloc (.cells #[.int .u8 37] 5)) (hB.below (bl_a (Below.refl _ _) _)) (by rw [← len_of, piece, hpl]; omega)
    rw [piece] at hw
    have hol : (o ++ (s.data.toList.drop i).take (k - i)).length ≤ k := by rw [List.length_append, hpl]; omega
    have hd' : decL 37 2 mP s.data.toList = (decL 37 2 mP (s.data.toList.drop k)).map ((o ++ (s.data.toList.drop i).take (k - i)) ++ ·) := by rw [hd]; congr 1; funext x; exact (List.append_assoc _ _ _).symm
    clear hd k3 er HD hpl
    generalize o ++ (s.data.toList.drop i).take (k - i) = o2 at *
    have kI : (i : Int) ≤ (k : Int) := by omega
    have hbel1 : Below w.heap.size w (wr.alloc (.cells #[.int .u8 37] 5)) := bl_a hbel _
    by_cases e : k = s.size
    · subst e
      have HD : Hid (decL 37 2 mP s.data.toList = some o2) := by
        show _ = _
        rw [hd', ← hl, List.drop_length, decL_nil]; simp
      clear k4 hB k1 k2 hd' hol
      go_wp2_with first | (go_at_call 30; refine h0.mono ?_; rintro r w0 ⟨rfl, rfl⟩) | (go_at_call 29; refine h1.mono ?_; rintro r w1 ⟨rfl, rfl⟩)
      refine hw.mono ?_
      rintro r w2 ⟨rfl, hB2, hb2⟩
      have h3 := bstr w.heap.size _ w2 hB2
      go_wp2_with (go_at_call 51; refine h3.mono ?_; rintro r w3 ⟨rfl, hb3⟩)
      go_ret2
      exact ⟨by rw [HD.out]; rfl, (hbel1.trans hb2).trans hb3⟩
    · have eI : ((k : Int) == (s.size : Int)) = false := beq_eq_false_iff_ne.2 (by omega)
      have kS : (k : Int) ≤ (s.size : Int) := by omega
      have hk : k < s.data.toList.length := by omega
      have hy := k4 (by omega)
      rw [bx_get _ k hk] at hy
      have hc : s.data.toList[k] = 37 := by
        have h5 : ((s.data.toList[k].toNat : Int) == 37) = true := by simpa using hy
        have h6 := beq_iff_eq.1 h5
        exact UInt8.toNat_inj.1 (by show _ = 37; omega)
      have htl : (s.data.toList.drop (k + 1)).length = s.size - (k + 1) := by rw [List.length_drop, hl]
      rw [List.drop_eq_getElem_cons hk, hc] at hd'
      by_cases e2 : s.size < k + 1 + 2
      · have eJ : (s.size : Int) < (k : Int) + 1 + 2 := by omega
        have HD : Hid (decL 37 2 mP s.data.toList = none) := by
          show _ = _
          rw [hd', decL_short _ _ (by omega)]; rfl
        clear k4 hB hd' hy hc htl hol
        go_wp2_with first | (go_at_call 30; refine h0.mono ?_; rintro r w0 ⟨rfl, rfl⟩) | (go_at_call 29; refine h1.mono ?_; rintro r w1 ⟨rfl, rfl⟩)
        refine hw.mono ?_
        rintro r w2 ⟨rfl, hB2, hb2⟩
        go_wp2
        go_ret2
        exact ⟨by rw [HD.out]; rfl, hbel1.trans hb2⟩
      · have eJ : ¬ (s.size : Int) < (k : Int) + 1 + 2 := by omega
        have eK : (k : Int) + 1 ≤ (k : Int) + 1 + 2 := by omega
        have eL : (k : Int) + 1 + 2 ≤ (s.size : Int) := by omega
        rw [decL_mark _ _ (by omega), List.drop_drop] at hd'
        have hpc : s.extract (k + 1) (k + 1 + 2) = bs ((s.data.toList.drop (k + 1)).take 2) := by rw [piece_bs, Nat.add_sub_cancel_left]
        have hml : ((s.data.toList.drop (k + 1)).take 2).length = 2 := by rw [List.length_take, htl]; omega
        obtain ⟨a, b, hsp⟩ := two_of hml
        rw [hsp] at hpc hd'
        have hmn := fun w' => percentMeaning_any a b w'
        cases hM : mP [a, b] with
        | none =>
          have HD : Hid (decL 37 2 mP s.data.toList = none) := by
            show _ = _
            rw [hd', hM]; rfl
          rw [hM, ← hpc] at hmn
          simp only [mV] at hmn
          clear k4 hB hd' hy hc htl hpc hml hsp hol hM
          go_wp2_with first | (go_at_call 30; refine h0.mono ?_; rintro r w0 ⟨rfl, rfl⟩) | (go_at_call 29; refine h1.mono ?_; rintro r w1 ⟨rfl, rfl⟩)
          refine hw.mono ?_
          rintro r w2 ⟨rfl, hB2, hb2⟩
          go_wp2_with (go_at_call 33; refine (hmn _).mono ?_; rintro r w3 ⟨rfl, rfl⟩)
          go_ret2
          exact ⟨by rw [HD.out]; rfl, hbel1.trans hb2⟩
        | some d =>
          have HD : Hid (decL 37 2 mP s.data.toList = (decL 37 2 mP (s.data.toList.drop (k + 1 + 2))).map ((o2 ++ [d]) ++ ·)) := by
            show _ = _
            rw [hd', hM]
            simp only [Option.bind_some]
            rw [omap_map]
            congr 1
            funext x
            simp
          rw [hM, ← hpc] at hmn
          simp only [mV] at hmn
          clear k4 hB hd' hy hc htl hpc hml hsp hM
          go_wp2_with first | (go_at_call 30; refine h0.mono ?_; rintro r w0 ⟨rfl, rfl⟩) | (go_at_call 29; refine h1.mono ?_; rintro r w1 ⟨rfl, rfl⟩)
          refine hw.mono ?_
          rintro r w2 ⟨rfl, hB2, hb2⟩
          go_wp2_with (go_at_call 33; refine (hmn _).mono ?_; rintro r w3 ⟨rfl, rfl⟩)
          refine (wbyte w.heap.size o2 d _ _ rfl hB2 (by omega)).mono ?_
          rintro r w4 ⟨rfl, hB4, hb4⟩
          have hbel4 : Below w.heap.size w w4 := (hbel1.trans hb2).trans hb4
          clear hw hmn h1 h0
          go_wp2
          go_roundw
          case rel => exact ⟨k + 1 + 2, o2 ++ [d], by omega, by go_num, hB4, by rw [List.length_append]; simp only [List.length_cons, List.length_nil]; omega, HD, hbel4⟩
          case measure => simp [intOf]; omega
end Go.Proofs.YtkbkedknoahhgaaDoor
