/-
  What pointer.Parse and pointer.Text answer: the parts of a pointer, and the pointer of parts. Conditions: at most 2^40 bytes.
-/
import Derived.Test.YtkbkedknoahhgaaDoorJoined12
namespace Go.Proofs.YtkbkedknoahhgaaDoor
open Go.RowKit
attribute [local go_sem] setCell_drewN alloc_drewN

/-- The parts behind each sign. -/
def partsL : List UInt8 → Option (List (List UInt8))
  | [] => some []
  | _ :: t => (decL 126 1 mT (t.takeWhile (· != 47))).bind fun q => (partsL (t.dropWhile (· != 47))).map (q :: ·)
termination_by l => l.length
decreasing_by all_goals (simp only [List.length_cons]; have := (List.dropWhile_suffix (fun x : UInt8 => x != 47) (l := t)).length_le; omega)
def parseL (l : List UInt8) : Option (List (List UInt8)) := if l = [] ∨ l.head? = some 47 then partsL l else none
theorem partsL_nil : partsL [] = some [] := by rw [partsL]
theorem partsL_cons (c : UInt8) (t : List UInt8) : partsL (c :: t) = (decL 126 1 mT (t.takeWhile (· != 47))).bind fun q => (partsL (t.dropWhile (· != 47))).map (q :: ·) := by rw [partsL]
theorem tw_at {p : UInt8 → Bool} : ∀ (l : List UInt8) (k : Nat), k ≤ l.length → (∀ (j : Nat) (h : j < l.length), j < k → p l[j] = true) → (∀ h : k < l.length, p l[k] = false) → l.takeWhile p = l.take k ∧ l.dropWhile p = l.drop k
  | [], k, hk, _, _ => by simp at hk; subst hk; exact ⟨rfl, rfl⟩
  | c :: t, 0, _, _, h2 => by
    have := h2 (by simp)
    simp at this
    simp [this]
  | c :: t, k + 1, hk, h1, h2 => by
    have h0 := h1 0 (by simp) (by omega)
    simp at h0
    have := tw_at t k (by simpa using hk) (fun j h hj => h1 (j + 1) (by simpa using h) (by omega)) (fun h => h2 (by simpa using h))
    simp [h0, this.1, this.2]
theorem parts_pass {l : List UInt8} {i k : Nat} (hi : i < l.length) (h1 : i + 1 ≤ k) (h2 : k ≤ l.length) (h3 : ∀ j, i + 1 ≤ j → j < k → (!(bx l j == 47)) = true) (h4 : k < l.length → (!(bx l k == 47)) = false) :
    partsL (l.drop i) = (decL 126 1 mT ((l.drop (i + 1)).take (k - (i + 1)))).bind fun q => (partsL (l.drop k)).map (q :: ·) := by
  have key : ∀ j (h : j < l.length), (l[j] != 47) = !(bx l j == 47) := fun j h => by
    rw [bx_get l j h, bne]
    congr 1
    rw [Bool.eq_iff_iff]
    simp only [beq_iff_eq]
    exact ⟨fun e => by rw [e]; rfl, fun e => UInt8.toNat_inj.1 (by show _ = 47; omega)⟩
  have := tw_at (p := (· != 47)) (l.drop (i + 1)) (k - (i + 1)) (by rw [List.length_drop]; omega)
    (fun j h hj => by rw [List.length_drop] at h; rw [List.getElem_drop, key _ (by omega)]; exact h3 _ (by omega) (by omega))
    (fun h => by rw [List.length_drop] at h; rw [List.getElem_drop, key _ (by omega)]; have e : i + 1 + (k - (i + 1)) = k := by omega
                 rw [e]; exact h4 (by omega))
  rw [List.drop_eq_getElem_cons hi, partsL_cons, this.1, this.2, List.drop_drop]
  have e : i + 1 + (k - (i + 1)) = k := by omega
  rw [e]
def errP (o : Option (List (List UInt8))) : Int := match o with | some _ => 0 | none => 70
theorem omap_map2 (f g : List (List UInt8) → List (List UInt8)) (o : Option (List (List UInt8))) : (o.map f).map g = o.map (fun x => g (f x)) := by cases o <;> rfl

set_option maxRecDepth 100000 in
set_option maxHeartbeats 1600000 in
theorem parse_own (s : ByteArray) (w : World) (hs : s.size ≤ 1099511627776) :
    Calls Tryd.prog 16 #[.string s] w fun r w' => ∃ v, r = .returned (.tuple #[v, .int .i64 (errP (parseL s.data.toList))]) ∧ OwnS w' w.heap.size v ((parseL s.data.toList).getD []) ∧ Below w.heap.size w w' := by
  have hmI : (s.size : Int) ≤ 1099511627776 := by omega
  have hl := len_of s
  have hcnt := count_one s 47
  have hcl := count_le s.data.toList 47
  have hE : (s.toList == []) = decide (s.size = 0) := by
    have := eq_bytes s ⟨#[]⟩
    rw [show (ByteArray.mk #[]).toList = [] by decide +kernel] at this
    rw [this, decide_eq_decide]
    obtain ⟨⟨x⟩⟩ := s
    simp [ByteArray.size]
  have hmk : ∀ w', (Instr.makeSlice 26 (.int .i64 0) (.int .i64 (Lib.countByte s.data.toList 47 : Int))).run Tryd.prog w' = .ok (.slice (some ⟨w'.heap.size, 0, none⟩) 0 (Lib.countByte s.data.toList 47)) (w'.alloc (.cells (madeCells #[.string ⟨#[]⟩] (Lib.countByte s.data.toList 47)) 9)) := fun w' => make_strs w' _ (by omega)
  have hmo := make_ownS w (Lib.countByte s.data.toList 47) (by unfold maxLen; omega)
  generalize Lib.countByte s.data.toList 47 = cn at *
  by_cases hz : s.size = 0
  · have hs0 : s = ⟨#[]⟩ := by
      have := eq_bytes s ⟨#[]⟩
      rw [show (ByteArray.mk #[]).toList = [] by decide +kernel, hE, decide_eq_true hz] at this
      exact of_decide_eq_true this.symm
    subst hs0
    have hE0 : parseL [] = some [] := by rw [parseL, if_pos (.inl rfl), partsL_nil]
    have HE : Hid (parseL [] = some []) := hE0
    clear hE0
    clear hz hE hl hcl hmI hs
    go_enter Tryd.func16, Tryd.ntmps16
    go_wp2_with (go_at_call 28; refine (hcnt _).mono ?_; rintro r w1 ⟨rfl, rfl⟩)
    refine wp_loop_rounds 1 ?_
    rw [rounds_succ]
    go_wp2
    go_ret2
    exact ⟨_, (by show _ = Ending.returned (.tuple #[_, .int .i64 (errP (parseL []))]); rw [HE.out]; rfl), (by show OwnS _ _ _ ((parseL []).getD []); rw [HE.out]; exact hmo), bl_a (Below.refl _ _) _⟩
  · have hn : s.toList ≠ [] := by
      intro e; rw [e, decide_eq_false hz] at hE; simp at hE
    have hx := bx_at s 0 (by omega)
    have h0S : (0 : Int) < (s.size : Int) := by omega
    by_cases hf : bx s.data.toList 0 = 47
    · have HP : Hid (parseL s.data.toList = partsL s.data.toList) := by
        show _ = _
        rw [parseL, if_pos]
        right
        rw [List.head?_eq_getElem?, List.getElem?_eq_getElem (by omega)]
        congr 1
        rw [bx_get _ _ (by omega)] at hf
        exact UInt8.toNat_inj.1 (by show _ = 47; omega)
      have hf' : (bx s.data.toList 0 != 47) = false := by simpa using hf
      generalize bx s.data.toList 0 = c0 at *
      clear hf
      go_enter Tryd.func16, Tryd.ntmps16
      go_wp2_with (go_at_call 28; refine (hcnt _).mono ?_; rintro r w1 ⟨rfl, rfl⟩)
      rename World => w
      clear hmk hf' hx hE hn
      go_loopw [4, 5] (fun v t wr => ∃ (i : Nat) (xs : List (List UInt8)), i ≤ s.size ∧ t = .int .i64 i ∧ OwnS wr w.heap.size v xs ∧ xs.length ≤ i ∧ Hid (partsL s.data.toList = (partsL (s.data.toList.drop i)).map (xs ++ ·)) ∧ Below w.heap.size w wr) (fun _ t _ => s.size - (intOf t).toNat)
      case atStart => exact ⟨0, [], Nat.zero_le _, rfl, hmo, Nat.zero_le _, by show _ = _; rw [List.drop_zero]; cases partsL s.data.toList <;> rfl, bl_a (Below.refl _ _) _⟩
      case round =>
        obtain ⟨i, xs, hi, rfl, hown, hxl, HD, hbel⟩ := hrel
        by_cases hlt : i < s.size
        · have hI : (i : Int) < (s.size : Int) := by omega
          have h0 := is_any 47 wr
          have h1 := sought_is s (i + 1) 47 wr.heap.size (wr.alloc (.cells #[.int .u8 47] 5)) hlt (by omega) (by rw [World.cell?_alloc_at _ _ _ _ rfl]; rfl)
          have k1 := pass_ge s.data.toList (fun c => !(c == 47)) (i + 1)
          have k2 := pass_le (p := fun c => !(c == 47)) (show i + 1 ≤ s.data.toList.length by omega)
          have k3 := pass_in (l := s.data.toList) (p := fun c => !(c == 47)) _ (i + 1) (Nat.le_refl _)
          have k4 := pass_end (l := s.data.toList) (p := fun c => !(c == 47)) _ (i + 1) (Nat.le_refl _)
          generalize pass s.data.toList (fun c => !(c == 47)) (i + 1) = k at *
          have hpp := parts_pass (by omega) k1 k2 k3 k4
          rw [hl] at k2
          have e1 : ((i + 1 : Nat) : Int) = (i : Int) + 1 := by omega
          rw [e1] at h1
          have h2 := decoded_tilde (s.extract (i + 1) k) (wr.alloc (.cells #[.int .u8 47] 5)) (by rw [← len_of, piece, extract_len s (i + 1) k k1 k2]; omega)
          rw [piece] at h2
          have kI : (i : Int) + 1 ≤ (k : Int) := by omega
          have kS : (k : Int) ≤ (s.size : Int) := by omega
          have hbel1 : Below w.heap.size w (wr.alloc (.cells #[.int .u8 47] 5)) := bl_a hbel _
          have hown1 : OwnS (wr.alloc (.cells #[.int .u8 47] 5)) w.heap.size u4 xs := hown.below (bl_a (Below.refl _ _) _)
          have hd := HD.out
          rw [hpp] at hd
          clear k3 k4 hpp e1 HD hown
          cases hq : decL 126 1 mT ((s.data.toList.drop (i + 1)).take (k - (i + 1))) with
          | none =>
            have HE : Hid (parseL s.data.toList = none) := by show _ = _; rw [HP.out, hd, hq]; rfl
            rw [hq] at h2
            simp only [dV] at h2
            clear hq hd HP hown1
            go_wp2_with first | (go_at_call 30; refine h0.mono ?_; rintro r w0 ⟨rfl, rfl⟩) | (go_at_call 29; refine h1.mono ?_; rintro r w1 ⟨rfl, rfl⟩) | (go_at_call 31; refine h2.mono ?_; rintro r w2 ⟨rfl, hb2⟩)
            go_ret2
            exact ⟨_, by rw [HE.out]; rfl, by rw [HE.out]; exact World.ownsRow_nil _ _ _ _, bl_t hbel1 hb2⟩
          | some q =>
            have HD2 : Hid (partsL s.data.toList = (partsL (s.data.toList.drop k)).map ((xs ++ [q]) ++ ·)) := by
              show _ = _
              rw [hd, hq]
              simp only [Option.bind_some]
              rw [omap_map2]
              congr 1
              funext x
              simp
            rw [hq] at h2
            simp only [dV] at h2
            clear hq hd
            go_wp2_with first | (go_at_call 30; refine h0.mono ?_; rintro r w0 ⟨rfl, rfl⟩) | (go_at_call 29; refine h1.mono ?_; rintro r w1 ⟨rfl, rfl⟩) | (go_at_call 31; refine h2.mono ?_; rintro r w2 ⟨rfl, hb2⟩) | (at_builtin; refine wpList_append_str rfl (.tmp 39) (.tmp 41) rfl w.heap.size _ xs rfl (hown1.below (by assumption)) q rfl (by omega) (bl_t hbel1 (by assumption)).size ?_)
            intro v3 w3 hown3 hb3
            have hbel3 : Below w.heap.size w w3 := (bl_t hbel1 hb2).trans hb3
            clear h0 h1 h2 hown1 hb3
            go_wp2
            go_roundw
            case rel => exact ⟨k, xs ++ [q], by omega, rfl, hown3, by rw [List.length_append]; simp only [List.length_cons, List.length_nil]; omega, HD2, hbel3⟩
            case measure => simp [intOf]; omega
        · have hI : ¬ (i : Int) < (s.size : Int) := by omega
          have HE : Hid (parseL s.data.toList = some xs) := by
            show _ = _
            have e : s.data.toList.drop i = [] := List.drop_eq_nil_of_le (by omega)
            rw [HP.out, HD.out, e, partsL_nil]; simp
          clear HD
          go_wp2
          go_ret2
          exact ⟨_, by rw [HE.out]; rfl, by rw [HE.out]; exact hown, hbel⟩
    · have HE : Hid (parseL s.data.toList = none) := by
        show _ = _
        unfold parseL
        rw [if_neg]
        rintro (e | e)
        · rw [e] at hl; simp at hl; omega
        · rw [List.head?_eq_getElem?, List.getElem?_eq_getElem (by omega)] at e
          injection e with e
          exact hf (by rw [bx_get _ _ (by omega), e]; rfl)
      have hf' : (bx s.data.toList 0 != 47) = true := by simpa using hf
      generalize bx s.data.toList 0 = c0 at *
      go_enter Tryd.func16, Tryd.ntmps16
      go_wp2_with fail
      go_ret2
      exact ⟨_, by rw [HE.out]; rfl, by rw [HE.out]; exact World.ownsRow_nil _ _ _ _, Below.refl _ _⟩
theorem parse_any (s : ByteArray) (w : World) (hs : s.size ≤ 1099511627776) :
    Calls Tryd.prog 16 #[.string s] w fun r w' => ∃ v, r = .returned (.tuple #[v, .int .i64 (errP (parseL s.data.toList))]) ∧ SRow w' v ((parseL s.data.toList).getD []) ∧ Below w.heap.size w w' :=
  (parse_own s w hs).mono fun _ _ ⟨v, h1, h2, h3⟩ => ⟨v, h1, SRow.of_own h2, h3⟩

/-- A pointer. -/
def textL (xs : List (List UInt8)) : List UInt8 := xs.flatMap fun x => 47 :: encL ndT codeT x
def sumL (xs : List (List UInt8)) : Nat := (xs.map fun x => x.length + 1).sum
theorem textL_len (xs : List (List UInt8)) : (textL xs).length ≤ 3 * sumL xs := by
  induction xs with
  | nil => simp [textL, sumL]
  | cons x xs ih =>
    have e1 : textL (x :: xs) = 47 :: encL ndT codeT x ++ textL xs := by simp [textL]
    have e2 : sumL (x :: xs) = x.length + 1 + sumL xs := by simp [sumL]
    have := enc_len (p := ndT) codeT_len x
    rw [e1, e2, List.length_append, List.length_cons]
    omega
theorem textL_append (a b : List (List UInt8)) : textL (a ++ b) = textL a ++ textL b := by simp [textL]
theorem sumL_append (a b : List (List UInt8)) : sumL (a ++ b) = sumL a + sumL b := by unfold sumL; rw [List.map_append, List.sum_append]
theorem sumL_take (xs : List (List UInt8)) (i : Nat) (h : i < xs.length) : sumL (xs.take (i + 1)) = sumL (xs.take i) + (xs[i].length + 1) := by
  rw [List.take_add_one, List.getElem?_eq_getElem h, sumL_append]
  rfl
theorem sumL_le (xs : List (List UInt8)) (i : Nat) : sumL (xs.take i) ≤ sumL xs := by
  have : xs = xs.take i ++ xs.drop i := (List.take_append_drop i xs).symm
  have e : sumL xs = sumL (xs.take i) + sumL (xs.drop i) := by
    conv => lhs; rw [this]
    rw [sumL_append]
  omega
theorem textL_take (xs : List (List UInt8)) (i : Nat) (h : i < xs.length) : textL (xs.take (i + 1)) = textL (xs.take i) ++ [47] ++ encL ndT codeT xs[i] := by
  rw [List.take_add_one, List.getElem?_eq_getElem h, textL_append]
  simp [textL]

set_option maxRecDepth 100000 in
set_option maxHeartbeats 1600000 in
theorem text_any (v : Value) (xs : List (List UInt8)) (w : World) (hv : SRow w v xs) (hs : sumL xs ≤ 1099511627776) :
    Calls Tryd.prog 41 #[v] w fun r w' => r = .returned (.string (bs (textL xs))) ∧ Below w.heap.size w w' := by
  have hxl : xs.length ≤ sumL xs := by
    clear hs hv
    induction xs with
    | nil => simp
    | cons x xs ih =>
      have e2 : sumL (x :: xs) = x.length + 1 + sumL xs := by simp [sumL]
      rw [e2, List.length_cons]; omega
  rcases hv with ⟨rfl, a, c, rfl⟩ | ⟨b, off, c, rfl, hc⟩
  · go_enter Tryd.func41, Tryd.ntmps41
    go_wp2_with fail
    refine wp_loop_rounds 1 ?_
    rw [rounds_succ]
    go_wp2_with (go_at_call 51; refine (bstr w.heap.size _ _ (bb_fresh w)).mono ?_; rintro r w3 ⟨rfl, hb3⟩)
    go_ret
    exact ⟨rfl, (bl_a (Below.refl _ _) _).trans hb3⟩
  · have hlI : (xs.length : Int) ≤ 1099511627776 := by omega
    go_enter Tryd.func41, Tryd.ntmps41
    go_wp2_with fail
    go_loopw [8] (fun t wr => ∃ i : Nat, i ≤ xs.length ∧ t = .int .i64 i ∧ BB w.heap.size (textL (xs.take i)) wr ∧ Below w.heap.size w wr) (fun t _ => xs.length - (intOf t).toNat)
    case atStart => exact ⟨0, Nat.zero_le _, rfl, bb_fresh w, bl_a (Below.refl _ _) _⟩
    case round =>
      obtain ⟨i, hi, rfl, hB, hbel⟩ := hrel
      by_cases hlt : i < xs.length
      · have hI : (i : Int) < (xs.length : Int) := by omega
        have hcell : wr.cell? ⟨b, off + i, none⟩ = some (.string (bs (xs[i]'hlt))) := by rw [hbel.cell (World.block_lt_of_cell? w _ (hc i hlt))]; exact hc i hlt
        have t1 := textL_len (xs.take i)
        have t2 := sumL_take xs i hlt
        have t3 := sumL_le xs (i + 1)
        have t4 := textL_take xs i hlt
        have t5 := enc_len (p := ndT) codeT_len (xs[i]'hlt)
        have hwb := wbyte w.heap.size _ 47 47 wr rfl hB (by omega)
        have hen := fun w' => encoded_tilde (bs (xs[i]'hlt)) w' (by rw [bs_size]; omega)
        simp only [bs_list] at hen
        have HT : Hid (textL (xs.take (i + 1)) = textL (xs.take i) ++ [47] ++ encL ndT codeT xs[i]) := t4
        have hws := fun (w' : World) (hB' : BB w.heap.size (textL (xs.take i) ++ [47]) w') => wstr w.heap.size _ (bs (encL ndT codeT xs[i])) w' hB' (by rw [bs_size, List.length_append]; simp only [List.length_cons, List.length_nil]; omega)
        simp only [bs_list, ← t4] at hws
        clear t1 t2 t3 t4 t5 hB
        generalize xs[i] = x at *
        go_wp2_with first | (go_at_call 52; refine hwb.mono ?_; rintro r w1 ⟨rfl, hB1, hb1⟩) | (go_at_call 58; refine (hen _).mono ?_; rintro r w2 ⟨rfl, hb2⟩)
        refine (hws _ (hB1.below hb2)).mono ?_
        rintro r w3 ⟨rfl, hB3, hb3⟩
        have hbel3 : Below w.heap.size w w3 := ((hbel.trans hb1).trans (hb2.mono hB1.2)).trans hb3
        clear hwb hen hws
        go_wp2
        go_roundw
        case rel => exact ⟨i + 1, by omega, by go_num, hB3, hbel3⟩
        case measure => simp [intOf]; omega
      · have hI : ¬ (i : Int) < (xs.length : Int) := by omega
        have e : i = xs.length := by omega
        subst e
        have hbs := bstr w.heap.size _ wr hB
        rw [List.take_length] at hbs
        go_wp2_with (go_at_call 51; refine hbs.mono ?_; rintro r w3 ⟨rfl, hb3⟩)
        go_ret
        exact ⟨rfl, hbel.trans hb3⟩
end Go.Proofs.YtkbkedknoahhgaaDoor
