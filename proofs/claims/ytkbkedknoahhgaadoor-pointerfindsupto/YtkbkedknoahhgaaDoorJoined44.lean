/-
  What ref7.Parse answers: the parts of a pointer. Conditions: at most 2^38 bytes.
-/
import Derived.Test.YtkbkedknoahhgaaDoorJoined36
import Derived.Laws.AppendOwnNone
import Derived.Deep.RegionHeld3
import Derived.Deep.RegionWith
namespace Go.Proofs.YtkbkedknoahhgaaDoor
open Go.RowKit
attribute [local go_sem] setCell_drewN alloc_drewN

/-- What is still to come: a part that has begun, the parts ahead of it. -/
def FP (xs : List (List UInt8)) (wd rest : List UInt8) : Option (List (List UInt8)) :=
  (decL 126 1 mT (rest.takeWhile (· != 47))).bind fun q => (partsL (rest.dropWhile (· != 47))).map fun ys => xs ++ (wd ++ q) :: ys
theorem FP_start (t : List UInt8) : partsL (47 :: t) = FP [] [] t := by
  rw [partsL_cons, FP]; rfl
theorem FP_nil (xs : List (List UInt8)) (wd : List UInt8) : FP xs wd [] = some (xs ++ [wd]) := by
  simp [FP, decL_nil, partsL_nil]
theorem FP_sign (xs : List (List UInt8)) (wd t : List UInt8) : FP xs wd (47 :: t) = FP (xs ++ [wd]) [] t := by
  have e1 : List.takeWhile (· != 47) (47 :: t) = [] := by simp
  have e2 : List.dropWhile (· != 47) (47 :: t) = 47 :: t := by simp
  rw [FP, e1, e2, decL_nil, Option.bind_some, partsL_cons, FP]
  cases decL 126 1 mT (t.takeWhile (· != 47)) with
  | none => rfl
  | some q =>
    simp only [Option.bind_some]
    rw [omap_map2]
    congr 1
    funext ys
    simp
theorem FP_plain (xs : List (List UInt8)) (wd t : List UInt8) (c : UInt8) (h1 : c ≠ 47) (h2 : c ≠ 126) : FP xs wd (c :: t) = FP xs (wd ++ [c]) t := by
  have e1 : List.takeWhile (· != 47) (c :: t) = c :: List.takeWhile (· != 47) t := by simp [h1]
  have e2 : List.dropWhile (· != 47) (c :: t) = List.dropWhile (· != 47) t := by simp [h1]
  rw [FP, e1, e2, decL_ne _ _ _ h2, FP]
  cases decL 126 1 mT (t.takeWhile (· != 47)) with
  | none => rfl
  | some q => simp
theorem FP_code (xs : List (List UInt8)) (wd t : List UInt8) (e d : UInt8) (he : e ≠ 47) (h : mT [e] = some d) : FP xs wd (126 :: e :: t) = FP xs (wd ++ [d]) t := by
  have e1 : List.takeWhile (· != 47) (126 :: e :: t) = 126 :: e :: List.takeWhile (· != 47) t := by simp [he]
  have e2 : List.dropWhile (· != 47) (126 :: e :: t) = List.dropWhile (· != 47) t := by simp [he]
  rw [FP, e1, e2, decL_mark _ _ (by simp), FP]
  show ((mT [e]).bind fun d => (decL 126 1 mT (t.takeWhile (· != 47))).map (d :: ·)).bind _ = _
  rw [h, Option.bind_some]
  cases decL 126 1 mT (t.takeWhile (· != 47)) with
  | none => rfl
  | some q => simp
theorem FP_end (xs : List (List UInt8)) (wd : List UInt8) : FP xs wd [126] = none := by
  rw [FP, show List.takeWhile (· != 47) [(126 : UInt8)] = [126] by decide, decL_short _ _ (by decide)]; rfl
theorem FP_bad (xs : List (List UInt8)) (wd t : List UInt8) (e : UInt8) (h1 : e ≠ 48) (h2 : e ≠ 49) : FP xs wd (126 :: e :: t) = none := by
  by_cases h3 : e = 47
  · subst h3
    rw [FP, show List.takeWhile (· != 47) (126 :: 47 :: t) = [126] by simp, decL_short _ _ (by decide)]; rfl
  · have e1 : List.takeWhile (· != 47) (126 :: e :: t) = 126 :: e :: List.takeWhile (· != 47) t := by simp [h3]
    rw [FP, e1, decL_mark _ _ (by simp)]
    show ((mT [e]).bind fun d => (decL 126 1 mT (t.takeWhile (· != 47))).map (d :: ·)).bind _ = _
    have : mT [e] = none := by unfold mT; split <;> simp_all
    rw [this]; rfl
theorem bx_ne {l : List UInt8} {i : Nat} (h : i < l.length) {n : UInt8} (hn : l[i] ≠ n) : bx l i ≠ (n.toNat : Int) := by
  rw [bx_get l i h]; intro e; exact hn (UInt8.toNat_inj.1 (by omega))

set_option maxRecDepth 100000 in
set_option maxHeartbeats 1600000 in
theorem rparse_any (s : ByteArray) (w : World) (hs : s.size ≤ 274877906944) :
    Calls Tryd.prog 20 #[.string s] w fun r w' => ∃ v, r = .returned (.tuple #[v, .int .i64 (errP (parseL s.data.toList))]) ∧ SRow w' v ((parseL s.data.toList).getD []) ∧ Below w.heap.size w w' := by
  have hmI : (s.size : Int) ≤ 274877906944 := by omega
  have hl := len_of s
  have hE : (s.toList == []) = decide (s.size = 0) := by
    have := eq_bytes s ⟨#[]⟩
    rw [show (ByteArray.mk #[]).toList = [] by decide +kernel] at this
    rw [this, decide_eq_decide]
    obtain ⟨⟨x⟩⟩ := s
    simp [ByteArray.size]
  by_cases hz : s.size = 0
  · have HE : Hid (parseL s.data.toList = some []) := by
      have : s.data.toList = [] := List.length_eq_zero_iff.1 (by omega)
      show _ = _
      rw [this, parseL, if_pos (.inl rfl), partsL_nil]
    rw [decide_eq_true hz] at hE
    go_enter Tryd.func20, Tryd.ntmps20
    go_wp2
    go_ret2
    exact ⟨_, by rw [HE.out]; rfl, by rw [HE.out]; exact .inl ⟨rfl, _, _, rfl⟩, Below.refl _ _⟩
  · rw [decide_eq_false hz] at hE
    have hx := bx_at s 0 (by omega)
    have h0S : (0 : Int) < (s.size : Int) := by omega
    by_cases hf : bx s.data.toList 0 = 47
    · have hP : parseL s.data.toList = FP [] [] (s.data.toList.drop 1) := by
        have hd : s.data.toList = 47 :: s.data.toList.drop 1 := by
          have := List.drop_eq_getElem_cons (l := s.data.toList) (i := 0) (by omega)
          rw [List.drop_zero] at this
          have e47 : s.data.toList[0] = 47 := by
            rw [bx_get _ _ (by omega)] at hf
            exact UInt8.toNat_inj.1 (by show _ = 47; omega)
          rw [e47] at this
          exact this
        have h2 : s.data.toList.head? = some 47 := by rw [hd]; rfl
        rw [parseL, if_pos (.inr h2), ← FP_start, ← hd]
      have hf' : (bx s.data.toList 0 != 47) = false := by simpa using hf
      have HP : Hid (parseL s.data.toList = FP [] [] (s.data.toList.drop 1)) := hP
      generalize bx s.data.toList 0 = c0 at *
      clear hf hP
      go_enter Tryd.func20, Tryd.ntmps20
      go_wp2_with fail
      clear hf' hx
      go_loopw [4, 5, 6] (fun v wv t wr => ∃ (i : Nat) (xs : List (List UInt8)) (wd : List UInt8), 1 ≤ i ∧ i ≤ s.size + 1 ∧ t = .int .i64 i ∧ wv = .string (bs wd) ∧ OwnS wr w.heap.size v xs ∧ xs.length ≤ i ∧ wd.length ≤ i ∧ Hid ((i ≤ s.size → parseL s.data.toList = FP xs wd (s.data.toList.drop i)) ∧ (s.size < i → parseL s.data.toList = some xs)) ∧ Below w.heap.size w wr) (fun _ _ t _ => s.size + 1 - (intOf t).toNat)
      case atStart => exact ⟨1, [], [], Nat.le_refl _, by omega, rfl, rfl, World.ownsRow_nil _ _ _ _, by simp, by simp, ⟨fun _ => HP.out, fun h => by omega⟩, Below.refl _ _⟩
      case round =>
        obtain ⟨i, xs, wd, hi1, hi2, rfl, rfl, hO, hxl, hwl, HD, hbel⟩ := hrel
        have hbl := hbel.size
        clear HP
        by_cases hle : i ≤ s.size
        · have hI : (i : Int) ≤ (s.size : Int) := by omega
          have hd := HD.out.1 hle
          have hA : (bs wd).size ≤ 900000000000 := by rw [bs_size]; omega
          by_cases hend : i = s.size
          · subst hend
            have e : s.data.toList.drop s.size = [] := List.drop_eq_nil_of_le (by omega)
            rw [e, FP_nil] at hd
            have HD2 : Hid ((s.size + 1 ≤ s.size → parseL s.data.toList = FP (xs ++ [wd]) [] (s.data.toList.drop (s.size + 1))) ∧ (s.size < s.size + 1 → parseL s.data.toList = some (xs ++ [wd]))) := ⟨fun h => by omega, fun _ => hd⟩
            clear hd HD e hA
            go_wp2_with (at_builtin; refine wpList_append_str rfl (.tmp 29) (.tmp 31) rfl w.heap.size _ xs rfl hO wd rfl (by omega) hbl ?_)
            intro v3 w3 hO3 hb3
            have hbel3 := hbel.trans hb3
            clear hO hb3
            go_wp2
            go_roundw
            case rel => exact ⟨s.size + 1, xs ++ [wd], [], by omega, by omega, by go_num, rfl, hO3, by rw [List.length_append]; simp only [List.length_cons, List.length_nil]; omega, by simp, HD2, hbel3⟩
            case measure => simp [intOf]
          · have hlt : i < s.size := by omega
            have hil : i < s.data.toList.length := by omega
            have hIe : ((i : Int) == (s.size : Int)) = false := beq_eq_false_iff_ne.2 (by omega)
            have hIl : (i : Int) < (s.size : Int) := by omega
            have hx := bx_at s i hlt
            rw [List.drop_eq_getElem_cons hil] at hd
            by_cases c1 : s.data.toList[i] = 47
            · have c1' : bx s.data.toList i = 47 := by rw [bx_get _ i hil, c1]; rfl
              rw [c1'] at hx
              rw [c1, FP_sign] at hd
              have HD2 : Hid ((i + 1 ≤ s.size → parseL s.data.toList = FP (xs ++ [wd]) [] (s.data.toList.drop (i + 1))) ∧ (s.size < i + 1 → parseL s.data.toList = some (xs ++ [wd]))) := ⟨fun _ => hd, fun h => by omega⟩
              clear hd HD hA c1 c1'
              go_wp2_with (at_builtin; refine wpList_append_str rfl (.tmp 29) (.tmp 31) rfl w.heap.size _ xs rfl hO wd rfl (by omega) hbl ?_)
              intro v3 w3 hO3 hb3
              have hbel3 := hbel.trans hb3
              clear hO hb3
              go_wp2
              go_roundw
              case rel => exact ⟨i + 1, xs ++ [wd], [], by omega, by omega, by go_num, rfl, hO3, by rw [List.length_append]; simp only [List.length_cons, List.length_nil]; omega, by simp, HD2, hbel3⟩
              case measure => simp [intOf]; omega
            · have c1' : (bx s.data.toList i == 47) = false := beq_eq_false_iff_ne.2 (bx_ne hil c1)
              by_cases c2 : s.data.toList[i] = 126
              · have c2' : bx s.data.toList i = 126 := by rw [bx_get _ i hil, c2]; rfl
                rw [c2'] at hx
                rw [c2] at hd
                clear c1' c2' c1 c2
                by_cases hn1 : i + 1 < s.size
                · have hjl : i + 1 < s.data.toList.length := by omega
                  have hI1 : (i : Int) + 1 < (s.size : Int) := by omega
                  have hx1 := bx_at s (i + 1) hn1
                  rw [List.drop_eq_getElem_cons hjl] at hd
                  by_cases d1 : s.data.toList[i + 1] = 48
                  · have d1' : bx s.data.toList (i + 1) = 48 := by rw [bx_get _ _ hjl, d1]; rfl
                    rw [d1'] at hx1
                    rw [d1, FP_code _ _ _ 48 126 (by decide) rfl] at hd
                    have HT : Hid (bs wd ++ ⟨#[126]⟩ = bs (wd ++ [126])) := bs_append wd [126]
                    have HD2 : Hid ((i + 2 ≤ s.size → parseL s.data.toList = FP xs (wd ++ [126]) (s.data.toList.drop (i + 2))) ∧ (s.size < i + 2 → parseL s.data.toList = some xs)) := ⟨fun _ => hd, fun h => by omega⟩
                    clear hd HD d1 d1'
                    generalize bs wd = A at *
                    go_wp2_with fail
                    go_roundw
                    case rel => exact ⟨i + 2, xs, wd ++ [126], by omega, by omega, by go_num, by rw [HT.out], hO, by omega, by rw [List.length_append]; simp only [List.length_cons, List.length_nil]; omega, HD2, hbel⟩
                    case measure => simp [intOf]; omega
                  · have d1' : (bx s.data.toList (i + 1) == 48) = false := beq_eq_false_iff_ne.2 (bx_ne hjl d1)
                    by_cases d2 : s.data.toList[i + 1] = 49
                    · have d2' : bx s.data.toList (i + 1) = 49 := by rw [bx_get _ _ hjl, d2]; rfl
                      rw [d2'] at hx1
                      rw [d2, FP_code _ _ _ 49 47 (by decide) rfl] at hd
                      have HT : Hid (bs wd ++ ⟨#[47]⟩ = bs (wd ++ [47])) := bs_append wd [47]
                      have HD2 : Hid ((i + 2 ≤ s.size → parseL s.data.toList = FP xs (wd ++ [47]) (s.data.toList.drop (i + 2))) ∧ (s.size < i + 2 → parseL s.data.toList = some xs)) := ⟨fun _ => hd, fun h => by omega⟩
                      clear hd HD d1 d1' d2 d2'
                      generalize bs wd = A at *
                      go_wp2_with fail
                      go_roundw
                      case rel => exact ⟨i + 2, xs, wd ++ [47], by omega, by omega, by go_num, by rw [HT.out], hO, by omega, by rw [List.length_append]; simp only [List.length_cons, List.length_nil]; omega, HD2, hbel⟩
                      case measure => simp [intOf]; omega
                    · have d2' : (bx s.data.toList (i + 1) == 49) = false := beq_eq_false_iff_ne.2 (bx_ne hjl d2)
                      rw [FP_bad _ _ _ _ d1 d2] at hd
                      have HE : Hid (parseL s.data.toList = none) := hd
                      clear hd HD d1 d2
                      generalize bx s.data.toList (i + 1) = y at *
                      go_wp2
                      go_ret2
                      exact ⟨_, by rw [HE.out]; rfl, by rw [HE.out]; exact .inl ⟨rfl, _, _, rfl⟩, hbel⟩
                · have hI1 : ¬ (i : Int) + 1 < (s.size : Int) := by omega
                  have e : s.data.toList.drop (i + 1) = [] := List.drop_eq_nil_of_le (by omega)
                  rw [e, FP_end] at hd
                  have HE : Hid (parseL s.data.toList = none) := hd
                  clear hd HD e
                  go_wp2
                  go_ret2
                  exact ⟨_, by rw [HE.out]; rfl, by rw [HE.out]; exact .inl ⟨rfl, _, _, rfl⟩, hbel⟩
              · have c2' : (bx s.data.toList i != 126) = true := by simpa using bx_ne hil c2
                rw [FP_plain _ _ _ _ c1 c2] at hd
                have hP1 := one_piece s i hlt
                have hPs : (s.extract i (i + 1)).size = 1 := by rw [hP1, bs_size]; rfl
                have HT : Hid (bs wd ++ s.extract i (i + 1) = bs (wd ++ [s.data.toList[i]])) := by show _ = _; rw [hP1]; exact bs_append _ _
                have HD2 : Hid ((i + 1 ≤ s.size → parseL s.data.toList = FP xs (wd ++ [s.data.toList[i]]) (s.data.toList.drop (i + 1))) ∧ (s.size < i + 1 → parseL s.data.toList = some xs)) := ⟨fun _ => hd, fun h => by omega⟩
                clear hd HD hP1 c1 c2
                generalize s.data.toList[i] = c at *
                generalize bx s.data.toList i = x at *
                generalize bs wd = A at *
                go_wp2_with fail
                go_roundw
                case rel => exact ⟨i + 1, xs, wd ++ [c], by omega, by omega, by go_num, by rw [HT.out], hO, by omega, by rw [List.length_append]; simp only [List.length_cons, List.length_nil]; omega, HD2, hbel⟩
                case measure => simp [intOf]; omega
        · have hI : ¬ (i : Int) ≤ (s.size : Int) := by omega
          have HE : Hid (parseL s.data.toList = some xs) := HD.out.2 (by omega)
          clear HD
          go_wp2
          go_ret2
          exact ⟨_, by rw [HE.out]; rfl, by rw [HE.out]; exact SRow.of_own hO, hbel⟩
    · have HE : Hid (parseL s.data.toList = none) := by
        show _ = _
        unfold parseL
        rw [if_neg]
        rintro (e | e)
        · rw [e] at hl; simp at hl; omega
        · rw [List.head?_eq_getElem?, List.getElem?_eq_getElem (by omega)] at e
          injection e with e
          exact hf (by rw [bx_get _ _ (by omega), e]; rfl)
      have hf' : (bx s.data.toList 0 != 47) = true := by simpa using hf
      generalize bx s.data.toList 0 = c0 at *
      go_enter Tryd.func20, Tryd.ntmps20
      go_wp2_with fail
      go_ret2
      exact ⟨_, by rw [HE.out]; rfl, by rw [HE.out]; exact .inl ⟨rfl, _, _, rfl⟩, Below.refl _ _⟩
end Go.Proofs.YtkbkedknoahhgaaDoor
