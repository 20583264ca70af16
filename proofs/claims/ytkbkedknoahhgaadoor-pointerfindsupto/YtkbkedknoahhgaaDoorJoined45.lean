/-
  What ref7.Parse answers lies in no block that was there; ref7.All. Conditions: at most 2^38 bytes; nothing in a value is longer than 2^20, at most 2^20 values, at most 1000 deep.
-/
import Derived.Test.YtkbkedknoahhgaaDoorJoined41
import Derived.Test.YtkbkedknoahhgaaDoorJoined43
import Derived.Test.YtkbkedknoahhgaaDoorJoined44
namespace Go.Proofs.YtkbkedknoahhgaaDoor
open Go.RowKit
attribute [local go_sem] setCell_drewN alloc_drewN

set_option maxRecDepth 100000 in
set_option maxHeartbeats 1600000 in
theorem rparse_own (s : ByteArray) (w : World) (hs : s.size ≤ 274877906944) :
    Calls Tryd.prog 20 #[.string s] w fun r w' => ∃ v, r = .returned (.tuple #[v, .int .i64 (errP (parseL s.data.toList))]) ∧ OwnS w' w.heap.size v ((parseL s.data.toList).getD []) ∧ Below w.heap.size w w' := by
  have hmI : (s.size : Int) ≤ 274877906944 := by omega
  have hl := len_of s
  have hE : (s.toList == []) = decide (s.size = 0) := by
    have := eq_bytes s ⟨#[]⟩
    rw [show (ByteArray.mk #[]).toList = [] by decide +kernel] at this
    rw [this, decide_eq_decide]
    obtain ⟨⟨x⟩⟩ := s
    simp [ByteArray.size]
  by_cases hz : s.size = 0
  · have HE : Hid (parseL s.data.toList = some []) := by
      have : s.data.toList = [] := List.length_eq_zero_iff.1 (by omega)
      show _ = _
      rw [this, parseL, if_pos (.inl rfl), partsL_nil]
    rw [decide_eq_true hz] at hE
    go_enter Tryd.func20, Tryd.ntmps20
    go_wp2
    go_ret2
    exact ⟨_, by rw [HE.out]; rfl, by rw [HE.out]; exact World.ownsRow_nil _ _ _ _, Below.refl _ _⟩
  · rw [decide_eq_false hz] at hE
    have hx := bx_at s 0 (by omega)
    have h0S : (0 : Int) < (s.size : Int) := by omega
    by_cases hf : bx s.data.toList 0 = 47
    · have hP : parseL s.data.toList = FP [] [] (s.data.toList.drop 1) := by
        have hd : s.data.toList = 47 :: s.data.toList.drop 1 := by
          have := List.drop_eq_getElem_cons (l := s.data.toList) (i := 0) (by omega)
          rw [List.drop_zero] at this
          have e47 : s.data.toList[0] = 47 := by
            rw [bx_get _ _ (by omega)] at hf
            exact UInt8.toNat_inj.1 (by show _ = 47; omega)
          rw [e47] at this
          exact this
        have h2 : s.data.toList.head? = some 47 := by rw [hd]; rfl
        rw [parseL, if_pos (.inr h2), ← FP_start, ← hd]
      have hf' : (bx s.data.toList 0 != 47) = false := by simpa using hf
      have HP : Hid (parseL s.data.toList = FP [] [] (s.data.toList.drop 1)) := hP
      generalize bx s.data.toList 0 = c0 at *
      clear hf hP
      go_enter Tryd.func20, Tryd.ntmps20
      go_wp2_with fail
      clear hf' hx
      go_loopw [4, 5, 6] (fun v wv t wr => ∃ (i : Nat) (xs : List (List UInt8)) (wd : List UInt8), 1 ≤ i ∧ i ≤ s.size + 1 ∧ t = .int .i64 i ∧ wv = .string (bs wd) ∧ OwnS wr w.heap.size v xs ∧ xs.length ≤ i ∧ wd.length ≤ i ∧ Hid ((i ≤ s.size → parseL s.data.toList = FP xs wd (s.data.toList.drop i)) ∧ (s.size < i → parseL s.data.toList = some xs)) ∧ Below w.heap.size w wr) (fun _ _ t _ => s.size + 1 - (intOf t).toNat)
      case atStart => exact ⟨1, [], [], Nat.le_refl _, by omega, rfl, rfl, World.ownsRow_nil _ _ _ _, by simp, by simp, ⟨fun _ => HP.out, fun h => by omega⟩, Below.refl _ _⟩
      case round =>
        obtain ⟨i, xs, wd, hi1, hi2, rfl, rfl, hO, hxl, hwl, HD, hbel⟩ := hrel
        have hbl := hbel.size
        clear HP
        by_cases hle : i ≤ s.size
        · have hI : (i : Int) ≤ (s.size : Int) := by omega
          have hd := HD.out.1 hle
          have hA : (bs wd).size ≤ 900000000000 := by rw [bs_size]; omega
          by_cases hend : i = s.size
          · subst hend
            have e : s.data.toList.drop s.size = [] := List.drop_eq_nil_of_le (by omega)
            rw [e, FP_nil] at hd
            have HD2 : Hid ((s.size + 1 ≤ s.size → parseL s.data.toList = FP (xs ++ [wd]) [] (s.data.toList.drop (s.size + 1))) ∧ (s.size < s.size + 1 → parseL s.data.toList = some (xs ++ [wd]))) := ⟨fun h => by omega, fun _ => hd⟩
            clear hd HD e hA
            go_wp2_with (at_builtin; refine wpList_append_str rfl (.tmp 29) (.tmp 31) rfl w.heap.size _ xs rfl hO wd rfl (by omega) hbl ?_)
            intro v3 w3 hO3 hb3
            have hbel3 := hbel.trans hb3
            clear hO hb3
            go_wp2
            go_roundw
            case rel => exact ⟨s.size + 1, xs ++ [wd], [], by omega, by omega, by go_num, rfl, hO3, by rw [List.length_append]; simp only [List.length_cons, List.length_nil]; omega, by simp, HD2, hbel3⟩
            case measure => simp [intOf]
          · have hlt : i < s.size := by omega
            have hil : i < s.data.toList.length := by omega
            have hIe : ((i : Int) == (s.size : Int)) = false := beq_eq_false_iff_ne.2 (by omega)
            have hIl : (i : Int) < (s.size : Int) := by omega
            have hx := bx_at s i hlt
            rw [List.drop_eq_getElem_cons hil] at hd
            by_cases c1 : s.data.toList[i] = 47
            · have c1' : bx s.data.toList i = 47 := by rw [bx_get _ i hil, c1]; rfl
              rw [c1'] at hx
              rw [c1, FP_sign] at hd
              have HD2 : Hid ((i + 1 ≤ s.size → parseL s.data.toList = FP (xs ++ [wd]) [] (s.data.toList.drop (i + 1))) ∧ (s.size < i + 1 → parseL s.data.toList = some (xs ++ [wd]))) := ⟨fun _ => hd, fun h => by omega⟩
              clear hd HD hA c1 c1'
              go_wp2_with (at_builtin; refine wpList_append_str rfl (.tmp 29) (.tmp 31) rfl w.heap.size _ xs rfl hO wd rfl (by omega) hbl ?_)
              intro v3 w3 hO3 hb3
              have hbel3 := hbel.trans hb3
              clear hO hb3
              go_wp2
              go_roundw
              case rel => exact ⟨i + 1, xs ++ [wd], [], by omega, by omega, by go_num, rfl, hO3, by rw [List.length_append]; simp only [List.length_cons, List.length_nil]; omega, by simp, HD2, hbel3⟩
              case measure => simp [intOf]; omega
            · have c1' : (bx s.data.toList i == 47) = false := beq_eq_false_iff_ne.2 (bx_ne hil c1)
              by_cases c2 : s.data.toList[i] = 126
              · have c2' : bx s.data.toList i = 126 := by rw [bx_get _ i hil, c2]; rfl
                rw [c2'] at hx
                rw [c2] at hd
                clear c1' c2' c1 c2
                by_cases hn1 : i + 1 < s.size
                · have hjl : i + 1 < s.data.toList.length := by omega
                  have hI1 : (i : Int) + 1 < (s.size : Int) := by omega
                  have hx1 := bx_at s (i + 1) hn1
                  rw [List.drop_eq_getElem_cons hjl] at hd
                  by_cases d1 : s.data.toList[i + 1] = 48
                  · have d1' : bx s.data.toList (i + 1) = 48 := by rw [bx_get _ _ hjl, d1]; rfl
                    rw [d1'] at hx1
                    rw [d1, FP_code _ _ _ 48 126 (by decide) rfl] at hd
                    have HT : Hid (bs wd ++ ⟨#[126]⟩ = bs (wd ++ [126])) := bs_append wd [126]
                    have HD2 : Hid ((i + 2 ≤ s.size → parseL s.data.toList = FP xs (wd ++ [126]) (s.data.toList.drop (i + 2))) ∧ (s.size < i + 2 → parseL s.data.toList = some xs)) := ⟨fun _ => hd, fun h => by omega⟩
                    clear hd HD d1 d1'
                    generalize bs wd = A at *
                    go_wp2_with fail
                    go_roundw
                    case rel => exact ⟨i + 2, xs, wd ++ [126], by omega, by omega, by go_num, by rw [HT.out], hO, by omega, by rw [List.length_append]; simp only [List.length_cons, List.length_nil]; omega, HD2, hbel⟩
                    case measure => simp [intOf]; omega
                  · have d1' : (bx s.data.toList (i + 1) == 48) = false := beq_eq_false_iff_ne.2 (bx_ne hjl d1)
                    by_cases d2 : s.data.toList[i + 1] = 49
                    · have d2' : bx s.data.toList (i + 1) = 49 := by rw [bx_get _ _ hjl, d2]; rfl
                      rw [d2'] at hx1
                      rw [d2, FP_code _ _ _ 49 47 (by decide) rfl] at hd
                      have HT : Hid (bs wd ++ ⟨#[47]⟩ = bs (wd ++ [47])) := bs_append wd [47]
                      have HD2 : Hid ((i + 2 ≤ s.size → parseL s.data.toList = FP xs (wd ++ [47]) (s.data.toList.drop (i + 2))) ∧ (s.size < i + 2 → parseL s.data.toList = some xs)) := ⟨fun _ => hd, fun h => by omega⟩
                      clear hd HD d1 d1' d2 d2'
                      generalize bs wd = A at *
                      go_wp2_with fail
                      go_roundw
                      case rel => exact ⟨i + 2, xs, wd ++ [47], by omega, by omega, by go_num, by rw [HT.out], hO, by omega, by rw [List.length_append]; simp only [List.length_cons, List.length_nil]; omega, HD2, hbel⟩
                      case measure => simp [intOf]; omega
                    · have d2' : (bx s.data.toList (i + 1) == 49) = false := beq_eq_false_iff_ne.2 (bx_ne hjl d2)
                      rw [FP_bad _ _ _ _ d1 d2] at hd
                      have HE : Hid (parseL s.data.toList = none) := hd
                      clear hd HD d1 d2
                      generalize bx s.data.toList (i + 1) = y at *
                      go_wp2
                      go_ret2
                      exact ⟨_, by rw [HE.out]; rfl, by rw [HE.out]; exact World.ownsRow_nil _ _ _ _, hbel⟩
                · have hI1 : ¬ (i : Int) + 1 < (s.size : Int) := by omega
                  have e : s.data.toList.drop (i + 1) = [] := List.drop_eq_nil_of_le (by omega)
                  rw [e, FP_end] at hd
                  have HE : Hid (parseL s.data.toList = none) := hd
                  clear hd HD e
                  go_wp2
                  go_ret2
                  exact ⟨_, by rw [HE.out]; rfl, by rw [HE.out]; exact World.ownsRow_nil _ _ _ _, hbel⟩
              · have c2' : (bx s.data.toList i != 126) = true := by simpa using bx_ne hil c2
                rw [FP_plain _ _ _ _ c1 c2] at hd
                have hP1 := one_piece s i hlt
                have hPs : (s.extract i (i + 1)).size = 1 := by rw [hP1, bs_size]; rfl
                have HT : Hid (bs wd ++ s.extract i (i + 1) = bs (wd ++ [s.data.toList[i]])) := by show _ = _; rw [hP1]; exact bs_append _ _
                have HD2 : Hid ((i + 1 ≤ s.size → parseL s.data.toList = FP xs (wd ++ [s.data.toList[i]]) (s.data.toList.drop (i + 1))) ∧ (s.size < i + 1 → parseL s.data.toList = some xs)) := ⟨fun _ => hd, fun h => by omega⟩
                clear hd HD hP1 c1 c2
                generalize s.data.toList[i] = c at *
                generalize bx s.data.toList i = x at *
                generalize bs wd = A at *
                go_wp2_with fail
                go_roundw
                case rel => exact ⟨i + 1, xs, wd ++ [c], by omega, by omega, by go_num, by rw [HT.out], hO, by omega, by rw [List.length_append]; simp only [List.length_cons, List.length_nil]; omega, HD2, hbel⟩
                case measure => simp [intOf]; omega
        · have hI : ¬ (i : Int) ≤ (s.size : Int) := by omega
          have HE : Hid (parseL s.data.toList = some xs) := HD.out.2 (by omega)
          clear HD
          go_wp2
          go_ret2
          exact ⟨_, by rw [HE.out]; rfl, by rw [HE.out]; exact id hO, hbel⟩
    · have HE : Hid (parseL s.data.toList = none) := by
        show _ = _
        unfold parseL
        rw [if_neg]
        rintro (e | e)
        · rw [e] at hl; simp at hl; omega
        · rw [List.head?_eq_getElem?, List.getElem?_eq_getElem (by omega)] at e
          injection e with e
          exact hf (by rw [bx_get _ _ (by omega), e]; rfl)
      have hf' : (bx s.data.toList 0 != 47) = true := by simpa using hf
      generalize bx s.data.toList 0 = c0 at *
      go_enter Tryd.func20, Tryd.ntmps20
      go_wp2_with fail
      go_ret2
      exact ⟨_, by rw [HE.out]; rfl, by rw [HE.out]; exact World.ownsRow_nil _ _ _ _, Below.refl _ _⟩
set_option maxRecDepth 100000 in
set_option maxHeartbeats 1600000 in
theorem rall_any (v : JV) (f : Nat → Value) (w : World) (hsh : ShV v) (hbd : Bd7 1048576 v) (hc : cntV v ≤ 1048576) (hd : dpN v ≤ 1000) (hv : VI w (fun _ => False) v f) (hT : Lib.TabIs Tryd.prog w "internal/strconv.uint64pow10" .u64 Lib.pow10Tab) :
    Calls Tryd.prog 13 #[.agg #[f 0, f 1, f 2, f 3, f 4, f 5, f 6]] w fun r w' => ∃ v', r = .returned v' ∧ SRow w' v' (allJ v []) ∧ Below w.heap.size w w' := by
  obtain ⟨k, n, g, e, t, la, lm, lc, ka, km, kc, f0, f1, f2, f3, f4, f5, f6⟩ := hv.shape
  have hva : va f = .agg #[.int .i64 k, .bool n, .string g, .int .i64 e, .string t, .slice la lm lc, .slice ka km kc] := by unfold va; rw [f0, f1, f2, f3, f4, f5, f6]
  have hbW : Below w.heap.size w (w.alloc (.cells #[.int .i64 k, .bool n, .string g, .int .i64 e, .string t, .slice la lm lc, .slice ka km kc] 28)) := bl_a (Below.refl _ _) _
  have hC := C7.new w (.int .i64 k) (.bool n) (.string g) (.int .i64 e) (.string t) (.slice la lm lc) (.slice ka km kc) 28
  obtain ⟨W, hW⟩ : ∃ W, w.alloc (.cells #[.int .i64 k, .bool n, .string g, .int .i64 e, .string t, .slice la lm lc, .slice ka km kc] 28) = W := ⟨_, rfl⟩
  rw [hW] at hbW hC
  have hg : Tryd.prog.globalNamed "internal/strconv.uint64pow10" = some 2 := by kernel_rfl
  have hlt : 2 < w.heap.size := World.block_lt_of_cell? w _ (hT.cell hg 0 (by decide))
  have hin := rinner_any v hsh hbd f W W.heap.size (.slice none 0 0) [] [] (hv.carry fun b _ hl => ⟨hbW.block b hl, by have := hbW.size; omega⟩) (World.ownsRow_nil _ _ _ _) (Nat.le_refl _) (tab_below hT hbW) (Nat.lt_of_lt_of_le hlt hbW.size) (by simp; omega) (by simp; omega)
  rw [hva] at hin
  rw [f0, f1, f2, f3, f4, f5, f6]
  clear hv hT f0 f1 f2 f3 f4 f5 f6 hva hsh hbd hc hd hlt hg
  generalize allJ v [] = xs at *
  obtain ⟨a0, a1, a2, a3, a4, a5, a6, _, _, _, _, _, _, _⟩ := hC
  go_enter Tryd.func13, Tryd.ntmps13
  go_wp2_with fail
  refine hin.mono ?_
  rintro r w2 ⟨v2, rfl, ho, hs⟩
  have hfin := bl_t hbW hs.bel
  clear hin hs a0 a1 a2 a3 a4 a5 a6
  go_wp2
  go_ret
  exact ⟨_, rfl, SRow.of_own ho, hfin⟩
end Go.Proofs.YtkbkedknoahhgaaDoor
