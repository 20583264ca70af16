/-
  What strings.ContainsRune answers at the two texts of signs that stand for something. Conditions: the rune is a code point or a surrogate.
-/
import Derived.Test.YtppilokmgdpnnaaGreatDoorJoined10
import Derived.Lib.Bytealg
import Derived.Laws.Externs
import Derived.Laws.RangeAny
import Derived.Laws.RangeString
import Derived.WalkMore
import Derived.Deep.RegionWith
namespace Go.Proofs.YtppilokmgdpnnaaGreatDoor
open Go.RowKit
attribute [local go_sem] setCell_drewN alloc_drewN

set_option maxRecDepth 100000 in
set_option maxHeartbeats 400000 in
theorem slIndexByte (s : ByteArray) (c : Int) (w : World) :
    Calls Tryz.prog 141 #[.string s, .int .u8 c] w fun e w' => e = .returned (.int .i64 (Lib.indexByte s.data.toList c.toNat.toUInt8)) ∧ w' = w := by
  go_enter Tryz.func141, Tryz.ntmps141
  go_wp2
  rw [run_callFunc_extern Tryz.func148 (by kernel_rfl) (by kernel_rfl) (by kernel_rfl) (e := Extern.BytealgIndexByte.indexByte) (by kernel_rfl), Lib.run_indexByteString]
  simp only [Result.andThen]
  rw [Oper.upon_value]
  go_wp2
  go_ret
  exact ⟨rfl, rfl⟩
set_option maxHeartbeats 400000 in
theorem indexByte_any (s : ByteArray) (c : Int) (w : World) :
    Calls Tryz.prog 125 #[.string s, .int .u8 c] w fun e w' => e = .returned (.int .i64 (Lib.indexByte s.data.toList c.toNat.toUInt8)) ∧ w' = w := by
  have h := slIndexByte s c w
  go_enter Tryz.func125, Tryz.ntmps125
  go_wp2_with (go_at_call 141; refine h.mono ?_; rintro e w' ⟨rfl, rfl⟩)
  go_ret
  exact ⟨rfl, rfl⟩
theorem bx_at (s : ByteArray) (i : Nat) (h : i < s.size) : ∀ hh, ((s[i]'hh).toNat : Int) = bx s.data.toList i := fun hh => by
  have h2 : s.data.toList[i]? = some (s[i]'hh) := by rw [List.getElem?_eq_getElem h]; rfl
  unfold bx; rw [h2]; rfl
theorem idx_none : ∀ (l : List UInt8) (y : UInt8), (∀ x ∈ l, x ≠ y) → Lib.indexByte l y = -1
  | [], _, _ => rfl
  | x :: l, y, h => by
    have h1 := h x (by simp)
    have h2 := idx_none l y (fun z hz => h z (by simp [hz]))
    have h3 : (x == y) = false := by simpa using h1
    simp [Lib.indexByte, h3, h2]
theorem idx_high (l : List UInt8) (y : Int) (hy : 128 ≤ y) (hy2 : y < 256) (h : l.all (fun x => decide (x.toNat < 128)) = true) : Lib.indexByte l y.toNat.toUInt8 = -1 := idx_none l _ fun x hx e => by
  have h1 := List.all_eq_true.1 h x hx
  have h1 : x.toNat < 128 := of_decide_eq_true h1
  rw [e] at h1
  simp at h1
  omega

/-- A rune's text, if it is one of two bytes or more: the last byte is at least 128. -/
theorem encode_high (r : Int) (h : 128 ≤ r) : 2 ≤ (Utf8.encode r).size ∧ (Utf8.encode r).size ≤ 4 ∧ ∀ k, k + 1 = (Utf8.encode r).size → 128 ≤ bx (Utf8.encode r).data.toList k := by
  have hc : ∃ c : Nat, 128 ≤ c ∧ c ≤ 1114111 ∧ (if Utf8.valid r then r.toNat else Utf8.runeError) = c := by
    refine ⟨_, ?_, ?_, rfl⟩
    · split
      · omega
      · decide
    · split
      · rename_i hv
        simp only [Utf8.valid, Bool.or_eq_true, Bool.and_eq_true, decide_eq_true_eq] at hv
        omega
      · decide
  obtain ⟨c, h1, h2, e⟩ := hc
  have hb : ∀ n : Nat, n < 256 → ((UInt8.ofNat n).toNat : Int) = n := fun n hn => by simp; omega
  unfold Utf8.encode
  simp only [e]
  rw [if_neg (by omega)]
  split
  · refine ⟨Nat.le_refl 2, show 2 ≤ 4 by decide, fun k hk => ?_⟩
    obtain rfl : k = 1 := by have : k + 1 = 2 := hk; omega
    show (128 : Int) ≤ ((UInt8.ofNat (128 + c % 64)).toNat : Int)
    rw [hb _ (by omega)]; omega
  split
  · refine ⟨show 2 ≤ 3 by decide, show 3 ≤ 4 by decide, fun k hk => ?_⟩
    obtain rfl : k = 2 := by have : k + 1 = 3 := hk; omega
    show (128 : Int) ≤ ((UInt8.ofNat (128 + c % 64)).toNat : Int)
    rw [hb _ (by omega)]; omega
  · refine ⟨show 2 ≤ 4 by decide, Nat.le_refl 4, fun k hk => ?_⟩
    obtain rfl : k = 3 := by have : k + 1 = 4 := hk; omega
    show (128 : Int) ≤ ((UInt8.ofNat (128 + c % 64)).toNat : Int)
    rw [hb _ (by omega)]; omega

set_option maxHeartbeats 400000 in
theorem validRune_any (r : Int) (w : World) :
    Calls Tryz.prog 126 #[.int .i32 r] w fun e w' => e = .returned (.bool (Utf8.valid r)) ∧ w' = w := by
  unfold Utf8.valid
  cases h1 : decide (0 ≤ r) <;> cases h2 : decide (r < 55296) <;> cases h3 : decide (57343 < r) <;> simp only [decide_eq_true_eq, decide_eq_false_iff_not] at h1 h2 h3
  all_goals
    have h4 : decide (57344 ≤ r) = decide (57343 < r) := by rw [decide_eq_decide]; omega
    rw [h4]
    go_enter Tryz.func126, Tryz.ntmps126
    go_wp2
    all_goals go_ret
    all_goals exact ⟨by first | (simp [*]; done) | (simp [*]; omega), rfl⟩

theorem conv_rune (r : Int) (w : World) : (convert 21 9 (.int .i32 r)).run Tryz.prog w = .ok (.string (Utf8.encode r)) w := by
  simp [convert, run_underlying Tryz.underlying21, run_underlying Tryz.underlying9, go_sem]
  rfl

set_option maxRecDepth 100000 in
theorem low_a : ∀ p : Fin 128, decide (0 ≤ Lib.indexByte ([94, 36, 92, 46, 42, 43, 63, 40, 41, 91, 93, 123, 125, 124] : List UInt8) ((p.val : Int).toNat.toUInt8)) = synB (p.val : Int) := by decide
set_option maxRecDepth 100000 in
set_option maxHeartbeats 800000 in
theorem indexRune_lowa (p : Int) (w : World) (h0 : 0 ≤ p) (h1 : p < 128) :
    Calls Tryz.prog 100 #[.string ⟨#[94, 36, 92, 46, 42, 43, 63, 40, 41, 91, 93, 123, 125, 124]⟩, .int .i32 p] w fun e w' => e = .returned (.int .i64 (Lib.indexByte [94, 36, 92, 46, 42, 43, 63, 40, 41, 91, 93, 123, 125, 124] p.toNat.toUInt8)) ∧ w' = w := by
  have h := indexByte_any ⟨#[94, 36, 92, 46, 42, 43, 63, 40, 41, 91, 93, 123, 125, 124]⟩ p w
  have hw : IntKind.u8.wrap p = p := by simp [IntKind.wrap, IntKind.bits, IntKind.signed]; omega
  go_enter Tryz.func100, Tryz.ntmps100
  go_wp2_with (go_at_call 125; refine h.mono ?_; rintro e w' ⟨rfl, rfl⟩)
  go_ret
  exact ⟨rfl, rfl⟩

set_option maxRecDepth 100000 in
set_option maxHeartbeats 3200000 in
theorem indexRune_higha (r : Int) (w : World) (h0 : 128 ≤ r) (hr : r ≤ 2147483647) :
    Calls Tryz.prog 100 #[.string ⟨#[94, 36, 92, 46, 42, 43, 63, 40, 41, 91, 93, 123, 125, 124]⟩, .int .i32 r] w fun e w' => e = .returned (.int .i64 (-1)) ∧ Below w.heap.size w w' := by
  have h1 : (0 : Int) ≤ r := by omega
  have h2 : ¬ r < 128 := by omega
  have hv := validRune_any r w
  cases he : (r == 65533)
  · cases hval : Utf8.valid r
    · rw [hval] at hv
      clear h0 hr
      go_enter Tryz.func100, Tryz.ntmps100
      go_wp2_with (go_at_call 126; refine hv.mono ?_; rintro e w' ⟨rfl, rfl⟩)
      go_ret
      exact ⟨rfl, Below.refl _ _⟩
    · rw [hval] at hv
      obtain ⟨e1, e2, e3⟩ := encode_high r h0
      have hcv : ∀ w', (convert 21 9 (.int .i32 r)).run Tryz.prog w' = .ok (.string (Utf8.encode r)) w' := fun w' => conv_rune r w'
      clear h0 hr
      obtain ⟨E, hE⟩ : ∃ E, E = Utf8.encode r := ⟨_, rfl⟩
      rw [← hE] at e1 e2 e3
      simp only [← hE] at hcv
      clear hE
      rcases (by omega : E.size = 2 ∨ E.size = 3 ∨ E.size = 4) with hz | hz | hz
      · have e4 := e3 1 hz.symm
        have hx := bx_at E 1 (by omega)
        have hy2 := bx_hi E.data.toList 1
        generalize bx E.data.toList 1 = y at *
        have hy : ((36 : Int) == y) = false := by rw [beq_eq_false_iff_ne]; omega
        have hc1 : ∀ h, (((⟨#[94, 36, 92, 46, 42, 43, 63, 40, 41, 91, 93, 123, 125, 124]⟩ : ByteArray)[1]'h).toNat : Int) = 36 := fun _ => rfl
        have hI : ∀ w', Calls Tryz.prog 125 #[.string ⟨#[92, 46, 42, 43, 63, 40, 41, 91, 93, 123, 125, 124]⟩, .int .u8 y] w' fun e w2 => e = .returned (.int .i64 (-1)) ∧ w2 = w' := fun w' => by
          have := indexByte_any ⟨#[92, 46, 42, 43, 63, 40, 41, 91, 93, 123, 125, 124]⟩ y w'
          rw [idx_high _ y e4 hy2 (by decide)] at this
          exact this
        clear e1 e2 e3 e4 hy2
        go_enter Tryz.func100, Tryz.ntmps100
        go_wp2_with (go_at_call 126; refine hv.mono ?_; rintro e w' ⟨rfl, rfl⟩)
        clear h1 h2 he hval hv
        go_step3
        go_wp2_with fail
        refine wp_loop_rounds 1 ?_
        rw [rounds_succ]
        go_wp2_with fail
        go_step3
        go_wp2_with fail
        go_region
        go_wp2_with fail
        go_region_with (go_at_call 125; refine (hI _).mono ?_; rintro e w2 ⟨rfl, rfl⟩)
        go_wp2_with fail
        all_goals
          rw [Exit.noGoto_ret]
          simp only [Exit.inBlock, Exit.then]
          rw [Exit.noGoto_ret]
          go_ret
          exact ⟨rfl, by with_reducible repeat (first | exact Below.refl _ _ | refine vb_d ?_)⟩
      · have e4 := e3 2 hz.symm
        have hx := bx_at E 2 (by omega)
        have hy2 := bx_hi E.data.toList 2
        generalize bx E.data.toList 2 = y at *
        have hy : ((92 : Int) == y) = false := by rw [beq_eq_false_iff_ne]; omega
        have hc1 : ∀ h, (((⟨#[94, 36, 92, 46, 42, 43, 63, 40, 41, 91, 93, 123, 125, 124]⟩ : ByteArray)[2]'h).toNat : Int) = 92 := fun _ => rfl
        have hI : ∀ w', Calls Tryz.prog 125 #[.string ⟨#[46, 42, 43, 63, 40, 41, 91, 93, 123, 125, 124]⟩, .int .u8 y] w' fun e w2 => e = .returned (.int .i64 (-1)) ∧ w2 = w' := fun w' => by
          have := indexByte_any ⟨#[46, 42, 43, 63, 40, 41, 91, 93, 123, 125, 124]⟩ y w'
          rw [idx_high _ y e4 hy2 (by decide)] at this
          exact this
        clear e1 e2 e3 e4 hy2
        go_enter Tryz.func100, Tryz.ntmps100
        go_wp2_with (go_at_call 126; refine hv.mono ?_; rintro e w' ⟨rfl, rfl⟩)
        clear h1 h2 he hval hv
        go_step3
        go_wp2_with fail
        refine wp_loop_rounds 1 ?_
        rw [rounds_succ]
        go_wp2_with fail
        go_step3
        go_wp2_with fail
        go_region
        go_wp2_with fail
        go_region_with (go_at_call 125; refine (hI _).mono ?_; rintro e w2 ⟨rfl, rfl⟩)
        go_wp2_with fail
        all_goals
          rw [Exit.noGoto_ret]
          simp only [Exit.inBlock, Exit.then]
          rw [Exit.noGoto_ret]
          go_ret
          exact ⟨rfl, by with_reducible repeat (first | exact Below.refl _ _ | refine vb_d ?_)⟩
      · have e4 := e3 3 hz.symm
        have hx := bx_at E 3 (by omega)
        have hy2 := bx_hi E.data.toList 3
        generalize bx E.data.toList 3 = y at *
        have hy : ((46 : Int) == y) = false := by rw [beq_eq_false_iff_ne]; omega
        have hc1 : ∀ h, (((⟨#[94, 36, 92, 46, 42, 43, 63, 40, 41, 91, 93, 123, 125, 124]⟩ : ByteArray)[3]'h).toNat : Int) = 46 := fun _ => rfl
        have hI : ∀ w', Calls Tryz.prog 125 #[.string ⟨#[42, 43, 63, 40, 41, 91, 93, 123, 125, 124]⟩, .int .u8 y] w' fun e w2 => e = .returned (.int .i64 (-1)) ∧ w2 = w' := fun w' => by
          have := indexByte_any ⟨#[42, 43, 63, 40, 41, 91, 93, 123, 125, 124]⟩ y w'
          rw [idx_high _ y e4 hy2 (by decide)] at this
          exact this
        clear e1 e2 e3 e4 hy2
        go_enter Tryz.func100, Tryz.ntmps100
        go_wp2_with (go_at_call 126; refine hv.mono ?_; rintro e w' ⟨rfl, rfl⟩)
        clear h1 h2 he hval hv
        go_step3
        go_wp2_with fail
        refine wp_loop_rounds 1 ?_
        rw [rounds_succ]
        go_wp2_with fail
        go_step3
        go_wp2_with fail
        go_region
        go_wp2_with fail
        go_region_with (go_at_call 125; refine (hI _).mono ?_; rintro e w2 ⟨rfl, rfl⟩)
        go_wp2_with fail
        all_goals
          rw [Exit.noGoto_ret]
          simp only [Exit.inBlock, Exit.then]
          rw [Exit.noGoto_ret]
          go_ret
          exact ⟨rfl, by with_reducible repeat (first | exact Below.refl _ _ | refine vb_d ?_)⟩
  · have hr2 : r = 65533 := by simpa using he
    subst hr2
    clear h0 hr he hv h1 h2
    have n0 : ∀ ty, (Instr.next (.pointer (some ⟨w.heap.size, 0, none⟩)) true ty).run Tryz.prog (w.iter ⟨#[94, 36, 92, 46, 42, 43, 63, 40, 41, 91, 93, 123, 125, 124]⟩ 0) = .ok (.tuple #[.bool true, .int .i64 0, .int .i32 94]) (w.iter ⟨#[94, 36, 92, 46, 42, 43, 63, 40, 41, 91, 93, 123, 125, 124]⟩ 1) := fun ty => run_next_ascii (P := Tryz.prog) w ⟨#[94, 36, 92, 46, 42, 43, 63, 40, 41, 91, 93, 123, 125, 124]⟩ 0 ty (by decide) (by decide)
    have n1 : ∀ ty, (Instr.next (.pointer (some ⟨w.heap.size, 0, none⟩)) true ty).run Tryz.prog (w.iter ⟨#[94, 36, 92, 46, 42, 43, 63, 40, 41, 91, 93, 123, 125, 124]⟩ 1) = .ok (.tuple #[.bool true, .int .i64 1, .int .i32 36]) (w.iter ⟨#[94, 36, 92, 46, 42, 43, 63, 40, 41, 91, 93, 123, 125, 124]⟩ 2) := fun ty => run_next_ascii (P := Tryz.prog) w ⟨#[94, 36, 92, 46, 42, 43, 63, 40, 41, 91, 93, 123, 125, 124]⟩ 1 ty (by decide) (by decide)
    have n2 : ∀ ty, (Instr.next (.pointer (some ⟨w.heap.size, 0, none⟩)) true ty).run Tryz.prog (w.iter ⟨#[94, 36, 92, 46, 42, 43, 63, 40, 41, 91, 93, 123, 125, 124]⟩ 2) = .ok (.tuple #[.bool true, .int .i64 2, .int .i32 92]) (w.iter ⟨#[94, 36, 92, 46, 42, 43, 63, 40, 41, 91, 93, 123, 125, 124]⟩ 3) := fun ty => run_next_ascii (P := Tryz.prog) w ⟨#[94, 36, 92, 46, 42, 43, 63, 40, 41, 91, 93, 123, 125, 124]⟩ 2 ty (by decide) (by decide)
    have n3 : ∀ ty, (Instr.next (.pointer (some ⟨w.heap.size, 0, none⟩)) true ty).run Tryz.prog (w.iter ⟨#[94, 36, 92, 46, 42, 43, 63, 40, 41, 91, 93, 123, 125, 124]⟩ 3) = .ok (.tuple #[.bool true, .int .i64 3, .int .i32 46]) (w.iter ⟨#[94, 36, 92, 46, 42, 43, 63, 40, 41, 91, 93, 123, 125, 124]⟩ 4) := fun ty => run_next_ascii (P := Tryz.prog) w ⟨#[94, 36, 92, 46, 42, 43, 63, 40, 41, 91, 93, 123, 125, 124]⟩ 3 ty (by decide) (by decide)
    have n4 : ∀ ty, (Instr.next (.pointer (some ⟨w.heap.size, 0, none⟩)) true ty).run Tryz.prog (w.iter ⟨#[94, 36, 92, 46, 42, 43, 63, 40, 41, 91, 93, 123, 125, 124]⟩ 4) = .ok (.tuple #[.bool true, .int .i64 4, .int .i32 42]) (w.iter ⟨#[94, 36, 92, 46, 42, 43, 63, 40, 41, 91, 93, 123, 125, 124]⟩ 5) := fun ty => run_next_ascii (P := Tryz.prog) w ⟨#[94, 36, 92, 46, 42, 43, 63, 40, 41, 91, 93, 123, 125, 124]⟩ 4 ty (by decide) (by decide)
    have n5 : ∀ ty, (Instr.next (.pointer (some ⟨w.heap.size, 0, none⟩)) true ty).run Tryz.prog (w.iter ⟨#[94, 36, 92, 46, 42, 43, 63, 40, 41, 91, 93, 123, 125, 124]⟩ 5) = .ok (.tuple #[.bool true, .int .i64 5, .int .i32 43]) (w.iter ⟨#[94, 36, 92, 46, 42, 43, 63, 40, 41, 91, 93, 123, 125, 124]⟩ 6) := fun ty => run_next_ascii (P := Tryz.prog) w ⟨#[94, 36, 92, 46, 42, 43, 63, 40, 41, 91, 93, 123, 125, 124]⟩ 5 ty (by decide) (by decide)
    have n6 : ∀ ty, (Instr.next (.pointer (some ⟨w.heap.size, 0, none⟩)) true ty).run Tryz.prog (w.iter ⟨#[94, 36, 92, 46, 42, 43, 63, 40, 41, 91, 93, 123, 125, 124]⟩ 6) = .ok (.tuple #[.bool true, .int .i64 6, .int .i32 63]) (w.iter ⟨#[94, 36, 92, 46, 42, 43, 63, 40, 41, 91, 93, 123, 125, 124]⟩ 7) := fun ty => run_next_ascii (P := Tryz.prog) w ⟨#[94, 36, 92, 46, 42, 43, 63, 40, 41, 91, 93, 123, 125, 124]⟩ 6 ty (by decide) (by decide)
    have n7 : ∀ ty, (Instr.next (.pointer (some ⟨w.heap.size, 0, none⟩)) true ty).run Tryz.prog (w.iter ⟨#[94, 36, 92, 46, 42, 43, 63, 40, 41, 91, 93, 123, 125, 124]⟩ 7) = .ok (.tuple #[.bool true, .int .i64 7, .int .i32 40]) (w.iter ⟨#[94, 36, 92, 46, 42, 43, 63, 40, 41, 91, 93, 123, 125, 124]⟩ 8) := fun ty => run_next_ascii (P := Tryz.prog) w ⟨#[94, 36, 92, 46, 42, 43, 63, 40, 41, 91, 93, 123, 125, 124]⟩ 7 ty (by decide) (by decide)
    have n8 : ∀ ty, (Instr.next (.pointer (some ⟨w.heap.size, 0, none⟩)) true ty).run Tryz.prog (w.iter ⟨#[94, 36, 92, 46, 42, 43, 63, 40, 41, 91, 93, 123, 125, 124]⟩ 8) = .ok (.tuple #[.bool true, .int .i64 8, .int .i32 41]) (w.iter ⟨#[94, 36, 92, 46, 42, 43, 63, 40, 41, 91, 93, 123, 125, 124]⟩ 9) := fun ty => run_next_ascii (P := Tryz.prog) w ⟨#[94, 36, 92, 46, 42, 43, 63, 40, 41, 91, 93, 123, 125, 124]⟩ 8 ty (by decide) (by decide)
    have n9 : ∀ ty, (Instr.next (.pointer (some ⟨w.heap.size, 0, none⟩)) true ty).run Tryz.prog (w.iter ⟨#[94, 36, 92, 46, 42, 43, 63, 40, 41, 91, 93, 123, 125, 124]⟩ 9) = .ok (.tuple #[.bool true, .int .i64 9, .int .i32 91]) (w.iter ⟨#[94, 36, 92, 46, 42, 43, 63, 40, 41, 91, 93, 123, 125, 124]⟩ 10) := fun ty => run_next_ascii (P := Tryz.prog) w ⟨#[94, 36, 92, 46, 42, 43, 63, 40, 41, 91, 93, 123, 125, 124]⟩ 9 ty (by decide) (by decide)
    have n10 : ∀ ty, (Instr.next (.pointer (some ⟨w.heap.size, 0, none⟩)) true ty).run Tryz.prog (w.iter ⟨#[94, 36, 92, 46, 42, 43, 63, 40, 41, 91, 93, 123, 125, 124]⟩ 10) = .ok (.tuple #[.bool true, .int .i64 10, .int .i32 93]) (w.iter ⟨#[94, 36, 92, 46, 42, 43, 63, 40, 41, 91, 93, 123, 125, 124]⟩ 11) := fun ty => run_next_ascii (P := Tryz.prog) w ⟨#[94, 36, 92, 46, 42, 43, 63, 40, 41, 91, 93, 123, 125, 124]⟩ 10 ty (by decide) (by decide)
    have n11 : ∀ ty, (Instr.next (.pointer (some ⟨w.heap.size, 0, none⟩)) true ty).run Tryz.prog (w.iter ⟨#[94, 36, 92, 46, 42, 43, 63, 40, 41, 91, 93, 123, 125, 124]⟩ 11) = .ok (.tuple #[.bool true, .int .i64 11, .int .i32 123]) (w.iter ⟨#[94, 36, 92, 46, 42, 43, 63, 40, 41, 91, 93, 123, 125, 124]⟩ 12) := fun ty => run_next_ascii (P := Tryz.prog) w ⟨#[94, 36, 92, 46, 42, 43, 63, 40, 41, 91, 93, 123, 125, 124]⟩ 11 ty (by decide) (by decide)
    have n12 : ∀ ty, (Instr.next (.pointer (some ⟨w.heap.size, 0, none⟩)) true ty).run Tryz.prog (w.iter ⟨#[94, 36, 92, 46, 42, 43, 63, 40, 41, 91, 93, 123, 125, 124]⟩ 12) = .ok (.tuple #[.bool true, .int .i64 12, .int .i32 125]) (w.iter ⟨#[94, 36, 92, 46, 42, 43, 63, 40, 41, 91, 93, 123, 125, 124]⟩ 13) := fun ty => run_next_ascii (P := Tryz.prog) w ⟨#[94, 36, 92, 46, 42, 43, 63, 40, 41, 91, 93, 123, 125, 124]⟩ 12 ty (by decide) (by decide)
    have n13 : ∀ ty, (Instr.next (.pointer (some ⟨w.heap.size, 0, none⟩)) true ty).run Tryz.prog (w.iter ⟨#[94, 36, 92, 46, 42, 43, 63, 40, 41, 91, 93, 123, 125, 124]⟩ 13) = .ok (.tuple #[.bool true, .int .i64 13, .int .i32 124]) (w.iter ⟨#[94, 36, 92, 46, 42, 43, 63, 40, 41, 91, 93, 123, 125, 124]⟩ 14) := fun ty => run_next_ascii (P := Tryz.prog) w ⟨#[94, 36, 92, 46, 42, 43, 63, 40, 41, 91, 93, 123, 125, 124]⟩ 13 ty (by decide) (by decide)
    have n14 : ∀ ty, (Instr.next (.pointer (some ⟨w.heap.size, 0, none⟩)) true ty).run Tryz.prog (w.iter ⟨#[94, 36, 92, 46, 42, 43, 63, 40, 41, 91, 93, 123, 125, 124]⟩ 14) = .ok (.tuple #[.bool false]) (w.iter ⟨#[94, 36, 92, 46, 42, 43, 63, 40, 41, 91, 93, 123, 125, 124]⟩ 14) := fun ty => run_next_end (P := Tryz.prog) w ⟨#[94, 36, 92, 46, 42, 43, 63, 40, 41, 91, 93, 123, 125, 124]⟩ 14 ty (by decide)
    go_enter Tryz.func100, Tryz.ntmps100
    go_wp2_with fail
    refine wp_loop_rounds 15 ?_
    rw [rounds_succ]
    go_wp2
    rw [rounds_succ]
    go_wp2
    rw [rounds_succ]
    go_wp2
    rw [rounds_succ]
    go_wp2
    rw [rounds_succ]
    go_wp2
    rw [rounds_succ]
    go_wp2
    rw [rounds_succ]
    go_wp2
    rw [rounds_succ]
    go_wp2
    rw [rounds_succ]
    go_wp2
    rw [rounds_succ]
    go_wp2
    rw [rounds_succ]
    go_wp2
    rw [rounds_succ]
    go_wp2
    rw [rounds_succ]
    go_wp2
    rw [rounds_succ]
    go_wp2
    rw [rounds_succ]
    go_wp2
    go_ret
    exact ⟨rfl, vb_a (Below.refl _ _) _⟩

set_option maxHeartbeats 400000 in
theorem contains_a (p : Int) (w : World) (h0 : 0 ≤ p) (h1 : p ≤ 1114111) :
    Calls Tryz.prog 75 #[.string ⟨#[94, 36, 92, 46, 42, 43, 63, 40, 41, 91, 93, 123, 125, 124]⟩, .int .i32 p] w fun e w' => e = .returned (.bool (synB p)) ∧ Below w.heap.size w w' := by
  by_cases hp : p < 128
  · have h := indexRune_lowa p w h0 hp
    have hl := low_a ⟨p.toNat, by omega⟩
    simp only [Int.toNat_of_nonneg h0] at hl
    rw [← hl]
    clear hl
    generalize Lib.indexByte [94, 36, 92, 46, 42, 43, 63, 40, 41, 91, 93, 123, 125, 124] p.toNat.toUInt8 = X at *
    go_enter Tryz.func75, Tryz.ntmps75
    go_wp2_with (go_at_call 100; refine h.mono ?_; rintro e w' ⟨rfl, rfl⟩)
    all_goals
      go_ret
      exact ⟨by first | rfl | (simp [*]; done), Below.refl _ _⟩
  · have h := indexRune_higha p w (by omega) (by omega)
    have hs : synB p = false := by
      cases hc : synB p
      · rfl
      · exfalso
        simp only [synB, List.contains_iff_mem, List.mem_cons, List.not_mem_nil, or_false] at hc
        omega
    rw [hs]
    clear h0 h1 hp hs
    go_enter Tryz.func75, Tryz.ntmps75
    go_wp2_with (go_at_call 100; refine h.mono ?_; rintro e w' ⟨rfl, hb⟩)
    go_ret
    exact ⟨rfl, hb⟩

set_option maxRecDepth 100000 in
theorem low_b : ∀ p : Fin 128, decide (0 ≤ Lib.indexByte ([94, 36, 92, 46, 42, 43, 63, 40, 41, 91, 93, 123, 125, 124, 47] : List UInt8) ((p.val : Int).toNat.toUInt8)) = synS (p.val : Int) := by decide
set_option maxRecDepth 100000 in
set_option maxHeartbeats 800000 in
theorem indexRune_lowb (p : Int) (w : World) (h0 : 0 ≤ p) (h1 : p < 128) :
    Calls Tryz.prog 100 #[.string ⟨#[94, 36, 92, 46, 42, 43, 63, 40, 41, 91, 93, 123, 125, 124, 47]⟩, .int .i32 p] w fun e w' => e = .returned (.int .i64 (Lib.indexByte [94, 36, 92, 46, 42, 43, 63, 40, 41, 91, 93, 123, 125, 124, 47] p.toNat.toUInt8)) ∧ w' = w := by
  have h := indexByte_any ⟨#[94, 36, 92, 46, 42, 43, 63, 40, 41, 91, 93, 123, 125, 124, 47]⟩ p w
  have hw : IntKind.u8.wrap p = p := by simp [IntKind.wrap, IntKind.bits, IntKind.signed]; omega
  go_enter Tryz.func100, Tryz.ntmps100
  go_wp2_with (go_at_call 125; refine h.mono ?_; rintro e w' ⟨rfl, rfl⟩)
  go_ret
  exact ⟨rfl, rfl⟩

set_option maxRecDepth 100000 in
set_option maxHeartbeats 3200000 in
theorem indexRune_highb (r : Int) (w : World) (h0 : 128 ≤ r) (hr : r ≤ 2147483647) :
    Calls Tryz.prog 100 #[.string ⟨#[94, 36, 92, 46, 42, 43, 63, 40, 41, 91, 93, 123, 125, 124, 47]⟩, .int .i32 r] w fun e w' => e = .returned (.int .i64 (-1)) ∧ Below w.heap.size w w' := by
  have h1 : (0 : Int) ≤ r := by omega
  have h2 : ¬ r < 128 := by omega
  have hv := validRune_any r w
  cases he : (r == 65533)
  · cases hval : Utf8.valid r
    · rw [hval] at hv
      clear h0 hr
      go_enter Tryz.func100, Tryz.ntmps100
      go_wp2_with (go_at_call 126; refine hv.mono ?_; rintro e w' ⟨rfl, rfl⟩)
      go_ret
      exact ⟨rfl, Below.refl _ _⟩
    · rw [hval] at hv
      obtain ⟨e1, e2, e3⟩ := encode_high r h0
      have hcv : ∀ w', (convert 21 9 (.int .i32 r)).run Tryz.prog w' = .ok (.string (Utf8.encode r)) w' := fun w' => conv_rune r w'
      clear h0 hr
      obtain ⟨E, hE⟩ : ∃ E, E = Utf8.encode r := ⟨_, rfl⟩
      rw [← hE] at e1 e2 e3
      simp only [← hE] at hcv
      clear hE
      rcases (by omega : E.size = 2 ∨ E.size = 3 ∨ E.size = 4) with hz | hz | hz
      · have e4 := e3 1 hz.symm
        have hx := bx_at E 1 (by omega)
        have hy2 := bx_hi E.data.toList 1
        generalize bx E.data.toList 1 = y at *
        have hy : ((36 : Int) == y) = false := by rw [beq_eq_false_iff_ne]; omega
        have hc1 : ∀ h, (((⟨#[94, 36, 92, 46, 42, 43, 63, 40, 41, 91, 93, 123, 125, 124, 47]⟩ : ByteArray)[1]'h).toNat : Int) = 36 := fun _ => rfl
        have hI : ∀ w', Calls Tryz.prog 125 #[.string ⟨#[92, 46, 42, 43, 63, 40, 41, 91, 93, 123, 125, 124, 47]⟩, .int .u8 y] w' fun e w2 => e = .returned (.int .i64 (-1)) ∧ w2 = w' := fun w' => by
          have := indexByte_any ⟨#[92, 46, 42, 43, 63, 40, 41, 91, 93, 123, 125, 124, 47]⟩ y w'
          rw [idx_high _ y e4 hy2 (by decide)] at this
          exact this
        clear e1 e2 e3 e4 hy2
        go_enter Tryz.func100, Tryz.ntmps100
        go_wp2_with (go_at_call 126; refine hv.mono ?_; rintro e w' ⟨rfl, rfl⟩)
        clear h1 h2 he hval hv
        go_step3
        go_wp2_with fail
        refine wp_loop_rounds 1 ?_
        rw [rounds_succ]
        go_wp2_with fail
        go_step3
        go_wp2_with fail
        go_region
        go_wp2_with fail
        go_region_with (go_at_call 125; refine (hI _).mono ?_; rintro e w2 ⟨rfl, rfl⟩)
        go_wp2_with fail
        all_goals
          rw [Exit.noGoto_ret]
          simp only [Exit.inBlock, Exit.then]
          rw [Exit.noGoto_ret]
          go_ret
          exact ⟨rfl, by with_reducible repeat (first | exact Below.refl _ _ | refine vb_d ?_)⟩
      · have e4 := e3 2 hz.symm
        have hx := bx_at E 2 (by omega)
        have hy2 := bx_hi E.data.toList 2
        generalize bx E.data.toList 2 = y at *
        have hy : ((92 : Int) == y) = false := by rw [beq_eq_false_iff_ne]; omega
        have hc1 : ∀ h, (((⟨#[94, 36, 92, 46, 42, 43, 63, 40, 41, 91, 93, 123, 125, 124, 47]⟩ : ByteArray)[2]'h).toNat : Int) = 92 := fun _ => rfl
        have hI : ∀ w', Calls Tryz.prog 125 #[.string ⟨#[46, 42, 43, 63, 40, 41, 91, 93, 123, 125, 124, 47]⟩, .int .u8 y] w' fun e w2 => e = .returned (.int .i64 (-1)) ∧ w2 = w' := fun w' => by
          have := indexByte_any ⟨#[46, 42, 43, 63, 40, 41, 91, 93, 123, 125, 124, 47]⟩ y w'
          rw [idx_high _ y e4 hy2 (by decide)] at this
          exact this
        clear e1 e2 e3 e4 hy2
        go_enter Tryz.func100, Tryz.ntmps100
        go_wp2_with (go_at_call 126; refine hv.mono ?_; rintro e w' ⟨rfl, rfl⟩)
        clear h1 h2 he hval hv
        go_step3
        go_wp2_with fail
        refine wp_loop_rounds 1 ?_
        rw [rounds_succ]
        go_wp2_with fail
        go_step3
        go_wp2_with fail
        go_region
        go_wp2_with fail
        go_region_with (go_at_call 125; refine (hI _).mono ?_; rintro e w2 ⟨rfl, rfl⟩)
        go_wp2_with fail
        all_goals
          rw [Exit.noGoto_ret]
          simp only [Exit.inBlock, Exit.then]
          rw [Exit.noGoto_ret]
          go_ret
          exact ⟨rfl, by with_reducible repeat (first | exact Below.refl _ _ | refine vb_d ?_)⟩
      · have e4 := e3 3 hz.symm
        have hx := bx_at E 3 (by omega)
        have hy2 := bx_hi E.data.toList 3
        generalize bx E.data.toList 3 = y at *
        have hy : ((46 : Int) == y) = false := by rw [beq_eq_false_iff_ne]; omega
        have hc1 : ∀ h, (((⟨#[94, 36, 92, 46, 42, 43, 63, 40, 41, 91, 93, 123, 125, 124, 47]⟩ : ByteArray)[3]'h).toNat : Int) = 46 := fun _ => rfl
        have hI : ∀ w', Calls Tryz.prog 125 #[.string ⟨#[42, 43, 63, 40, 41, 91, 93, 123, 125, 124, 47]⟩, .int .u8 y] w' fun e w2 => e = .returned (.int .i64 (-1)) ∧ w2 = w' := fun w' => by
          have := indexByte_any ⟨#[42, 43, 63, 40, 41, 91, 93, 123, 125, 124, 47]⟩ y w'
          rw [idx_high _ y e4 hy2 (by decide)] at this
          exact this
        clear e1 e2 e3 e4 hy2
        go_enter Tryz.func100, Tryz.ntmps100
        go_wp2_with (go_at_call 126; refine hv.mono ?_; rintro e w' ⟨rfl, rfl⟩)
        clear h1 h2 he hval hv
        go_step3
        go_wp2_with fail
        refine wp_loop_rounds 1 ?_
        rw [rounds_succ]
        go_wp2_with fail
        go_step3
        go_wp2_with fail
        go_region
        go_wp2_with fail
        go_region_with (go_at_call 125; refine (hI _).mono ?_; rintro e w2 ⟨rfl, rfl⟩)
        go_wp2_with fail
        all_goals
          rw [Exit.noGoto_ret]
          simp only [Exit.inBlock, Exit.then]
          rw [Exit.noGoto_ret]
          go_ret
          exact ⟨rfl, by with_reducible repeat (first | exact Below.refl _ _ | refine vb_d ?_)⟩
  · have hr2 : r = 65533 := by simpa using he
    subst hr2
    clear h0 hr he hv h1 h2
    have n0 : ∀ ty, (Instr.next (.pointer (some ⟨w.heap.size, 0, none⟩)) true ty).run Tryz.prog (w.iter ⟨#[94, 36, 92, 46, 42, 43, 63, 40, 41, 91, 93, 123, 125, 124, 47]⟩ 0) = .ok (.tuple #[.bool true, .int .i64 0, .int .i32 94]) (w.iter ⟨#[94, 36, 92, 46, 42, 43, 63, 40, 41, 91, 93, 123, 125, 124, 47]⟩ 1) := fun ty => run_next_ascii (P := Tryz.prog) w ⟨#[94, 36, 92, 46, 42, 43, 63, 40, 41, 91, 93, 123, 125, 124, 47]⟩ 0 ty (by decide) (by decide)
    have n1 : ∀ ty, (Instr.next (.pointer (some ⟨w.heap.size, 0, none⟩)) true ty).run Tryz.prog (w.iter ⟨#[94, 36, 92, 46, 42, 43, 63, 40, 41, 91, 93, 123, 125, 124, 47]⟩ 1) = .ok (.tuple #[.bool true, .int .i64 1, .int .i32 36]) (w.iter ⟨#[94, 36, 92, 46, 42, 43, 63, 40, 41, 91, 93, 123, 125, 124, 47]⟩ 2) := fun ty => run_next_ascii (P := Tryz.prog) w ⟨#[94, 36, 92, 46, 42, 43, 63, 40, 41, 91, 93, 123, 125, 124, 47]⟩ 1 ty (by decide) (by decide)
    have n2 : ∀ ty, (Instr.next (.pointer (some ⟨w.heap.size, 0, none⟩)) true ty).run Tryz.prog (w.iter ⟨#[94, 36, 92, 46, 42, 43, 63, 40, 41, 91, 93, 123, 125, 124, 47]⟩ 2) = .ok (.tuple #[.bool true, .int .i64 2, .int .i32 92]) (w.iter ⟨#[94, 36, 92, 46, 42, 43, 63, 40, 41, 91, 93, 123, 125, 124, 47]⟩ 3) := fun ty => run_next_ascii (P := Tryz.prog) w ⟨#[94, 36, 92, 46, 42, 43, 63, 40, 41, 91, 93, 123, 125, 124, 47]⟩ 2 ty (by decide) (by decide)
    have n3 : ∀ ty, (Instr.next (.pointer (some ⟨w.heap.size, 0, none⟩)) true ty).run Tryz.prog (w.iter ⟨#[94, 36, 92, 46, 42, 43, 63, 40, 41, 91, 93, 123, 125, 124, 47]⟩ 3) = .ok (.tuple #[.bool true, .int .i64 3, .int .i32 46]) (w.iter ⟨#[94, 36, 92, 46, 42, 43, 63, 40, 41, 91, 93, 123, 125, 124, 47]⟩ 4) := fun ty => run_next_ascii (P := Tryz.prog) w ⟨#[94, 36, 92, 46, 42, 43, 63, 40, 41, 91, 93, 123, 125, 124, 47]⟩ 3 ty (by decide) (by decide)
    have n4 : ∀ ty, (Instr.next (.pointer (some ⟨w.heap.size, 0, none⟩)) true ty).run Tryz.prog (w.iter ⟨#[94, 36, 92, 46, 42, 43, 63, 40, 41, 91, 93, 123, 125, 124, 47]⟩ 4) = .ok (.tuple #[.bool true, .int .i64 4, .int .i32 42]) (w.iter ⟨#[94, 36, 92, 46, 42, 43, 63, 40, 41, 91, 93, 123, 125, 124, 47]⟩ 5) := fun ty => run_next_ascii (P := Tryz.prog) w ⟨#[94, 36, 92, 46, 42, 43, 63, 40, 41, 91, 93, 123, 125, 124, 47]⟩ 4 ty (by decide) (by decide)
    have n5 : ∀ ty, (Instr.next (.pointer (some ⟨w.heap.size, 0, none⟩)) true ty).run Tryz.prog (w.iter ⟨#[94, 36, 92, 46, 42, 43, 63, 40, 41, 91, 93, 123, 125, 124, 47]⟩ 5) = .ok (.tuple #[.bool true, .int .i64 5, .int .i32 43]) (w.iter ⟨#[94, 36, 92, 46, 42, 43, 63, 40, 41, 91, 93, 123, 125, 124, 47]⟩ 6) := fun ty => run_next_ascii (P := Tryz.prog) w ⟨#[94, 36, 92, 46, 42, 43, 63, 40, 41, 91, 93, 123, 125, 124, 47]⟩ 5 ty (by decide) (by decide)
    have n6 : ∀ ty, (Instr.next (.pointer (some ⟨w.heap.size, 0, none⟩)) true ty).run Tryz.prog (w.iter ⟨#[94, 36, 92, 46, 42, 43, 63, 40, 41, 91, 93, 123, 125, 124, 47]⟩ 6) = .ok (.tuple #[.bool true, .int .i64 6, .int .i32 63]) (w.iter ⟨#[94, 36, 92, 46, 42, 43, 63, 40, 41, 91, 93, 123, 125, 124, 47]⟩ 7) := fun ty => run_next_ascii (P := Tryz.prog) w ⟨#[94, 36, 92, 46, 42, 43, 63, 40, 41, 91, 93, 123, 125, 124, 47]⟩ 6 ty (by decide) (by decide)
    have n7 : ∀ ty, (Instr.next (.pointer (some ⟨w.heap.size, 0, none⟩)) true ty).run Tryz.prog (w.iter ⟨#[94, 36, 92, 46, 42, 43, 63, 40, 41, 91, 93, 123, 125, 124, 47]⟩ 7) = .ok (.tuple #[.bool true, .int .i64 7, .int .i32 40]) (w.iter ⟨#[94, 36, 92, 46, 42, 43, 63, 40, 41, 91, 93, 123, 125, 124, 47]⟩ 8) := fun ty => run_next_ascii (P := Tryz.prog) w ⟨#[94, 36, 92, 46, 42, 43, 63, 40, 41, 91, 93, 123, 125, 124, 47]⟩ 7 ty (by decide) (by decide)
    have n8 : ∀ ty, (Instr.next (.pointer (some ⟨w.heap.size, 0, none⟩)) true ty).run Tryz.prog (w.iter ⟨#[94, 36, 92, 46, 42, 43, 63, 40, 41, 91, 93, 123, 125, 124, 47]⟩ 8) = .ok (.tuple #[.bool true, .int .i64 8, .int .i32 41]) (w.iter ⟨#[94, 36, 92, 46, 42, 43, 63, 40, 41, 91, 93, 123, 125, 124, 47]⟩ 9) := fun ty => run_next_ascii (P := Tryz.prog) w ⟨#[94, 36, 92, 46, 42, 43, 63, 40, 41, 91, 93, 123, 125, 124, 47]⟩ 8 ty (by decide) (by decide)
    have n9 : ∀ ty, (Instr.next (.pointer (some ⟨w.heap.size, 0, none⟩)) true ty).run Tryz.prog (w.iter ⟨#[94, 36, 92, 46, 42, 43, 63, 40, 41, 91, 93, 123, 125, 124, 47]⟩ 9) = .ok (.tuple #[.bool true, .int .i64 9, .int .i32 91]) (w.iter ⟨#[94, 36, 92, 46, 42, 43, 63, 40, 41, 91, 93, 123, 125, 124, 47]⟩ 10) := fun ty => run_next_ascii (P := Tryz.prog) w ⟨#[94, 36, 92, 46, 42, 43, 63, 40, 41, 91, 93, 123, 125, 124, 47]⟩ 9 ty (by decide) (by decide)
    have n10 : ∀ ty, (Instr.next (.pointer (some ⟨w.heap.size, 0, none⟩)) true ty).run Tryz.prog (w.iter ⟨#[94, 36, 92, 46, 42, 43, 63, 40, 41, 91, 93, 123, 125, 124, 47]⟩ 10) = .ok (.tuple #[.bool true, .int .i64 10, .int .i32 93]) (w.iter ⟨#[94, 36, 92, 46, 42, 43, 63, 40, 41, 91, 93, 123, 125, 124, 47]⟩ 11) := fun ty => run_next_ascii (P := Tryz.prog) w ⟨#[94, 36, 92, 46, 42, 43, 63, 40, 41, 91, 93, 123, 125, 124, 47]⟩ 10 ty (by decide) (by decide)
    have n11 : ∀ ty, (Instr.next (.pointer (some ⟨w.heap.size, 0, none⟩)) true ty).run Tryz.prog (w.iter ⟨#[94, 36, 92, 46, 42, 43, 63, 40, 41, 91, 93, 123, 125, 124, 47]⟩ 11) = .ok (.tuple #[.bool true, .int .i64 11, .int .i32 123]) (w.iter ⟨#[94, 36, 92, 46, 42, 43, 63, 40, 41, 91, 93, 123, 125, 124, 47]⟩ 12) := fun ty => run_next_ascii (P := Tryz.prog) w ⟨#[94, 36, 92, 46, 42, 43, 63, 40, 41, 91, 93, 123, 125, 124, 47]⟩ 11 ty (by decide) (by decide)
    have n12 : ∀ ty, (Instr.next (.pointer (some ⟨w.heap.size, 0, none⟩)) true ty).run Tryz.prog (w.iter ⟨#[94, 36, 92, 46, 42, 43, 63, 40, 41, 91, 93, 123, 125, 124, 47]⟩ 12) = .ok (.tuple #[.bool true, .int .i64 12, .int .i32 125]) (w.iter ⟨#[94, 36, 92, 46, 42, 43, 63, 40, 41, 91, 93, 123, 125, 124, 47]⟩ 13) := fun ty => run_next_ascii (P := Tryz.prog) w ⟨#[94, 36, 92, 46, 42, 43, 63, 40, 41, 91, 93, 123, 125, 124, 47]⟩ 12 ty (by decide) (by decide)
    have n13 : ∀ ty, (Instr.next (.pointer (some ⟨w.heap.size, 0, none⟩)) true ty).run Tryz.prog (w.iter ⟨#[94, 36, 92, 46, 42, 43, 63, 40, 41, 91, 93, 123, 125, 124, 47]⟩ 13) = .ok (.tuple #[.bool true, .int .i64 13, .int .i32 124]) (w.iter ⟨#[94, 36, 92, 46, 42, 43, 63, 40, 41, 91, 93, 123, 125, 124, 47]⟩ 14) := fun ty => run_next_ascii (P := Tryz.prog) w ⟨#[94, 36, 92, 46, 42, 43, 63, 40, 41, 91, 93, 123, 125, 124, 47]⟩ 13 ty (by decide) (by decide)
    have n14 : ∀ ty, (Instr.next (.pointer (some ⟨w.heap.size, 0, none⟩)) true ty).run Tryz.prog (w.iter ⟨#[94, 36, 92, 46, 42, 43, 63, 40, 41, 91, 93, 123, 125, 124, 47]⟩ 14) = .ok (.tuple #[.bool true, .int .i64 14, .int .i32 47]) (w.iter ⟨#[94, 36, 92, 46, 42, 43, 63, 40, 41, 91, 93, 123, 125, 124, 47]⟩ 15) := fun ty => run_next_ascii (P := Tryz.prog) w ⟨#[94, 36, 92, 46, 42, 43, 63, 40, 41, 91, 93, 123, 125, 124, 47]⟩ 14 ty (by decide) (by decide)
    have n15 : ∀ ty, (Instr.next (.pointer (some ⟨w.heap.size, 0, none⟩)) true ty).run Tryz.prog (w.iter ⟨#[94, 36, 92, 46, 42, 43, 63, 40, 41, 91, 93, 123, 125, 124, 47]⟩ 15) = .ok (.tuple #[.bool false]) (w.iter ⟨#[94, 36, 92, 46, 42, 43, 63, 40, 41, 91, 93, 123, 125, 124, 47]⟩ 15) := fun ty => run_next_end (P := Tryz.prog) w ⟨#[94, 36, 92, 46, 42, 43, 63, 40, 41, 91, 93, 123, 125, 124, 47]⟩ 15 ty (by decide)
    go_enter Tryz.func100, Tryz.ntmps100
    go_wp2_with fail
    refine wp_loop_rounds 16 ?_
    rw [rounds_succ]
    go_wp2
    rw [rounds_succ]
    go_wp2
    rw [rounds_succ]
    go_wp2
    rw [rounds_succ]
    go_wp2
    rw [rounds_succ]
    go_wp2
    rw [rounds_succ]
    go_wp2
    rw [rounds_succ]
    go_wp2
    rw [rounds_succ]
    go_wp2
    rw [rounds_succ]
    go_wp2
    rw [rounds_succ]
    go_wp2
    rw [rounds_succ]
    go_wp2
    rw [rounds_succ]
    go_wp2
    rw [rounds_succ]
    go_wp2
    rw [rounds_succ]
    go_wp2
    rw [rounds_succ]
    go_wp2
    rw [rounds_succ]
    go_wp2
    go_ret
    exact ⟨rfl, vb_a (Below.refl _ _) _⟩

set_option maxHeartbeats 400000 in
theorem contains_b (p : Int) (w : World) (h0 : 0 ≤ p) (h1 : p ≤ 1114111) :
    Calls Tryz.prog 75 #[.string ⟨#[94, 36, 92, 46, 42, 43, 63, 40, 41, 91, 93, 123, 125, 124, 47]⟩, .int .i32 p] w fun e w' => e = .returned (.bool (synS p)) ∧ Below w.heap.size w w' := by
  by_cases hp : p < 128
  · have h := indexRune_lowb p w h0 hp
    have hl := low_b ⟨p.toNat, by omega⟩
    simp only [Int.toNat_of_nonneg h0] at hl
    rw [← hl]
    clear hl
    generalize Lib.indexByte [94, 36, 92, 46, 42, 43, 63, 40, 41, 91, 93, 123, 125, 124, 47] p.toNat.toUInt8 = X at *
    go_enter Tryz.func75, Tryz.ntmps75
    go_wp2_with (go_at_call 100; refine h.mono ?_; rintro e w' ⟨rfl, rfl⟩)
    all_goals
      go_ret
      exact ⟨by first | rfl | (simp [*]; done), Below.refl _ _⟩
  · have h := indexRune_highb p w (by omega) (by omega)
    have hs : synS p = false := by
      cases hc : synS p
      · rfl
      · exfalso
        simp only [synS, List.contains_iff_mem, List.mem_cons, List.not_mem_nil, or_false] at hc
        omega
    rw [hs]
    clear h0 h1 hp hs
    go_enter Tryz.func75, Tryz.ntmps75
    go_wp2_with (go_at_call 100; refine h.mono ?_; rintro e w' ⟨rfl, hb⟩)
    go_ret
    exact ⟨rfl, hb⟩
end Go.Proofs.YtppilokmgdpnnaaGreatDoor
