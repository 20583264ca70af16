/-
  What strings.IndexAny answers at the two signs `:` and `/`, at any bytes. Conditions: less than 2^32 - 16 bytes.
-/
import Derived.Test.YtgmigdfkdioalaaUU6
import Derived.Test.YtgmigdfkdioalaaShelf
import Derived.Laws.RangeAny
import Derived.Laws.RangeString
import Derived.WalkMore
import Derived.Deep.RegionHeld3
namespace Go.Proofs.Ytgmigdfkdioalaa
open Go.RowKit
attribute [local go_sem] setCell_drewN alloc_drewN

theorem get_list (s : ByteArray) (i : Nat) (x : UInt8) (h : s.data.toList[i]? = some x) : s.get! i = x := by
  rw [Array.getElem?_toList] at h
  obtain ⟨hi, e⟩ := Array.getElem?_eq_some_iff.1 h
  show s.data[i]! = x
  rw [getElem!_pos s.data i hi, e]
theorem decode_past (s : ByteArray) (i : Nat) (h : i < s.size) (ha : 128 ≤ (s[i]'h).toNat) : i + (Utf8.decode s i).2 ≤ s.size ∧ ∀ k, k < (Utf8.decode s i).2 → 128 ≤ (s.get! (i + k)).toNat := by
  have h0 : (s.get! (i + 0)) = s[i]'h := by show s.get! i = _; exact get_list s i _ (at_list s i h)
  have hn : ¬ (s[i]'h).toNat < 128 := by omega
  have one : i + 1 ≤ s.size ∧ ∀ k, k < 1 → 128 ≤ (s.get! (i + k)).toNat := by
    refine ⟨h, fun k hk => ?_⟩
    obtain rfl : k = 0 := by omega
    rw [h0]; exact ha
  have ct : ∀ k, (decide (i + k < s.size) && ((s.get! (i + k)).toNat / 64 == 2)) = true → i + k < s.size ∧ 128 ≤ (s.get! (i + k)).toNat := fun k hk => by
    rw [Bool.and_eq_true, decide_eq_true_eq, beq_iff_eq] at hk
    exact ⟨hk.1, by omega⟩
  unfold Utf8.decode
  simp only [h0, hn, if_false]
  split
  · rename_i hc
    rw [Bool.and_eq_true] at hc
    have c1 := ct 1 hc.2
    split
    · refine ⟨by omega, fun k hk => ?_⟩
      rcases (by omega : k = 0 ∨ k = 1) with rfl | rfl
      · rw [h0]; exact ha
      · exact c1.2
    · exact one
  · split
    · rename_i hc
      rw [Bool.and_eq_true, Bool.and_eq_true] at hc
      have c1 := ct 1 hc.1.2
      have c2 := ct 2 hc.2
      split
      · refine ⟨by omega, fun k hk => ?_⟩
        rcases (by omega : k = 0 ∨ k = 1 ∨ k = 2) with rfl | rfl | rfl
        · rw [h0]; exact ha
        · exact c1.2
        · exact c2.2
      · exact one
    · split
      · rename_i hc
        rw [Bool.and_eq_true, Bool.and_eq_true, Bool.and_eq_true] at hc
        have c1 := ct 1 hc.1.1.2
        have c2 := ct 2 hc.1.2
        have c3 := ct 3 hc.2
        split
        · refine ⟨by omega, fun k hk => ?_⟩
          rcases (by omega : k = 0 ∨ k = 1 ∨ k = 2 ∨ k = 3) with rfl | rfl | rfl | rfl
          · rw [h0]; exact ha
          · exact c1.2
          · exact c2.2
          · exact c3.2
        · exact one
      · exact one

/-- A rune's text, if it is one of two bytes or more: the last byte is at least 128. -/
theorem encode_high (r : Int) (h : 128 ≤ r) : 2 ≤ (Utf8.encode r).size ∧ (Utf8.encode r).size ≤ 4 ∧ ∀ k, k + 1 = (Utf8.encode r).size → 128 ≤ bx (Utf8.encode r).data.toList k := by
  have hc : ∃ c : Nat, 128 ≤ c ∧ c ≤ 1114111 ∧ (if Utf8.valid r then r.toNat else Utf8.runeError) = c := by
    refine ⟨_, ?_, ?_, rfl⟩
    · split
      · omega
      · decide
    · split
      · rename_i hv
        simp only [Utf8.valid, Bool.or_eq_true, Bool.and_eq_true, decide_eq_true_eq] at hv
        omega
      · decide
  obtain ⟨c, h1, h2, e⟩ := hc
  have hb : ∀ n : Nat, n < 256 → ((UInt8.ofNat n).toNat : Int) = n := fun n hn => by simp; omega
  unfold Utf8.encode
  simp only [e]
  rw [if_neg (by omega)]
  split
  · refine ⟨Nat.le_refl 2, show 2 ≤ 4 by decide, fun k hk => ?_⟩
    obtain rfl : k = 1 := by have : k + 1 = 2 := hk; omega
    show (128 : Int) ≤ ((UInt8.ofNat (128 + c % 64)).toNat : Int)
    rw [hb _ (by omega)]; omega
  split
  · refine ⟨show 2 ≤ 3 by decide, show 3 ≤ 4 by decide, fun k hk => ?_⟩
    obtain rfl : k = 2 := by have : k + 1 = 3 := hk; omega
    show (128 : Int) ≤ ((UInt8.ofNat (128 + c % 64)).toNat : Int)
    rw [hb _ (by omega)]; omega
  · refine ⟨show 2 ≤ 4 by decide, Nat.le_refl 4, fun k hk => ?_⟩
    obtain rfl : k = 3 := by have : k + 1 = 4 := hk; omega
    show (128 : Int) ≤ ((UInt8.ofNat (128 + c % 64)).toNat : Int)
    rw [hb _ (by omega)]; omega

set_option maxHeartbeats 400000 in
theorem validRune_any (r : Int) (w : World) :
    Calls Try.prog 80 #[.int .i32 r] w fun e w' => e = .returned (.bool (Utf8.valid r)) ∧ w' = w := by
  unfold Utf8.valid
  cases h1 : decide (0 ≤ r) <;> cases h2 : decide (r < 55296) <;> cases h3 : decide (57343 < r) <;> simp only [decide_eq_true_eq, decide_eq_false_iff_not] at h1 h2 h3
  all_goals
    have h4 : decide (57344 ≤ r) = decide (57343 < r) := by rw [decide_eq_decide]; omega
    rw [h4]
    go_enter Try.func80, Try.ntmps80
    go_wp2
    all_goals go_ret
    all_goals exact ⟨by first | (simp [*]; done) | (simp [*]; omega), rfl⟩

theorem conv_rune (r : Int) (w : World) : (convert 21 9 (.int .i32 r)).run Try.prog w = .ok (.string (Utf8.encode r)) w := by
  simp [convert, run_underlying Try.underlying21, run_underlying Try.underlying9, go_sem]
  rfl
/-- The two signs. -/
def cs2 : ByteArray := ⟨#[58, 47]⟩
set_option maxRecDepth 100000 in
set_option maxHeartbeats 800000 in
theorem indexRune_low (x : UInt8) (w : World) (hx : x.toNat < 128) :
    Calls Try.prog 68 #[.string ⟨#[58, 47]⟩, .int .i32 (x.toNat : Int)] w fun e w' => e = .returned (.int .i64 (Lib.indexByte [58, 47] x)) ∧ w' = w := by
  have h := indexByte_any ⟨#[58, 47]⟩ (x.toNat : Int) w
  rw [u8_of] at h
  have h0 : (0 : Int) ≤ (x.toNat : Int) := by omega
  have h1 : (x.toNat : Int) < 128 := by omega
  go_enter Try.func68, Try.ntmps68
  go_wp2_with (go_at_call 57; refine h.mono ?_; rintro e w' ⟨rfl, rfl⟩)
  go_ret
  exact ⟨rfl, rfl⟩

set_option maxRecDepth 100000 in
set_option maxHeartbeats 1600000 in
theorem indexRune_high (r : Int) (w : World) (h0 : 128 ≤ r) (hr : r ≤ 2147483647) :
    Calls Try.prog 68 #[.string ⟨#[58, 47]⟩, .int .i32 r] w fun e w' => e = .returned (.int .i64 (-1)) ∧ Below w.heap.size w w' := by
  have h1 : (0 : Int) ≤ r := by omega
  have h2 : ¬ r < 128 := by omega
  have hv := validRune_any r w
  cases he : (r == 65533)
  · cases hval : Utf8.valid r
    · rw [hval] at hv
      clear h0 hr
      go_enter Try.func68, Try.ntmps68
      go_wp2_with (go_at_call 80; refine hv.mono ?_; rintro e w' ⟨rfl, rfl⟩)
      go_ret
      exact ⟨rfl, Below.refl _ _⟩
    · rw [hval] at hv
      obtain ⟨e1, e2, e3⟩ := encode_high r h0
      have hcv : ∀ w', (convert 21 9 (.int .i32 r)).run Try.prog w' = .ok (.string (Utf8.encode r)) w' := fun w' => conv_rune r w'
      clear h0 hr
      obtain ⟨E, hE⟩ : ∃ E, E = Utf8.encode r := ⟨_, rfl⟩
      rw [← hE] at e1 e2 e3
      simp only [← hE] at hcv
      clear hE
      rcases (by omega : E.size = 2 ∨ E.size = 3 ∨ E.size = 4) with hz | hz | hz
      · have e4 := e3 1 hz.symm
        have hx := bx_at E 1 (by omega)
        generalize bx E.data.toList 1 = y at *
        have hy : ((47 : Int) == y) = false := by rw [beq_eq_false_iff_ne]; omega
        have hc1 : ∀ h, (((⟨#[58, 47]⟩ : ByteArray)[1]'h).toNat : Int) = 47 := fun _ => rfl
        clear e1 e2 e3 e4
        go_enter Try.func68, Try.ntmps68
        go_wp2_with (go_at_call 80; refine hv.mono ?_; rintro e w' ⟨rfl, rfl⟩)
        clear h1 h2 he hval hv
        go_step3
        go_wp2_with fail
        refine wp_loop_rounds 1 ?_
        rw [rounds_succ]
        go_wp2_with fail
        go_step3
        go_wp2_with fail
        go_region
        go_wp2_with fail
        have hI : ∀ w', Calls Try.prog 57 #[.string ⟨#[]⟩, .int .u8 y] w' fun e w2 => e = .returned (.int .i64 (-1)) ∧ w2 = w' := fun w' => indexByte_any ⟨#[]⟩ y w'
        go_region_with (go_at_call 57; refine (hI _).mono ?_; rintro e w2 ⟨rfl, rfl⟩)
        go_wp2_with fail
        all_goals
          rw [Exit.noGoto_ret]
          simp only [Exit.inBlock, Exit.then]
          rw [Exit.noGoto_ret]
          go_ret
          exact ⟨rfl, by with_reducible repeat (first | exact Below.refl _ _ | refine bl_d ?_)⟩
      all_goals
        clear e1 e2 e3
        go_enter Try.func68, Try.ntmps68
        go_wp2_with (go_at_call 80; refine hv.mono ?_; rintro e w' ⟨rfl, rfl⟩)
        clear h1 h2 he hval hv
        go_step3
        go_wp2_with fail
        refine wp_loop_rounds 1 ?_
        rw [rounds_succ]
        go_wp2
        rw [Exit.noGoto_ret]
        go_ret
        exact ⟨rfl, Below.refl _ _⟩
  · have hr2 : r = 65533 := by simpa using he
    subst hr2
    clear h0 hr he hv h1 h2
    have n0 : ∀ ty, (Instr.next (.pointer (some ⟨w.heap.size, 0, none⟩)) true ty).run Try.prog (w.iter ⟨#[58, 47]⟩ 0) = .ok (.tuple #[.bool true, .int .i64 0, .int .i32 58]) (w.iter ⟨#[58, 47]⟩ 1) := fun ty => run_next_ascii (P := Try.prog) w ⟨#[58, 47]⟩ 0 ty (by decide) (by decide)
    have n1 : ∀ ty, (Instr.next (.pointer (some ⟨w.heap.size, 0, none⟩)) true ty).run Try.prog (w.iter ⟨#[58, 47]⟩ 1) = .ok (.tuple #[.bool true, .int .i64 1, .int .i32 47]) (w.iter ⟨#[58, 47]⟩ 2) := fun ty => run_next_ascii (P := Try.prog) w ⟨#[58, 47]⟩ 1 ty (by decide) (by decide)
    have n2 : ∀ ty, (Instr.next (.pointer (some ⟨w.heap.size, 0, none⟩)) true ty).run Try.prog (w.iter ⟨#[58, 47]⟩ 2) = .ok (.tuple #[.bool false]) (w.iter ⟨#[58, 47]⟩ 2) := fun ty => run_next_end (P := Try.prog) w ⟨#[58, 47]⟩ 2 ty (by decide)
    go_enter Try.func68, Try.ntmps68
    go_wp2_with fail
    refine wp_loop_rounds 3 ?_
    rw [rounds_succ]
    go_wp2
    rw [rounds_succ]
    go_wp2
    rw [rounds_succ]
    go_wp2
    go_ret
    exact ⟨rfl, bl_a (Below.refl _ _) _⟩

theorem contains2 (x : UInt8) : ([58, 47] : List UInt8).contains x = decide (0 ≤ Lib.indexByte [58, 47] x) := by
  cases h1 : ((58 : UInt8) == x) <;> cases h2 : ((47 : UInt8) == x)
  all_goals
    have e1 : (x == (58 : UInt8)) = ((58 : UInt8) == x) := by rw [Bool.eq_iff_iff, beq_iff_eq, beq_iff_eq]; exact eq_comm
    have e2 : (x == (47 : UInt8)) = ((47 : UInt8) == x) := by rw [Bool.eq_iff_iff, beq_iff_eq, beq_iff_eq]; exact eq_comm
    simp [Lib.indexByte, List.contains, List.elem, h1, h2, e1, e2]
theorem high_not {x : UInt8} (h : 128 ≤ x.toNat) : ([58, 47] : List UInt8).contains x = false := by
  cases hc : ([58, 47] : List UInt8).contains x
  · rfl
  · rw [List.contains_iff_mem] at hc
    simp only [List.mem_cons, List.not_mem_nil, or_false] at hc
    rcases hc with rfl | rfl <;> exact absurd h (by decide)

/-- The iterator over a text, moved on. -/
def setIter (W : World) (b : Nat) (s : ByteArray) (p : Nat) : World := { W with heap := W.heap.setIfInBounds b (.stringIter s p) }
theorem next_any (W : World) (b : Nat) (s : ByteArray) (pos : Nat) (ty : TypeId) (hb : W.heap[b]? = some (.stringIter s pos)) (h : pos < s.size) :
    (Instr.next (.pointer (some ⟨b, 0, none⟩)) true ty).run Try.prog W = .ok (.tuple #[.bool true, .int .i64 pos, .int .i32 (Utf8.decode s pos).1]) (setIter W b s (pos + (Utf8.decode s pos).2)) := by
  simp only [Instr.next, getObj, setObj, Sem.run_bind, Sem.run, hb, Result.andThen, h, if_true]
  simp [goInt, setIter]
theorem next_end (W : World) (b : Nat) (s : ByteArray) (pos : Nat) (ty : TypeId) (hb : W.heap[b]? = some (.stringIter s pos)) (h : ¬ pos < s.size) :
    (Instr.next (.pointer (some ⟨b, 0, none⟩)) true ty).run Try.prog W = .ok (.tuple #[.bool false]) W := by
  simp [Instr.next, getObj, Sem.run, hb, h]
theorem setIter_below {w W : World} (h : Below w.heap.size w W) (s : ByteArray) (p : Nat) : Below w.heap.size w (setIter W w.heap.size s p) :=
  ⟨h.os, h.tape, h.output, by show _ ≤ (W.heap.setIfInBounds _ _).size; rw [Array.size_setIfInBounds]; exact h.size, fun i hi => by
    show (W.heap.setIfInBounds w.heap.size _)[i]? = _
    rw [Array.getElem?_setIfInBounds_ne (by omega)]
    exact h.block i hi⟩
theorem setIter_at {W : World} {b : Nat} {s : ByteArray} {q : Nat} (h : W.heap[b]? = some (.stringIter s q)) (p : Nat) : (setIter W b s p).heap[b]? = some (.stringIter s p) := by
  show (W.heap.setIfInBounds b _)[b]? = _
  rw [Array.getElem?_setIfInBounds_self_of_lt (Array.getElem?_eq_some_iff.1 h).1]
theorem iterPos_at {W : World} {b : Nat} {s : ByteArray} {p : Nat} (h : W.heap[b]? = some (.stringIter s p)) : W.iterPos b = p := by simp [World.iterPos, h]

set_option maxRecDepth 100000 in
set_option maxHeartbeats 1600000 in
theorem indexAny_short (s : ByteArray) (w : World) (h8 : s.size ≤ 8) :
    Calls Try.prog 55 #[.string s, .string ⟨#[58, 47]⟩] w fun e w' => e = .returned (.int .i64 (Lib.indexAny s.data.toList [58, 47])) ∧ Below w.heap.size w w' := by
  have hl := len_of s
  have h8z : decide ((8 : Int) < (s.size : Int)) = false := decide_eq_false (by omega)
  have hsh : ∀ w', Calls Try.prog 69 #[.int .i64 (s.size : Int)] w' fun e w2 => e = .returned (.bool false) ∧ w2 = w' := fun w' => by
    have := Try.strings_shouldUseASCIISet (s.size : Int) w'
    rw [h8z] at this
    exact this
  clear h8z
  go_enter Try.func55, Try.ntmps55
  go_wp2_with (go_at_call 69; refine (hsh _).mono ?_; rintro e w' ⟨rfl, rfl⟩)
  clear hsh
  rename World => w
  go_loopw [9, 10] (fun _ _ wr => ∃ i : Nat, i ≤ s.size ∧ wr.heap[w.heap.size]? = some (.stringIter s i) ∧ Below w.heap.size w wr ∧ Hid (Lib.NoAny s.data.toList [58, 47] i)) (fun _ _ wr => s.size - wr.iterPos w.heap.size)
  case atStart => exact ⟨0, by omega, World.iter_heap w s 0, bl_a (Below.refl _ _) _, Lib.NoAny.zero _ _⟩
  case round =>
    obtain ⟨i, hi, hit, hbel, HN⟩ := hrel
    by_cases hlt : i < s.size
    · have hnx := fun ty => next_any wr w.heap.size s i ty hit hlt
      have hps := iterPos_at hit
      obtain ⟨x, hx⟩ : ∃ x, s.data.toList[i]? = some x := ⟨_, at_list s i hlt⟩
      have hxs : s[i]'hlt = x := by have := at_list s i hlt; rw [hx] at this; exact (Option.some.inj this).symm
      by_cases hlo : x.toNat < 128
      · have hd := decode_ascii s i hlt (by rw [hxs]; exact hlo)
        rw [hxs] at hd
        rw [hd] at hnx
        simp only at hnx
        have hit2 := setIter_at hit (i + 1)
        have hbel2 := setIter_below hbel s (i + 1)
        have hps2 := iterPos_at hit2
        have hir := fun w' => indexRune_low x w' hlo
        have hcn := contains2 x
        generalize Lib.indexByte [58, 47] x = y at *
        generalize setIter wr w.heap.size s (i + 1) = W2 at *
        cases hc : ([58, 47] : List UInt8).contains x
        · have hy : ¬ (0 : Int) ≤ y := by rw [hc] at hcn; exact of_decide_eq_false hcn.symm
          have HN2 : Hid (Lib.NoAny s.data.toList [58, 47] (i + 1)) := HN.out.succ hx hc
          clear hcn hc hd HN hx hxs hit hbel
          go_wp2_with (go_at_call 68; refine (hir _).mono ?_; rintro e w2 ⟨rfl, rfl⟩)
          go_roundw
          case rel => exact ⟨i + 1, by omega, hit2, hbel2, HN2⟩
          case measure => rw [hps, hps2]; omega
        · have hy : (0 : Int) ≤ y := by rw [hc] at hcn; exact of_decide_eq_true hcn.symm
          have HE : Hid (Lib.indexAny s.data.toList [58, 47] = (i : Int)) := Lib.indexAny_hit HN.out hx hc
          clear hcn hc hd HN hx hxs hit hbel
          go_wp2_with (go_at_call 68; refine (hir _).mono ?_; rintro e w2 ⟨rfl, rfl⟩)
          go_ret
          exact ⟨ret_int HE.out.symm, hbel2⟩
      · have hhi : 128 ≤ (s[i]'hlt).toNat := by rw [hxs]; omega
        obtain ⟨d1, d2⟩ := decode_high s i hlt hhi
        have d3 := decode_le s i
        obtain ⟨d4, d5⟩ := decode_past s i hlt hhi
        have HN2 : Hid (Lib.NoAny s.data.toList [58, 47] (i + (Utf8.decode s i).2)) := by
          show Lib.NoAny _ _ _
          intro j b hj hb
          by_cases hji : j < i
          · exact HN.out j b hji hb
          · have e : j = i + (j - i) := by omega
            have := d5 (j - i) (by omega)
            rw [← e, get_list s j b hb] at this
            exact high_not this
        obtain ⟨⟨r, n⟩, hrn⟩ : ∃ t, t = Utf8.decode s i := ⟨_, rfl⟩
        rw [← hrn] at d1 d2 d3 d4 HN2 hnx
        simp only at d1 d2 d3 d4 HN2 hnx
        have hit2 := setIter_at hit (i + n)
        have hbel2 := setIter_below hbel s (i + n)
        have hir := fun w' => indexRune_high (r : Int) w' (by omega) (by omega)
        generalize setIter wr w.heap.size s (i + n) = W2 at *
        clear d5 hrn HN hx hxs hit hbel hhi hlo d1 d3
        go_wp2_with (go_at_call 68; refine (hir _).mono ?_; rintro e w2 ⟨rfl, hb2⟩)
        have hlt2 : w.heap.size < W2.heap.size := (Array.getElem?_eq_some_iff.1 hit2).1
        have hit3 : w2.heap[w.heap.size]? = some (.stringIter s (i + n)) := by rw [hb2.block _ hlt2]; exact hit2
        have hps3 := iterPos_at hit3
        go_roundw
        case rel => exact ⟨i + n, d4, hit3, bl_t hbel2 hb2, HN2⟩
        case measure => rw [hps, hps3]; omega
    · have hnx := fun ty => next_end wr w.heap.size s i ty hit hlt
      have e : i = s.size := by omega
      have HE : Hid (Lib.indexAny s.data.toList [58, 47] = -1) := by
        show _ = _
        refine Lib.indexAny_none ?_
        rw [hl, ← e]
        exact HN.out
      clear e
      clear HN hit
      go_wp2
      go_ret
      exact ⟨ret_int HE.out.symm, hbel⟩

theorem indexAny_any (s : ByteArray) (w : World) (hs : s.size < 4294967281) :
    Calls Try.prog 55 #[.string s, .string ⟨#[58, 47]⟩] w fun e w' => e = .returned (.int .i64 (Lib.indexAny s.data.toList [58, 47])) ∧ Below w.heap.size w w' := by
  by_cases h8 : s.size ≤ 8
  · exact indexAny_short s w h8
  · refine (Try.strings_IndexAny_long (zero_of_info (n := 256) (by kernel_rfl)).1 s ⟨#[58, 47]⟩ w (by decide) (by omega) hs (by decide) ?_).mono fun e w' ⟨h1, h2⟩ => ⟨h1, ?_⟩
    · intro j b hj
      have hm := List.mem_of_getElem? hj
      simp only [List.mem_cons, List.not_mem_nil, or_false] at hm
      rcases hm with rfl | rfl <;> decide
    · rw [h2]; exact bl_a (bl_a (Below.refl _ _) _) _
end Go.Proofs.Ytgmigdfkdioalaa
