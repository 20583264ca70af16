/-
  What nat.written and nat.Text answer: a number's digits. Conditions: at most 10^12 limbs; the library's table of powers of ten as the program lays it.
-/
import Derived.Test.YtpgdabpohbmodaaDoorFUn
import Derived.Test.YtpgdabpohbmodaaDoorW0
import Derived.Test.YtpgdabpohbmodaaDoorNZ
import Derived.Test.YtpgdabpohbmodaaDoorNA
namespace Go.Proofs.YtpgdabpohbmodaaDoor
open Go.RowKit Go.Sort
attribute [local go_sem] setCell_drewN alloc_drewN

theorem repeat_zero (c : Nat) : Lib.repeatL [48] c = List.replicate c (48 : UInt8) := by
  have := Lib.repeatL_replicate 48 1 c
  simpa using this

set_option maxRecDepth 100000 in
set_option maxHeartbeats 3200000 in
theorem nwritten_any (v : Value) (n : Nat) (f : Nat → Int) (w : World) (hR : Row w v n f) (hC : Limbs n f) (hn : n ≤ 1000000000000) (ht : Lib.TabIs Tryd.prog w "internal/strconv.uint64pow10" .u64 Lib.pow10Tab) :
    Calls Tryd.prog 17 #[v] w fun e w' => e = .returned (.string (bs (textN f n))) ∧ Below w.heap.size w w' := by
  by_cases h0 : n = 0
  · obtain ⟨a, cap, rfl, _⟩ := hR.shape
    subst h0
    clear hR hC ht
    go_enter Tryd.func17, Tryd.ntmps17
    go_wp2
    go_ret
    exact ⟨rfl, Below.refl _ _⟩
  · obtain ⟨b, off, cap, rfl, hc, hm, hL⟩ := hR.lies (by omega)
    have n0 : ((n : Int) == 0) = false := beq_eq_false_iff_ne.2 (by omega)
    have n1 : (1 : Int) ≤ (n : Int) := by omega
    have n2 : (n : Int) ≤ 1000000000000 := by omega
    have HT : Hid (textN f n = txd f n n) := if_neg h0
    have HL : Hid (Row w (.slice (some ⟨b, off, none⟩) n cap) n f) := hR
    have HC : Hid (Limbs n f) := hC
    have HB0 : Hid (BB w.heap.size (txd f n (n - n)) (w.alloc (.cells #[.pointer none, .slice none 0 0] 49))) := by
      rw [Nat.sub_self]; exact bb_fresh w
    obtain ⟨SS, hSS⟩ : ∃ SS, bs (textN f n) = SS := ⟨_, rfl⟩
    rw [hSS]
    have HSS : Hid (bs (textN f n) = SS) := hSS
    clear hR hC hL h0 hSS
    go_enter Tryd.func17, Tryd.ntmps17
    go_wp2_with fail
    go_loopw [4] (fun i wx => ∃ k : Nat, k ≤ n ∧ i = .int .i64 ((k : Int) - 1) ∧ Hid (BB w.heap.size (txd f n (n - k)) wx) ∧ Hid (Below w.heap.size w wx)) (fun i _ => (intOf i + 1).toNat)
    case atStart => exact ⟨n, Nat.le_refl _, rfl, HB0.out, bl_a (Below.refl _ _) _⟩
    case round =>
      clear HB0
      obtain ⟨k, hk, rfl, HB, HW⟩ := hrel
      by_cases hk0 : 0 < k
      · obtain ⟨i, rfl⟩ : ∃ i, k = i + 1 := ⟨k - 1, by omega⟩
        have i0 : ((i + 1 : Nat) : Int) - 1 = (i : Int) := by omega
        have i1 : (0 : Int) ≤ (i : Int) := by omega
        have i2 : (i : Int) < (n : Int) := by omega
        obtain ⟨hu9, hue⟩ := limb_nat HC.out (show i < n by omega)
        obtain ⟨u, hu⟩ : ∃ u, (f i).toNat = u := ⟨_, rfl⟩
        rw [hu] at hu9 hue
        have hlies := (HL.out.below HW.out)
        rcases hlies with ⟨hz, _⟩ | ⟨b', off', cap', e, _, _, hL⟩
        · omega
        injection e with e1 _ e3
        injection e1 with e1
        injection e1 with e1 e2 _
        subst e1 e2 e3
        have hcell := hL.cell i (by omega)
        rw [← hue] at hcell
        clear hL
        have hlen := txd_len HC.out (n - (i + 1)) (by omega)
        have hpiece : Hid (txd f n (n - i) = txd f n (n - (i + 1)) ++ (if i + 1 = n then Lib.decDigits u else pad9 u)) := by
          obtain ⟨d, hd⟩ : ∃ d, n - (i + 1) = d := ⟨_, rfl⟩
          rw [hd, show n - i = d + 1 by omega, txd]
          by_cases hz : d = 0
          · rw [if_pos hz, if_pos (by omega), show n - 1 = i by omega, hu]; exact rfl
          · rw [if_neg hz, if_neg (by omega), show n - 1 - d = i by omega, hu]; exact rfl
        have hF := fun w ht => formatUint u (by omega) w ht
        have hS9 := digits9 hu9
        have hS1 := digits1 u
        have hSl : (⟨(Lib.decDigits u).toArray⟩ : ByteArray).data.toList = Lib.decDigits u := by simp
        have hSs : (⟨(Lib.decDigits u).toArray⟩ : ByteArray).size = (Lib.decDigits u).length := by simp [ByteArray.size]
        obtain ⟨S, hSe⟩ : ∃ S, (⟨(Lib.decDigits u).toArray⟩ : ByteArray) = S := ⟨_, rfl⟩
        rw [hSe] at hF hSl hSs
        rw [← hSs] at hS9 hS1
        clear hSe
        have HSl : Hid (S.data.toList = Lib.decDigits u) := hSl
        have HSs : Hid (S.size = (Lib.decDigits u).length) := hSs
        have huI : (u : Int) < 1000000000 := by omega
        clear hSl hSs hue hu hu9
        have hl2 : (txd f n (n - (i + 1))).length + 9 ≤ 140737488355328 := by omega
        clear hlen
        generalize txd f n (n - (i + 1)) = l at *
        go_wp2_with fail
        refine (hF _ (tab_below ht HW.out)).mono ?_
        rintro e w1 ⟨rfl, hb1⟩
        have HB1 : Hid (BB w.heap.size l w1) := HB.out.below hb1
        have HW1 : Hid (Below w.heap.size w w1) := bl_t HW.out hb1
        clear hcell hF hb1
        by_cases hlast : i + 1 = n
        · have hd1 : decide ((i : Int) < (n : Int) - 1) = false := decide_eq_false (by omega)
          have hs2 := wstr w.heap.size l S w1 HB1.out (by omega)
          have HLa : Hid (i + 1 = n) := hlast
          clear hlast
          go_wp2_with fail
          refine hs2.mono ?_
          rintro e w4 ⟨rfl, hB4, hb4⟩
          have HB4 : Hid (BB w.heap.size (txd f n (n - i)) w4) := by
            have := hB4
            rw [HSl.out] at this
            show BB _ _ _
            rw [hpiece.out, if_pos HLa.out]
            exact this
          have HW4 : Hid (Below w.heap.size w w4) := HW1.out.trans hb4
          clear hs2 hB4 hb4 hd1
          go_wp2
          go_roundw
          case rel => exact ⟨i, by omega, by go_num, HB4.out, HW4.out⟩
          case measure => simp [intOf] <;> omega
        · have hd1 : (i : Int) < (n : Int) - 1 := by omega
          obtain ⟨c, hc9⟩ : ∃ c : Nat, (9 : Int) - (S.size : Int) = (c : Int) := ⟨9 - S.size, by omega⟩
          have hcs : c = 9 - S.size := by omega
          have hr := fun w => Tryd.strings_Repeat ⟨#[48]⟩ c w (by omega) (by show 1 * c ≤ _; omega)
          have hRl : (⟨(Lib.repeatL (⟨#[48]⟩ : ByteArray).data.toList c).toArray⟩ : ByteArray).data.toList = List.replicate c 48 := by
            show (Lib.repeatL [48] c).toArray.toList = _
            rw [repeat_zero]
          have hRs : (⟨(Lib.repeatL (⟨#[48]⟩ : ByteArray).data.toList c).toArray⟩ : ByteArray).size = c := by
            show (Lib.repeatL [48] c).toArray.size = c
            rw [List.size_toArray, repeat_zero, List.length_replicate]
          obtain ⟨R, hRe⟩ : ∃ R, (⟨(Lib.repeatL (⟨#[48]⟩ : ByteArray).data.toList c).toArray⟩ : ByteArray) = R := ⟨_, rfl⟩
          rw [hRe] at hRl hRs
          have hr2 : ∀ w, Calls Tryd.prog 23 #[.string ⟨#[48]⟩, .int .i64 (c : Int)] w fun e w' => e = .returned (.string R) ∧ Below w.heap.size w w' := fun w => by
            rw [← hRe]; exact hr w
          have HR : Hid (R.data.toList = List.replicate c 48) := hRl
          have hRz : R.size ≤ 9 := by omega
          have HRz : Hid (R.size = c) := hRs
          have HCS : Hid (c = 9 - S.size) := hcs
          clear hr hRl hRs hRe hcs
          go_wp2_with fail
          refine (hr2 _).mono ?_
          rintro e w2 ⟨rfl, hb2⟩
          have hs1 := wstr w.heap.size l R w2 (HB1.out.below hb2) (by omega)
          have HW2 : Hid (Below w.heap.size w w2) := bl_t HW1.out hb2
          clear hr2 hb2
          go_wp2_with fail
          refine hs1.mono ?_
          rintro e w3 ⟨rfl, hB3, hb3⟩
          have hs2 := wstr w.heap.size (l ++ R.data.toList) S w3 hB3 (by rw [List.length_append, HR.out, List.length_replicate, HCS.out]; omega)
          have HW3 : Hid (Below w.heap.size w w3) := HW2.out.trans hb3
          clear hs1 hb3 hB3
          go_wp2_with fail
          refine hs2.mono ?_
          rintro e w4 ⟨rfl, hB4, hb4⟩
          have HB4 : Hid (BB w.heap.size (txd f n (n - i)) w4) := by
            have := hB4
            rw [HSl.out, HR.out, HCS.out, HSs.out, List.append_assoc] at this
            show BB _ _ _
            rw [hpiece.out, if_neg hlast]
            exact this
          have HW4 : Hid (Below w.heap.size w w4) := HW3.out.trans hb4
          clear hs2 hB4 hb4 hc9
          go_wp2
          go_roundw
          case rel => exact ⟨i, by omega, by go_num, HB4.out, HW4.out⟩
          case measure => simp [intOf] <;> omega
      · obtain rfl : k = 0 := by omega
        have hs := bstr w.heap.size _ wr HB.out
        rw [Nat.sub_zero, ← HT.out, HSS.out] at hs
        go_wp2_with fail
        refine hs.mono ?_
        rintro e w5 ⟨rfl, hb5⟩
        go_wp2
        go_ret
        exact ⟨rfl, HW.out.trans hb5⟩

set_option maxRecDepth 100000 in
set_option maxHeartbeats 800000 in
theorem ntext_ok (v : Value) (n : Nat) (f : Nat → Int) (w : World) (hR : Row w v n f) (hC : Can n f) (hn : n ≤ 1000000000000) (ht : Lib.TabIs Tryd.prog w "internal/strconv.uint64pow10" .u64 Lib.pow10Tab) :
    Calls Tryd.prog 7 #[v] w fun e w' => e = .returned (.tuple #[.string (bs (textN f n)), .int .i64 0]) ∧ Below w.heap.size w w' := by
  have h1 := check_ok v n f w hR hC
  have h2 := nwritten_any v n f w hR hC.1 hn ht
  obtain ⟨a, cap, rfl, _⟩ := hR.shape
  clear hR hC ht
  generalize bs (textN f n) = S at *
  go_enter Tryd.func7, Tryd.ntmps7
  go_wp2_with fail
  refine h1.mono ?_
  rintro e w1 ⟨rfl, rfl⟩
  go_wp2_with fail
  refine h2.mono ?_
  rintro e w2 ⟨rfl, hb⟩
  go_wp2
  go_ret2
  exact ⟨rfl, hb⟩

set_option maxRecDepth 100000 in
set_option maxHeartbeats 800000 in
theorem ntext_bad (v : Value) (n : Nat) (f : Nat → Int) (w : World) (hR : Row w v n f) (hC : ¬ Can n f) :
    Calls Tryd.prog 7 #[v] w fun e w' => e = .returned (.tuple #[.string ⟨#[]⟩, .int .i64 2]) ∧ Below w.heap.size w w' := by
  have h1 := check_bad v n f w hR hC
  obtain ⟨a, cap, rfl, _⟩ := hR.shape
  clear hR hC
  go_enter Tryd.func7, Tryd.ntmps7
  go_wp2_with fail
  refine h1.mono ?_
  rintro e w1 ⟨rfl, rfl⟩
  go_wp2
  go_ret2
  exact ⟨rfl, Below.refl _ _⟩
end Go.Proofs.YtpgdabpohbmodaaDoor
